/-
  The walk of PolicyBack. (Written by gen_pback.py.)
-/
import Derived.Test.YtjjgecnnginnpaaPolAlive
namespace Go.Proofs.Ytjjgecnnginnpaa.Policy
open Go.RowKit Go.Proofs.Ytjjgecnnginnpaa.Mem Go.Proofs.Ytjjgecnnginnpaa.Addr
set_option maxRecDepth 100000

theorem same_nums {p q : Po} (hp : rightP p = true) (hq : rightP q = true) : decide (numsP p = numsP q) = eqB p q := by
  rw [nums_right hp, nums_right hq]
  cases h : eqB p q with
  | true => rw [eqB_iff.1 h]; simp
  | false => exact decide_eq_false fun e => by rw [eqB_iff.2 (nums_inj e)] at h; cases h
/-- The law's last question: the policy of any numbers, there and back. -/
theorem isP_back {l : List Int} (h : isP l = true) (h0 : ∀ x ∈ l, Word x) : ofP l = asP l ∧ ofE l = 0 ∧ rightP (asP l) = true ∧ numsP (asP l) = l := by
  obtain ⟨h1, h2, h3⟩ := isP_iff.1 h
  refine ⟨by unfold ofP; rw [if_pos h], by unfold ofE; rw [if_pos h], h3, ?_⟩
  rw [nums_right h3, nums_asP h1 fun c hc => (h0 c hc).1]
set_option maxHeartbeats 8000000 in
theorem back_main (p q : Po) (hp : PoOk p) (hq : PoOk q) (qa : Option Addr) (n c : Nat) (xs : List Int) (hl : xs.length = n) (hn : ¬ 100 < n) (w : World) (r : Reads .u64 w qa c xs) (ho : ∀ x ∈ xs, Word x) :
    Calls Try.prog 6 #[pv p, pv q, .slice qa n c] w fun e w' => e = .returned (.bool true) ∧ Below w.heap.size w w' := by
  have ha := fun W => alive_any W
  have h100i : decide ((100 : Int) < (n : Int)) = false := decide_eq_false (by omega)
  have hn1 := fun W => policy_Nums p hp W
  have hn2 := fun W => policy_Nums q hq W
  have hr1 := fun W => policy_Right p hp W
  have hr2 := fun W => policy_Right q hq W
  have hO1 := fun {W : World} {q1 c1} (r1 : Reads .u64 W q1 c1 (numsP p)) => policy_Of q1 (numsP p).length c1 (numsP p) rfl W r1 (nums_word hp)
  have hsm := fun {W : World} {q1 q2 c1 c2} (r1 : Reads .u64 W q1 c1 (numsP p)) (r2 : Reads .u64 W q2 c2 (numsP q)) => ref_SameList q1 q2 (numsP p).length (numsP q).length c1 c2 (numsP p) (numsP q) rfl rfl W r1 r2
  have hO2 := fun {W : World} (r1 : Reads .u64 W qa c xs) => policy_Of qa n c xs hl W r1 ho
  have hPok : PoOk (ofP xs) := of_ok xs ho
  have hn3 := fun W => policy_Nums (ofP xs) hPok W
  have hr3 := fun W => policy_Right (ofP xs) hPok W
  have hsl := fun {W : World} {q1 c1} (r1 : Reads .u64 W q1 c1 (numsP (ofP xs))) (r2 : Reads .u64 W qa c xs) => ref_SameList q1 qa (numsP (ofP xs)).length n c1 c (numsP (ofP xs)) xs rfl hl W r1 r2
  have hend : Hid (ofE xs = 111 ∨ (ofE xs = 0 ∧ rightP (ofP xs) = true ∧ numsP (ofP xs) = xs)) := by
    cases h : isP xs with
    | false => exact .inl (by unfold ofE; rw [h]; rfl)
    | true =>
      obtain ⟨h1, h2, h3, h4⟩ := isP_back h ho
      rw [h1]
      exact .inr ⟨h2, h3, h4⟩
  generalize ofE xs = E2 at hO2 hend
  generalize ofP xs = P2 at hO2 hend hn3 hr3 hsl hPok
  cases hR : rightP p with
  | false =>
    have e1 : ofP (numsP p) = zeroP ∧ ofE (numsP p) = 111 := by rw [nums_wrong hR]; exact ⟨rfl, rfl⟩
    rw [e1.1, e1.2] at hO1
    rw [hR] at hr1
    clear e1 hR
    go_enter Try.func6, Try.ntmps6
    go_wp2_with (first
      | ((fail_if_success (have _ := hX1)); (refine at_box_po _ p (by rfl) (by rfl) (by rfl) ?_); intro V1 hX1 hB1 hz1)
      | ((fail_if_success (have _ := hY2)); (have _ := hX1); (refine at_box_po _ q (by rfl) (by rfl) (by rfl) ?_); intro V2 hY2 hB2 hz2; have hX2 := hX1.below hB2)
      | ((fail_if_success (have _ := hB3)); (have _ := hY2); (with_reducible refine (ha _).mono ?_); rintro e w3 ⟨rfl, hB3⟩; have hX3 := hX2.below hB3; have hY3 := hY2.below hB3; have hB13 := bnext (bnext hB1 hB2) hB3)
      | ((fail_if_success (have _ := hB4)); (have _ := hB3); (refine at_load_po _ _ p (by rfl) (by rfl) hX3 (by rfl) ?_))
      | ((fail_if_success (have _ := hB4)); (have _ := hB3); (with_reducible refine (hn1 _).mono ?_); rintro e w4 ⟨q4, c4, rfl, r4, hB4, -⟩; have hX4 := hX3.below hB4; have hY4 := hY3.below hB4; have hB14 := bnext hB13 hB4)
      | ((fail_if_success (have _ := hB5)); (have _ := hB4); (with_reducible refine (hO1 r4).mono ?_); rintro e w5 ⟨rfl, hB5⟩; have hX5 := hX4.below hB5; have hY5 := hY4.below hB5; have hB15 := bnext hB14 hB5)
      | ((fail_if_success (have _ := hZ6)); (have _ := hB5); (refine at_alloc_po (by rfl) (by rfl) ?_); intro V6 hZ6 hB6 hz6)
      | ((fail_if_success (have _ := hZ7)); (have _ := hZ6); (refine at_store_po _ _ _ _ _ (by rfl) (by rfl) (by rfl) hZ6 rfl (by rfl) ?_); intro V7 hZ7 hg7 hz7; have hB7 := hB6.grown hg7 hB6.size (by simp); have hX7 := hX5.below hB7; have hY7 := hY5.below hB7; have hB17 := bnext hB15 hB7)
      | ((fail_if_success (have _ := hB8)); (have _ := hZ7); (refine at_load_po _ _ p (by rfl) (by rfl) hX7 (by rfl) ?_))
      | ((fail_if_success (have _ := hB8)); (have _ := hZ7); (with_reducible refine (hr1 _).mono ?_); rintro e w8 ⟨rfl, hB8⟩; have hX8 := hX7.below hB8; have hY8 := hY7.below hB8; have hZ8 := hZ7.below hB8; have hB18 := bnext hB17 hB8))
    refine Inv.region_inv (fun L a w' => a = { tmps := #[(pv p), (pv q), (Value.slice qa n c), (Value.pointer (some { block := w.heap.size, off := 0 })), (Value.pointer (some { block := V1.heap.size, off := 0 })), undef, (Value.bool false), (Value.pointer (some { block := w5.heap.size, off := 0 })), (Value.int IntKind.i64 111), undef, undef, (Value.bool true), (Value.bool false), (Value.slice qa n c), (Value.int IntKind.i64 ↑n), (Value.bool false), (Value.tuple #[pv zeroP, Value.int IntKind.i64 111]), (pv p), (Value.slice q4 (numsP p).length c4), (Value.tuple #[pv zeroP, Value.int IntKind.i64 111]), (pv zeroP), (Value.int IntKind.i64 111), (pv p), (Value.bool false), (Value.int IntKind.i64 111), (Value.bool false), (Value.bool false), (Value.bool false), (Value.int IntKind.i64 111), (Value.bool false), (Value.bool false), undef, undef, undef, (Value.bool false), (Value.bool false), (if L 0 = true then (pv p) else undef), (if L 1 = true then (.bool false) else undef), (if L 2 = true then (.bool false) else undef), undef, undef, (if L 5 = true then (.bool false) else undef), (if L 6 = true then (.bool false) else undef), undef, undef, undef, undef, undef, undef, undef, undef, undef, (if L 16 = true then (.bool false) else undef), undef, undef, undef, undef, undef, undef, undef, undef, undef, undef, undef, undef, undef, undef, undef, undef, undef], defers := [] } ∧ (Blk w' w.heap.size 28 (pl p) ∧ Blk w' V1.heap.size 28 (pl q) ∧ Below w.heap.size w w')) (by kernel_rfl) (by kernel_rfl) ?h0 ?step ?done
    case h0 => exact ⟨by simp, hX8.drew, hY8.drew, hB18.drew⟩
    case step =>
      refine Inv.Steps.cons rfl ?_ ?_
      · intro L a w' hI hL hd K hK
        obtain ⟨rfl, hI⟩ := hI
        clear hd
        rw [if_pos (by rfl)]
        refine wp_load_po _ _ _ (by rfl) (by rfl) hI.1 ?_
        exact hK.out _ _ ⟨by simp [Act.put], by simpa using hI⟩
      refine Inv.Steps.cons rfl ?_ ?_
      · intro L a w' hI hL hd K hK
        obtain ⟨rfl, hI⟩ := hI
        simp [Region.binds] at hd
        simp only [hd, if_true]
        rw [if_pos (by rfl)]
        go_simp
        refine (hr1 _).mono ?_
        rintro e w11 ⟨rfl, hB11⟩
        exact hK.out _ _ ⟨by simp [hd], hI.1.below hB11, hI.2.1.below hB11, bnext hI.2.2 hB11⟩
      refine Inv.Steps.cons rfl ?_ ?_
      · intro L a w' hI hL hd K hK
        obtain ⟨rfl, hI⟩ := hI
        simp [Region.binds] at hd
        simp only [hd, if_true]
        rw [if_pos (by rfl)]
        go_simp
        exact hK.out _ _ ⟨by simp [hd], by simpa using hI⟩
      refine Inv.Steps.cons rfl ?_ ?_
      · intro L a w' hI hL hd K hK
        obtain ⟨rfl, hI⟩ := hI
        simp [Region.binds] at hd
        simp only [hd, if_true]
        rw [if_neg (Bool.eq_false_iff.1 (by rfl))]
        exact hK.out _ _ ⟨by simp [hd, Act.put], by simpa using hI⟩
      refine Inv.Steps.cons rfl ?_ ?_
      · intro L a w' hI hL hd K hK
        obtain ⟨rfl, hI⟩ := hI
        simp [Region.binds] at hd
        simp only [hd, if_true]
        rw [if_neg (Bool.eq_false_iff.1 (by rfl))]
        exact hK.out _ _ ⟨by simp [hd, Act.put], by simpa using hI⟩
      refine Inv.Steps.cons rfl ?_ ?_
      · intro L a w' hI hL hd K hK
        obtain ⟨rfl, hI⟩ := hI
        simp [Region.binds] at hd
        simp only [hd, if_true]
        rw [if_pos (by rfl)]
        go_simp
        exact hK.out _ _ ⟨by simp [hd], by simpa using hI⟩
      refine Inv.Steps.cons rfl ?_ ?_
      · intro L a w' hI hL hd K hK
        obtain ⟨rfl, hI⟩ := hI
        simp [Region.binds] at hd
        simp only [hd, if_true]
        rw [if_pos (by rfl)]
        go_simp
        exact hK.out _ _ ⟨by simp [hd], by simpa using hI⟩
      refine Inv.Steps.cons rfl ?_ ?_
      · intro L a w' hI hL hd K hK
        obtain ⟨rfl, hI⟩ := hI
        simp [Region.binds] at hd
        simp only [hd, if_true]
        rw [if_neg (Bool.eq_false_iff.1 (by rfl))]
        exact hK.out _ _ ⟨by simp [hd, Act.put], by simpa using hI⟩
      refine Inv.Steps.cons rfl ?_ ?_
      · intro L a w' hI hL hd K hK
        obtain ⟨rfl, hI⟩ := hI
        simp [Region.binds] at hd
        simp only [hd, if_true]
        rw [if_neg (Bool.eq_false_iff.1 (by rfl))]
        exact hK.out _ _ ⟨by simp [hd, Act.put], by simpa using hI⟩
      refine Inv.Steps.cons rfl ?_ ?_
      · intro L a w' hI hL hd K hK
        obtain ⟨rfl, hI⟩ := hI
        simp [Region.binds] at hd
        simp only [hd, if_true]
        rw [if_neg (Bool.eq_false_iff.1 (by rfl))]
        exact hK.out _ _ ⟨by simp [hd, Act.put], by simpa using hI⟩
      refine Inv.Steps.cons rfl ?_ ?_
      · intro L a w' hI hL hd K hK
        obtain ⟨rfl, hI⟩ := hI
        simp [Region.binds] at hd
        simp only [hd, if_true]
        rw [if_neg (Bool.eq_false_iff.1 (by rfl))]
        exact hK.out _ _ ⟨by simp [hd, Act.put], by simpa using hI⟩
      refine Inv.Steps.cons rfl ?_ ?_
      · intro L a w' hI hL hd K hK
        obtain ⟨rfl, hI⟩ := hI
        simp [Region.binds] at hd
        simp only [hd, if_true]
        rw [if_neg (Bool.eq_false_iff.1 (by rfl))]
        exact hK.out _ _ ⟨by simp [hd, Act.put], by simpa using hI⟩
      refine Inv.Steps.cons rfl ?_ ?_
      · intro L a w' hI hL hd K hK
        obtain ⟨rfl, hI⟩ := hI
        simp [Region.binds] at hd
        simp only [hd, if_true]
        rw [if_neg (Bool.eq_false_iff.1 (by rfl))]
        exact hK.out _ _ ⟨by simp [hd, Act.put], by simpa using hI⟩
      refine Inv.Steps.cons rfl ?_ ?_
      · intro L a w' hI hL hd K hK
        obtain ⟨rfl, hI⟩ := hI
        simp [Region.binds] at hd
        simp only [hd, if_true]
        rw [if_neg (Bool.eq_false_iff.1 (by rfl))]
        exact hK.out _ _ ⟨by simp [hd, Act.put], by simpa using hI⟩
      refine Inv.Steps.cons rfl ?_ ?_
      · intro L a w' hI hL hd K hK
        obtain ⟨rfl, hI⟩ := hI
        simp [Region.binds] at hd
        simp only [hd, if_true]
        rw [if_neg (Bool.eq_false_iff.1 (by rfl))]
        exact hK.out _ _ ⟨by simp [hd, Act.put], by simpa using hI⟩
      refine Inv.Steps.cons rfl ?_ ?_
      · intro L a w' hI hL hd K hK
        obtain ⟨rfl, hI⟩ := hI
        simp [Region.binds] at hd
        simp only [hd, if_true]
        rw [if_neg (Bool.eq_false_iff.1 (by rfl))]
        exact hK.out _ _ ⟨by simp [hd, Act.put], by simpa using hI⟩
      refine Inv.Steps.cons rfl ?_ ?_
      · intro L a w' hI hL hd K hK
        obtain ⟨rfl, hI⟩ := hI
        simp [Region.binds] at hd
        simp only [hd, if_true]
        rw [if_pos (by rfl)]
        go_simp
        exact hK.out _ _ ⟨by simp [hd], by simpa using hI⟩
      exact Inv.Steps.nil (by decide)
    case done =>
      intro L a w' hI hall
      obtain ⟨rfl, hI⟩ := hI
      simp only [hall, if_true] at hI ⊢
      have hB9 := hI.2.2
      clear hI
      have r9 := r.below hB9
      have hB19 := hB9
      rcases hend.out with rfl | ⟨rfl, hR9, hN9⟩
      · go_wp2_with (first
          | ((fail_if_success (have _ := hB10)); (with_reducible refine (hO2 r9).mono ?_); rintro e w10 ⟨rfl, hB10⟩; have hB20 := bnext hB19 hB10)
          | ((fail_if_success (have _ := hT11)); (have _ := hB10); (refine at_alloc_po (by rfl) (by rfl) ?_); intro V11 hT11 hB11 hz11)
          | ((fail_if_success (have _ := hT12)); (have _ := hT11); (refine at_store_po _ _ _ _ _ (by rfl) (by rfl) (by rfl) hT11 rfl (by rfl) ?_); intro V12 hT12 hg12 hz12; have hB12 := bnext hB20 (hB11.grown hg12 hB11.size (by simp))))
        go_ret
        exact ⟨rfl, hB12⟩
      · rw [hR9] at hr3
        rw [hN9] at hn3 hsl
        rw [decide_eq_true rfl] at hsl
        clear hl
        go_wp2_with (first
          | ((fail_if_success (have _ := hB10)); (with_reducible refine (hO2 r9).mono ?_); rintro e w10 ⟨rfl, hB10⟩; have hB20 := bnext hB19 hB10)
          | ((fail_if_success (have _ := hT11)); (have _ := hB10); (refine at_alloc_po (by rfl) (by rfl) ?_); intro V11 hT11 hB11 hz11)
          | ((fail_if_success (have _ := hT12)); (have _ := hT11); (refine at_store_po _ _ _ _ _ (by rfl) (by rfl) (by rfl) hT11 rfl (by rfl) ?_); intro V12 hT12 hg12 hz12; have hB12 := bnext hB20 (hB11.grown hg12 hB11.size (by simp)))
          | ((fail_if_success (have _ := hB13b)); (have _ := hT12); (refine at_load_po _ _ P2 (by rfl) (by rfl) hT12 (by rfl) ?_))
          | ((fail_if_success (have _ := hB13b)); (have _ := hT12); (with_reducible refine (hr3 _).mono ?_); rintro e w13 ⟨rfl, hB13b⟩; have hT13 := hT12.below hB13b; have hB23 := bnext hB12 hB13b)
          | ((fail_if_success (have _ := hB14b)); (have _ := hT13); (refine at_load_po _ _ P2 (by rfl) (by rfl) hT13 (by rfl) ?_))
          | ((fail_if_success (have _ := hB14b)); (have _ := hT13); (with_reducible refine (hn3 _).mono ?_); rintro e w14 ⟨q14, c14, rfl, r14, hB14b, -⟩; have hB24 := bnext hB23 hB14b; have r15 := r.below hB24)
          | ((fail_if_success (have _ := hB16)); (have _ := hB14b); (with_reducible refine (hsl r14 r15).mono ?_); rintro e w16 ⟨rfl, hB16⟩; have hB26 := bnext hB24 hB16))
        go_ret
        exact ⟨rfl, hB26⟩
  | true =>
    have e1 : ofP (numsP p) = p ∧ ofE (numsP p) = 0 := by rw [nums_right hR]; exact of_back hR hp.2.1
    rw [e1.1, e1.2] at hO1
    rw [hR] at hr1
    clear e1
    cases hQ : rightP q with
    | false =>
      rw [hQ] at hr2
      clear hR hQ
      go_enter Try.func6, Try.ntmps6
      go_wp2_with (first
        | ((fail_if_success (have _ := hX1)); (refine at_box_po _ p (by rfl) (by rfl) (by rfl) ?_); intro V1 hX1 hB1 hz1)
        | ((fail_if_success (have _ := hY2)); (have _ := hX1); (refine at_box_po _ q (by rfl) (by rfl) (by rfl) ?_); intro V2 hY2 hB2 hz2; have hX2 := hX1.below hB2)
        | ((fail_if_success (have _ := hB3)); (have _ := hY2); (with_reducible refine (ha _).mono ?_); rintro e w3 ⟨rfl, hB3⟩; have hX3 := hX2.below hB3; have hY3 := hY2.below hB3; have hB13 := bnext (bnext hB1 hB2) hB3)
        | ((fail_if_success (have _ := hB4)); (have _ := hB3); (refine at_load_po _ _ p (by rfl) (by rfl) hX3 (by rfl) ?_))
        | ((fail_if_success (have _ := hB4)); (have _ := hB3); (with_reducible refine (hn1 _).mono ?_); rintro e w4 ⟨q4, c4, rfl, r4, hB4, -⟩; have hX4 := hX3.below hB4; have hY4 := hY3.below hB4; have hB14 := bnext hB13 hB4)
        | ((fail_if_success (have _ := hB5)); (have _ := hB4); (with_reducible refine (hO1 r4).mono ?_); rintro e w5 ⟨rfl, hB5⟩; have hX5 := hX4.below hB5; have hY5 := hY4.below hB5; have hB15 := bnext hB14 hB5)
        | ((fail_if_success (have _ := hZ6)); (have _ := hB5); (refine at_alloc_po (by rfl) (by rfl) ?_); intro V6 hZ6 hB6 hz6)
        | ((fail_if_success (have _ := hZ7)); (have _ := hZ6); (refine at_store_po _ _ _ _ _ (by rfl) (by rfl) (by rfl) hZ6 rfl (by rfl) ?_); intro V7 hZ7 hg7 hz7; have hB7 := hB6.grown hg7 hB6.size (by simp); have hX7 := hX5.below hB7; have hY7 := hY5.below hB7; have hB17 := bnext hB15 hB7)
        | ((fail_if_success (have _ := hB8)); (have _ := hZ7); (refine at_load_po _ _ p (by rfl) (by rfl) hX7 (by rfl) ?_))
        | ((fail_if_success (have _ := hB8)); (have _ := hZ7); (with_reducible refine (hr1 _).mono ?_); rintro e w8 ⟨rfl, hB8⟩; have hX8 := hX7.below hB8; have hY8 := hY7.below hB8; have hZ8 := hZ7.below hB8; have hB18 := bnext hB17 hB8)
        | ((have _ := hB8); (refine at_load_po _ _ p (by rfl) (by rfl) hZ8 (by rfl) ?_))
        | ((have _ := hB8); (refine at_load_po _ _ p (by rfl) (by rfl) hX8 (by rfl) ?_))
        | ((have _ := hB8); (refine at_ne_po hp hp _ _ (by rfl) (by rfl) (by rfl) (by rfl) ?_); rw [eqB_iff.2 rfl]))
      refine Inv.region_inv (fun L a w' => a = { tmps := #[(pv p), (pv q), (Value.slice qa n c), (Value.pointer (some { block := w.heap.size, off := 0 })), (Value.pointer (some { block := V1.heap.size, off := 0 })), undef, (Value.bool false), (Value.pointer (some { block := w5.heap.size, off := 0 })), (Value.int IntKind.i64 0), undef, undef, (Value.bool true), (Value.bool false), (Value.slice qa n c), (Value.int IntKind.i64 ↑n), (Value.bool false), (Value.tuple #[pv p, Value.int IntKind.i64 0]), (pv p), (Value.slice q4 (numsP p).length c4), (Value.tuple #[pv p, Value.int IntKind.i64 0]), (pv p), (Value.int IntKind.i64 0), (pv p), (Value.bool true), (Value.int IntKind.i64 0), (Value.bool true), (Value.bool false), (Value.bool false), (Value.int IntKind.i64 0), (Value.bool true), (Value.bool true), (pv p), (pv p), (Value.bool false), (Value.bool false), (Value.bool false), (if L 0 = true then (pv p) else undef), (if L 1 = true then (.bool true) else undef), (if L 2 = true then (.bool true) else undef), (if L 3 = true then (pv q) else undef), (if L 4 = true then (.bool false) else undef), (if L 5 = true then (.bool false) else undef), (if L 6 = true then (.bool false) else undef), undef, undef, undef, undef, undef, undef, undef, undef, undef, (if L 16 = true then (.bool false) else undef), undef, undef, undef, undef, undef, undef, undef, undef, undef, undef, undef, undef, undef, undef, undef, undef, undef], defers := [] } ∧ (Blk w' w.heap.size 28 (pl p) ∧ Blk w' V1.heap.size 28 (pl q) ∧ Below w.heap.size w w')) (by kernel_rfl) (by kernel_rfl) ?h0 ?step ?done
      case h0 => exact ⟨by simp, hX8.drew, hY8.drew, hB18.drew⟩
      case step =>
        refine Inv.Steps.cons rfl ?_ ?_
        · intro L a w' hI hL hd K hK
          obtain ⟨rfl, hI⟩ := hI
          clear hd
          rw [if_pos (by rfl)]
          refine wp_load_po _ _ _ (by rfl) (by rfl) hI.1 ?_
          exact hK.out _ _ ⟨by simp [Act.put], by simpa using hI⟩
        refine Inv.Steps.cons rfl ?_ ?_
        · intro L a w' hI hL hd K hK
          obtain ⟨rfl, hI⟩ := hI
          simp [Region.binds] at hd
          simp only [hd, if_true]
          rw [if_pos (by rfl)]
          go_simp
          refine (hr1 _).mono ?_
          rintro e w11 ⟨rfl, hB11⟩
          exact hK.out _ _ ⟨by simp [hd], hI.1.below hB11, hI.2.1.below hB11, bnext hI.2.2 hB11⟩
        refine Inv.Steps.cons rfl ?_ ?_
        · intro L a w' hI hL hd K hK
          obtain ⟨rfl, hI⟩ := hI
          simp [Region.binds] at hd
          simp only [hd, if_true]
          rw [if_pos (by rfl)]
          go_simp
          exact hK.out _ _ ⟨by simp [hd], by simpa using hI⟩
        refine Inv.Steps.cons rfl ?_ ?_
        · intro L a w' hI hL hd K hK
          obtain ⟨rfl, hI⟩ := hI
          simp [Region.binds] at hd
          simp only [hd, if_true]
          rw [if_pos (by rfl)]
          refine wp_load_po _ _ _ (by rfl) (by rfl) hI.2.1 ?_
          exact hK.out _ _ ⟨by simp [hd, Act.put], by simpa using hI⟩
        refine Inv.Steps.cons rfl ?_ ?_
        · intro L a w' hI hL hd K hK
          obtain ⟨rfl, hI⟩ := hI
          simp [Region.binds] at hd
          simp only [hd, if_true]
          rw [if_pos (by rfl)]
          go_simp
          refine (hr2 _).mono ?_
          rintro e w11 ⟨rfl, hB11⟩
          exact hK.out _ _ ⟨by simp [hd], hI.1.below hB11, hI.2.1.below hB11, bnext hI.2.2 hB11⟩
        refine Inv.Steps.cons rfl ?_ ?_
        · intro L a w' hI hL hd K hK
          obtain ⟨rfl, hI⟩ := hI
          simp [Region.binds] at hd
          simp only [hd, if_true]
          rw [if_pos (by rfl)]
          go_simp
          exact hK.out _ _ ⟨by simp [hd], by simpa using hI⟩
        refine Inv.Steps.cons rfl ?_ ?_
        · intro L a w' hI hL hd K hK
          obtain ⟨rfl, hI⟩ := hI
          simp [Region.binds] at hd
          simp only [hd, if_true]
          rw [if_pos (by rfl)]
          go_simp
          exact hK.out _ _ ⟨by simp [hd], by simpa using hI⟩
        refine Inv.Steps.cons rfl ?_ ?_
        · intro L a w' hI hL hd K hK
          obtain ⟨rfl, hI⟩ := hI
          simp [Region.binds] at hd
          simp only [hd, if_true]
          rw [if_neg (Bool.eq_false_iff.1 (by rfl))]
          exact hK.out _ _ ⟨by simp [hd, Act.put], by simpa using hI⟩
        refine Inv.Steps.cons rfl ?_ ?_
        · intro L a w' hI hL hd K hK
          obtain ⟨rfl, hI⟩ := hI
          simp [Region.binds] at hd
          simp only [hd, if_true]
          rw [if_neg (Bool.eq_false_iff.1 (by rfl))]
          exact hK.out _ _ ⟨by simp [hd, Act.put], by simpa using hI⟩
        refine Inv.Steps.cons rfl ?_ ?_
        · intro L a w' hI hL hd K hK
          obtain ⟨rfl, hI⟩ := hI
          simp [Region.binds] at hd
          simp only [hd, if_true]
          rw [if_neg (Bool.eq_false_iff.1 (by rfl))]
          exact hK.out _ _ ⟨by simp [hd, Act.put], by simpa using hI⟩
        refine Inv.Steps.cons rfl ?_ ?_
        · intro L a w' hI hL hd K hK
          obtain ⟨rfl, hI⟩ := hI
          simp [Region.binds] at hd
          simp only [hd, if_true]
          rw [if_neg (Bool.eq_false_iff.1 (by rfl))]
          exact hK.out _ _ ⟨by simp [hd, Act.put], by simpa using hI⟩
        refine Inv.Steps.cons rfl ?_ ?_
        · intro L a w' hI hL hd K hK
          obtain ⟨rfl, hI⟩ := hI
          simp [Region.binds] at hd
          simp only [hd, if_true]
          rw [if_neg (Bool.eq_false_iff.1 (by rfl))]
          exact hK.out _ _ ⟨by simp [hd, Act.put], by simpa using hI⟩
        refine Inv.Steps.cons rfl ?_ ?_
        · intro L a w' hI hL hd K hK
          obtain ⟨rfl, hI⟩ := hI
          simp [Region.binds] at hd
          simp only [hd, if_true]
          rw [if_neg (Bool.eq_false_iff.1 (by rfl))]
          exact hK.out _ _ ⟨by simp [hd, Act.put], by simpa using hI⟩
        refine Inv.Steps.cons rfl ?_ ?_
        · intro L a w' hI hL hd K hK
          obtain ⟨rfl, hI⟩ := hI
          simp [Region.binds] at hd
          simp only [hd, if_true]
          rw [if_neg (Bool.eq_false_iff.1 (by rfl))]
          exact hK.out _ _ ⟨by simp [hd, Act.put], by simpa using hI⟩
        refine Inv.Steps.cons rfl ?_ ?_
        · intro L a w' hI hL hd K hK
          obtain ⟨rfl, hI⟩ := hI
          simp [Region.binds] at hd
          simp only [hd, if_true]
          rw [if_neg (Bool.eq_false_iff.1 (by rfl))]
          exact hK.out _ _ ⟨by simp [hd, Act.put], by simpa using hI⟩
        refine Inv.Steps.cons rfl ?_ ?_
        · intro L a w' hI hL hd K hK
          obtain ⟨rfl, hI⟩ := hI
          simp [Region.binds] at hd
          simp only [hd, if_true]
          rw [if_neg (Bool.eq_false_iff.1 (by rfl))]
          exact hK.out _ _ ⟨by simp [hd, Act.put], by simpa using hI⟩
        refine Inv.Steps.cons rfl ?_ ?_
        · intro L a w' hI hL hd K hK
          obtain ⟨rfl, hI⟩ := hI
          simp [Region.binds] at hd
          simp only [hd, if_true]
          rw [if_pos (by rfl)]
          go_simp
          exact hK.out _ _ ⟨by simp [hd], by simpa using hI⟩
        exact Inv.Steps.nil (by decide)
      case done =>
        intro L a w' hI hall
        obtain ⟨rfl, hI⟩ := hI
        simp only [hall, if_true] at hI ⊢
        have hB9 := hI.2.2
        clear hI
        have r9 := r.below hB9
        have hB19 := hB9
        rcases hend.out with rfl | ⟨rfl, hR9, hN9⟩
        · go_wp2_with (first
            | ((fail_if_success (have _ := hB10)); (with_reducible refine (hO2 r9).mono ?_); rintro e w10 ⟨rfl, hB10⟩; have hB20 := bnext hB19 hB10)
            | ((fail_if_success (have _ := hT11)); (have _ := hB10); (refine at_alloc_po (by rfl) (by rfl) ?_); intro V11 hT11 hB11 hz11)
            | ((fail_if_success (have _ := hT12)); (have _ := hT11); (refine at_store_po _ _ _ _ _ (by rfl) (by rfl) (by rfl) hT11 rfl (by rfl) ?_); intro V12 hT12 hg12 hz12; have hB12 := bnext hB20 (hB11.grown hg12 hB11.size (by simp))))
          go_ret
          exact ⟨rfl, hB12⟩
        · rw [hR9] at hr3
          rw [hN9] at hn3 hsl
          rw [decide_eq_true rfl] at hsl
          clear hl
          go_wp2_with (first
            | ((fail_if_success (have _ := hB10)); (with_reducible refine (hO2 r9).mono ?_); rintro e w10 ⟨rfl, hB10⟩; have hB20 := bnext hB19 hB10)
            | ((fail_if_success (have _ := hT11)); (have _ := hB10); (refine at_alloc_po (by rfl) (by rfl) ?_); intro V11 hT11 hB11 hz11)
            | ((fail_if_success (have _ := hT12)); (have _ := hT11); (refine at_store_po _ _ _ _ _ (by rfl) (by rfl) (by rfl) hT11 rfl (by rfl) ?_); intro V12 hT12 hg12 hz12; have hB12 := bnext hB20 (hB11.grown hg12 hB11.size (by simp)))
            | ((fail_if_success (have _ := hB13b)); (have _ := hT12); (refine at_load_po _ _ P2 (by rfl) (by rfl) hT12 (by rfl) ?_))
            | ((fail_if_success (have _ := hB13b)); (have _ := hT12); (with_reducible refine (hr3 _).mono ?_); rintro e w13 ⟨rfl, hB13b⟩; have hT13 := hT12.below hB13b; have hB23 := bnext hB12 hB13b)
            | ((fail_if_success (have _ := hB14b)); (have _ := hT13); (refine at_load_po _ _ P2 (by rfl) (by rfl) hT13 (by rfl) ?_))
            | ((fail_if_success (have _ := hB14b)); (have _ := hT13); (with_reducible refine (hn3 _).mono ?_); rintro e w14 ⟨q14, c14, rfl, r14, hB14b, -⟩; have hB24 := bnext hB23 hB14b; have r15 := r.below hB24)
            | ((fail_if_success (have _ := hB16)); (have _ := hB14b); (with_reducible refine (hsl r14 r15).mono ?_); rintro e w16 ⟨rfl, hB16⟩; have hB26 := bnext hB24 hB16))
          go_ret
          exact ⟨rfl, hB26⟩
    | true =>
      rw [hQ] at hr2
      have hsq := same_nums hR hQ
      rw [hsq] at hsm
      generalize hEQ : eqB p q = EQ at *
      clear hR hQ hsq
      go_enter Try.func6, Try.ntmps6
      go_wp2_with (first
        | ((fail_if_success (have _ := hX1)); (refine at_box_po _ p (by rfl) (by rfl) (by rfl) ?_); intro V1 hX1 hB1 hz1)
        | ((fail_if_success (have _ := hY2)); (have _ := hX1); (refine at_box_po _ q (by rfl) (by rfl) (by rfl) ?_); intro V2 hY2 hB2 hz2; have hX2 := hX1.below hB2)
        | ((fail_if_success (have _ := hB3)); (have _ := hY2); (with_reducible refine (ha _).mono ?_); rintro e w3 ⟨rfl, hB3⟩; have hX3 := hX2.below hB3; have hY3 := hY2.below hB3; have hB13 := bnext (bnext hB1 hB2) hB3)
        | ((fail_if_success (have _ := hB4)); (have _ := hB3); (refine at_load_po _ _ p (by rfl) (by rfl) hX3 (by rfl) ?_))
        | ((fail_if_success (have _ := hB4)); (have _ := hB3); (with_reducible refine (hn1 _).mono ?_); rintro e w4 ⟨q4, c4, rfl, r4, hB4, -⟩; have hX4 := hX3.below hB4; have hY4 := hY3.below hB4; have hB14 := bnext hB13 hB4)
        | ((fail_if_success (have _ := hB5)); (have _ := hB4); (with_reducible refine (hO1 r4).mono ?_); rintro e w5 ⟨rfl, hB5⟩; have hX5 := hX4.below hB5; have hY5 := hY4.below hB5; have hB15 := bnext hB14 hB5)
        | ((fail_if_success (have _ := hZ6)); (have _ := hB5); (refine at_alloc_po (by rfl) (by rfl) ?_); intro V6 hZ6 hB6 hz6)
        | ((fail_if_success (have _ := hZ7)); (have _ := hZ6); (refine at_store_po _ _ _ _ _ (by rfl) (by rfl) (by rfl) hZ6 rfl (by rfl) ?_); intro V7 hZ7 hg7 hz7; have hB7 := hB6.grown hg7 hB6.size (by simp); have hX7 := hX5.below hB7; have hY7 := hY5.below hB7; have hB17 := bnext hB15 hB7)
        | ((fail_if_success (have _ := hB8)); (have _ := hZ7); (refine at_load_po _ _ p (by rfl) (by rfl) hX7 (by rfl) ?_))
        | ((fail_if_success (have _ := hB8)); (have _ := hZ7); (with_reducible refine (hr1 _).mono ?_); rintro e w8 ⟨rfl, hB8⟩; have hX8 := hX7.below hB8; have hY8 := hY7.below hB8; have hZ8 := hZ7.below hB8; have hB18 := bnext hB17 hB8)
        | ((have _ := hB8); (refine at_load_po _ _ p (by rfl) (by rfl) hZ8 (by rfl) ?_))
        | ((have _ := hB8); (refine at_load_po _ _ p (by rfl) (by rfl) hX8 (by rfl) ?_))
        | ((have _ := hB8); (refine at_ne_po hp hp _ _ (by rfl) (by rfl) (by rfl) (by rfl) ?_); rw [eqB_iff.2 rfl]))
      refine Inv.region_inv (fun L a w' => ∃ (qx : Option Addr) (cx : Nat) (qy : Option Addr) (cy : Nat), a = { tmps := #[(pv p), (pv q), (Value.slice qa n c), (Value.pointer (some { block := w.heap.size, off := 0 })), (Value.pointer (some { block := V1.heap.size, off := 0 })), undef, (Value.bool false), (Value.pointer (some { block := w5.heap.size, off := 0 })), (Value.int IntKind.i64 0), undef, undef, (Value.bool true), (Value.bool false), (Value.slice qa n c), (Value.int IntKind.i64 ↑n), (Value.bool false), (Value.tuple #[pv p, Value.int IntKind.i64 0]), (pv p), (Value.slice q4 (numsP p).length c4), (Value.tuple #[pv p, Value.int IntKind.i64 0]), (pv p), (Value.int IntKind.i64 0), (pv p), (Value.bool true), (Value.int IntKind.i64 0), (Value.bool true), (Value.bool false), (Value.bool false), (Value.int IntKind.i64 0), (Value.bool true), (Value.bool true), (pv p), (pv p), (Value.bool false), (Value.bool false), (Value.bool false), (if L 0 = true then (pv p) else undef), (if L 1 = true then (.bool true) else undef), (if L 2 = true then (.bool true) else undef), (if L 3 = true then (pv q) else undef), (if L 4 = true then (.bool true) else undef), (if L 5 = true then (.bool true) else undef), (if L 6 = true then (.bool true) else undef), (if L 7 = true then (pv p) else undef), (if L 8 = true then (pv q) else undef), (if L 9 = true then (.bool EQ) else undef), (if L 10 = true then (pv p) else undef), (if L 11 = true then (.slice qx (numsP p).length cx) else undef), (if L 12 = true then (pv q) else undef), (if L 13 = true then (.slice qy (numsP q).length cy) else undef), (if L 14 = true then (.bool EQ) else undef), (if L 15 = true then (.bool false) else undef), (if L 16 = true then (.bool false) else undef), undef, undef, undef, undef, undef, undef, undef, undef, undef, undef, undef, undef, undef, undef, undef, undef, undef], defers := [] } ∧ (Blk w' w.heap.size 28 (pl p) ∧ Blk w' V1.heap.size 28 (pl q) ∧ Below w.heap.size w w' ∧ (L 11 = true → Reads .u64 w' qx cx (numsP p)) ∧ (L 13 = true → Reads .u64 w' qy cy (numsP q)))) (by kernel_rfl) (by kernel_rfl) ?h0 ?step ?done
      case h0 => exact ⟨none, 0, none, 0, by simp, hX8.drew, hY8.drew, hB18.drew, by simp, by simp⟩
      case step =>
        refine Inv.Steps.cons rfl ?_ ?_
        · intro L a w' hI hL hd K hK
          obtain ⟨qx, cx, qy, cy, rfl, hI⟩ := hI
          clear hd
          rw [if_pos (by rfl)]
          refine wp_load_po _ _ _ (by rfl) (by rfl) hI.1 ?_
          exact hK.out _ _ ⟨qx, cx, qy, cy, by simp [Act.put], by simpa using hI⟩
        refine Inv.Steps.cons rfl ?_ ?_
        · intro L a w' hI hL hd K hK
          obtain ⟨qx, cx, qy, cy, rfl, hI⟩ := hI
          simp [Region.binds] at hd
          simp only [hd, if_true]
          rw [if_pos (by rfl)]
          go_simp
          refine (hr1 _).mono ?_
          rintro e w11 ⟨rfl, hB11⟩
          exact hK.out _ _ ⟨qx, cx, qy, cy, by simp [hd], hI.1.below hB11, hI.2.1.below hB11, bnext hI.2.2.1 hB11, fun h => (hI.2.2.2.1 (by simpa using h)).below hB11, fun h => (hI.2.2.2.2 (by simpa using h)).below hB11⟩
        refine Inv.Steps.cons rfl ?_ ?_
        · intro L a w' hI hL hd K hK
          obtain ⟨qx, cx, qy, cy, rfl, hI⟩ := hI
          simp [Region.binds] at hd
          simp only [hd, if_true]
          rw [if_pos (by rfl)]
          go_simp
          exact hK.out _ _ ⟨qx, cx, qy, cy, by simp [hd], by simpa using hI⟩
        refine Inv.Steps.cons rfl ?_ ?_
        · intro L a w' hI hL hd K hK
          obtain ⟨qx, cx, qy, cy, rfl, hI⟩ := hI
          simp [Region.binds] at hd
          simp only [hd, if_true]
          rw [if_pos (by rfl)]
          refine wp_load_po _ _ _ (by rfl) (by rfl) hI.2.1 ?_
          exact hK.out _ _ ⟨qx, cx, qy, cy, by simp [hd, Act.put], by simpa using hI⟩
        refine Inv.Steps.cons rfl ?_ ?_
        · intro L a w' hI hL hd K hK
          obtain ⟨qx, cx, qy, cy, rfl, hI⟩ := hI
          simp [Region.binds] at hd
          simp only [hd, if_true]
          rw [if_pos (by rfl)]
          go_simp
          refine (hr2 _).mono ?_
          rintro e w11 ⟨rfl, hB11⟩
          exact hK.out _ _ ⟨qx, cx, qy, cy, by simp [hd], hI.1.below hB11, hI.2.1.below hB11, bnext hI.2.2.1 hB11, fun h => (hI.2.2.2.1 (by simpa using h)).below hB11, fun h => (hI.2.2.2.2 (by simpa using h)).below hB11⟩
        refine Inv.Steps.cons rfl ?_ ?_
        · intro L a w' hI hL hd K hK
          obtain ⟨qx, cx, qy, cy, rfl, hI⟩ := hI
          simp [Region.binds] at hd
          simp only [hd, if_true]
          rw [if_pos (by rfl)]
          go_simp
          exact hK.out _ _ ⟨qx, cx, qy, cy, by simp [hd], by simpa using hI⟩
        refine Inv.Steps.cons rfl ?_ ?_
        · intro L a w' hI hL hd K hK
          obtain ⟨qx, cx, qy, cy, rfl, hI⟩ := hI
          simp [Region.binds] at hd
          simp only [hd, if_true]
          rw [if_pos (by rfl)]
          go_simp
          exact hK.out _ _ ⟨qx, cx, qy, cy, by simp [hd], by simpa using hI⟩
        refine Inv.Steps.cons rfl ?_ ?_
        · intro L a w' hI hL hd K hK
          obtain ⟨qx, cx, qy, cy, rfl, hI⟩ := hI
          simp [Region.binds] at hd
          simp only [hd, if_true]
          rw [if_pos (by rfl)]
          refine wp_load_po _ _ _ (by rfl) (by rfl) hI.1 ?_
          exact hK.out _ _ ⟨qx, cx, qy, cy, by simp [hd, Act.put], by simpa using hI⟩
        refine Inv.Steps.cons rfl ?_ ?_
        · intro L a w' hI hL hd K hK
          obtain ⟨qx, cx, qy, cy, rfl, hI⟩ := hI
          simp [Region.binds] at hd
          simp only [hd, if_true]
          rw [if_pos (by rfl)]
          refine wp_load_po _ _ _ (by rfl) (by rfl) hI.2.1 ?_
          exact hK.out _ _ ⟨qx, cx, qy, cy, by simp [hd, Act.put], by simpa using hI⟩
        refine Inv.Steps.cons rfl ?_ ?_
        · intro L a w' hI hL hd K hK
          obtain ⟨qx, cx, qy, cy, rfl, hI⟩ := hI
          simp [Region.binds] at hd
          simp only [hd, if_true]
          rw [if_pos (by rfl)]
          refine wp_eq_po hp hq _ _ (by rfl) (by rfl) (by rfl) ?_
          rw [hEQ]
          exact hK.out _ _ ⟨qx, cx, qy, cy, by simp [hd, Act.put], by simpa using hI⟩
        refine Inv.Steps.cons rfl ?_ ?_
        · intro L a w' hI hL hd K hK
          obtain ⟨qx, cx, qy, cy, rfl, hI⟩ := hI
          simp [Region.binds] at hd
          simp only [hd, if_true]
          rw [if_pos (by rfl)]
          refine wp_load_po _ _ _ (by rfl) (by rfl) hI.1 ?_
          exact hK.out _ _ ⟨qx, cx, qy, cy, by simp [hd, Act.put], by simpa using hI⟩
        refine Inv.Steps.cons rfl ?_ ?_
        · intro L a w' hI hL hd K hK
          obtain ⟨qx, cx, qy, cy, rfl, hI⟩ := hI
          simp [Region.binds] at hd
          simp only [hd, if_true]
          rw [if_pos (by rfl)]
          go_simp
          refine (hn1 _).mono ?_
          rintro e w11 ⟨q11, c11, rfl, r11, hB11, -⟩
          exact hK.out _ _ ⟨q11, c11, qy, cy, by simp [hd], hI.1.below hB11, hI.2.1.below hB11, bnext hI.2.2.1 hB11, fun _ => r11, fun h => (hI.2.2.2.2 (by simpa using h)).below hB11⟩
        refine Inv.Steps.cons rfl ?_ ?_
        · intro L a w' hI hL hd K hK
          obtain ⟨qx, cx, qy, cy, rfl, hI⟩ := hI
          simp [Region.binds] at hd
          simp only [hd, if_true]
          rw [if_pos (by rfl)]
          refine wp_load_po _ _ _ (by rfl) (by rfl) hI.2.1 ?_
          exact hK.out _ _ ⟨qx, cx, qy, cy, by simp [hd, Act.put], by simpa using hI⟩
        refine Inv.Steps.cons rfl ?_ ?_
        · intro L a w' hI hL hd K hK
          obtain ⟨qx, cx, qy, cy, rfl, hI⟩ := hI
          simp [Region.binds] at hd
          simp only [hd, if_true]
          rw [if_pos (by rfl)]
          go_simp
          refine (hn2 _).mono ?_
          rintro e w11 ⟨q11, c11, rfl, r11, hB11, -⟩
          exact hK.out _ _ ⟨qx, cx, q11, c11, by simp [hd], hI.1.below hB11, hI.2.1.below hB11, bnext hI.2.2.1 hB11, fun h => (hI.2.2.2.1 (by simpa using h)).below hB11, fun _ => r11⟩
        refine Inv.Steps.cons rfl ?_ ?_
        · intro L a w' hI hL hd K hK
          obtain ⟨qx, cx, qy, cy, rfl, hI⟩ := hI
          simp [Region.binds] at hd
          simp only [hd, if_true]
          rw [if_pos (by rfl)]
          have ra := hI.2.2.2.1 (by simp [hd])
          have rb := hI.2.2.2.2 (by simp [hd])
          go_simp
          refine (hsm ra rb).mono ?_
          rintro e w11 ⟨rfl, hB11⟩
          exact hK.out _ _ ⟨qx, cx, qy, cy, by simp [hd], hI.1.below hB11, hI.2.1.below hB11, bnext hI.2.2.1 hB11, fun h => (hI.2.2.2.1 (by simpa using h)).below hB11, fun h => (hI.2.2.2.2 (by simpa using h)).below hB11⟩
        refine Inv.Steps.cons rfl ?_ ?_
        · intro L a w' hI hL hd K hK
          obtain ⟨qx, cx, qy, cy, rfl, hI⟩ := hI
          simp [Region.binds] at hd
          simp only [hd, if_true]
          rw [if_pos (by rfl)]
          go_simp
          exact hK.out _ _ ⟨qx, cx, qy, cy, by simp [hd], by simpa using hI⟩
        refine Inv.Steps.cons rfl ?_ ?_
        · intro L a w' hI hL hd K hK
          obtain ⟨qx, cx, qy, cy, rfl, hI⟩ := hI
          simp [Region.binds] at hd
          simp only [hd, if_true]
          rw [if_pos (by rfl)]
          go_simp
          exact hK.out _ _ ⟨qx, cx, qy, cy, by simp [hd], by simpa using hI⟩
        exact Inv.Steps.nil (by decide)
      case done =>
        intro L a w' hI hall
        obtain ⟨qx, cx, qy, cy, rfl, hI⟩ := hI
        simp only [hall, if_true] at hI ⊢
        have hB9 := hI.2.2.1
        clear hI
        have r9 := r.below hB9
        have hB19 := hB9
        rcases hend.out with rfl | ⟨rfl, hR9, hN9⟩
        · go_wp2_with (first
            | ((fail_if_success (have _ := hB10)); (with_reducible refine (hO2 r9).mono ?_); rintro e w10 ⟨rfl, hB10⟩; have hB20 := bnext hB19 hB10)
            | ((fail_if_success (have _ := hT11)); (have _ := hB10); (refine at_alloc_po (by rfl) (by rfl) ?_); intro V11 hT11 hB11 hz11)
            | ((fail_if_success (have _ := hT12)); (have _ := hT11); (refine at_store_po _ _ _ _ _ (by rfl) (by rfl) (by rfl) hT11 rfl (by rfl) ?_); intro V12 hT12 hg12 hz12; have hB12 := bnext hB20 (hB11.grown hg12 hB11.size (by simp))))
          go_ret
          exact ⟨rfl, hB12⟩
        · rw [hR9] at hr3
          rw [hN9] at hn3 hsl
          rw [decide_eq_true rfl] at hsl
          clear hl
          go_wp2_with (first
            | ((fail_if_success (have _ := hB10)); (with_reducible refine (hO2 r9).mono ?_); rintro e w10 ⟨rfl, hB10⟩; have hB20 := bnext hB19 hB10)
            | ((fail_if_success (have _ := hT11)); (have _ := hB10); (refine at_alloc_po (by rfl) (by rfl) ?_); intro V11 hT11 hB11 hz11)
            | ((fail_if_success (have _ := hT12)); (have _ := hT11); (refine at_store_po _ _ _ _ _ (by rfl) (by rfl) (by rfl) hT11 rfl (by rfl) ?_); intro V12 hT12 hg12 hz12; have hB12 := bnext hB20 (hB11.grown hg12 hB11.size (by simp)))
            | ((fail_if_success (have _ := hB13b)); (have _ := hT12); (refine at_load_po _ _ P2 (by rfl) (by rfl) hT12 (by rfl) ?_))
            | ((fail_if_success (have _ := hB13b)); (have _ := hT12); (with_reducible refine (hr3 _).mono ?_); rintro e w13 ⟨rfl, hB13b⟩; have hT13 := hT12.below hB13b; have hB23 := bnext hB12 hB13b)
            | ((fail_if_success (have _ := hB14b)); (have _ := hT13); (refine at_load_po _ _ P2 (by rfl) (by rfl) hT13 (by rfl) ?_))
            | ((fail_if_success (have _ := hB14b)); (have _ := hT13); (with_reducible refine (hn3 _).mono ?_); rintro e w14 ⟨q14, c14, rfl, r14, hB14b, -⟩; have hB24 := bnext hB23 hB14b; have r15 := r.below hB24)
            | ((fail_if_success (have _ := hB16)); (have _ := hB14b); (with_reducible refine (hsl r14 r15).mono ?_); rintro e w16 ⟨rfl, hB16⟩; have hB26 := bnext hB24 hB16))
          go_ret
          exact ⟨rfl, hB26⟩
theorem back_any (p q : Po) (hp : PoOk p) (hq : PoOk q) (qa : Option Addr) (n c : Nat) (xs : List Int) (hl : xs.length = n) (w : World) (r : Reads .u64 w qa c xs) (ho : ∀ x ∈ xs, Word x) :
    Calls Try.prog 6 #[pv p, pv q, .slice qa n c] w fun e w' => e = .returned (.bool true) ∧ Below w.heap.size w w' := by
  by_cases h100 : 100 < n
  · have ha := fun W => alive_any W
    have h100i : (100 : Int) < (n : Int) := by omega
    go_enter Try.func6, Try.ntmps6
    go_wp2_with (first
      | ((fail_if_success (have _ := hX1)); (refine at_box_po _ p (by rfl) (by rfl) (by rfl) ?_); intro V1 hX1 hB1 hz1)
      | ((fail_if_success (have _ := hY2)); (have _ := hX1); (refine at_box_po _ q (by rfl) (by rfl) (by rfl) ?_); intro V2 hY2 hB2 hz2)
      | ((fail_if_success (have _ := hB3)); (have _ := hY2); (with_reducible refine (ha _).mono ?_); rintro e w3 ⟨rfl, hB3⟩))
    go_ret
    exact ⟨rfl, bnext (bnext hB1 hB2) hB3⟩
  · exact back_main p q hp hq qa n c xs hl h100 w r ho
end Go.Proofs.Ytjjgecnnginnpaa.Policy
