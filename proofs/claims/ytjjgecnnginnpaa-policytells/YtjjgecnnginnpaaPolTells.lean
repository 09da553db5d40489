/-
  The walk of PolicyTells. (Written by gen_ptells.py.)
-/
import Derived.Test.YtjjgecnnginnpaaPolAlive
import Derived.Test.YtjjgecnnginnpaaPolRefOf
import Derived.Test.YtjjgecnnginnpaaPolRefNums
namespace Go.Proofs.Ytjjgecnnginnpaa.Policy
open Go.RowKit Go.Proofs.Ytjjgecnnginnpaa.Mem Go.Proofs.Ytjjgecnnginnpaa.Addr
set_option maxRecDepth 100000

set_option maxHeartbeats 4000000 in
theorem tells_any (p : Po) (hp : PoOk p) (q : Option Addr) (n c : Nat) (xs : List Int) (hl : xs.length = n) (w : World) (r : Reads .u64 w q c xs) (ho : ∀ x ∈ xs, Word x) :
    Calls Try.prog 4 #[pv p, .slice q n c] w fun e w' => e = .returned (.bool true) ∧ Below w.heap.size w w' := by
  have ha := fun W => alive_any W
  by_cases h100 : 100 < n
  · have h100i : (100 : Int) < (n : Int) := by omega
    go_enter Try.func4, Try.ntmps4
    go_wp2_with (first
      | ((fail_if_success (have _ := hX1)); (refine at_box_po _ _ (by rfl) (by rfl) (by rfl) ?_); intro V1 hX1 hB1 hz1)
      | ((with_reducible refine (ha _).mono ?_); rintro e w2 ⟨rfl, hB2⟩))
    go_ret
    exact ⟨rfl, bnext hB1 hB2⟩
  · have h100i : decide ((100 : Int) < (n : Int)) = false := decide_eq_false (by omega)
    obtain ⟨i0, hi, hz0, hz1', hz2⟩ := info_u64
    have hO := fun {W : World} {q c} (r : Reads .u64 W q c xs) => policy_Of q n c xs hl W r ho
    have hRO := fun {W : World} {q c} (r : Reads .u64 W q c xs) => ref_OfP q n c xs hl W r ho
    have hr1 := fun W => policy_Right p hp W
    have hr2 := fun W => ref_RightP p hp W
    have hn1 := fun W => policy_Nums p hp W
    have hn2 := fun W => ref_Nums p hp W
    have hsm := fun {W : World} {q1 q2 c1 c2} (r1 : Reads .u64 W q1 c1 (numsP p)) (r2 : Reads .u64 W q2 c2 (numsP p)) => ref_SameList q1 q2 (numsP p).length (numsP p).length c1 c2 (numsP p) (numsP p) rfl rfl W r1 r2
    simp only [decide_true] at hsm
    obtain ⟨P, hP⟩ : ∃ P, ofP xs = P := ⟨_, rfl⟩
    obtain ⟨E, hE⟩ : ∃ E, ofE xs = E := ⟨_, rfl⟩
    have hPok : PoOk P := by rw [← hP]; exact of_ok xs ho
    rw [hP, hE] at hO hRO
    clear hP hE
    obtain ⟨R, hR⟩ : ∃ R, rightP p = R := ⟨_, rfl⟩
    rw [hR] at hr1 hr2
    clear hR
    go_enter Try.func4, Try.ntmps4
    go_wp2_with (first
      | ((fail_if_success (have _ := hX1)); (refine at_box_po _ _ (by rfl) (by rfl) (by rfl) ?_); intro V1 hX1 hB1 hz1)
      | ((with_reducible refine (ha _).mono ?_); rintro e w2 ⟨rfl, hB2⟩; have hX2 := hX1.below hB2; have hB12 := bnext hB1 hB2; have hown := World.ownsRow_lit (size := 1) (e := 26) (base := w2.heap.size) w2 #[] 0 (Nat.le_refl _) (by decide) (by simp); have r3 := (r.below hB12).alloc (.cells #[] 26))
      | (at_builtin; refine wpList_append_reads _ rfl _ _ 35 rfl w2.heap.size 26 i0 (.int .u64 0) 8 .u64 Try.underlying35 hi hz0 hz1' hz2 rfl (.slice (some ⟨w2.heap.size, 0, none⟩) 0 0) 0 [] rfl hown q n c xs rfl hl r3 (by unfold maxLen; omega) (by omega) (by simp) ?_))
    intro v4 V4 ho4 hg4
    have ho4 : V4.ownsRow w2.heap.size 26 1 v4 n (xs.map (Value.int .u64)) := by simpa using ho4
    obtain ⟨-, q4, c4, rfl, r4⟩ := own_reads ho4
    rw [hl]
    have hB4 : Below w2.heap.size w2 V4 := (bnew w2 (.cells #[] 26)).grown hg4 (by simp) (fun j hj => by simp [Value.ownBlock] at hj; omega)
    have hX4 := hX2.below hB4
    have hB14 := bnext hB12 hB4
    have r14 := r.below hB14
    clear hB4 hg4 ho4 hown r3 hX2 hB12 hX1 hB1 hB2
    go_wp2_with (first
      | ((fail_if_success (have _ := hB5)); (with_reducible refine (hO r4).mono ?_); rintro e w5 ⟨rfl, hB5⟩; have hX5 := hX4.below hB5; have hB15 := bnext hB14 hB5; have r15 := r14.below hB5)
      | ((fail_if_success (have _ := hY6)); (have _ := hB5); (refine at_alloc_po (by rfl) (by rfl) ?_); intro V6 hY6 hB6 hz6)
      | ((fail_if_success (have _ := hY7)); (have _ := hY6); (refine at_store_po _ _ _ _ _ (by rfl) (by rfl) (by rfl) hY6 rfl (by rfl) ?_); intro V7 hY7 hg7 hz7; have hB7 := hB6.grown hg7 hB6.size (by simp); have hX7 := hX5.below hB7; have hB17 := bnext hB15 hB7; have r17 := r15.below hB7)
      | ((fail_if_success (have _ := hB8)); (have _ := hB7); (with_reducible refine (hRO r17).mono ?_); rintro e w8 ⟨rfl, hB8⟩; have hX8 := hX7.below hB8; have hY8 := hY7.below hB8; have hB18 := bnext hB17 hB8)
      | ((fail_if_success (have _ := hZ9)); (have _ := hB8); (refine at_alloc_po (by rfl) (by rfl) ?_); intro V9 hZ9 hB9 hz9)
      | ((fail_if_success (have _ := hZ10)); (have _ := hZ9); (refine at_store_po _ _ _ _ _ (by rfl) (by rfl) (by rfl) hZ9 rfl (by rfl) ?_); intro V10 hZ10 hg10 hz10; have hB10 := hB9.grown hg10 hB9.size (by simp); have hX10 := hX8.below hB10; have hY10 := hY8.below hB10; have hB20 := bnext hB18 hB10))
    refine Inv.region_inv (fun L a w' => ∃ (qa : Option Addr) (ca : Nat) (qb : Option Addr) (cb : Nat), a = { tmps := #[(pv p), (.slice q n c), (.pointer (some ⟨w.heap.size, 0, none⟩)), undef, (if L 22 = true then (.bool true) else (.bool false)), (.pointer (some ⟨w5.heap.size, 0, none⟩)), (.int .i64 E), (.pointer (some ⟨w8.heap.size, 0, none⟩)), (.int .i64 E), (.bool true), (.bool false), (.slice q n c), (.int .i64 (n : Int)), (.bool false), (.tuple #[pv P, .int .i64 E]), (.slice (some ⟨w2.heap.size, 0, none⟩) 0 0), (.slice q n c), (.slice q4 n c4), (.tuple #[pv P, .int .i64 E]), (pv P), (.int .i64 E), (.tuple #[pv P, .int .i64 E]), (.slice q n c), (.tuple #[pv P, .int .i64 E]), (pv P), (.int .i64 E), (if L 0 = true then (pv p) else undef), (if L 1 = true then (.bool R) else undef), (if L 2 = true then (pv p) else undef), (if L 3 = true then (.bool R) else undef), (if L 4 = true then (.bool true) else undef), (if L 5 = true then (.bool true) else undef), (if L 6 = true then (pv p) else undef), (if L 7 = true then (.slice qa (numsP p).length ca) else undef), (if L 8 = true then (pv p) else undef), (if L 9 = true then (.slice qb (numsP p).length cb) else undef), (if L 10 = true then (.bool true) else undef), (if L 11 = true then (.bool true) else undef), (if L 12 = true then (.bool true) else undef), (if L 13 = true then (pv P) else undef), (if L 14 = true then (pv P) else undef), (if L 15 = true then (.bool true) else undef), (if L 16 = true then (.bool true) else undef), (if L 17 = true then (.bool true) else undef), (if L 18 = true then (.int .i64 E) else undef), (if L 19 = true then (.int .i64 E) else undef), (if L 20 = true then (.bool true) else undef), (if L 21 = true then (.bool true) else undef)], defers := [] } ∧ (Blk w' w.heap.size 28 (pl p) ∧ Blk w' w5.heap.size 28 (pl P) ∧ Blk w' w8.heap.size 28 (pl P) ∧ Below w.heap.size w w' ∧ (L 7 = true → Reads .u64 w' qa ca (numsP p)) ∧ (L 9 = true → Reads .u64 w' qb cb (numsP p)))) (by kernel_rfl) (by kernel_rfl) ?h0 ?step ?done
    case h0 => exact ⟨none, 0, none, 0, by simp, hX10.drew, hY10.drew, hZ10.drew, hB20.drew, by simp, by simp⟩
    case step =>
      refine Inv.Steps.cons rfl ?_ ?_
      · intro L a w' hI hL hd K hK
        obtain ⟨qa, ca, qb, cb, rfl, hI⟩ := hI
        clear hd
        rw [if_pos (by rfl)]
        refine wp_load_po _ _ _ (by rfl) (by rfl) hI.1 ?_
        exact hK.out _ _ ⟨qa, ca, qb, cb, by simp [Act.put], by simpa using hI⟩
      refine Inv.Steps.cons rfl ?_ ?_
      · intro L a w' hI hL hd K hK
        obtain ⟨qa, ca, qb, cb, rfl, hI⟩ := hI
        simp [Region.binds] at hd
        simp only [hd, if_true]
        rw [if_pos (by rfl)]
        go_simp
        refine (hr1 _).mono ?_
        rintro e w11 ⟨rfl, hB11⟩
        exact hK.out _ _ ⟨qa, ca, qb, cb, by simp [hd], hI.1.below hB11, hI.2.1.below hB11, hI.2.2.1.below hB11, bnext hI.2.2.2.1 hB11, fun h => (hI.2.2.2.2.1 (by simpa using h)).below hB11, fun h => (hI.2.2.2.2.2 (by simpa using h)).below hB11⟩
      refine Inv.Steps.cons rfl ?_ ?_
      · intro L a w' hI hL hd K hK
        obtain ⟨qa, ca, qb, cb, rfl, hI⟩ := hI
        clear hd
        rw [if_pos (by rfl)]
        refine wp_load_po _ _ _ (by rfl) (by rfl) hI.1 ?_
        exact hK.out _ _ ⟨qa, ca, qb, cb, by simp [Act.put], by simpa using hI⟩
      refine Inv.Steps.cons rfl ?_ ?_
      · intro L a w' hI hL hd K hK
        obtain ⟨qa, ca, qb, cb, rfl, hI⟩ := hI
        simp [Region.binds] at hd
        simp only [hd, if_true]
        rw [if_pos (by rfl)]
        go_simp
        refine (hr2 _).mono ?_
        rintro e w11 ⟨rfl, hB11⟩
        exact hK.out _ _ ⟨qa, ca, qb, cb, by simp [hd], hI.1.below hB11, hI.2.1.below hB11, hI.2.2.1.below hB11, bnext hI.2.2.2.1 hB11, fun h => (hI.2.2.2.2.1 (by simpa using h)).below hB11, fun h => (hI.2.2.2.2.2 (by simpa using h)).below hB11⟩
      refine Inv.Steps.cons rfl ?_ ?_
      · intro L a w' hI hL hd K hK
        obtain ⟨qa, ca, qb, cb, rfl, hI⟩ := hI
        simp [Region.binds] at hd
        simp only [hd, if_true]
        rw [if_pos (by rfl)]
        go_simp
        exact hK.out _ _ ⟨qa, ca, qb, cb, by simp [hd], by simpa using hI⟩
      refine Inv.Steps.cons rfl ?_ ?_
      · intro L a w' hI hL hd K hK
        obtain ⟨qa, ca, qb, cb, rfl, hI⟩ := hI
        simp [Region.binds] at hd
        simp only [hd, if_true]
        rw [if_pos (by rfl)]
        go_simp
        exact hK.out _ _ ⟨qa, ca, qb, cb, by simp [hd], by simpa using hI⟩
      refine Inv.Steps.cons rfl ?_ ?_
      · intro L a w' hI hL hd K hK
        obtain ⟨qa, ca, qb, cb, rfl, hI⟩ := hI
        simp [Region.binds] at hd
        simp only [hd, if_true]
        rw [if_pos (by rfl)]
        refine wp_load_po _ _ _ (by rfl) (by rfl) hI.1 ?_
        exact hK.out _ _ ⟨qa, ca, qb, cb, by simp [hd, Act.put], by simpa using hI⟩
      refine Inv.Steps.cons rfl ?_ ?_
      · intro L a w' hI hL hd K hK
        obtain ⟨qa, ca, qb, cb, rfl, hI⟩ := hI
        simp [Region.binds] at hd
        simp only [hd, if_true]
        rw [if_pos (by rfl)]
        go_simp
        refine (hn1 _).mono ?_
        rintro e w11 ⟨q11, c11, rfl, r11, hB11, -⟩
        exact hK.out _ _ ⟨q11, c11, qb, cb, by simp [hd], hI.1.below hB11, hI.2.1.below hB11, hI.2.2.1.below hB11, bnext hI.2.2.2.1 hB11, fun _ => r11, fun h => (hI.2.2.2.2.2 (by simpa using h)).below hB11⟩
      refine Inv.Steps.cons rfl ?_ ?_
      · intro L a w' hI hL hd K hK
        obtain ⟨qa, ca, qb, cb, rfl, hI⟩ := hI
        simp [Region.binds] at hd
        simp only [hd, if_true]
        rw [if_pos (by rfl)]
        refine wp_load_po _ _ _ (by rfl) (by rfl) hI.1 ?_
        exact hK.out _ _ ⟨qa, ca, qb, cb, by simp [hd, Act.put], by simpa using hI⟩
      refine Inv.Steps.cons rfl ?_ ?_
      · intro L a w' hI hL hd K hK
        obtain ⟨qa, ca, qb, cb, rfl, hI⟩ := hI
        simp [Region.binds] at hd
        simp only [hd, if_true]
        rw [if_pos (by rfl)]
        go_simp
        refine (hn2 _).mono ?_
        rintro e w11 ⟨q11, c11, rfl, r11, hB11, -⟩
        exact hK.out _ _ ⟨qa, ca, q11, c11, by simp [hd], hI.1.below hB11, hI.2.1.below hB11, hI.2.2.1.below hB11, bnext hI.2.2.2.1 hB11, fun h => (hI.2.2.2.2.1 (by simpa using h)).below hB11, fun _ => r11⟩
      refine Inv.Steps.cons rfl ?_ ?_
      · intro L a w' hI hL hd K hK
        obtain ⟨qa, ca, qb, cb, rfl, hI⟩ := hI
        simp [Region.binds] at hd
        simp only [hd, if_true]
        rw [if_pos (by rfl)]
        have ra := hI.2.2.2.2.1 (by simp [hd])
        have rb := hI.2.2.2.2.2 (by simp [hd])
        go_simp
        refine (hsm ra rb).mono ?_
        rintro e w11 ⟨rfl, hB11⟩
        exact hK.out _ _ ⟨qa, ca, qb, cb, by simp [hd], hI.1.below hB11, hI.2.1.below hB11, hI.2.2.1.below hB11, bnext hI.2.2.2.1 hB11, fun h => (hI.2.2.2.2.1 (by simpa using h)).below hB11, fun h => (hI.2.2.2.2.2 (by simpa using h)).below hB11⟩
      refine Inv.Steps.cons rfl ?_ ?_
      · intro L a w' hI hL hd K hK
        obtain ⟨qa, ca, qb, cb, rfl, hI⟩ := hI
        simp [Region.binds] at hd
        simp only [hd, if_true]
        rw [if_pos (by rfl)]
        go_simp
        exact hK.out _ _ ⟨qa, ca, qb, cb, by simp [hd], by simpa using hI⟩
      refine Inv.Steps.cons rfl ?_ ?_
      · intro L a w' hI hL hd K hK
        obtain ⟨qa, ca, qb, cb, rfl, hI⟩ := hI
        simp [Region.binds] at hd
        simp only [hd, if_true]
        rw [if_pos (by rfl)]
        go_simp
        exact hK.out _ _ ⟨qa, ca, qb, cb, by simp [hd], by simpa using hI⟩
      refine Inv.Steps.cons rfl ?_ ?_
      · intro L a w' hI hL hd K hK
        obtain ⟨qa, ca, qb, cb, rfl, hI⟩ := hI
        simp [Region.binds] at hd
        simp only [hd, if_true]
        rw [if_pos (by rfl)]
        refine wp_load_po _ _ _ (by rfl) (by rfl) hI.2.1 ?_
        exact hK.out _ _ ⟨qa, ca, qb, cb, by simp [hd, Act.put], by simpa using hI⟩
      refine Inv.Steps.cons rfl ?_ ?_
      · intro L a w' hI hL hd K hK
        obtain ⟨qa, ca, qb, cb, rfl, hI⟩ := hI
        simp [Region.binds] at hd
        simp only [hd, if_true]
        rw [if_pos (by rfl)]
        refine wp_load_po _ _ _ (by rfl) (by rfl) hI.2.2.1 ?_
        exact hK.out _ _ ⟨qa, ca, qb, cb, by simp [hd, Act.put], by simpa using hI⟩
      refine Inv.Steps.cons rfl ?_ ?_
      · intro L a w' hI hL hd K hK
        obtain ⟨qa, ca, qb, cb, rfl, hI⟩ := hI
        simp [Region.binds] at hd
        simp only [hd, if_true]
        rw [if_pos (by rfl)]
        refine wp_eq_po hPok hPok _ _ (by rfl) (by rfl) (by rfl) ?_
        rw [eqB_iff.2 rfl]
        exact hK.out _ _ ⟨qa, ca, qb, cb, by simp [hd, Act.put], by simpa using hI⟩
      refine Inv.Steps.cons rfl ?_ ?_
      · intro L a w' hI hL hd K hK
        obtain ⟨qa, ca, qb, cb, rfl, hI⟩ := hI
        simp [Region.binds] at hd
        simp only [hd, if_true]
        rw [if_pos (by rfl)]
        go_simp
        exact hK.out _ _ ⟨qa, ca, qb, cb, by simp [hd], by simpa using hI⟩
      refine Inv.Steps.cons rfl ?_ ?_
      · intro L a w' hI hL hd K hK
        obtain ⟨qa, ca, qb, cb, rfl, hI⟩ := hI
        simp [Region.binds] at hd
        simp only [hd, if_true]
        rw [if_pos (by rfl)]
        go_simp
        exact hK.out _ _ ⟨qa, ca, qb, cb, by simp [hd], by simpa using hI⟩
      refine Inv.Steps.cons rfl ?_ ?_
      · intro L a w' hI hL hd K hK
        obtain ⟨qa, ca, qb, cb, rfl, hI⟩ := hI
        simp [Region.binds] at hd
        simp only [hd, if_true]
        rw [if_pos (by rfl)]
        go_simp
        exact hK.out _ _ ⟨qa, ca, qb, cb, by simp [hd], by simpa using hI⟩
      refine Inv.Steps.cons rfl ?_ ?_
      · intro L a w' hI hL hd K hK
        obtain ⟨qa, ca, qb, cb, rfl, hI⟩ := hI
        simp [Region.binds] at hd
        simp only [hd, if_true]
        rw [if_pos (by rfl)]
        go_simp
        exact hK.out _ _ ⟨qa, ca, qb, cb, by simp [hd], by simpa using hI⟩
      refine Inv.Steps.cons rfl ?_ ?_
      · intro L a w' hI hL hd K hK
        obtain ⟨qa, ca, qb, cb, rfl, hI⟩ := hI
        simp [Region.binds] at hd
        simp only [hd, if_true]
        rw [if_pos (by rfl)]
        go_simp
        exact hK.out _ _ ⟨qa, ca, qb, cb, by simp [hd], by simpa using hI⟩
      refine Inv.Steps.cons rfl ?_ ?_
      · intro L a w' hI hL hd K hK
        obtain ⟨qa, ca, qb, cb, rfl, hI⟩ := hI
        simp [Region.binds] at hd
        simp only [hd, if_true]
        rw [if_pos (by rfl)]
        go_simp
        exact hK.out _ _ ⟨qa, ca, qb, cb, by simp [hd], by simpa using hI⟩
      refine Inv.Steps.cons rfl ?_ ?_
      · intro L a w' hI hL hd K hK
        obtain ⟨qa, ca, qb, cb, rfl, hI⟩ := hI
        simp [Region.binds] at hd
        simp only [hd, if_true]
        rw [if_pos (by rfl)]
        go_simp
        exact hK.out _ _ ⟨qa, ca, qb, cb, by simp [hd], by simpa using hI⟩
      exact Inv.Steps.nil (by decide)
    case done =>
      intro L a w' hI hall
      obtain ⟨qa, ca, qb, cb, rfl, hI⟩ := hI
      simp only [hall, if_true] at hI ⊢
      go_wp2
      go_ret
      exact ⟨rfl, hI.2.2.2.1⟩
end Go.Proofs.Ytjjgecnnginnpaa.Policy
