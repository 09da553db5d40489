/-
  The chapter's example: the statements' own first question. (Written by gen_palive.py.)
-/
import Derived.Test.YtjjgecnnginnpaaPolOne
import Derived.Test.YtjjgecnnginnpaaPolRefNums
import Derived.Test.YtjjgecnnginnpaaInv
namespace Go.Proofs.Ytjjgecnnginnpaa.Policy
open Go.RowKit Go.Proofs.Ytjjgecnnginnpaa.Mem Go.Proofs.Ytjjgecnnginnpaa.Addr
set_option maxRecDepth 100000

/-- A slice of numbers that is made. -/
theorem run_make_u64s (w : World) (n : Nat) (hn : n ≤ 100000) :
    ∃ w', (Instr.makeSlice 35 (.int .i64 (n : Int)) (.int .i64 (n : Int))).run Try.prog w = .ok (.slice (some ⟨w.heap.size, 0, none⟩) n n) w' ∧ Blk w' w.heap.size 26 ((List.replicate n (0 : Int)).map (Value.int .u64)) ∧ w.grownBy w' none := by
  obtain ⟨i, hi, hz, hsize, hby⟩ := info_u64
  obtain ⟨w', hr, ho, hg⟩ := run_make_full (P := Try.prog) w w.heap.size 35 26 i (.int .u64 0) 1 Try.underlying35 hi hz hsize .i64 .i64 n (by rw [hby]; omega) (by unfold maxLen; omega) (Nat.le_refl _)
  refine ⟨w', hr, ?_, hg⟩
  rcases ho.2 with ⟨h, _⟩ | ⟨g, cap, cur, hv, _, hh, _, _, hs, htk⟩
  · simp at h
  · simp only [Value.slice.injEq, Option.some.injEq, Addr.mk.injEq, and_true, true_and] at hv
    obtain ⟨rfl, rfl⟩ := hv
    unfold Blk
    rw [hh]
    have e1 : cur.toList = (madeCells #[Value.int .u64 0] n).toList := by
      rw [List.take_of_length_le (by rw [Array.length_toList, hs]; exact Nat.le_refl _)] at htk
      simpa [Value.cells] using htk
    rw [toList_madeCells_one] at e1
    have e2 : cur = (List.replicate n (Value.int .u64 0)).toArray := by rw [← e1]
    rw [e2]
    simp
theorem at_make10 {o : Oper} {a : Act} {w : World} {ops : Array Oper} {rest : List Oper} {Q : Exit → Act → World → Prop} (x : Operand) (ho : o.op = .makeSlice 35 x x) (hx : a.eval x = .int .i64 10) (hw : Region.wanted o (yielded ops a.tmps) = true)
    (h : ∀ w', Reads .u64 w' (some ⟨w.heap.size, 0, none⟩) 10 (List.replicate 10 0) → Below w.heap.size w w' → wpList Try.prog ops Q rest (a.put o.dst (.slice (some ⟨w.heap.size, 0, none⟩) 10 10)) w') : wpList Try.prog ops Q (o :: rest) a w := by
  obtain ⟨w', hr, hb, hg⟩ := run_make_u64s w 10 (by decide)
  refine BigFrame.wpList_want hw fun _ hK => wp_run (Instr.makeSlice 35 (.int .i64 10) (.int .i64 10)) (by simp [execOp, ho, hx]) hr (hK _ _ (h w' (Blk.reads hb (by decide)) ?_))
  exact (Below.refl _ _).grown hg (Nat.le_refl _) (fun _ hk => by simp at hk)
theorem of_back {p : Po} (h : rightP p = true) (hN : p.N < 4294967296) : ofP (numsL p) = p ∧ ofE (numsL p) = 0 := by
  unfold ofP ofE
  rw [isP_nums h hN, asP_nums]
  exact ⟨rfl, rfl⟩
theorem nums_right {p : Po} (h : rightP p = true) : numsP p = numsL p := by unfold numsP; rw [h]; rfl
theorem nums_wrong {p : Po} (h : rightP p = false) : numsP p = [] := by unfold numsP; rw [h]; rfl
theorem nums_word {p : Po} (hp : PoOk p) : ∀ x ∈ numsP p, Word x := by
  intro x hx
  cases h : rightP p with
  | false => rw [nums_wrong h] at hx; cases hx
  | true =>
    rw [nums_right h] at hx
    obtain ⟨h1, h2, h3, -⟩ := rightP_iff.1 h
    have h4 := bits_of h3
    obtain ⟨-, k1, -, k3, k4, k5, k6, k7, k8, k9⟩ := hp
    simp only [numsL, List.mem_cons, List.not_mem_nil, or_false] at hx
    unfold Word
    rcases hx with rfl | rfl | rfl | rfl | rfl | rfl | rfl | rfl | rfl | rfl <;> omega
theorem zero_ok : PoOk zeroP := by unfold PoOk zeroP Inty; simp only; omega
theorem of_ok (l : List Int) (h : ∀ x ∈ l, Word x) : PoOk (ofP l) := by
  unfold ofP
  split
  · rename_i hi
    obtain ⟨hl, h1, h2⟩ := isP_iff.1 hi
    obtain ⟨c0, c1, c2, c3, c4, c5, c6, c7, c8, c9, rfl⟩ := list10 l hl
    obtain ⟨k1, k2, k3, -⟩ := rightP_iff.1 h2
    have k4 := bits_of k3
    have g1 := h c1 (by simp)
    have g3 := h c3 (by simp)
    have g4 := h c4 (by simp)
    have g5 := h c5 (by simp)
    have g6 := h c6 (by simp)
    have g7 := h c7 (by simp)
    have g8 := h c8 (by simp)
    have g9 := h c9 (by simp)
    unfold Word at *
    simp [asP] at h1 k1 k2 k4
    unfold PoOk Inty asP
    simp
    omega
  · exact zero_ok
theorem is_zeros : isP (List.replicate 10 0) = false := by decide +kernel
theorem zeros : ofP (List.replicate 10 0) = zeroP ∧ ofE (List.replicate 10 0) = 111 := by
  unfold ofP ofE
  rw [is_zeros]
  exact ⟨rfl, rfl⟩
theorem right_one : rightP (oneP 1) = true ∧ rightP (oneP 2) = true ∧ rightP (oneP 3) = true ∧ rightP (oneP 7) = true := by decide +kernel
theorem word_zeros : ∀ x ∈ List.replicate 10 (0 : Int), Word x := fun x hx => by
  obtain rfl := List.eq_of_mem_replicate hx
  exact ⟨by decide, by decide⟩
theorem alive_any (w : World) : Calls Try.prog 9 #[] w fun e w' => e = .returned (.bool true) ∧ Below w.heap.size w w' := by
  have hOf0 := fun W (r : Reads .u64 W (some ⟨w.heap.size, 0, none⟩) 10 (List.replicate 10 0)) => policy_Of (some ⟨w.heap.size, 0, none⟩) 10 10 (List.replicate 10 0) rfl W r word_zeros
  rw [zeros.1, zeros.2] at hOf0
  have h7 : ∀ W, Calls Try.prog 8 #[.int .i64 7] W fun e w' => e = .returned (pv (oneP 7)) ∧ Below W.heap.size W w' := fun W => law_one 7 (by decide) W
  have h1 : ∀ W, Calls Try.prog 8 #[.int .i64 1] W fun e w' => e = .returned (pv (oneP 1)) ∧ Below W.heap.size W w' := fun W => law_one 1 (by decide) W
  have hn := fun W => policy_Nums (oneP 7) (one_ok (by decide)) W
  rw [nums_right right_one.2.2.2] at hn
  have hr := fun W => policy_Right (oneP 1) (one_ok (by decide)) W
  rw [right_one.1] at hr
  have hOf7 := fun W q c (r : Reads .u64 W q c (numsL (oneP 7))) => policy_Of q (numsL (oneP 7)).length c (numsL (oneP 7)) rfl W r (by rw [← nums_right right_one.2.2.2]; exact nums_word (one_ok (by decide)))
  rw [(of_back right_one.2.2.2 (by decide)).1, (of_back right_one.2.2.2 (by decide)).2] at hOf7
  go_enter Try.func9, Try.ntmps9
  go_wp2_with (first
    | ((fail_if_success (have _ := hB1)); (refine at_make10 _ (by rfl) (by rfl) (by rfl) ?_); intro V1 r1 hB1)
    | ((with_reducible refine (hOf0 _ r1).mono ?_); rintro e w2 ⟨rfl, hB2⟩)
    | ((fail_if_success (have _ := hX3)); (have _ := hB2); (refine at_alloc_po (by rfl) (by rfl) ?_); intro V3 hX3 hB3 hz3)
    | ((fail_if_success (have _ := hX4)); (have _ := hX3); (refine at_store_po _ _ _ _ _ (by rfl) (by rfl) (by rfl) hX3 rfl (by rfl) ?_); intro V4 hX4 hg4 hz4)
    | ((fail_if_success (have _ := hB5)); (have _ := hX4); (with_reducible refine (h7 _).mono ?_); rintro e w5 ⟨rfl, hB5⟩)
    | ((with_reducible refine (hn _).mono ?_); rintro e w6 ⟨q6, c6, rfl, r6, hB6, _⟩)
    | ((with_reducible refine (hOf7 _ _ _ r6).mono ?_); rintro e w7 ⟨rfl, hB7⟩)
    | ((fail_if_success (have _ := hX8)); (have _ := hB7); (refine at_alloc_po (by rfl) (by rfl) ?_); intro V8 hX8 hB8 hz8)
    | ((fail_if_success (have _ := hX9)); (have _ := hX8); (refine at_store_po _ _ _ _ _ (by rfl) (by rfl) (by rfl) hX8 rfl (by rfl) ?_); intro V9 hX9 hg9 hz9))
  have hB19 := bnext (bnext hB1 hB2) (bnext ((hB3.grown hg4 hB3.size (by simp))) (bnext hB5 (bnext hB6 hB7)))
  have hB9 := bnext hB19 (hB8.grown hg9 hB8.size (by simp))
  clear hOf0 hOf7 hn r1 r6
  refine Inv.region_inv (fun L a w' => a = { tmps := #[(if L 15 = true then (.bool true) else (.bool false)), (.pointer (some ⟨w2.heap.size, 0, none⟩)), (.int .i64 111), (.pointer (some ⟨w7.heap.size, 0, none⟩)), (.int .i64 0), (.tuple #[pv zeroP, .int .i64 111]), (.slice (some ⟨w.heap.size, 0, none⟩) 10 10), (.tuple #[pv zeroP, .int .i64 111]), (pv zeroP), (.int .i64 111), (.tuple #[pv (oneP 7), .int .i64 0]), (pv (oneP 7)), (.slice q6 (numsL (oneP 7)).length c6), (.tuple #[pv (oneP 7), .int .i64 0]), (pv (oneP 7)), (.int .i64 0), (if L 0 = true then (.int .i64 111) else undef), (if L 1 = true then (.bool true) else undef), (if L 2 = true then (.bool true) else undef), (if L 3 = true then (.int .i64 0) else undef), (if L 4 = true then (.bool true) else undef), (if L 5 = true then (.bool true) else undef), (if L 6 = true then (.bool true) else undef), (if L 7 = true then (pv (oneP 7)) else undef), (if L 8 = true then (pv (oneP 7)) else undef), (if L 9 = true then (.bool true) else undef), (if L 10 = true then (.bool true) else undef), (if L 11 = true then (.bool true) else undef), (if L 12 = true then (pv (oneP 1)) else undef), (if L 13 = true then (.bool true) else undef), (if L 14 = true then (.bool true) else undef)], defers := [] } ∧ (Blk w' w7.heap.size 28 (pl (oneP 7)) ∧ Below w.heap.size w w')) (by kernel_rfl) (by kernel_rfl) ?h0 ?step ?done
  case h0 => exact ⟨by simp, hX9.drew, hB9.drew⟩
  case step =>
    refine Inv.Steps.cons rfl ?_ ?_
    · intro L a w' hI hL hd K hK
      obtain ⟨rfl, hI⟩ := hI
      clear hd
      rw [if_pos (by rfl)]
      go_simp
      exact hK.out _ _ ⟨by simp, by simpa using hI⟩
    refine Inv.Steps.cons rfl ?_ ?_
    · intro L a w' hI hL hd K hK
      obtain ⟨rfl, hI⟩ := hI
      simp [Region.binds] at hd
      simp only [hd, if_true]
      rw [if_pos (by rfl)]
      go_simp
      exact hK.out _ _ ⟨by simp [hd], by simpa using hI⟩
    refine Inv.Steps.cons rfl ?_ ?_
    · intro L a w' hI hL hd K hK
      obtain ⟨rfl, hI⟩ := hI
      simp [Region.binds] at hd
      simp only [hd, if_true]
      rw [if_pos (by rfl)]
      go_simp
      exact hK.out _ _ ⟨by simp [hd], by simpa using hI⟩
    refine Inv.Steps.cons rfl ?_ ?_
    · intro L a w' hI hL hd K hK
      obtain ⟨rfl, hI⟩ := hI
      simp [Region.binds] at hd
      simp only [hd, if_true]
      rw [if_pos (by rfl)]
      go_simp
      exact hK.out _ _ ⟨by simp [hd], by simpa using hI⟩
    refine Inv.Steps.cons rfl ?_ ?_
    · intro L a w' hI hL hd K hK
      obtain ⟨rfl, hI⟩ := hI
      simp [Region.binds] at hd
      simp only [hd, if_true]
      rw [if_pos (by rfl)]
      go_simp
      exact hK.out _ _ ⟨by simp [hd], by simpa using hI⟩
    refine Inv.Steps.cons rfl ?_ ?_
    · intro L a w' hI hL hd K hK
      obtain ⟨rfl, hI⟩ := hI
      simp [Region.binds] at hd
      simp only [hd, if_true]
      rw [if_pos (by rfl)]
      go_simp
      exact hK.out _ _ ⟨by simp [hd], by simpa using hI⟩
    refine Inv.Steps.cons rfl ?_ ?_
    · intro L a w' hI hL hd K hK
      obtain ⟨rfl, hI⟩ := hI
      simp [Region.binds] at hd
      simp only [hd, if_true]
      rw [if_pos (by rfl)]
      go_simp
      exact hK.out _ _ ⟨by simp [hd], by simpa using hI⟩
    refine Inv.Steps.cons rfl ?_ ?_
    · intro L a w' hI hL hd K hK
      obtain ⟨rfl, hI⟩ := hI
      simp [Region.binds] at hd
      simp only [hd, if_true]
      rw [if_pos (by rfl)]
      refine wp_load_po _ _ _ (by rfl) (by rfl) hI.1 ?_
      exact hK.out _ _ ⟨by simp [hd, Act.put], hI⟩
    refine Inv.Steps.cons rfl ?_ ?_
    · intro L a w' hI hL hd K hK
      obtain ⟨rfl, hI⟩ := hI
      simp [Region.binds] at hd
      simp only [hd, if_true]
      rw [if_pos (by rfl)]
      go_simp
      refine (h7 _).mono ?_
      rintro e w10 ⟨rfl, hB10⟩
      exact hK.out _ _ ⟨by simp [hd], hI.1.below hB10, bnext hI.2 hB10⟩
    refine Inv.Steps.cons rfl ?_ ?_
    · intro L a w' hI hL hd K hK
      obtain ⟨rfl, hI⟩ := hI
      simp [Region.binds] at hd
      simp only [hd, if_true]
      rw [if_pos (by rfl)]
      refine wp_eq_po (one_ok (s := 7) (by decide)) (one_ok (s := 7) (by decide)) _ _ (by rfl) (by rfl) (by rfl) ?_
      rw [eqB_iff.2 rfl]
      exact hK.out _ _ ⟨by simp [hd, Act.put], hI⟩
    refine Inv.Steps.cons rfl ?_ ?_
    · intro L a w' hI hL hd K hK
      obtain ⟨rfl, hI⟩ := hI
      simp [Region.binds] at hd
      simp only [hd, if_true]
      rw [if_pos (by rfl)]
      go_simp
      exact hK.out _ _ ⟨by simp [hd], by simpa using hI⟩
    refine Inv.Steps.cons rfl ?_ ?_
    · intro L a w' hI hL hd K hK
      obtain ⟨rfl, hI⟩ := hI
      simp [Region.binds] at hd
      simp only [hd, if_true]
      rw [if_pos (by rfl)]
      go_simp
      exact hK.out _ _ ⟨by simp [hd], by simpa using hI⟩
    refine Inv.Steps.cons rfl ?_ ?_
    · intro L a w' hI hL hd K hK
      obtain ⟨rfl, hI⟩ := hI
      simp [Region.binds] at hd
      simp only [hd, if_true]
      rw [if_pos (by rfl)]
      go_simp
      refine (h1 _).mono ?_
      rintro e w10 ⟨rfl, hB10⟩
      exact hK.out _ _ ⟨by simp [hd], hI.1.below hB10, bnext hI.2 hB10⟩
    refine Inv.Steps.cons rfl ?_ ?_
    · intro L a w' hI hL hd K hK
      obtain ⟨rfl, hI⟩ := hI
      simp [Region.binds] at hd
      simp only [hd, if_true]
      rw [if_pos (by rfl)]
      go_simp
      refine (hr _).mono ?_
      rintro e w10 ⟨rfl, hB10⟩
      exact hK.out _ _ ⟨by simp [hd], hI.1.below hB10, bnext hI.2 hB10⟩
    refine Inv.Steps.cons rfl ?_ ?_
    · intro L a w' hI hL hd K hK
      obtain ⟨rfl, hI⟩ := hI
      simp [Region.binds] at hd
      simp only [hd, if_true]
      rw [if_pos (by rfl)]
      go_simp
      exact hK.out _ _ ⟨by simp [hd], by simpa using hI⟩
    refine Inv.Steps.cons rfl ?_ ?_
    · intro L a w' hI hL hd K hK
      obtain ⟨rfl, hI⟩ := hI
      simp [Region.binds] at hd
      simp only [hd, if_true]
      rw [if_pos (by rfl)]
      go_simp
      exact hK.out _ _ ⟨by simp [hd], by simpa using hI⟩
    exact Inv.Steps.nil (by decide)
  case done =>
    intro L a w' hI hall
    obtain ⟨rfl, hI⟩ := hI
    simp only [hall, if_true] at hI ⊢
    go_wp2
    go_ret
    exact ⟨rfl, hI.2⟩
end Go.Proofs.Ytjjgecnnginnpaa.Policy
