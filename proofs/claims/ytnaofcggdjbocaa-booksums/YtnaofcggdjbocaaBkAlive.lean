/-
  The chapter's examples of layer 13 hold; BookNames. (Written by gen_bkalive.py.)
-/
import Derived.Test.YtnaofcggdjbocaaBkOne
import Derived.Test.YtnaofcggdjbocaaBkBytes
import Derived.Test.YtnaofcggdjbocaaPolOne
namespace Go.Proofs.Ytnaofcggdjbocaa.Book
open Go.RowKit Go.Proofs.Ytnaofcggdjbocaa.Mem Go.Proofs.Ytnaofcggdjbocaa.Policy Go.Proofs.Ytnaofcggdjbocaa.Event Go.Proofs.Ytnaofcggdjbocaa.Addr
set_option maxRecDepth 100000

def b1 : Bk := ⟨1, []⟩
def b2 : Bk := ⟨1, [⟨oneQ 4, 0⟩]⟩
def b3 : Bk := ⟨1, [⟨oneQ 4, 1500⟩]⟩
def putX : Ev := ⟨1, 0, [oneQ 4], [], 0, 0⟩
def dropX : Ev := ⟨1, 0, [], [4], 0, 0⟩
def leaseX (g : Int) : Ev := ⟨2, 4, [], [], g, 0⟩
def rollX (t : Int) : Ev := ⟨3, 0, [], [], 0, t⟩
theorem ex_bytes : bytesB b1 = [1] ∧ errB b1 = 0 := by decide +kernel
theorem ex_put : appB b1 putX = b2 ∧ appE b1 putX = 0 := ⟨sameB_iff.1 (by decide +kernel), by decide +kernel⟩
theorem ex_lease : appB b2 (leaseX 1500) = b3 ∧ appE b2 (leaseX 1500) = 0 := ⟨sameB_iff.1 (by decide +kernel), by decide +kernel⟩
theorem ex_find : findE b3.es 4 = ⟨oneQ 4, 1500⟩ ∧ foundB b3.es 4 = true := ⟨eqE_iff.1 (by decide +kernel), by decide +kernel⟩
theorem ex_no : appE b1 (leaseX 1) = 131 ∧ appE b1 dropX = 131 ∧ appE b1 (rollX 3) = 131 ∧ appE b1 (rollX 2) = 0 ∧ rightB zeroB = false := by decide +kernel
theorem ex_roll : (appB b1 (rollX 2)).t = 2 := by decide +kernel
theorem is_b1 (w : World) : IsB w ⟨1, none, 0, 0⟩ b1 := ⟨rfl, rfl, RK.nil _ _⟩
theorem is_put {w : World} {q : Option Addr} (r : RK pl w q 1 [oneQ 4]) : Is w ⟨1, 0, q, 1, 1, none, 0, 0, 0, 0⟩ putX := ⟨⟨rfl, rfl, rfl, rfl⟩, ⟨rfl, r⟩, rfl, Reads.nil _ _⟩
theorem is_drop {w : World} {q : Option Addr} (r : Reads .i64 w q 1 [4]) : Is w ⟨1, 0, none, 0, 0, q, 1, 1, 0, 0⟩ dropX := ⟨⟨rfl, rfl, rfl, rfl⟩, ⟨rfl, RK.nil _ _⟩, rfl, r⟩
theorem is_lease (w : World) (s g : Int) : Is w ⟨2, s, none, 0, 0, none, 0, 0, g, 0⟩ ⟨2, s, [], [], g, 0⟩ := ⟨⟨rfl, rfl, rfl, rfl⟩, ⟨rfl, RK.nil _ _⟩, rfl, Reads.nil _ _⟩
theorem is_roll (w : World) (t : Int) : Is w ⟨3, 0, none, 0, 0, none, 0, 0, 0, t⟩ (rollX t) := ⟨⟨rfl, rfl, rfl, rfl⟩, ⟨rfl, RK.nil _ _⟩, rfl, Reads.nil _ _⟩
theorem b1_ok : BkOk b1 := ⟨⟨by decide, by decide⟩, by simp [b1]⟩
theorem b2_ok : ∀ e ∈ b2.es, EnOk e := by
  intro e he
  simp only [b2, List.mem_singleton] at he
  subst he
  exact ⟨oneq_ok (by decide), ⟨by decide, by decide⟩⟩
theorem put_ok : ∀ p ∈ putX.ps, PoOk p := by
  intro p hp
  simp only [putX, List.mem_singleton] at hp
  subst hp
  exact oneq_ok (by decide)
set_option maxHeartbeats 4000000 in
theorem alive_any (w : World) : Calls Try.prog 11 #[] w fun e w' => e = .returned (.bool true) ∧ Below w.heap.size w w' := by
  have hBy := fun W => book_Bytes ⟨1, none, 0, 0⟩ b1 W (is_b1 W) b1_ok (by decide)
  rw [ex_bytes.1, ex_bytes.2] at hBy
  have h4 : ∀ W, Calls Try.prog 28 #[.int .i64 4] W fun e w' => e = .returned (pv (oneQ 4)) ∧ Below W.heap.size W w' := fun W => law_oneq 4 (by decide) W
  have hA1 := fun {W : World} {q : Option Addr} (r : RK pl W q 1 [oneQ 4]) => book_Apply ⟨1, none, 0, 0⟩ b1 ⟨1, 0, q, 1, 1, none, 0, 0, 0, 0⟩ putX W (is_b1 W) (is_put r) b1_ok.2 put_ok (by decide) (by simp) (by simp)
  rw [ex_put.1, ex_put.2] at hA1
  have hA2 := fun {W : World} {h : Bh} (i : IsB W h b2) => book_Apply h b2 ⟨2, 4, none, 0, 0, none, 0, 0, 1500, 0⟩ (leaseX 1500) W i (is_lease W 4 1500) b2_ok (by simp [leaseX]) (by have := i.2.1; simp [b2] at this; omega) (by simp) (by simp)
  rw [ex_lease.1, ex_lease.2] at hA2
  have hF := fun {W : World} {h : Bh} (i : IsB W h b3) => book_Find h b3 4 W i (by have := i.2.1; simp [b3] at this; omega)
  rw [ex_find.1, ex_find.2] at hF
  have hs : str [1] = ⟨#[1]⟩ := rfl
  have oq : PoOk (oneQ 4) := oneq_ok (by decide)
  have eqq : eqB (oneQ 4) (oneQ 4) = true := by decide +kernel
  go_enter Try.func11, Try.ntmps11
  go_wp2_with (first
    | ((fail_if_success (have _ := hB1)); (refine at_build_bperiod _ 1 (by rfl) (by rfl) (by rfl) ?_))
    | ((fail_if_success (have _ := hB1)); (with_reducible refine (hBy _).mono ?_); rintro e w1 ⟨q1, c1, rfl, r1, hB1⟩; have hC1 := hB1; have hFx1 := r1)
    | ((fail_if_success (have _ := hB2)); (have _ := hB1); (refine at_build_bperiod _ 1 (by rfl) (by rfl) (by rfl) ?_))
    | ((fail_if_success (have _ := hB2)); (have _ := hB1); (with_reducible refine (h4 _).mono ?_); rintro e w2 ⟨rfl, hB2⟩; have hFx2 := hFx1.below hB2; have hC2 := bnext hC1 hB2)
    | ((fail_if_success (have _ := hB3)); (have _ := hB2); (refine at_pol1 _ (oneQ 4) (by rfl) (by rfl) (by rfl) ?_); intro V3 r3 hB3; have hFx3 := hFx2.below hB3; have hC3 := bnext hC2 hB3; have hFp3 := r3)
    | ((fail_if_success (have _ := hB4)); (have _ := hB3); (refine at_build_puts _ _ _ _ (by rfl) (by rfl) (by rfl) ?_))
    | ((fail_if_success (have _ := hB4)); (have _ := hB3); (with_reducible refine (hA1 hFp3).mono ?_); rintro e w4 ⟨hh4, rfl, i4, -, hB4⟩; have hFx4 := hFx3.below hB4; have hFp4 := hFp3.below hB4; have hC4 := bnext hC3 hB4; have hFb4 := i4)
    | ((fail_if_success (have _ := hB5)); (have _ := hB4); (refine at_alloc_bk (by rfl) (by rfl) ?_); intro V5 hXb5 hB5 hz5)
    | ((fail_if_success (have _ := hB6)); (have _ := hB5); (refine at_store_bk _ _ _ _ _ (by rfl) (by rfl) (by rfl) hXb5 rfl (by rfl) ?_); intro V6 hXb6 hg6 hz6; have hB6 := hB5.grown hg6 hB5.size (by simp); have hFx6 := hFx4.below hB6; have hFp6 := hFp4.below hB6; have hFb6 := hFb4.below hB6; have hC6 := bnext hC4 hB6)
    | ((fail_if_success (have _ := hB7)); (have _ := hB6); (refine at_build_lease _ _ 4 1500 (by rfl) (by rfl) (by rfl) (by rfl) ?_))
    | ((fail_if_success (have _ := hB7)); (have _ := hB6); (refine at_load_bk _ _ _ (by rfl) (by rfl) hXb6 (by rfl) ?_))
    | ((fail_if_success (have _ := hB7)); (have _ := hB6); (with_reducible refine (hA2 hFb6).mono ?_); rintro e w7 ⟨hh7, rfl, i7, -, hB7⟩; have hXb7 := hXb6.below hB7; have hFx7 := hFx6.below hB7; have hFp7 := hFp6.below hB7; have hFb7 := hFb6.below hB7; have hC7 := bnext hC6 hB7; have hFc7 := i7)
    | ((fail_if_success (have _ := hB8)); (have _ := hB7); (refine at_alloc_bk (by rfl) (by rfl) ?_); intro V8 hXc8 hB8 hz8)
    | ((fail_if_success (have _ := hB9)); (have _ := hB8); (refine at_store_bk _ _ _ _ _ (by rfl) (by rfl) (by rfl) hXc8 rfl (by rfl) ?_); intro V9 hXc9 hg9 hz9; have hB9 := hB8.grown hg9 hB8.size (by simp); have hXb9 := hXb7.below hB9; have hFx9 := hFx7.below hB9; have hFp9 := hFp7.below hB9; have hFb9 := hFb7.below hB9; have hFc9 := hFc7.below hB9; have hC9 := bnext hC7 hB9)
    | ((fail_if_success (have _ := hB10)); (have _ := hB9); (refine at_load_bk _ _ _ (by rfl) (by rfl) hXb9 (by rfl) ?_))
    | ((fail_if_success (have _ := hB10)); (have _ := hB9); (refine at_load_bk _ _ _ (by rfl) (by rfl) hXc9 (by rfl) ?_))
    | ((fail_if_success (have _ := hB10)); (have _ := hB9); (with_reducible refine (hF hFc9).mono ?_); rintro e w10 ⟨rfl, hB10⟩; have hXb10 := hXb9.below hB10; have hXc10 := hXc9.below hB10; have hFx10 := hFx9.below hB10; have hFp10 := hFp9.below hB10; have hFb10 := hFb9.below hB10; have hFc10 := hFc9.below hB10; have hC10 := bnext hC9 hB10)
    | ((fail_if_success (have _ := hB11)); (have _ := hB10); (refine at_alloc_en (by rfl) (by rfl) ?_); intro V11 hXy11 hB11 hz11)
    | ((fail_if_success (have _ := hB12)); (have _ := hB11); (refine at_store_en _ _ _ _ _ (by rfl) (by rfl) (by rfl) hXy11 rfl (by rfl) ?_); intro V12 hXy12 hg12 hz12; have hB12 := hB11.grown hg12 hB11.size (by simp); have hXb12 := hXb10.below hB12; have hXc12 := hXc10.below hB12; have hFx12 := hFx10.below hB12; have hFp12 := hFp10.below hB12; have hFb12 := hFb10.below hB12; have hFc12 := hFc10.below hB12; have hC12 := bnext hC10 hB12)
    | ((fail_if_success (have _ := hB13)); (have _ := hB12); (refine at_load_bk _ _ _ (by rfl) (by rfl) hXb12 (by rfl) ?_))
    | ((fail_if_success (have _ := hB13)); (have _ := hB12); (refine at_load_bk _ _ _ (by rfl) (by rfl) hXc12 (by rfl) ?_))
    | ((fail_if_success (have _ := hB13)); (have _ := hB12); (refine at_load_en _ _ _ (by rfl) (by rfl) hXy12 (by rfl) ?_)))
  refine Inv.region_inv (fun L a w' => a = { tmps := #[(if L 29 = true then (.bool true) else (Value.bool false)), (Value.slice q1 1 c1), (Value.int IntKind.i64 0), (Value.pointer (some { block := w4.heap.size, off := 0 })), (Value.int IntKind.i64 0), (Value.pointer (some { block := w7.heap.size, off := 0 })), (Value.int IntKind.i64 0), (Value.pointer (some { block := w10.heap.size, off := 0 })), (Value.bool true), (Value.tuple #[Value.slice q1 1 c1, Value.int IntKind.i64 0]), (bv { t := 1, q := none, n := 0, c := 0 }), (Value.tuple #[Value.slice q1 1 c1, Value.int IntKind.i64 0]), (Value.slice q1 1 c1), (Value.int IntKind.i64 0), (Value.tuple #[bv hh4, Value.int IntKind.i64 0]), (bv { t := 1, q := none, n := 0, c := 0 }), (pv (oneQ 4)), (Value.slice (some { block := w2.heap.size, off := 0 }) 1 1), (ev { k := 1, s := 0, pp := some { block := w2.heap.size, off := 0 }, pn := 1, pc := 1, dp := none, dn := 0, dc := 0, g := 0, t := 0 }), (Value.tuple #[bv hh4, Value.int IntKind.i64 0]), (bv hh4), (Value.int IntKind.i64 0), (Value.tuple #[bv hh7, Value.int IntKind.i64 0]), (bv hh4), (ev { k := 2, s := 4, pp := none, pn := 0, pc := 0, dp := none, dn := 0, dc := 0, g := 1500, t := 0 }), (Value.tuple #[bv hh7, Value.int IntKind.i64 0]), (bv hh7), (Value.int IntKind.i64 0), (Value.tuple #[nv { p := oneQ 4, g := 1500 }, Value.bool true]), (bv hh7), (Value.tuple #[nv { p := oneQ 4, g := 1500 }, Value.bool true]), (nv { p := oneQ 4, g := 1500 }), (Value.bool true), (if L 0 = true then (.int .i64 0) else undef), (if L 1 = true then (.bool true) else undef), (if L 2 = true then (.bool true) else undef), (if L 3 = true then (.slice q1 1 c1) else undef), (if L 4 = true then (.string ⟨#[1]⟩) else undef), (if L 5 = true then (.bool true) else undef), (if L 6 = true then (.bool true) else undef), (if L 7 = true then (.bool true) else undef), (if L 8 = true then (.int .i64 0) else undef), (if L 9 = true then (.bool true) else undef), (if L 10 = true then (.bool true) else undef), (if L 11 = true then (.bool true) else undef), (if L 12 = true then (.int .i64 0) else undef), (if L 13 = true then (.bool true) else undef), (if L 14 = true then (.bool true) else undef), (if L 15 = true then (.bool true) else undef), (if L 16 = true then (.bool true) else undef), (if L 17 = true then (.bool true) else undef), (if L 18 = true then (.bool true) else undef), (if L 19 = true then (.pointer (some ⟨w10.heap.size, 13, none⟩)) else undef), (if L 20 = true then (.int .u64 1500) else undef), (if L 21 = true then (.bool true) else undef), (if L 22 = true then (.bool true) else undef), (if L 23 = true then (.bool true) else undef), (if L 24 = true then (.pointer (some ⟨w10.heap.size, 0, none⟩)) else undef), (if L 25 = true then (pv (oneQ 4)) else undef), (if L 26 = true then (pv (oneQ 4)) else undef), (if L 27 = true then (.bool true) else undef), (if L 28 = true then (.bool true) else undef)], defers := [] } ∧ (Below V12.heap.size V12 w')) (by kernel_rfl) (by kernel_rfl) ?h0 ?step ?done
  case h0 => exact ⟨by simp, (Below.refl _ _).drew⟩
  case step =>
    refine Inv.Steps.cons rfl ?_ ?_
    · intro L a w' hI hL hd K hK
      obtain ⟨rfl, hI⟩ := hI
      clear hd
      rw [if_pos (by rfl)]
      go_simp
      exact hK.out _ _ ⟨by simp, hI⟩
    refine Inv.Steps.cons rfl ?_ ?_
    · intro L a w' hI hL hd K hK
      obtain ⟨rfl, hI⟩ := hI
      simp [Region.binds] at hd
      simp only [hd, if_true]
      rw [if_pos (by rfl)]
      go_simp
      exact hK.out _ _ ⟨by simp [hd], hI⟩
    refine Inv.Steps.cons rfl ?_ ?_
    · intro L a w' hI hL hd K hK
      obtain ⟨rfl, hI⟩ := hI
      simp [Region.binds] at hd
      simp only [hd, if_true]
      rw [if_pos (by rfl)]
      go_simp
      exact hK.out _ _ ⟨by simp [hd], hI⟩
    refine Inv.Steps.cons rfl ?_ ?_
    · intro L a w' hI hL hd K hK
      obtain ⟨rfl, hI⟩ := hI
      simp [Region.binds] at hd
      simp only [hd, if_true]
      rw [if_pos (by rfl)]
      go_simp
      exact hK.out _ _ ⟨by simp [hd], hI⟩
    refine Inv.Steps.cons rfl ?_ ?_
    · intro L a w' hI hL hd K hK
      obtain ⟨rfl, hI⟩ := hI
      simp [Region.binds] at hd
      simp only [hd, if_true]
      rw [if_pos (by rfl)]
      have hcv := conv (hFx12.below hI) rfl
      rw [hs] at hcv
      simp only [List.length_cons, List.length_nil, Nat.zero_add] at hcv
      go_simp
      exact hK.out _ _ ⟨by simp [hd], hI⟩
    refine Inv.Steps.cons rfl ?_ ?_
    · intro L a w' hI hL hd K hK
      obtain ⟨rfl, hI⟩ := hI
      simp [Region.binds] at hd
      simp only [hd, if_true]
      rw [if_pos (by rfl)]
      go_simp
      exact hK.out _ _ ⟨by simp [hd], hI⟩
    refine Inv.Steps.cons rfl ?_ ?_
    · intro L a w' hI hL hd K hK
      obtain ⟨rfl, hI⟩ := hI
      simp [Region.binds] at hd
      simp only [hd, if_true]
      rw [if_pos (by rfl)]
      go_simp
      exact hK.out _ _ ⟨by simp [hd], hI⟩
    refine Inv.Steps.cons rfl ?_ ?_
    · intro L a w' hI hL hd K hK
      obtain ⟨rfl, hI⟩ := hI
      simp [Region.binds] at hd
      simp only [hd, if_true]
      rw [if_pos (by rfl)]
      go_simp
      exact hK.out _ _ ⟨by simp [hd], hI⟩
    refine Inv.Steps.cons rfl ?_ ?_
    · intro L a w' hI hL hd K hK
      obtain ⟨rfl, hI⟩ := hI
      simp [Region.binds] at hd
      simp only [hd, if_true]
      rw [if_pos (by rfl)]
      go_simp
      exact hK.out _ _ ⟨by simp [hd], hI⟩
    refine Inv.Steps.cons rfl ?_ ?_
    · intro L a w' hI hL hd K hK
      obtain ⟨rfl, hI⟩ := hI
      simp [Region.binds] at hd
      simp only [hd, if_true]
      rw [if_pos (by rfl)]
      go_simp
      exact hK.out _ _ ⟨by simp [hd], hI⟩
    refine Inv.Steps.cons rfl ?_ ?_
    · intro L a w' hI hL hd K hK
      obtain ⟨rfl, hI⟩ := hI
      simp [Region.binds] at hd
      simp only [hd, if_true]
      rw [if_pos (by rfl)]
      go_simp
      exact hK.out _ _ ⟨by simp [hd], hI⟩
    refine Inv.Steps.cons rfl ?_ ?_
    · intro L a w' hI hL hd K hK
      obtain ⟨rfl, hI⟩ := hI
      simp [Region.binds] at hd
      simp only [hd, if_true]
      rw [if_pos (by rfl)]
      go_simp
      exact hK.out _ _ ⟨by simp [hd], hI⟩
    refine Inv.Steps.cons rfl ?_ ?_
    · intro L a w' hI hL hd K hK
      obtain ⟨rfl, hI⟩ := hI
      simp [Region.binds] at hd
      simp only [hd, if_true]
      rw [if_pos (by rfl)]
      go_simp
      exact hK.out _ _ ⟨by simp [hd], hI⟩
    refine Inv.Steps.cons rfl ?_ ?_
    · intro L a w' hI hL hd K hK
      obtain ⟨rfl, hI⟩ := hI
      simp [Region.binds] at hd
      simp only [hd, if_true]
      rw [if_pos (by rfl)]
      go_simp
      exact hK.out _ _ ⟨by simp [hd], hI⟩
    refine Inv.Steps.cons rfl ?_ ?_
    · intro L a w' hI hL hd K hK
      obtain ⟨rfl, hI⟩ := hI
      simp [Region.binds] at hd
      simp only [hd, if_true]
      rw [if_pos (by rfl)]
      go_simp
      exact hK.out _ _ ⟨by simp [hd], hI⟩
    refine Inv.Steps.cons rfl ?_ ?_
    · intro L a w' hI hL hd K hK
      obtain ⟨rfl, hI⟩ := hI
      simp [Region.binds] at hd
      simp only [hd, if_true]
      rw [if_pos (by rfl)]
      go_simp
      exact hK.out _ _ ⟨by simp [hd], hI⟩
    refine Inv.Steps.cons rfl ?_ ?_
    · intro L a w' hI hL hd K hK
      obtain ⟨rfl, hI⟩ := hI
      simp [Region.binds] at hd
      simp only [hd, if_true]
      rw [if_pos (by rfl)]
      go_simp
      exact hK.out _ _ ⟨by simp [hd], hI⟩
    refine Inv.Steps.cons rfl ?_ ?_
    · intro L a w' hI hL hd K hK
      obtain ⟨rfl, hI⟩ := hI
      simp [Region.binds] at hd
      simp only [hd, if_true]
      rw [if_pos (by rfl)]
      go_simp
      exact hK.out _ _ ⟨by simp [hd], hI⟩
    refine Inv.Steps.cons rfl ?_ ?_
    · intro L a w' hI hL hd K hK
      obtain ⟨rfl, hI⟩ := hI
      simp [Region.binds] at hd
      simp only [hd, if_true]
      rw [if_pos (by rfl)]
      go_simp
      exact hK.out _ _ ⟨by simp [hd], hI⟩
    refine Inv.Steps.cons rfl ?_ ?_
    · intro L a w' hI hL hd K hK
      obtain ⟨rfl, hI⟩ := hI
      simp [Region.binds] at hd
      simp only [hd, if_true]
      rw [if_pos (by rfl)]
      go_simp
      exact hK.out _ _ ⟨by simp [hd], hI⟩
    refine Inv.Steps.cons rfl ?_ ?_
    · intro L a w' hI hL hd K hK
      obtain ⟨rfl, hI⟩ := hI
      simp [Region.binds] at hd
      simp only [hd, if_true]
      rw [if_pos (by rfl)]
      have c6 := cells14 (hXy12.below hI)
      go_simp
      exact hK.out _ _ ⟨by simp [hd], hI⟩
    refine Inv.Steps.cons rfl ?_ ?_
    · intro L a w' hI hL hd K hK
      obtain ⟨rfl, hI⟩ := hI
      simp [Region.binds] at hd
      simp only [hd, if_true]
      rw [if_pos (by rfl)]
      go_simp
      exact hK.out _ _ ⟨by simp [hd], hI⟩
    refine Inv.Steps.cons rfl ?_ ?_
    · intro L a w' hI hL hd K hK
      obtain ⟨rfl, hI⟩ := hI
      simp [Region.binds] at hd
      simp only [hd, if_true]
      rw [if_pos (by rfl)]
      go_simp
      exact hK.out _ _ ⟨by simp [hd], hI⟩
    refine Inv.Steps.cons rfl ?_ ?_
    · intro L a w' hI hL hd K hK
      obtain ⟨rfl, hI⟩ := hI
      simp [Region.binds] at hd
      simp only [hd, if_true]
      rw [if_pos (by rfl)]
      go_simp
      exact hK.out _ _ ⟨by simp [hd], hI⟩
    refine Inv.Steps.cons rfl ?_ ?_
    · intro L a w' hI hL hd K hK
      obtain ⟨rfl, hI⟩ := hI
      simp [Region.binds] at hd
      simp only [hd, if_true]
      rw [if_pos (by rfl)]
      go_simp
      exact hK.out _ _ ⟨by simp [hd], hI⟩
    refine Inv.Steps.cons rfl ?_ ?_
    · intro L a w' hI hL hd K hK
      obtain ⟨rfl, hI⟩ := hI
      simp [Region.binds] at hd
      simp only [hd, if_true]
      rw [if_pos (by rfl)]
      refine wp_load_pr _ _ _ (oneQ 4) (by rfl) (by rfl) (pol_in (hXy12.below hI)) ?_
      exact hK.out _ _ ⟨by simp [hd, Act.put], hI⟩
    refine Inv.Steps.cons rfl ?_ ?_
    · intro L a w' hI hL hd K hK
      obtain ⟨rfl, hI⟩ := hI
      simp [Region.binds] at hd
      simp only [hd, if_true]
      rw [if_pos (by rfl)]
      go_simp
      refine (h4 _).mono ?_
      rintro e w20 ⟨rfl, hB20⟩
      exact hK.out _ _ ⟨by simp [hd], bnext hI hB20⟩
    refine Inv.Steps.cons rfl ?_ ?_
    · intro L a w' hI hL hd K hK
      obtain ⟨rfl, hI⟩ := hI
      simp [Region.binds] at hd
      simp only [hd, if_true]
      rw [if_pos (by rfl)]
      refine wp_eq_po oq oq _ _ (by rfl) (by rfl) (by rfl) ?_
      rw [eqq]
      exact hK.out _ _ ⟨by simp [hd, Act.put], hI⟩
    refine Inv.Steps.cons rfl ?_ ?_
    · intro L a w' hI hL hd K hK
      obtain ⟨rfl, hI⟩ := hI
      simp [Region.binds] at hd
      simp only [hd, if_true]
      rw [if_pos (by rfl)]
      go_simp
      exact hK.out _ _ ⟨by simp [hd], hI⟩
    refine Inv.Steps.cons rfl ?_ ?_
    · intro L a w' hI hL hd K hK
      obtain ⟨rfl, hI⟩ := hI
      simp [Region.binds] at hd
      simp only [hd, if_true]
      rw [if_pos (by rfl)]
      go_simp
      exact hK.out _ _ ⟨by simp [hd], hI⟩
    exact Inv.Steps.nil (by decide)
  case done =>
    intro L a w' hI hall
    obtain ⟨rfl, hI⟩ := hI
    simp only [hall, if_true] at hI ⊢
    go_wp2
    go_ret
    exact ⟨rfl, bnext hC12 hI⟩
end Go.Proofs.Ytnaofcggdjbocaa.Book
