/-
  The chapter's examples of layer 12 hold; EventNames; which events are too great.
-/
import Derived.Test.YtfgndecnakfhnaaEvRead
namespace Go.Proofs.Ytfgndecnakfhnaa.Event
open Go.RowKit Go.Proofs.Ytfgndecnakfhnaa.Mem Go.Proofs.Ytfgndecnakfhnaa.Policy
set_option maxRecDepth 100000

theorem bytes_five : bytesE (periodE 5) = [3, 5] := by decide +kernel
theorem err_five : errE (periodE 5) = 0 := by decide +kernel
theorem read_lease : rdEv [2, 7, 9] = leaseE 7 9 ∧ rdErr [2, 7, 9] = 0 := rd_some (some_read ⟨by simp [leaseE], by decide +kernel, by decide +kernel⟩)
theorem bytes_zero : bytesE zeroE = [] ∧ errE zeroE = 121 := by decide +kernel
theorem read_nothing : rdEv [] = zeroE ∧ rdErr [] = 121 := rd_none (by decide +kernel)
set_option maxHeartbeats 1000000 in
theorem alive_any (w : World) : Calls Try.prog 11 #[] w fun e w' => e = .returned (.bool true) ∧ Below w.heap.size w w' := by
  have hB := fun W => event_Bytes ⟨3, 0, none, 0, 0, none, 0, 0, 0, 5⟩ (periodE 5) W ⟨⟨rfl, rfl, rfl, rfl⟩, ⟨rfl, RK.nil _ _⟩, rfl, Reads.nil _ _⟩ (by simp [periodE]) (by decide) (by decide)
  rw [bytes_five, err_five] at hB
  have hR := fun W => event_Read (some ⟨W.heap.size, 0, none⟩) 3 3 [2, 7, 9] rfl (by intro c hc; simp at hc; rcases hc with rfl | rfl | rfl <;> exact ⟨by decide, by decide⟩) _ (lit_reads (w := W) (cs := #[.int .u8 2, .int .u8 7, .int .u8 9]) (e := 5) rfl rfl (by decide))
  rw [read_lease.1, read_lease.2] at hR
  have hs : str [3, 5] = ⟨#[3, 5]⟩ := rfl
  go_enter Try.func11, Try.ntmps11
  go_wp2_with (first
    | ((fail_if_success (have _ := hB2)); (refine at_build_period _ 5 (by rfl) (by rfl) (by rfl) ?_))
    | ((fail_if_success (have _ := hB2)); (with_reducible refine (hB _).mono ?_); rintro e w2 ⟨q2, c2, rfl, r2, hB2⟩)
    | ((fail_if_success (have _ := hB4)); (have _ := hB2); (with_reducible refine (hR _).mono ?_); rintro e w4 ⟨h4, rfl, hi4, -, hB4⟩; have hB24 := bnext (bnew w2 _) hB4; obtain ⟨k4, s4, pp4, pn4, pc4, dp4, dn4, dc4, g4, t4⟩ := h4; obtain ⟨⟨e1, e2, e3, e4⟩, -, -⟩ := hi4; simp only [leaseE] at e1 e2 e3 e4; subst e1 e2 e3 e4)
    | ((fail_if_success (have _ := hX5)); (have _ := hB4); (refine at_alloc_ev (by rfl) (by rfl) ?_); intro V5 hX5 hB5 hz5)
    | ((fail_if_success (have _ := hX6)); (have _ := hX5); (refine at_store_ev _ _ _ _ _ (by rfl) (by rfl) (by rfl) hX5 rfl (by rfl) ?_); intro V6 hX6 hg6 hz6; have hB46 := hB5.grown hg6 hB5.size (by simp); have hB26 := bnext hB24 hB46; have c6 := cells6 hX6; simp only at c6; have hcv := conv (r2.below hB26) rfl; rw [hs] at hcv; simp only [List.length_cons, List.length_nil, Nat.zero_add, Nat.reduceAdd] at hcv))
  go_ret
  exact ⟨rfl, bnext hB2 hB26⟩
theorem great_any (h : Eh) (w : World) : Calls Try.prog 12 #[ev h] w fun e w' => e = .returned (.bool (decide (30 < h.pn) || decide (30 < h.dn))) ∧ Below w.heap.size w w' := by
  obtain ⟨k, s, pp, pn, pc, dp, dn, dc, g, t⟩ := h
  simp only
  by_cases h1 : 30 < pn
  · have i1 : (30 : Int) < (pn : Int) := by omega
    rw [decide_eq_true h1]
    go_enter Try.func12, Try.ntmps12
    go_wp2_with (first
      | ((fail_if_success (have _ := hX1)); (refine at_box_ev _ _ (by rfl) (by rfl) (by rfl) ?_); intro V1 hX1 hB1 hz1; have c1 := cells6 hX1; simp only at c1))
    go_ret
    exact ⟨rfl, hB1⟩
  · have i1 : decide ((30 : Int) < (pn : Int)) = false := decide_eq_false (by omega)
    rw [decide_eq_false h1]
    by_cases h2 : 30 < dn
    · have i2 : (30 : Int) < (dn : Int) := by omega
      rw [decide_eq_true h2]
      go_enter Try.func12, Try.ntmps12
      go_wp2_with (first
        | ((fail_if_success (have _ := hX1)); (refine at_box_ev _ _ (by rfl) (by rfl) (by rfl) ?_); intro V1 hX1 hB1 hz1; have c1 := cells6 hX1; simp only at c1))
      go_ret
      exact ⟨rfl, hB1⟩
    · have i2 : decide ((30 : Int) < (dn : Int)) = false := decide_eq_false (by omega)
      rw [decide_eq_false h2]
      go_enter Try.func12, Try.ntmps12
      go_wp2_with (first
        | ((fail_if_success (have _ := hX1)); (refine at_box_ev _ _ (by rfl) (by rfl) (by rfl) ?_); intro V1 hX1 hB1 hz1; have c1 := cells6 hX1; simp only at c1))
      go_ret
      exact ⟨rfl, hB1⟩
set_option maxHeartbeats 1000000 in
theorem names_any (w : World) : Calls Try.prog 3 #[] w fun e w' => e = .returned (.bool true) ∧ Below w.heap.size w w' := by
  have hB := fun W => event_Bytes zeroH zeroE W (Is.zero _) (by simp [zeroE]) (by decide) (by decide)
  rw [bytes_zero.1, bytes_zero.2] at hB
  have hR := fun W => event_Read none 0 0 [] rfl (by simp) W (Reads.nil _ _)
  rw [read_nothing.1, read_nothing.2] at hR
  have ha := fun W => alive_any W
  go_enter Try.func3, Try.ntmps3
  go_wp2_with (first
    | ((fail_if_success (have _ := hB2)); (refine at_build_zero (by rfl) (by rfl) ?_))
    | ((fail_if_success (have _ := hB2)); (with_reducible refine (hB _).mono ?_); rintro e w2 ⟨q2, c2, rfl, r2, hB2⟩)
    | ((fail_if_success (have _ := hB4)); (have _ := hB2); (with_reducible refine (hR _).mono ?_); rintro e w4 ⟨h4, rfl, hi4, -, hB4⟩; have hB24 := bnext hB2 hB4)
    | ((fail_if_success (have _ := hX5)); (have _ := hB4); (refine at_alloc_ev (by rfl) (by rfl) ?_); intro V5 hX5 hB5 hz5)
    | ((fail_if_success (have _ := hX6)); (have _ := hX5); (refine at_store_ev _ _ _ _ _ (by rfl) (by rfl) (by rfl) hX5 rfl (by rfl) ?_); intro V6 hX6 hg6 hz6; have hB46 := hB5.grown hg6 hB5.size (by simp))
    | ((have _ := hX6); (with_reducible refine (ha _).mono ?_); rintro e w7 ⟨rfl, hB7⟩))
  go_ret
  exact ⟨rfl, bnext hB24 (bnext hB46 hB7)⟩
end Go.Proofs.Ytfgndecnakfhnaa.Event
