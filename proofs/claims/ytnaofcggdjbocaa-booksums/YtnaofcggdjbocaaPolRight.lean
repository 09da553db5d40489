/-
  Which policies can be: Right.
-/
import Derived.Test.YtnaofcggdjbocaaPolSat
namespace Go.Proofs.Ytnaofcggdjbocaa.Policy
open Go.RowKit Go.Proofs.Ytnaofcggdjbocaa.Mem Go.Proofs.Ytnaofcggdjbocaa.Addr
set_option maxRecDepth 100000

def mx (x y : Int) : Int := if y > x then y else x
theorem mx_le {x y c : Int} : mx x y ≤ c ↔ x ≤ c ∧ y ≤ c := by unfold mx; split <;> omega
theorem run_max7 {P : Program} (ts : Array TypeId) (t : TypeId) (x0 x1 x2 x3 x4 x5 x6 : Int) (w : World) :
    (Builtin.max_ ts t #[.int .u64 x0, .int .u64 x1, .int .u64 x2, .int .u64 x3, .int .u64 x4, .int .u64 x5, .int .u64 x6]).run P w = .ok (.int .u64 (mx (mx (mx (mx (mx (mx x0 x1) x2) x3) x4) x5) x6)) w := by
  simp [Builtin.max_, Builtin.max2, mx]
theorem run_min2 {P : Program} (ts : Array TypeId) (t : TypeId) (x y : Int) (w : World) : ∃ m : Int, (m = x ∨ m = y) ∧ m ≤ x ∧ m ≤ y ∧ (Builtin.min_ ts t #[.int .u64 x, .int .u64 y]).run P w = .ok (.int .u64 m) w := by
  refine ⟨if y < x then y else x, ?_, ?_, ?_, ?_⟩
  · split <;> simp
  · split <;> omega
  · split <;> omega
  · simp [Builtin.min_, Builtin.min2]
set_option maxHeartbeats 4000000 in
theorem policy_Right (p : Po) (hp : PoOk p) (w : World) :
    Calls Try.prog 58 #[pv p] w fun e w' => e = .returned (.bool (rightP p)) ∧ Below w.heap.size w w' := by
  have hr := fun W => addr_Right p.N hp.2.1 p.b W
  obtain ⟨s, N, b, x0, x1, x2, x3, x4, x5, x6⟩ := p
  simp only at hr
  unfold net at hr
  obtain ⟨R, hR⟩ : ∃ R, R = rightP ⟨s, N, b, x0, x1, x2, x3, x4, x5, x6⟩ := ⟨_, rfl⟩
  rw [← hR]
  have hR2 : Hid (R = rightP ⟨s, N, b, x0, x1, x2, x3, x4, x5, x6⟩) := hR
  clear hR hp
  have hmx := fun ts t W => run_max7 (P := Try.prog) ts t x0 x1 x2 x3 x4 x5 x6 W
  obtain ⟨M, hM⟩ : ∃ M, M = mx (mx (mx (mx (mx (mx (x0 : Int) x1) x2) x3) x4) x5) x6 := ⟨_, rfl⟩
  rw [← hM] at hmx
  have hM2 : Hid (M ≤ 281474976710656 ↔ lowP ⟨s, N, b, x0, x1, x2, x3, x4, x5, x6⟩ = true) := by
    show _ ↔ _
    rw [hM, low_iff]
    simp only [mx_le]
    omega
  clear hM
  by_cases h1 : 1 ≤ s
  · by_cases h2 : s ≤ 255
    · cases h3 : rightN N b with
      | true =>
        rw [h3] at hr
        by_cases h4 : M ≤ 281474976710656
        · by_cases h5 : (1500 : Int) ≤ x5
          · by_cases h6 : (1500 : Int) ≤ x6
            · obtain rfl : R = true := by rw [hR2.out]; have := hM2.out.1 h4; unfold rightP; simp [h1, h2, h3, this]; omega
              go_enter Try.func58, Try.ntmps58
              go_wp2_with (first
                | ((fail_if_success (have _ := hX1)); (refine at_box_po _ _ (by rfl) (by rfl) (by rfl) ?_); intro V1 hX1 hB1 hz1; have hk1 := cells13 hX1)
                | ((with_reducible refine (hr _).mono ?_); rintro e w2 ⟨rfl, hB2⟩; have hk2 := cells13 (hX1.below hB2)))
              all_goals
                go_ret
                exact ⟨by first | rfl | (simp; omega), bnext hB1 hB2⟩
            · obtain rfl : R = false := by rw [hR2.out]; unfold rightP; simp; omega
              go_enter Try.func58, Try.ntmps58
              go_wp2_with (first
                | ((fail_if_success (have _ := hX1)); (refine at_box_po _ _ (by rfl) (by rfl) (by rfl) ?_); intro V1 hX1 hB1 hz1; have hk1 := cells13 hX1)
                | ((with_reducible refine (hr _).mono ?_); rintro e w2 ⟨rfl, hB2⟩; have hk2 := cells13 (hX1.below hB2)))
              all_goals
                go_ret
                exact ⟨by first | rfl | (simp; omega), bnext hB1 hB2⟩
          · obtain rfl : R = false := by rw [hR2.out]; unfold rightP; simp; omega
            go_enter Try.func58, Try.ntmps58
            go_wp2_with (first
              | ((fail_if_success (have _ := hX1)); (refine at_box_po _ _ (by rfl) (by rfl) (by rfl) ?_); intro V1 hX1 hB1 hz1; have hk1 := cells13 hX1)
              | ((with_reducible refine (hr _).mono ?_); rintro e w2 ⟨rfl, hB2⟩; have hk2 := cells13 (hX1.below hB2)))
            all_goals
              go_ret
              exact ⟨by first | rfl | (simp; omega), bnext hB1 hB2⟩
        · obtain rfl : R = false := by rw [hR2.out]; unfold rightP; cases hl : lowP ⟨s, N, b, x0, x1, x2, x3, x4, x5, x6⟩ with | true => exact absurd (hM2.out.2 hl) h4 | false => simp
          go_enter Try.func58, Try.ntmps58
          go_wp2_with (first
            | ((fail_if_success (have _ := hX1)); (refine at_box_po _ _ (by rfl) (by rfl) (by rfl) ?_); intro V1 hX1 hB1 hz1; have hk1 := cells13 hX1)
            | ((with_reducible refine (hr _).mono ?_); rintro e w2 ⟨rfl, hB2⟩; have hk2 := cells13 (hX1.below hB2)))
          all_goals
            go_ret
            exact ⟨by first | rfl | (simp; omega), bnext hB1 hB2⟩
      | false =>
        rw [h3] at hr
        obtain rfl : R = false := by rw [hR2.out]; unfold rightP; simp [h3]
        go_enter Try.func58, Try.ntmps58
        go_wp2_with (first
          | ((fail_if_success (have _ := hX1)); (refine at_box_po _ _ (by rfl) (by rfl) (by rfl) ?_); intro V1 hX1 hB1 hz1; have hk1 := cells13 hX1)
          | ((with_reducible refine (hr _).mono ?_); rintro e w2 ⟨rfl, hB2⟩; have hk2 := cells13 (hX1.below hB2)))
        go_ret
        exact ⟨by first | rfl | (simp; omega), bnext hB1 hB2⟩
    · obtain rfl : R = false := by rw [hR2.out]; unfold rightP; simp [h2]
      go_enter Try.func58, Try.ntmps58
      go_wp2_with (first
        | ((fail_if_success (have _ := hX1)); (refine at_box_po _ _ (by rfl) (by rfl) (by rfl) ?_); intro V1 hX1 hB1 hz1; have hk1 := cells13 hX1)
        | ((with_reducible refine (hr _).mono ?_); rintro e w2 ⟨rfl, hB2⟩; have hk2 := cells13 (hX1.below hB2)))
      go_ret
      exact ⟨rfl, hB1⟩
  · obtain rfl : R = false := by rw [hR2.out]; unfold rightP; simp [h1]
    go_enter Try.func58, Try.ntmps58
    go_wp2_with (first
      | ((fail_if_success (have _ := hX1)); (refine at_box_po _ _ (by rfl) (by rfl) (by rfl) ?_); intro V1 hX1 hB1 hz1; have hk1 := cells13 hX1)
      | ((with_reducible refine (hr _).mono ?_); rintro e w2 ⟨rfl, hB2⟩; have hk2 := cells13 (hX1.below hB2)))
    go_ret
    exact ⟨rfl, hB1⟩
end Go.Proofs.Ytnaofcggdjbocaa.Policy
