/-
  Which policies can be: the document's Right.
-/
import Derived.Test.YtfgndecnakfhnaaPolRight
import Derived.Test.YtfgndecnakfhnaaAddrRefNet
namespace Go.Proofs.Ytfgndecnakfhnaa.Policy
open Go.RowKit Go.Proofs.Ytfgndecnakfhnaa.Mem Go.Proofs.Ytfgndecnakfhnaa.Addr
set_option maxRecDepth 100000

theorem get7 (x0 x1 x2 x3 x4 x5 x6 : Int) (k : Nat) (hk : k < 7) (w : World) :
    (Instr.index 95 (.agg #[.int .u64 x0, .int .u64 x1, .int .u64 x2, .int .u64 x3, .int .u64 x4, .int .u64 x5, .int .u64 x6]) (.int .i64 (k : Int))).run Try.prog w = .ok (.int .u64 ([x0, x1, x2, x3, x4, x5, x6].getD k 0)) w := by
  have : k = 0 ∨ k = 1 ∨ k = 2 ∨ k = 3 ∨ k = 4 ∨ k = 5 ∨ k = 6 := by omega
  rcases this with rfl | rfl | rfl | rfl | rfl | rfl | rfl <;> simp [Instr.index, run_underlying Try.underlying95, asIntOf, go_sem]
set_option maxHeartbeats 4000000 in
theorem ref_RightP (p : Po) (hp : PoOk p) (w : World) :
    Calls Try.prog 42 #[pv p] w fun e w' => e = .returned (.bool (rightP p)) ∧ Below w.heap.size w w' := by
  have hr := fun W => ref_Right p.N hp.2.1 p.b W
  obtain ⟨s, N, b, x0, x1, x2, x3, x4, x5, x6⟩ := p
  simp only at hr
  unfold net at hr
  obtain ⟨R, hR⟩ : ∃ R, R = rightP ⟨s, N, b, x0, x1, x2, x3, x4, x5, x6⟩ := ⟨_, rfl⟩
  rw [← hR]
  have hR2 : Hid (R = rightP ⟨s, N, b, x0, x1, x2, x3, x4, x5, x6⟩) := hR
  clear hR hp
  by_cases h1 : s < 1
  · obtain rfl : R = false := by rw [hR2.out]; unfold rightP; simp; omega
    go_enter Try.func42, Try.ntmps42
    go_wp2_with (first
      | ((fail_if_success (have _ := hX1)); (refine at_box_po _ _ (by rfl) (by rfl) (by rfl) ?_); intro V1 hX1 hB1 hz1; have hk1 := cells13 hX1))
    go_ret
    exact ⟨rfl, hB1⟩
  by_cases h2 : 255 < s
  · obtain rfl : R = false := by rw [hR2.out]; unfold rightP; simp; omega
    go_enter Try.func42, Try.ntmps42
    go_wp2_with (first
      | ((fail_if_success (have _ := hX1)); (refine at_box_po _ _ (by rfl) (by rfl) (by rfl) ?_); intro V1 hX1 hB1 hz1; have hk1 := cells13 hX1))
    go_ret
    exact ⟨rfl, hB1⟩
  cases h3 : rightN N b with
  | false =>
    rw [h3] at hr
    obtain rfl : R = false := by rw [hR2.out]; unfold rightP; simp [h3]
    go_enter Try.func42, Try.ntmps42
    go_wp2_with (first
      | ((fail_if_success (have _ := hX1)); (refine at_box_po _ _ (by rfl) (by rfl) (by rfl) ?_); intro V1 hX1 hB1 hz1; have hk1 := cells13 hX1)
      | ((with_reducible refine (hr _).mono ?_); rintro e w2 ⟨rfl, hB2⟩; have hk2 := cells13 (hX1.below hB2)))
    go_ret
    exact ⟨rfl, bnext hB1 hB2⟩
  | true =>
    rw [h3] at hr
    have hR3 : Hid (R = (lowP ⟨s, N, b, x0, x1, x2, x3, x4, x5, x6⟩ && decide (1500 ≤ x5) && decide (1500 ≤ x6))) := by
      show _ = _
      rw [hR2.out]
      unfold rightP
      simp only [h3]
      rw [decide_eq_true (show 1 ≤ s by omega), decide_eq_true (show s ≤ 255 by omega)]
      simp
    obtain ⟨l, hl⟩ : ∃ l : List Int, l = [(x0 : Int), (x1 : Int), (x2 : Int), (x3 : Int), (x4 : Int), (x5 : Int), (x6 : Int)] := ⟨_, rfl⟩
    have hg7 := fun k hk W => get7 x0 x1 x2 x3 x4 x5 x6 k hk W
    rw [← hl] at hg7
    have hlow : Hid (lowP ⟨s, N, b, x0, x1, x2, x3, x4, x5, x6⟩ = true ↔ ∀ k, k < 7 → l.getD k 0 ≤ 281474976710656) := by
      show _ ↔ _
      rw [hl, low_iff]
      simp only
      constructor
      · rintro ⟨k0, k1, k2, k3, k4, k5, k6⟩ k hk
        have : k = 0 ∨ k = 1 ∨ k = 2 ∨ k = 3 ∨ k = 4 ∨ k = 5 ∨ k = 6 := by omega
        rcases this with rfl | rfl | rfl | rfl | rfl | rfl | rfl <;> simp <;> omega
      · intro h
        have a0 := h 0 (by omega)
        have a1 := h 1 (by omega)
        have a2 := h 2 (by omega)
        have a3 := h 3 (by omega)
        have a4 := h 4 (by omega)
        have a5 := h 5 (by omega)
        have a6 := h 6 (by omega)
        simp at a0 a1 a2 a3 a4 a5 a6
        omega
    clear hR2 hl h3
    go_enter Try.func42, Try.ntmps42
    go_wp2_with (first
      | ((fail_if_success (have _ := hX1)); (refine at_box_po _ _ (by rfl) (by rfl) (by rfl) ?_); intro V1 hX1 hB1 hz1; have hk1 := cells13 hX1)
      | ((with_reducible refine (hr _).mono ?_); rintro e w2 ⟨rfl, hB2⟩; have hX2 := hX1.below hB2; have hk2 := cells13 hX2))
    go_loopw [34] (fun i wr => ∃ k : Nat, k ≤ 7 ∧ i = .int .i64 k ∧ wr = w2 ∧ Hid (∀ j, j < k → l.getD j 0 ≤ 281474976710656)) (fun i _ => 7 - (intOf i).toNat)
    case atStart => exact ⟨0, by omega, rfl, rfl, fun j hj => absurd hj (by omega)⟩
    case round =>
      obtain ⟨k, hk, rfl, rfl, HK⟩ := hrel
      by_cases hlt : k < 7
      · have hg := fun W => hg7 k hlt W
        obtain ⟨x, hx⟩ : ∃ x, x = l.getD k 0 := ⟨_, rfl⟩
        rw [← hx] at hg
        have HX : Hid (x = l.getD k 0) := hx
        clear hx hg7
        have hlt2 : (k : Int) < 7 := by omega
        by_cases hb : 281474976710656 < x
        · obtain rfl : R = false := by
            rw [hR3.out]
            cases hlo : lowP ⟨s, N, b, x0, x1, x2, x3, x4, x5, x6⟩ with
            | false => simp
            | true => have := hlow.out.1 hlo k hlt; rw [← HX.out] at this; exact absurd hb (by omega)
          go_wp2
          go_ret
          exact ⟨rfl, bnext hB1 hB2⟩
        · go_wp2
          go_roundw
          case rel => exact ⟨k + 1, by omega, by go_num, trivial, fun j hj => by
            rcases Nat.lt_or_ge j k with h | h
            · exact HK.out j h
            · obtain rfl : j = k := by omega
              rw [← HX.out]; omega⟩
          case measure => simp [intOf]; omega
      · obtain rfl : k = 7 := by omega
        clear hg7
        have hlo := hlow.out.2 HK.out
        have hR4 : Hid (R = (decide (1500 ≤ x5) && decide (1500 ≤ x6))) := by
          show _ = _
          rw [hR3.out, hlo]; simp
        by_cases h5 : (1500 : Int) ≤ x5
        · by_cases h6 : (1500 : Int) ≤ x6
          · obtain rfl : R = true := by rw [hR4.out]; simp; omega
            go_wp2
            go_ret
            exact ⟨rfl, bnext hB1 hB2⟩
          · obtain rfl : R = false := by rw [hR4.out]; simp; omega
            have h6b : decide ((1500 : Int) ≤ x6) = false := decide_eq_false h6
            go_wp2
            go_ret
            exact ⟨rfl, bnext hB1 hB2⟩
        · obtain rfl : R = false := by rw [hR4.out]; simp; omega
          go_wp2
          go_ret
          exact ⟨rfl, bnext hB1 hB2⟩
end Go.Proofs.Ytfgndecnakfhnaa.Policy
