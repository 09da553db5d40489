/-
  The document's Segs, Slot, Seg, Next, Used.
-/
import Derived.Test.YthghnboblmdehaaAreaPlain
import Derived.Test.YthghnboblmdehaaMem
import Derived.LoopTactic
namespace Go.Proofs.Ythghnboblmdehaa.Area
open Go.RowKit Go.Proofs.Ythghnboblmdehaa.Mem
set_option maxRecDepth 100000
set_option maxHeartbeats 1000000

theorem ref_Segs (S : Int) (w : World) :
    Calls Try.prog 10 #[.int .i64 S] w fun e w' => e = .returned (.tuple #[.int .i64 (cnt S), .int .i64 (segE S)]) ∧ w' = w := by
  cases hf : fits S with
  | true =>
    rw [cnt_ok hf, segE_ok hf]
    obtain ⟨h1, h2⟩ := fits_iff.1 hf
    clear hf
    obtain ⟨n, hn⟩ : ∃ n, (S - 32) / 16 = n := ⟨_, rfl⟩
    have n1 : 32 + 16 * n ≤ S := by omega
    have n2 : S < 32 + 16 * (n + 1) := by omega
    rw [hn]
    clear hn
    go_enter Try.func10, Try.ntmps10
    go_wp2
    go_loop [4] (fun n => ∃ k : Nat, n = .int .i64 k ∧ 32 + 16 * (k : Int) ≤ S) (fun n => 40 - (intOf n).toNat)
    case atStart => exact ⟨0, rfl, by omega⟩
    case round =>
      obtain ⟨k, rfl, hk⟩ := hrel
      by_cases hlt : 32 + 16 * ((k : Int) + 1) ≤ S
      · go_wp2
        go_round
        case rel => exact ⟨k + 1, by go_num, by omega⟩
        case measure => simp [intOf]; omega
      · obtain rfl : n = (k : Int) := by omega
        go_wp2
        go_ret2
        exact ⟨rfl, rfl⟩
  | false =>
    rw [cnt_no hf, segE_no hf]
    have h := nofits hf
    clear hf
    rcases h with h | h
    · go_enter Try.func10, Try.ntmps10
      go_wp2
      go_ret2
      exact ⟨rfl, rfl⟩
    · go_enter Try.func10, Try.ntmps10
      go_wp2
      go_ret2
      exact ⟨rfl, rfl⟩
theorem ref_Slot (g : Int) (hg : Word g) (w : World) :
    Calls Try.prog 17 #[.int .u64 g] w fun e w' => e = .returned (.int .i64 (slotAt g)) ∧ w' = w := by
  obtain ⟨g0, g1⟩ := hg
  unfold slotAt
  by_cases h : g % 2 = 0
  · rw [h]
    go_enter Try.func17, Try.ntmps17
    go_wp2
    go_ret
    exact ⟨rfl, rfl⟩
  · have h1 : g % 2 = 1 := by omega
    rw [h1]
    go_enter Try.func17, Try.ntmps17
    go_wp2
    go_ret
    exact ⟨rfl, rfl⟩
theorem ref_Seg (S k : Int) (w : World) :
    Calls Try.prog 11 #[.int .i64 S, .int .i64 k] w fun e w' => e = .returned (.tuple #[.int .i64 (plc S k), .int .i64 (plE S k)]) ∧ w' = w := by
  have hs := ref_Segs S w
  cases ht : there S k with
  | true =>
    rw [plc_ok ht, plE_ok ht]
    obtain ⟨⟨h1, h2⟩, h3, h4⟩ := there_iff.1 ht
    rw [cnt_ok (there_fits ht), segE_ok (there_fits ht)] at hs
    have h5 : (S - 32) / 16 ≤ 30 := by omega
    rw [Int.mul_comm k 16]
    clear ht
    generalize (S - 32) / 16 = n at *
    go_enter Try.func11, Try.ntmps11
    go_wp2_with (go_at_call 10; refine hs.mono ?_; rintro e w1 ⟨rfl, rfl⟩)
    go_ret2
    exact ⟨rfl, rfl⟩
  | false =>
    rw [plc_no ht, plE_no ht]
    cases hf : fits S with
    | false =>
      rw [cnt_no hf, segE_no hf] at hs
      clear ht hf
      go_enter Try.func11, Try.ntmps11
      go_wp2_with (go_at_call 10; refine hs.mono ?_; rintro e w1 ⟨rfl, rfl⟩)
      go_ret2
      exact ⟨rfl, rfl⟩
    | true =>
      rw [cnt_ok hf, segE_ok hf] at hs
      have h := there_no ht hf
      clear ht hf
      rcases h with h | ⟨h0, h⟩
      · go_enter Try.func11, Try.ntmps11
        go_wp2_with (go_at_call 10; refine hs.mono ?_; rintro e w1 ⟨rfl, rfl⟩)
        go_ret2
        exact ⟨rfl, rfl⟩
      · go_enter Try.func11, Try.ntmps11
        go_wp2_with (go_at_call 10; refine hs.mono ?_; rintro e w1 ⟨rfl, rfl⟩)
        go_ret2
        exact ⟨rfl, rfl⟩
theorem ref_Next (S k : Int) (w : World) :
    Calls Try.prog 13 #[.int .i64 S, .int .i64 k] w fun e w' => e = .returned (.tuple #[.int .i64 (nxt S k), .int .i64 (plE S k)]) ∧ w' = w := by
  have hs := ref_Segs S w
  cases ht : there S k with
  | true =>
    rw [nxt_ok ht, plE_ok ht]
    obtain ⟨⟨h1, h2⟩, h3, h4⟩ := there_iff.1 ht
    rw [cnt_ok (there_fits ht), segE_ok (there_fits ht)] at hs
    have h5 : (S - 32) / 16 ≤ 30 := by omega
    clear ht
    generalize (S - 32) / 16 = n at *
    by_cases hk : k + 1 = n
    · subst hk
      rw [if_pos rfl]
      go_enter Try.func13, Try.ntmps13
      go_wp2_with (go_at_call 10; refine hs.mono ?_; rintro e w1 ⟨rfl, rfl⟩)
      go_ret2
      exact ⟨rfl, rfl⟩
    · rw [if_neg hk]
      have d : (k == n - 1) = false := by simp; omega
      go_enter Try.func13, Try.ntmps13
      go_wp2_with (go_at_call 10; refine hs.mono ?_; rintro e w1 ⟨rfl, rfl⟩)
      go_ret2
      exact ⟨rfl, rfl⟩
  | false =>
    rw [nxt_no ht, plE_no ht]
    cases hf : fits S with
    | false =>
      rw [cnt_no hf, segE_no hf] at hs
      clear ht hf
      go_enter Try.func13, Try.ntmps13
      go_wp2_with (go_at_call 10; refine hs.mono ?_; rintro e w1 ⟨rfl, rfl⟩)
      go_ret2
      exact ⟨rfl, rfl⟩
    | true =>
      rw [cnt_ok hf, segE_ok hf] at hs
      have h := there_no ht hf
      clear ht hf
      rcases h with h | ⟨h0, h⟩
      · go_enter Try.func13, Try.ntmps13
        go_wp2_with (go_at_call 10; refine hs.mono ?_; rintro e w1 ⟨rfl, rfl⟩)
        go_ret2
        exact ⟨rfl, rfl⟩
      · go_enter Try.func13, Try.ntmps13
        go_wp2_with (go_at_call 10; refine hs.mono ?_; rintro e w1 ⟨rfl, rfl⟩)
        go_ret2
        exact ⟨rfl, rfl⟩
/-- From one to another, by Next. -/
theorem ref_Used (S a b : Int) (w : World) :
    Calls Try.prog 15 #[.int .i64 S, .int .i64 a, .int .i64 b] w fun e w' => e = .returned (.tuple #[.int .i64 (usd S a b), .int .i64 (usE S a b)]) ∧ w' = w := by
  have ha := ref_Seg S a w
  have hb := ref_Seg S b w
  cases ta : there S a with
  | false =>
    rw [usd_no (.inl ta), usE_no (.inl ta)]
    rw [plE_no ta] at ha
    clear ta
    cases tb : plE S b == 0 with
    | false =>
      go_enter Try.func15, Try.ntmps15
      go_wp2_with (go_at_call 11; (first | ((with_reducible refine ha.mono ?_); rintro e w1 ⟨rfl, hw⟩; rw [hw]; clear hw) | ((with_reducible refine hb.mono ?_); rintro e w1 ⟨rfl, hw⟩; rw [hw]; clear hw)))
      go_ret2
      exact ⟨rfl, rfl⟩
    | true =>
      go_enter Try.func15, Try.ntmps15
      go_wp2_with (go_at_call 11; (first | ((with_reducible refine ha.mono ?_); rintro e w1 ⟨rfl, hw⟩; rw [hw]; clear hw) | ((with_reducible refine hb.mono ?_); rintro e w1 ⟨rfl, hw⟩; rw [hw]; clear hw)))
      go_ret2
      exact ⟨rfl, rfl⟩
  | true =>
    rw [plE_ok ta] at ha
    cases tb : there S b with
    | false =>
      rw [usd_no (.inr tb), usE_no (.inr tb)]
      rw [plE_no tb] at hb
      clear ta tb
      go_enter Try.func15, Try.ntmps15
      go_wp2_with (go_at_call 11; (first | ((with_reducible refine ha.mono ?_); rintro e w1 ⟨rfl, hw⟩; rw [hw]; clear hw) | ((with_reducible refine hb.mono ?_); rintro e w1 ⟨rfl, hw⟩; rw [hw]; clear hw)))
      go_ret2
      exact ⟨rfl, rfl⟩
    | true =>
      rw [usd_ok ta tb, usE_ok ta tb]
      rw [plE_ok tb] at hb
      obtain ⟨⟨h1, h2⟩, h3, h4⟩ := there_iff.1 ta
      obtain ⟨_, h5, h6⟩ := there_iff.1 tb
      have hN := fun k => ref_Next S k w
      have hX : ∀ k : Nat, (k : Int) < (S - 32) / 16 → nxt S k = if (k : Int) + 1 = (S - 32) / 16 then 0 else (k : Int) + 1 := fun k hk => nxt_ok (there_iff.2 ⟨⟨h1, h2⟩, by omega, hk⟩)
      have h7 : (S - 32) / 16 ≤ 30 := by omega
      clear ta tb
      generalize (S - 32) / 16 = n at *
      obtain ⟨W, hW⟩ : ∃ W, way n a b = W := ⟨_, rfl⟩
      have hW1 : a ≤ b → W = b - a + 1 := fun h => by rw [← hW, way, if_pos h]
      have hW2 : b < a → W = b - a + n + 1 := fun h => by rw [← hW, way, if_neg (by omega)]
      rw [hW]
      clear hW
      obtain ⟨f, rfl⟩ := Int.eq_ofNat_of_zero_le h3
      have HN : Hid (∀ k : Nat, (k : Int) < n → nxt S k = if (k : Int) + 1 = n then 0 else (k : Int) + 1) := hX
      clear hX
      go_enter Try.func15, Try.ntmps15
      go_wp2_with (go_at_call 11; (first | ((with_reducible refine ha.mono ?_); rintro e w1 ⟨rfl, hw⟩; rw [hw]; clear hw) | ((with_reducible refine hb.mono ?_); rintro e w1 ⟨rfl, hw⟩; rw [hw]; clear hw)))
      go_loop [1, 12] (fun x m => ∃ k j : Nat, x = .int .i64 k ∧ m = .int .i64 j ∧ (k : Int) < n ∧ ((k : Int) ≤ b → (j : Int) + (b - k) = W) ∧ (b < (k : Int) → (j : Int) + (b - k + n) = W)) (fun _ m => 40 - (intOf m).toNat)
      case atStart => exact ⟨f, 1, rfl, rfl, by omega, by omega, by omega⟩
      case round =>
        obtain ⟨k, j, rfl, rfl, hk, hj1, hj2⟩ := hrel
        have hc := hN k
        by_cases hkb : (k : Int) = b
        · have hj : (j : Int) = W := by omega
          subst hkb
          subst hj
          clear hj1 hj2 hW1 hW2
          go_wp2
          go_ret2
          exact ⟨rfl, rfl⟩
        · have d : ((k : Int) != b) = true := by simp; omega
          have hx := HN.out k hk
          by_cases hl : (k : Int) + 1 = n
          · rw [if_pos hl] at hx
            rw [hx] at hc
            clear hx
            go_wp2_with (go_at_call 13; refine hc.mono ?_; rintro e w1 ⟨rfl, hw⟩; rw [hw]; clear hw)
            go_round
            case rel => exact ⟨0, j + 1, by go_num, by go_num, by omega, by omega, by omega⟩
            case measure => simp [intOf]; omega
          · rw [if_neg hl] at hx
            rw [hx] at hc
            clear hx
            go_wp2_with (go_at_call 13; refine hc.mono ?_; rintro e w1 ⟨rfl, hw⟩; rw [hw]; clear hw)
            go_round
            case rel => exact ⟨k + 1, j + 1, by go_num, by go_num, by omega, by omega, by omega⟩
            case measure => simp [intOf]; omega
end Go.Proofs.Ythghnboblmdehaa.Area
