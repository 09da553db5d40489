/-
  Package area: Segs, Slot, among, Seg, Next, Used, whatever is asked.
-/
import Derived.Test.YthgafnommcodcaaAreaPlain
import Derived.Test.YthgafnommcodcaaBlk
namespace Go.Proofs.Ythgafnommcodcaa.Area
open Go.RowKit Go.Proofs.Ythgafnommcodcaa.Mem
set_option maxRecDepth 100000
set_option maxHeartbeats 1000000

theorem area_Segs (S : Int) (w : World) :
    Calls Try.prog 35 #[.int .i64 S] w fun e w' => e = .returned (.tuple #[.int .i64 (cnt S), .int .i64 (segE S)]) ∧ w' = w := by
  cases hf : fits S with
  | true =>
    rw [cnt_ok hf, segE_ok hf]
    obtain ⟨h1, h2⟩ := fits_iff.1 hf
    clear hf
    go_enter Try.func35, Try.ntmps35
    go_wp2
    go_ret2
    exact ⟨rfl, rfl⟩
  | false =>
    rw [cnt_no hf, segE_no hf]
    have h := nofits hf
    clear hf
    rcases h with h | h
    · go_enter Try.func35, Try.ntmps35
      go_wp2
      go_ret2
      exact ⟨rfl, rfl⟩
    · go_enter Try.func35, Try.ntmps35
      go_wp2
      go_ret2
      exact ⟨rfl, rfl⟩
/-- How many there are, where there is such a one. -/
def amg (S k : Int) : Int := if there S k = true then (S - 32) / 16 else 0
theorem amg_ok {S k : Int} (h : there S k = true) : amg S k = (S - 32) / 16 := if_pos h
theorem amg_no {S k : Int} (h : there S k = false) : amg S k = 0 := if_neg (by simp [h])
theorem area_among (S k : Int) (w : World) :
    Calls Try.prog 61 #[.int .i64 S, .int .i64 k] w fun e w' => e = .returned (.tuple #[.int .i64 (amg S k), .int .i64 (plE S k)]) ∧ w' = w := by
  have hs := area_Segs S w
  cases ht : there S k with
  | true =>
    rw [amg_ok ht, plE_ok ht]
    obtain ⟨h1, h2, h3⟩ := there_iff.1 ht
    rw [cnt_ok (there_fits ht), segE_ok (there_fits ht)] at hs
    clear ht
    go_enter Try.func61, Try.ntmps61
    go_wp2_with (go_at_call 35; refine hs.mono ?_; rintro e w1 ⟨rfl, rfl⟩)
    go_ret2
    exact ⟨rfl, rfl⟩
  | false =>
    rw [amg_no ht, plE_no ht]
    cases hf : fits S with
    | false =>
      rw [cnt_no hf, segE_no hf] at hs
      clear ht hf
      go_enter Try.func61, Try.ntmps61
      go_wp2_with (go_at_call 35; refine hs.mono ?_; rintro e w1 ⟨rfl, rfl⟩)
      go_ret2
      exact ⟨rfl, rfl⟩
    | true =>
      rw [cnt_ok hf, segE_ok hf] at hs
      have h := there_no ht hf
      clear ht hf
      rcases h with h | ⟨h0, h⟩
      · go_enter Try.func61, Try.ntmps61
        go_wp2_with (go_at_call 35; refine hs.mono ?_; rintro e w1 ⟨rfl, rfl⟩)
        go_ret2
        exact ⟨rfl, rfl⟩
      · go_enter Try.func61, Try.ntmps61
        go_wp2_with (go_at_call 35; refine hs.mono ?_; rintro e w1 ⟨rfl, rfl⟩)
        go_ret2
        exact ⟨rfl, rfl⟩
theorem area_Seg (S k : Int) (w : World) :
    Calls Try.prog 58 #[.int .i64 S, .int .i64 k] w fun e w' => e = .returned (.tuple #[.int .i64 (plc S k), .int .i64 (plE S k)]) ∧ w' = w := by
  have hs := area_among S k w
  cases ht : there S k with
  | true =>
    rw [amg_ok ht, plE_ok ht] at hs
    rw [plc_ok ht, plE_ok ht]
    obtain ⟨h1, h2, h3⟩ := there_iff.1 ht
    clear ht
    go_enter Try.func58, Try.ntmps58
    go_wp2_with (go_at_call 61; refine hs.mono ?_; rintro e w1 ⟨rfl, rfl⟩)
    go_ret2
    exact ⟨rfl, rfl⟩
  | false =>
    rw [amg_no ht, plE_no ht] at hs
    rw [plc_no ht, plE_no ht]
    clear ht
    go_enter Try.func58, Try.ntmps58
    go_wp2_with (go_at_call 61; refine hs.mono ?_; rintro e w1 ⟨rfl, rfl⟩)
    go_ret2
    exact ⟨rfl, rfl⟩
theorem area_Next (S k : Int) (w : World) :
    Calls Try.prog 39 #[.int .i64 S, .int .i64 k] w fun e w' => e = .returned (.tuple #[.int .i64 (nxt S k), .int .i64 (plE S k)]) ∧ w' = w := by
  have hs := area_among S k w
  cases ht : there S k with
  | true =>
    rw [amg_ok ht, plE_ok ht] at hs
    rw [nxt_ok ht, plE_ok ht]
    obtain ⟨⟨h1, h2⟩, h3, h4⟩ := there_iff.1 ht
    have h5 : (S - 32) / 16 ≤ 30 := by omega
    clear ht
    generalize (S - 32) / 16 = n at *
    by_cases hk : k + 1 = n
    · subst hk
      rw [if_pos rfl]
      have hm : (k + 1).tmod (k + 1) = 0 := Int.tmod_self
      go_enter Try.func39, Try.ntmps39
      go_wp2_with (go_at_call 61; refine hs.mono ?_; rintro e w1 ⟨rfl, rfl⟩)
      go_ret2
      exact ⟨rfl, rfl⟩
    · rw [if_neg hk]
      have hm : (k + 1).tmod n = k + 1 := by rw [Int.tmod_eq_emod_of_nonneg (by omega)]; exact Int.emod_eq_of_lt (by omega) (by omega)
      go_enter Try.func39, Try.ntmps39
      go_wp2_with (go_at_call 61; refine hs.mono ?_; rintro e w1 ⟨rfl, rfl⟩)
      go_ret2
      exact ⟨rfl, rfl⟩
  | false =>
    rw [amg_no ht, plE_no ht] at hs
    rw [nxt_no ht, plE_no ht]
    clear ht
    go_enter Try.func39, Try.ntmps39
    go_wp2_with (go_at_call 61; refine hs.mono ?_; rintro e w1 ⟨rfl, rfl⟩)
    go_ret2
    exact ⟨rfl, rfl⟩
theorem area_Used (S a b : Int) (w : World) :
    Calls Try.prog 56 #[.int .i64 S, .int .i64 a, .int .i64 b] w fun e w' => e = .returned (.tuple #[.int .i64 (usd S a b), .int .i64 (usE S a b)]) ∧ w' = w := by
  have ha := area_among S a w
  have hb := area_among S b w
  cases ta : there S a with
  | false =>
    rw [usd_no (.inl ta), usE_no (.inl ta)]
    rw [amg_no ta, plE_no ta] at ha
    clear hb ta
    go_enter Try.func56, Try.ntmps56
    go_wp2_with (go_at_call 61; refine ha.mono ?_; rintro e w1 ⟨rfl, rfl⟩)
    go_ret2
    exact ⟨rfl, rfl⟩
  | true =>
    rw [amg_ok ta, plE_ok ta] at ha
    cases tb : there S b with
    | false =>
      rw [usd_no (.inr tb), usE_no (.inr tb)]
      rw [amg_no tb, plE_no tb] at hb
      clear ta tb
      go_enter Try.func56, Try.ntmps56
      go_wp2_with (go_at_call 61; (first | ((with_reducible refine ha.mono ?_); rintro e w1 ⟨rfl, rfl⟩) | ((with_reducible refine hb.mono ?_); rintro e w1 ⟨rfl, rfl⟩)))
      go_ret2
      exact ⟨rfl, rfl⟩
    | true =>
      rw [usd_ok ta tb, usE_ok ta tb]
      rw [amg_ok tb, plE_ok tb] at hb
      obtain ⟨⟨h1, h2⟩, h3, h4⟩ := there_iff.1 ta
      obtain ⟨_, h5, h6⟩ := there_iff.1 tb
      have h7 : (S - 32) / 16 ≤ 30 := by omega
      clear ta tb
      generalize (S - 32) / 16 = n at *
      by_cases hab : a ≤ b
      · have hd : decide (b - a < 0) = false := by simp; omega
        rw [way, if_pos hab]
        go_enter Try.func56, Try.ntmps56
        go_wp2_with (go_at_call 61; (first | ((with_reducible refine ha.mono ?_); rintro e w1 ⟨rfl, rfl⟩) | ((with_reducible refine hb.mono ?_); rintro e w1 ⟨rfl, rfl⟩)))
        go_ret2
        exact ⟨rfl, rfl⟩
      · have hd : decide (b - a < 0) = true := by simp; omega
        rw [way, if_neg hab]
        go_enter Try.func56, Try.ntmps56
        go_wp2_with (go_at_call 61; (first | ((with_reducible refine ha.mono ?_); rintro e w1 ⟨rfl, rfl⟩) | ((with_reducible refine hb.mono ?_); rintro e w1 ⟨rfl, rfl⟩)))
        go_ret2
        exact ⟨rfl, rfl⟩
end Go.Proofs.Ythgafnommcodcaa.Area
