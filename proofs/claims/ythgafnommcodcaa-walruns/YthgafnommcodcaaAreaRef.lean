/-
  The document's Segs, Slot, Seg, Next, Used.
-/
import Derived.Test.YthgafnommcodcaaAreaPlain
import Derived.Test.YthgafnommcodcaaBlk
import Derived.LoopTactic
namespace Go.Proofs.Ythgafnommcodcaa.Area
open Go.RowKit Go.Proofs.Ythgafnommcodcaa.Mem
set_option maxRecDepth 100000
set_option maxHeartbeats 1000000

theorem ref_Segs (S : Int) (w : World) :
    Calls Try.prog 62 #[.int .i64 S] w fun e w' => e = .returned (.tuple #[.int .i64 (cnt S), .int .i64 (segE S)]) ∧ w' = w := by
  cases hf : fits S with
  | true =>
    rw [cnt_ok hf, segE_ok hf]
    obtain ⟨h1, h2⟩ := fits_iff.1 hf
    clear hf
    obtain ⟨n, hn⟩ : ∃ n, (S - 32) / 16 = n := ⟨_, rfl⟩
    have n1 : 32 + 16 * n ≤ S := by omega
    have n2 : S < 32 + 16 * (n + 1) := by omega
    rw [hn]
    clear hn
    go_enter Try.func62, Try.ntmps62
    go_wp2
    go_loop [4] (fun n => ∃ k : Nat, n = .int .i64 k ∧ 32 + 16 * (k : Int) ≤ S) (fun n => 40 - (intOf n).toNat)
    case atStart => exact ⟨0, rfl, by omega⟩
    case round =>
      obtain ⟨k, rfl, hk⟩ := hrel
      by_cases hlt : 32 + 16 * ((k : Int) + 1) ≤ S
      · go_wp2
        go_round
        case rel => exact ⟨k + 1, by go_num, by omega⟩
        case measure => simp [intOf]; omega
      · obtain rfl : n = (k : Int) := by omega
        go_wp2
        go_ret2
        exact ⟨rfl, rfl⟩
  | false =>
    rw [cnt_no hf, segE_no hf]
    have h := nofits hf
    clear hf
    rcases h with h | h
    · go_enter Try.func62, Try.ntmps62
      go_wp2
      go_ret2
      exact ⟨rfl, rfl⟩
    · go_enter Try.func62, Try.ntmps62
      go_wp2
      go_ret2
      exact ⟨rfl, rfl⟩
theorem ref_Seg (S k : Int) (w : World) :
    Calls Try.prog 40 #[.int .i64 S, .int .i64 k] w fun e w' => e = .returned (.tuple #[.int .i64 (plc S k), .int .i64 (plE S k)]) ∧ w' = w := by
  have hs := ref_Segs S w
  cases ht : there S k with
  | true =>
    rw [plc_ok ht, plE_ok ht]
    obtain ⟨⟨h1, h2⟩, h3, h4⟩ := there_iff.1 ht
    rw [cnt_ok (there_fits ht), segE_ok (there_fits ht)] at hs
    have h5 : (S - 32) / 16 ≤ 30 := by omega
    rw [Int.mul_comm k 16]
    clear ht
    generalize (S - 32) / 16 = n at *
    go_enter Try.func40, Try.ntmps40
    go_wp2_with (go_at_call 62; refine hs.mono ?_; rintro e w1 ⟨rfl, rfl⟩)
    go_ret2
    exact ⟨rfl, rfl⟩
  | false =>
    rw [plc_no ht, plE_no ht]
    cases hf : fits S with
    | false =>
      rw [cnt_no hf, segE_no hf] at hs
      clear ht hf
      go_enter Try.func40, Try.ntmps40
      go_wp2_with (go_at_call 62; refine hs.mono ?_; rintro e w1 ⟨rfl, rfl⟩)
      go_ret2
      exact ⟨rfl, rfl⟩
    | true =>
      rw [cnt_ok hf, segE_ok hf] at hs
      have h := there_no ht hf
      clear ht hf
      rcases h with h | ⟨h0, h⟩
      · go_enter Try.func40, Try.ntmps40
        go_wp2_with (go_at_call 62; refine hs.mono ?_; rintro e w1 ⟨rfl, rfl⟩)
        go_ret2
        exact ⟨rfl, rfl⟩
      · go_enter Try.func40, Try.ntmps40
        go_wp2_with (go_at_call 62; refine hs.mono ?_; rintro e w1 ⟨rfl, rfl⟩)
        go_ret2
        exact ⟨rfl, rfl⟩
theorem ref_Next (S k : Int) (w : World) :
    Calls Try.prog 55 #[.int .i64 S, .int .i64 k] w fun e w' => e = .returned (.tuple #[.int .i64 (nxt S k), .int .i64 (plE S k)]) ∧ w' = w := by
  have hs := ref_Segs S w
  cases ht : there S k with
  | true =>
    rw [nxt_ok ht, plE_ok ht]
    obtain ⟨⟨h1, h2⟩, h3, h4⟩ := there_iff.1 ht
    rw [cnt_ok (there_fits ht), segE_ok (there_fits ht)] at hs
    have h5 : (S - 32) / 16 ≤ 30 := by omega
    clear ht
    generalize (S - 32) / 16 = n at *
    by_cases hk : k + 1 = n
    · subst hk
      rw [if_pos rfl]
      go_enter Try.func55, Try.ntmps55
      go_wp2_with (go_at_call 62; refine hs.mono ?_; rintro e w1 ⟨rfl, rfl⟩)
      go_ret2
      exact ⟨rfl, rfl⟩
    · rw [if_neg hk]
      have d : (k == n - 1) = false := by simp; omega
      go_enter Try.func55, Try.ntmps55
      go_wp2_with (go_at_call 62; refine hs.mono ?_; rintro e w1 ⟨rfl, rfl⟩)
      go_ret2
      exact ⟨rfl, rfl⟩
  | false =>
    rw [nxt_no ht, plE_no ht]
    cases hf : fits S with
    | false =>
      rw [cnt_no hf, segE_no hf] at hs
      clear ht hf
      go_enter Try.func55, Try.ntmps55
      go_wp2_with (go_at_call 62; refine hs.mono ?_; rintro e w1 ⟨rfl, rfl⟩)
      go_ret2
      exact ⟨rfl, rfl⟩
    | true =>
      rw [cnt_ok hf, segE_ok hf] at hs
      have h := there_no ht hf
      clear ht hf
      rcases h with h | ⟨h0, h⟩
      · go_enter Try.func55, Try.ntmps55
        go_wp2_with (go_at_call 62; refine hs.mono ?_; rintro e w1 ⟨rfl, rfl⟩)
        go_ret2
        exact ⟨rfl, rfl⟩
      · go_enter Try.func55, Try.ntmps55
        go_wp2_with (go_at_call 62; refine hs.mono ?_; rintro e w1 ⟨rfl, rfl⟩)
        go_ret2
        exact ⟨rfl, rfl⟩
end Go.Proofs.Ythgafnommcodcaa.Area
