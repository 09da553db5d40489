/-
  The walk of the statement SatBack: it returns true at every number and every int.
-/
import Derived.Test.YtmimhejlpejacabSat
namespace Go.Proofs.Ytmimhejlpejacab.Sat
open Go.RowKit Go.Shelf

theorem back_out (a n : Int) (h : n < 0 ∨ 63 < n) (w : World) :
    Calls Try.prog 4 #[.int .u64 a, .int .i64 n] w fun e w' => e = .returned (.bool true) ∧ Grown w w' := by
  by_cases h1 : n < 0
  · go_enter Try.func4, Try.ntmps4
    go_wp2_with (go_at_call 6; refine (alive_any _).mono ?_; rintro e w' ⟨rfl, rfl⟩)
    go_ret
    exact ⟨rfl, Grown.refl _⟩
  · have h2 : 63 < n := by omega
    go_enter Try.func4, Try.ntmps4
    go_wp2_with (go_at_call 6; refine (alive_any _).mono ?_; rintro e w' ⟨rfl, rfl⟩)
    go_ret
    exact ⟨rfl, Grown.refl _⟩

set_option maxHeartbeats 1000000 in
theorem back_in (a n : Int) (ha : Word a) (h1 : 0 ≤ n) (h2 : n ≤ 63) (w : World) :
    Calls Try.prog 4 #[.int .u64 a, .int .i64 n] w fun e w' => e = .returned (.bool true) ∧ Grown w w' := by
  have hn : Inty n := ⟨by omega, by omega⟩
  have hu : Word (sshl a n) := by
    obtain ⟨j, rfl⟩ := Int.eq_ofNat_of_zero_le h1
    exact sshl_word ha j
  have b0 := slog_nonneg a
  have b1 := slog_le ha
  have hk : Inty (slog a) := ⟨by omega, by omega⟩
  have hk1 : Inty (slog a - 1) := ⟨by omega, by omega⟩
  have z := log_zero ha
  by_cases hz : a = 0
  · subst hz
    by_cases hm : sshl 0 n = 18446744073709551615
    · exfalso; unfold sshl at hm; simp at hm
    have e := back_up (by omega) hm
    have hm' : (sshl 0 n != 18446744073709551615) = true := by simpa using hm
    clear hm
    go_enter Try.func4, Try.ntmps4
    go_wp2_with (first | (go_at_call 6; refine (alive_any _).mono ?_; rintro e w' ⟨rfl, rfl⟩) | (go_at_call 10; refine (shl_any _ _ ?_ ?_ _).mono ?_; assumption; assumption; rintro e w' ⟨rfl, rfl⟩) | (go_at_call 11; refine (shr_any _ _ ?_ ?_ _).mono ?_; assumption; assumption; rintro e w' ⟨rfl, rfl⟩) | (go_at_call 12; refine (log_any _ ?_ _).mono ?_; assumption; rintro e w' ⟨rfl, rfl⟩))
    go_ret
    exact ⟨rfl, Grown.refl _⟩
  have o := log_one ha hz
  have l1 := (slog_bounds ha hz).1
  have hz' : (a == 0) = false := by simpa using hz
  clear hz
  by_cases hm : sshl a n = 18446744073709551615
  · have hm' : (sshl a n != 18446744073709551615) = false := by simpa using hm
    clear hm
    go_enter Try.func4, Try.ntmps4
    go_wp2_with (first | (go_at_call 6; refine (alive_any _).mono ?_; rintro e w' ⟨rfl, rfl⟩) | (go_at_call 10; refine (shl_any _ _ ?_ ?_ _).mono ?_; assumption; assumption; rintro e w' ⟨rfl, rfl⟩) | (go_at_call 11; refine (shr_any _ _ ?_ ?_ _).mono ?_; assumption; assumption; rintro e w' ⟨rfl, rfl⟩) | (go_at_call 12; refine (log_any _ ?_ _).mono ?_; assumption; rintro e w' ⟨rfl, rfl⟩))
    go_ret
    exact ⟨rfl, Grown.refl _⟩
  · have e := back_up (by omega) hm
    have hm' : (sshl a n != 18446744073709551615) = true := by simpa using hm
    clear hm
    go_enter Try.func4, Try.ntmps4
    go_wp2_with (first | (go_at_call 6; refine (alive_any _).mono ?_; rintro e w' ⟨rfl, rfl⟩) | (go_at_call 10; refine (shl_any _ _ ?_ ?_ _).mono ?_; assumption; assumption; rintro e w' ⟨rfl, rfl⟩) | (go_at_call 11; refine (shr_any _ _ ?_ ?_ _).mono ?_; assumption; assumption; rintro e w' ⟨rfl, rfl⟩) | (go_at_call 12; refine (log_any _ ?_ _).mono ?_; assumption; rintro e w' ⟨rfl, rfl⟩))
    go_ret
    exact ⟨rfl, Grown.refl _⟩

theorem back_any (a n : Int) (ha : Word a) (w : World) :
    Calls Try.prog 4 #[.int .u64 a, .int .i64 n] w fun e w' => e = .returned (.bool true) ∧ Grown w w' := by
  by_cases h : n < 0 ∨ 63 < n
  · exact back_out a n h w
  · exact back_in a n ha (by omega) (by omega) w
end Go.Proofs.Ytmimhejlpejacab.Sat
