/-
  The walk of the statement SatShifts: it returns true at every number and every int.
-/
import Derived.Test.YtmimhejlpejacaaRef
namespace Go.Proofs.Ytmimhejlpejacaa.Sat
open Go.RowKit Go.Shelf

set_option maxHeartbeats 400000 in
/-- floodgateref01.Shl. -/
theorem rshl_any (a n : Int) (ha : Word a) (hn : Inty n) (w : World) :
    Calls Try.prog 18 #[.int .u64 a, .int .i64 n] w fun e w' => e = .returned (.int .u64 (sshl a n)) ∧ New w w' := by
  obtain ⟨n0, n1⟩ := hn
  go_enter Try.func18, Try.ntmps18
  go_wp2
  go_loopw [0, 5] (fun x k wr => ∃ j : Nat, j ≤ 64 ∧ (j = 0 ∨ (j : Int) ≤ n) ∧ x = .int .u64 (sshl a j) ∧ k = .int .i64 j ∧ New w wr) (fun _ k _ => 64 - (intOf k).toNat)
  case atStart => exact ⟨0, by omega, Or.inl rfl, by rw [sshl_nat, if_pos (by simpa using ha.2)]; simp, rfl, New.refl _⟩
  case round =>
    obtain ⟨j, h1, h2, rfl, rfl, hnew'⟩ := hrel
    have hnew : Hid (New w wr) := hnew'
    clear hnew'
    have hs := sshl_word ha j
    by_cases c1 : (j : Int) < n
    · by_cases c2 : (j : Int) < 64
      · have E : Hid (_ = _) := sshl_succ ha j
        go_wp2_with (go_at_call 15; refine (radd_any _ _ hs hs _).mono ?_; rintro e w1 ⟨rfl, hn1'⟩; have hn1 : Hid (New _ _) := hn1'; clear hn1')
        go_roundw
        case rel => exact ⟨j + 1, by omega, by omega, by rw [E.out], by go_num, hnew.out.trans hn1.out⟩
        case measure => simp [intOf]; omega
      · have E : Hid (_ = _) := sshl_all ha h1 h2 (by omega)
        go_wp2
        go_ret
        exact ⟨ret_int E.out, hnew.out⟩
    · have E : Hid (_ = _) := sshl_all ha h1 h2 (by omega)
      go_wp2
      go_ret
      exact ⟨ret_int E.out, hnew.out⟩

/-- floodgateref01.Shr. -/
theorem rshr_any (a n : Int) (ha : Word a) (hn : Inty n) (w : World) :
    Calls Try.prog 19 #[.int .u64 a, .int .i64 n] w fun e w' => e = .returned (.int .u64 (sshr a n)) ∧ w' = w := by
  obtain ⟨n0, n1⟩ := hn
  go_enter Try.func19, Try.ntmps19
  go_wp2
  go_loop [0, 5] (fun x k => ∃ j : Nat, j ≤ 64 ∧ (j = 0 ∨ (j : Int) ≤ n) ∧ x = .int .u64 (sshr a j) ∧ k = .int .i64 j) (fun _ k => 64 - (intOf k).toNat)
  case atStart => exact ⟨0, by omega, Or.inl rfl, by rw [sshr_nat]; simp, rfl⟩
  case round =>
    obtain ⟨j, h1, h2, rfl, rfl⟩ := hrel
    have hs := sshr_word ha j
    obtain ⟨s0, s1⟩ := hs
    by_cases c1 : (j : Int) < n
    · by_cases c2 : (j : Int) < 64
      · have E : Hid (_ = _) := sshr_succ a j
        go_wp2
        go_round
        case rel => exact ⟨j + 1, by omega, by omega, by rw [E.out], by go_num⟩
        case measure => simp [intOf]; omega
      · have E : Hid (_ = _) := sshr_all ha h1 h2 (by omega)
        go_wp2
        go_ret
        exact ⟨ret_int E.out, rfl⟩
    · have E : Hid (_ = _) := sshr_all ha h1 h2 (by omega)
      go_wp2
      go_ret
      exact ⟨ret_int E.out, rfl⟩

/-- floodgateref01.Log. -/
theorem rlog_any (a : Int) (ha : Word a) (w : World) :
    Calls Try.prog 21 #[.int .u64 a] w fun e w' => e = .returned (.int .i64 (slog a)) ∧ w' = w := by
  have hl := slog_le ha
  go_enter Try.func21, Try.ntmps21
  go_wp2
  go_loop [0, 3] (fun x k => ∃ u i : Int, Word u ∧ 0 ≤ i ∧ i + slog u = slog a ∧ x = .int .u64 u ∧ k = .int .i64 i) (fun x _ => (intOf x).toNat)
  case atStart => exact ⟨a, 0, ha, by omega, by omega, rfl, rfl⟩
  case round =>
    obtain ⟨u, i, hu, hi0, he', rfl, rfl⟩ := hrel
    have he : Hid (i + slog u = slog a) := he'
    have hi1 : i ≤ 64 := by have := slog_nonneg u; omega
    clear he'
    have iu := hu
    obtain ⟨u0, u1⟩ := iu
    by_cases c : 0 < u
    · have E : Hid (_ = _) := slog_half hu c
      go_wp2
      go_round
      case rel => exact ⟨u / 2, i + 1, ⟨by omega, by omega⟩, by omega, by have := he.out; have := E.out; omega, rfl, rfl⟩
      case measure => simp [intOf]; omega
    · have z : u = 0 := by omega
      subst z
      go_wp2
      go_ret
      exact ⟨ret_int (by have := he.out; rw [slog_zero] at this; omega), rfl⟩

set_option maxHeartbeats 400000 in
theorem shifts_any (a n : Int) (ha : Word a) (hn : Inty n) (w : World) :
    Calls Try.prog 5 #[.int .u64 a, .int .i64 n] w fun e w' => e = .returned (.bool true) ∧ Grown w w' := by
  go_enter Try.func5, Try.ntmps5
  go_wp2_with (first
    | (go_at_call 9; refine (alive_any _).mono ?_; rintro e w' ⟨rfl, rfl⟩)
    | (go_at_call 13; refine (shl_any _ _ ha hn _).mono ?_; rintro e w' ⟨rfl, rfl⟩)
    | (go_at_call 14; refine (shr_any _ _ ha hn _).mono ?_; rintro e w' ⟨rfl, rfl⟩)
    | (go_at_call 20; refine (log_any _ ha _).mono ?_; rintro e w' ⟨rfl, rfl⟩)
    | (go_at_call 18; refine (rshl_any _ _ ha hn _).mono ?_; rintro e w1 ⟨rfl, hn1'⟩; have hn1 : Hid (New _ _) := hn1'; clear hn1')
    | (go_at_call 19; refine (rshr_any _ _ ha hn _).mono ?_; rintro e w' ⟨rfl, rfl⟩)
    | (go_at_call 21; refine (rlog_any _ ha _).mono ?_; rintro e w' ⟨rfl, rfl⟩))
  go_ret
  exact ⟨rfl, hn1.out.2⟩
end Go.Proofs.Ytmimhejlpejacaa.Sat
