/-
  The walk of the statement SatInts: it returns true at every number and every int.
-/
import Derived.Test.YtmimhejlpejacaaSat
namespace Go.Proofs.Ytmimhejlpejacaa.Sat
open Go.RowKit Go.Shelf

theorem sint_back {a : Int} (h : ¬ 9223372036854775807 < a) : sint a = a := by unfold sint; rw [if_neg h]
theorem suint_back {n : Int} (h : ¬ n < 0) : suint n = n := by unfold suint; rw [if_neg h]
theorem sint_no {a : Int} (h : 9223372036854775807 < a) : sint a = 0 := by unfold sint; rw [if_pos h]
theorem suint_no {n : Int} (h : n < 0) : suint n = 0 := by unfold suint; rw [if_pos h]
theorem fits_yes {a : Int} (h : ¬ 9223372036854775807 < a) : fits a = true := by unfold fits; simp; omega
theorem fits_no {a : Int} (h : 9223372036854775807 < a) : fits a = false := by unfold fits; simp; omega
theorem nn_yes {n : Int} (h : ¬ n < 0) : decide (0 ≤ n) = true := by simp; omega
theorem nn_no {n : Int} (h : n < 0) : decide (0 ≤ n) = false := by simp; omega

set_option maxHeartbeats 1000000 in
theorem ints_any (a n : Int) (ha : Word a) (hn : Inty n) (w : World) :
    Calls Try.prog 7 #[.int .u64 a, .int .i64 n] w fun e w' => e = .returned (.bool true) ∧ Grown w w' := by
  have g1 := int_any a ha
  have g2 := uint_any n hn
  obtain ⟨a0, a1⟩ := ha; obtain ⟨n0, n1⟩ := hn
  by_cases h : 9223372036854775807 < a
  · rw [sint_no h, fits_no h] at g1
    by_cases k : n < 0
    · rw [suint_no k, nn_no k] at g2
      go_enter Try.func7, Try.ntmps7
      go_wp2_with (first | (go_at_call 9; refine (alive_any _).mono ?_; rintro e w' ⟨rfl, rfl⟩) | (go_at_call 26; refine (g1 _).mono ?_; rintro e w' ⟨rfl, rfl⟩) | (go_at_call 27; refine (g2 _).mono ?_; rintro e w' ⟨rfl, rfl⟩))
      go_ret
      exact ⟨rfl, Grown.refl _⟩
    · rw [suint_back k, nn_yes k] at g2
      have g3 := int_any n ⟨by omega, by omega⟩
      rw [sint_back (a := n) (by omega), fits_yes (a := n) (by omega)] at g3
      go_enter Try.func7, Try.ntmps7
      go_wp2_with (first | (go_at_call 9; refine (alive_any _).mono ?_; rintro e w' ⟨rfl, rfl⟩) | (go_at_call 26; refine (g1 _).mono ?_; rintro e w' ⟨rfl, rfl⟩) | (go_at_call 26; refine (g3 _).mono ?_; rintro e w' ⟨rfl, rfl⟩) | (go_at_call 27; refine (g2 _).mono ?_; rintro e w' ⟨rfl, rfl⟩))
      go_ret
      exact ⟨rfl, Grown.refl _⟩
  · rw [sint_back h, fits_yes h] at g1
    have g4 := uint_any a ⟨by omega, by omega⟩
    rw [suint_back (n := a) (by omega), nn_yes (n := a) (by omega)] at g4
    by_cases k : n < 0
    · rw [suint_no k, nn_no k] at g2
      go_enter Try.func7, Try.ntmps7
      go_wp2_with (first | (go_at_call 9; refine (alive_any _).mono ?_; rintro e w' ⟨rfl, rfl⟩) | (go_at_call 26; refine (g1 _).mono ?_; rintro e w' ⟨rfl, rfl⟩) | (go_at_call 27; refine (g2 _).mono ?_; rintro e w' ⟨rfl, rfl⟩) | (go_at_call 27; refine (g4 _).mono ?_; rintro e w' ⟨rfl, rfl⟩))
      go_ret
      exact ⟨rfl, Grown.refl _⟩
    · rw [suint_back k, nn_yes k] at g2
      have g3 := int_any n ⟨by omega, by omega⟩
      rw [sint_back (a := n) (by omega), fits_yes (a := n) (by omega)] at g3
      go_enter Try.func7, Try.ntmps7
      go_wp2_with (first | (go_at_call 9; refine (alive_any _).mono ?_; rintro e w' ⟨rfl, rfl⟩) | (go_at_call 26; refine (g1 _).mono ?_; rintro e w' ⟨rfl, rfl⟩) | (go_at_call 26; refine (g3 _).mono ?_; rintro e w' ⟨rfl, rfl⟩) | (go_at_call 27; refine (g2 _).mono ?_; rintro e w' ⟨rfl, rfl⟩) | (go_at_call 27; refine (g4 _).mono ?_; rintro e w' ⟨rfl, rfl⟩))
      go_ret
      exact ⟨rfl, Grown.refl _⟩
end Go.Proofs.Ytmimhejlpejacaa.Sat
