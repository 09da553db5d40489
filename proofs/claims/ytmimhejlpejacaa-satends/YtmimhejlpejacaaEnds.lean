/-
  The walk of the statement SatEnds: it returns true, whatever the world.
-/
import Derived.Test.YtmimhejlpejacaaSat
namespace Go.Proofs.Ytmimhejlpejacaa.Sat
open Go.RowKit Go.Shelf

theorem sshl_zero (n : Int) : sshl 0 n = 0 := by unfold sshl; simp

theorem ends_any (w : World) : Calls Try.prog 3 #[] w fun e w' => e = .returned (.bool true) ∧ Grown w w' := by
  have f1 : sadd 18446744073709551615 1 = 18446744073709551615 := by decide
  have f2 : smul 4294967296 4294967296 = 18446744073709551615 := by decide
  have f3 : ssub 3 5 = 0 := by decide
  have f4 : sshl 1 64 = 18446744073709551615 := by decide
  have f5 : sshl 1 63 = 9223372036854775808 := by decide
  have f6 : sshr 1 64 = 0 := by decide
  have f7 : sshl 0 999 = 0 := sshl_zero _
  go_enter Try.func3, Try.ntmps3
  go_wp2_with (first | (go_at_call 9; refine (alive_any _).mono ?_; rintro e w' ⟨rfl, rfl⟩) | (go_at_call 10; refine (add_any _ _ ?_ ?_ _).mono ?_; exact ⟨by decide, by decide⟩; exact ⟨by decide, by decide⟩; rintro e w' ⟨rfl, rfl⟩) | (go_at_call 11; refine (mul_any _ _ ?_ ?_ _).mono ?_; exact ⟨by decide, by decide⟩; exact ⟨by decide, by decide⟩; rintro e w' ⟨rfl, rfl⟩) | (go_at_call 12; refine (sub_any _ _ ?_ ?_ _).mono ?_; exact ⟨by decide, by decide⟩; exact ⟨by decide, by decide⟩; rintro e w' ⟨rfl, rfl⟩) | (go_at_call 13; refine (shl_any _ _ ?_ ?_ _).mono ?_; exact ⟨by decide, by decide⟩; exact ⟨by decide, by decide⟩; rintro e w' ⟨rfl, rfl⟩) | (go_at_call 14; refine (shr_any _ _ ?_ ?_ _).mono ?_; exact ⟨by decide, by decide⟩; exact ⟨by decide, by decide⟩; rintro e w' ⟨rfl, rfl⟩))
  go_ret
  exact ⟨rfl, Grown.refl _⟩
end Go.Proofs.Ytmimhejlpejacaa.Sat
