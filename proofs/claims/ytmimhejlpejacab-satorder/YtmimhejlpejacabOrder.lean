/-
  The walk of the statement SatOrder: it returns true at every five numbers.
-/
import Derived.Test.YtmimhejlpejacabSat
import Derived.Deep.RegionHeld3
namespace Go.Proofs.Ytmimhejlpejacab.Sat
open Go.RowKit Go.Shelf

set_option maxHeartbeats 1000000 in
theorem order_any (a b c d m : Int) (ha : Word a) (hb : Word b) (hc : Word c) (hd : Word d) (hm : Word m) (w : World) :
    Calls Try.prog 3 #[.agg #[.int .u64 a, .int .u64 b, .int .u64 c, .int .u64 d], .int .u64 m] w fun e w' => e = .returned (.bool true) ∧ New w w' := by
  have hs := sadd_word ha hm
  have e1 := scmp_turn (a * b) (c * d)
  have b1 := scmp_bounds (c * d) (a * b)
  have e2 : scmp (b * a) (d * c) = scmp (a * b) (c * d) := by rw [Int.mul_comm b, Int.mul_comm d]
  have e3 := scmp_self (a * b)
  obtain ⟨e4, e5⟩ := scmp_more ha hb hm
  go_enter Try.func3, Try.ntmps3
  go_wp2_with (go_at_call 6; refine (alive_any _).mono ?_; rintro e w' ⟨rfl, rfl⟩)
  go_region
  go_wp2_with (first | (go_at_call 7; refine (cross_any _ _ _ _ ?_ ?_ ?_ ?_ _).mono ?_; assumption; assumption; assumption; assumption; rintro e w' ⟨rfl, rfl⟩) | (go_at_call 8; refine (add_any _ _ ?_ ?_ _).mono ?_; assumption; assumption; rintro e w' ⟨rfl, rfl⟩) | (go_at_call 9; refine (mul_any _ _ ?_ ?_ _).mono ?_; assumption; assumption; rintro e w' ⟨rfl, rfl⟩))
  go_ret
  exact ⟨rfl, by repeat (first | with_reducible exact New.refl _ | with_reducible apply New.drew | with_reducible apply New.alloc)⟩
end Go.Proofs.Ytmimhejlpejacab.Sat
