/-
  The walk of the statement SatThree: it returns true at every three numbers.
-/
import Derived.Test.YtmimhejlpejacabSat
import Derived.Deep.RegionHeld3
namespace Go.Proofs.Ytmimhejlpejacab.Sat
open Go.RowKit Go.Shelf

set_option maxHeartbeats 1000000 in
theorem three_a (a b c : Int) (ha : Word a) (hb : Word b) (hc : Word c) (z1 : (a != 0) = false) (w : World) :
    Calls Try.prog 5 #[.agg #[.int .u64 a, .int .u64 b, .int .u64 c]] w fun e w' => e = .returned (.bool true) ∧ New w w' := by
  have e1 := sadd_assoc ha hb hc
  have e2 := smul_comm a b
  have h1 := sadd_word ha hb
  have h2 := sadd_word hb hc
  by_cases hm : sadd a b = 18446744073709551615
  · have hm' : (sadd a b == 18446744073709551615) = true := by simpa using hm
    clear hm
    go_enter Try.func5, Try.ntmps5
    go_wp2_with (go_at_call 6; refine (alive_any _).mono ?_; rintro e w' ⟨rfl, rfl⟩)
    go_region
    go_wp2_with (first | (go_at_call 8; refine (add_any _ _ ?_ ?_ _).mono ?_; assumption; assumption; rintro e w' ⟨rfl, rfl⟩) | (go_at_call 9; refine (mul_any _ _ ?_ ?_ _).mono ?_; assumption; assumption; rintro e w' ⟨rfl, rfl⟩) | (go_at_call 13; refine (sub_any _ _ ?_ ?_ _).mono ?_; assumption; assumption; rintro e w' ⟨rfl, rfl⟩))
    go_ret
    exact ⟨rfl, by repeat (first | with_reducible exact New.refl _ | with_reducible apply New.drew | with_reducible apply New.alloc)⟩
  · obtain ⟨k1, k2⟩ := sadd_back ha hb hm
    have hm' : (sadd a b == 18446744073709551615) = false := by simpa using hm
    clear hm
    go_enter Try.func5, Try.ntmps5
    go_wp2_with (go_at_call 6; refine (alive_any _).mono ?_; rintro e w' ⟨rfl, rfl⟩)
    go_region
    go_wp2_with (first | (go_at_call 8; refine (add_any _ _ ?_ ?_ _).mono ?_; assumption; assumption; rintro e w' ⟨rfl, rfl⟩) | (go_at_call 9; refine (mul_any _ _ ?_ ?_ _).mono ?_; assumption; assumption; rintro e w' ⟨rfl, rfl⟩) | (go_at_call 13; refine (sub_any _ _ ?_ ?_ _).mono ?_; assumption; assumption; rintro e w' ⟨rfl, rfl⟩))
    go_ret
    exact ⟨rfl, by repeat (first | with_reducible exact New.refl _ | with_reducible apply New.drew | with_reducible apply New.alloc)⟩

set_option maxHeartbeats 1000000 in
theorem three_b (a b c : Int) (ha : Word a) (hb : Word b) (hc : Word c) (z1 : (a != 0) = true) (z2 : (b != 0) = false) (w : World) :
    Calls Try.prog 5 #[.agg #[.int .u64 a, .int .u64 b, .int .u64 c]] w fun e w' => e = .returned (.bool true) ∧ New w w' := by
  have e1 := sadd_assoc ha hb hc
  have e2 := smul_comm a b
  have h1 := sadd_word ha hb
  have h2 := sadd_word hb hc
  by_cases hm : sadd a b = 18446744073709551615
  · have hm' : (sadd a b == 18446744073709551615) = true := by simpa using hm
    clear hm
    go_enter Try.func5, Try.ntmps5
    go_wp2_with (go_at_call 6; refine (alive_any _).mono ?_; rintro e w' ⟨rfl, rfl⟩)
    go_region
    go_wp2_with (first | (go_at_call 8; refine (add_any _ _ ?_ ?_ _).mono ?_; assumption; assumption; rintro e w' ⟨rfl, rfl⟩) | (go_at_call 9; refine (mul_any _ _ ?_ ?_ _).mono ?_; assumption; assumption; rintro e w' ⟨rfl, rfl⟩) | (go_at_call 13; refine (sub_any _ _ ?_ ?_ _).mono ?_; assumption; assumption; rintro e w' ⟨rfl, rfl⟩))
    go_ret
    exact ⟨rfl, by repeat (first | with_reducible exact New.refl _ | with_reducible apply New.drew | with_reducible apply New.alloc)⟩
  · obtain ⟨k1, k2⟩ := sadd_back ha hb hm
    have hm' : (sadd a b == 18446744073709551615) = false := by simpa using hm
    clear hm
    go_enter Try.func5, Try.ntmps5
    go_wp2_with (go_at_call 6; refine (alive_any _).mono ?_; rintro e w' ⟨rfl, rfl⟩)
    go_region
    go_wp2_with (first | (go_at_call 8; refine (add_any _ _ ?_ ?_ _).mono ?_; assumption; assumption; rintro e w' ⟨rfl, rfl⟩) | (go_at_call 9; refine (mul_any _ _ ?_ ?_ _).mono ?_; assumption; assumption; rintro e w' ⟨rfl, rfl⟩) | (go_at_call 13; refine (sub_any _ _ ?_ ?_ _).mono ?_; assumption; assumption; rintro e w' ⟨rfl, rfl⟩))
    go_ret
    exact ⟨rfl, by repeat (first | with_reducible exact New.refl _ | with_reducible apply New.drew | with_reducible apply New.alloc)⟩

set_option maxHeartbeats 1000000 in
theorem three_c (a b c : Int) (ha : Word a) (hb : Word b) (hc : Word c) (z1 : (a != 0) = true) (z2 : (b != 0) = true) (z3 : (c != 0) = false) (w : World) :
    Calls Try.prog 5 #[.agg #[.int .u64 a, .int .u64 b, .int .u64 c]] w fun e w' => e = .returned (.bool true) ∧ New w w' := by
  have e1 := sadd_assoc ha hb hc
  have e2 := smul_comm a b
  have h1 := sadd_word ha hb
  have h2 := sadd_word hb hc
  by_cases hm : sadd a b = 18446744073709551615
  · have hm' : (sadd a b == 18446744073709551615) = true := by simpa using hm
    clear hm
    go_enter Try.func5, Try.ntmps5
    go_wp2_with (go_at_call 6; refine (alive_any _).mono ?_; rintro e w' ⟨rfl, rfl⟩)
    go_region
    go_wp2_with (first | (go_at_call 8; refine (add_any _ _ ?_ ?_ _).mono ?_; assumption; assumption; rintro e w' ⟨rfl, rfl⟩) | (go_at_call 9; refine (mul_any _ _ ?_ ?_ _).mono ?_; assumption; assumption; rintro e w' ⟨rfl, rfl⟩) | (go_at_call 13; refine (sub_any _ _ ?_ ?_ _).mono ?_; assumption; assumption; rintro e w' ⟨rfl, rfl⟩))
    go_ret
    exact ⟨rfl, by repeat (first | with_reducible exact New.refl _ | with_reducible apply New.drew | with_reducible apply New.alloc)⟩
  · obtain ⟨k1, k2⟩ := sadd_back ha hb hm
    have hm' : (sadd a b == 18446744073709551615) = false := by simpa using hm
    clear hm
    go_enter Try.func5, Try.ntmps5
    go_wp2_with (go_at_call 6; refine (alive_any _).mono ?_; rintro e w' ⟨rfl, rfl⟩)
    go_region
    go_wp2_with (first | (go_at_call 8; refine (add_any _ _ ?_ ?_ _).mono ?_; assumption; assumption; rintro e w' ⟨rfl, rfl⟩) | (go_at_call 9; refine (mul_any _ _ ?_ ?_ _).mono ?_; assumption; assumption; rintro e w' ⟨rfl, rfl⟩) | (go_at_call 13; refine (sub_any _ _ ?_ ?_ _).mono ?_; assumption; assumption; rintro e w' ⟨rfl, rfl⟩))
    go_ret
    exact ⟨rfl, by repeat (first | with_reducible exact New.refl _ | with_reducible apply New.drew | with_reducible apply New.alloc)⟩

set_option maxHeartbeats 1000000 in
theorem three_all (a b c : Int) (ha : Word a) (hb : Word b) (hc : Word c) (z1 : (a != 0) = true) (z2 : (b != 0) = true) (z3 : (c != 0) = true) (w : World) :
    Calls Try.prog 5 #[.agg #[.int .u64 a, .int .u64 b, .int .u64 c]] w fun e w' => e = .returned (.bool true) ∧ New w w' := by
  have e1 := sadd_assoc ha hb hc
  have e2 := smul_comm a b
  have h1 := sadd_word ha hb
  have h2 := sadd_word hb hc
  have h3 := smul_word ha hb
  have h4 := smul_word hb hc
  have h5 := smul_word hb ha
  have p1 : 1 ≤ a := by have := ha.1; have : ¬ a = 0 := by simpa using z1
                        omega
  have p2 : 1 ≤ b := by have := hb.1; have : ¬ b = 0 := by simpa using z2
                        omega
  have p3 : 1 ≤ c := by have := hc.1; have : ¬ c = 0 := by simpa using z3
                        omega
  have e3 := smul_assoc p1 p2 p3
  rw [e2] at e3
  by_cases hm : sadd a b = 18446744073709551615
  · have hm' : (sadd a b == 18446744073709551615) = true := by simpa using hm
    clear hm
    go_enter Try.func5, Try.ntmps5
    go_wp2_with (go_at_call 6; refine (alive_any _).mono ?_; rintro e w' ⟨rfl, rfl⟩)
    go_region
    go_wp2_with (first | (go_at_call 8; refine (add_any _ _ ?_ ?_ _).mono ?_; assumption; assumption; rintro e w' ⟨rfl, rfl⟩) | (go_at_call 9; refine (mul_any _ _ ?_ ?_ _).mono ?_; assumption; assumption; rintro e w' ⟨rfl, rfl⟩) | (go_at_call 13; refine (sub_any _ _ ?_ ?_ _).mono ?_; assumption; assumption; rintro e w' ⟨rfl, rfl⟩))
    go_ret
    exact ⟨rfl, by repeat (first | with_reducible exact New.refl _ | with_reducible apply New.drew | with_reducible apply New.alloc)⟩
  · obtain ⟨k1, k2⟩ := sadd_back ha hb hm
    have hm' : (sadd a b == 18446744073709551615) = false := by simpa using hm
    clear hm
    go_enter Try.func5, Try.ntmps5
    go_wp2_with (go_at_call 6; refine (alive_any _).mono ?_; rintro e w' ⟨rfl, rfl⟩)
    go_region
    go_wp2_with (first | (go_at_call 8; refine (add_any _ _ ?_ ?_ _).mono ?_; assumption; assumption; rintro e w' ⟨rfl, rfl⟩) | (go_at_call 9; refine (mul_any _ _ ?_ ?_ _).mono ?_; assumption; assumption; rintro e w' ⟨rfl, rfl⟩) | (go_at_call 13; refine (sub_any _ _ ?_ ?_ _).mono ?_; assumption; assumption; rintro e w' ⟨rfl, rfl⟩))
    go_ret
    exact ⟨rfl, by repeat (first | with_reducible exact New.refl _ | with_reducible apply New.drew | with_reducible apply New.alloc)⟩

theorem three_any (a b c : Int) (ha : Word a) (hb : Word b) (hc : Word c) (w : World) :
    Calls Try.prog 5 #[.agg #[.int .u64 a, .int .u64 b, .int .u64 c]] w fun e w' => e = .returned (.bool true) ∧ New w w' := by
  cases z1 : (a != 0) with
  | false => exact three_a a b c ha hb hc z1 w
  | true =>
    cases z2 : (b != 0) with
    | false => exact three_b a b c ha hb hc z1 z2 w
    | true =>
      cases z3 : (c != 0) with
      | false => exact three_c a b c ha hb hc z1 z2 z3 w
      | true => exact three_all a b c ha hb hc z1 z2 z3 w
end Go.Proofs.Ytmimhejlpejacab.Sat
