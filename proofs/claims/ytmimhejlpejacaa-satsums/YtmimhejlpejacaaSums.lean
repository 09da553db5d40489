/-
  The walk of the statement SatSums: it returns true at every two numbers.
-/
import Derived.Test.YtmimhejlpejacaaTimes
namespace Go.Proofs.Ytmimhejlpejacaa.Sat
open Go.RowKit Go.Shelf

/-- floodgateref01.Mul. -/
theorem rmul_any (a b : Int) (ha : Word a) (hb : Word b) (w : World) :
    Calls Try.prog 17 #[.int .u64 a, .int .u64 b] w fun e w' => e = .returned (.int .u64 (smul a b)) ∧ New w w' := by
  go_enter Try.func17, Try.ntmps17
  go_wp2_with (first
    | (go_at_call 34; refine (times_any _ _ ha hb _).mono ?_; rintro e w1 ⟨z0, z1, z2, z3, rfl, ⟨h0, h1, h2, h3, hv'⟩, hn'⟩; have hv : Hid (_ = _) := hv'; have hn : Hid (New _ _) := hn'; clear hv' hn')
    | (go_at_call 31; refine (cut_any _ _ _ _ h0 h1 h2 h3 _).mono ?_; rintro e w2 ⟨rfl, c1, rfl⟩))
  go_ret
  exact ⟨ret_int (by rw [hv.out]; rfl), hn.out.alloc _ _⟩

set_option maxHeartbeats 400000 in
theorem sums_any (a b : Int) (ha : Word a) (hb : Word b) (w : World) :
    Calls Try.prog 4 #[.int .u64 a, .int .u64 b] w fun e w' => e = .returned (.bool true) ∧ Grown w w' := by
  go_enter Try.func4, Try.ntmps4
  go_wp2_with (first
    | (go_at_call 9; refine (alive_any _).mono ?_; rintro e w' ⟨rfl, rfl⟩)
    | (go_at_call 10; refine (add_any _ _ ha hb _).mono ?_; rintro e w' ⟨rfl, rfl⟩)
    | (go_at_call 12; refine (sub_any _ _ ha hb _).mono ?_; rintro e w' ⟨rfl, rfl⟩)
    | (go_at_call 11; refine (mul_any _ _ ha hb _).mono ?_; rintro e w' ⟨rfl, rfl⟩)
    | (go_at_call 15; refine (radd_any _ _ ha hb _).mono ?_; rintro e w1 ⟨rfl, hn1'⟩; have hn1 : Hid (New _ _) := hn1'; clear hn1')
    | (go_at_call 16; refine (rsub_any _ _ ha hb _).mono ?_; rintro e w' ⟨rfl, rfl⟩)
    | (go_at_call 17; refine (rmul_any _ _ ha hb _).mono ?_; rintro e w2 ⟨rfl, hn2'⟩; have hn2 : Hid (New _ _) := hn2'; clear hn2'))
  go_ret
  exact ⟨rfl, (hn1.out.trans hn2.out).2⟩
end Go.Proofs.Ytmimhejlpejacaa.Sat
