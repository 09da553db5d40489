/-
  The error's number, and masks at their ends.
-/
import Derived.Test.YtpekkmnomfeglaaDoorAddrAlive
import Derived.Test.YtpekkmnomfeglaaDoorAddrReadNet
namespace Go.Proofs.YtpekkmnomfeglaaDoor.Addr
open Go.RowKit Go.Proofs.YtpekkmnomfeglaaDoor.Mem

set_option maxRecDepth 100000 in
theorem names_core (x0 x1 x2 x3 y0 y1 y2 y3 z0 z1 z2 z3 u0 u1 u2 u3 : Int) (w : World) (hF : Fact w)
    (hp : ∀ w, Fact w → Calls Tryd.prog 9 #[.string ⟨#[49, 46, 50, 46, 51]⟩] w fun e w' => e = .returned (.tuple #[.agg #[.int .u8 0, .int .u8 0, .int .u8 0, .int .u8 0], .int .i64 41]) ∧ Below w.heap.size w w')
    (hn : ∀ w, Fact w → Calls Tryd.prog 10 #[.string ⟨#[49, 48, 46, 49, 46, 48, 46, 48, 47, 56]⟩] w fun e w' => e = .returned (.tuple #[.agg #[.int .u8 0, .int .u8 0, .int .u8 0, .int .u8 0, .int .i64 0], .int .i64 41]) ∧ Below w.heap.size w w')
    (m1 : ∀ w, Calls Tryd.prog 13 #[.int .i64 32] w fun e w' => e = .returned (.agg #[.int .u8 x0, .int .u8 x1, .int .u8 x2, .int .u8 x3]) ∧ Below w.heap.size w w')
    (m2 : ∀ w, Calls Tryd.prog 13 #[.int .i64 0] w fun e w' => e = .returned (.agg #[.int .u8 y0, .int .u8 y1, .int .u8 y2, .int .u8 y3]) ∧ Below w.heap.size w w')
    (m3 : ∀ w, Calls Tryd.prog 13 #[.int .i64 (-5)] w fun e w' => e = .returned (.agg #[.int .u8 z0, .int .u8 z1, .int .u8 z2, .int .u8 z3]) ∧ Below w.heap.size w w')
    (m4 : ∀ w, Calls Tryd.prog 13 #[.int .i64 1] w fun e w' => e = .returned (.agg #[.int .u8 u0, .int .u8 u1, .int .u8 u2, .int .u8 u3]) ∧ Below w.heap.size w w')
    (q1 : ∀ w, Calls Tryd.prog 12 #[.agg #[.int .u8 x0, .int .u8 x1, .int .u8 x2, .int .u8 x3]] w fun e w' => e = .returned (.int .u32 4294967295) ∧ Below w.heap.size w w')
    (q2 : ∀ w, Calls Tryd.prog 12 #[.agg #[.int .u8 y0, .int .u8 y1, .int .u8 y2, .int .u8 y3]] w fun e w' => e = .returned (.int .u32 0) ∧ Below w.heap.size w w')
    (q3 : ∀ w, Calls Tryd.prog 12 #[.agg #[.int .u8 z0, .int .u8 z1, .int .u8 z2, .int .u8 z3]] w fun e w' => e = .returned (.int .u32 0) ∧ Below w.heap.size w w')
    (q4 : ∀ w, Calls Tryd.prog 12 #[.agg #[.int .u8 u0, .int .u8 u1, .int .u8 u2, .int .u8 u3]] w fun e w' => e = .returned (.int .u32 2147483648) ∧ Below w.heap.size w w') :
    Calls Tryd.prog 3 #[] w fun e w' => e = .returned (.bool true) ∧ Below w.heap.size w w' := by
  have hal := fun w hF => alive_any w hF
  go_enter Tryd.func3, Tryd.ntmps3
  go_wp2_with (first
    | (go_at_call 9; refine (hp _ hF).mono ?_; rintro e w1 ⟨rfl, d⟩)
    | (go_at_call 10; refine (hn _ (hF.below (bal d _))).mono ?_; rintro e w2 ⟨rfl, hb⟩; have d := bnext (bal d _) hb; clear hb)
    | (go_at_call 11; refine (hal _ (hF.below (bal d _))).mono ?_; rintro e w3 ⟨rfl, hb⟩; have d := bnext (bal d _) hb; clear hb)
    | (go_at_call 13; (first | with_reducible refine (m1 _).mono ?_ | with_reducible refine (m2 _).mono ?_ | with_reducible refine (m3 _).mono ?_ | with_reducible refine (m4 _).mono ?_); rintro e w4 ⟨rfl, hb⟩; have d := bnext d hb; clear hb)
    | (go_at_call 12; (first | with_reducible refine (q1 _).mono ?_ | with_reducible refine (q2 _).mono ?_ | with_reducible refine (q3 _).mono ?_ | with_reducible refine (q4 _).mono ?_); rintro e w5 ⟨rfl, hb⟩; have d := bnext d hb; clear hb))
  go_ret
  exact ⟨rfl, d⟩
theorem names_any (w : World) (hF : Fact w) : Calls Tryd.prog 3 #[] w fun e w' => e = .returned (.bool true) ∧ Below w.heap.size w w' := by
  have hp := fun w hF => parse_miss [49, 46, 50, 46, 51] (by decide) (fun N _ h => by have h1 := congrArg List.length h; have h2 := (txt_len N).1; simp at h1; omega) w hF
  have hn := fun w hF => pn_miss [49, 48, 46, 49, 46, 48, 46, 48, 47, 56] (by decide) (fun N k hN hk hr h => by
    have e : netTxt 167837696 8 = [49, 48, 46, 49, 46, 48, 46, 48, 47, 56] := by decide +kernel
    rw [← e] at h
    obtain ⟨rfl, rfl⟩ := net_inj (by decide) hN (by decide) (by omega) h
    revert hr
    decide +kernel) w hF
  have m : ∀ (b : Int) (M : Nat), cutN 4294967295 (held b) = M → ∀ w, Calls Tryd.prog 13 #[.int .i64 b] w fun e w' => e = .returned (adr M) ∧ Below w.heap.size w w' := fun b M h w => h ▸ addr_Mask b w
  have q : ∀ M : Nat, M < 4294967296 → ∀ w, Calls Tryd.prog 12 #[adr M] w fun e w' => e = .returned (.int .u32 (M : Int)) ∧ Below w.heap.size w w' := fun M h w => addr_Num M h w
  exact names_core _ _ _ _ _ _ _ _ _ _ _ _ _ _ _ _ w hF hp hn (m 32 4294967295 (by decide +kernel)) (m 0 0 (by decide +kernel)) (m (-5) 0 (by decide +kernel)) (m 1 2147483648 (by decide +kernel)) (q 4294967295 (by decide)) (q 0 (by decide)) (q 0 (by decide)) (q 2147483648 (by decide))
end Go.Proofs.YtpekkmnomfeglaaDoor.Addr
