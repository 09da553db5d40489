/-
  What the chapter shows at its end.
-/
import Derived.Test.YtpekkmnomfeglaaDoorAddrNetText
namespace Go.Proofs.YtpekkmnomfeglaaDoor.Addr
open Go.RowKit Go.Proofs.YtpekkmnomfeglaaDoor.Mem

set_option maxRecDepth 100000 in
theorem alive_core (a0 a1 a2 a3 n0 n1 n2 n3 : Int) (w : World) (hF : Fact w)
    (hp : ∀ w, Fact w → Calls Tryd.prog 9 #[.string ⟨#[49, 48, 46, 49, 46, 50, 46, 51]⟩] w fun e w' => e = .returned (.tuple #[.agg #[.int .u8 a0, .int .u8 a1, .int .u8 a2, .int .u8 a3], .int .i64 0]) ∧ Below w.heap.size w w')
    (hc : ∀ w, Calls Tryd.prog 18 #[.agg #[.int .u8 a0, .int .u8 a1, .int .u8 a2, .int .u8 a3], .int .i64 8] w fun e w' => e = .returned (.agg #[.int .u8 n0, .int .u8 n1, .int .u8 n2, .int .u8 n3, .int .i64 8]) ∧ Below w.heap.size w w')
    (ht : ∀ w, Fact w → Calls Tryd.prog 29 #[.agg #[.int .u8 n0, .int .u8 n1, .int .u8 n2, .int .u8 n3, .int .i64 8]] w fun e w' => e = .returned (.string ⟨#[49, 48, 46, 48, 46, 48, 46, 48, 47, 56]⟩) ∧ Below w.heap.size w w')
    (hi : ∀ w, Calls Tryd.prog 21 #[.agg #[.int .u8 a0, .int .u8 a1, .int .u8 a2, .int .u8 a3], .agg #[.int .u8 n0, .int .u8 n1, .int .u8 n2, .int .u8 n3, .int .i64 8]] w fun e w' => e = .returned (.bool true) ∧ Below w.heap.size w w')
    (hr : ∀ w, Calls Tryd.prog 19 #[.agg #[.int .u8 n0, .int .u8 n1, .int .u8 n2, .int .u8 n3, .int .i64 8]] w fun e w' => e = .returned (.bool true) ∧ Below w.heap.size w w') :
    Calls Tryd.prog 11 #[] w fun e w' => e = .returned (.bool true) ∧ Below w.heap.size w w' := by
  have hq : ((⟨#[49, 48, 46, 48, 46, 48, 46, 48, 47, 56]⟩ : ByteArray).toList == (⟨#[49, 48, 46, 48, 46, 48, 46, 48, 47, 56]⟩ : ByteArray).toList) = true := by simp
  go_enter Tryd.func11, Tryd.ntmps11
  go_wp2_with (first
    | (go_at_call 9; refine (hp _ hF).mono ?_; rintro e w1 ⟨rfl, hb1⟩; have f1 := hF.below hb1; obtain ⟨k0, k1, k2, k3, -, -, -, -, hg⟩ := new4 w1 (.int .u8 a0) (.int .u8 a1) (.int .u8 a2) (.int .u8 a3) 23)
    | (go_at_call 18; refine (hc _).mono ?_; rintro e w2 ⟨rfl, hb2⟩; have A2 := (new4 w1 _ _ _ _ _).below hb2; have d2 := bnext (bal hb1 _) hb2; clear k0 k1 k2 k3 hg; obtain ⟨k0, k1, k2, k3, -, -, -, -, hg⟩ := id A2)
    | (go_at_call 29; refine (ht _ (hF.below (bal d2 _))).mono ?_; rintro e w3 ⟨rfl, hb3⟩; have A3 := (A2.alloc _).below hb3; have B3 := (new5 w2 _ _ _ _ _ _).below hb3; have d3 := bnext (bal d2 _) hb3; clear k0 k1 k2 k3 hg; obtain ⟨k0, k1, k2, k3, -, -, -, -, hg⟩ := id A3; obtain ⟨⟨l0, l1, l2, l3, -, -, -, -, hl⟩, l4, -⟩ := id B3)
    | (go_at_call 21; refine (hi _).mono ?_; rintro e w4 ⟨rfl, hb4⟩; have B4 := B3.below hb4; have d4 := bnext d3 hb4; clear l0 l1 l2 l3 l4 hl; obtain ⟨⟨l0, l1, l2, l3, -, -, -, -, hl⟩, l4, -⟩ := id B4)
    | (go_at_call 19; refine (hr _).mono ?_; rintro e w5 ⟨rfl, hb5⟩; have d5 := bnext d4 hb5))
  go_ret
  exact ⟨rfl, d5⟩
theorem alive_any (w : World) (hF : Fact w) : Calls Tryd.prog 11 #[] w fun e w' => e = .returned (.bool true) ∧ Below w.heap.size w w' := by
  have e1 : txt 167838211 = [49, 48, 46, 49, 46, 50, 46, 51] := by decide +kernel
  have e2 : ntxt 167772160 8 = [49, 48, 46, 48, 46, 48, 46, 48, 47, 56] := by decide +kernel
  have e3 : cutN 167838211 (held 8) = 167772160 := by decide +kernel
  have e4 : ((held 8 : Nat) : Int) = 8 := by decide +kernel
  have e5 : inN 167838211 167772160 8 = true := by decide +kernel
  have e6 : rightN 167772160 8 = true := by decide +kernel
  have hp := fun w hF => parse_hit 167838211 (by decide) w hF
  have hc := fun w => addr_Cut 167838211 (by decide) 8 w
  have ht := fun w hF => addr_NetText 167772160 (by decide) 8 w hF
  have hi := fun w => addr_In 167838211 (by decide) 167772160 (by decide) 8 w
  have hr := fun w => addr_Right 167772160 (by decide) 8 w
  rw [e1] at hp
  rw [e3, e4] at hc
  rw [e2] at ht
  rw [e5] at hi
  rw [e6] at hr
  exact alive_core _ _ _ _ _ _ _ _ w hF hp hc ht hi hr
theorem eq_self {N : Nat} (hN : N < 4294967296) (w : World) : (Op.equalIn 10000 23 (adr N) (adr N)).run Tryd.prog w = .ok true w := by rw [eq_adr hN hN, decide_eq_true rfl]
theorem eqn_self {N : Nat} {b : Int} (hN : N < 4294967296) (w : World) : (Op.equalIn 10000 28 (net N b) (net N b)).run Tryd.prog w = .ok true w := by rw [eq_net hN hN, decide_eq_true rfl, decide_eq_true rfl]; rfl
/-- Four bytes are the bytes of a number. -/
theorem adr_of {a0 a1 a2 a3 : Int} (h0 : Byte a0) (h1 : Byte a1) (h2 : Byte a2) (h3 : Byte a3) : ∃ N : Nat, N < 4294967296 ∧ (b0 N : Int) = a0 ∧ (b1 N : Int) = a1 ∧ (b2 N : Int) = a2 ∧ (b3 N : Int) = a3 := by
  obtain ⟨c0, rfl⟩ := Int.eq_ofNat_of_zero_le h0.1
  obtain ⟨c1, rfl⟩ := Int.eq_ofNat_of_zero_le h1.1
  obtain ⟨c2, rfl⟩ := Int.eq_ofNat_of_zero_le h2.1
  obtain ⟨c3, rfl⟩ := Int.eq_ofNat_of_zero_le h3.1
  have k0 := h0.2; have k1 := h1.2; have k2 := h2.2; have k3 := h3.2
  obtain ⟨e0, e1, e2, e3⟩ := num_bytes (show c0 < 256 by omega) (show c1 < 256 by omega) (show c2 < 256 by omega) (show c3 < 256 by omega)
  exact ⟨c0 * 16777216 + c1 * 65536 + c2 * 256 + c3, by omega, by rw [e0], by rw [e1], by rw [e2], by rw [e3]⟩
end Go.Proofs.YtpekkmnomfeglaaDoor.Addr
