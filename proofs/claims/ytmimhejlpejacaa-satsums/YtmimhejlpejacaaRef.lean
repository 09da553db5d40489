/-
  What each function of package floodgateref01 gives, as far as the statements call it.
-/
import Derived.Test.YtmimhejlpejacaaSat
import Derived.LoopN
namespace Go.Proofs.Ytmimhejlpejacaa.Sat
open Go.RowKit Go.Shelf

/-- The world has at most new blocks. -/
def New (w w' : World) : Prop := Below w.heap.size w w' ∧ Grown w w'
theorem New.refl (w : World) : New w w := ⟨Below.refl _ _, Grown.refl _⟩
theorem New.size {w w' : World} (h : New w w') : w.heap.size ≤ w'.heap.size := h.1.size
theorem New.trans {a b c : World} (h : New a b) (k : New b c) : New a c := by
  refine ⟨h.1.trans (k.1.mono h.1.size), World.keptBut_trans h.2.1 k.2.1, fun p => (k.2.2.1 p).trans (h.2.2.1 p), Nat.le_trans h.2.2.2 k.2.2.2⟩
theorem New.alloc {a b : World} (h : New a b) (c : Array Value) (t : TypeId) : New a (b.alloc (.cells c t)) :=
  ⟨h.1.alloc h.1.size _, h.2.alloc _ _⟩
theorem New.cell {a b : World} (h : New a b) {k o : Nat} (hk : k < a.heap.size) : b.cell? ⟨k, o, none⟩ = a.cell? ⟨k, o, none⟩ := h.1.cell hk
theorem New.drew {a b : World} (h : New a b) : New a b.drew := ⟨h.1.drew, h.2.drew⟩

theorem of_any (a : Int) (ha : Word a) (w : World) :
    Calls Try.prog 33 #[.int .u64 a] w fun e w' => e = .returned (.agg #[.int .u64 (a % 4294967296), .int .u64 (a / 4294967296), .int .u64 0, .int .u64 0]) ∧ ∃ c1 : Array Value, w' = w.alloc (.cells c1 44) := by
  obtain ⟨a0, a1⟩ := ha
  go_enter Try.func33, Try.ntmps33
  go_wp2
  exact bodyPost_ret (v := .agg #[.int .u64 (a % 4294967296), .int .u64 (a / 4294967296), .int .u64 0, .int .u64 0]) (by simp [results, Try.results33, go_sem]) rfl ⟨rfl, _, rfl⟩

set_option maxHeartbeats 1000000 in
theorem plus_any (x0 x1 x2 x3 y0 y1 y2 y3 : Int) (a0 : Part x0) (a1 : Part x1) (a2 : Part x2) (a3 : Part x3) (b0 : Part y0) (b1 : Part y1) (b2 : Part y2) (b3 : Part y3)
    (h : val x0 x1 x2 x3 + val y0 y1 y2 y3 < 340282366920938463463374607431768211456) (w : World) :
    Calls Try.prog 32 #[.agg #[.int .u64 x0, .int .u64 x1, .int .u64 x2, .int .u64 x3], .agg #[.int .u64 y0, .int .u64 y1, .int .u64 y2, .int .u64 y3]] w fun e w' => ∃ z0 z1 z2 z3, e = .returned (.agg #[.int .u64 z0, .int .u64 z1, .int .u64 z2, .int .u64 z3]) ∧ (Part z0 ∧ Part z1 ∧ Part z2 ∧ Part z3 ∧ val z0 z1 z2 z3 = val x0 x1 x2 x3 + val y0 y1 y2 y3) ∧ ∃ c1 c2 c3 c4 : Array Value, w' = ((((w.alloc (.cells c1 44)).alloc (.cells c2 44)).alloc (.cells c3 44)).alloc (.cells c4 44)).drew.drew.drew.drew := by
  have H := plus_val a0 a1 a2 a3 b0 b1 b2 b3 h
  have H2 : Hid (_ = _) := H
  clear h H
  obtain ⟨p0, q0⟩ := a0; obtain ⟨p1, q1⟩ := a1; obtain ⟨p2, q2⟩ := a2; obtain ⟨p3, q3⟩ := a3
  obtain ⟨r0, s0⟩ := b0; obtain ⟨r1, s1⟩ := b1; obtain ⟨r2, s2⟩ := b2; obtain ⟨r3, s3⟩ := b3
  go_enter Try.func32, Try.ntmps32
  go_wp2
  refine wp_loop_rounds 5 ?_
  rw [rounds_succ]
  go_wp2
  go_region
  go_wp2
  rw [rounds_succ]
  go_wp2
  go_region
  go_wp2
  rw [rounds_succ]
  go_wp2
  go_region
  go_wp2
  rw [rounds_succ]
  go_wp2
  go_region
  go_wp2
  rw [rounds_succ]
  go_wp2
  exact bodyPost_ret (v := .agg #[.int .u64 ((x0 + y0) % 4294967296), .int .u64 ((x1 + y1 + (x0 + y0) / 4294967296) % 4294967296), .int .u64 ((x2 + y2 + (x1 + y1 + (x0 + y0) / 4294967296) / 4294967296) % 4294967296),
      .int .u64 ((x3 + y3 + (x2 + y2 + (x1 + y1 + (x0 + y0) / 4294967296) / 4294967296) / 4294967296) % 4294967296)]) (by simp [results, Try.results32, go_sem]) rfl
    ⟨_, _, _, _, rfl, ⟨part_mod _, part_mod _, part_mod _, part_mod _, H2.out⟩, _, _, _, _, rfl⟩

theorem cut_any (z0 z1 z2 z3 : Int) (a0 : Part z0) (a1 : Part z1) (a2 : Part z2) (a3 : Part z3) (w : World) :
    Calls Try.prog 31 #[.agg #[.int .u64 z0, .int .u64 z1, .int .u64 z2, .int .u64 z3]] w fun e w' => e = .returned (.int .u64 (scut (val z0 z1 z2 z3))) ∧ ∃ c1 : Array Value, w' = w.alloc (.cells c1 44) := by
  obtain ⟨p0, q0⟩ := a0; obtain ⟨p1, q1⟩ := a1; obtain ⟨p2, q2⟩ := a2; obtain ⟨p3, q3⟩ := a3
  by_cases h : 0 < z2 + z3
  · have e1 : scut (val z0 z1 z2 z3) = 18446744073709551615 := by unfold scut val; rw [if_neg (by omega)]
    rw [e1]; clear e1
    go_enter Try.func31, Try.ntmps31
    go_wp2
    go_ret
    exact ⟨rfl, _, rfl⟩
  · have e1 : scut (val z0 z1 z2 z3) = z1 * 4294967296 + z0 := by unfold scut val; rw [if_pos (by omega)]; omega
    rw [e1]; clear e1
    go_enter Try.func31, Try.ntmps31
    go_wp2
    go_ret
    exact ⟨rfl, _, rfl⟩

theorem val_of {a : Int} : val (a % 4294967296) (a / 4294967296) 0 0 = a := by unfold val; omega

/-- floodgateref01.Add. -/
theorem radd_any (a b : Int) (ha : Word a) (hb : Word b) (w : World) :
    Calls Try.prog 15 #[.int .u64 a, .int .u64 b] w fun e w' => e = .returned (.int .u64 (sadd a b)) ∧ New w w' := by
  have ia := ha; have ib := hb
  obtain ⟨a0, a1⟩ := ia; obtain ⟨b0, b1⟩ := ib
  go_enter Try.func15, Try.ntmps15
  go_wp2_with (first
    | (go_at_call 33; refine (of_any _ ‹_› _).mono ?_; rintro e w1 ⟨rfl, c1, rfl⟩)
    | (go_at_call 32; refine (plus_any _ _ _ _ _ _ _ _ (part_mod _) (part_div a0 a1) part_zero part_zero (part_mod _) (part_div b0 b1) part_zero part_zero ?_ _).mono ?_; (rw [val_of, val_of]; omega); rintro e w1 ⟨z0, z1, z2, z3, rfl, hz, c1, c2, c3, c4, rfl⟩)
    | (go_at_call 31; obtain ⟨h0, h1, h2, h3, hv⟩ := hz; refine (cut_any _ _ _ _ h0 h1 h2 h3 _).mono ?_; rintro e w1 ⟨rfl, c1, rfl⟩))
  go_ret
  exact ⟨ret_int (by rw [val_of, val_of]; rfl), by repeat (first | with_reducible exact New.refl _ | with_reducible apply New.drew | with_reducible apply New.alloc)⟩

/-- floodgateref01.Sub. -/
theorem rsub_any (a b : Int) (ha : Word a) (hb : Word b) (w : World) :
    Calls Try.prog 16 #[.int .u64 a, .int .u64 b] w fun e w' => e = .returned (.int .u64 (ssub a b)) ∧ w' = w := by
  obtain ⟨a0, a1⟩ := ha; obtain ⟨b0, b1⟩ := hb
  unfold ssub
  by_cases h : a < b
  · go_enter Try.func16, Try.ntmps16
    go_wp2
    go_ret
    exact ⟨rfl, rfl⟩
  · go_enter Try.func16, Try.ntmps16
    go_wp2
    go_ret
    exact ⟨rfl, rfl⟩
end Go.Proofs.Ytmimhejlpejacaa.Sat
