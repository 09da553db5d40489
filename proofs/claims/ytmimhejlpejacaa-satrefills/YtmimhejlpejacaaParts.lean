/-
  What floodgateref01.Cross and Refill give; the contracts of the others by the number whose parts they work on.
-/
import Derived.Test.YtmimhejlpejacaaLess
import Derived.Deep.RegionHeld3
namespace Go.Proofs.Ytmimhejlpejacaa.Sat
open Go.RowKit Go.Shelf

/-! The same, by the number whose parts they are. -/
theorem ret_four {z0 z1 z2 z3 : Int} {v : Int} (p0 : Part z0) (p1 : Part z1) (p2 : Part z2) (p3 : Part z3) (h : val z0 z1 z2 z3 = v) :
    Ending.returned (.agg #[.int .u64 z0, .int .u64 z1, .int .u64 z2, .int .u64 z3]) = .returned (.agg #[.int .u64 (d0 v), .int .u64 (d1 v), .int .u64 (d2 v), .int .u64 (d3 v)]) := by
  obtain ⟨e0, e1, e2, e3⟩ := d_val p0 p1 p2 p3
  subst h
  rw [e0, e1, e2, e3]

theorem of_d (a : Int) (ha : Word a) (w : World) :
    Calls Try.prog 33 #[.int .u64 a] w fun e w' => e = .returned (.agg #[.int .u64 (d0 a), .int .u64 (d1 a), .int .u64 (d2 a), .int .u64 (d3 a)]) ∧ New w w' := by
  refine (of_any a ha w).mono ?_
  rintro e w' ⟨rfl, c1, rfl⟩
  exact ⟨ret_four (part_mod _) (part_div ha.1 ha.2) part_zero part_zero val_of, (New.refl _).alloc _ _⟩

theorem plus_d (u v : Int) (hu : Four u) (hv : Four v) (h : Four (u + v)) (w : World) :
    Calls Try.prog 32 #[.agg #[.int .u64 (d0 u), .int .u64 (d1 u), .int .u64 (d2 u), .int .u64 (d3 u)], .agg #[.int .u64 (d0 v), .int .u64 (d1 v), .int .u64 (d2 v), .int .u64 (d3 v)]] w fun e w' => e = .returned (.agg #[.int .u64 (d0 (u + v)), .int .u64 (d1 (u + v)), .int .u64 (d2 (u + v)), .int .u64 (d3 (u + v))]) ∧ New w w' := by
  have e1 := val_d hu
  have e2 := val_d hv
  refine (plus_any _ _ _ _ _ _ _ _ (part_d0 u) (part_d1 u) (part_d2 u) (part_d3 u) (part_d0 v) (part_d1 v) (part_d2 v) (part_d3 v) (by rw [e1, e2]; exact h.2) w).mono ?_
  rintro e w' ⟨z0, z1, z2, z3, rfl, ⟨i0, i1, i2, i3, hz⟩, c1, c2, c3, c4, rfl⟩
  rw [e1, e2] at hz
  exact ⟨ret_four i0 i1 i2 i3 hz, by repeat (first | with_reducible exact New.refl _ | with_reducible apply New.drew | with_reducible apply New.alloc)⟩

theorem times_d (a b : Int) (ha : Word a) (hb : Word b) (w : World) :
    Calls Try.prog 34 #[.int .u64 a, .int .u64 b] w fun e w' => e = .returned (.agg #[.int .u64 (d0 (a * b)), .int .u64 (d1 (a * b)), .int .u64 (d2 (a * b)), .int .u64 (d3 (a * b))]) ∧ New w w' := by
  refine (times_any a b ha hb w).mono ?_
  rintro e w' ⟨z0, z1, z2, z3, rfl, ⟨i0, i1, i2, i3, hz⟩, hn⟩
  exact ⟨ret_four i0 i1 i2 i3 hz, hn⟩

theorem cut_d (v : Int) (hv : Four v) (w : World) :
    Calls Try.prog 31 #[.agg #[.int .u64 (d0 v), .int .u64 (d1 v), .int .u64 (d2 v), .int .u64 (d3 v)]] w fun e w' => e = .returned (.int .u64 (scut v)) ∧ New w w' := by
  refine (cut_any _ _ _ _ (part_d0 v) (part_d1 v) (part_d2 v) (part_d3 v) w).mono ?_
  rintro e w' ⟨rfl, c1, rfl⟩
  exact ⟨by rw [val_d hv], (New.refl _).alloc _ _⟩

theorem less_d (u v : Int) (hu : Four u) (hv : Four v) (w : World) :
    Calls Try.prog 36 #[.agg #[.int .u64 (d0 u), .int .u64 (d1 u), .int .u64 (d2 u), .int .u64 (d3 u)], .agg #[.int .u64 (d0 v), .int .u64 (d1 v), .int .u64 (d2 v), .int .u64 (d3 v)]] w fun e w' => e = .returned (.int .i64 (scmp u v)) ∧ New w w' := by
  refine (less_any _ _ _ _ _ _ _ _ (part_d0 u) (part_d1 u) (part_d2 u) (part_d3 u) (part_d0 v) (part_d1 v) (part_d2 v) (part_d3 v) w).mono ?_
  rintro e w' ⟨rfl, hn⟩
  exact ⟨by rw [val_d hu, val_d hv], hn⟩

/-- floodgateref01.Cross. -/
theorem rcross_any (a b c d : Int) (ha : Word a) (hb : Word b) (hc : Word c) (hd : Word d) (w : World) :
    Calls Try.prog 25 #[.int .u64 a, .int .u64 b, .int .u64 c, .int .u64 d] w fun e w' => e = .returned (.int .i64 (scmp (a * b) (c * d))) ∧ New w w' := by
  have acc : Hid (New w w) := New.refl w
  have f1 := four_mul ha hb
  have f2 := four_mul hc hd
  go_enter Try.func25, Try.ntmps25
  go_wp2_with (first
    | (go_at_call 34; refine (times_d _ _ ?_ ?_ _).mono ?_; assumption; assumption; rintro e w1 ⟨rfl, hn⟩; have acc' : Hid (New w w1) := New.trans (by repeat (first | with_reducible exact acc.out | with_reducible apply New.drew | with_reducible apply New.alloc)) hn; clear acc hn; have acc := acc'; clear acc')
    | (go_at_call 36; refine (less_d _ _ f1 f2 _).mono ?_; rintro e w1 ⟨rfl, hn⟩; have acc' : Hid (New w w1) := New.trans (by repeat (first | with_reducible exact acc.out | with_reducible apply New.drew | with_reducible apply New.alloc)) hn; clear acc hn; have acc := acc'; clear acc'))
  go_ret
  exact ⟨rfl, acc.out⟩

/-- floodgateref01.Refill. -/
theorem rfill_any (l r t m : Int) (hl : Word l) (hr : Word r) (ht : Word t) (hm : Word m) (w : World) :
    Calls Try.prog 23 #[.int .u64 l, .int .u64 r, .int .u64 t, .int .u64 m] w fun e w' => e = .returned (.int .u64 (sfill l r t m)) ∧ New w w' := by
  have acc : Hid (New w w) := New.refl w
  have f1 := four_mul hr ht
  have f2 := four_fill hl hr ht
  have f3 := four_word hl
  have f4 := four_word hm
  rw [sfill_lt hl hr ht hm]
  by_cases h : scmp (l + r * t) m < 0
  · rw [if_pos h]
    go_enter Try.func23, Try.ntmps23
    go_wp2_with (first
      | (go_at_call 33; refine (of_d _ ?_ _).mono ?_; assumption; rintro e w1 ⟨rfl, hn⟩; have acc' : Hid (New w w1) := New.trans (by repeat (first | with_reducible exact acc.out | with_reducible apply New.drew | with_reducible apply New.alloc)) hn; clear acc hn; have acc := acc'; clear acc')
      | (go_at_call 34; refine (times_d _ _ ?_ ?_ _).mono ?_; assumption; assumption; rintro e w1 ⟨rfl, hn⟩; have acc' : Hid (New w w1) := New.trans (by repeat (first | with_reducible exact acc.out | with_reducible apply New.drew | with_reducible apply New.alloc)) hn; clear acc hn; have acc := acc'; clear acc')
      | (go_at_call 32; refine (plus_d _ _ f3 f1 f2 _).mono ?_; rintro e w1 ⟨rfl, hn⟩; have acc' : Hid (New w w1) := New.trans (by repeat (first | with_reducible exact acc.out | with_reducible apply New.drew | with_reducible apply New.alloc)) hn; clear acc hn; have acc := acc'; clear acc'))
    go_region_held3 (fun w' => w'.cell? ⟨w1.heap.size, 0, none⟩ = some (.int .u64 (d0 (l + r * t))) ∧ w'.cell? ⟨w1.heap.size, 1, none⟩ = some (.int .u64 (d1 (l + r * t))) ∧ w'.cell? ⟨w1.heap.size, 2, none⟩ = some (.int .u64 (d2 (l + r * t))) ∧ w'.cell? ⟨w1.heap.size, 3, none⟩ = some (.int .u64 (d3 (l + r * t)))) (simp [go_sem, *])
      (first
        | (go_at_call 33; refine (of_d _ hm _).mono ?_; rintro e w2 ⟨rfl, hn2'⟩; have hc2 := fun o => hn2'.cell (k := w1.heap.size) (o := o) (by simp); have hs2 : w1.heap.size < w2.heap.size := (by have := hn2'.size; simp at this; omega); have hn2 : Hid (New _ _) := hn2'; clear hn2')
        | (go_at_call 36; refine (less_d _ _ f2 f4 _).mono ?_; rintro e w3 ⟨rfl, hn3'⟩; have hc3 := fun o => hn3'.cell (k := w1.heap.size) (o := o) (by simpa using hs2); have hn3 : Hid (New _ _) := hn3'; clear hn3'))
    go_wp2_with (go_at_call 31; refine (cut_d _ f2 _).mono ?_; rintro e w4 ⟨rfl, hn4'⟩; have hn4 : Hid (New _ _) := hn4'; clear hn4')
    go_ret
    exact ⟨rfl, (((acc.out.alloc _ _).drew.trans hn2.out).trans hn3.out).trans hn4.out⟩
  · rw [if_neg h]
    go_enter Try.func23, Try.ntmps23
    go_wp2_with (first
      | (go_at_call 33; refine (of_d _ ?_ _).mono ?_; assumption; rintro e w1 ⟨rfl, hn⟩; have acc' : Hid (New w w1) := New.trans (by repeat (first | with_reducible exact acc.out | with_reducible apply New.drew | with_reducible apply New.alloc)) hn; clear acc hn; have acc := acc'; clear acc')
      | (go_at_call 34; refine (times_d _ _ ?_ ?_ _).mono ?_; assumption; assumption; rintro e w1 ⟨rfl, hn⟩; have acc' : Hid (New w w1) := New.trans (by repeat (first | with_reducible exact acc.out | with_reducible apply New.drew | with_reducible apply New.alloc)) hn; clear acc hn; have acc := acc'; clear acc')
      | (go_at_call 32; refine (plus_d _ _ f3 f1 f2 _).mono ?_; rintro e w1 ⟨rfl, hn⟩; have acc' : Hid (New w w1) := New.trans (by repeat (first | with_reducible exact acc.out | with_reducible apply New.drew | with_reducible apply New.alloc)) hn; clear acc hn; have acc := acc'; clear acc'))
    go_region_held3 (fun w' => w'.cell? ⟨w1.heap.size, 0, none⟩ = some (.int .u64 (d0 (l + r * t))) ∧ w'.cell? ⟨w1.heap.size, 1, none⟩ = some (.int .u64 (d1 (l + r * t))) ∧ w'.cell? ⟨w1.heap.size, 2, none⟩ = some (.int .u64 (d2 (l + r * t))) ∧ w'.cell? ⟨w1.heap.size, 3, none⟩ = some (.int .u64 (d3 (l + r * t)))) (simp [go_sem, *])
      (first
        | (go_at_call 33; refine (of_d _ hm _).mono ?_; rintro e w2 ⟨rfl, hn2'⟩; have hc2 := fun o => hn2'.cell (k := w1.heap.size) (o := o) (by simp); have hs2 : w1.heap.size < w2.heap.size := (by have := hn2'.size; simp at this; omega); have hn2 : Hid (New _ _) := hn2'; clear hn2')
        | (go_at_call 36; refine (less_d _ _ f2 f4 _).mono ?_; rintro e w3 ⟨rfl, hn3'⟩; have hc3 := fun o => hn3'.cell (k := w1.heap.size) (o := o) (by simpa using hs2); have hn3 : Hid (New _ _) := hn3'; clear hn3'))
    go_wp2
    go_ret
    exact ⟨rfl, ((acc.out.alloc _ _).drew.trans hn2.out).trans hn3.out⟩
end Go.Proofs.Ytmimhejlpejacaa.Sat
