/-
  A network cut once more; one cut at more bits; an address with its last counted bit turned.
-/
import Derived.Test.YtpekkmnomfeglabDoorAddrAlive
namespace Go.Proofs.YtpekkmnomfeglabDoor.Addr
open Go.RowKit Go.Proofs.YtpekkmnomfeglabDoor.Mem

/-- Two cells that stand. -/
def Box2 (w : World) (g : Nat) (v0 v1 : Value) : Prop := w.cell? ⟨g, 0, none⟩ = some v0 ∧ w.cell? ⟨g, 1, none⟩ = some v1 ∧ g < w.heap.size
theorem new2 (w : World) (v0 v1 : Value) (t : Nat) : Box2 (w.alloc (.cells #[v0, v1] t)) w.heap.size v0 v1 := by
  unfold Box2; simp
theorem Box2.below {w w' : World} {g : Nat} {v0 v1 : Value} (h : Box2 w g v0 v1) (hb : Below w.heap.size w w') : Box2 w' g v0 v1 :=
  ⟨(hb.cell (p := ⟨g, 0, none⟩) h.2.2).trans h.1, (hb.cell (p := ⟨g, 1, none⟩) h.2.2).trans h.2.1, Nat.lt_of_lt_of_le h.2.2 hb.size⟩
theorem Box2.other {X : World} {g : Nat} {v0 v1 : Value} (h : Box2 X g v0 v1) {p : Addr} (hp : g ≠ p.block) (v : Value) : Box2 (X.setCell p v) g v0 v1 := by
  have hb := Below.heap_setCell X p v g hp
  exact ⟨(World.cell?_of_block (w := X) (a := ⟨g, 0, none⟩) hb).trans h.1, (World.cell?_of_block (w := X) (a := ⟨g, 1, none⟩) hb).trans h.2.1, by simpa using h.2.2⟩
theorem Box5.other {X : World} {g : Nat} {v0 v1 v2 v3 v4 : Value} (h : Box5 X g v0 v1 v2 v3 v4) {p : Addr} (hp : g ≠ p.block) (v : Value) : Box5 (X.setCell p v) g v0 v1 v2 v3 v4 := by
  have hb := Below.heap_setCell X p v g hp
  exact ⟨h.1.other hp v, (World.cell?_of_block (w := X) (a := ⟨g, 4, none⟩) hb).trans h.2.1, (World.frozen?_of_block (w := X) (a := ⟨g, 4, none⟩) hb).trans h.2.2⟩
theorem Box4.put {X : World} {g : Nat} {v0 v1 v2 v3 : Value} (h : Box4 X g v0 v1 v2 v3) (u0 u1 u2 u3 : Value) : Box4 ((((X.setCell ⟨g, 0, none⟩ u0).setCell ⟨g, 1, none⟩ u1).setCell ⟨g, 2, none⟩ u2).setCell ⟨g, 3, none⟩ u3) g u0 u1 u2 u3 := by
  obtain ⟨k0, k1, k2, k3, f0, f1, f2, f3, hg⟩ := h
  refine ⟨?_, ?_, ?_, ?_, by simpa using f0, by simpa using f1, by simpa using f2, by simpa using f3, by simpa using hg⟩
  all_goals simp [go_sem, k0, k1, k2, k3]
theorem Box5.put {X : World} {g : Nat} {v0 v1 v2 v3 v4 : Value} (h : Box5 X g v0 v1 v2 v3 v4) (u0 u1 u2 u3 u4 : Value) : Box5 (((((X.setCell ⟨g, 0, none⟩ u0).setCell ⟨g, 1, none⟩ u1).setCell ⟨g, 2, none⟩ u2).setCell ⟨g, 3, none⟩ u3).setCell ⟨g, 4, none⟩ u4) g u0 u1 u2 u3 u4 := by
  obtain ⟨⟨k0, k1, k2, k3, f0, f1, f2, f3, hg⟩, k4, f4⟩ := h
  refine ⟨⟨?_, ?_, ?_, ?_, by simpa using f0, by simpa using f1, by simpa using f2, by simpa using f3, by simpa using hg⟩, ?_, by simpa using f4⟩
  all_goals simp [go_sem, k0, k1, k2, k3, k4]
/-- A block that the region lays: not yet filled, or filled. -/
def Bq4 (m : Nat) (X : World) (g : Nat) (b : Bool) (v0 v1 v2 v3 : Value) : Prop := m ≤ g ∧ if b = true then Box4 X g v0 v1 v2 v3 else Box4 X g (.int .u8 0) (.int .u8 0) (.int .u8 0) (.int .u8 0)
def Bq5 (m : Nat) (X : World) (g : Nat) (b : Bool) (v0 v1 v2 v3 v4 : Value) : Prop := m ≤ g ∧ if b = true then Box5 X g v0 v1 v2 v3 v4 else Box5 X g (.int .u8 0) (.int .u8 0) (.int .u8 0) (.int .u8 0) (.int .i64 0)
theorem Bq4.below {m : Nat} {X Y : World} {g : Nat} {b : Bool} {v0 v1 v2 v3 : Value} (h : Bq4 m X g b v0 v1 v2 v3) (hb : Below X.heap.size X Y) : Bq4 m Y g b v0 v1 v2 v3 := by
  refine ⟨h.1, ?_⟩
  have h2 := h.2
  cases b
  · simp only [Bool.false_eq_true, if_false] at h2 ⊢; exact h2.below hb
  · simp only [if_true] at h2 ⊢; exact h2.below hb
theorem Bq4.alloc {m : Nat} {X : World} {g : Nat} {b : Bool} {v0 v1 v2 v3 : Value} (h : Bq4 m X g b v0 v1 v2 v3) (o : Obj) : Bq4 m (X.alloc o) g b v0 v1 v2 v3 := h.below (bnew X o)
theorem Bq4.other {m : Nat} {X : World} {g : Nat} {b : Bool} {v0 v1 v2 v3 : Value} (h : Bq4 m X g b v0 v1 v2 v3) {p : Addr} (hp : g ≠ p.block) (v : Value) : Bq4 m (X.setCell p v) g b v0 v1 v2 v3 := by
  refine ⟨h.1, ?_⟩
  have h2 := h.2
  cases b
  · simp only [Bool.false_eq_true, if_false] at h2 ⊢; exact h2.other hp v
  · simp only [if_true] at h2 ⊢; exact h2.other hp v
theorem Bq4.lt {m : Nat} {X : World} {g : Nat} {b : Bool} {v0 v1 v2 v3 : Value} (h : Bq4 m X g b v0 v1 v2 v3) : g < X.heap.size := by
  have h2 := h.2
  cases b
  · simp only [Bool.false_eq_true, if_false] at h2; exact h2.2.2.2.2.2.2.2.2
  · simp only [if_true] at h2; exact h2.2.2.2.2.2.2.2.2
theorem Bq4.fresh {m : Nat} {X : World} (v0 v1 v2 v3 : Value) (h : m ≤ X.heap.size) : Bq4 m (X.alloc (.cells #[.int .u8 0, .int .u8 0, .int .u8 0, .int .u8 0] 23)) X.heap.size false v0 v1 v2 v3 := by
  refine ⟨h, ?_⟩
  simp only [Bool.false_eq_true, if_false]
  exact new4 _ _ _ _ _ _
theorem Bq5.below {m : Nat} {X Y : World} {g : Nat} {b : Bool} {v0 v1 v2 v3 v4 : Value} (h : Bq5 m X g b v0 v1 v2 v3 v4) (hb : Below X.heap.size X Y) : Bq5 m Y g b v0 v1 v2 v3 v4 := by
  refine ⟨h.1, ?_⟩
  have h2 := h.2
  cases b
  · simp only [Bool.false_eq_true, if_false] at h2 ⊢; exact h2.below hb
  · simp only [if_true] at h2 ⊢; exact h2.below hb
theorem Bq5.alloc {m : Nat} {X : World} {g : Nat} {b : Bool} {v0 v1 v2 v3 v4 : Value} (h : Bq5 m X g b v0 v1 v2 v3 v4) (o : Obj) : Bq5 m (X.alloc o) g b v0 v1 v2 v3 v4 := h.below (bnew X o)
theorem Bq5.other {m : Nat} {X : World} {g : Nat} {b : Bool} {v0 v1 v2 v3 v4 : Value} (h : Bq5 m X g b v0 v1 v2 v3 v4) {p : Addr} (hp : g ≠ p.block) (v : Value) : Bq5 m (X.setCell p v) g b v0 v1 v2 v3 v4 := by
  refine ⟨h.1, ?_⟩
  have h2 := h.2
  cases b
  · simp only [Bool.false_eq_true, if_false] at h2 ⊢; exact h2.other hp v
  · simp only [if_true] at h2 ⊢; exact h2.other hp v
theorem Bq5.lt {m : Nat} {X : World} {g : Nat} {b : Bool} {v0 v1 v2 v3 v4 : Value} (h : Bq5 m X g b v0 v1 v2 v3 v4) : g < X.heap.size := by
  have h2 := h.2
  cases b
  · simp only [Bool.false_eq_true, if_false] at h2; exact h2.1.2.2.2.2.2.2.2.2
  · simp only [if_true] at h2; exact h2.1.2.2.2.2.2.2.2.2
theorem Bq5.fresh {m : Nat} {X : World} (v0 v1 v2 v3 v4 : Value) (h : m ≤ X.heap.size) : Bq5 m (X.alloc (.cells #[.int .u8 0, .int .u8 0, .int .u8 0, .int .u8 0, .int .i64 0] 27)) X.heap.size false v0 v1 v2 v3 v4 := by
  refine ⟨h, ?_⟩
  simp only [Bool.false_eq_true, if_false]
  exact new5 _ _ _ _ _ _ _
theorem cuts_out (a0 a1 a2 a3 y z : Int) (h : y < 0 ∨ z < y ∨ 32 < z) (w : World) (hF : Fact w) :
    Calls Tryd.prog 3 #[(.agg #[.int .u8 a0, .int .u8 a1, .int .u8 a2, .int .u8 a3]), (.agg #[.int .i64 y, .int .i64 z])] w fun e w' => e = .returned (.bool true) ∧ Below w.heap.size w w' := by
  have d := bal (bnew w (.cells #[.int .u8 a0, .int .u8 a1, .int .u8 a2, .int .u8 a3] 23)) (.cells #[.int .i64 y, .int .i64 z] 24)
  have hal := alive_any _ (hF.below d)
  have hbox : Box2 ((w.alloc (.cells #[.int .u8 a0, .int .u8 a1, .int .u8 a2, .int .u8 a3] 23)).alloc (.cells #[.int .i64 y, .int .i64 z] 24)) (w.heap.size + 1) (.int .i64 y) (.int .i64 z) := by simpa using new2 (w.alloc _) _ _ _
  clear hF
  by_cases h1 : y < 0
  · clear h
    go_enter Tryd.func3, Tryd.ntmps3
    go_wp2_with (go_at_call 4; refine hal.mono ?_; rintro e w1 ⟨rfl, hb⟩; obtain ⟨k0, k1, hlt⟩ := hbox.below hb)
    go_ret
    exact ⟨rfl, bnext d hb⟩
  · by_cases h2 : z < y
    · clear h
      go_enter Tryd.func3, Tryd.ntmps3
      go_wp2_with (go_at_call 4; refine hal.mono ?_; rintro e w1 ⟨rfl, hb⟩; obtain ⟨k0, k1, hlt⟩ := hbox.below hb)
      go_ret
      exact ⟨rfl, bnext d hb⟩
    · have h3 : 32 < z := by omega
      clear h
      go_enter Tryd.func3, Tryd.ntmps3
      go_wp2_with (go_at_call 4; refine hal.mono ?_; rintro e w1 ⟨rfl, hb⟩; obtain ⟨k0, k1, hlt⟩ := hbox.below hb)
      go_ret
      exact ⟨rfl, bnext d hb⟩
set_option maxRecDepth 100000 in
set_option maxHeartbeats 8000000 in
theorem cuts_zero (a0 a1 a2 a3 k l r0 r1 r2 r3 s0 s1 s2 s3 : Int) (hk0 : 0 ≤ k) (hkl : k ≤ l) (hl : l ≤ 32) (w : World) (hF : Fact w)
    (hc1 : ∀ w, Calls Tryd.prog 5 #[(.agg #[.int .u8 a0, .int .u8 a1, .int .u8 a2, .int .u8 a3]), .int .i64 k] w fun e w' => e = .returned (.agg #[.int .u8 r0, .int .u8 r1, .int .u8 r2, .int .u8 r3, .int .i64 k]) ∧ Below w.heap.size w w')
    (hc2 : ∀ w, Calls Tryd.prog 5 #[(.agg #[.int .u8 a0, .int .u8 a1, .int .u8 a2, .int .u8 a3]), .int .i64 l] w fun e w' => e = .returned (.agg #[.int .u8 s0, .int .u8 s1, .int .u8 s2, .int .u8 s3, .int .i64 l]) ∧ Below w.heap.size w w')
    (hc3 : ∀ w, Calls Tryd.prog 5 #[(.agg #[.int .u8 s0, .int .u8 s1, .int .u8 s2, .int .u8 s3]), .int .i64 k] w fun e w' => e = .returned (.agg #[.int .u8 r0, .int .u8 r1, .int .u8 r2, .int .u8 r3, .int .i64 k]) ∧ Below w.heap.size w w')
    (hw : ∀ w, Calls Tryd.prog 6 #[(.agg #[.int .u8 s0, .int .u8 s1, .int .u8 s2, .int .u8 s3, .int .i64 l]), (.agg #[.int .u8 r0, .int .u8 r1, .int .u8 r2, .int .u8 r3, .int .i64 k])] w fun e w' => e = .returned (.bool true) ∧ Below w.heap.size w w')
    (hi1 : ∀ w, Calls Tryd.prog 7 #[(.agg #[.int .u8 a0, .int .u8 a1, .int .u8 a2, .int .u8 a3]), (.agg #[.int .u8 r0, .int .u8 r1, .int .u8 r2, .int .u8 r3, .int .i64 k])] w fun e w' => e = .returned (.bool true) ∧ Below w.heap.size w w')
    (hi2 : ∀ w, Calls Tryd.prog 7 #[(.agg #[.int .u8 a0, .int .u8 a1, .int .u8 a2, .int .u8 a3]), (.agg #[.int .u8 s0, .int .u8 s1, .int .u8 s2, .int .u8 s3, .int .i64 l])] w fun e w' => e = .returned (.bool true) ∧ Below w.heap.size w w')
    (he : ∀ w, (Op.equalIn 10000 27 (.agg #[.int .u8 r0, .int .u8 r1, .int .u8 r2, .int .u8 r3, .int .i64 k]) (.agg #[.int .u8 r0, .int .u8 r1, .int .u8 r2, .int .u8 r3, .int .i64 k])).run Tryd.prog w = .ok true w)
    (ez : ∀ w, (Op.equalIn 10000 27 (.agg #[.int .u8 r0, .int .u8 r1, .int .u8 r2, .int .u8 r3, .int .i64 k]) (.agg #[.int .u8 0, .int .u8 0, .int .u8 0, .int .u8 0, .int .i64 0])).run Tryd.prog w = .ok true w)
    (hk : Hid (k = 0)) :
    Calls Tryd.prog 3 #[(.agg #[.int .u8 a0, .int .u8 a1, .int .u8 a2, .int .u8 a3]), (.agg #[.int .i64 k, .int .i64 l])] w fun e w' => e = .returned (.bool true) ∧ Below w.heap.size w w' := by
  have hgd := guard_net
  obtain ⟨g, hg⟩ : ∃ g, g = w.heap.size := ⟨_, rfl⟩
  obtain ⟨h, hh⟩ : ∃ g, g = w.heap.size + 1 := ⟨_, rfl⟩
  obtain ⟨S, hS⟩ : ∃ S : World → Prop, S = fun w' => (Box4 w' g (.int .u8 a0) (.int .u8 a1) (.int .u8 a2) (.int .u8 a3) ∧ Box2 w' h (.int .i64 k) (.int .i64 l)) ∧ Below w.heap.size w w' := ⟨_, rfl⟩
  have Sn : ∀ w1 w2, S w1 → Below w1.heap.size w1 w2 → S w2 := fun w1 w2 h hb => by rw [hS] at h ⊢; exact ⟨⟨h.1.1.below hb, h.1.2.below hb⟩, bnext h.2 hb⟩
  have So : ∀ w1 (p : Addr) v, S w1 → w.heap.size + 2 ≤ p.block → S (w1.setCell p v) := fun w1 p v q hp => by
    rw [hS] at q ⊢
    exact ⟨⟨q.1.1.other (by omega) v, q.1.2.other (by omega) v⟩, q.2.setCell (by omega) v⟩
  have Sl : ∀ w1, S w1 → w.heap.size + 2 ≤ w1.heap.size := fun w1 q => by rw [hS] at q; have := q.1.2.2.2; omega
  have Sf0 : ∀ w1, S w1 → Box4 w1 g (.int .u8 a0) (.int .u8 a1) (.int .u8 a2) (.int .u8 a3) := fun w1 h => by rw [hS] at h; exact h.1.1
  have Sf1 : ∀ w1, S w1 → Box2 w1 h (.int .i64 k) (.int .i64 l) := fun w1 h => by rw [hS] at h; exact h.1.2
  have Sb : ∀ w1, S w1 → Below w.heap.size w w1 := fun w1 h => by rw [hS] at h; exact h.2
  have S0 : S ((w.alloc (.cells #[.int .u8 a0, .int .u8 a1, .int .u8 a2, .int .u8 a3] 23)).alloc (.cells #[.int .i64 k, .int .i64 l] 24)) := by
    rw [hS, hg, hh]; exact ⟨⟨(new4 w _ _ _ _ _).alloc _, (by simpa using new2 (w.alloc _) _ _ _)⟩, bal (bnew _ _) _⟩
  have hal := alive_any _ (hF.below (Sb _ S0))
  have HG : Hid (g = w.heap.size) := hg
  have HH : Hid (h = w.heap.size + 1) := hh
  rw [hh] at Sf1
  clear hS hF hg hh
  go_enter Tryd.func3, Tryd.ntmps3
  go_wp2_with (go_at_call 4; refine hal.mono ?_; rintro e y0 ⟨rfl, hb⟩; have T := Sn _ _ S0 hb; clear hb S0; obtain ⟨k0, k1, hlt⟩ := Sf1 _ T)
  have S1 := Sn _ _ T (Below.refl _ _).drew
  rw [← HH.out] at Sf1
  rw [← HH.out, ← HG.out]
  clear T k0 k1 hlt
  refine Inv.region_inv (fun L a w' => S w' ∧ ∃ G5 G6 : Nat, a = { tmps := #[(.agg #[.int .u8 a0, .int .u8 a1, .int .u8 a2, .int .u8 a3]), (.agg #[.int .i64 k, .int .i64 l]), (.pointer (some ⟨g, 0, none⟩)), (.pointer (some ⟨h, 0, none⟩)), (.bool false), (if L 8 = true then (.pointer (some ⟨G5, 0, none⟩)) else undef), (if L 9 = true then (.pointer (some ⟨G6, 0, none⟩)) else undef), undef, (.bool true), (.bool false), (.pointer (some ⟨h, 0, none⟩)), (.int .i64 k), (.bool (decide (k < 0))), (.bool (decide (k < 0))), (.pointer (some ⟨h, 1, none⟩)), (.int .i64 l), (.pointer (some ⟨h, 0, none⟩)), (.int .i64 k), (.bool (decide (l < k))), (.bool (decide (k < 0) || decide (l < k))), (.bool (decide (k < 0) || decide (l < k))), (.pointer (some ⟨h, 1, none⟩)), (.int .i64 l), (.bool (decide (32 < l))), (.bool (decide (k < 0) || decide (l < k) || decide (32 < l))), (if L 0 = true then (.agg #[.int .u8 a0, .int .u8 a1, .int .u8 a2, .int .u8 a3]) else undef), (if L 1 = true then (.pointer (some ⟨h, 0, none⟩)) else undef), (if L 2 = true then (.int .i64 k) else undef), (if L 3 = true then (.agg #[.int .u8 r0, .int .u8 r1, .int .u8 r2, .int .u8 r3, .int .i64 k]) else undef), (if L 4 = true then (.agg #[.int .u8 a0, .int .u8 a1, .int .u8 a2, .int .u8 a3]) else undef), (if L 5 = true then (.pointer (some ⟨h, 1, none⟩)) else undef), (if L 6 = true then (.int .i64 l) else undef), (if L 7 = true then (.agg #[.int .u8 s0, .int .u8 s1, .int .u8 s2, .int .u8 s3, .int .i64 l]) else undef), undef, undef, undef, undef, undef, undef, undef, undef, undef, undef, undef, undef, undef, undef, undef, undef, undef, undef, undef, undef, undef, undef, undef, undef, undef, undef, undef, undef, undef, undef, undef, undef, undef, undef, undef, undef, undef, undef, undef, undef, undef, undef, undef, undef, undef, undef, undef, undef], defers := [] } ∧ (L 8 = true → Bq5 (w.heap.size + 2) w' G5 (L 10) (.int .u8 r0) (.int .u8 r1) (.int .u8 r2) (.int .u8 r3) (.int .i64 k)) ∧ (L 9 = true → Bq5 (w.heap.size + 2) w' G6 (L 11) (.int .u8 s0) (.int .u8 s1) (.int .u8 s2) (.int .u8 s3) (.int .i64 l)) ∧ (L 10 = true → L 8 = true) ∧ (L 11 = true → L 9 = true) ∧ (L 8 = true → L 9 = true → G5 ≠ G6)) (by kernel_rfl) (by kernel_rfl) ?h0 ?step ?done
  case h0 => exact ⟨S1, 0, 0, by simp, by simp, by simp, by simp, by simp, by simp⟩
  case step =>
    refine Inv.Steps.cons rfl ?_ ?_
    · intro L a w' hI hL hd K hK
      obtain ⟨hSw, G5, G6, rfl, f0, f1, o0, o1, d01⟩ := hI
      clear hd
      rw [if_pos (by rfl)]
      obtain ⟨l0, l1, l2, l3, -, -, -, -, -⟩ := Sf0 _ hSw
      go_simp
      exact hK.out _ _ ⟨hSw, G5, G6, by simp, by simpa using f0, by simpa using f1, by simpa using o0, by simpa using o1, by simpa using d01⟩
    refine Inv.Steps.cons rfl ?_ ?_
    · intro L a w' hI hL hd K hK
      obtain ⟨hSw, G5, G6, rfl, f0, f1, o0, o1, d01⟩ := hI
      clear hd
      rw [if_pos (by rfl)]
      go_simp
      exact hK.out _ _ ⟨hSw, G5, G6, by simp, by simpa using f0, by simpa using f1, by simpa using o0, by simpa using o1, by simpa using d01⟩
    refine Inv.Steps.cons rfl ?_ ?_
    · intro L a w' hI hL hd K hK
      obtain ⟨hSw, G5, G6, rfl, f0, f1, o0, o1, d01⟩ := hI
      simp [Region.binds] at hd
      simp only [hd, if_true]
      rw [if_pos (by rfl)]
      obtain ⟨j0, j1, -⟩ := Sf1 _ hSw
      go_simp
      exact hK.out _ _ ⟨hSw, G5, G6, by simp [hd], by simpa using f0, by simpa using f1, by simpa using o0, by simpa using o1, by simpa using d01⟩
    refine Inv.Steps.cons rfl ?_ ?_
    · intro L a w' hI hL hd K hK
      obtain ⟨hSw, G5, G6, rfl, f0, f1, o0, o1, d01⟩ := hI
      simp [Region.binds] at hd
      simp only [hd, if_true]
      rw [if_pos (by rfl)]
      go_simp
      refine (hc1 _).mono ?_
      rintro e w6 ⟨rfl, hb6⟩
      exact hK.out _ _ ⟨Sn _ _ hSw hb6, G5, G6, by simp [hd], fun h => by simpa using (f0 (by simpa using h)).below hb6, fun h => by simpa using (f1 (by simpa using h)).below hb6, by simpa using o0, by simpa using o1, by simpa using d01⟩
    refine Inv.Steps.cons rfl ?_ ?_
    · intro L a w' hI hL hd K hK
      obtain ⟨hSw, G5, G6, rfl, f0, f1, o0, o1, d01⟩ := hI
      clear hd
      rw [if_pos (by rfl)]
      obtain ⟨l0, l1, l2, l3, -, -, -, -, -⟩ := Sf0 _ hSw
      go_simp
      exact hK.out _ _ ⟨hSw, G5, G6, by simp, by simpa using f0, by simpa using f1, by simpa using o0, by simpa using o1, by simpa using d01⟩
    refine Inv.Steps.cons rfl ?_ ?_
    · intro L a w' hI hL hd K hK
      obtain ⟨hSw, G5, G6, rfl, f0, f1, o0, o1, d01⟩ := hI
      clear hd
      rw [if_pos (by rfl)]
      go_simp
      exact hK.out _ _ ⟨hSw, G5, G6, by simp, by simpa using f0, by simpa using f1, by simpa using o0, by simpa using o1, by simpa using d01⟩
    refine Inv.Steps.cons rfl ?_ ?_
    · intro L a w' hI hL hd K hK
      obtain ⟨hSw, G5, G6, rfl, f0, f1, o0, o1, d01⟩ := hI
      simp [Region.binds] at hd
      simp only [hd, if_true]
      rw [if_pos (by rfl)]
      obtain ⟨j0, j1, -⟩ := Sf1 _ hSw
      go_simp
      exact hK.out _ _ ⟨hSw, G5, G6, by simp [hd], by simpa using f0, by simpa using f1, by simpa using o0, by simpa using o1, by simpa using d01⟩
    refine Inv.Steps.cons rfl ?_ ?_
    · intro L a w' hI hL hd K hK
      obtain ⟨hSw, G5, G6, rfl, f0, f1, o0, o1, d01⟩ := hI
      simp [Region.binds] at hd
      simp only [hd, if_true]
      rw [if_pos (by rfl)]
      go_simp
      refine (hc2 _).mono ?_
      rintro e w6 ⟨rfl, hb6⟩
      exact hK.out _ _ ⟨Sn _ _ hSw hb6, G5, G6, by simp [hd], fun h => by simpa using (f0 (by simpa using h)).below hb6, fun h => by simpa using (f1 (by simpa using h)).below hb6, by simpa using o0, by simpa using o1, by simpa using d01⟩
    refine Inv.Steps.cons rfl ?_ ?_
    · intro L a w' hI hL hd K hK
      obtain ⟨hSw, G5, G6, rfl, f0, f1, o0, o1, d01⟩ := hI
      clear hd
      rw [if_pos (by rfl)]
      simp at hL
      have hs : L 10 = false := by cases h : L 10 with | false => rfl | true => exact absurd (o0 h) (by simp [hL])
      go_simp
      exact hK.out _ _ ⟨Sn _ _ hSw (bnew _ _), w'.heap.size, G6, by simp, fun _ => by simp only [hs]; exact Bq5.fresh _ _ _ _ _  (Sl _ hSw), fun h => by simpa using (f1 (by simpa using h)).alloc _, by simp, by simpa using o1, fun _ h => Nat.ne_of_gt (f1 (by simpa using h)).lt⟩
    refine Inv.Steps.cons rfl ?_ ?_
    · intro L a w' hI hL hd K hK
      obtain ⟨hSw, G5, G6, rfl, f0, f1, o0, o1, d01⟩ := hI
      clear hd
      rw [if_pos (by rfl)]
      simp at hL
      have hs : L 11 = false := by cases h : L 11 with | false => rfl | true => exact absurd (o1 h) (by simp [hL])
      go_simp
      exact hK.out _ _ ⟨Sn _ _ hSw (bnew _ _), G5, w'.heap.size, by simp, fun h => by simpa using (f0 (by simpa using h)).alloc _, fun _ => by simp only [hs]; exact Bq5.fresh _ _ _ _ _  (Sl _ hSw), by simpa using o0, by simp, fun h _ => Nat.ne_of_lt (f0 (by simpa using h)).lt⟩
    refine Inv.Steps.cons rfl ?_ ?_
    · intro L a w' hI hL hd K hK
      obtain ⟨hSw, G5, G6, rfl, f0, f1, o0, o1, d01⟩ := hI
      simp [Region.binds] at hd
      simp only [hd, if_true]
      rw [if_pos (by rfl)]
      simp at hL
      have hq := f0 (by simp [hd])
      rw [hL] at hq
      obtain ⟨hm, hbx⟩ := hq
      simp only [Bool.false_eq_true, if_false] at hbx
      obtain ⟨⟨k0, k1, k2, k3, e0, e1, e2, e3, hlt⟩, k4, e4⟩ := id hbx
      have hne := d01 (by simp [hd]) (by simp [hd])
      go_simp
      exact hK.out _ _ ⟨(So _ _ _ (So _ _ _ (So _ _ _ (So _ _ _ (So _ _ _ hSw hm) hm) hm) hm) hm), G5, G6, by simp [hd], fun _ => ⟨hm, by simp only [if_true]; exact hbx.put _ _ _ _ _ ⟩, fun h => by simpa using ((((((f1 (by simpa using h)).other hne.symm _).other hne.symm _).other hne.symm _).other hne.symm _).other hne.symm _), fun _ => by simp [hd], by simpa using o1, by simpa using d01⟩
    refine Inv.Steps.cons rfl ?_ ?_
    · intro L a w' hI hL hd K hK
      obtain ⟨hSw, G5, G6, rfl, f0, f1, o0, o1, d01⟩ := hI
      simp [Region.binds] at hd
      simp only [hd, if_true]
      rw [if_pos (by rfl)]
      simp at hL
      have hq := f1 (by simp [hd])
      rw [hL] at hq
      obtain ⟨hm, hbx⟩ := hq
      simp only [Bool.false_eq_true, if_false] at hbx
      obtain ⟨⟨k0, k1, k2, k3, e0, e1, e2, e3, hlt⟩, k4, e4⟩ := id hbx
      have hne := d01 (by simp [hd]) (by simp [hd])
      go_simp
      exact hK.out _ _ ⟨(So _ _ _ (So _ _ _ (So _ _ _ (So _ _ _ (So _ _ _ hSw hm) hm) hm) hm) hm), G5, G6, by simp [hd], fun h => by simpa using ((((((f0 (by simpa using h)).other hne _).other hne _).other hne _).other hne _).other hne _), fun _ => ⟨hm, by simp only [if_true]; exact hbx.put _ _ _ _ _ ⟩, by simpa using o0, fun _ => by simp [hd], by simpa using d01⟩
    exact Inv.Steps.nil (by decide)
  case done =>
    intro L a w' hI hall
    obtain ⟨hSw, G5, G6, rfl, f0, f1, -, -, -⟩ := hI
    simp only [hall, if_true]
    replace f0 := f0 (hall _)
    rw [hall] at f0
    replace f0 := f0.2
    simp only [if_true] at f0
    replace f1 := f1 (hall _)
    rw [hall] at f1
    replace f1 := f1.2
    simp only [if_true] at f1
    obtain ⟨R, hR⟩ : ∃ R : World → Prop, R = fun w' => S w' ∧ Box5 w' G5 (.int .u8 r0) (.int .u8 r1) (.int .u8 r2) (.int .u8 r3) (.int .i64 k) ∧ Box5 w' G6 (.int .u8 s0) (.int .u8 s1) (.int .u8 s2) (.int .u8 s3) (.int .i64 l) := ⟨_, rfl⟩
    have Rn : ∀ w1 w2, R w1 → Below w1.heap.size w1 w2 → R w2 := fun w1 w2 h hb => by rw [hR] at h ⊢; exact ⟨Sn _ _ h.1 hb, h.2.1.below hb, h.2.2.below hb⟩
    have Rs : ∀ w1, R w1 → S w1 := fun w1 h => by rw [hR] at h; exact h.1
    have R5 : ∀ w1, R w1 → Box5 w1 G5 (.int .u8 r0) (.int .u8 r1) (.int .u8 r2) (.int .u8 r3) (.int .i64 k) := fun w1 h => by rw [hR] at h; exact h.2.1
    have R6 : ∀ w1, R w1 → Box5 w1 G6 (.int .u8 s0) (.int .u8 s1) (.int .u8 s2) (.int .u8 s3) (.int .i64 l) := fun w1 h => by rw [hR] at h; exact h.2.2
    have R0 : R w' := by rw [hR]; exact ⟨hSw, f0, f1⟩
    have R1 := Rn _ _ R0 (Below.refl _ _).drew
    have HR : Hid (∀ (w1 : World) (p : Addr) v, R w1 → w.heap.size + 2 ≤ p.block → G5 ≠ p.block → G6 ≠ p.block → R (w1.setCell p v)) := by
      show ∀ _, _
      intro w1 p v q h1 h2 h3
      rw [hR] at q ⊢
      exact ⟨So _ _ _ q.1 h1, q.2.1.other h2 v, q.2.2.other h3 v⟩
    clear hR R0 hSw f0 f1
    go_wp2_with fail
    refine Inv.region_inv (fun L a w' => R w' ∧ a = { tmps := #[(.agg #[.int .u8 a0, .int .u8 a1, .int .u8 a2, .int .u8 a3]), (.agg #[.int .i64 k, .int .i64 l]), (.pointer (some ⟨g, 0, none⟩)), (.pointer (some ⟨h, 0, none⟩)), (.bool false), (.pointer (some ⟨G5, 0, none⟩)), (.pointer (some ⟨G6, 0, none⟩)), undef, (.bool true), (.bool false), (.pointer (some ⟨h, 0, none⟩)), (.int .i64 k), (.bool (decide (k < 0))), (.bool (decide (k < 0))), (.pointer (some ⟨h, 1, none⟩)), (.int .i64 l), (.pointer (some ⟨h, 0, none⟩)), (.int .i64 k), (.bool (decide (l < k))), (.bool (decide (k < 0) || decide (l < k))), (.bool (decide (k < 0) || decide (l < k))), (.pointer (some ⟨h, 1, none⟩)), (.int .i64 l), (.bool (decide (32 < l))), (.bool (decide (k < 0) || decide (l < k) || decide (32 < l))), (.agg #[.int .u8 a0, .int .u8 a1, .int .u8 a2, .int .u8 a3]), (.pointer (some ⟨h, 0, none⟩)), (.int .i64 k), (.agg #[.int .u8 r0, .int .u8 r1, .int .u8 r2, .int .u8 r3, .int .i64 k]), (.agg #[.int .u8 a0, .int .u8 a1, .int .u8 a2, .int .u8 a3]), (.pointer (some ⟨h, 1, none⟩)), (.int .i64 l), (.agg #[.int .u8 s0, .int .u8 s1, .int .u8 s2, .int .u8 s3, .int .i64 l]), (if L 0 = true then (.pointer (some ⟨G6, 0, none⟩)) else undef), (if L 1 = true then (.agg #[.int .u8 s0, .int .u8 s1, .int .u8 s2, .int .u8 s3]) else undef), (if L 2 = true then (.pointer (some ⟨h, 0, none⟩)) else undef), (if L 3 = true then (.int .i64 k) else undef), (if L 4 = true then (.agg #[.int .u8 r0, .int .u8 r1, .int .u8 r2, .int .u8 r3, .int .i64 k]) else undef), (if L 5 = true then (.agg #[.int .u8 r0, .int .u8 r1, .int .u8 r2, .int .u8 r3, .int .i64 k]) else undef), (if L 6 = true then (.bool false) else undef), (if L 7 = true then (.bool false) else undef), (if L 8 = true then (.agg #[.int .u8 s0, .int .u8 s1, .int .u8 s2, .int .u8 s3, .int .i64 l]) else undef), (if L 9 = true then (.agg #[.int .u8 r0, .int .u8 r1, .int .u8 r2, .int .u8 r3, .int .i64 k]) else undef), (if L 10 = true then (.bool true) else undef), (if L 11 = true then (.bool false) else undef), (if L 12 = true then (.bool false) else undef), (if L 13 = true then (.bool false) else undef), (if L 14 = true then (.agg #[.int .u8 a0, .int .u8 a1, .int .u8 a2, .int .u8 a3]) else undef), (if L 15 = true then (.agg #[.int .u8 r0, .int .u8 r1, .int .u8 r2, .int .u8 r3, .int .i64 k]) else undef), (if L 16 = true then (.bool true) else undef), (if L 17 = true then (.bool false) else undef), (if L 18 = true then (.bool false) else undef), (if L 19 = true then (.bool false) else undef), (if L 20 = true then (.agg #[.int .u8 a0, .int .u8 a1, .int .u8 a2, .int .u8 a3]) else undef), (if L 21 = true then (.agg #[.int .u8 s0, .int .u8 s1, .int .u8 s2, .int .u8 s3, .int .i64 l]) else undef), (if L 22 = true then (.bool true) else undef), (if L 23 = true then (.bool false) else undef), (if L 24 = true then (.bool false) else undef), undef, undef, undef, undef, undef, undef, undef, undef, undef, undef, undef, undef, undef, undef, undef, undef, undef, undef, undef, undef, undef, undef, undef], defers := [] }) (by kernel_rfl) (by kernel_rfl) ?h0 ?step ?done
    case h0 => exact ⟨R1, by simp⟩
    case step =>
      refine Inv.Steps.cons rfl ?_ ?_
      · intro L a w' hI hL hd K hK
        obtain ⟨hSw, rfl⟩ := hI
        clear hd
        rw [if_pos (by rfl)]
        go_simp
        exact hK.out _ _ ⟨hSw, by simp⟩
      refine Inv.Steps.cons rfl ?_ ?_
      · intro L a w' hI hL hd K hK
        obtain ⟨hSw, rfl⟩ := hI
        simp [Region.binds] at hd
        simp only [hd, if_true]
        rw [if_pos (by rfl)]
        obtain ⟨⟨q0, q1, q2, q3, -, -, -, -, -⟩, q4, -⟩ := R6 _ hSw
        go_simp
        exact hK.out _ _ ⟨hSw, by simp [hd]⟩
      refine Inv.Steps.cons rfl ?_ ?_
      · intro L a w' hI hL hd K hK
        obtain ⟨hSw, rfl⟩ := hI
        clear hd
        rw [if_pos (by rfl)]
        go_simp
        exact hK.out _ _ ⟨hSw, by simp⟩
      refine Inv.Steps.cons rfl ?_ ?_
      · intro L a w' hI hL hd K hK
        obtain ⟨hSw, rfl⟩ := hI
        simp [Region.binds] at hd
        simp only [hd, if_true]
        rw [if_pos (by rfl)]
        obtain ⟨j0, j1, -⟩ := Sf1 _ (Rs _ hSw)
        go_simp
        exact hK.out _ _ ⟨hSw, by simp [hd]⟩
      refine Inv.Steps.cons rfl ?_ ?_
      · intro L a w' hI hL hd K hK
        obtain ⟨hSw, rfl⟩ := hI
        simp [Region.binds] at hd
        simp only [hd, if_true]
        rw [if_pos (by rfl)]
        go_simp
        refine (hc3 _).mono ?_
        rintro e w6 ⟨rfl, hb6⟩
        exact hK.out _ _ ⟨Rn _ _ hSw hb6, by simp [hd]⟩
      refine Inv.Steps.cons rfl ?_ ?_
      · intro L a w' hI hL hd K hK
        obtain ⟨hSw, rfl⟩ := hI
        clear hd
        rw [if_pos (by rfl)]
        obtain ⟨⟨m0, m1, m2, m3, -, -, -, -, -⟩, m4, -⟩ := R5 _ hSw
        go_simp
        exact hK.out _ _ ⟨hSw, by simp⟩
      refine Inv.Steps.cons rfl ?_ ?_
      · intro L a w' hI hL hd K hK
        obtain ⟨hSw, rfl⟩ := hI
        simp [Region.binds] at hd
        simp only [hd, if_true]
        rw [if_pos (by rfl)]
        have he6 := he w'
        go_simp
        exact hK.out _ _ ⟨hSw, by simp [hd]⟩
      refine Inv.Steps.cons rfl ?_ ?_
      · intro L a w' hI hL hd K hK
        obtain ⟨hSw, rfl⟩ := hI
        simp [Region.binds] at hd
        simp only [hd, if_true]
        rw [if_pos (by rfl)]
        go_simp
        exact hK.out _ _ ⟨hSw, by simp [hd]⟩
      refine Inv.Steps.cons rfl ?_ ?_
      · intro L a w' hI hL hd K hK
        obtain ⟨hSw, rfl⟩ := hI
        simp [Region.binds] at hd
        simp only [hd, if_true]
        rw [if_pos (by rfl)]
        obtain ⟨⟨q0, q1, q2, q3, -, -, -, -, -⟩, q4, -⟩ := R6 _ hSw
        go_simp
        exact hK.out _ _ ⟨hSw, by simp [hd]⟩
      refine Inv.Steps.cons rfl ?_ ?_
      · intro L a w' hI hL hd K hK
        obtain ⟨hSw, rfl⟩ := hI
        simp [Region.binds] at hd
        simp only [hd, if_true]
        rw [if_pos (by rfl)]
        obtain ⟨⟨m0, m1, m2, m3, -, -, -, -, -⟩, m4, -⟩ := R5 _ hSw
        go_simp
        exact hK.out _ _ ⟨hSw, by simp [hd]⟩
      refine Inv.Steps.cons rfl ?_ ?_
      · intro L a w' hI hL hd K hK
        obtain ⟨hSw, rfl⟩ := hI
        simp [Region.binds] at hd
        simp only [hd, if_true]
        rw [if_pos (by rfl)]
        go_simp
        refine (hw _).mono ?_
        rintro e w6 ⟨rfl, hb6⟩
        exact hK.out _ _ ⟨Rn _ _ hSw hb6, by simp [hd]⟩
      refine Inv.Steps.cons rfl ?_ ?_
      · intro L a w' hI hL hd K hK
        obtain ⟨hSw, rfl⟩ := hI
        simp [Region.binds] at hd
        simp only [hd, if_true]
        rw [if_pos (by rfl)]
        go_simp
        exact hK.out _ _ ⟨hSw, by simp [hd]⟩
      refine Inv.Steps.cons rfl ?_ ?_
      · intro L a w' hI hL hd K hK
        obtain ⟨hSw, rfl⟩ := hI
        simp [Region.binds] at hd
        simp only [hd, if_true]
        rw [if_pos (by rfl)]
        go_simp
        exact hK.out _ _ ⟨hSw, by simp [hd]⟩
      refine Inv.Steps.cons rfl ?_ ?_
      · intro L a w' hI hL hd K hK
        obtain ⟨hSw, rfl⟩ := hI
        simp [Region.binds] at hd
        simp only [hd, if_true]
        rw [if_pos (by rfl)]
        go_simp
        exact hK.out _ _ ⟨hSw, by simp [hd]⟩
      refine Inv.Steps.cons rfl ?_ ?_
      · intro L a w' hI hL hd K hK
        obtain ⟨hSw, rfl⟩ := hI
        simp [Region.binds] at hd
        simp only [hd, if_true]
        rw [if_pos (by rfl)]
        obtain ⟨l0, l1, l2, l3, -, -, -, -, -⟩ := Sf0 _ (Rs _ hSw)
        go_simp
        exact hK.out _ _ ⟨hSw, by simp [hd]⟩
      refine Inv.Steps.cons rfl ?_ ?_
      · intro L a w' hI hL hd K hK
        obtain ⟨hSw, rfl⟩ := hI
        simp [Region.binds] at hd
        simp only [hd, if_true]
        rw [if_pos (by rfl)]
        obtain ⟨⟨m0, m1, m2, m3, -, -, -, -, -⟩, m4, -⟩ := R5 _ hSw
        go_simp
        exact hK.out _ _ ⟨hSw, by simp [hd]⟩
      refine Inv.Steps.cons rfl ?_ ?_
      · intro L a w' hI hL hd K hK
        obtain ⟨hSw, rfl⟩ := hI
        simp [Region.binds] at hd
        simp only [hd, if_true]
        rw [if_pos (by rfl)]
        go_simp
        refine (hi1 _).mono ?_
        rintro e w6 ⟨rfl, hb6⟩
        exact hK.out _ _ ⟨Rn _ _ hSw hb6, by simp [hd]⟩
      refine Inv.Steps.cons rfl ?_ ?_
      · intro L a w' hI hL hd K hK
        obtain ⟨hSw, rfl⟩ := hI
        simp [Region.binds] at hd
        simp only [hd, if_true]
        rw [if_pos (by rfl)]
        go_simp
        exact hK.out _ _ ⟨hSw, by simp [hd]⟩
      refine Inv.Steps.cons rfl ?_ ?_
      · intro L a w' hI hL hd K hK
        obtain ⟨hSw, rfl⟩ := hI
        simp [Region.binds] at hd
        simp only [hd, if_true]
        rw [if_pos (by rfl)]
        go_simp
        exact hK.out _ _ ⟨hSw, by simp [hd]⟩
      refine Inv.Steps.cons rfl ?_ ?_
      · intro L a w' hI hL hd K hK
        obtain ⟨hSw, rfl⟩ := hI
        simp [Region.binds] at hd
        simp only [hd, if_true]
        rw [if_pos (by rfl)]
        go_simp
        exact hK.out _ _ ⟨hSw, by simp [hd]⟩
      refine Inv.Steps.cons rfl ?_ ?_
      · intro L a w' hI hL hd K hK
        obtain ⟨hSw, rfl⟩ := hI
        simp [Region.binds] at hd
        simp only [hd, if_true]
        rw [if_pos (by rfl)]
        obtain ⟨l0, l1, l2, l3, -, -, -, -, -⟩ := Sf0 _ (Rs _ hSw)
        go_simp
        exact hK.out _ _ ⟨hSw, by simp [hd]⟩
      refine Inv.Steps.cons rfl ?_ ?_
      · intro L a w' hI hL hd K hK
        obtain ⟨hSw, rfl⟩ := hI
        simp [Region.binds] at hd
        simp only [hd, if_true]
        rw [if_pos (by rfl)]
        obtain ⟨⟨q0, q1, q2, q3, -, -, -, -, -⟩, q4, -⟩ := R6 _ hSw
        go_simp
        exact hK.out _ _ ⟨hSw, by simp [hd]⟩
      refine Inv.Steps.cons rfl ?_ ?_
      · intro L a w' hI hL hd K hK
        obtain ⟨hSw, rfl⟩ := hI
        simp [Region.binds] at hd
        simp only [hd, if_true]
        rw [if_pos (by rfl)]
        go_simp
        refine (hi2 _).mono ?_
        rintro e w6 ⟨rfl, hb6⟩
        exact hK.out _ _ ⟨Rn _ _ hSw hb6, by simp [hd]⟩
      refine Inv.Steps.cons rfl ?_ ?_
      · intro L a w' hI hL hd K hK
        obtain ⟨hSw, rfl⟩ := hI
        simp [Region.binds] at hd
        simp only [hd, if_true]
        rw [if_pos (by rfl)]
        go_simp
        exact hK.out _ _ ⟨hSw, by simp [hd]⟩
      refine Inv.Steps.cons rfl ?_ ?_
      · intro L a w' hI hL hd K hK
        obtain ⟨hSw, rfl⟩ := hI
        simp [Region.binds] at hd
        simp only [hd, if_true]
        rw [if_pos (by rfl)]
        go_simp
        exact hK.out _ _ ⟨hSw, by simp [hd]⟩
      exact Inv.Steps.nil (by decide)
    case done =>
      intro L a w' hI hall
      obtain ⟨hSw, rfl⟩ := hI
      simp only [hall, if_true]
      have hk := hk.out
      subst hk
      obtain ⟨j0, j1, -⟩ := Sf1 _ (Rs _ hSw)
      obtain ⟨⟨m0, m1, m2, m3, -, -, -, -, -⟩, m4, -⟩ := R5 _ hSw
      have he6 := ez w'
      go_wp2_with fail
      go_ret
      exact ⟨rfl, Sb _ (Rs _ hSw)⟩
set_option maxRecDepth 100000 in
set_option maxHeartbeats 8000000 in
theorem cuts_more (a0 a1 a2 a3 k l r0 r1 r2 r3 s0 s1 s2 s3 t0 t1 t2 t3 nn sh xr : Int) (hk0 : 0 ≤ k) (hkl : k ≤ l) (hl : l ≤ 32) (w : World) (hF : Fact w)
    (hc1 : ∀ w, Calls Tryd.prog 5 #[(.agg #[.int .u8 a0, .int .u8 a1, .int .u8 a2, .int .u8 a3]), .int .i64 k] w fun e w' => e = .returned (.agg #[.int .u8 r0, .int .u8 r1, .int .u8 r2, .int .u8 r3, .int .i64 k]) ∧ Below w.heap.size w w')
    (hc2 : ∀ w, Calls Tryd.prog 5 #[(.agg #[.int .u8 a0, .int .u8 a1, .int .u8 a2, .int .u8 a3]), .int .i64 l] w fun e w' => e = .returned (.agg #[.int .u8 s0, .int .u8 s1, .int .u8 s2, .int .u8 s3, .int .i64 l]) ∧ Below w.heap.size w w')
    (hc3 : ∀ w, Calls Tryd.prog 5 #[(.agg #[.int .u8 s0, .int .u8 s1, .int .u8 s2, .int .u8 s3]), .int .i64 k] w fun e w' => e = .returned (.agg #[.int .u8 r0, .int .u8 r1, .int .u8 r2, .int .u8 r3, .int .i64 k]) ∧ Below w.heap.size w w')
    (hw : ∀ w, Calls Tryd.prog 6 #[(.agg #[.int .u8 s0, .int .u8 s1, .int .u8 s2, .int .u8 s3, .int .i64 l]), (.agg #[.int .u8 r0, .int .u8 r1, .int .u8 r2, .int .u8 r3, .int .i64 k])] w fun e w' => e = .returned (.bool true) ∧ Below w.heap.size w w')
    (hi1 : ∀ w, Calls Tryd.prog 7 #[(.agg #[.int .u8 a0, .int .u8 a1, .int .u8 a2, .int .u8 a3]), (.agg #[.int .u8 r0, .int .u8 r1, .int .u8 r2, .int .u8 r3, .int .i64 k])] w fun e w' => e = .returned (.bool true) ∧ Below w.heap.size w w')
    (hi2 : ∀ w, Calls Tryd.prog 7 #[(.agg #[.int .u8 a0, .int .u8 a1, .int .u8 a2, .int .u8 a3]), (.agg #[.int .u8 s0, .int .u8 s1, .int .u8 s2, .int .u8 s3, .int .i64 l])] w fun e w' => e = .returned (.bool true) ∧ Below w.heap.size w w')
    (he : ∀ w, (Op.equalIn 10000 27 (.agg #[.int .u8 r0, .int .u8 r1, .int .u8 r2, .int .u8 r3, .int .i64 k]) (.agg #[.int .u8 r0, .int .u8 r1, .int .u8 r2, .int .u8 r3, .int .i64 k])).run Tryd.prog w = .ok true w)
    (hn : ∀ w, Calls Tryd.prog 9 #[(.agg #[.int .u8 a0, .int .u8 a1, .int .u8 a2, .int .u8 a3])] w fun e w' => e = .returned (.int .u32 nn) ∧ Below w.heap.size w w')
    (ho : ∀ w, Calls Tryd.prog 8 #[.int .u32 xr] w fun e w' => e = .returned (.agg #[.int .u8 t0, .int .u8 t1, .int .u8 t2, .int .u8 t3]) ∧ Below w.heap.size w w')
    (hi3 : ∀ w, Calls Tryd.prog 7 #[(.agg #[.int .u8 t0, .int .u8 t1, .int .u8 t2, .int .u8 t3]), (.agg #[.int .u8 r0, .int .u8 r1, .int .u8 r2, .int .u8 r3, .int .i64 k])] w fun e w' => e = .returned (.bool false) ∧ Below w.heap.size w w')
    (hsh : IntKind.u32.wrap (2 ^ (32 - k).toNat) = sh)
    (hxr : bits .xor .u32 nn sh = xr)
    (hk : 1 ≤ k) :
    Calls Tryd.prog 3 #[(.agg #[.int .u8 a0, .int .u8 a1, .int .u8 a2, .int .u8 a3]), (.agg #[.int .i64 k, .int .i64 l])] w fun e w' => e = .returned (.bool true) ∧ Below w.heap.size w w' := by
  have hgd := guard_net
  obtain ⟨g, hg⟩ : ∃ g, g = w.heap.size := ⟨_, rfl⟩
  obtain ⟨h, hh⟩ : ∃ g, g = w.heap.size + 1 := ⟨_, rfl⟩
  obtain ⟨S, hS⟩ : ∃ S : World → Prop, S = fun w' => (Box4 w' g (.int .u8 a0) (.int .u8 a1) (.int .u8 a2) (.int .u8 a3) ∧ Box2 w' h (.int .i64 k) (.int .i64 l)) ∧ Below w.heap.size w w' := ⟨_, rfl⟩
  have Sn : ∀ w1 w2, S w1 → Below w1.heap.size w1 w2 → S w2 := fun w1 w2 h hb => by rw [hS] at h ⊢; exact ⟨⟨h.1.1.below hb, h.1.2.below hb⟩, bnext h.2 hb⟩
  have So : ∀ w1 (p : Addr) v, S w1 → w.heap.size + 2 ≤ p.block → S (w1.setCell p v) := fun w1 p v q hp => by
    rw [hS] at q ⊢
    exact ⟨⟨q.1.1.other (by omega) v, q.1.2.other (by omega) v⟩, q.2.setCell (by omega) v⟩
  have Sl : ∀ w1, S w1 → w.heap.size + 2 ≤ w1.heap.size := fun w1 q => by rw [hS] at q; have := q.1.2.2.2; omega
  have Sf0 : ∀ w1, S w1 → Box4 w1 g (.int .u8 a0) (.int .u8 a1) (.int .u8 a2) (.int .u8 a3) := fun w1 h => by rw [hS] at h; exact h.1.1
  have Sf1 : ∀ w1, S w1 → Box2 w1 h (.int .i64 k) (.int .i64 l) := fun w1 h => by rw [hS] at h; exact h.1.2
  have Sb : ∀ w1, S w1 → Below w.heap.size w w1 := fun w1 h => by rw [hS] at h; exact h.2
  have S0 : S ((w.alloc (.cells #[.int .u8 a0, .int .u8 a1, .int .u8 a2, .int .u8 a3] 23)).alloc (.cells #[.int .i64 k, .int .i64 l] 24)) := by
    rw [hS, hg, hh]; exact ⟨⟨(new4 w _ _ _ _ _).alloc _, (by simpa using new2 (w.alloc _) _ _ _)⟩, bal (bnew _ _) _⟩
  have hal := alive_any _ (hF.below (Sb _ S0))
  have HG : Hid (g = w.heap.size) := hg
  have HH : Hid (h = w.heap.size + 1) := hh
  rw [hh] at Sf1
  clear hS hF hg hh
  go_enter Tryd.func3, Tryd.ntmps3
  go_wp2_with (go_at_call 4; refine hal.mono ?_; rintro e y0 ⟨rfl, hb⟩; have T := Sn _ _ S0 hb; clear hb S0; obtain ⟨k0, k1, hlt⟩ := Sf1 _ T)
  have S1 := Sn _ _ T (Below.refl _ _).drew
  rw [← HH.out] at Sf1
  rw [← HH.out, ← HG.out]
  clear T k0 k1 hlt
  refine Inv.region_inv (fun L a w' => S w' ∧ ∃ G5 G6 : Nat, a = { tmps := #[(.agg #[.int .u8 a0, .int .u8 a1, .int .u8 a2, .int .u8 a3]), (.agg #[.int .i64 k, .int .i64 l]), (.pointer (some ⟨g, 0, none⟩)), (.pointer (some ⟨h, 0, none⟩)), (.bool false), (if L 8 = true then (.pointer (some ⟨G5, 0, none⟩)) else undef), (if L 9 = true then (.pointer (some ⟨G6, 0, none⟩)) else undef), undef, (.bool true), (.bool false), (.pointer (some ⟨h, 0, none⟩)), (.int .i64 k), (.bool (decide (k < 0))), (.bool (decide (k < 0))), (.pointer (some ⟨h, 1, none⟩)), (.int .i64 l), (.pointer (some ⟨h, 0, none⟩)), (.int .i64 k), (.bool (decide (l < k))), (.bool (decide (k < 0) || decide (l < k))), (.bool (decide (k < 0) || decide (l < k))), (.pointer (some ⟨h, 1, none⟩)), (.int .i64 l), (.bool (decide (32 < l))), (.bool (decide (k < 0) || decide (l < k) || decide (32 < l))), (if L 0 = true then (.agg #[.int .u8 a0, .int .u8 a1, .int .u8 a2, .int .u8 a3]) else undef), (if L 1 = true then (.pointer (some ⟨h, 0, none⟩)) else undef), (if L 2 = true then (.int .i64 k) else undef), (if L 3 = true then (.agg #[.int .u8 r0, .int .u8 r1, .int .u8 r2, .int .u8 r3, .int .i64 k]) else undef), (if L 4 = true then (.agg #[.int .u8 a0, .int .u8 a1, .int .u8 a2, .int .u8 a3]) else undef), (if L 5 = true then (.pointer (some ⟨h, 1, none⟩)) else undef), (if L 6 = true then (.int .i64 l) else undef), (if L 7 = true then (.agg #[.int .u8 s0, .int .u8 s1, .int .u8 s2, .int .u8 s3, .int .i64 l]) else undef), undef, undef, undef, undef, undef, undef, undef, undef, undef, undef, undef, undef, undef, undef, undef, undef, undef, undef, undef, undef, undef, undef, undef, undef, undef, undef, undef, undef, undef, undef, undef, undef, undef, undef, undef, undef, undef, undef, undef, undef, undef, undef, undef, undef, undef, undef, undef, undef], defers := [] } ∧ (L 8 = true → Bq5 (w.heap.size + 2) w' G5 (L 10) (.int .u8 r0) (.int .u8 r1) (.int .u8 r2) (.int .u8 r3) (.int .i64 k)) ∧ (L 9 = true → Bq5 (w.heap.size + 2) w' G6 (L 11) (.int .u8 s0) (.int .u8 s1) (.int .u8 s2) (.int .u8 s3) (.int .i64 l)) ∧ (L 10 = true → L 8 = true) ∧ (L 11 = true → L 9 = true) ∧ (L 8 = true → L 9 = true → G5 ≠ G6)) (by kernel_rfl) (by kernel_rfl) ?h0 ?step ?done
  case h0 => exact ⟨S1, 0, 0, by simp, by simp, by simp, by simp, by simp, by simp⟩
  case step =>
    refine Inv.Steps.cons rfl ?_ ?_
    · intro L a w' hI hL hd K hK
      obtain ⟨hSw, G5, G6, rfl, f0, f1, o0, o1, d01⟩ := hI
      clear hd
      rw [if_pos (by rfl)]
      obtain ⟨l0, l1, l2, l3, -, -, -, -, -⟩ := Sf0 _ hSw
      go_simp
      exact hK.out _ _ ⟨hSw, G5, G6, by simp, by simpa using f0, by simpa using f1, by simpa using o0, by simpa using o1, by simpa using d01⟩
    refine Inv.Steps.cons rfl ?_ ?_
    · intro L a w' hI hL hd K hK
      obtain ⟨hSw, G5, G6, rfl, f0, f1, o0, o1, d01⟩ := hI
      clear hd
      rw [if_pos (by rfl)]
      go_simp
      exact hK.out _ _ ⟨hSw, G5, G6, by simp, by simpa using f0, by simpa using f1, by simpa using o0, by simpa using o1, by simpa using d01⟩
    refine Inv.Steps.cons rfl ?_ ?_
    · intro L a w' hI hL hd K hK
      obtain ⟨hSw, G5, G6, rfl, f0, f1, o0, o1, d01⟩ := hI
      simp [Region.binds] at hd
      simp only [hd, if_true]
      rw [if_pos (by rfl)]
      obtain ⟨j0, j1, -⟩ := Sf1 _ hSw
      go_simp
      exact hK.out _ _ ⟨hSw, G5, G6, by simp [hd], by simpa using f0, by simpa using f1, by simpa using o0, by simpa using o1, by simpa using d01⟩
    refine Inv.Steps.cons rfl ?_ ?_
    · intro L a w' hI hL hd K hK
      obtain ⟨hSw, G5, G6, rfl, f0, f1, o0, o1, d01⟩ := hI
      simp [Region.binds] at hd
      simp only [hd, if_true]
      rw [if_pos (by rfl)]
      go_simp
      refine (hc1 _).mono ?_
      rintro e w6 ⟨rfl, hb6⟩
      exact hK.out _ _ ⟨Sn _ _ hSw hb6, G5, G6, by simp [hd], fun h => by simpa using (f0 (by simpa using h)).below hb6, fun h => by simpa using (f1 (by simpa using h)).below hb6, by simpa using o0, by simpa using o1, by simpa using d01⟩
    refine Inv.Steps.cons rfl ?_ ?_
    · intro L a w' hI hL hd K hK
      obtain ⟨hSw, G5, G6, rfl, f0, f1, o0, o1, d01⟩ := hI
      clear hd
      rw [if_pos (by rfl)]
      obtain ⟨l0, l1, l2, l3, -, -, -, -, -⟩ := Sf0 _ hSw
      go_simp
      exact hK.out _ _ ⟨hSw, G5, G6, by simp, by simpa using f0, by simpa using f1, by simpa using o0, by simpa using o1, by simpa using d01⟩
    refine Inv.Steps.cons rfl ?_ ?_
    · intro L a w' hI hL hd K hK
      obtain ⟨hSw, G5, G6, rfl, f0, f1, o0, o1, d01⟩ := hI
      clear hd
      rw [if_pos (by rfl)]
      go_simp
      exact hK.out _ _ ⟨hSw, G5, G6, by simp, by simpa using f0, by simpa using f1, by simpa using o0, by simpa using o1, by simpa using d01⟩
    refine Inv.Steps.cons rfl ?_ ?_
    · intro L a w' hI hL hd K hK
      obtain ⟨hSw, G5, G6, rfl, f0, f1, o0, o1, d01⟩ := hI
      simp [Region.binds] at hd
      simp only [hd, if_true]
      rw [if_pos (by rfl)]
      obtain ⟨j0, j1, -⟩ := Sf1 _ hSw
      go_simp
      exact hK.out _ _ ⟨hSw, G5, G6, by simp [hd], by simpa using f0, by simpa using f1, by simpa using o0, by simpa using o1, by simpa using d01⟩
    refine Inv.Steps.cons rfl ?_ ?_
    · intro L a w' hI hL hd K hK
      obtain ⟨hSw, G5, G6, rfl, f0, f1, o0, o1, d01⟩ := hI
      simp [Region.binds] at hd
      simp only [hd, if_true]
      rw [if_pos (by rfl)]
      go_simp
      refine (hc2 _).mono ?_
      rintro e w6 ⟨rfl, hb6⟩
      exact hK.out _ _ ⟨Sn _ _ hSw hb6, G5, G6, by simp [hd], fun h => by simpa using (f0 (by simpa using h)).below hb6, fun h => by simpa using (f1 (by simpa using h)).below hb6, by simpa using o0, by simpa using o1, by simpa using d01⟩
    refine Inv.Steps.cons rfl ?_ ?_
    · intro L a w' hI hL hd K hK
      obtain ⟨hSw, G5, G6, rfl, f0, f1, o0, o1, d01⟩ := hI
      clear hd
      rw [if_pos (by rfl)]
      simp at hL
      have hs : L 10 = false := by cases h : L 10 with | false => rfl | true => exact absurd (o0 h) (by simp [hL])
      go_simp
      exact hK.out _ _ ⟨Sn _ _ hSw (bnew _ _), w'.heap.size, G6, by simp, fun _ => by simp only [hs]; exact Bq5.fresh _ _ _ _ _  (Sl _ hSw), fun h => by simpa using (f1 (by simpa using h)).alloc _, by simp, by simpa using o1, fun _ h => Nat.ne_of_gt (f1 (by simpa using h)).lt⟩
    refine Inv.Steps.cons rfl ?_ ?_
    · intro L a w' hI hL hd K hK
      obtain ⟨hSw, G5, G6, rfl, f0, f1, o0, o1, d01⟩ := hI
      clear hd
      rw [if_pos (by rfl)]
      simp at hL
      have hs : L 11 = false := by cases h : L 11 with | false => rfl | true => exact absurd (o1 h) (by simp [hL])
      go_simp
      exact hK.out _ _ ⟨Sn _ _ hSw (bnew _ _), G5, w'.heap.size, by simp, fun h => by simpa using (f0 (by simpa using h)).alloc _, fun _ => by simp only [hs]; exact Bq5.fresh _ _ _ _ _  (Sl _ hSw), by simpa using o0, by simp, fun h _ => Nat.ne_of_lt (f0 (by simpa using h)).lt⟩
    refine Inv.Steps.cons rfl ?_ ?_
    · intro L a w' hI hL hd K hK
      obtain ⟨hSw, G5, G6, rfl, f0, f1, o0, o1, d01⟩ := hI
      simp [Region.binds] at hd
      simp only [hd, if_true]
      rw [if_pos (by rfl)]
      simp at hL
      have hq := f0 (by simp [hd])
      rw [hL] at hq
      obtain ⟨hm, hbx⟩ := hq
      simp only [Bool.false_eq_true, if_false] at hbx
      obtain ⟨⟨k0, k1, k2, k3, e0, e1, e2, e3, hlt⟩, k4, e4⟩ := id hbx
      have hne := d01 (by simp [hd]) (by simp [hd])
      go_simp
      exact hK.out _ _ ⟨(So _ _ _ (So _ _ _ (So _ _ _ (So _ _ _ (So _ _ _ hSw hm) hm) hm) hm) hm), G5, G6, by simp [hd], fun _ => ⟨hm, by simp only [if_true]; exact hbx.put _ _ _ _ _ ⟩, fun h => by simpa using ((((((f1 (by simpa using h)).other hne.symm _).other hne.symm _).other hne.symm _).other hne.symm _).other hne.symm _), fun _ => by simp [hd], by simpa using o1, by simpa using d01⟩
    refine Inv.Steps.cons rfl ?_ ?_
    · intro L a w' hI hL hd K hK
      obtain ⟨hSw, G5, G6, rfl, f0, f1, o0, o1, d01⟩ := hI
      simp [Region.binds] at hd
      simp only [hd, if_true]
      rw [if_pos (by rfl)]
      simp at hL
      have hq := f1 (by simp [hd])
      rw [hL] at hq
      obtain ⟨hm, hbx⟩ := hq
      simp only [Bool.false_eq_true, if_false] at hbx
      obtain ⟨⟨k0, k1, k2, k3, e0, e1, e2, e3, hlt⟩, k4, e4⟩ := id hbx
      have hne := d01 (by simp [hd]) (by simp [hd])
      go_simp
      exact hK.out _ _ ⟨(So _ _ _ (So _ _ _ (So _ _ _ (So _ _ _ (So _ _ _ hSw hm) hm) hm) hm) hm), G5, G6, by simp [hd], fun h => by simpa using ((((((f0 (by simpa using h)).other hne _).other hne _).other hne _).other hne _).other hne _), fun _ => ⟨hm, by simp only [if_true]; exact hbx.put _ _ _ _ _ ⟩, by simpa using o0, fun _ => by simp [hd], by simpa using d01⟩
    exact Inv.Steps.nil (by decide)
  case done =>
    intro L a w' hI hall
    obtain ⟨hSw, G5, G6, rfl, f0, f1, -, -, -⟩ := hI
    simp only [hall, if_true]
    replace f0 := f0 (hall _)
    rw [hall] at f0
    replace f0 := f0.2
    simp only [if_true] at f0
    replace f1 := f1 (hall _)
    rw [hall] at f1
    replace f1 := f1.2
    simp only [if_true] at f1
    obtain ⟨R, hR⟩ : ∃ R : World → Prop, R = fun w' => S w' ∧ Box5 w' G5 (.int .u8 r0) (.int .u8 r1) (.int .u8 r2) (.int .u8 r3) (.int .i64 k) ∧ Box5 w' G6 (.int .u8 s0) (.int .u8 s1) (.int .u8 s2) (.int .u8 s3) (.int .i64 l) := ⟨_, rfl⟩
    have Rn : ∀ w1 w2, R w1 → Below w1.heap.size w1 w2 → R w2 := fun w1 w2 h hb => by rw [hR] at h ⊢; exact ⟨Sn _ _ h.1 hb, h.2.1.below hb, h.2.2.below hb⟩
    have Rs : ∀ w1, R w1 → S w1 := fun w1 h => by rw [hR] at h; exact h.1
    have R5 : ∀ w1, R w1 → Box5 w1 G5 (.int .u8 r0) (.int .u8 r1) (.int .u8 r2) (.int .u8 r3) (.int .i64 k) := fun w1 h => by rw [hR] at h; exact h.2.1
    have R6 : ∀ w1, R w1 → Box5 w1 G6 (.int .u8 s0) (.int .u8 s1) (.int .u8 s2) (.int .u8 s3) (.int .i64 l) := fun w1 h => by rw [hR] at h; exact h.2.2
    have R0 : R w' := by rw [hR]; exact ⟨hSw, f0, f1⟩
    have R1 := Rn _ _ R0 (Below.refl _ _).drew
    have HR : Hid (∀ (w1 : World) (p : Addr) v, R w1 → w.heap.size + 2 ≤ p.block → G5 ≠ p.block → G6 ≠ p.block → R (w1.setCell p v)) := by
      show ∀ _, _
      intro w1 p v q h1 h2 h3
      rw [hR] at q ⊢
      exact ⟨So _ _ _ q.1 h1, q.2.1.other h2 v, q.2.2.other h3 v⟩
    clear hR R0 hSw f0 f1
    go_wp2_with fail
    refine Inv.region_inv (fun L a w' => R w' ∧ a = { tmps := #[(.agg #[.int .u8 a0, .int .u8 a1, .int .u8 a2, .int .u8 a3]), (.agg #[.int .i64 k, .int .i64 l]), (.pointer (some ⟨g, 0, none⟩)), (.pointer (some ⟨h, 0, none⟩)), (.bool false), (.pointer (some ⟨G5, 0, none⟩)), (.pointer (some ⟨G6, 0, none⟩)), undef, (.bool true), (.bool false), (.pointer (some ⟨h, 0, none⟩)), (.int .i64 k), (.bool (decide (k < 0))), (.bool (decide (k < 0))), (.pointer (some ⟨h, 1, none⟩)), (.int .i64 l), (.pointer (some ⟨h, 0, none⟩)), (.int .i64 k), (.bool (decide (l < k))), (.bool (decide (k < 0) || decide (l < k))), (.bool (decide (k < 0) || decide (l < k))), (.pointer (some ⟨h, 1, none⟩)), (.int .i64 l), (.bool (decide (32 < l))), (.bool (decide (k < 0) || decide (l < k) || decide (32 < l))), (.agg #[.int .u8 a0, .int .u8 a1, .int .u8 a2, .int .u8 a3]), (.pointer (some ⟨h, 0, none⟩)), (.int .i64 k), (.agg #[.int .u8 r0, .int .u8 r1, .int .u8 r2, .int .u8 r3, .int .i64 k]), (.agg #[.int .u8 a0, .int .u8 a1, .int .u8 a2, .int .u8 a3]), (.pointer (some ⟨h, 1, none⟩)), (.int .i64 l), (.agg #[.int .u8 s0, .int .u8 s1, .int .u8 s2, .int .u8 s3, .int .i64 l]), (if L 0 = true then (.pointer (some ⟨G6, 0, none⟩)) else undef), (if L 1 = true then (.agg #[.int .u8 s0, .int .u8 s1, .int .u8 s2, .int .u8 s3]) else undef), (if L 2 = true then (.pointer (some ⟨h, 0, none⟩)) else undef), (if L 3 = true then (.int .i64 k) else undef), (if L 4 = true then (.agg #[.int .u8 r0, .int .u8 r1, .int .u8 r2, .int .u8 r3, .int .i64 k]) else undef), (if L 5 = true then (.agg #[.int .u8 r0, .int .u8 r1, .int .u8 r2, .int .u8 r3, .int .i64 k]) else undef), (if L 6 = true then (.bool false) else undef), (if L 7 = true then (.bool false) else undef), (if L 8 = true then (.agg #[.int .u8 s0, .int .u8 s1, .int .u8 s2, .int .u8 s3, .int .i64 l]) else undef), (if L 9 = true then (.agg #[.int .u8 r0, .int .u8 r1, .int .u8 r2, .int .u8 r3, .int .i64 k]) else undef), (if L 10 = true then (.bool true) else undef), (if L 11 = true then (.bool false) else undef), (if L 12 = true then (.bool false) else undef), (if L 13 = true then (.bool false) else undef), (if L 14 = true then (.agg #[.int .u8 a0, .int .u8 a1, .int .u8 a2, .int .u8 a3]) else undef), (if L 15 = true then (.agg #[.int .u8 r0, .int .u8 r1, .int .u8 r2, .int .u8 r3, .int .i64 k]) else undef), (if L 16 = true then (.bool true) else undef), (if L 17 = true then (.bool false) else undef), (if L 18 = true then (.bool false) else undef), (if L 19 = true then (.bool false) else undef), (if L 20 = true then (.agg #[.int .u8 a0, .int .u8 a1, .int .u8 a2, .int .u8 a3]) else undef), (if L 21 = true then (.agg #[.int .u8 s0, .int .u8 s1, .int .u8 s2, .int .u8 s3, .int .i64 l]) else undef), (if L 22 = true then (.bool true) else undef), (if L 23 = true then (.bool false) else undef), (if L 24 = true then (.bool false) else undef), undef, undef, undef, undef, undef, undef, undef, undef, undef, undef, undef, undef, undef, undef, undef, undef, undef, undef, undef, undef, undef, undef, undef], defers := [] }) (by kernel_rfl) (by kernel_rfl) ?h0 ?step ?done
    case h0 => exact ⟨R1, by simp⟩
    case step =>
      refine Inv.Steps.cons rfl ?_ ?_
      · intro L a w' hI hL hd K hK
        obtain ⟨hSw, rfl⟩ := hI
        clear hd
        rw [if_pos (by rfl)]
        go_simp
        exact hK.out _ _ ⟨hSw, by simp⟩
      refine Inv.Steps.cons rfl ?_ ?_
      · intro L a w' hI hL hd K hK
        obtain ⟨hSw, rfl⟩ := hI
        simp [Region.binds] at hd
        simp only [hd, if_true]
        rw [if_pos (by rfl)]
        obtain ⟨⟨q0, q1, q2, q3, -, -, -, -, -⟩, q4, -⟩ := R6 _ hSw
        go_simp
        exact hK.out _ _ ⟨hSw, by simp [hd]⟩
      refine Inv.Steps.cons rfl ?_ ?_
      · intro L a w' hI hL hd K hK
        obtain ⟨hSw, rfl⟩ := hI
        clear hd
        rw [if_pos (by rfl)]
        go_simp
        exact hK.out _ _ ⟨hSw, by simp⟩
      refine Inv.Steps.cons rfl ?_ ?_
      · intro L a w' hI hL hd K hK
        obtain ⟨hSw, rfl⟩ := hI
        simp [Region.binds] at hd
        simp only [hd, if_true]
        rw [if_pos (by rfl)]
        obtain ⟨j0, j1, -⟩ := Sf1 _ (Rs _ hSw)
        go_simp
        exact hK.out _ _ ⟨hSw, by simp [hd]⟩
      refine Inv.Steps.cons rfl ?_ ?_
      · intro L a w' hI hL hd K hK
        obtain ⟨hSw, rfl⟩ := hI
        simp [Region.binds] at hd
        simp only [hd, if_true]
        rw [if_pos (by rfl)]
        go_simp
        refine (hc3 _).mono ?_
        rintro e w6 ⟨rfl, hb6⟩
        exact hK.out _ _ ⟨Rn _ _ hSw hb6, by simp [hd]⟩
      refine Inv.Steps.cons rfl ?_ ?_
      · intro L a w' hI hL hd K hK
        obtain ⟨hSw, rfl⟩ := hI
        clear hd
        rw [if_pos (by rfl)]
        obtain ⟨⟨m0, m1, m2, m3, -, -, -, -, -⟩, m4, -⟩ := R5 _ hSw
        go_simp
        exact hK.out _ _ ⟨hSw, by simp⟩
      refine Inv.Steps.cons rfl ?_ ?_
      · intro L a w' hI hL hd K hK
        obtain ⟨hSw, rfl⟩ := hI
        simp [Region.binds] at hd
        simp only [hd, if_true]
        rw [if_pos (by rfl)]
        have he6 := he w'
        go_simp
        exact hK.out _ _ ⟨hSw, by simp [hd]⟩
      refine Inv.Steps.cons rfl ?_ ?_
      · intro L a w' hI hL hd K hK
        obtain ⟨hSw, rfl⟩ := hI
        simp [Region.binds] at hd
        simp only [hd, if_true]
        rw [if_pos (by rfl)]
        go_simp
        exact hK.out _ _ ⟨hSw, by simp [hd]⟩
      refine Inv.Steps.cons rfl ?_ ?_
      · intro L a w' hI hL hd K hK
        obtain ⟨hSw, rfl⟩ := hI
        simp [Region.binds] at hd
        simp only [hd, if_true]
        rw [if_pos (by rfl)]
        obtain ⟨⟨q0, q1, q2, q3, -, -, -, -, -⟩, q4, -⟩ := R6 _ hSw
        go_simp
        exact hK.out _ _ ⟨hSw, by simp [hd]⟩
      refine Inv.Steps.cons rfl ?_ ?_
      · intro L a w' hI hL hd K hK
        obtain ⟨hSw, rfl⟩ := hI
        simp [Region.binds] at hd
        simp only [hd, if_true]
        rw [if_pos (by rfl)]
        obtain ⟨⟨m0, m1, m2, m3, -, -, -, -, -⟩, m4, -⟩ := R5 _ hSw
        go_simp
        exact hK.out _ _ ⟨hSw, by simp [hd]⟩
      refine Inv.Steps.cons rfl ?_ ?_
      · intro L a w' hI hL hd K hK
        obtain ⟨hSw, rfl⟩ := hI
        simp [Region.binds] at hd
        simp only [hd, if_true]
        rw [if_pos (by rfl)]
        go_simp
        refine (hw _).mono ?_
        rintro e w6 ⟨rfl, hb6⟩
        exact hK.out _ _ ⟨Rn _ _ hSw hb6, by simp [hd]⟩
      refine Inv.Steps.cons rfl ?_ ?_
      · intro L a w' hI hL hd K hK
        obtain ⟨hSw, rfl⟩ := hI
        simp [Region.binds] at hd
        simp only [hd, if_true]
        rw [if_pos (by rfl)]
        go_simp
        exact hK.out _ _ ⟨hSw, by simp [hd]⟩
      refine Inv.Steps.cons rfl ?_ ?_
      · intro L a w' hI hL hd K hK
        obtain ⟨hSw, rfl⟩ := hI
        simp [Region.binds] at hd
        simp only [hd, if_true]
        rw [if_pos (by rfl)]
        go_simp
        exact hK.out _ _ ⟨hSw, by simp [hd]⟩
      refine Inv.Steps.cons rfl ?_ ?_
      · intro L a w' hI hL hd K hK
        obtain ⟨hSw, rfl⟩ := hI
        simp [Region.binds] at hd
        simp only [hd, if_true]
        rw [if_pos (by rfl)]
        go_simp
        exact hK.out _ _ ⟨hSw, by simp [hd]⟩
      refine Inv.Steps.cons rfl ?_ ?_
      · intro L a w' hI hL hd K hK
        obtain ⟨hSw, rfl⟩ := hI
        simp [Region.binds] at hd
        simp only [hd, if_true]
        rw [if_pos (by rfl)]
        obtain ⟨l0, l1, l2, l3, -, -, -, -, -⟩ := Sf0 _ (Rs _ hSw)
        go_simp
        exact hK.out _ _ ⟨hSw, by simp [hd]⟩
      refine Inv.Steps.cons rfl ?_ ?_
      · intro L a w' hI hL hd K hK
        obtain ⟨hSw, rfl⟩ := hI
        simp [Region.binds] at hd
        simp only [hd, if_true]
        rw [if_pos (by rfl)]
        obtain ⟨⟨m0, m1, m2, m3, -, -, -, -, -⟩, m4, -⟩ := R5 _ hSw
        go_simp
        exact hK.out _ _ ⟨hSw, by simp [hd]⟩
      refine Inv.Steps.cons rfl ?_ ?_
      · intro L a w' hI hL hd K hK
        obtain ⟨hSw, rfl⟩ := hI
        simp [Region.binds] at hd
        simp only [hd, if_true]
        rw [if_pos (by rfl)]
        go_simp
        refine (hi1 _).mono ?_
        rintro e w6 ⟨rfl, hb6⟩
        exact hK.out _ _ ⟨Rn _ _ hSw hb6, by simp [hd]⟩
      refine Inv.Steps.cons rfl ?_ ?_
      · intro L a w' hI hL hd K hK
        obtain ⟨hSw, rfl⟩ := hI
        simp [Region.binds] at hd
        simp only [hd, if_true]
        rw [if_pos (by rfl)]
        go_simp
        exact hK.out _ _ ⟨hSw, by simp [hd]⟩
      refine Inv.Steps.cons rfl ?_ ?_
      · intro L a w' hI hL hd K hK
        obtain ⟨hSw, rfl⟩ := hI
        simp [Region.binds] at hd
        simp only [hd, if_true]
        rw [if_pos (by rfl)]
        go_simp
        exact hK.out _ _ ⟨hSw, by simp [hd]⟩
      refine Inv.Steps.cons rfl ?_ ?_
      · intro L a w' hI hL hd K hK
        obtain ⟨hSw, rfl⟩ := hI
        simp [Region.binds] at hd
        simp only [hd, if_true]
        rw [if_pos (by rfl)]
        go_simp
        exact hK.out _ _ ⟨hSw, by simp [hd]⟩
      refine Inv.Steps.cons rfl ?_ ?_
      · intro L a w' hI hL hd K hK
        obtain ⟨hSw, rfl⟩ := hI
        simp [Region.binds] at hd
        simp only [hd, if_true]
        rw [if_pos (by rfl)]
        obtain ⟨l0, l1, l2, l3, -, -, -, -, -⟩ := Sf0 _ (Rs _ hSw)
        go_simp
        exact hK.out _ _ ⟨hSw, by simp [hd]⟩
      refine Inv.Steps.cons rfl ?_ ?_
      · intro L a w' hI hL hd K hK
        obtain ⟨hSw, rfl⟩ := hI
        simp [Region.binds] at hd
        simp only [hd, if_true]
        rw [if_pos (by rfl)]
        obtain ⟨⟨q0, q1, q2, q3, -, -, -, -, -⟩, q4, -⟩ := R6 _ hSw
        go_simp
        exact hK.out _ _ ⟨hSw, by simp [hd]⟩
      refine Inv.Steps.cons rfl ?_ ?_
      · intro L a w' hI hL hd K hK
        obtain ⟨hSw, rfl⟩ := hI
        simp [Region.binds] at hd
        simp only [hd, if_true]
        rw [if_pos (by rfl)]
        go_simp
        refine (hi2 _).mono ?_
        rintro e w6 ⟨rfl, hb6⟩
        exact hK.out _ _ ⟨Rn _ _ hSw hb6, by simp [hd]⟩
      refine Inv.Steps.cons rfl ?_ ?_
      · intro L a w' hI hL hd K hK
        obtain ⟨hSw, rfl⟩ := hI
        simp [Region.binds] at hd
        simp only [hd, if_true]
        rw [if_pos (by rfl)]
        go_simp
        exact hK.out _ _ ⟨hSw, by simp [hd]⟩
      refine Inv.Steps.cons rfl ?_ ?_
      · intro L a w' hI hL hd K hK
        obtain ⟨hSw, rfl⟩ := hI
        simp [Region.binds] at hd
        simp only [hd, if_true]
        rw [if_pos (by rfl)]
        go_simp
        exact hK.out _ _ ⟨hSw, by simp [hd]⟩
      exact Inv.Steps.nil (by decide)
    case done =>
      intro L a w' hI hall
      obtain ⟨hSw, rfl⟩ := hI
      simp only [hall, if_true]
      obtain ⟨j0, j1, -⟩ := Sf1 _ (Rs _ hSw)
      have hk1 : (k == 0) = false := by simp; omega
      have hw32 : IntKind.i64.wrap (32 - k) = 32 - k := by rw [IntKind.wrap_i64]; omega
      go_wp2_with fail
      have R1 := Rn _ _ hSw (Below.refl _ _).drew
      obtain ⟨mm, hmm⟩ : ∃ mm, mm = max (w.heap.size + 2) (max (G5 + 1) (G6 + 1)) := ⟨_, rfl⟩
      have Rl : ∀ w1, R w1 → mm ≤ w1.heap.size := fun w1 q => by have h1 := Sl _ (Rs _ q); have h2 := (R5 _ q).1.2.2.2.2.2.2.2.2; have h3 := (R6 _ q).1.2.2.2.2.2.2.2.2; omega
      have Ro : ∀ w1 (p : Addr) v, R w1 → mm ≤ p.block → R (w1.setCell p v) := fun w1 p v q hp => HR.out w1 p v q (by omega) (by omega) (by omega)
      clear hmm
      refine Inv.region_inv (fun L a w' => R w' ∧ ∃ G7 : Nat, a = { tmps := #[(.agg #[.int .u8 a0, .int .u8 a1, .int .u8 a2, .int .u8 a3]), (.agg #[.int .i64 k, .int .i64 l]), (.pointer (some ⟨g, 0, none⟩)), (.pointer (some ⟨h, 0, none⟩)), (.bool false), (.pointer (some ⟨G5, 0, none⟩)), (.pointer (some ⟨G6, 0, none⟩)), (if L 8 = true then (.pointer (some ⟨G7, 0, none⟩)) else undef), (.bool true), (.bool false), (.pointer (some ⟨h, 0, none⟩)), (.int .i64 k), (.bool (decide (k < 0))), (.bool (decide (k < 0))), (.pointer (some ⟨h, 1, none⟩)), (.int .i64 l), (.pointer (some ⟨h, 0, none⟩)), (.int .i64 k), (.bool (decide (l < k))), (.bool (decide (k < 0) || decide (l < k))), (.bool (decide (k < 0) || decide (l < k))), (.pointer (some ⟨h, 1, none⟩)), (.int .i64 l), (.bool (decide (32 < l))), (.bool (decide (k < 0) || decide (l < k) || decide (32 < l))), (.agg #[.int .u8 a0, .int .u8 a1, .int .u8 a2, .int .u8 a3]), (.pointer (some ⟨h, 0, none⟩)), (.int .i64 k), (.agg #[.int .u8 r0, .int .u8 r1, .int .u8 r2, .int .u8 r3, .int .i64 k]), (.agg #[.int .u8 a0, .int .u8 a1, .int .u8 a2, .int .u8 a3]), (.pointer (some ⟨h, 1, none⟩)), (.int .i64 l), (.agg #[.int .u8 s0, .int .u8 s1, .int .u8 s2, .int .u8 s3, .int .i64 l]), (.pointer (some ⟨G6, 0, none⟩)), (.agg #[.int .u8 s0, .int .u8 s1, .int .u8 s2, .int .u8 s3]), (.pointer (some ⟨h, 0, none⟩)), (.int .i64 k), (.agg #[.int .u8 r0, .int .u8 r1, .int .u8 r2, .int .u8 r3, .int .i64 k]), (.agg #[.int .u8 r0, .int .u8 r1, .int .u8 r2, .int .u8 r3, .int .i64 k]), (.bool false), (.bool false), (.agg #[.int .u8 s0, .int .u8 s1, .int .u8 s2, .int .u8 s3, .int .i64 l]), (.agg #[.int .u8 r0, .int .u8 r1, .int .u8 r2, .int .u8 r3, .int .i64 k]), (.bool true), (.bool false), (.bool false), (.bool false), (.agg #[.int .u8 a0, .int .u8 a1, .int .u8 a2, .int .u8 a3]), (.agg #[.int .u8 r0, .int .u8 r1, .int .u8 r2, .int .u8 r3, .int .i64 k]), (.bool true), (.bool false), (.bool false), (.bool false), (.agg #[.int .u8 a0, .int .u8 a1, .int .u8 a2, .int .u8 a3]), (.agg #[.int .u8 s0, .int .u8 s1, .int .u8 s2, .int .u8 s3, .int .i64 l]), (.bool true), (.bool false), (.bool false), (.pointer (some ⟨h, 0, none⟩)), (.int .i64 k), (.bool false), undef, undef, undef, (if L 0 = true then (.agg #[.int .u8 a0, .int .u8 a1, .int .u8 a2, .int .u8 a3]) else undef), (if L 1 = true then (.int .u32 nn) else undef), (if L 2 = true then (.pointer (some ⟨h, 0, none⟩)) else undef), (if L 3 = true then (.int .i64 k) else undef), (if L 4 = true then (.int .i64 (32 - k)) else undef), (if L 5 = true then (.int .u32 sh) else undef), (if L 6 = true then (.int .u32 xr) else undef), (if L 7 = true then (.agg #[.int .u8 t0, .int .u8 t1, .int .u8 t2, .int .u8 t3]) else undef), undef, undef, undef, undef, undef, undef, undef, undef, undef], defers := [] } ∧ (L 8 = true → Bq4 mm w' G7 (L 9) (.int .u8 t0) (.int .u8 t1) (.int .u8 t2) (.int .u8 t3)) ∧ (L 9 = true → L 8 = true)) (by kernel_rfl) (by kernel_rfl) ?h0 ?step ?done
      case h0 => exact ⟨R1, 0, by simp, by simp, by simp⟩
      case step =>
        refine Inv.Steps.cons rfl ?_ ?_
        · intro L a w' hI hL hd K hK
          obtain ⟨hSw, G7, rfl, f0, o0⟩ := hI
          clear hd
          rw [if_pos (by rfl)]
          obtain ⟨l0, l1, l2, l3, -, -, -, -, -⟩ := Sf0 _ (Rs _ hSw)
          go_simp
          exact hK.out _ _ ⟨hSw, G7, by simp, by simpa using f0, by simpa using o0⟩
        refine Inv.Steps.cons rfl ?_ ?_
        · intro L a w' hI hL hd K hK
          obtain ⟨hSw, G7, rfl, f0, o0⟩ := hI
          simp [Region.binds] at hd
          simp only [hd, if_true]
          rw [if_pos (by rfl)]
          go_simp
          refine (hn _).mono ?_
          rintro e w6 ⟨rfl, hb6⟩
          exact hK.out _ _ ⟨Rn _ _ hSw hb6, G7, by simp [hd], fun h => by simpa using (f0 (by simpa using h)).below hb6, by simpa using o0⟩
        refine Inv.Steps.cons rfl ?_ ?_
        · intro L a w' hI hL hd K hK
          obtain ⟨hSw, G7, rfl, f0, o0⟩ := hI
          clear hd
          rw [if_pos (by rfl)]
          go_simp
          exact hK.out _ _ ⟨hSw, G7, by simp, by simpa using f0, by simpa using o0⟩
        refine Inv.Steps.cons rfl ?_ ?_
        · intro L a w' hI hL hd K hK
          obtain ⟨hSw, G7, rfl, f0, o0⟩ := hI
          simp [Region.binds] at hd
          simp only [hd, if_true]
          rw [if_pos (by rfl)]
          obtain ⟨j0, j1, -⟩ := Sf1 _ (Rs _ hSw)
          go_simp
          exact hK.out _ _ ⟨hSw, G7, by simp [hd], by simpa using f0, by simpa using o0⟩
        refine Inv.Steps.cons rfl ?_ ?_
        · intro L a w' hI hL hd K hK
          obtain ⟨hSw, G7, rfl, f0, o0⟩ := hI
          simp [Region.binds] at hd
          simp only [hd, if_true]
          rw [if_pos (by rfl)]
          go_simp
          exact hK.out _ _ ⟨hSw, G7, by simp [hd], by simpa using f0, by simpa using o0⟩
        refine Inv.Steps.cons rfl ?_ ?_
        · intro L a w' hI hL hd K hK
          obtain ⟨hSw, G7, rfl, f0, o0⟩ := hI
          simp [Region.binds] at hd
          simp only [hd, if_true]
          rw [if_pos (by rfl)]
          go_simp
          exact hK.out _ _ ⟨hSw, G7, by simp [hd], by simpa using f0, by simpa using o0⟩
        refine Inv.Steps.cons rfl ?_ ?_
        · intro L a w' hI hL hd K hK
          obtain ⟨hSw, G7, rfl, f0, o0⟩ := hI
          simp [Region.binds] at hd
          simp only [hd, if_true]
          rw [if_pos (by rfl)]
          go_simp
          exact hK.out _ _ ⟨hSw, G7, by simp [hd], by simpa using f0, by simpa using o0⟩
        refine Inv.Steps.cons rfl ?_ ?_
        · intro L a w' hI hL hd K hK
          obtain ⟨hSw, G7, rfl, f0, o0⟩ := hI
          simp [Region.binds] at hd
          simp only [hd, if_true]
          rw [if_pos (by rfl)]
          go_simp
          refine (ho _).mono ?_
          rintro e w6 ⟨rfl, hb6⟩
          exact hK.out _ _ ⟨Rn _ _ hSw hb6, G7, by simp [hd], fun h => by simpa using (f0 (by simpa using h)).below hb6, by simpa using o0⟩
        refine Inv.Steps.cons rfl ?_ ?_
        · intro L a w' hI hL hd K hK
          obtain ⟨hSw, G7, rfl, f0, o0⟩ := hI
          clear hd
          rw [if_pos (by rfl)]
          simp at hL
          have hs : L 9 = false := by cases h : L 9 with | false => rfl | true => exact absurd (o0 h) (by simp [hL])
          go_simp
          exact hK.out _ _ ⟨Rn _ _ hSw (bnew _ _), w'.heap.size, by simp, fun _ => by simp only [hs]; exact Bq4.fresh _ _ _ _  (Rl _ hSw), by simp⟩
        refine Inv.Steps.cons rfl ?_ ?_
        · intro L a w' hI hL hd K hK
          obtain ⟨hSw, G7, rfl, f0, o0⟩ := hI
          simp [Region.binds] at hd
          simp only [hd, if_true]
          rw [if_pos (by rfl)]
          simp at hL
          have hq := f0 (by simp [hd])
          rw [hL] at hq
          obtain ⟨hm, hbx⟩ := hq
          simp only [Bool.false_eq_true, if_false] at hbx
          obtain ⟨k0, k1, k2, k3, e0, e1, e2, e3, hlt⟩ := id hbx
          go_simp
          exact hK.out _ _ ⟨(Ro _ _ _ (Ro _ _ _ (Ro _ _ _ (Ro _ _ _ hSw hm) hm) hm) hm), G7, by simp [hd], fun _ => ⟨hm, by simp only [if_true]; exact hbx.put _ _ _ _ ⟩, fun _ => by simp [hd]⟩
        exact Inv.Steps.nil (by decide)
      case done =>
        intro L a w' hI hall
        obtain ⟨hSw, G7, rfl, f0, -⟩ := hI
        simp only [hall, if_true]
        replace f0 := f0 (hall _)
        rw [hall] at f0
        replace f0 := f0.2
        simp only [if_true] at f0
        obtain ⟨u0, u1, u2, u3, -, -, -, -, -⟩ := f0
        obtain ⟨⟨m0, m1, m2, m3, -, -, -, -, -⟩, m4, -⟩ := R5 _ hSw
        clear hsh hxr hw32
        go_wp2_with (first
          | (go_at_call 7; refine (hi3 _).mono ?_; rintro e z1 ⟨rfl, hb⟩; have T := Rn _ _ hSw hb; clear hb m0 m1 m2 m3 m4; obtain ⟨⟨m0, m1, m2, m3, -, -, -, -, -⟩, m4, -⟩ := R5 _ T; obtain ⟨⟨q0, q1, q2, q3, -, -, -, -, -⟩, q4, -⟩ := R6 _ T)
          | (go_at_call 6; refine (hw _).mono ?_; rintro e z2 ⟨rfl, hb⟩; have T2 := Rn _ _ T hb))
        go_ret
        exact ⟨rfl, Sb _ (Rs _ T2)⟩
theorem cuts_any (M : Nat) (hM : M < 4294967296) (y z : Int) (w : World) (hF : Fact w) :
    Calls Tryd.prog 3 #[adr M, .agg #[.int .i64 y, .int .i64 z]] w fun e w' => e = .returned (.bool true) ∧ Below w.heap.size w w' := by
  by_cases h : y < 0 ∨ z < y ∨ 32 < z
  · exact cuts_out _ _ _ _ y z h w hF
  · obtain ⟨i, rfl⟩ := Int.eq_ofNat_of_zero_le (show 0 ≤ y by omega)
    obtain ⟨j, rfl⟩ := Int.eq_ofNat_of_zero_le (show 0 ≤ z by omega)
    have hi : i ≤ 32 := by omega
    have hj : j ≤ 32 := by omega
    have hij : i ≤ j := by omega
    have hc1 := fun w => addr_Cut M hM (i : Int) w
    have hc2 := fun w => addr_Cut M hM (j : Int) w
    have hc3 := fun w => addr_Cut (cutN M j) (cutN_lt hM j) (i : Int) w
    have hw := fun w => addr_Within (cutN M j) (cutN_lt hM j) (j : Int) (cutN M i) (cutN_lt hM i) (i : Int) w
    have hi1 := fun w => addr_In M hM (cutN M i) (cutN_lt hM i) (i : Int) w
    have hi2 := fun w => addr_In M hM (cutN M j) (cutN_lt hM j) (j : Int) w
    rw [held_nat hi] at hc1 hc3
    rw [held_nat hj] at hc2
    rw [cut_cut M hij hj] at hc3
    rw [show withinN (cutN M j) j (cutN M i) i = true from within_iff.2 ⟨j, i, hj, rfl, rfl, hij, cut_self M j hj, cut_cut M hij hj⟩] at hw
    rw [show inN M (cutN M i) i = true from in_iff.2 ⟨i, hi, rfl, rfl⟩] at hi1
    rw [show inN M (cutN M j) j = true from in_iff.2 ⟨j, hj, rfl, rfl⟩] at hi2
    by_cases h0 : i = 0
    · have ez : ∀ w, (Op.equalIn 10000 27 (net (cutN M i) (i : Int)) (net 0 0)).run Tryd.prog w = .ok true w := fun w => by
        rw [eq_net (cutN_lt hM i) (by decide), h0, cutN_zero hM]
        simp
      exact cuts_zero _ _ _ _ (i : Int) (j : Int) _ _ _ _ _ _ _ _ (by omega) (by omega) (by omega) w hF hc1 hc2 hc3 hw hi1 hi2 (fun w => eqn_self (cutN_lt hM i) w) ez (show (i : Int) = 0 by omega)
    · have hx := turned_lt hM (show 1 ≤ i by omega) hi
      have ho := fun w => addr_Of (M ^^^ 2 ^ (32 - i)) hx w
      have hi3 := fun w => addr_In (M ^^^ 2 ^ (32 - i)) hx (cutN M i) (cutN_lt hM i) (i : Int) w
      have e3 : inN (M ^^^ 2 ^ (32 - i)) (cutN M i) i = false := by
        cases hq : inN (M ^^^ 2 ^ (32 - i)) (cutN M i) i with
        | false => rfl
        | true =>
          obtain ⟨k, _, hk, he⟩ := in_iff.1 hq
          obtain rfl : i = k := by omega
          exact absurd he (turned_cut M)
      rw [e3] at hi3
      have hp : 2 ^ (32 - i) < 4294967296 := by
        have : 2 ^ (32 - i) < 2 ^ 32 := Nat.pow_lt_pow_right (by decide) (by omega)
        simpa using this
      have hsh : IntKind.u32.wrap (2 ^ ((32 : Int) - (i : Int)).toNat) = ((2 ^ (32 - i) : Nat) : Int) := by
        rw [show ((32 : Int) - (i : Int)).toNat = 32 - i by omega, IntKind.wrap_u32]
        have : (2 : Int) ^ (32 - i) = ((2 ^ (32 - i) : Nat) : Int) := by simp
        rw [this]
        generalize 2 ^ (32 - i) = P at hp ⊢
        omega
      exact cuts_more _ _ _ _ (i : Int) (j : Int) _ _ _ _ _ _ _ _ _ _ _ _ (M : Int) ((2 ^ (32 - i) : Nat) : Int) ((M ^^^ 2 ^ (32 - i) : Nat) : Int) (by omega) (by omega) (by omega) w hF hc1 hc2 hc3 hw hi1 hi2 (fun w => eqn_self (cutN_lt hM i) w)
        (fun w => addr_Num M hM w) ho hi3 hsh (u32_xor_nat _ _ hM hp) (by omega)
end Go.Proofs.YtpekkmnomfeglabDoor.Addr
