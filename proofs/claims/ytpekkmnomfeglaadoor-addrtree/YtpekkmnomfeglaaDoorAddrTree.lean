/-
  Networks lie within one another, or apart.
-/
import Derived.Test.YtpekkmnomfeglaaDoorAddrAlive
namespace Go.Proofs.YtpekkmnomfeglaaDoor.Addr
open Go.RowKit Go.Proofs.YtpekkmnomfeglaaDoor.Mem
set_option maxRecDepth 100000 in
set_option maxHeartbeats 8000000 in
theorem tree_core (a0 a1 a2 a3 n0 n1 n2 n3 b m0 m1 m2 m3 c : Int) (r i1 i2 w1 w2 q : Bool) (w : World) (hF : Fact w)
    (hr : ∀ w, Calls Tryd.prog 19 #[(.agg #[.int .u8 n0, .int .u8 n1, .int .u8 n2, .int .u8 n3, .int .i64 b])] w fun e w' => e = .returned (.bool r) ∧ Below w.heap.size w w')
    (hi1 : ∀ w, Calls Tryd.prog 21 #[(.agg #[.int .u8 a0, .int .u8 a1, .int .u8 a2, .int .u8 a3]), (.agg #[.int .u8 n0, .int .u8 n1, .int .u8 n2, .int .u8 n3, .int .i64 b])] w fun e w' => e = .returned (.bool i1) ∧ Below w.heap.size w w')
    (hi2 : ∀ w, Calls Tryd.prog 21 #[(.agg #[.int .u8 a0, .int .u8 a1, .int .u8 a2, .int .u8 a3]), (.agg #[.int .u8 m0, .int .u8 m1, .int .u8 m2, .int .u8 m3, .int .i64 c])] w fun e w' => e = .returned (.bool i2) ∧ Below w.heap.size w w')
    (hw1 : ∀ w, Calls Tryd.prog 23 #[(.agg #[.int .u8 n0, .int .u8 n1, .int .u8 n2, .int .u8 n3, .int .i64 b]), (.agg #[.int .u8 m0, .int .u8 m1, .int .u8 m2, .int .u8 m3, .int .i64 c])] w fun e w' => e = .returned (.bool w1) ∧ Below w.heap.size w w')
    (hw2 : ∀ w, Calls Tryd.prog 23 #[(.agg #[.int .u8 m0, .int .u8 m1, .int .u8 m2, .int .u8 m3, .int .i64 c]), (.agg #[.int .u8 n0, .int .u8 n1, .int .u8 n2, .int .u8 n3, .int .i64 b])] w fun e w' => e = .returned (.bool w2) ∧ Below w.heap.size w w')
    (hs : ∀ w, Calls Tryd.prog 23 #[(.agg #[.int .u8 n0, .int .u8 n1, .int .u8 n2, .int .u8 n3, .int .i64 b]), (.agg #[.int .u8 n0, .int .u8 n1, .int .u8 n2, .int .u8 n3, .int .i64 b])] w fun e w' => e = .returned (.bool r) ∧ Below w.heap.size w w')
    (hs2 : ∀ w, Calls Tryd.prog 21 #[(.agg #[.int .u8 n0, .int .u8 n1, .int .u8 n2, .int .u8 n3]), (.agg #[.int .u8 n0, .int .u8 n1, .int .u8 n2, .int .u8 n3, .int .i64 b])] w fun e w' => e = .returned (.bool r) ∧ Below w.heap.size w w')
    (hz : ∀ w, Calls Tryd.prog 23 #[(.agg #[.int .u8 n0, .int .u8 n1, .int .u8 n2, .int .u8 n3, .int .i64 b]), (.agg #[.int .u8 0, .int .u8 0, .int .u8 0, .int .u8 0, .int .i64 0])] w fun e w' => e = .returned (.bool r) ∧ Below w.heap.size w w')
    (he : ∀ w, (Op.equalIn 10000 28 (.agg #[.int .u8 n0, .int .u8 n1, .int .u8 n2, .int .u8 n3, .int .i64 b]) (.agg #[.int .u8 m0, .int .u8 m1, .int .u8 m2, .int .u8 m3, .int .i64 c])).run Tryd.prog w = .ok q w)
    (h1 : i1 = true → i2 = true → w1 = true ∨ w2 = true)
    (h2 : w1 = true → i1 = true → i2 = true)
    (h3 : w1 = true → w2 = true → q = true)
    (h4 : r = false → i1 = false ∧ w1 = false ∧ w2 = false) :
    Calls Tryd.prog 8 #[(.agg #[.int .u8 a0, .int .u8 a1, .int .u8 a2, .int .u8 a3]), (.agg #[.int .u8 n0, .int .u8 n1, .int .u8 n2, .int .u8 n3, .int .i64 b]), (.agg #[.int .u8 m0, .int .u8 m1, .int .u8 m2, .int .u8 m3, .int .i64 c])] w fun e w' => e = .returned (.bool true) ∧ Below w.heap.size w w' := by
  have hgd := guard_net
  obtain ⟨g, hg⟩ : ∃ g, g = w.heap.size := ⟨_, rfl⟩
  obtain ⟨h, hh⟩ : ∃ g, g = w.heap.size + 1 := ⟨_, rfl⟩
  obtain ⟨i, hi⟩ : ∃ g, g = w.heap.size + 2 := ⟨_, rfl⟩
  obtain ⟨S, hS⟩ : ∃ S : World → Prop, S = fun w' => (Box4 w' g (.int .u8 a0) (.int .u8 a1) (.int .u8 a2) (.int .u8 a3) ∧ Box5 w' h (.int .u8 n0) (.int .u8 n1) (.int .u8 n2) (.int .u8 n3) (.int .i64 b) ∧ Box5 w' i (.int .u8 m0) (.int .u8 m1) (.int .u8 m2) (.int .u8 m3) (.int .i64 c) ∧ Fact w') ∧ Below w.heap.size w w' := ⟨_, rfl⟩
  have Sn : ∀ w1 w2, S w1 → Below w1.heap.size w1 w2 → S w2 := fun w1 w2 h hb => by rw [hS] at h ⊢; exact ⟨⟨h.1.1.below hb, h.1.2.1.below hb, h.1.2.2.1.below hb, h.1.2.2.2.below hb⟩, bnext h.2 hb⟩
  have Sf0 : ∀ w1, S w1 → Box4 w1 g (.int .u8 a0) (.int .u8 a1) (.int .u8 a2) (.int .u8 a3) := fun w1 h => by rw [hS] at h; exact h.1.1
  have Sf1 : ∀ w1, S w1 → Box5 w1 h (.int .u8 n0) (.int .u8 n1) (.int .u8 n2) (.int .u8 n3) (.int .i64 b) := fun w1 h => by rw [hS] at h; exact h.1.2.1
  have Sf2 : ∀ w1, S w1 → Box5 w1 i (.int .u8 m0) (.int .u8 m1) (.int .u8 m2) (.int .u8 m3) (.int .i64 c) := fun w1 h => by rw [hS] at h; exact h.1.2.2.1
  have SF : ∀ w1, S w1 → Fact w1 := fun w1 h => by rw [hS] at h; exact h.1.2.2.2
  have Sb : ∀ w1, S w1 → Below w.heap.size w w1 := fun w1 h => by rw [hS] at h; exact h.2
  have S0 : S (((w.alloc (.cells #[.int .u8 a0, .int .u8 a1, .int .u8 a2, .int .u8 a3] 23)).alloc (.cells #[.int .u8 n0, .int .u8 n1, .int .u8 n2, .int .u8 n3, .int .i64 b] 28)).alloc (.cells #[.int .u8 m0, .int .u8 m1, .int .u8 m2, .int .u8 m3, .int .i64 c] 28)) := by rw [hS, hg, hh, hi]; exact ⟨⟨(by simpa using (((new4 w _ _ _ _ _).alloc _).alloc _)), (by simpa using ((new5 (w.alloc _) _ _ _ _ _ _).alloc _)), (by simpa using (new5 ((w.alloc _).alloc _) _ _ _ _ _ _)), hF.below (bal (bal (bnew _ _) _) _)⟩, (bal (bal (bnew _ _) _) _)⟩
  clear hS
  have hal := alive_any _ (SF _ S0)
  rw [hg] at Sf0
  rw [hh] at Sf1
  rw [hi] at Sf2
  clear hF SF hg hh hi
  have T := S0
  clear S0
  cases r
  · obtain ⟨rfl, rfl, rfl⟩ := h4 rfl
    clear h1 h2 h3 h4
    cases i2
    all_goals
      go_enter Tryd.func8, Tryd.ntmps8
      go_wp2_with (first
        | (go_at_call 11; refine hal.mono ?_; rintro e x1 ⟨rfl, hb⟩; have T := Sn _ _ T hb; clear hb; (try clear l0 l1 l2 l3 k0 k1 k2 k3 k4 j0 j1 j2 j3 j4); obtain ⟨l0, l1, l2, l3, -, -, -, -, -⟩ := Sf0 _ T; obtain ⟨⟨k0, k1, k2, k3, -, -, -, -, -⟩, k4, -⟩ := Sf1 _ T; obtain ⟨⟨j0, j1, j2, j3, -, -, -, -, -⟩, j4, -⟩ := Sf2 _ T)
        | (go_at_call 21; (first | with_reducible refine (hi1 _).mono ?_ | with_reducible refine (hi2 _).mono ?_ | with_reducible refine (hs2 _).mono ?_); rintro e x2 ⟨rfl, hb⟩; have T := Sn _ _ T hb; clear hb; (try clear l0 l1 l2 l3 k0 k1 k2 k3 k4 j0 j1 j2 j3 j4); obtain ⟨l0, l1, l2, l3, -, -, -, -, -⟩ := Sf0 _ T; obtain ⟨⟨k0, k1, k2, k3, -, -, -, -, -⟩, k4, -⟩ := Sf1 _ T; obtain ⟨⟨j0, j1, j2, j3, -, -, -, -, -⟩, j4, -⟩ := Sf2 _ T)
        | (go_at_call 23; (first | with_reducible refine (hw1 _).mono ?_ | with_reducible refine (hw2 _).mono ?_ | with_reducible refine (hs _).mono ?_ | with_reducible refine (hz _).mono ?_); rintro e x3 ⟨rfl, hb⟩; have T := Sn _ _ T hb; clear hb; (try clear l0 l1 l2 l3 k0 k1 k2 k3 k4 j0 j1 j2 j3 j4); obtain ⟨l0, l1, l2, l3, -, -, -, -, -⟩ := Sf0 _ T; obtain ⟨⟨k0, k1, k2, k3, -, -, -, -, -⟩, k4, -⟩ := Sf1 _ T; obtain ⟨⟨j0, j1, j2, j3, -, -, -, -, -⟩, j4, -⟩ := Sf2 _ T)
        | (go_at_call 19; refine (hr _).mono ?_; rintro e x4 ⟨rfl, hb⟩; have T := Sn _ _ T hb; clear hb; (try clear l0 l1 l2 l3 k0 k1 k2 k3 k4 j0 j1 j2 j3 j4); obtain ⟨l0, l1, l2, l3, -, -, -, -, -⟩ := Sf0 _ T; obtain ⟨⟨k0, k1, k2, k3, -, -, -, -, -⟩, k4, -⟩ := Sf1 _ T; obtain ⟨⟨j0, j1, j2, j3, -, -, -, -, -⟩, j4, -⟩ := Sf2 _ T))
      go_ret
      exact ⟨rfl, Sb _ T⟩
  · clear h4
    cases i1 <;> cases i2 <;> cases w1 <;> cases w2
    all_goals first
      | (exfalso; simp at h1 h2; done)
      | (exfalso; simp at h1; done)
      | (exfalso; simp at h2; done)
      | (clear h1 h2; try (obtain rfl := h3 rfl rfl); clear h3
         go_enter Tryd.func8, Tryd.ntmps8
         go_wp2_with (first
           | (go_at_call 11; refine hal.mono ?_; rintro e x1 ⟨rfl, hb⟩; have T := Sn _ _ T hb; clear hb; (try clear l0 l1 l2 l3 k0 k1 k2 k3 k4 j0 j1 j2 j3 j4); obtain ⟨l0, l1, l2, l3, -, -, -, -, -⟩ := Sf0 _ T; obtain ⟨⟨k0, k1, k2, k3, -, -, -, -, -⟩, k4, -⟩ := Sf1 _ T; obtain ⟨⟨j0, j1, j2, j3, -, -, -, -, -⟩, j4, -⟩ := Sf2 _ T)
           | (go_at_call 21; (first | with_reducible refine (hi1 _).mono ?_ | with_reducible refine (hi2 _).mono ?_ | with_reducible refine (hs2 _).mono ?_); rintro e x2 ⟨rfl, hb⟩; have T := Sn _ _ T hb; clear hb; (try clear l0 l1 l2 l3 k0 k1 k2 k3 k4 j0 j1 j2 j3 j4); obtain ⟨l0, l1, l2, l3, -, -, -, -, -⟩ := Sf0 _ T; obtain ⟨⟨k0, k1, k2, k3, -, -, -, -, -⟩, k4, -⟩ := Sf1 _ T; obtain ⟨⟨j0, j1, j2, j3, -, -, -, -, -⟩, j4, -⟩ := Sf2 _ T)
           | (go_at_call 23; (first | with_reducible refine (hw1 _).mono ?_ | with_reducible refine (hw2 _).mono ?_ | with_reducible refine (hs _).mono ?_ | with_reducible refine (hz _).mono ?_); rintro e x3 ⟨rfl, hb⟩; have T := Sn _ _ T hb; clear hb; (try clear l0 l1 l2 l3 k0 k1 k2 k3 k4 j0 j1 j2 j3 j4); obtain ⟨l0, l1, l2, l3, -, -, -, -, -⟩ := Sf0 _ T; obtain ⟨⟨k0, k1, k2, k3, -, -, -, -, -⟩, k4, -⟩ := Sf1 _ T; obtain ⟨⟨j0, j1, j2, j3, -, -, -, -, -⟩, j4, -⟩ := Sf2 _ T)
           | (go_at_call 19; refine (hr _).mono ?_; rintro e x4 ⟨rfl, hb⟩; have T := Sn _ _ T hb; clear hb; (try clear l0 l1 l2 l3 k0 k1 k2 k3 k4 j0 j1 j2 j3 j4); obtain ⟨l0, l1, l2, l3, -, -, -, -, -⟩ := Sf0 _ T; obtain ⟨⟨k0, k1, k2, k3, -, -, -, -, -⟩, k4, -⟩ := Sf1 _ T; obtain ⟨⟨j0, j1, j2, j3, -, -, -, -, -⟩, j4, -⟩ := Sf2 _ T))
         go_ret
         exact ⟨rfl, Sb _ T⟩)
theorem tree_any (A : Nat) (hA : A < 4294967296) (N : Nat) (hN : N < 4294967296) (b : Int) (M : Nat) (hM : M < 4294967296) (c : Int) (w : World) (hF : Fact w) :
    Calls Tryd.prog 8 #[adr A, net N b, net M c] w fun e w' => e = .returned (.bool true) ∧ Below w.heap.size w w' := by
  have hs := fun w => addr_Within N hN b N hN b w
  have hs2 := fun w => addr_In N hN N hN b w
  have hz := fun w => addr_Within N hN b 0 (by decide) 0 w
  have e1 : withinN N b N b = rightN N b := by
    cases h : rightN N b with
    | true => exact within_self h
    | false => rw [withinN, h, Bool.false_and, Bool.false_and]
  have e2 : inN N N b = rightN N b := by
    cases h : rightN N b with
    | true => exact in_self h
    | false => rw [inN, h, Bool.false_and]
  have e3 : withinN N b 0 0 = rightN N b := by
    cases h : rightN N b with
    | true => exact within_whole hN h
    | false => rw [withinN, h, Bool.false_and, Bool.false_and]
  rw [e1] at hs
  rw [e2] at hs2
  rw [e3] at hz
  exact tree_core _ _ _ _ _ _ _ _ b _ _ _ _ c _ _ _ _ _ (decide (N = M) && decide (b = c)) w hF (fun w => addr_Right N hN b w) (fun w => addr_In A hA N hN b w) (fun w => addr_In A hA M hM c w) (fun w => addr_Within N hN b M hM c w) (fun w => addr_Within M hM c N hN b w)
    hs hs2 hz (fun w => eq_net hN hM w) (fun h1 h2 => apart_or h1 h2) (fun h1 h2 => in_wider h1 h2)
    (fun h1 h2 => by obtain ⟨rfl, rfl⟩ := within_anti h1 h2; simp)
    (fun h => ⟨by rw [inN, h, Bool.false_and], by rw [withinN, h, Bool.false_and, Bool.false_and], by rw [withinN, inN, h, Bool.false_and, Bool.and_false, Bool.false_and]⟩)
end Go.Proofs.YtpekkmnomfeglaaDoor.Addr
