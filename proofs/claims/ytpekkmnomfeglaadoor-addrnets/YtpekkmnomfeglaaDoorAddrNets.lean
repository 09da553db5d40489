/-
  Which networks can be, what is in them.
-/
import Derived.Test.YtpekkmnomfeglaaDoorAddrAlive
import Derived.Test.YtpekkmnomfeglaaDoorAddrRefNet
namespace Go.Proofs.YtpekkmnomfeglaaDoor.Addr
open Go.RowKit Go.Proofs.YtpekkmnomfeglaaDoor.Mem
set_option maxRecDepth 100000 in
set_option maxHeartbeats 4000000 in
theorem nets_core (a0 a1 a2 a3 n0 n1 n2 n3 b m0 m1 m2 m3 c : Int) (v u z : Bool) (w : World) (hF : Fact w)
    (c3 : ∀ w, Calls Tryd.prog 19 #[(.agg #[.int .u8 n0, .int .u8 n1, .int .u8 n2, .int .u8 n3, .int .i64 b])] w fun e w' => e = .returned (.bool v) ∧ Below w.heap.size w w')
    (c5 : ∀ w, Calls Tryd.prog 20 #[(.agg #[.int .u8 n0, .int .u8 n1, .int .u8 n2, .int .u8 n3, .int .i64 b])] w fun e w' => e = .returned (.bool v) ∧ Below w.heap.size w w')
    (c11 : ∀ w, Calls Tryd.prog 21 #[(.agg #[.int .u8 a0, .int .u8 a1, .int .u8 a2, .int .u8 a3]), (.agg #[.int .u8 n0, .int .u8 n1, .int .u8 n2, .int .u8 n3, .int .i64 b])] w fun e w' => e = .returned (.bool u) ∧ Below w.heap.size w w')
    (c14 : ∀ w, Calls Tryd.prog 22 #[(.agg #[.int .u8 a0, .int .u8 a1, .int .u8 a2, .int .u8 a3]), (.agg #[.int .u8 n0, .int .u8 n1, .int .u8 n2, .int .u8 n3, .int .i64 b])] w fun e w' => e = .returned (.bool u) ∧ Below w.heap.size w w')
    (c20 : ∀ w, Calls Tryd.prog 23 #[(.agg #[.int .u8 n0, .int .u8 n1, .int .u8 n2, .int .u8 n3, .int .i64 b]), (.agg #[.int .u8 m0, .int .u8 m1, .int .u8 m2, .int .u8 m3, .int .i64 c])] w fun e w' => e = .returned (.bool z) ∧ Below w.heap.size w w')
    (c23 : ∀ w, Calls Tryd.prog 24 #[(.agg #[.int .u8 n0, .int .u8 n1, .int .u8 n2, .int .u8 n3, .int .i64 b]), (.agg #[.int .u8 m0, .int .u8 m1, .int .u8 m2, .int .u8 m3, .int .i64 c])] w fun e w' => e = .returned (.bool z) ∧ Below w.heap.size w w') :
    Calls Tryd.prog 5 #[(.agg #[.int .u8 a0, .int .u8 a1, .int .u8 a2, .int .u8 a3]), (.agg #[.int .u8 n0, .int .u8 n1, .int .u8 n2, .int .u8 n3, .int .i64 b]), (.agg #[.int .u8 m0, .int .u8 m1, .int .u8 m2, .int .u8 m3, .int .i64 c])] w fun e w' => e = .returned (.bool true) ∧ Below w.heap.size w w' := by
  have hal := fun w hF => alive_any w hF
  obtain ⟨g, hg⟩ : ∃ g, g = w.heap.size := ⟨_, rfl⟩
  obtain ⟨h, hh⟩ : ∃ g, g = w.heap.size + 1 := ⟨_, rfl⟩
  obtain ⟨i, hi⟩ : ∃ g, g = w.heap.size + 2 := ⟨_, rfl⟩
  obtain ⟨S, hS⟩ : ∃ S : World → Prop, S = fun w' => (Box4 w' g (.int .u8 a0) (.int .u8 a1) (.int .u8 a2) (.int .u8 a3) ∧ Box5 w' h (.int .u8 n0) (.int .u8 n1) (.int .u8 n2) (.int .u8 n3) (.int .i64 b) ∧ Box5 w' i (.int .u8 m0) (.int .u8 m1) (.int .u8 m2) (.int .u8 m3) (.int .i64 c) ∧ Fact w') ∧ Below w.heap.size w w' := ⟨_, rfl⟩
  have Sn : ∀ w1 w2, S w1 → Below w1.heap.size w1 w2 → S w2 := fun w1 w2 h hb => by rw [hS] at h ⊢; exact ⟨⟨h.1.1.below hb, h.1.2.1.below hb, h.1.2.2.1.below hb, h.1.2.2.2.below hb⟩, bnext h.2 hb⟩
  have Sf0 : ∀ w1, S w1 → Box4 w1 g (.int .u8 a0) (.int .u8 a1) (.int .u8 a2) (.int .u8 a3) := fun w1 h => by rw [hS] at h; exact h.1.1
  have Sf1 : ∀ w1, S w1 → Box5 w1 h (.int .u8 n0) (.int .u8 n1) (.int .u8 n2) (.int .u8 n3) (.int .i64 b) := fun w1 h => by rw [hS] at h; exact h.1.2.1
  have Sf2 : ∀ w1, S w1 → Box5 w1 i (.int .u8 m0) (.int .u8 m1) (.int .u8 m2) (.int .u8 m3) (.int .i64 c) := fun w1 h => by rw [hS] at h; exact h.1.2.2.1
  have SF : ∀ w1, S w1 → Fact w1 := fun w1 h => by rw [hS] at h; exact h.1.2.2.2
  have Sb : ∀ w1, S w1 → Below w.heap.size w w1 := fun w1 h => by rw [hS] at h; exact h.2
  have S0 : S (((w.alloc (.cells #[.int .u8 a0, .int .u8 a1, .int .u8 a2, .int .u8 a3] 23)).alloc (.cells #[.int .u8 n0, .int .u8 n1, .int .u8 n2, .int .u8 n3, .int .i64 b] 28)).alloc (.cells #[.int .u8 m0, .int .u8 m1, .int .u8 m2, .int .u8 m3, .int .i64 c] 28)) := by rw [hS, hg, hh, hi]; exact ⟨⟨(by simpa using (((new4 w _ _ _ _ _).alloc _).alloc _)), (by simpa using ((new5 (w.alloc _) _ _ _ _ _ _).alloc _)), (by simpa using (new5 ((w.alloc _).alloc _) _ _ _ _ _ _)), hF.below (bal (bal (bnew _ _) _) _)⟩, (bal (bal (bnew _ _) _) _)⟩
  clear hS
  have S1 := Sn _ _ S0 (Below.refl _ _).drew
  clear S0 hF
  go_enter Tryd.func5, Tryd.ntmps5
  go_wp2_with fail
  rw [← hi]
  rw [← hh]
  rw [← hg]
  clear hg hh hi
  refine Inv.region_inv (fun L a w' => S w' ∧ a = { tmps := #[(.agg #[.int .u8 a0, .int .u8 a1, .int .u8 a2, .int .u8 a3]), (.agg #[.int .u8 n0, .int .u8 n1, .int .u8 n2, .int .u8 n3, .int .i64 b]), (.agg #[.int .u8 m0, .int .u8 m1, .int .u8 m2, .int .u8 m3, .int .i64 c]), (.pointer (some ⟨g, 0, none⟩)), (.pointer (some ⟨h, 0, none⟩)), (.pointer (some ⟨i, 0, none⟩)), (if L 26 = true then (.bool true) else (.bool false)), (if L 0 = true then (.bool true) else undef), (if L 1 = true then (.bool true) else undef), (if L 2 = true then (.agg #[.int .u8 n0, .int .u8 n1, .int .u8 n2, .int .u8 n3, .int .i64 b]) else undef), (if L 3 = true then (.bool v) else undef), (if L 4 = true then (.agg #[.int .u8 n0, .int .u8 n1, .int .u8 n2, .int .u8 n3, .int .i64 b]) else undef), (if L 5 = true then (.bool v) else undef), (if L 6 = true then (.bool true) else undef), (if L 7 = true then (.bool true) else undef), (if L 8 = true then (.bool true) else undef), (if L 9 = true then (.agg #[.int .u8 a0, .int .u8 a1, .int .u8 a2, .int .u8 a3]) else undef), (if L 10 = true then (.agg #[.int .u8 n0, .int .u8 n1, .int .u8 n2, .int .u8 n3, .int .i64 b]) else undef), (if L 11 = true then (.bool u) else undef), (if L 12 = true then (.agg #[.int .u8 a0, .int .u8 a1, .int .u8 a2, .int .u8 a3]) else undef), (if L 13 = true then (.agg #[.int .u8 n0, .int .u8 n1, .int .u8 n2, .int .u8 n3, .int .i64 b]) else undef), (if L 14 = true then (.bool u) else undef), (if L 15 = true then (.bool true) else undef), (if L 16 = true then (.bool true) else undef), (if L 17 = true then (.bool true) else undef), (if L 18 = true then (.agg #[.int .u8 n0, .int .u8 n1, .int .u8 n2, .int .u8 n3, .int .i64 b]) else undef), (if L 19 = true then (.agg #[.int .u8 m0, .int .u8 m1, .int .u8 m2, .int .u8 m3, .int .i64 c]) else undef), (if L 20 = true then (.bool z) else undef), (if L 21 = true then (.agg #[.int .u8 n0, .int .u8 n1, .int .u8 n2, .int .u8 n3, .int .i64 b]) else undef), (if L 22 = true then (.agg #[.int .u8 m0, .int .u8 m1, .int .u8 m2, .int .u8 m3, .int .i64 c]) else undef), (if L 23 = true then (.bool z) else undef), (if L 24 = true then (.bool true) else undef), (if L 25 = true then (.bool true) else undef)], defers := [] }) (by kernel_rfl) (by kernel_rfl) ?h0 ?step ?done
  case h0 => exact ⟨S1, by simp⟩
  case step =>
    refine Inv.Steps.cons rfl ?_ ?_
    · intro L a w' hI hL hd K hK
      obtain ⟨hSw, rfl⟩ := hI
      clear hd
      rw [if_pos (by rfl)]
      go_simp
      refine (hal _ (SF _ hSw)).mono ?_
      rintro e w6 ⟨rfl, hb6⟩
      exact hK.out _ _ ⟨Sn _ _ hSw hb6, by simp⟩
    refine Inv.Steps.cons rfl ?_ ?_
    · intro L a w' hI hL hd K hK
      obtain ⟨hSw, rfl⟩ := hI
      simp [Region.binds] at hd
      simp only [hd, if_true]
      rw [if_pos (by rfl)]
      go_simp
      exact hK.out _ _ ⟨hSw, by simp [hd]⟩
    refine Inv.Steps.cons rfl ?_ ?_
    · intro L a w' hI hL hd K hK
      obtain ⟨hSw, rfl⟩ := hI
      simp [Region.binds] at hd
      simp only [hd, if_true]
      rw [if_pos (by rfl)]
      obtain ⟨l0, l1, l2, l3, -, -, -, -, -⟩ := Sf0 _ hSw
      obtain ⟨⟨k0, k1, k2, k3, -, -, -, -, -⟩, k4, -⟩ := Sf1 _ hSw
      obtain ⟨⟨j0, j1, j2, j3, -, -, -, -, -⟩, j4, -⟩ := Sf2 _ hSw
      go_simp
      exact hK.out _ _ ⟨hSw, by simp [hd]⟩
    refine Inv.Steps.cons rfl ?_ ?_
    · intro L a w' hI hL hd K hK
      obtain ⟨hSw, rfl⟩ := hI
      simp [Region.binds] at hd
      simp only [hd, if_true]
      rw [if_pos (by rfl)]
      go_simp
      refine (c3 _).mono ?_
      rintro e w6 ⟨rfl, hb6⟩
      exact hK.out _ _ ⟨Sn _ _ hSw hb6, by simp [hd]⟩
    refine Inv.Steps.cons rfl ?_ ?_
    · intro L a w' hI hL hd K hK
      obtain ⟨hSw, rfl⟩ := hI
      simp [Region.binds] at hd
      simp only [hd, if_true]
      rw [if_pos (by rfl)]
      obtain ⟨l0, l1, l2, l3, -, -, -, -, -⟩ := Sf0 _ hSw
      obtain ⟨⟨k0, k1, k2, k3, -, -, -, -, -⟩, k4, -⟩ := Sf1 _ hSw
      obtain ⟨⟨j0, j1, j2, j3, -, -, -, -, -⟩, j4, -⟩ := Sf2 _ hSw
      go_simp
      exact hK.out _ _ ⟨hSw, by simp [hd]⟩
    refine Inv.Steps.cons rfl ?_ ?_
    · intro L a w' hI hL hd K hK
      obtain ⟨hSw, rfl⟩ := hI
      simp [Region.binds] at hd
      simp only [hd, if_true]
      rw [if_pos (by rfl)]
      go_simp
      refine (c5 _).mono ?_
      rintro e w6 ⟨rfl, hb6⟩
      exact hK.out _ _ ⟨Sn _ _ hSw hb6, by simp [hd]⟩
    refine Inv.Steps.cons rfl ?_ ?_
    · intro L a w' hI hL hd K hK
      obtain ⟨hSw, rfl⟩ := hI
      simp [Region.binds] at hd
      simp only [hd, if_true]
      rw [if_pos (by rfl)]
      go_simp
      exact hK.out _ _ ⟨hSw, by simp [hd]⟩
    refine Inv.Steps.cons rfl ?_ ?_
    · intro L a w' hI hL hd K hK
      obtain ⟨hSw, rfl⟩ := hI
      simp [Region.binds] at hd
      simp only [hd, if_true]
      rw [if_pos (by rfl)]
      go_simp
      exact hK.out _ _ ⟨hSw, by simp [hd]⟩
    refine Inv.Steps.cons rfl ?_ ?_
    · intro L a w' hI hL hd K hK
      obtain ⟨hSw, rfl⟩ := hI
      simp [Region.binds] at hd
      simp only [hd, if_true]
      rw [if_pos (by rfl)]
      go_simp
      exact hK.out _ _ ⟨hSw, by simp [hd]⟩
    refine Inv.Steps.cons rfl ?_ ?_
    · intro L a w' hI hL hd K hK
      obtain ⟨hSw, rfl⟩ := hI
      simp [Region.binds] at hd
      simp only [hd, if_true]
      rw [if_pos (by rfl)]
      obtain ⟨l0, l1, l2, l3, -, -, -, -, -⟩ := Sf0 _ hSw
      obtain ⟨⟨k0, k1, k2, k3, -, -, -, -, -⟩, k4, -⟩ := Sf1 _ hSw
      obtain ⟨⟨j0, j1, j2, j3, -, -, -, -, -⟩, j4, -⟩ := Sf2 _ hSw
      go_simp
      exact hK.out _ _ ⟨hSw, by simp [hd]⟩
    refine Inv.Steps.cons rfl ?_ ?_
    · intro L a w' hI hL hd K hK
      obtain ⟨hSw, rfl⟩ := hI
      simp [Region.binds] at hd
      simp only [hd, if_true]
      rw [if_pos (by rfl)]
      obtain ⟨l0, l1, l2, l3, -, -, -, -, -⟩ := Sf0 _ hSw
      obtain ⟨⟨k0, k1, k2, k3, -, -, -, -, -⟩, k4, -⟩ := Sf1 _ hSw
      obtain ⟨⟨j0, j1, j2, j3, -, -, -, -, -⟩, j4, -⟩ := Sf2 _ hSw
      go_simp
      exact hK.out _ _ ⟨hSw, by simp [hd]⟩
    refine Inv.Steps.cons rfl ?_ ?_
    · intro L a w' hI hL hd K hK
      obtain ⟨hSw, rfl⟩ := hI
      simp [Region.binds] at hd
      simp only [hd, if_true]
      rw [if_pos (by rfl)]
      go_simp
      refine (c11 _).mono ?_
      rintro e w6 ⟨rfl, hb6⟩
      exact hK.out _ _ ⟨Sn _ _ hSw hb6, by simp [hd]⟩
    refine Inv.Steps.cons rfl ?_ ?_
    · intro L a w' hI hL hd K hK
      obtain ⟨hSw, rfl⟩ := hI
      simp [Region.binds] at hd
      simp only [hd, if_true]
      rw [if_pos (by rfl)]
      obtain ⟨l0, l1, l2, l3, -, -, -, -, -⟩ := Sf0 _ hSw
      obtain ⟨⟨k0, k1, k2, k3, -, -, -, -, -⟩, k4, -⟩ := Sf1 _ hSw
      obtain ⟨⟨j0, j1, j2, j3, -, -, -, -, -⟩, j4, -⟩ := Sf2 _ hSw
      go_simp
      exact hK.out _ _ ⟨hSw, by simp [hd]⟩
    refine Inv.Steps.cons rfl ?_ ?_
    · intro L a w' hI hL hd K hK
      obtain ⟨hSw, rfl⟩ := hI
      simp [Region.binds] at hd
      simp only [hd, if_true]
      rw [if_pos (by rfl)]
      obtain ⟨l0, l1, l2, l3, -, -, -, -, -⟩ := Sf0 _ hSw
      obtain ⟨⟨k0, k1, k2, k3, -, -, -, -, -⟩, k4, -⟩ := Sf1 _ hSw
      obtain ⟨⟨j0, j1, j2, j3, -, -, -, -, -⟩, j4, -⟩ := Sf2 _ hSw
      go_simp
      exact hK.out _ _ ⟨hSw, by simp [hd]⟩
    refine Inv.Steps.cons rfl ?_ ?_
    · intro L a w' hI hL hd K hK
      obtain ⟨hSw, rfl⟩ := hI
      simp [Region.binds] at hd
      simp only [hd, if_true]
      rw [if_pos (by rfl)]
      go_simp
      refine (c14 _).mono ?_
      rintro e w6 ⟨rfl, hb6⟩
      exact hK.out _ _ ⟨Sn _ _ hSw hb6, by simp [hd]⟩
    refine Inv.Steps.cons rfl ?_ ?_
    · intro L a w' hI hL hd K hK
      obtain ⟨hSw, rfl⟩ := hI
      simp [Region.binds] at hd
      simp only [hd, if_true]
      rw [if_pos (by rfl)]
      go_simp
      exact hK.out _ _ ⟨hSw, by simp [hd]⟩
    refine Inv.Steps.cons rfl ?_ ?_
    · intro L a w' hI hL hd K hK
      obtain ⟨hSw, rfl⟩ := hI
      simp [Region.binds] at hd
      simp only [hd, if_true]
      rw [if_pos (by rfl)]
      go_simp
      exact hK.out _ _ ⟨hSw, by simp [hd]⟩
    refine Inv.Steps.cons rfl ?_ ?_
    · intro L a w' hI hL hd K hK
      obtain ⟨hSw, rfl⟩ := hI
      simp [Region.binds] at hd
      simp only [hd, if_true]
      rw [if_pos (by rfl)]
      go_simp
      exact hK.out _ _ ⟨hSw, by simp [hd]⟩
    refine Inv.Steps.cons rfl ?_ ?_
    · intro L a w' hI hL hd K hK
      obtain ⟨hSw, rfl⟩ := hI
      simp [Region.binds] at hd
      simp only [hd, if_true]
      rw [if_pos (by rfl)]
      obtain ⟨l0, l1, l2, l3, -, -, -, -, -⟩ := Sf0 _ hSw
      obtain ⟨⟨k0, k1, k2, k3, -, -, -, -, -⟩, k4, -⟩ := Sf1 _ hSw
      obtain ⟨⟨j0, j1, j2, j3, -, -, -, -, -⟩, j4, -⟩ := Sf2 _ hSw
      go_simp
      exact hK.out _ _ ⟨hSw, by simp [hd]⟩
    refine Inv.Steps.cons rfl ?_ ?_
    · intro L a w' hI hL hd K hK
      obtain ⟨hSw, rfl⟩ := hI
      simp [Region.binds] at hd
      simp only [hd, if_true]
      rw [if_pos (by rfl)]
      obtain ⟨l0, l1, l2, l3, -, -, -, -, -⟩ := Sf0 _ hSw
      obtain ⟨⟨k0, k1, k2, k3, -, -, -, -, -⟩, k4, -⟩ := Sf1 _ hSw
      obtain ⟨⟨j0, j1, j2, j3, -, -, -, -, -⟩, j4, -⟩ := Sf2 _ hSw
      go_simp
      exact hK.out _ _ ⟨hSw, by simp [hd]⟩
    refine Inv.Steps.cons rfl ?_ ?_
    · intro L a w' hI hL hd K hK
      obtain ⟨hSw, rfl⟩ := hI
      simp [Region.binds] at hd
      simp only [hd, if_true]
      rw [if_pos (by rfl)]
      go_simp
      refine (c20 _).mono ?_
      rintro e w6 ⟨rfl, hb6⟩
      exact hK.out _ _ ⟨Sn _ _ hSw hb6, by simp [hd]⟩
    refine Inv.Steps.cons rfl ?_ ?_
    · intro L a w' hI hL hd K hK
      obtain ⟨hSw, rfl⟩ := hI
      simp [Region.binds] at hd
      simp only [hd, if_true]
      rw [if_pos (by rfl)]
      obtain ⟨l0, l1, l2, l3, -, -, -, -, -⟩ := Sf0 _ hSw
      obtain ⟨⟨k0, k1, k2, k3, -, -, -, -, -⟩, k4, -⟩ := Sf1 _ hSw
      obtain ⟨⟨j0, j1, j2, j3, -, -, -, -, -⟩, j4, -⟩ := Sf2 _ hSw
      go_simp
      exact hK.out _ _ ⟨hSw, by simp [hd]⟩
    refine Inv.Steps.cons rfl ?_ ?_
    · intro L a w' hI hL hd K hK
      obtain ⟨hSw, rfl⟩ := hI
      simp [Region.binds] at hd
      simp only [hd, if_true]
      rw [if_pos (by rfl)]
      obtain ⟨l0, l1, l2, l3, -, -, -, -, -⟩ := Sf0 _ hSw
      obtain ⟨⟨k0, k1, k2, k3, -, -, -, -, -⟩, k4, -⟩ := Sf1 _ hSw
      obtain ⟨⟨j0, j1, j2, j3, -, -, -, -, -⟩, j4, -⟩ := Sf2 _ hSw
      go_simp
      exact hK.out _ _ ⟨hSw, by simp [hd]⟩
    refine Inv.Steps.cons rfl ?_ ?_
    · intro L a w' hI hL hd K hK
      obtain ⟨hSw, rfl⟩ := hI
      simp [Region.binds] at hd
      simp only [hd, if_true]
      rw [if_pos (by rfl)]
      go_simp
      refine (c23 _).mono ?_
      rintro e w6 ⟨rfl, hb6⟩
      exact hK.out _ _ ⟨Sn _ _ hSw hb6, by simp [hd]⟩
    refine Inv.Steps.cons rfl ?_ ?_
    · intro L a w' hI hL hd K hK
      obtain ⟨hSw, rfl⟩ := hI
      simp [Region.binds] at hd
      simp only [hd, if_true]
      rw [if_pos (by rfl)]
      go_simp
      exact hK.out _ _ ⟨hSw, by simp [hd]⟩
    refine Inv.Steps.cons rfl ?_ ?_
    · intro L a w' hI hL hd K hK
      obtain ⟨hSw, rfl⟩ := hI
      simp [Region.binds] at hd
      simp only [hd, if_true]
      rw [if_pos (by rfl)]
      go_simp
      exact hK.out _ _ ⟨hSw, by simp [hd]⟩
    refine Inv.Steps.cons rfl ?_ ?_
    · intro L a w' hI hL hd K hK
      obtain ⟨hSw, rfl⟩ := hI
      simp [Region.binds] at hd
      simp only [hd, if_true]
      rw [if_pos (by rfl)]
      go_simp
      exact hK.out _ _ ⟨hSw, by simp [hd]⟩
    exact Inv.Steps.nil (by decide)
  case done =>
    intro L a w' hI hall
    obtain ⟨hSw, rfl⟩ := hI
    simp only [hall, if_true]
    go_wp2_with fail
    go_ret
    exact ⟨rfl, Sb _ hSw⟩
theorem nets_any (A : Nat) (hA : A < 4294967296) (N : Nat) (hN : N < 4294967296) (b : Int) (M : Nat) (hM : M < 4294967296) (c : Int) (w : World) (hF : Fact w) :
    Calls Tryd.prog 5 #[adr A, net N b, net M c] w fun e w' => e = .returned (.bool true) ∧ Below w.heap.size w w' :=
  nets_core _ _ _ _ _ _ _ _ b _ _ _ _ c _ _ _ w hF (fun w => addr_Right N hN b w) (fun w => ref_Right N hN b w) (fun w => addr_In A hA N hN b w) (fun w => ref_In A hA N hN b w) (fun w => addr_Within N hN b M hM c w) (fun w => ref_Within N hN b M hM c w)
end Go.Proofs.YtpekkmnomfeglaaDoor.Addr
