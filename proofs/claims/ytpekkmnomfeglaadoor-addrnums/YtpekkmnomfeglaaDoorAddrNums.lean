/-
  The address of any number, the mask and the network of any bits.
-/
import Derived.Test.YtpekkmnomfeglaaDoorAddrAlive
import Derived.Test.YtpekkmnomfeglaaDoorAddrRefNet
namespace Go.Proofs.YtpekkmnomfeglaaDoor.Addr
open Go.RowKit Go.Proofs.YtpekkmnomfeglaaDoor.Mem
set_option maxRecDepth 100000 in
set_option maxHeartbeats 4000000 in
theorem nums_core (m a0 a1 a2 a3 b o0 o1 o2 o3 x t0 t1 t2 t3 f0 f1 f2 f3 r0 r1 r2 r3 k : Int) (w : World) (hF : Fact w)
    (c3 : ∀ w, Calls Tryd.prog 14 #[.int .u32 m] w fun e w' => e = .returned (.agg #[.int .u8 o0, .int .u8 o1, .int .u8 o2, .int .u8 o3]) ∧ Below w.heap.size w w')
    (c5 : ∀ w, Calls Tryd.prog 15 #[.int .u32 m] w fun e w' => e = .returned (.agg #[.int .u8 o0, .int .u8 o1, .int .u8 o2, .int .u8 o3]) ∧ Below w.heap.size w w')
    (c10 : ∀ w, Calls Tryd.prog 12 #[(.agg #[.int .u8 a0, .int .u8 a1, .int .u8 a2, .int .u8 a3])] w fun e w' => e = .returned (.int .u32 x) ∧ Below w.heap.size w w')
    (c12 : ∀ w, Calls Tryd.prog 16 #[(.agg #[.int .u8 a0, .int .u8 a1, .int .u8 a2, .int .u8 a3])] w fun e w' => e = .returned (.int .u32 x) ∧ Below w.heap.size w w')
    (c17 : ∀ w, Calls Tryd.prog 13 #[.int .i64 b] w fun e w' => e = .returned (.agg #[.int .u8 t0, .int .u8 t1, .int .u8 t2, .int .u8 t3]) ∧ Below w.heap.size w w')
    (c18 : ∀ w, Calls Tryd.prog 15 #[.int .u32 4294967295] w fun e w' => e = .returned (.agg #[.int .u8 f0, .int .u8 f1, .int .u8 f2, .int .u8 f3]) ∧ Below w.heap.size w w')
    (c20 : ∀ w, Calls Tryd.prog 17 #[(.agg #[.int .u8 f0, .int .u8 f1, .int .u8 f2, .int .u8 f3]), .int .i64 b] w fun e w' => e = .returned (.agg #[.int .u8 t0, .int .u8 t1, .int .u8 t2, .int .u8 t3, .int .i64 k]) ∧ Below w.heap.size w w')
    (c27 : ∀ w, Calls Tryd.prog 18 #[(.agg #[.int .u8 a0, .int .u8 a1, .int .u8 a2, .int .u8 a3]), .int .i64 b] w fun e w' => e = .returned (.agg #[.int .u8 r0, .int .u8 r1, .int .u8 r2, .int .u8 r3, .int .i64 k]) ∧ Below w.heap.size w w')
    (c30 : ∀ w, Calls Tryd.prog 17 #[(.agg #[.int .u8 a0, .int .u8 a1, .int .u8 a2, .int .u8 a3]), .int .i64 b] w fun e w' => e = .returned (.agg #[.int .u8 r0, .int .u8 r1, .int .u8 r2, .int .u8 r3, .int .i64 k]) ∧ Below w.heap.size w w')
    (e6 : ∀ w, (Op.equalIn 10000 23 (.agg #[.int .u8 o0, .int .u8 o1, .int .u8 o2, .int .u8 o3]) (.agg #[.int .u8 o0, .int .u8 o1, .int .u8 o2, .int .u8 o3])).run Tryd.prog w = .ok true w)
    (e22 : ∀ w, (Op.equalIn 10000 23 (.agg #[.int .u8 t0, .int .u8 t1, .int .u8 t2, .int .u8 t3]) (.agg #[.int .u8 t0, .int .u8 t1, .int .u8 t2, .int .u8 t3])).run Tryd.prog w = .ok true w)
    (e31 : ∀ w, (Op.equalIn 10000 28 (.agg #[.int .u8 r0, .int .u8 r1, .int .u8 r2, .int .u8 r3, .int .i64 k]) (.agg #[.int .u8 r0, .int .u8 r1, .int .u8 r2, .int .u8 r3, .int .i64 k])).run Tryd.prog w = .ok true w) :
    Calls Tryd.prog 4 #[.int .u32 m, (.agg #[.int .u8 a0, .int .u8 a1, .int .u8 a2, .int .u8 a3]), .int .i64 b] w fun e w' => e = .returned (.bool true) ∧ Below w.heap.size w w' := by
  have hgd := guard_net
  have hgd2 := guard_adr
  have hal := fun w hF => alive_any w hF
  obtain ⟨g, hg⟩ : ∃ g, g = w.heap.size := ⟨_, rfl⟩
  obtain ⟨S, hS⟩ : ∃ S : World → Prop, S = fun w' => (Box4 w' g (.int .u8 a0) (.int .u8 a1) (.int .u8 a2) (.int .u8 a3) ∧ Fact w') ∧ Below w.heap.size w w' := ⟨_, rfl⟩
  have Sn : ∀ w1 w2, S w1 → Below w1.heap.size w1 w2 → S w2 := fun w1 w2 h hb => by rw [hS] at h ⊢; exact ⟨⟨h.1.1.below hb, h.1.2.below hb⟩, bnext h.2 hb⟩
  have Sf0 : ∀ w1, S w1 → Box4 w1 g (.int .u8 a0) (.int .u8 a1) (.int .u8 a2) (.int .u8 a3) := fun w1 h => by rw [hS] at h; exact h.1.1
  have SF : ∀ w1, S w1 → Fact w1 := fun w1 h => by rw [hS] at h; exact h.1.2
  have Sb : ∀ w1, S w1 → Below w.heap.size w w1 := fun w1 h => by rw [hS] at h; exact h.2
  have S0 : S (w.alloc (.cells #[.int .u8 a0, .int .u8 a1, .int .u8 a2, .int .u8 a3] 23)) := by rw [hS, hg]; exact ⟨⟨(by simpa using (new4 w _ _ _ _ _)), hF.below (bnew _ _)⟩, (bnew _ _)⟩
  clear hS
  have S1 := Sn _ _ S0 (Below.refl _ _).drew
  clear S0 hF
  go_enter Tryd.func4, Tryd.ntmps4
  go_wp2_with fail
  rw [← hg]
  clear hg
  refine Inv.region_inv (fun L a w' => S w' ∧ a = { tmps := #[(.int .u32 m), (.agg #[.int .u8 a0, .int .u8 a1, .int .u8 a2, .int .u8 a3]), (.int .i64 b), undef, (.pointer (some ⟨g, 0, none⟩)), undef, (if L 33 = true then (.bool true) else (.bool false)), (if L 0 = true then (.bool true) else undef), (if L 1 = true then (.bool true) else undef), (if L 2 = true then (.int .u32 m) else undef), (if L 3 = true then (.agg #[.int .u8 o0, .int .u8 o1, .int .u8 o2, .int .u8 o3]) else undef), (if L 4 = true then (.int .u32 m) else undef), (if L 5 = true then (.agg #[.int .u8 o0, .int .u8 o1, .int .u8 o2, .int .u8 o3]) else undef), (if L 6 = true then (.bool true) else undef), (if L 7 = true then (.bool true) else undef), (if L 8 = true then (.bool true) else undef), (if L 9 = true then (.agg #[.int .u8 a0, .int .u8 a1, .int .u8 a2, .int .u8 a3]) else undef), (if L 10 = true then (.int .u32 x) else undef), (if L 11 = true then (.agg #[.int .u8 a0, .int .u8 a1, .int .u8 a2, .int .u8 a3]) else undef), (if L 12 = true then (.int .u32 x) else undef), (if L 13 = true then (.bool true) else undef), (if L 14 = true then (.bool true) else undef), (if L 15 = true then (.bool true) else undef), (if L 16 = true then (.int .i64 b) else undef), (if L 17 = true then (.agg #[.int .u8 t0, .int .u8 t1, .int .u8 t2, .int .u8 t3]) else undef), (if L 18 = true then (.agg #[.int .u8 f0, .int .u8 f1, .int .u8 f2, .int .u8 f3]) else undef), (if L 19 = true then (.int .i64 b) else undef), (if L 20 = true then (.agg #[.int .u8 t0, .int .u8 t1, .int .u8 t2, .int .u8 t3, .int .i64 k]) else undef), (if L 21 = true then (.agg #[.int .u8 t0, .int .u8 t1, .int .u8 t2, .int .u8 t3]) else undef), (if L 22 = true then (.bool true) else undef), (if L 23 = true then (.bool true) else undef), (if L 24 = true then (.bool true) else undef), (if L 25 = true then (.agg #[.int .u8 a0, .int .u8 a1, .int .u8 a2, .int .u8 a3]) else undef), (if L 26 = true then (.int .i64 b) else undef), (if L 27 = true then (.agg #[.int .u8 r0, .int .u8 r1, .int .u8 r2, .int .u8 r3, .int .i64 k]) else undef), (if L 28 = true then (.agg #[.int .u8 a0, .int .u8 a1, .int .u8 a2, .int .u8 a3]) else undef), (if L 29 = true then (.int .i64 b) else undef), (if L 30 = true then (.agg #[.int .u8 r0, .int .u8 r1, .int .u8 r2, .int .u8 r3, .int .i64 k]) else undef), (if L 31 = true then (.bool true) else undef), (if L 32 = true then (.bool true) else undef)], defers := [] }) (by kernel_rfl) (by kernel_rfl) ?h0 ?step ?done
  case h0 => exact ⟨S1, by simp⟩
  case step =>
    refine Inv.Steps.cons rfl ?_ ?_
    · intro L a w' hI hL hd K hK
      obtain ⟨hSw, rfl⟩ := hI
      clear hd
      rw [if_pos (by rfl)]
      go_simp
      refine (hal _ (SF _ hSw)).mono ?_
      rintro e w6 ⟨rfl, hb6⟩
      exact hK.out _ _ ⟨Sn _ _ hSw hb6, by simp⟩
    refine Inv.Steps.cons rfl ?_ ?_
    · intro L a w' hI hL hd K hK
      obtain ⟨hSw, rfl⟩ := hI
      simp [Region.binds] at hd
      simp only [hd, if_true]
      rw [if_pos (by rfl)]
      go_simp
      exact hK.out _ _ ⟨hSw, by simp [hd]⟩
    refine Inv.Steps.cons rfl ?_ ?_
    · intro L a w' hI hL hd K hK
      obtain ⟨hSw, rfl⟩ := hI
      simp [Region.binds] at hd
      simp only [hd, if_true]
      rw [if_pos (by rfl)]
      go_simp
      exact hK.out _ _ ⟨hSw, by simp [hd]⟩
    refine Inv.Steps.cons rfl ?_ ?_
    · intro L a w' hI hL hd K hK
      obtain ⟨hSw, rfl⟩ := hI
      simp [Region.binds] at hd
      simp only [hd, if_true]
      rw [if_pos (by rfl)]
      go_simp
      refine (c3 _).mono ?_
      rintro e w6 ⟨rfl, hb6⟩
      exact hK.out _ _ ⟨Sn _ _ hSw hb6, by simp [hd]⟩
    refine Inv.Steps.cons rfl ?_ ?_
    · intro L a w' hI hL hd K hK
      obtain ⟨hSw, rfl⟩ := hI
      simp [Region.binds] at hd
      simp only [hd, if_true]
      rw [if_pos (by rfl)]
      go_simp
      exact hK.out _ _ ⟨hSw, by simp [hd]⟩
    refine Inv.Steps.cons rfl ?_ ?_
    · intro L a w' hI hL hd K hK
      obtain ⟨hSw, rfl⟩ := hI
      simp [Region.binds] at hd
      simp only [hd, if_true]
      rw [if_pos (by rfl)]
      go_simp
      refine (c5 _).mono ?_
      rintro e w6 ⟨rfl, hb6⟩
      exact hK.out _ _ ⟨Sn _ _ hSw hb6, by simp [hd]⟩
    refine Inv.Steps.cons rfl ?_ ?_
    · intro L a w' hI hL hd K hK
      obtain ⟨hSw, rfl⟩ := hI
      simp [Region.binds] at hd
      simp only [hd, if_true]
      rw [if_pos (by rfl)]
      have he6 := e6 w'
      go_simp
      exact hK.out _ _ ⟨hSw, by simp [hd]⟩
    refine Inv.Steps.cons rfl ?_ ?_
    · intro L a w' hI hL hd K hK
      obtain ⟨hSw, rfl⟩ := hI
      simp [Region.binds] at hd
      simp only [hd, if_true]
      rw [if_pos (by rfl)]
      go_simp
      exact hK.out _ _ ⟨hSw, by simp [hd]⟩
    refine Inv.Steps.cons rfl ?_ ?_
    · intro L a w' hI hL hd K hK
      obtain ⟨hSw, rfl⟩ := hI
      simp [Region.binds] at hd
      simp only [hd, if_true]
      rw [if_pos (by rfl)]
      go_simp
      exact hK.out _ _ ⟨hSw, by simp [hd]⟩
    refine Inv.Steps.cons rfl ?_ ?_
    · intro L a w' hI hL hd K hK
      obtain ⟨hSw, rfl⟩ := hI
      simp [Region.binds] at hd
      simp only [hd, if_true]
      rw [if_pos (by rfl)]
      obtain ⟨l0, l1, l2, l3, -, -, -, -, -⟩ := Sf0 _ hSw
      go_simp
      exact hK.out _ _ ⟨hSw, by simp [hd]⟩
    refine Inv.Steps.cons rfl ?_ ?_
    · intro L a w' hI hL hd K hK
      obtain ⟨hSw, rfl⟩ := hI
      simp [Region.binds] at hd
      simp only [hd, if_true]
      rw [if_pos (by rfl)]
      go_simp
      refine (c10 _).mono ?_
      rintro e w6 ⟨rfl, hb6⟩
      exact hK.out _ _ ⟨Sn _ _ hSw hb6, by simp [hd]⟩
    refine Inv.Steps.cons rfl ?_ ?_
    · intro L a w' hI hL hd K hK
      obtain ⟨hSw, rfl⟩ := hI
      simp [Region.binds] at hd
      simp only [hd, if_true]
      rw [if_pos (by rfl)]
      obtain ⟨l0, l1, l2, l3, -, -, -, -, -⟩ := Sf0 _ hSw
      go_simp
      exact hK.out _ _ ⟨hSw, by simp [hd]⟩
    refine Inv.Steps.cons rfl ?_ ?_
    · intro L a w' hI hL hd K hK
      obtain ⟨hSw, rfl⟩ := hI
      simp [Region.binds] at hd
      simp only [hd, if_true]
      rw [if_pos (by rfl)]
      go_simp
      refine (c12 _).mono ?_
      rintro e w6 ⟨rfl, hb6⟩
      exact hK.out _ _ ⟨Sn _ _ hSw hb6, by simp [hd]⟩
    refine Inv.Steps.cons rfl ?_ ?_
    · intro L a w' hI hL hd K hK
      obtain ⟨hSw, rfl⟩ := hI
      simp [Region.binds] at hd
      simp only [hd, if_true]
      rw [if_pos (by rfl)]
      go_simp
      exact hK.out _ _ ⟨hSw, by simp [hd]⟩
    refine Inv.Steps.cons rfl ?_ ?_
    · intro L a w' hI hL hd K hK
      obtain ⟨hSw, rfl⟩ := hI
      simp [Region.binds] at hd
      simp only [hd, if_true]
      rw [if_pos (by rfl)]
      go_simp
      exact hK.out _ _ ⟨hSw, by simp [hd]⟩
    refine Inv.Steps.cons rfl ?_ ?_
    · intro L a w' hI hL hd K hK
      obtain ⟨hSw, rfl⟩ := hI
      simp [Region.binds] at hd
      simp only [hd, if_true]
      rw [if_pos (by rfl)]
      go_simp
      exact hK.out _ _ ⟨hSw, by simp [hd]⟩
    refine Inv.Steps.cons rfl ?_ ?_
    · intro L a w' hI hL hd K hK
      obtain ⟨hSw, rfl⟩ := hI
      simp [Region.binds] at hd
      simp only [hd, if_true]
      rw [if_pos (by rfl)]
      go_simp
      exact hK.out _ _ ⟨hSw, by simp [hd]⟩
    refine Inv.Steps.cons rfl ?_ ?_
    · intro L a w' hI hL hd K hK
      obtain ⟨hSw, rfl⟩ := hI
      simp [Region.binds] at hd
      simp only [hd, if_true]
      rw [if_pos (by rfl)]
      go_simp
      refine (c17 _).mono ?_
      rintro e w6 ⟨rfl, hb6⟩
      exact hK.out _ _ ⟨Sn _ _ hSw hb6, by simp [hd]⟩
    refine Inv.Steps.cons rfl ?_ ?_
    · intro L a w' hI hL hd K hK
      obtain ⟨hSw, rfl⟩ := hI
      simp [Region.binds] at hd
      simp only [hd, if_true]
      rw [if_pos (by rfl)]
      go_simp
      refine (c18 _).mono ?_
      rintro e w6 ⟨rfl, hb6⟩
      exact hK.out _ _ ⟨Sn _ _ hSw hb6, by simp [hd]⟩
    refine Inv.Steps.cons rfl ?_ ?_
    · intro L a w' hI hL hd K hK
      obtain ⟨hSw, rfl⟩ := hI
      simp [Region.binds] at hd
      simp only [hd, if_true]
      rw [if_pos (by rfl)]
      go_simp
      exact hK.out _ _ ⟨hSw, by simp [hd]⟩
    refine Inv.Steps.cons rfl ?_ ?_
    · intro L a w' hI hL hd K hK
      obtain ⟨hSw, rfl⟩ := hI
      simp [Region.binds] at hd
      simp only [hd, if_true]
      rw [if_pos (by rfl)]
      go_simp
      refine (c20 _).mono ?_
      rintro e w6 ⟨rfl, hb6⟩
      exact hK.out _ _ ⟨Sn _ _ hSw hb6, by simp [hd]⟩
    refine Inv.Steps.cons rfl ?_ ?_
    · intro L a w' hI hL hd K hK
      obtain ⟨hSw, rfl⟩ := hI
      simp [Region.binds] at hd
      simp only [hd, if_true]
      rw [if_pos (by rfl)]
      go_simp
      exact hK.out _ _ ⟨hSw, by simp [hd, size_adr, Act.put]⟩
    refine Inv.Steps.cons rfl ?_ ?_
    · intro L a w' hI hL hd K hK
      obtain ⟨hSw, rfl⟩ := hI
      simp [Region.binds] at hd
      simp only [hd, if_true]
      rw [if_pos (by rfl)]
      have he6 := e22 w'
      go_simp
      exact hK.out _ _ ⟨hSw, by simp [hd]⟩
    refine Inv.Steps.cons rfl ?_ ?_
    · intro L a w' hI hL hd K hK
      obtain ⟨hSw, rfl⟩ := hI
      simp [Region.binds] at hd
      simp only [hd, if_true]
      rw [if_pos (by rfl)]
      go_simp
      exact hK.out _ _ ⟨hSw, by simp [hd]⟩
    refine Inv.Steps.cons rfl ?_ ?_
    · intro L a w' hI hL hd K hK
      obtain ⟨hSw, rfl⟩ := hI
      simp [Region.binds] at hd
      simp only [hd, if_true]
      rw [if_pos (by rfl)]
      go_simp
      exact hK.out _ _ ⟨hSw, by simp [hd]⟩
    refine Inv.Steps.cons rfl ?_ ?_
    · intro L a w' hI hL hd K hK
      obtain ⟨hSw, rfl⟩ := hI
      simp [Region.binds] at hd
      simp only [hd, if_true]
      rw [if_pos (by rfl)]
      obtain ⟨l0, l1, l2, l3, -, -, -, -, -⟩ := Sf0 _ hSw
      go_simp
      exact hK.out _ _ ⟨hSw, by simp [hd]⟩
    refine Inv.Steps.cons rfl ?_ ?_
    · intro L a w' hI hL hd K hK
      obtain ⟨hSw, rfl⟩ := hI
      simp [Region.binds] at hd
      simp only [hd, if_true]
      rw [if_pos (by rfl)]
      go_simp
      exact hK.out _ _ ⟨hSw, by simp [hd]⟩
    refine Inv.Steps.cons rfl ?_ ?_
    · intro L a w' hI hL hd K hK
      obtain ⟨hSw, rfl⟩ := hI
      simp [Region.binds] at hd
      simp only [hd, if_true]
      rw [if_pos (by rfl)]
      go_simp
      refine (c27 _).mono ?_
      rintro e w6 ⟨rfl, hb6⟩
      exact hK.out _ _ ⟨Sn _ _ hSw hb6, by simp [hd]⟩
    refine Inv.Steps.cons rfl ?_ ?_
    · intro L a w' hI hL hd K hK
      obtain ⟨hSw, rfl⟩ := hI
      simp [Region.binds] at hd
      simp only [hd, if_true]
      rw [if_pos (by rfl)]
      obtain ⟨l0, l1, l2, l3, -, -, -, -, -⟩ := Sf0 _ hSw
      go_simp
      exact hK.out _ _ ⟨hSw, by simp [hd]⟩
    refine Inv.Steps.cons rfl ?_ ?_
    · intro L a w' hI hL hd K hK
      obtain ⟨hSw, rfl⟩ := hI
      simp [Region.binds] at hd
      simp only [hd, if_true]
      rw [if_pos (by rfl)]
      go_simp
      exact hK.out _ _ ⟨hSw, by simp [hd]⟩
    refine Inv.Steps.cons rfl ?_ ?_
    · intro L a w' hI hL hd K hK
      obtain ⟨hSw, rfl⟩ := hI
      simp [Region.binds] at hd
      simp only [hd, if_true]
      rw [if_pos (by rfl)]
      go_simp
      refine (c30 _).mono ?_
      rintro e w6 ⟨rfl, hb6⟩
      exact hK.out _ _ ⟨Sn _ _ hSw hb6, by simp [hd]⟩
    refine Inv.Steps.cons rfl ?_ ?_
    · intro L a w' hI hL hd K hK
      obtain ⟨hSw, rfl⟩ := hI
      simp [Region.binds] at hd
      simp only [hd, if_true]
      rw [if_pos (by rfl)]
      have he6 := e31 w'
      go_simp
      exact hK.out _ _ ⟨hSw, by simp [hd]⟩
    refine Inv.Steps.cons rfl ?_ ?_
    · intro L a w' hI hL hd K hK
      obtain ⟨hSw, rfl⟩ := hI
      simp [Region.binds] at hd
      simp only [hd, if_true]
      rw [if_pos (by rfl)]
      go_simp
      exact hK.out _ _ ⟨hSw, by simp [hd]⟩
    refine Inv.Steps.cons rfl ?_ ?_
    · intro L a w' hI hL hd K hK
      obtain ⟨hSw, rfl⟩ := hI
      simp [Region.binds] at hd
      simp only [hd, if_true]
      rw [if_pos (by rfl)]
      go_simp
      exact hK.out _ _ ⟨hSw, by simp [hd]⟩
    exact Inv.Steps.nil (by decide)
  case done =>
    intro L a w' hI hall
    obtain ⟨hSw, rfl⟩ := hI
    simp only [hall, if_true]
    go_wp2_with fail
    go_ret
    exact ⟨rfl, Sb _ hSw⟩
theorem nums_any (M : Nat) (hM : M < 4294967296) (N : Nat) (hN : N < 4294967296) (b : Int) (w : World) (hF : Fact w) :
    Calls Tryd.prog 4 #[.int .u32 M, adr N, .int .i64 b] w fun e w' => e = .returned (.bool true) ∧ Below w.heap.size w w' :=
  nums_core M _ _ _ _ b _ _ _ _ N _ _ _ _ _ _ _ _ _ _ _ _ _ w hF (fun w => addr_Of M hM w) (fun w => ref_Of M hM w) (fun w => addr_Num N hN w) (fun w => ref_Num N hN w) (fun w => addr_Mask b w) (fun w => ref_Of 4294967295 (by decide) w) (fun w => ref_Cut 4294967295 (by decide) b w) (fun w => addr_Cut N hN b w) (fun w => ref_Cut N hN b w)
    (fun w => eq_self hM w) (fun w => eq_self (cutN_lt (by decide) _) w) (fun w => eqn_self (cutN_lt hN _) w)
end Go.Proofs.YtpekkmnomfeglaaDoor.Addr
