/-
  There and back, as a number and as a text.
-/
import Derived.Test.YtpekkmnomfeglaaDoorAddrAlive
import Derived.Test.YtpekkmnomfeglaaDoorAddrReadNet
namespace Go.Proofs.YtpekkmnomfeglaaDoor.Addr
open Go.RowKit Go.Proofs.YtpekkmnomfeglaaDoor.Mem
set_option maxRecDepth 100000 in
set_option maxHeartbeats 4000000 in
theorem back_false (a0 a1 a2 a3 n0 n1 n2 n3 b x : Int) (s t : ByteArray) (w : World) (hF : Fact w)
    (ht : ∀ w, Fact w → Calls Tryd.prog 27 #[(.agg #[.int .u8 a0, .int .u8 a1, .int .u8 a2, .int .u8 a3])] w fun e w' => e = .returned (.string s) ∧ Below w.heap.size w w')
    (hp : ∀ w, Fact w → Calls Tryd.prog 9 #[.string s] w fun e w' => e = .returned (.tuple #[(.agg #[.int .u8 a0, .int .u8 a1, .int .u8 a2, .int .u8 a3]), .int .i64 0]) ∧ Below w.heap.size w w')
    (hn : ∀ w, Calls Tryd.prog 12 #[(.agg #[.int .u8 a0, .int .u8 a1, .int .u8 a2, .int .u8 a3])] w fun e w' => e = .returned (.int .u32 x) ∧ Below w.heap.size w w')
    (ho : ∀ w, Calls Tryd.prog 14 #[.int .u32 x] w fun e w' => e = .returned (.agg #[.int .u8 a0, .int .u8 a1, .int .u8 a2, .int .u8 a3]) ∧ Below w.heap.size w w')
    (hnt : ∀ w, Fact w → Calls Tryd.prog 29 #[(.agg #[.int .u8 n0, .int .u8 n1, .int .u8 n2, .int .u8 n3, .int .i64 b])] w fun e w' => e = .returned (.string t) ∧ Below w.heap.size w w')
    (hpn : ∀ w, Fact w → Calls Tryd.prog 10 #[.string t] w fun e w' => e = .returned (.tuple #[(.agg #[.int .u8 0, .int .u8 0, .int .u8 0, .int .u8 0, .int .i64 0]), .int .i64 41]) ∧ Below w.heap.size w w')
    (hr : ∀ w, Calls Tryd.prog 19 #[(.agg #[.int .u8 n0, .int .u8 n1, .int .u8 n2, .int .u8 n3, .int .i64 b])] w fun e w' => e = .returned (.bool false) ∧ Below w.heap.size w w')
    (he : ∀ w, (Op.equalIn 10000 23 (.agg #[.int .u8 a0, .int .u8 a1, .int .u8 a2, .int .u8 a3]) (.agg #[.int .u8 a0, .int .u8 a1, .int .u8 a2, .int .u8 a3])).run Tryd.prog w = .ok true w)
    (hy : ∀ w, (Op.equalIn 10000 28 (.agg #[.int .u8 0, .int .u8 0, .int .u8 0, .int .u8 0, .int .i64 0]) (.agg #[.int .u8 0, .int .u8 0, .int .u8 0, .int .u8 0, .int .i64 0])).run Tryd.prog w = .ok true w) :
    Calls Tryd.prog 7 #[(.agg #[.int .u8 a0, .int .u8 a1, .int .u8 a2, .int .u8 a3]), (.agg #[.int .u8 n0, .int .u8 n1, .int .u8 n2, .int .u8 n3, .int .i64 b])] w fun e w' => e = .returned (.bool true) ∧ Below w.heap.size w w' := by
  have hgd := guard_net
  have hgd2 := guard_adr
  obtain ⟨g, hg⟩ : ∃ g, g = w.heap.size := ⟨_, rfl⟩
  obtain ⟨h, hh⟩ : ∃ g, g = w.heap.size + 1 := ⟨_, rfl⟩
  obtain ⟨S, hS⟩ : ∃ S : World → Prop, S = fun w' => (Box4 w' g (.int .u8 a0) (.int .u8 a1) (.int .u8 a2) (.int .u8 a3) ∧ Box5 w' h (.int .u8 n0) (.int .u8 n1) (.int .u8 n2) (.int .u8 n3) (.int .i64 b) ∧ Fact w') ∧ Below w.heap.size w w' := ⟨_, rfl⟩
  have Sn : ∀ w1 w2, S w1 → Below w1.heap.size w1 w2 → S w2 := fun w1 w2 h hb => by rw [hS] at h ⊢; exact ⟨⟨h.1.1.below hb, h.1.2.1.below hb, h.1.2.2.below hb⟩, bnext h.2 hb⟩
  have Sf0 : ∀ w1, S w1 → Box4 w1 g (.int .u8 a0) (.int .u8 a1) (.int .u8 a2) (.int .u8 a3) := fun w1 h => by rw [hS] at h; exact h.1.1
  have Sf1 : ∀ w1, S w1 → Box5 w1 h (.int .u8 n0) (.int .u8 n1) (.int .u8 n2) (.int .u8 n3) (.int .i64 b) := fun w1 h => by rw [hS] at h; exact h.1.2.1
  have SF : ∀ w1, S w1 → Fact w1 := fun w1 h => by rw [hS] at h; exact h.1.2.2
  have Sb : ∀ w1, S w1 → Below w.heap.size w w1 := fun w1 h => by rw [hS] at h; exact h.2
  have S0 : S ((w.alloc (.cells #[.int .u8 a0, .int .u8 a1, .int .u8 a2, .int .u8 a3] 23)).alloc (.cells #[.int .u8 n0, .int .u8 n1, .int .u8 n2, .int .u8 n3, .int .i64 b] 28)) := by rw [hS, hg, hh]; exact ⟨⟨(by simpa using ((new4 w _ _ _ _ _).alloc _)), (by simpa using (new5 (w.alloc _) _ _ _ _ _ _)), hF.below (bal (bnew _ _) _)⟩, (bal (bnew _ _) _)⟩
  clear hS
  have hal := alive_any _ (SF _ S0)
  have HG : Hid (g = w.heap.size) := hg
  have HH : Hid (h = w.heap.size + 1) := hh
  rw [hg] at Sf0
  rw [hh] at Sf1
  clear hF hg hh
  have T := S0
  clear S0
  go_enter Tryd.func7, Tryd.ntmps7
  go_wp2_with (first
    | (go_at_call 11; refine hal.mono ?_; rintro e x1 ⟨rfl, hb⟩; have T := Sn _ _ T hb; clear hb; obtain ⟨l0, l1, l2, l3, -, -, -, -, -⟩ := Sf0 _ T)
    | (go_at_call 27; refine (ht _ (SF _ T)).mono ?_; rintro e x2 ⟨rfl, hb⟩; have T := Sn _ _ T hb; clear hb)
    | (go_at_call 9; refine (hp _ (SF _ T)).mono ?_; rintro e x3 ⟨rfl, hb⟩; have T := Sn _ _ T hb; clear hb l0 l1 l2 l3))
  obtain ⟨j, hj⟩ : ∃ j, j = x3.heap.size := ⟨_, rfl⟩
  obtain ⟨R, hR⟩ : ∃ R : World → Prop, R = fun w' => S w' ∧ Box4 w' j (.int .u8 a0) (.int .u8 a1) (.int .u8 a2) (.int .u8 a3) := ⟨_, rfl⟩
  have Rn : ∀ w1 w2, R w1 → Below w1.heap.size w1 w2 → R w2 := fun w1 w2 h hb => by rw [hR] at h ⊢; exact ⟨Sn _ _ h.1 hb, h.2.below hb⟩
  have Rs : ∀ w1, R w1 → S w1 := fun w1 h => by rw [hR] at h; exact h.1
  have Rf : ∀ w1, R w1 → Box4 w1 j (.int .u8 a0) (.int .u8 a1) (.int .u8 a2) (.int .u8 a3) := fun w1 h => by rw [hR] at h; exact h.2
  have R0 : R (x3.alloc (.cells #[.int .u8 a0, .int .u8 a1, .int .u8 a2, .int .u8 a3] 23)) := by rw [hR, hj]; exact ⟨Sn _ _ T (bnew _ _), new4 _ _ _ _ _ _⟩
  have R1 := Rn _ _ R0 (Below.refl _ _).drew
  rw [← HG.out] at Sf0
  rw [← HH.out] at Sf1
  rw [← hj, ← HH.out, ← HG.out]
  clear hR R0 T hj
  refine Inv.region_inv (fun L a w' => R w' ∧ a = { tmps := #[(.agg #[.int .u8 a0, .int .u8 a1, .int .u8 a2, .int .u8 a3]), (.agg #[.int .u8 n0, .int .u8 n1, .int .u8 n2, .int .u8 n3, .int .i64 b]), (.pointer (some ⟨g, 0, none⟩)), (.pointer (some ⟨h, 0, none⟩)), (.bool false), (.pointer (some ⟨j, 0, none⟩)), (.int .i64 0), undef, undef, (.bool true), (.bool false), (.tuple #[(.agg #[.int .u8 a0, .int .u8 a1, .int .u8 a2, .int .u8 a3]), .int .i64 0]), (.agg #[.int .u8 a0, .int .u8 a1, .int .u8 a2, .int .u8 a3]), (.string s), (.tuple #[(.agg #[.int .u8 a0, .int .u8 a1, .int .u8 a2, .int .u8 a3]), .int .i64 0]), (.agg #[.int .u8 a0, .int .u8 a1, .int .u8 a2, .int .u8 a3]), (.int .i64 0), (if L 0 = true then (.int .i64 0) else undef), (if L 1 = true then (.bool false) else undef), (if L 2 = true then (.bool false) else undef), (if L 3 = true then (.agg #[.int .u8 a0, .int .u8 a1, .int .u8 a2, .int .u8 a3]) else undef), (if L 4 = true then (.agg #[.int .u8 a0, .int .u8 a1, .int .u8 a2, .int .u8 a3]) else undef), (if L 5 = true then (.bool false) else undef), (if L 6 = true then (.bool false) else undef), (if L 7 = true then (.bool false) else undef), (if L 8 = true then (.agg #[.int .u8 a0, .int .u8 a1, .int .u8 a2, .int .u8 a3]) else undef), (if L 9 = true then (.int .u32 x) else undef), (if L 10 = true then (.agg #[.int .u8 a0, .int .u8 a1, .int .u8 a2, .int .u8 a3]) else undef), (if L 11 = true then (.agg #[.int .u8 a0, .int .u8 a1, .int .u8 a2, .int .u8 a3]) else undef), (if L 12 = true then (.bool false) else undef), (if L 13 = true then (.bool false) else undef), undef, undef, undef, undef, undef, undef, undef, undef, undef, undef, undef, undef, undef, undef, undef, undef, undef, undef, undef, undef, undef, undef, undef], defers := [] }) (by kernel_rfl) (by kernel_rfl) ?h0 ?step ?done
  case h0 => exact ⟨R1, by simp⟩
  case step =>
    refine Inv.Steps.cons rfl ?_ ?_
    · intro L a w' hI hL hd K hK
      obtain ⟨hSw, rfl⟩ := hI
      clear hd
      rw [if_pos (by rfl)]
      go_simp
      exact hK.out _ _ ⟨hSw, by simp⟩
    refine Inv.Steps.cons rfl ?_ ?_
    · intro L a w' hI hL hd K hK
      obtain ⟨hSw, rfl⟩ := hI
      simp [Region.binds] at hd
      simp only [hd, if_true]
      rw [if_pos (by rfl)]
      go_simp
      exact hK.out _ _ ⟨hSw, by simp [hd]⟩
    refine Inv.Steps.cons rfl ?_ ?_
    · intro L a w' hI hL hd K hK
      obtain ⟨hSw, rfl⟩ := hI
      simp [Region.binds] at hd
      simp only [hd, if_true]
      rw [if_pos (by rfl)]
      go_simp
      exact hK.out _ _ ⟨hSw, by simp [hd]⟩
    refine Inv.Steps.cons rfl ?_ ?_
    · intro L a w' hI hL hd K hK
      obtain ⟨hSw, rfl⟩ := hI
      simp [Region.binds] at hd
      simp only [hd, if_true]
      rw [if_pos (by rfl)]
      obtain ⟨l0, l1, l2, l3, -, -, -, -, -⟩ := Sf0 _ (Rs _ hSw)
      obtain ⟨o0, o1, o2, o3, -, -, -, -, -⟩ := Rf _ hSw
      go_simp
      exact hK.out _ _ ⟨hSw, by simp [hd]⟩
    refine Inv.Steps.cons rfl ?_ ?_
    · intro L a w' hI hL hd K hK
      obtain ⟨hSw, rfl⟩ := hI
      simp [Region.binds] at hd
      simp only [hd, if_true]
      rw [if_pos (by rfl)]
      obtain ⟨l0, l1, l2, l3, -, -, -, -, -⟩ := Sf0 _ (Rs _ hSw)
      obtain ⟨o0, o1, o2, o3, -, -, -, -, -⟩ := Rf _ hSw
      go_simp
      exact hK.out _ _ ⟨hSw, by simp [hd]⟩
    refine Inv.Steps.cons rfl ?_ ?_
    · intro L a w' hI hL hd K hK
      obtain ⟨hSw, rfl⟩ := hI
      simp [Region.binds] at hd
      simp only [hd, if_true]
      rw [if_pos (by rfl)]
      have he6 := he w'
      go_simp
      exact hK.out _ _ ⟨hSw, by simp [hd]⟩
    refine Inv.Steps.cons rfl ?_ ?_
    · intro L a w' hI hL hd K hK
      obtain ⟨hSw, rfl⟩ := hI
      simp [Region.binds] at hd
      simp only [hd, if_true]
      rw [if_pos (by rfl)]
      go_simp
      exact hK.out _ _ ⟨hSw, by simp [hd]⟩
    refine Inv.Steps.cons rfl ?_ ?_
    · intro L a w' hI hL hd K hK
      obtain ⟨hSw, rfl⟩ := hI
      simp [Region.binds] at hd
      simp only [hd, if_true]
      rw [if_pos (by rfl)]
      go_simp
      exact hK.out _ _ ⟨hSw, by simp [hd]⟩
    refine Inv.Steps.cons rfl ?_ ?_
    · intro L a w' hI hL hd K hK
      obtain ⟨hSw, rfl⟩ := hI
      simp [Region.binds] at hd
      simp only [hd, if_true]
      rw [if_pos (by rfl)]
      obtain ⟨l0, l1, l2, l3, -, -, -, -, -⟩ := Sf0 _ (Rs _ hSw)
      obtain ⟨o0, o1, o2, o3, -, -, -, -, -⟩ := Rf _ hSw
      go_simp
      exact hK.out _ _ ⟨hSw, by simp [hd]⟩
    refine Inv.Steps.cons rfl ?_ ?_
    · intro L a w' hI hL hd K hK
      obtain ⟨hSw, rfl⟩ := hI
      simp [Region.binds] at hd
      simp only [hd, if_true]
      rw [if_pos (by rfl)]
      go_simp
      refine (hn _).mono ?_
      rintro e w6 ⟨rfl, hb6⟩
      exact hK.out _ _ ⟨Rn _ _ hSw hb6, by simp [hd]⟩
    refine Inv.Steps.cons rfl ?_ ?_
    · intro L a w' hI hL hd K hK
      obtain ⟨hSw, rfl⟩ := hI
      simp [Region.binds] at hd
      simp only [hd, if_true]
      rw [if_pos (by rfl)]
      go_simp
      refine (ho _).mono ?_
      rintro e w6 ⟨rfl, hb6⟩
      exact hK.out _ _ ⟨Rn _ _ hSw hb6, by simp [hd]⟩
    refine Inv.Steps.cons rfl ?_ ?_
    · intro L a w' hI hL hd K hK
      obtain ⟨hSw, rfl⟩ := hI
      simp [Region.binds] at hd
      simp only [hd, if_true]
      rw [if_pos (by rfl)]
      obtain ⟨l0, l1, l2, l3, -, -, -, -, -⟩ := Sf0 _ (Rs _ hSw)
      obtain ⟨o0, o1, o2, o3, -, -, -, -, -⟩ := Rf _ hSw
      go_simp
      exact hK.out _ _ ⟨hSw, by simp [hd]⟩
    refine Inv.Steps.cons rfl ?_ ?_
    · intro L a w' hI hL hd K hK
      obtain ⟨hSw, rfl⟩ := hI
      simp [Region.binds] at hd
      simp only [hd, if_true]
      rw [if_pos (by rfl)]
      have he6 := he w'
      go_simp
      exact hK.out _ _ ⟨hSw, by simp [hd]⟩
    refine Inv.Steps.cons rfl ?_ ?_
    · intro L a w' hI hL hd K hK
      obtain ⟨hSw, rfl⟩ := hI
      simp [Region.binds] at hd
      simp only [hd, if_true]
      rw [if_pos (by rfl)]
      go_simp
      exact hK.out _ _ ⟨hSw, by simp [hd]⟩
    exact Inv.Steps.nil (by decide)
  case done =>
    intro L a w' hI hall
    obtain ⟨hSw, rfl⟩ := hI
    simp only [hall, if_true]
    have T := hSw
    rw [HG.out] at Sf0
    rw [HH.out] at Sf1
    have T1 := Rs _ T
    obtain ⟨⟨k0, k1, k2, k3, -, -, -, -, -⟩, k4, -⟩ := Sf1 _ T1
    rw [HH.out]
    clear HG HH hSw
    go_wp2_with (first
      | (go_at_call 29; refine (hnt _ (SF _ T1)).mono ?_; rintro e y1 ⟨rfl, hb⟩; have T1 := Sn _ _ T1 hb; clear hb)
      | (go_at_call 10; refine (hpn _ (SF _ T1)).mono ?_; rintro e y2 ⟨rfl, hb⟩; have T1 := Sn _ _ T1 hb; clear hb k0 k1 k2 k3 k4; obtain ⟨⟨k0, k1, k2, k3, -, -, -, -, -⟩, k4, -⟩ := Sf1 _ (Sn _ _ T1 (bnew y2 (.cells #[.int .u8 0, .int .u8 0, .int .u8 0, .int .u8 0, .int .i64 0] 28))))
      | (go_at_call 19; refine (hr _).mono ?_; rintro e y3 ⟨rfl, hb⟩; have T1 := Sn _ _ (Sn _ _ T1 (bnew y2 (.cells #[.int .u8 0, .int .u8 0, .int .u8 0, .int .u8 0, .int .i64 0] 28))) hb; obtain ⟨⟨q0, q1, q2, q3, -, -, -, -, -⟩, q4, -⟩ := (new5 y2 (.int .u8 0) (.int .u8 0) (.int .u8 0) (.int .u8 0) (.int .i64 0) 28).below hb; clear hb k0 k1 k2 k3 k4; obtain ⟨⟨k0, k1, k2, k3, -, -, -, -, -⟩, k4, -⟩ := Sf1 _ T1))
    go_ret
    exact ⟨rfl, Sb _ T1⟩
set_option maxRecDepth 100000 in
set_option maxHeartbeats 4000000 in
theorem back_true (a0 a1 a2 a3 n0 n1 n2 n3 b x : Int) (s t : ByteArray) (w : World) (hF : Fact w)
    (ht : ∀ w, Fact w → Calls Tryd.prog 27 #[(.agg #[.int .u8 a0, .int .u8 a1, .int .u8 a2, .int .u8 a3])] w fun e w' => e = .returned (.string s) ∧ Below w.heap.size w w')
    (hp : ∀ w, Fact w → Calls Tryd.prog 9 #[.string s] w fun e w' => e = .returned (.tuple #[(.agg #[.int .u8 a0, .int .u8 a1, .int .u8 a2, .int .u8 a3]), .int .i64 0]) ∧ Below w.heap.size w w')
    (hn : ∀ w, Calls Tryd.prog 12 #[(.agg #[.int .u8 a0, .int .u8 a1, .int .u8 a2, .int .u8 a3])] w fun e w' => e = .returned (.int .u32 x) ∧ Below w.heap.size w w')
    (ho : ∀ w, Calls Tryd.prog 14 #[.int .u32 x] w fun e w' => e = .returned (.agg #[.int .u8 a0, .int .u8 a1, .int .u8 a2, .int .u8 a3]) ∧ Below w.heap.size w w')
    (hnt : ∀ w, Fact w → Calls Tryd.prog 29 #[(.agg #[.int .u8 n0, .int .u8 n1, .int .u8 n2, .int .u8 n3, .int .i64 b])] w fun e w' => e = .returned (.string t) ∧ Below w.heap.size w w')
    (hpn : ∀ w, Fact w → Calls Tryd.prog 10 #[.string t] w fun e w' => e = .returned (.tuple #[(.agg #[.int .u8 n0, .int .u8 n1, .int .u8 n2, .int .u8 n3, .int .i64 b]), .int .i64 0]) ∧ Below w.heap.size w w')
    (hr : ∀ w, Calls Tryd.prog 19 #[(.agg #[.int .u8 n0, .int .u8 n1, .int .u8 n2, .int .u8 n3, .int .i64 b])] w fun e w' => e = .returned (.bool true) ∧ Below w.heap.size w w')
    (he : ∀ w, (Op.equalIn 10000 23 (.agg #[.int .u8 a0, .int .u8 a1, .int .u8 a2, .int .u8 a3]) (.agg #[.int .u8 a0, .int .u8 a1, .int .u8 a2, .int .u8 a3])).run Tryd.prog w = .ok true w)
    (hy : ∀ w, (Op.equalIn 10000 28 (.agg #[.int .u8 n0, .int .u8 n1, .int .u8 n2, .int .u8 n3, .int .i64 b]) (.agg #[.int .u8 n0, .int .u8 n1, .int .u8 n2, .int .u8 n3, .int .i64 b])).run Tryd.prog w = .ok true w) :
    Calls Tryd.prog 7 #[(.agg #[.int .u8 a0, .int .u8 a1, .int .u8 a2, .int .u8 a3]), (.agg #[.int .u8 n0, .int .u8 n1, .int .u8 n2, .int .u8 n3, .int .i64 b])] w fun e w' => e = .returned (.bool true) ∧ Below w.heap.size w w' := by
  have hgd := guard_net
  have hgd2 := guard_adr
  obtain ⟨g, hg⟩ : ∃ g, g = w.heap.size := ⟨_, rfl⟩
  obtain ⟨h, hh⟩ : ∃ g, g = w.heap.size + 1 := ⟨_, rfl⟩
  obtain ⟨S, hS⟩ : ∃ S : World → Prop, S = fun w' => (Box4 w' g (.int .u8 a0) (.int .u8 a1) (.int .u8 a2) (.int .u8 a3) ∧ Box5 w' h (.int .u8 n0) (.int .u8 n1) (.int .u8 n2) (.int .u8 n3) (.int .i64 b) ∧ Fact w') ∧ Below w.heap.size w w' := ⟨_, rfl⟩
  have Sn : ∀ w1 w2, S w1 → Below w1.heap.size w1 w2 → S w2 := fun w1 w2 h hb => by rw [hS] at h ⊢; exact ⟨⟨h.1.1.below hb, h.1.2.1.below hb, h.1.2.2.below hb⟩, bnext h.2 hb⟩
  have Sf0 : ∀ w1, S w1 → Box4 w1 g (.int .u8 a0) (.int .u8 a1) (.int .u8 a2) (.int .u8 a3) := fun w1 h => by rw [hS] at h; exact h.1.1
  have Sf1 : ∀ w1, S w1 → Box5 w1 h (.int .u8 n0) (.int .u8 n1) (.int .u8 n2) (.int .u8 n3) (.int .i64 b) := fun w1 h => by rw [hS] at h; exact h.1.2.1
  have SF : ∀ w1, S w1 → Fact w1 := fun w1 h => by rw [hS] at h; exact h.1.2.2
  have Sb : ∀ w1, S w1 → Below w.heap.size w w1 := fun w1 h => by rw [hS] at h; exact h.2
  have S0 : S ((w.alloc (.cells #[.int .u8 a0, .int .u8 a1, .int .u8 a2, .int .u8 a3] 23)).alloc (.cells #[.int .u8 n0, .int .u8 n1, .int .u8 n2, .int .u8 n3, .int .i64 b] 28)) := by rw [hS, hg, hh]; exact ⟨⟨(by simpa using ((new4 w _ _ _ _ _).alloc _)), (by simpa using (new5 (w.alloc _) _ _ _ _ _ _)), hF.below (bal (bnew _ _) _)⟩, (bal (bnew _ _) _)⟩
  clear hS
  have hal := alive_any _ (SF _ S0)
  have HG : Hid (g = w.heap.size) := hg
  have HH : Hid (h = w.heap.size + 1) := hh
  rw [hg] at Sf0
  rw [hh] at Sf1
  clear hF hg hh
  have T := S0
  clear S0
  go_enter Tryd.func7, Tryd.ntmps7
  go_wp2_with (first
    | (go_at_call 11; refine hal.mono ?_; rintro e x1 ⟨rfl, hb⟩; have T := Sn _ _ T hb; clear hb; obtain ⟨l0, l1, l2, l3, -, -, -, -, -⟩ := Sf0 _ T)
    | (go_at_call 27; refine (ht _ (SF _ T)).mono ?_; rintro e x2 ⟨rfl, hb⟩; have T := Sn _ _ T hb; clear hb)
    | (go_at_call 9; refine (hp _ (SF _ T)).mono ?_; rintro e x3 ⟨rfl, hb⟩; have T := Sn _ _ T hb; clear hb l0 l1 l2 l3))
  obtain ⟨j, hj⟩ : ∃ j, j = x3.heap.size := ⟨_, rfl⟩
  obtain ⟨R, hR⟩ : ∃ R : World → Prop, R = fun w' => S w' ∧ Box4 w' j (.int .u8 a0) (.int .u8 a1) (.int .u8 a2) (.int .u8 a3) := ⟨_, rfl⟩
  have Rn : ∀ w1 w2, R w1 → Below w1.heap.size w1 w2 → R w2 := fun w1 w2 h hb => by rw [hR] at h ⊢; exact ⟨Sn _ _ h.1 hb, h.2.below hb⟩
  have Rs : ∀ w1, R w1 → S w1 := fun w1 h => by rw [hR] at h; exact h.1
  have Rf : ∀ w1, R w1 → Box4 w1 j (.int .u8 a0) (.int .u8 a1) (.int .u8 a2) (.int .u8 a3) := fun w1 h => by rw [hR] at h; exact h.2
  have R0 : R (x3.alloc (.cells #[.int .u8 a0, .int .u8 a1, .int .u8 a2, .int .u8 a3] 23)) := by rw [hR, hj]; exact ⟨Sn _ _ T (bnew _ _), new4 _ _ _ _ _ _⟩
  have R1 := Rn _ _ R0 (Below.refl _ _).drew
  rw [← HG.out] at Sf0
  rw [← HH.out] at Sf1
  rw [← hj, ← HH.out, ← HG.out]
  clear hR R0 T hj
  refine Inv.region_inv (fun L a w' => R w' ∧ a = { tmps := #[(.agg #[.int .u8 a0, .int .u8 a1, .int .u8 a2, .int .u8 a3]), (.agg #[.int .u8 n0, .int .u8 n1, .int .u8 n2, .int .u8 n3, .int .i64 b]), (.pointer (some ⟨g, 0, none⟩)), (.pointer (some ⟨h, 0, none⟩)), (.bool false), (.pointer (some ⟨j, 0, none⟩)), (.int .i64 0), undef, undef, (.bool true), (.bool false), (.tuple #[(.agg #[.int .u8 a0, .int .u8 a1, .int .u8 a2, .int .u8 a3]), .int .i64 0]), (.agg #[.int .u8 a0, .int .u8 a1, .int .u8 a2, .int .u8 a3]), (.string s), (.tuple #[(.agg #[.int .u8 a0, .int .u8 a1, .int .u8 a2, .int .u8 a3]), .int .i64 0]), (.agg #[.int .u8 a0, .int .u8 a1, .int .u8 a2, .int .u8 a3]), (.int .i64 0), (if L 0 = true then (.int .i64 0) else undef), (if L 1 = true then (.bool false) else undef), (if L 2 = true then (.bool false) else undef), (if L 3 = true then (.agg #[.int .u8 a0, .int .u8 a1, .int .u8 a2, .int .u8 a3]) else undef), (if L 4 = true then (.agg #[.int .u8 a0, .int .u8 a1, .int .u8 a2, .int .u8 a3]) else undef), (if L 5 = true then (.bool false) else undef), (if L 6 = true then (.bool false) else undef), (if L 7 = true then (.bool false) else undef), (if L 8 = true then (.agg #[.int .u8 a0, .int .u8 a1, .int .u8 a2, .int .u8 a3]) else undef), (if L 9 = true then (.int .u32 x) else undef), (if L 10 = true then (.agg #[.int .u8 a0, .int .u8 a1, .int .u8 a2, .int .u8 a3]) else undef), (if L 11 = true then (.agg #[.int .u8 a0, .int .u8 a1, .int .u8 a2, .int .u8 a3]) else undef), (if L 12 = true then (.bool false) else undef), (if L 13 = true then (.bool false) else undef), undef, undef, undef, undef, undef, undef, undef, undef, undef, undef, undef, undef, undef, undef, undef, undef, undef, undef, undef, undef, undef, undef, undef], defers := [] }) (by kernel_rfl) (by kernel_rfl) ?h0 ?step ?done
  case h0 => exact ⟨R1, by simp⟩
  case step =>
    refine Inv.Steps.cons rfl ?_ ?_
    · intro L a w' hI hL hd K hK
      obtain ⟨hSw, rfl⟩ := hI
      clear hd
      rw [if_pos (by rfl)]
      go_simp
      exact hK.out _ _ ⟨hSw, by simp⟩
    refine Inv.Steps.cons rfl ?_ ?_
    · intro L a w' hI hL hd K hK
      obtain ⟨hSw, rfl⟩ := hI
      simp [Region.binds] at hd
      simp only [hd, if_true]
      rw [if_pos (by rfl)]
      go_simp
      exact hK.out _ _ ⟨hSw, by simp [hd]⟩
    refine Inv.Steps.cons rfl ?_ ?_
    · intro L a w' hI hL hd K hK
      obtain ⟨hSw, rfl⟩ := hI
      simp [Region.binds] at hd
      simp only [hd, if_true]
      rw [if_pos (by rfl)]
      go_simp
      exact hK.out _ _ ⟨hSw, by simp [hd]⟩
    refine Inv.Steps.cons rfl ?_ ?_
    · intro L a w' hI hL hd K hK
      obtain ⟨hSw, rfl⟩ := hI
      simp [Region.binds] at hd
      simp only [hd, if_true]
      rw [if_pos (by rfl)]
      obtain ⟨l0, l1, l2, l3, -, -, -, -, -⟩ := Sf0 _ (Rs _ hSw)
      obtain ⟨o0, o1, o2, o3, -, -, -, -, -⟩ := Rf _ hSw
      go_simp
      exact hK.out _ _ ⟨hSw, by simp [hd]⟩
    refine Inv.Steps.cons rfl ?_ ?_
    · intro L a w' hI hL hd K hK
      obtain ⟨hSw, rfl⟩ := hI
      simp [Region.binds] at hd
      simp only [hd, if_true]
      rw [if_pos (by rfl)]
      obtain ⟨l0, l1, l2, l3, -, -, -, -, -⟩ := Sf0 _ (Rs _ hSw)
      obtain ⟨o0, o1, o2, o3, -, -, -, -, -⟩ := Rf _ hSw
      go_simp
      exact hK.out _ _ ⟨hSw, by simp [hd]⟩
    refine Inv.Steps.cons rfl ?_ ?_
    · intro L a w' hI hL hd K hK
      obtain ⟨hSw, rfl⟩ := hI
      simp [Region.binds] at hd
      simp only [hd, if_true]
      rw [if_pos (by rfl)]
      have he6 := he w'
      go_simp
      exact hK.out _ _ ⟨hSw, by simp [hd]⟩
    refine Inv.Steps.cons rfl ?_ ?_
    · intro L a w' hI hL hd K hK
      obtain ⟨hSw, rfl⟩ := hI
      simp [Region.binds] at hd
      simp only [hd, if_true]
      rw [if_pos (by rfl)]
      go_simp
      exact hK.out _ _ ⟨hSw, by simp [hd]⟩
    refine Inv.Steps.cons rfl ?_ ?_
    · intro L a w' hI hL hd K hK
      obtain ⟨hSw, rfl⟩ := hI
      simp [Region.binds] at hd
      simp only [hd, if_true]
      rw [if_pos (by rfl)]
      go_simp
      exact hK.out _ _ ⟨hSw, by simp [hd]⟩
    refine Inv.Steps.cons rfl ?_ ?_
    · intro L a w' hI hL hd K hK
      obtain ⟨hSw, rfl⟩ := hI
      simp [Region.binds] at hd
      simp only [hd, if_true]
      rw [if_pos (by rfl)]
      obtain ⟨l0, l1, l2, l3, -, -, -, -, -⟩ := Sf0 _ (Rs _ hSw)
      obtain ⟨o0, o1, o2, o3, -, -, -, -, -⟩ := Rf _ hSw
      go_simp
      exact hK.out _ _ ⟨hSw, by simp [hd]⟩
    refine Inv.Steps.cons rfl ?_ ?_
    · intro L a w' hI hL hd K hK
      obtain ⟨hSw, rfl⟩ := hI
      simp [Region.binds] at hd
      simp only [hd, if_true]
      rw [if_pos (by rfl)]
      go_simp
      refine (hn _).mono ?_
      rintro e w6 ⟨rfl, hb6⟩
      exact hK.out _ _ ⟨Rn _ _ hSw hb6, by simp [hd]⟩
    refine Inv.Steps.cons rfl ?_ ?_
    · intro L a w' hI hL hd K hK
      obtain ⟨hSw, rfl⟩ := hI
      simp [Region.binds] at hd
      simp only [hd, if_true]
      rw [if_pos (by rfl)]
      go_simp
      refine (ho _).mono ?_
      rintro e w6 ⟨rfl, hb6⟩
      exact hK.out _ _ ⟨Rn _ _ hSw hb6, by simp [hd]⟩
    refine Inv.Steps.cons rfl ?_ ?_
    · intro L a w' hI hL hd K hK
      obtain ⟨hSw, rfl⟩ := hI
      simp [Region.binds] at hd
      simp only [hd, if_true]
      rw [if_pos (by rfl)]
      obtain ⟨l0, l1, l2, l3, -, -, -, -, -⟩ := Sf0 _ (Rs _ hSw)
      obtain ⟨o0, o1, o2, o3, -, -, -, -, -⟩ := Rf _ hSw
      go_simp
      exact hK.out _ _ ⟨hSw, by simp [hd]⟩
    refine Inv.Steps.cons rfl ?_ ?_
    · intro L a w' hI hL hd K hK
      obtain ⟨hSw, rfl⟩ := hI
      simp [Region.binds] at hd
      simp only [hd, if_true]
      rw [if_pos (by rfl)]
      have he6 := he w'
      go_simp
      exact hK.out _ _ ⟨hSw, by simp [hd]⟩
    refine Inv.Steps.cons rfl ?_ ?_
    · intro L a w' hI hL hd K hK
      obtain ⟨hSw, rfl⟩ := hI
      simp [Region.binds] at hd
      simp only [hd, if_true]
      rw [if_pos (by rfl)]
      go_simp
      exact hK.out _ _ ⟨hSw, by simp [hd]⟩
    exact Inv.Steps.nil (by decide)
  case done =>
    intro L a w' hI hall
    obtain ⟨hSw, rfl⟩ := hI
    simp only [hall, if_true]
    have T := hSw
    rw [HG.out] at Sf0
    rw [HH.out] at Sf1
    have T1 := Rs _ T
    obtain ⟨⟨k0, k1, k2, k3, -, -, -, -, -⟩, k4, -⟩ := Sf1 _ T1
    rw [HH.out]
    clear HG HH hSw
    go_wp2_with (first
      | (go_at_call 29; refine (hnt _ (SF _ T1)).mono ?_; rintro e y1 ⟨rfl, hb⟩; have T1 := Sn _ _ T1 hb; clear hb)
      | (go_at_call 10; refine (hpn _ (SF _ T1)).mono ?_; rintro e y2 ⟨rfl, hb⟩; have T1 := Sn _ _ T1 hb; clear hb k0 k1 k2 k3 k4; obtain ⟨⟨k0, k1, k2, k3, -, -, -, -, -⟩, k4, -⟩ := Sf1 _ (Sn _ _ T1 (bnew y2 (.cells #[.int .u8 n0, .int .u8 n1, .int .u8 n2, .int .u8 n3, .int .i64 b] 28))))
      | (go_at_call 19; refine (hr _).mono ?_; rintro e y3 ⟨rfl, hb⟩; have T1 := Sn _ _ (Sn _ _ T1 (bnew y2 (.cells #[.int .u8 n0, .int .u8 n1, .int .u8 n2, .int .u8 n3, .int .i64 b] 28))) hb; obtain ⟨⟨q0, q1, q2, q3, -, -, -, -, -⟩, q4, -⟩ := (new5 y2 (.int .u8 n0) (.int .u8 n1) (.int .u8 n2) (.int .u8 n3) (.int .i64 b) 28).below hb; clear hb k0 k1 k2 k3 k4; obtain ⟨⟨k0, k1, k2, k3, -, -, -, -, -⟩, k4, -⟩ := Sf1 _ T1))
    go_ret
    exact ⟨rfl, Sb _ T1⟩
theorem back_any (A : Nat) (hA : A < 4294967296) (N : Nat) (hN : N < 4294967296) (b : Int) (w : World) (hF : Fact w) :
    Calls Tryd.prog 7 #[adr A, net N b] w fun e w' => e = .returned (.bool true) ∧ Below w.heap.size w w' := by
  have hnt := fun w hF => addr_NetText N hN b w hF
  have hr := fun w => addr_Right N hN b w
  cases h : rightN N b with
  | false =>
    rw [h] at hr
    have e : ntxt N b = [] := by unfold ntxt; rw [h]; rfl
    rw [e] at hnt
    have hpn := fun w hF => pn_miss [] (by simp) (fun M k _ _ _ h => by have := congrArg List.length h; have h2 := (txt_len M).1; unfold netTxt at this; simp at this) w hF
    exact back_false _ _ _ _ _ _ _ _ b A _ _ w hF (fun w hF => addr_Text A w hF) (fun w hF => parse_hit A hA w hF) (fun w => addr_Num A hA w) (fun w => addr_Of A hA w) hnt hpn hr (fun w => eq_self hA w) (fun w => eqn_self (N := 0) (b := 0) (by decide) w)
  | true =>
    rw [h] at hr
    obtain ⟨k, hk, rfl, _⟩ := right_iff.1 h
    have e : ntxt N k = netTxt N k := by unfold ntxt; rw [if_pos h]; rfl
    rw [e] at hnt
    exact back_true _ _ _ _ _ _ _ _ k A _ _ w hF (fun w hF => addr_Text A w hF) (fun w hF => parse_hit A hA w hF) (fun w => addr_Num A hA w) (fun w => addr_Of A hA w) hnt (fun w hF => pn_hit N k hN hk h w hF) hr (fun w => eq_self hA w) (fun w => eqn_self hN w)
end Go.Proofs.YtpekkmnomfeglaaDoor.Addr
