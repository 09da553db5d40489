/-
  The text of any address and network, and those of any text.
-/
import Derived.Test.YtpekkmnomfeglaaDoorAddrRefRead
namespace Go.Proofs.YtpekkmnomfeglaaDoor.Addr
open Go.RowKit Go.Proofs.YtpekkmnomfeglaaDoor.Mem

theorem texts_long (a0 a1 a2 a3 n0 n1 n2 n3 b : Int) (s : ByteArray) (L : Nat) (hL : s.size = L) (h : 200 < L) (w : World) (hF : Fact w) :
    Calls Tryd.prog 6 #[(.agg #[.int .u8 a0, .int .u8 a1, .int .u8 a2, .int .u8 a3]), (.agg #[.int .u8 n0, .int .u8 n1, .int .u8 n2, .int .u8 n3, .int .i64 b]), .string s] w fun e w' => e = .returned (.bool true) ∧ Below w.heap.size w w' := by
  have d := bal (bnew w (.cells #[.int .u8 a0, .int .u8 a1, .int .u8 a2, .int .u8 a3] 23)) (.cells #[.int .u8 n0, .int .u8 n1, .int .u8 n2, .int .u8 n3, .int .i64 b] 28)
  have hal := alive_any _ (hF.below d)
  clear hF
  go_enter Tryd.func6, Tryd.ntmps6
  go_wp2_with (go_at_call 11; refine hal.mono ?_; rintro e w1 ⟨rfl, hb⟩)
  go_ret
  exact ⟨rfl, bnext d hb⟩
set_option maxRecDepth 100000 in
set_option maxHeartbeats 8000000 in
theorem texts_core (a0 a1 a2 a3 n0 n1 n2 n3 b x0 x1 x2 x3 ec p0 p1 p2 p3 pb gc : Int) (s t u : ByteArray) (ln : Nat) (hL : s.size = ln) (hle : ln ≤ 200) (w : World) (hF : Fact w)
    (hp : ∀ w, Fact w → Calls Tryd.prog 9 #[.string s] w fun e w' => e = .returned (.tuple #[(.agg #[.int .u8 x0, .int .u8 x1, .int .u8 x2, .int .u8 x3]), .int .i64 ec]) ∧ Below w.heap.size w w')
    (rp : ∀ w, Calls Tryd.prog 25 #[.string s] w fun e w' => e = .returned (.tuple #[(.agg #[.int .u8 x0, .int .u8 x1, .int .u8 x2, .int .u8 x3]), .int .i64 ec]) ∧ Below w.heap.size w w')
    (hn : ∀ w, Fact w → Calls Tryd.prog 10 #[.string s] w fun e w' => e = .returned (.tuple #[(.agg #[.int .u8 p0, .int .u8 p1, .int .u8 p2, .int .u8 p3, .int .i64 pb]), .int .i64 gc]) ∧ Below w.heap.size w w')
    (rn : ∀ w, Calls Tryd.prog 26 #[.string s] w fun e w' => e = .returned (.tuple #[(.agg #[.int .u8 p0, .int .u8 p1, .int .u8 p2, .int .u8 p3, .int .i64 pb]), .int .i64 gc]) ∧ Below w.heap.size w w')
    (c1 : ∀ w, Fact w → Calls Tryd.prog 27 #[(.agg #[.int .u8 a0, .int .u8 a1, .int .u8 a2, .int .u8 a3])] w fun e w' => e = .returned (.string t) ∧ Below w.heap.size w w')
    (c3 : ∀ w, Calls Tryd.prog 28 #[(.agg #[.int .u8 a0, .int .u8 a1, .int .u8 a2, .int .u8 a3])] w fun e w' => e = .returned (.string t) ∧ Below w.heap.size w w')
    (c7 : ∀ w, Fact w → Calls Tryd.prog 29 #[(.agg #[.int .u8 n0, .int .u8 n1, .int .u8 n2, .int .u8 n3, .int .i64 b])] w fun e w' => e = .returned (.string u) ∧ Below w.heap.size w w')
    (c9 : ∀ w, Calls Tryd.prog 30 #[(.agg #[.int .u8 n0, .int .u8 n1, .int .u8 n2, .int .u8 n3, .int .i64 b])] w fun e w' => e = .returned (.string u) ∧ Below w.heap.size w w')
    (e15 : ∀ w, (Op.equalIn 10000 23 (.agg #[.int .u8 x0, .int .u8 x1, .int .u8 x2, .int .u8 x3]) (.agg #[.int .u8 x0, .int .u8 x1, .int .u8 x2, .int .u8 x3])).run Tryd.prog w = .ok true w)
    (e25 : ∀ w, (Op.equalIn 10000 28 (.agg #[.int .u8 p0, .int .u8 p1, .int .u8 p2, .int .u8 p3, .int .i64 pb]) (.agg #[.int .u8 p0, .int .u8 p1, .int .u8 p2, .int .u8 p3, .int .i64 pb])).run Tryd.prog w = .ok true w) :
    Calls Tryd.prog 6 #[(.agg #[.int .u8 a0, .int .u8 a1, .int .u8 a2, .int .u8 a3]), (.agg #[.int .u8 n0, .int .u8 n1, .int .u8 n2, .int .u8 n3, .int .i64 b]), .string s] w fun e w' => e = .returned (.bool true) ∧ Below w.heap.size w w' := by
  have hgd := guard_net
  have hgd2 := guard_adr
  obtain ⟨g, hg⟩ : ∃ g, g = w.heap.size := ⟨_, rfl⟩
  obtain ⟨h, hh⟩ : ∃ g, g = w.heap.size + 1 := ⟨_, rfl⟩
  obtain ⟨S, hS⟩ : ∃ S : World → Prop, S = fun w' => (Box4 w' g (.int .u8 a0) (.int .u8 a1) (.int .u8 a2) (.int .u8 a3) ∧ Box5 w' h (.int .u8 n0) (.int .u8 n1) (.int .u8 n2) (.int .u8 n3) (.int .i64 b) ∧ Fact w') ∧ Below w.heap.size w w' := ⟨_, rfl⟩
  have Sn : ∀ w1 w2, S w1 → Below w1.heap.size w1 w2 → S w2 := fun w1 w2 h hb => by rw [hS] at h ⊢; exact ⟨⟨h.1.1.below hb, h.1.2.1.below hb, h.1.2.2.below hb⟩, bnext h.2 hb⟩
  have Sf0 : ∀ w1, S w1 → Box4 w1 g (.int .u8 a0) (.int .u8 a1) (.int .u8 a2) (.int .u8 a3) := fun w1 h => by rw [hS] at h; exact h.1.1
  have Sf1 : ∀ w1, S w1 → Box5 w1 h (.int .u8 n0) (.int .u8 n1) (.int .u8 n2) (.int .u8 n3) (.int .i64 b) := fun w1 h => by rw [hS] at h; exact h.1.2.1
  have SF : ∀ w1, S w1 → Fact w1 := fun w1 h => by rw [hS] at h; exact h.1.2.2
  have Sb : ∀ w1, S w1 → Below w.heap.size w w1 := fun w1 h => by rw [hS] at h; exact h.2
  have S0 : S ((w.alloc (.cells #[.int .u8 a0, .int .u8 a1, .int .u8 a2, .int .u8 a3] 23)).alloc (.cells #[.int .u8 n0, .int .u8 n1, .int .u8 n2, .int .u8 n3, .int .i64 b] 28)) := by rw [hS, hg, hh]; exact ⟨⟨(by simpa using ((new4 w _ _ _ _ _).alloc _)), (by simpa using (new5 (w.alloc _) _ _ _ _ _ _)), hF.below (bal (bnew _ _) _)⟩, (bal (bnew _ _) _)⟩
  clear hS
  have hal := alive_any _ (SF _ S0)
  have HG : Hid (g = w.heap.size) := hg
  have HH : Hid (h = w.heap.size + 1) := hh
  clear hF hg hh
  have T := S0
  clear S0
  go_enter Tryd.func6, Tryd.ntmps6
  go_wp2_with (first
    | (go_at_call 11; refine hal.mono ?_; rintro e y0 ⟨rfl, hb⟩; have T := Sn _ _ T hb; clear hb)
    | (go_at_call 9; refine (hp _ (SF _ T)).mono ?_; rintro e y1 ⟨rfl, hb⟩; have T := Sn _ _ T hb; clear hb)
    | (go_at_call 25; refine (rp _).mono ?_; rintro e y2 ⟨rfl, hb⟩; have T := Sn _ _ (Sn _ _ T (bnew y1 (.cells #[.int .u8 x0, .int .u8 x1, .int .u8 x2, .int .u8 x3] 23))) hb; have X7 := (new4 y1 (.int .u8 x0) (.int .u8 x1) (.int .u8 x2) (.int .u8 x3) 23).below hb; clear hb)
    | (go_at_call 10; refine (hn _ (SF _ (Sn _ _ T (bnew y2 (.cells #[.int .u8 x0, .int .u8 x1, .int .u8 x2, .int .u8 x3] 23))))).mono ?_; rintro e y3 ⟨rfl, hb⟩; have T := Sn _ _ (Sn _ _ T (bnew y2 (.cells #[.int .u8 x0, .int .u8 x1, .int .u8 x2, .int .u8 x3] 23))) hb; have X7 := (X7.alloc (.cells #[.int .u8 x0, .int .u8 x1, .int .u8 x2, .int .u8 x3] 23)).below hb; have X9 := (new4 y2 (.int .u8 x0) (.int .u8 x1) (.int .u8 x2) (.int .u8 x3) 23).below hb; clear hb)
    | (go_at_call 26; refine (rn _).mono ?_; rintro e y4 ⟨rfl, hb⟩; have T := Sn _ _ (Sn _ _ T (bnew y3 (.cells #[.int .u8 p0, .int .u8 p1, .int .u8 p2, .int .u8 p3, .int .i64 pb] 28))) hb; have X7 := (X7.alloc (.cells #[.int .u8 p0, .int .u8 p1, .int .u8 p2, .int .u8 p3, .int .i64 pb] 28)).below hb; have X9 := (X9.alloc (.cells #[.int .u8 p0, .int .u8 p1, .int .u8 p2, .int .u8 p3, .int .i64 pb] 28)).below hb; have X11 := (new5 y3 (.int .u8 p0) (.int .u8 p1) (.int .u8 p2) (.int .u8 p3) (.int .i64 pb) 28).below hb; clear hb))
  have T := Sn _ _ T (bnew y4 (.cells #[.int .u8 p0, .int .u8 p1, .int .u8 p2, .int .u8 p3, .int .i64 pb] 28))
  have X7 := X7.alloc (.cells #[.int .u8 p0, .int .u8 p1, .int .u8 p2, .int .u8 p3, .int .i64 pb] 28)
  have X9 := X9.alloc (.cells #[.int .u8 p0, .int .u8 p1, .int .u8 p2, .int .u8 p3, .int .i64 pb] 28)
  have X11 := X11.alloc (.cells #[.int .u8 p0, .int .u8 p1, .int .u8 p2, .int .u8 p3, .int .i64 pb] 28)
  have X13 := new5 y4 (.int .u8 p0) (.int .u8 p1) (.int .u8 p2) (.int .u8 p3) (.int .i64 pb) 28
  obtain ⟨j7, h7⟩ : ∃ j, j = y1.heap.size := ⟨_, rfl⟩
  obtain ⟨j9, h9⟩ : ∃ j, j = y2.heap.size := ⟨_, rfl⟩
  obtain ⟨j11, h11⟩ : ∃ j, j = y3.heap.size := ⟨_, rfl⟩
  obtain ⟨j13, h13⟩ : ∃ j, j = y4.heap.size := ⟨_, rfl⟩
  rw [← h7] at X7
  rw [← h9] at X9
  rw [← h11] at X11
  rw [← h13] at X13
  obtain ⟨R, hR⟩ : ∃ R : World → Prop, R = fun w' => S w' ∧ Box4 w' j7 (.int .u8 x0) (.int .u8 x1) (.int .u8 x2) (.int .u8 x3) ∧ Box4 w' j9 (.int .u8 x0) (.int .u8 x1) (.int .u8 x2) (.int .u8 x3) ∧ Box5 w' j11 (.int .u8 p0) (.int .u8 p1) (.int .u8 p2) (.int .u8 p3) (.int .i64 pb) ∧ Box5 w' j13 (.int .u8 p0) (.int .u8 p1) (.int .u8 p2) (.int .u8 p3) (.int .i64 pb) := ⟨_, rfl⟩
  have Rn : ∀ w1 w2, R w1 → Below w1.heap.size w1 w2 → R w2 := fun w1 w2 h hb => by rw [hR] at h ⊢; exact ⟨Sn _ _ h.1 hb, h.2.1.below hb, h.2.2.1.below hb, h.2.2.2.1.below hb, h.2.2.2.2.below hb⟩
  have Rs : ∀ w1, R w1 → S w1 := fun w1 h => by rw [hR] at h; exact h.1
  have R7 : ∀ w1, R w1 → Box4 w1 j7 (.int .u8 x0) (.int .u8 x1) (.int .u8 x2) (.int .u8 x3) := fun w1 h => by rw [hR] at h; exact h.2.1
  have R9 : ∀ w1, R w1 → Box4 w1 j9 (.int .u8 x0) (.int .u8 x1) (.int .u8 x2) (.int .u8 x3) := fun w1 h => by rw [hR] at h; exact h.2.2.1
  have R11 : ∀ w1, R w1 → Box5 w1 j11 (.int .u8 p0) (.int .u8 p1) (.int .u8 p2) (.int .u8 p3) (.int .i64 pb) := fun w1 h => by rw [hR] at h; exact h.2.2.2.1
  have R13 : ∀ w1, R w1 → Box5 w1 j13 (.int .u8 p0) (.int .u8 p1) (.int .u8 p2) (.int .u8 p3) (.int .i64 pb) := fun w1 h => by rw [hR] at h; exact h.2.2.2.2
  have R0 : R (y4.alloc (.cells #[.int .u8 p0, .int .u8 p1, .int .u8 p2, .int .u8 p3, .int .i64 pb] 28)) := by rw [hR]; exact ⟨T, X7, X9, X11, X13⟩
  have R1 := Rn _ _ R0 (Below.refl _ _).drew
  rw [← h7, ← h9, ← h11, ← h13, ← HH.out, ← HG.out]
  clear hR R0 T X7 X9 X11 X13 h7 h9 h11 h13
  refine Inv.region_inv (fun L a w' => R w' ∧ a = { tmps := #[(.agg #[.int .u8 a0, .int .u8 a1, .int .u8 a2, .int .u8 a3]), (.agg #[.int .u8 n0, .int .u8 n1, .int .u8 n2, .int .u8 n3, .int .i64 b]), (.string s), (.pointer (some ⟨g, 0, none⟩)), (.pointer (some ⟨h, 0, none⟩)), undef, (if L 32 = true then (.bool true) else (.bool false)), (.pointer (some ⟨j7, 0, none⟩)), (.int .i64 ec), (.pointer (some ⟨j9, 0, none⟩)), (.int .i64 ec), (.pointer (some ⟨j11, 0, none⟩)), (.int .i64 gc), (.pointer (some ⟨j13, 0, none⟩)), (.int .i64 gc), (.bool true), (.bool false), (.string s), (.int .i64 (ln : Int)), (.bool (decide ((200 : Int) < (ln : Int)))), (.tuple #[(.agg #[.int .u8 x0, .int .u8 x1, .int .u8 x2, .int .u8 x3]), .int .i64 ec]), (.string s), (.tuple #[(.agg #[.int .u8 x0, .int .u8 x1, .int .u8 x2, .int .u8 x3]), .int .i64 ec]), (.agg #[.int .u8 x0, .int .u8 x1, .int .u8 x2, .int .u8 x3]), (.int .i64 ec), (.tuple #[(.agg #[.int .u8 x0, .int .u8 x1, .int .u8 x2, .int .u8 x3]), .int .i64 ec]), (.string s), (.tuple #[(.agg #[.int .u8 x0, .int .u8 x1, .int .u8 x2, .int .u8 x3]), .int .i64 ec]), (.agg #[.int .u8 x0, .int .u8 x1, .int .u8 x2, .int .u8 x3]), (.int .i64 ec), (.tuple #[(.agg #[.int .u8 p0, .int .u8 p1, .int .u8 p2, .int .u8 p3, .int .i64 pb]), .int .i64 gc]), (.string s), (.tuple #[(.agg #[.int .u8 p0, .int .u8 p1, .int .u8 p2, .int .u8 p3, .int .i64 pb]), .int .i64 gc]), (.agg #[.int .u8 p0, .int .u8 p1, .int .u8 p2, .int .u8 p3, .int .i64 pb]), (.int .i64 gc), (.tuple #[(.agg #[.int .u8 p0, .int .u8 p1, .int .u8 p2, .int .u8 p3, .int .i64 pb]), .int .i64 gc]), (.string s), (.tuple #[(.agg #[.int .u8 p0, .int .u8 p1, .int .u8 p2, .int .u8 p3, .int .i64 pb]), .int .i64 gc]), (.agg #[.int .u8 p0, .int .u8 p1, .int .u8 p2, .int .u8 p3, .int .i64 pb]), (.int .i64 gc), (if L 0 = true then (.agg #[.int .u8 a0, .int .u8 a1, .int .u8 a2, .int .u8 a3]) else undef), (if L 1 = true then (.string t) else undef), (if L 2 = true then (.agg #[.int .u8 a0, .int .u8 a1, .int .u8 a2, .int .u8 a3]) else undef), (if L 3 = true then (.string t) else undef), (if L 4 = true then (.bool true) else undef), (if L 5 = true then (.bool true) else undef), (if L 6 = true then (.agg #[.int .u8 n0, .int .u8 n1, .int .u8 n2, .int .u8 n3, .int .i64 b]) else undef), (if L 7 = true then (.string u) else undef), (if L 8 = true then (.agg #[.int .u8 n0, .int .u8 n1, .int .u8 n2, .int .u8 n3, .int .i64 b]) else undef), (if L 9 = true then (.string u) else undef), (if L 10 = true then (.bool true) else undef), (if L 11 = true then (.bool true) else undef), (if L 12 = true then (.bool true) else undef), (if L 13 = true then (.agg #[.int .u8 x0, .int .u8 x1, .int .u8 x2, .int .u8 x3]) else undef), (if L 14 = true then (.agg #[.int .u8 x0, .int .u8 x1, .int .u8 x2, .int .u8 x3]) else undef), (if L 15 = true then (.bool true) else undef), (if L 16 = true then (.bool true) else undef), (if L 17 = true then (.bool true) else undef), (if L 18 = true then (.int .i64 ec) else undef), (if L 19 = true then (.int .i64 ec) else undef), (if L 20 = true then (.bool true) else undef), (if L 21 = true then (.bool true) else undef), (if L 22 = true then (.bool true) else undef), (if L 23 = true then (.agg #[.int .u8 p0, .int .u8 p1, .int .u8 p2, .int .u8 p3, .int .i64 pb]) else undef), (if L 24 = true then (.agg #[.int .u8 p0, .int .u8 p1, .int .u8 p2, .int .u8 p3, .int .i64 pb]) else undef), (if L 25 = true then (.bool true) else undef), (if L 26 = true then (.bool true) else undef), (if L 27 = true then (.bool true) else undef), (if L 28 = true then (.int .i64 gc) else undef), (if L 29 = true then (.int .i64 gc) else undef), (if L 30 = true then (.bool true) else undef), (if L 31 = true then (.bool true) else undef)], defers := [] }) (by kernel_rfl) (by kernel_rfl) ?h0 ?step ?done
  case h0 => exact ⟨R1, by simp⟩
  case step =>
    refine Inv.Steps.cons rfl ?_ ?_
    · intro L a w' hI hL hd K hK
      obtain ⟨hSw, rfl⟩ := hI
      clear hd
      rw [if_pos (by rfl)]
      obtain ⟨l0, l1, l2, l3, -, -, -, -, -⟩ := Sf0 _ (Rs _ hSw)
      go_simp
      exact hK.out _ _ ⟨hSw, by simp⟩
    refine Inv.Steps.cons rfl ?_ ?_
    · intro L a w' hI hL hd K hK
      obtain ⟨hSw, rfl⟩ := hI
      simp [Region.binds] at hd
      simp only [hd, if_true]
      rw [if_pos (by rfl)]
      go_simp
      refine (c1 _ (SF _ (Rs _ hSw))).mono ?_
      rintro e w6 ⟨rfl, hb6⟩
      exact hK.out _ _ ⟨Rn _ _ hSw hb6, by simp [hd]⟩
    refine Inv.Steps.cons rfl ?_ ?_
    · intro L a w' hI hL hd K hK
      obtain ⟨hSw, rfl⟩ := hI
      clear hd
      rw [if_pos (by rfl)]
      obtain ⟨l0, l1, l2, l3, -, -, -, -, -⟩ := Sf0 _ (Rs _ hSw)
      go_simp
      exact hK.out _ _ ⟨hSw, by simp⟩
    refine Inv.Steps.cons rfl ?_ ?_
    · intro L a w' hI hL hd K hK
      obtain ⟨hSw, rfl⟩ := hI
      simp [Region.binds] at hd
      simp only [hd, if_true]
      rw [if_pos (by rfl)]
      go_simp
      refine (c3 _).mono ?_
      rintro e w6 ⟨rfl, hb6⟩
      exact hK.out _ _ ⟨Rn _ _ hSw hb6, by simp [hd]⟩
    refine Inv.Steps.cons rfl ?_ ?_
    · intro L a w' hI hL hd K hK
      obtain ⟨hSw, rfl⟩ := hI
      simp [Region.binds] at hd
      simp only [hd, if_true]
      rw [if_pos (by rfl)]
      go_simp
      exact hK.out _ _ ⟨hSw, by simp [hd]⟩
    refine Inv.Steps.cons rfl ?_ ?_
    · intro L a w' hI hL hd K hK
      obtain ⟨hSw, rfl⟩ := hI
      simp [Region.binds] at hd
      simp only [hd, if_true]
      rw [if_pos (by rfl)]
      go_simp
      exact hK.out _ _ ⟨hSw, by simp [hd]⟩
    refine Inv.Steps.cons rfl ?_ ?_
    · intro L a w' hI hL hd K hK
      obtain ⟨hSw, rfl⟩ := hI
      simp [Region.binds] at hd
      simp only [hd, if_true]
      rw [if_pos (by rfl)]
      obtain ⟨⟨l0, l1, l2, l3, -, -, -, -, -⟩, l4, -⟩ := Sf1 _ (Rs _ hSw)
      go_simp
      exact hK.out _ _ ⟨hSw, by simp [hd]⟩
    refine Inv.Steps.cons rfl ?_ ?_
    · intro L a w' hI hL hd K hK
      obtain ⟨hSw, rfl⟩ := hI
      simp [Region.binds] at hd
      simp only [hd, if_true]
      rw [if_pos (by rfl)]
      go_simp
      refine (c7 _ (SF _ (Rs _ hSw))).mono ?_
      rintro e w6 ⟨rfl, hb6⟩
      exact hK.out _ _ ⟨Rn _ _ hSw hb6, by simp [hd]⟩
    refine Inv.Steps.cons rfl ?_ ?_
    · intro L a w' hI hL hd K hK
      obtain ⟨hSw, rfl⟩ := hI
      simp [Region.binds] at hd
      simp only [hd, if_true]
      rw [if_pos (by rfl)]
      obtain ⟨⟨l0, l1, l2, l3, -, -, -, -, -⟩, l4, -⟩ := Sf1 _ (Rs _ hSw)
      go_simp
      exact hK.out _ _ ⟨hSw, by simp [hd]⟩
    refine Inv.Steps.cons rfl ?_ ?_
    · intro L a w' hI hL hd K hK
      obtain ⟨hSw, rfl⟩ := hI
      simp [Region.binds] at hd
      simp only [hd, if_true]
      rw [if_pos (by rfl)]
      go_simp
      refine (c9 _).mono ?_
      rintro e w6 ⟨rfl, hb6⟩
      exact hK.out _ _ ⟨Rn _ _ hSw hb6, by simp [hd]⟩
    refine Inv.Steps.cons rfl ?_ ?_
    · intro L a w' hI hL hd K hK
      obtain ⟨hSw, rfl⟩ := hI
      simp [Region.binds] at hd
      simp only [hd, if_true]
      rw [if_pos (by rfl)]
      go_simp
      exact hK.out _ _ ⟨hSw, by simp [hd]⟩
    refine Inv.Steps.cons rfl ?_ ?_
    · intro L a w' hI hL hd K hK
      obtain ⟨hSw, rfl⟩ := hI
      simp [Region.binds] at hd
      simp only [hd, if_true]
      rw [if_pos (by rfl)]
      go_simp
      exact hK.out _ _ ⟨hSw, by simp [hd]⟩
    refine Inv.Steps.cons rfl ?_ ?_
    · intro L a w' hI hL hd K hK
      obtain ⟨hSw, rfl⟩ := hI
      simp [Region.binds] at hd
      simp only [hd, if_true]
      rw [if_pos (by rfl)]
      go_simp
      exact hK.out _ _ ⟨hSw, by simp [hd]⟩
    refine Inv.Steps.cons rfl ?_ ?_
    · intro L a w' hI hL hd K hK
      obtain ⟨hSw, rfl⟩ := hI
      simp [Region.binds] at hd
      simp only [hd, if_true]
      rw [if_pos (by rfl)]
      obtain ⟨l0, l1, l2, l3, -, -, -, -, -⟩ := R7 _ hSw
      go_simp
      exact hK.out _ _ ⟨hSw, by simp [hd]⟩
    refine Inv.Steps.cons rfl ?_ ?_
    · intro L a w' hI hL hd K hK
      obtain ⟨hSw, rfl⟩ := hI
      simp [Region.binds] at hd
      simp only [hd, if_true]
      rw [if_pos (by rfl)]
      obtain ⟨l0, l1, l2, l3, -, -, -, -, -⟩ := R9 _ hSw
      go_simp
      exact hK.out _ _ ⟨hSw, by simp [hd]⟩
    refine Inv.Steps.cons rfl ?_ ?_
    · intro L a w' hI hL hd K hK
      obtain ⟨hSw, rfl⟩ := hI
      simp [Region.binds] at hd
      simp only [hd, if_true]
      rw [if_pos (by rfl)]
      have he6 := e15 w'
      go_simp
      exact hK.out _ _ ⟨hSw, by simp [hd]⟩
    refine Inv.Steps.cons rfl ?_ ?_
    · intro L a w' hI hL hd K hK
      obtain ⟨hSw, rfl⟩ := hI
      simp [Region.binds] at hd
      simp only [hd, if_true]
      rw [if_pos (by rfl)]
      go_simp
      exact hK.out _ _ ⟨hSw, by simp [hd]⟩
    refine Inv.Steps.cons rfl ?_ ?_
    · intro L a w' hI hL hd K hK
      obtain ⟨hSw, rfl⟩ := hI
      simp [Region.binds] at hd
      simp only [hd, if_true]
      rw [if_pos (by rfl)]
      go_simp
      exact hK.out _ _ ⟨hSw, by simp [hd]⟩
    refine Inv.Steps.cons rfl ?_ ?_
    · intro L a w' hI hL hd K hK
      obtain ⟨hSw, rfl⟩ := hI
      simp [Region.binds] at hd
      simp only [hd, if_true]
      rw [if_pos (by rfl)]
      go_simp
      exact hK.out _ _ ⟨hSw, by simp [hd]⟩
    refine Inv.Steps.cons rfl ?_ ?_
    · intro L a w' hI hL hd K hK
      obtain ⟨hSw, rfl⟩ := hI
      simp [Region.binds] at hd
      simp only [hd, if_true]
      rw [if_pos (by rfl)]
      go_simp
      exact hK.out _ _ ⟨hSw, by simp [hd]⟩
    refine Inv.Steps.cons rfl ?_ ?_
    · intro L a w' hI hL hd K hK
      obtain ⟨hSw, rfl⟩ := hI
      simp [Region.binds] at hd
      simp only [hd, if_true]
      rw [if_pos (by rfl)]
      go_simp
      exact hK.out _ _ ⟨hSw, by simp [hd]⟩
    refine Inv.Steps.cons rfl ?_ ?_
    · intro L a w' hI hL hd K hK
      obtain ⟨hSw, rfl⟩ := hI
      simp [Region.binds] at hd
      simp only [hd, if_true]
      rw [if_pos (by rfl)]
      go_simp
      exact hK.out _ _ ⟨hSw, by simp [hd]⟩
    refine Inv.Steps.cons rfl ?_ ?_
    · intro L a w' hI hL hd K hK
      obtain ⟨hSw, rfl⟩ := hI
      simp [Region.binds] at hd
      simp only [hd, if_true]
      rw [if_pos (by rfl)]
      go_simp
      exact hK.out _ _ ⟨hSw, by simp [hd]⟩
    refine Inv.Steps.cons rfl ?_ ?_
    · intro L a w' hI hL hd K hK
      obtain ⟨hSw, rfl⟩ := hI
      simp [Region.binds] at hd
      simp only [hd, if_true]
      rw [if_pos (by rfl)]
      obtain ⟨⟨l0, l1, l2, l3, -, -, -, -, -⟩, l4, -⟩ := R11 _ hSw
      go_simp
      exact hK.out _ _ ⟨hSw, by simp [hd]⟩
    refine Inv.Steps.cons rfl ?_ ?_
    · intro L a w' hI hL hd K hK
      obtain ⟨hSw, rfl⟩ := hI
      simp [Region.binds] at hd
      simp only [hd, if_true]
      rw [if_pos (by rfl)]
      obtain ⟨⟨l0, l1, l2, l3, -, -, -, -, -⟩, l4, -⟩ := R13 _ hSw
      go_simp
      exact hK.out _ _ ⟨hSw, by simp [hd]⟩
    refine Inv.Steps.cons rfl ?_ ?_
    · intro L a w' hI hL hd K hK
      obtain ⟨hSw, rfl⟩ := hI
      simp [Region.binds] at hd
      simp only [hd, if_true]
      rw [if_pos (by rfl)]
      have he6 := e25 w'
      go_simp
      exact hK.out _ _ ⟨hSw, by simp [hd]⟩
    refine Inv.Steps.cons rfl ?_ ?_
    · intro L a w' hI hL hd K hK
      obtain ⟨hSw, rfl⟩ := hI
      simp [Region.binds] at hd
      simp only [hd, if_true]
      rw [if_pos (by rfl)]
      go_simp
      exact hK.out _ _ ⟨hSw, by simp [hd]⟩
    refine Inv.Steps.cons rfl ?_ ?_
    · intro L a w' hI hL hd K hK
      obtain ⟨hSw, rfl⟩ := hI
      simp [Region.binds] at hd
      simp only [hd, if_true]
      rw [if_pos (by rfl)]
      go_simp
      exact hK.out _ _ ⟨hSw, by simp [hd]⟩
    refine Inv.Steps.cons rfl ?_ ?_
    · intro L a w' hI hL hd K hK
      obtain ⟨hSw, rfl⟩ := hI
      simp [Region.binds] at hd
      simp only [hd, if_true]
      rw [if_pos (by rfl)]
      go_simp
      exact hK.out _ _ ⟨hSw, by simp [hd]⟩
    refine Inv.Steps.cons rfl ?_ ?_
    · intro L a w' hI hL hd K hK
      obtain ⟨hSw, rfl⟩ := hI
      simp [Region.binds] at hd
      simp only [hd, if_true]
      rw [if_pos (by rfl)]
      go_simp
      exact hK.out _ _ ⟨hSw, by simp [hd]⟩
    refine Inv.Steps.cons rfl ?_ ?_
    · intro L a w' hI hL hd K hK
      obtain ⟨hSw, rfl⟩ := hI
      simp [Region.binds] at hd
      simp only [hd, if_true]
      rw [if_pos (by rfl)]
      go_simp
      exact hK.out _ _ ⟨hSw, by simp [hd]⟩
    refine Inv.Steps.cons rfl ?_ ?_
    · intro L a w' hI hL hd K hK
      obtain ⟨hSw, rfl⟩ := hI
      simp [Region.binds] at hd
      simp only [hd, if_true]
      rw [if_pos (by rfl)]
      go_simp
      exact hK.out _ _ ⟨hSw, by simp [hd]⟩
    refine Inv.Steps.cons rfl ?_ ?_
    · intro L a w' hI hL hd K hK
      obtain ⟨hSw, rfl⟩ := hI
      simp [Region.binds] at hd
      simp only [hd, if_true]
      rw [if_pos (by rfl)]
      go_simp
      exact hK.out _ _ ⟨hSw, by simp [hd]⟩
    exact Inv.Steps.nil (by decide)
  case done =>
    intro L a w' hI hall
    obtain ⟨hSw, rfl⟩ := hI
    simp only [hall, if_true]
    go_wp2_with fail
    go_ret
    exact ⟨rfl, Sb _ (Rs _ hSw)⟩
theorem parse_both (l : List UInt8) (hl : l.length ≤ 1000) : ∃ (X : Nat) (ec : Int), X < 4294967296 ∧
    (∀ w, Fact w → Calls Tryd.prog 9 #[.string (bs l)] w fun e w' => e = .returned (.tuple #[adr X, .int .i64 ec]) ∧ Below w.heap.size w w') ∧
    (∀ w, Calls Tryd.prog 25 #[.string (bs l)] w fun e w' => e = .returned (.tuple #[adr X, .int .i64 ec]) ∧ Below w.heap.size w w') := by
  by_cases h : ∃ N, N < 4294967296 ∧ l = txt N
  · obtain ⟨N, hN, rfl⟩ := h
    refine ⟨N, 0, hN, fun w hF => parse_hit N hN w hF, fun w => (rparse_any (txt N) hl w).mono fun e w' ⟨h, hb⟩ => ⟨?_, hb⟩⟩
    rcases h with ⟨M, hM, e2, he⟩ | ⟨h, _⟩
    · rw [he, txt_inj hN hM e2]
    · exact absurd rfl (h N hN)
  · refine ⟨0, 41, by decide, fun w hF => parse_miss l hl (fun N hN e => h ⟨N, hN, e⟩) w hF, fun w => (rparse_any l hl w).mono fun e w' ⟨h2, hb⟩ => ⟨?_, hb⟩⟩
    rcases h2 with ⟨M, hM, e2, _⟩ | ⟨_, he⟩
    · exact absurd ⟨M, hM, e2⟩ h
    · exact he
theorem pn_both (l : List UInt8) (hl : l.length ≤ 1000) : ∃ (X : Nat) (k gc : Int), X < 4294967296 ∧
    (∀ w, Fact w → Calls Tryd.prog 10 #[.string (bs l)] w fun e w' => e = .returned (.tuple #[net X k, .int .i64 gc]) ∧ Below w.heap.size w w') ∧
    (∀ w, Calls Tryd.prog 26 #[.string (bs l)] w fun e w' => e = .returned (.tuple #[net X k, .int .i64 gc]) ∧ Below w.heap.size w w') := by
  by_cases h : ∃ N k : Nat, N < 4294967296 ∧ k ≤ 32 ∧ rightN N k = true ∧ l = netTxt N k
  · obtain ⟨N, k, hN, hk, hr, rfl⟩ := h
    refine ⟨N, k, 0, hN, fun w hF => pn_hit N k hN hk hr w hF, fun w => (rpn_any (netTxt N k) hl w).mono fun e w' ⟨h, hb⟩ => ⟨?_, hb⟩⟩
    rcases h with ⟨M, j, hM, hj, _, e2, he⟩ | ⟨h, _⟩
    · obtain ⟨rfl, rfl⟩ := net_inj hN hM (by omega) (by omega) e2
      exact he
    · exact absurd rfl (h N k hN hk hr)
  · refine ⟨0, 0, 41, by decide, fun w hF => pn_miss l hl (fun N k hN hk hr e => h ⟨N, k, hN, hk, hr, e⟩) w hF, fun w => (rpn_any l hl w).mono fun e w' ⟨h2, hb⟩ => ⟨?_, hb⟩⟩
    rcases h2 with ⟨M, j, hM, hj, hr, e2, _⟩ | ⟨_, he⟩
    · exact absurd ⟨M, j, hM, hj, hr, e2⟩ h
    · exact he
theorem texts_any (A : Nat) (N : Nat) (hN : N < 4294967296) (b : Int) (s : ByteArray) (w : World) (hF : Fact w) :
    Calls Tryd.prog 6 #[adr A, net N b, .string s] w fun e w' => e = .returned (.bool true) ∧ Below w.heap.size w w' := by
  by_cases h : 200 < s.size
  · exact texts_long _ _ _ _ _ _ _ _ b s s.size rfl h w hF
  · have hl : s.data.toList.length ≤ 1000 := by
      have e : s.size = s.data.toList.length := by rw [← bs_size, bs_of]
      omega
    obtain ⟨X, ec, hX, hp, rp⟩ := parse_both s.data.toList hl
    obtain ⟨Y, k, gc, hY, hn, rn⟩ := pn_both s.data.toList hl
    rw [bs_of] at hp rp hn rn
    exact texts_core _ _ _ _ _ _ _ _ b _ _ _ _ ec _ _ _ _ k gc s _ _ s.size rfl (by omega) w hF hp rp hn rn (fun w hF => addr_Text A w hF) (fun w => ref_Text A w) (fun w hF => addr_NetText N hN b w hF) (fun w => ref_NetText N hN b w) (fun w => eq_self hX w) (fun w => eqn_self hY w)
end Go.Proofs.YtpekkmnomfeglaaDoor.Addr
