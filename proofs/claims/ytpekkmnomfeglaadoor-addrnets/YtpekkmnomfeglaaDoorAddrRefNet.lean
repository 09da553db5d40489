/-
  The document's networks: Right, In, Within.
-/
import Derived.Test.YtpekkmnomfeglaaDoorAddrRef
namespace Go.Proofs.YtpekkmnomfeglaaDoor.Addr
open Go.RowKit Go.Proofs.YtpekkmnomfeglaaDoor.Mem

set_option maxRecDepth 100000 in
theorem rright_no (n0 n1 n2 n3 b k : Int) (hq : (k == b) = false) (w : World)
    (hb : ∀ w, Calls Tryd.prog 35 #[.int .i64 b] w fun e w' => e = .returned (.int .i64 k) ∧ w' = w) :
    Calls Tryd.prog 20 #[(.agg #[.int .u8 n0, .int .u8 n1, .int .u8 n2, .int .u8 n3, .int .i64 b])] w fun e w' => e = .returned (.bool false) ∧ Below w.heap.size w w' := by
  have hgd := guard_net
  obtain ⟨g, hg⟩ : ∃ g, g = w.heap.size := ⟨_, rfl⟩
  obtain ⟨S, hS⟩ : ∃ S : World → Prop, S = fun w' => (Box5 w' g (.int .u8 n0) (.int .u8 n1) (.int .u8 n2) (.int .u8 n3) (.int .i64 b)) ∧ Below w.heap.size w w' := ⟨_, rfl⟩
  have Sn : ∀ w1 w2, S w1 → Below w1.heap.size w1 w2 → S w2 := fun w1 w2 h hb => by rw [hS] at h ⊢; exact ⟨h.1.below hb, bnext h.2 hb⟩
  have Sf0 : ∀ w1, S w1 → Box5 w1 g (.int .u8 n0) (.int .u8 n1) (.int .u8 n2) (.int .u8 n3) (.int .i64 b) := fun w1 h => by rw [hS] at h; exact h.1
  have Sb : ∀ w1, S w1 → Below w.heap.size w w1 := fun w1 h => by rw [hS] at h; exact h.2
  have S0 : S (w.alloc (.cells #[.int .u8 n0, .int .u8 n1, .int .u8 n2, .int .u8 n3, .int .i64 b] 28)) := by rw [hS, hg]; exact ⟨(by simpa using (new5 w _ _ _ _ _ _)), (bnew _ _)⟩
  clear hS
  have S1 := Sn _ _ S0 (Below.refl _ _).drew
  clear S0
  go_enter Tryd.func20, Tryd.ntmps20
  go_wp2_with fail
  rw [← hg]
  clear hg
  refine Inv.region_inv (fun L a w' => S w' ∧ a = { tmps := #[(.agg #[.int .u8 n0, .int .u8 n1, .int .u8 n2, .int .u8 n3, .int .i64 b]), (.pointer (some ⟨g, 0, none⟩)), (.bool false), (if L 0 = true then (.pointer (some ⟨g, 4, none⟩)) else undef), (if L 1 = true then (.int .i64 b) else undef), (if L 2 = true then (.int .i64 k) else undef), (if L 3 = true then (.pointer (some ⟨g, 4, none⟩)) else undef), (if L 4 = true then (.int .i64 b) else undef), (if L 5 = true then (.bool false) else undef), (if L 6 = true then (.bool false) else undef), undef, undef, undef, undef, undef, undef, undef, (if L 14 = true then (.bool false) else undef)], defers := [] }) (by kernel_rfl) (by kernel_rfl) ?h0 ?step ?done
  case h0 => exact ⟨S1, by simp⟩
  case step =>
    refine Inv.Steps.cons rfl ?_ ?_
    · intro L a w' hI hL hd K hK
      obtain ⟨hSw, rfl⟩ := hI
      clear hd
      rw [if_pos (by rfl)]
      go_simp
      exact hK.out _ _ ⟨hSw, by simp⟩
    refine Inv.Steps.cons rfl ?_ ?_
    · intro L a w' hI hL hd K hK
      obtain ⟨hSw, rfl⟩ := hI
      simp [Region.binds] at hd
      simp only [hd, if_true]
      rw [if_pos (by rfl)]
      obtain ⟨⟨k0, k1, k2, k3, -, -, -, -, -⟩, k4, -⟩ := Sf0 _ hSw
      go_simp
      exact hK.out _ _ ⟨hSw, by simp [hd]⟩
    refine Inv.Steps.cons rfl ?_ ?_
    · intro L a w' hI hL hd K hK
      obtain ⟨hSw, rfl⟩ := hI
      simp [Region.binds] at hd
      simp only [hd, if_true]
      rw [if_pos (by rfl)]
      go_simp
      refine (hb _).mono ?_
      rintro e w6 ⟨rfl, rfl⟩
      exact hK.out _ _ ⟨hSw, by simp [hd]⟩
    refine Inv.Steps.cons rfl ?_ ?_
    · intro L a w' hI hL hd K hK
      obtain ⟨hSw, rfl⟩ := hI
      clear hd
      rw [if_pos (by rfl)]
      go_simp
      exact hK.out _ _ ⟨hSw, by simp⟩
    refine Inv.Steps.cons rfl ?_ ?_
    · intro L a w' hI hL hd K hK
      obtain ⟨hSw, rfl⟩ := hI
      simp [Region.binds] at hd
      simp only [hd, if_true]
      rw [if_pos (by rfl)]
      obtain ⟨⟨k0, k1, k2, k3, -, -, -, -, -⟩, k4, -⟩ := Sf0 _ hSw
      go_simp
      exact hK.out _ _ ⟨hSw, by simp [hd]⟩
    refine Inv.Steps.cons rfl ?_ ?_
    · intro L a w' hI hL hd K hK
      obtain ⟨hSw, rfl⟩ := hI
      simp [Region.binds] at hd
      simp only [hd, if_true]
      rw [if_pos (by rfl)]
      go_simp
      exact hK.out _ _ ⟨hSw, by simp [hd]⟩
    refine Inv.Steps.cons rfl ?_ ?_
    · intro L a w' hI hL hd K hK
      obtain ⟨hSw, rfl⟩ := hI
      simp [Region.binds] at hd
      simp only [hd, if_true]
      rw [if_pos (by rfl)]
      go_simp
      exact hK.out _ _ ⟨hSw, by simp [hd]⟩
    refine Inv.Steps.cons rfl ?_ ?_
    · intro L a w' hI hL hd K hK
      obtain ⟨hSw, rfl⟩ := hI
      simp [Region.binds] at hd
      simp only [hd, if_true]
      rw [if_neg (Bool.eq_false_iff.1 (by rfl))]
      exact hK.out _ _ ⟨hSw, by simp [hd, Act.put]⟩
    refine Inv.Steps.cons rfl ?_ ?_
    · intro L a w' hI hL hd K hK
      obtain ⟨hSw, rfl⟩ := hI
      simp [Region.binds] at hd
      simp only [hd, if_true]
      rw [if_neg (Bool.eq_false_iff.1 (by rfl))]
      exact hK.out _ _ ⟨hSw, by simp [hd, Act.put]⟩
    refine Inv.Steps.cons rfl ?_ ?_
    · intro L a w' hI hL hd K hK
      obtain ⟨hSw, rfl⟩ := hI
      simp [Region.binds] at hd
      simp only [hd, if_true]
      rw [if_neg (Bool.eq_false_iff.1 (by rfl))]
      exact hK.out _ _ ⟨hSw, by simp [hd, Act.put]⟩
    refine Inv.Steps.cons rfl ?_ ?_
    · intro L a w' hI hL hd K hK
      obtain ⟨hSw, rfl⟩ := hI
      simp [Region.binds] at hd
      simp only [hd, if_true]
      rw [if_neg (Bool.eq_false_iff.1 (by rfl))]
      exact hK.out _ _ ⟨hSw, by simp [hd, Act.put]⟩
    refine Inv.Steps.cons rfl ?_ ?_
    · intro L a w' hI hL hd K hK
      obtain ⟨hSw, rfl⟩ := hI
      simp [Region.binds] at hd
      simp only [hd, if_true]
      rw [if_neg (Bool.eq_false_iff.1 (by rfl))]
      exact hK.out _ _ ⟨hSw, by simp [hd, Act.put]⟩
    refine Inv.Steps.cons rfl ?_ ?_
    · intro L a w' hI hL hd K hK
      obtain ⟨hSw, rfl⟩ := hI
      simp [Region.binds] at hd
      simp only [hd, if_true]
      rw [if_neg (Bool.eq_false_iff.1 (by rfl))]
      exact hK.out _ _ ⟨hSw, by simp [hd, Act.put]⟩
    refine Inv.Steps.cons rfl ?_ ?_
    · intro L a w' hI hL hd K hK
      obtain ⟨hSw, rfl⟩ := hI
      simp [Region.binds] at hd
      simp only [hd, if_true]
      rw [if_neg (Bool.eq_false_iff.1 (by rfl))]
      exact hK.out _ _ ⟨hSw, by simp [hd, Act.put]⟩
    refine Inv.Steps.cons rfl ?_ ?_
    · intro L a w' hI hL hd K hK
      obtain ⟨hSw, rfl⟩ := hI
      simp [Region.binds] at hd
      simp only [hd, if_true]
      rw [if_pos (by rfl)]
      go_simp
      exact hK.out _ _ ⟨hSw, by simp [hd]⟩
    refine Inv.Steps.cons rfl ?_ ?_
    · intro L a w' hI hL hd K hK
      obtain ⟨hSw, rfl⟩ := hI
      simp [Region.binds] at hd
      simp only [hd, if_true]
      rw [if_pos (by rfl)]
      go_simp
      exact hK.out _ _ ⟨hSw, by simp [hd]⟩
    exact Inv.Steps.nil (by decide)
  case done =>
    intro L a w' hI hall
    obtain ⟨hSw, rfl⟩ := hI
    simp only [hall, if_true]
    go_wp2_with fail
    go_ret
    exact ⟨rfl, Sb _ hSw⟩

set_option maxRecDepth 100000 in
theorem rright_yes (n0 n1 n2 n3 b r0 r1 r2 r3 : Int) (v : Bool) (w : World)
    (hb : ∀ w, Calls Tryd.prog 35 #[.int .i64 b] w fun e w' => e = .returned (.int .i64 b) ∧ w' = w)
    (hc : ∀ w, Calls Tryd.prog 17 #[(.agg #[.int .u8 n0, .int .u8 n1, .int .u8 n2, .int .u8 n3]), .int .i64 b] w fun e w' => e = .returned (.agg #[.int .u8 r0, .int .u8 r1, .int .u8 r2, .int .u8 r3, .int .i64 b]) ∧ Below w.heap.size w w')
    (he : ∀ w, (Op.equalIn 10000 28 (.agg #[.int .u8 r0, .int .u8 r1, .int .u8 r2, .int .u8 r3, .int .i64 b]) (.agg #[.int .u8 n0, .int .u8 n1, .int .u8 n2, .int .u8 n3, .int .i64 b])).run Tryd.prog w = .ok v w) :
    Calls Tryd.prog 20 #[(.agg #[.int .u8 n0, .int .u8 n1, .int .u8 n2, .int .u8 n3, .int .i64 b])] w fun e w' => e = .returned (.bool v) ∧ Below w.heap.size w w' := by
  have hgd := guard_net
  obtain ⟨g, hg⟩ : ∃ g, g = w.heap.size := ⟨_, rfl⟩
  obtain ⟨S, hS⟩ : ∃ S : World → Prop, S = fun w' => (Box5 w' g (.int .u8 n0) (.int .u8 n1) (.int .u8 n2) (.int .u8 n3) (.int .i64 b)) ∧ Below w.heap.size w w' := ⟨_, rfl⟩
  have Sn : ∀ w1 w2, S w1 → Below w1.heap.size w1 w2 → S w2 := fun w1 w2 h hb => by rw [hS] at h ⊢; exact ⟨h.1.below hb, bnext h.2 hb⟩
  have Sf0 : ∀ w1, S w1 → Box5 w1 g (.int .u8 n0) (.int .u8 n1) (.int .u8 n2) (.int .u8 n3) (.int .i64 b) := fun w1 h => by rw [hS] at h; exact h.1
  have Sb : ∀ w1, S w1 → Below w.heap.size w w1 := fun w1 h => by rw [hS] at h; exact h.2
  have S0 : S (w.alloc (.cells #[.int .u8 n0, .int .u8 n1, .int .u8 n2, .int .u8 n3, .int .i64 b] 28)) := by rw [hS, hg]; exact ⟨(by simpa using (new5 w _ _ _ _ _ _)), (bnew _ _)⟩
  clear hS
  have S1 := Sn _ _ S0 (Below.refl _ _).drew
  clear S0
  go_enter Tryd.func20, Tryd.ntmps20
  go_wp2_with fail
  rw [← hg]
  clear hg
  refine Inv.region_inv (fun L a w' => S w' ∧ a = { tmps := #[(.agg #[.int .u8 n0, .int .u8 n1, .int .u8 n2, .int .u8 n3, .int .i64 b]), (.pointer (some ⟨g, 0, none⟩)), (if L 15 = true then (.bool v) else (.bool false)), (if L 0 = true then (.pointer (some ⟨g, 4, none⟩)) else undef), (if L 1 = true then (.int .i64 b) else undef), (if L 2 = true then (.int .i64 b) else undef), (if L 3 = true then (.pointer (some ⟨g, 4, none⟩)) else undef), (if L 4 = true then (.int .i64 b) else undef), (if L 5 = true then (.bool true) else undef), (if L 6 = true then (.bool true) else undef), (if L 7 = true then (.pointer (some ⟨g, 0, none⟩)) else undef), (if L 8 = true then (.agg #[.int .u8 n0, .int .u8 n1, .int .u8 n2, .int .u8 n3]) else undef), (if L 9 = true then (.pointer (some ⟨g, 4, none⟩)) else undef), (if L 10 = true then (.int .i64 b) else undef), (if L 11 = true then (.agg #[.int .u8 r0, .int .u8 r1, .int .u8 r2, .int .u8 r3, .int .i64 b]) else undef), (if L 12 = true then (.agg #[.int .u8 n0, .int .u8 n1, .int .u8 n2, .int .u8 n3, .int .i64 b]) else undef), (if L 13 = true then (.bool v) else undef), (if L 14 = true then (.bool v) else undef)], defers := [] }) (by kernel_rfl) (by kernel_rfl) ?h0 ?step ?done
  case h0 => exact ⟨S1, by simp⟩
  case step =>
    refine Inv.Steps.cons rfl ?_ ?_
    · intro L a w' hI hL hd K hK
      obtain ⟨hSw, rfl⟩ := hI
      clear hd
      rw [if_pos (by rfl)]
      go_simp
      exact hK.out _ _ ⟨hSw, by simp⟩
    refine Inv.Steps.cons rfl ?_ ?_
    · intro L a w' hI hL hd K hK
      obtain ⟨hSw, rfl⟩ := hI
      simp [Region.binds] at hd
      simp only [hd, if_true]
      rw [if_pos (by rfl)]
      obtain ⟨⟨k0, k1, k2, k3, -, -, -, -, -⟩, k4, -⟩ := Sf0 _ hSw
      go_simp
      exact hK.out _ _ ⟨hSw, by simp [hd]⟩
    refine Inv.Steps.cons rfl ?_ ?_
    · intro L a w' hI hL hd K hK
      obtain ⟨hSw, rfl⟩ := hI
      simp [Region.binds] at hd
      simp only [hd, if_true]
      rw [if_pos (by rfl)]
      go_simp
      refine (hb _).mono ?_
      rintro e w6 ⟨rfl, rfl⟩
      exact hK.out _ _ ⟨hSw, by simp [hd]⟩
    refine Inv.Steps.cons rfl ?_ ?_
    · intro L a w' hI hL hd K hK
      obtain ⟨hSw, rfl⟩ := hI
      clear hd
      rw [if_pos (by rfl)]
      go_simp
      exact hK.out _ _ ⟨hSw, by simp⟩
    refine Inv.Steps.cons rfl ?_ ?_
    · intro L a w' hI hL hd K hK
      obtain ⟨hSw, rfl⟩ := hI
      simp [Region.binds] at hd
      simp only [hd, if_true]
      rw [if_pos (by rfl)]
      obtain ⟨⟨k0, k1, k2, k3, -, -, -, -, -⟩, k4, -⟩ := Sf0 _ hSw
      go_simp
      exact hK.out _ _ ⟨hSw, by simp [hd]⟩
    refine Inv.Steps.cons rfl ?_ ?_
    · intro L a w' hI hL hd K hK
      obtain ⟨hSw, rfl⟩ := hI
      simp [Region.binds] at hd
      simp only [hd, if_true]
      rw [if_pos (by rfl)]
      go_simp
      exact hK.out _ _ ⟨hSw, by simp [hd]⟩
    refine Inv.Steps.cons rfl ?_ ?_
    · intro L a w' hI hL hd K hK
      obtain ⟨hSw, rfl⟩ := hI
      simp [Region.binds] at hd
      simp only [hd, if_true]
      rw [if_pos (by rfl)]
      go_simp
      exact hK.out _ _ ⟨hSw, by simp [hd]⟩
    refine Inv.Steps.cons rfl ?_ ?_
    · intro L a w' hI hL hd K hK
      obtain ⟨hSw, rfl⟩ := hI
      simp [Region.binds] at hd
      simp only [hd, if_true]
      rw [if_pos (by rfl)]
      go_simp
      exact hK.out _ _ ⟨hSw, by simp [hd]⟩
    refine Inv.Steps.cons rfl ?_ ?_
    · intro L a w' hI hL hd K hK
      obtain ⟨hSw, rfl⟩ := hI
      simp [Region.binds] at hd
      simp only [hd, if_true]
      rw [if_pos (by rfl)]
      obtain ⟨⟨k0, k1, k2, k3, -, -, -, -, -⟩, k4, -⟩ := Sf0 _ hSw
      go_simp
      exact hK.out _ _ ⟨hSw, by simp [hd]⟩
    refine Inv.Steps.cons rfl ?_ ?_
    · intro L a w' hI hL hd K hK
      obtain ⟨hSw, rfl⟩ := hI
      simp [Region.binds] at hd
      simp only [hd, if_true]
      rw [if_pos (by rfl)]
      go_simp
      exact hK.out _ _ ⟨hSw, by simp [hd]⟩
    refine Inv.Steps.cons rfl ?_ ?_
    · intro L a w' hI hL hd K hK
      obtain ⟨hSw, rfl⟩ := hI
      simp [Region.binds] at hd
      simp only [hd, if_true]
      rw [if_pos (by rfl)]
      obtain ⟨⟨k0, k1, k2, k3, -, -, -, -, -⟩, k4, -⟩ := Sf0 _ hSw
      go_simp
      exact hK.out _ _ ⟨hSw, by simp [hd]⟩
    refine Inv.Steps.cons rfl ?_ ?_
    · intro L a w' hI hL hd K hK
      obtain ⟨hSw, rfl⟩ := hI
      simp [Region.binds] at hd
      simp only [hd, if_true]
      rw [if_pos (by rfl)]
      go_simp
      refine (hc _).mono ?_
      rintro e w6 ⟨rfl, hb6⟩
      exact hK.out _ _ ⟨Sn _ _ hSw hb6, by simp [hd]⟩
    refine Inv.Steps.cons rfl ?_ ?_
    · intro L a w' hI hL hd K hK
      obtain ⟨hSw, rfl⟩ := hI
      simp [Region.binds] at hd
      simp only [hd, if_true]
      rw [if_pos (by rfl)]
      obtain ⟨⟨k0, k1, k2, k3, -, -, -, -, -⟩, k4, -⟩ := Sf0 _ hSw
      go_simp
      exact hK.out _ _ ⟨hSw, by simp [hd]⟩
    refine Inv.Steps.cons rfl ?_ ?_
    · intro L a w' hI hL hd K hK
      obtain ⟨hSw, rfl⟩ := hI
      simp [Region.binds] at hd
      simp only [hd, if_true]
      rw [if_pos (by rfl)]
      have he6 := he w'
      go_simp
      exact hK.out _ _ ⟨hSw, by simp [hd]⟩
    refine Inv.Steps.cons rfl ?_ ?_
    · intro L a w' hI hL hd K hK
      obtain ⟨hSw, rfl⟩ := hI
      simp [Region.binds] at hd
      simp only [hd, if_true]
      rw [if_pos (by rfl)]
      go_simp
      exact hK.out _ _ ⟨hSw, by simp [hd]⟩
    refine Inv.Steps.cons rfl ?_ ?_
    · intro L a w' hI hL hd K hK
      obtain ⟨hSw, rfl⟩ := hI
      simp [Region.binds] at hd
      simp only [hd, if_true]
      rw [if_pos (by rfl)]
      go_simp
      exact hK.out _ _ ⟨hSw, by simp [hd]⟩
    exact Inv.Steps.nil (by decide)
  case done =>
    intro L a w' hI hall
    obtain ⟨hSw, rfl⟩ := hI
    simp only [hall, if_true]
    go_wp2_with fail
    go_ret
    exact ⟨rfl, Sb _ hSw⟩

theorem ref_Right (N : Nat) (hN : N < 4294967296) (b : Int) (w : World) :
    Calls Tryd.prog 20 #[net N b] w fun e w' => e = .returned (.bool (rightN N b)) ∧ Below w.heap.size w w' := by
  have hb := fun w => ref_bounded b w
  have hc := fun w => ref_Cut N hN b w
  by_cases h : ((held b : Nat) : Int) = b
  · have e : rightN N b = (decide (cutN N (held b) = N) && decide (b = b)) := by rw [rightN, h]; simp
    rw [h] at hb hc
    rw [e]
    exact rright_yes (b0 N) (b1 N) (b2 N) (b3 N) b (b0 (cutN N (held b))) (b1 (cutN N (held b))) (b2 (cutN N (held b))) (b3 (cutN N (held b))) _ w hb hc (fun w => eq_net (cutN_lt hN _) hN w)
  · have e : rightN N b = false := by rw [rightN, decide_eq_false h, Bool.false_and]
    rw [e]
    exact rright_no (b0 N) (b1 N) (b2 N) (b3 N) b (held b) (by simpa using h) w hb

set_option maxRecDepth 100000 in
theorem rin_core (a0 a1 a2 a3 n0 n1 n2 n3 b r0 r1 r2 r3 k : Int) (v u : Bool) (w : World)
    (hr : ∀ w, Calls Tryd.prog 20 #[(.agg #[.int .u8 n0, .int .u8 n1, .int .u8 n2, .int .u8 n3, .int .i64 b])] w fun e w' => e = .returned (.bool v) ∧ Below w.heap.size w w')
    (hc : ∀ w, Calls Tryd.prog 17 #[(.agg #[.int .u8 a0, .int .u8 a1, .int .u8 a2, .int .u8 a3]), .int .i64 b] w fun e w' => e = .returned (.agg #[.int .u8 r0, .int .u8 r1, .int .u8 r2, .int .u8 r3, .int .i64 k]) ∧ Below w.heap.size w w')
    (he : ∀ w, (Op.equalIn 10000 23 (.agg #[.int .u8 r0, .int .u8 r1, .int .u8 r2, .int .u8 r3]) (.agg #[.int .u8 n0, .int .u8 n1, .int .u8 n2, .int .u8 n3])).run Tryd.prog w = .ok u w) :
    Calls Tryd.prog 22 #[(.agg #[.int .u8 a0, .int .u8 a1, .int .u8 a2, .int .u8 a3]), (.agg #[.int .u8 n0, .int .u8 n1, .int .u8 n2, .int .u8 n3, .int .i64 b])] w fun e w' => e = .returned (.bool (v && u)) ∧ Below w.heap.size w w' := by
  have hgd := guard_adr
  obtain ⟨g, hg⟩ : ∃ g, g = w.heap.size := ⟨_, rfl⟩
  obtain ⟨h, hh⟩ : ∃ g, g = w.heap.size + 1 := ⟨_, rfl⟩
  obtain ⟨S, hS⟩ : ∃ S : World → Prop, S = fun w' => (Box4 w' g (.int .u8 a0) (.int .u8 a1) (.int .u8 a2) (.int .u8 a3) ∧ Box5 w' h (.int .u8 n0) (.int .u8 n1) (.int .u8 n2) (.int .u8 n3) (.int .i64 b)) ∧ Below w.heap.size w w' := ⟨_, rfl⟩
  have Sn : ∀ w1 w2, S w1 → Below w1.heap.size w1 w2 → S w2 := fun w1 w2 h hb => by rw [hS] at h ⊢; exact ⟨⟨h.1.1.below hb, h.1.2.below hb⟩, bnext h.2 hb⟩
  have Sf0 : ∀ w1, S w1 → Box4 w1 g (.int .u8 a0) (.int .u8 a1) (.int .u8 a2) (.int .u8 a3) := fun w1 h => by rw [hS] at h; exact h.1.1
  have Sf1 : ∀ w1, S w1 → Box5 w1 h (.int .u8 n0) (.int .u8 n1) (.int .u8 n2) (.int .u8 n3) (.int .i64 b) := fun w1 h => by rw [hS] at h; exact h.1.2
  have Sb : ∀ w1, S w1 → Below w.heap.size w w1 := fun w1 h => by rw [hS] at h; exact h.2
  have S0 : S ((w.alloc (.cells #[.int .u8 a0, .int .u8 a1, .int .u8 a2, .int .u8 a3] 23)).alloc (.cells #[.int .u8 n0, .int .u8 n1, .int .u8 n2, .int .u8 n3, .int .i64 b] 28)) := by rw [hS, hg, hh]; exact ⟨⟨(by simpa using ((new4 w _ _ _ _ _).alloc _)), (by simpa using (new5 (w.alloc _) _ _ _ _ _ _))⟩, (bal (bnew _ _) _)⟩
  clear hS
  have S1 := Sn _ _ S0 (Below.refl _ _).drew
  clear S0
  cases v
  · go_enter Tryd.func22, Tryd.ntmps22
    go_wp2_with fail
    rw [← hh]
    rw [← hg]
    clear hg hh
    refine Inv.region_inv (fun L a w' => S w' ∧ a = { tmps := #[(.agg #[.int .u8 a0, .int .u8 a1, .int .u8 a2, .int .u8 a3]), (.agg #[.int .u8 n0, .int .u8 n1, .int .u8 n2, .int .u8 n3, .int .i64 b]), (.pointer (some ⟨g, 0, none⟩)), (.pointer (some ⟨h, 0, none⟩)), (.bool false), (if L 0 = true then (.agg #[.int .u8 n0, .int .u8 n1, .int .u8 n2, .int .u8 n3, .int .i64 b]) else undef), (if L 1 = true then (.bool false) else undef), (if L 2 = true then (.bool false) else undef), undef, undef, undef, undef, undef, undef, undef, undef, (if L 11 = true then (.bool false) else undef)], defers := [] }) (by kernel_rfl) (by kernel_rfl) ?h0 ?step ?done
    case h0 => exact ⟨S1, by simp⟩
    case step =>
      refine Inv.Steps.cons rfl ?_ ?_
      · intro L a w' hI hL hd K hK
        obtain ⟨hSw, rfl⟩ := hI
        clear hd
        rw [if_pos (by rfl)]
        obtain ⟨⟨k0, k1, k2, k3, -, -, -, -, -⟩, k4, -⟩ := Sf1 _ hSw
        obtain ⟨l0, l1, l2, l3, -, -, -, -, -⟩ := Sf0 _ hSw
        go_simp
        exact hK.out _ _ ⟨hSw, by simp⟩
      refine Inv.Steps.cons rfl ?_ ?_
      · intro L a w' hI hL hd K hK
        obtain ⟨hSw, rfl⟩ := hI
        simp [Region.binds] at hd
        simp only [hd, if_true]
        rw [if_pos (by rfl)]
        go_simp
        refine (hr _).mono ?_
        rintro e w6 ⟨rfl, hb6⟩
        exact hK.out _ _ ⟨Sn _ _ hSw hb6, by simp [hd]⟩
      refine Inv.Steps.cons rfl ?_ ?_
      · intro L a w' hI hL hd K hK
        obtain ⟨hSw, rfl⟩ := hI
        simp [Region.binds] at hd
        simp only [hd, if_true]
        rw [if_pos (by rfl)]
        go_simp
        exact hK.out _ _ ⟨hSw, by simp [hd]⟩
      refine Inv.Steps.cons rfl ?_ ?_
      · intro L a w' hI hL hd K hK
        obtain ⟨hSw, rfl⟩ := hI
        simp [Region.binds] at hd
        simp only [hd, if_true]
        rw [if_neg (Bool.eq_false_iff.1 (by rfl))]
        exact hK.out _ _ ⟨hSw, by simp [hd, Act.put]⟩
      refine Inv.Steps.cons rfl ?_ ?_
      · intro L a w' hI hL hd K hK
        obtain ⟨hSw, rfl⟩ := hI
        simp [Region.binds] at hd
        simp only [hd, if_true]
        rw [if_neg (Bool.eq_false_iff.1 (by rfl))]
        exact hK.out _ _ ⟨hSw, by simp [hd, Act.put]⟩
      refine Inv.Steps.cons rfl ?_ ?_
      · intro L a w' hI hL hd K hK
        obtain ⟨hSw, rfl⟩ := hI
        simp [Region.binds] at hd
        simp only [hd, if_true]
        rw [if_neg (Bool.eq_false_iff.1 (by rfl))]
        exact hK.out _ _ ⟨hSw, by simp [hd, Act.put]⟩
      refine Inv.Steps.cons rfl ?_ ?_
      · intro L a w' hI hL hd K hK
        obtain ⟨hSw, rfl⟩ := hI
        simp [Region.binds] at hd
        simp only [hd, if_true]
        rw [if_neg (Bool.eq_false_iff.1 (by rfl))]
        exact hK.out _ _ ⟨hSw, by simp [hd, Act.put]⟩
      refine Inv.Steps.cons rfl ?_ ?_
      · intro L a w' hI hL hd K hK
        obtain ⟨hSw, rfl⟩ := hI
        simp [Region.binds] at hd
        simp only [hd, if_true]
        rw [if_neg (Bool.eq_false_iff.1 (by rfl))]
        exact hK.out _ _ ⟨hSw, by simp [hd, Act.put]⟩
      refine Inv.Steps.cons rfl ?_ ?_
      · intro L a w' hI hL hd K hK
        obtain ⟨hSw, rfl⟩ := hI
        simp [Region.binds] at hd
        simp only [hd, if_true]
        rw [if_neg (Bool.eq_false_iff.1 (by rfl))]
        exact hK.out _ _ ⟨hSw, by simp [hd, Act.put]⟩
      refine Inv.Steps.cons rfl ?_ ?_
      · intro L a w' hI hL hd K hK
        obtain ⟨hSw, rfl⟩ := hI
        simp [Region.binds] at hd
        simp only [hd, if_true]
        rw [if_neg (Bool.eq_false_iff.1 (by rfl))]
        exact hK.out _ _ ⟨hSw, by simp [hd, Act.put]⟩
      refine Inv.Steps.cons rfl ?_ ?_
      · intro L a w' hI hL hd K hK
        obtain ⟨hSw, rfl⟩ := hI
        simp [Region.binds] at hd
        simp only [hd, if_true]
        rw [if_neg (Bool.eq_false_iff.1 (by rfl))]
        exact hK.out _ _ ⟨hSw, by simp [hd, Act.put]⟩
      refine Inv.Steps.cons rfl ?_ ?_
      · intro L a w' hI hL hd K hK
        obtain ⟨hSw, rfl⟩ := hI
        simp [Region.binds] at hd
        simp only [hd, if_true]
        rw [if_pos (by rfl)]
        go_simp
        exact hK.out _ _ ⟨hSw, by simp [hd]⟩
      refine Inv.Steps.cons rfl ?_ ?_
      · intro L a w' hI hL hd K hK
        obtain ⟨hSw, rfl⟩ := hI
        simp [Region.binds] at hd
        simp only [hd, if_true]
        rw [if_pos (by rfl)]
        go_simp
        exact hK.out _ _ ⟨hSw, by simp [hd]⟩
      exact Inv.Steps.nil (by decide)
    case done =>
      intro L a w' hI hall
      obtain ⟨hSw, rfl⟩ := hI
      simp only [hall, if_true]
      go_wp2_with fail
      go_ret
      exact ⟨rfl, Sb _ hSw⟩

  · go_enter Tryd.func22, Tryd.ntmps22
    go_wp2_with fail
    rw [← hh]
    rw [← hg]
    clear hg hh
    refine Inv.region_inv (fun L a w' => S w' ∧ a = { tmps := #[(.agg #[.int .u8 a0, .int .u8 a1, .int .u8 a2, .int .u8 a3]), (.agg #[.int .u8 n0, .int .u8 n1, .int .u8 n2, .int .u8 n3, .int .i64 b]), (.pointer (some ⟨g, 0, none⟩)), (.pointer (some ⟨h, 0, none⟩)), (if L 12 = true then (.bool u) else (.bool false)), (if L 0 = true then (.agg #[.int .u8 n0, .int .u8 n1, .int .u8 n2, .int .u8 n3, .int .i64 b]) else undef), (if L 1 = true then (.bool true) else undef), (if L 2 = true then (.bool true) else undef), (if L 3 = true then (.agg #[.int .u8 a0, .int .u8 a1, .int .u8 a2, .int .u8 a3]) else undef), (if L 4 = true then (.pointer (some ⟨h, 4, none⟩)) else undef), (if L 5 = true then (.int .i64 b) else undef), (if L 6 = true then (.agg #[.int .u8 r0, .int .u8 r1, .int .u8 r2, .int .u8 r3, .int .i64 k]) else undef), (if L 7 = true then (.agg #[.int .u8 r0, .int .u8 r1, .int .u8 r2, .int .u8 r3]) else undef), (if L 8 = true then (.pointer (some ⟨h, 0, none⟩)) else undef), (if L 9 = true then (.agg #[.int .u8 n0, .int .u8 n1, .int .u8 n2, .int .u8 n3]) else undef), (if L 10 = true then (.bool u) else undef), (if L 11 = true then (.bool u) else undef)], defers := [] }) (by kernel_rfl) (by kernel_rfl) ?h0 ?step ?done
    case h0 => exact ⟨S1, by simp⟩
    case step =>
      refine Inv.Steps.cons rfl ?_ ?_
      · intro L a w' hI hL hd K hK
        obtain ⟨hSw, rfl⟩ := hI
        clear hd
        rw [if_pos (by rfl)]
        obtain ⟨⟨k0, k1, k2, k3, -, -, -, -, -⟩, k4, -⟩ := Sf1 _ hSw
        obtain ⟨l0, l1, l2, l3, -, -, -, -, -⟩ := Sf0 _ hSw
        go_simp
        exact hK.out _ _ ⟨hSw, by simp⟩
      refine Inv.Steps.cons rfl ?_ ?_
      · intro L a w' hI hL hd K hK
        obtain ⟨hSw, rfl⟩ := hI
        simp [Region.binds] at hd
        simp only [hd, if_true]
        rw [if_pos (by rfl)]
        go_simp
        refine (hr _).mono ?_
        rintro e w6 ⟨rfl, hb6⟩
        exact hK.out _ _ ⟨Sn _ _ hSw hb6, by simp [hd]⟩
      refine Inv.Steps.cons rfl ?_ ?_
      · intro L a w' hI hL hd K hK
        obtain ⟨hSw, rfl⟩ := hI
        simp [Region.binds] at hd
        simp only [hd, if_true]
        rw [if_pos (by rfl)]
        go_simp
        exact hK.out _ _ ⟨hSw, by simp [hd]⟩
      refine Inv.Steps.cons rfl ?_ ?_
      · intro L a w' hI hL hd K hK
        obtain ⟨hSw, rfl⟩ := hI
        simp [Region.binds] at hd
        simp only [hd, if_true]
        rw [if_pos (by rfl)]
        obtain ⟨⟨k0, k1, k2, k3, -, -, -, -, -⟩, k4, -⟩ := Sf1 _ hSw
        obtain ⟨l0, l1, l2, l3, -, -, -, -, -⟩ := Sf0 _ hSw
        go_simp
        exact hK.out _ _ ⟨hSw, by simp [hd]⟩
      refine Inv.Steps.cons rfl ?_ ?_
      · intro L a w' hI hL hd K hK
        obtain ⟨hSw, rfl⟩ := hI
        simp [Region.binds] at hd
        simp only [hd, if_true]
        rw [if_pos (by rfl)]
        go_simp
        exact hK.out _ _ ⟨hSw, by simp [hd]⟩
      refine Inv.Steps.cons rfl ?_ ?_
      · intro L a w' hI hL hd K hK
        obtain ⟨hSw, rfl⟩ := hI
        simp [Region.binds] at hd
        simp only [hd, if_true]
        rw [if_pos (by rfl)]
        obtain ⟨⟨k0, k1, k2, k3, -, -, -, -, -⟩, k4, -⟩ := Sf1 _ hSw
        obtain ⟨l0, l1, l2, l3, -, -, -, -, -⟩ := Sf0 _ hSw
        go_simp
        exact hK.out _ _ ⟨hSw, by simp [hd]⟩
      refine Inv.Steps.cons rfl ?_ ?_
      · intro L a w' hI hL hd K hK
        obtain ⟨hSw, rfl⟩ := hI
        simp [Region.binds] at hd
        simp only [hd, if_true]
        rw [if_pos (by rfl)]
        go_simp
        refine (hc _).mono ?_
        rintro e w6 ⟨rfl, hb6⟩
        exact hK.out _ _ ⟨Sn _ _ hSw hb6, by simp [hd]⟩
      refine Inv.Steps.cons rfl ?_ ?_
      · intro L a w' hI hL hd K hK
        obtain ⟨hSw, rfl⟩ := hI
        simp [Region.binds] at hd
        simp only [hd, if_true]
        rw [if_pos (by rfl)]
        go_simp
        exact hK.out _ _ ⟨hSw, by simp [hd, size_adr, Act.put]⟩
      refine Inv.Steps.cons rfl ?_ ?_
      · intro L a w' hI hL hd K hK
        obtain ⟨hSw, rfl⟩ := hI
        simp [Region.binds] at hd
        simp only [hd, if_true]
        rw [if_pos (by rfl)]
        go_simp
        exact hK.out _ _ ⟨hSw, by simp [hd]⟩
      refine Inv.Steps.cons rfl ?_ ?_
      · intro L a w' hI hL hd K hK
        obtain ⟨hSw, rfl⟩ := hI
        simp [Region.binds] at hd
        simp only [hd, if_true]
        rw [if_pos (by rfl)]
        obtain ⟨⟨k0, k1, k2, k3, -, -, -, -, -⟩, k4, -⟩ := Sf1 _ hSw
        obtain ⟨l0, l1, l2, l3, -, -, -, -, -⟩ := Sf0 _ hSw
        go_simp
        exact hK.out _ _ ⟨hSw, by simp [hd]⟩
      refine Inv.Steps.cons rfl ?_ ?_
      · intro L a w' hI hL hd K hK
        obtain ⟨hSw, rfl⟩ := hI
        simp [Region.binds] at hd
        simp only [hd, if_true]
        rw [if_pos (by rfl)]
        have he6 := he w'
        go_simp
        exact hK.out _ _ ⟨hSw, by simp [hd]⟩
      refine Inv.Steps.cons rfl ?_ ?_
      · intro L a w' hI hL hd K hK
        obtain ⟨hSw, rfl⟩ := hI
        simp [Region.binds] at hd
        simp only [hd, if_true]
        rw [if_pos (by rfl)]
        go_simp
        exact hK.out _ _ ⟨hSw, by simp [hd]⟩
      refine Inv.Steps.cons rfl ?_ ?_
      · intro L a w' hI hL hd K hK
        obtain ⟨hSw, rfl⟩ := hI
        simp [Region.binds] at hd
        simp only [hd, if_true]
        rw [if_pos (by rfl)]
        go_simp
        exact hK.out _ _ ⟨hSw, by simp [hd]⟩
      exact Inv.Steps.nil (by decide)
    case done =>
      intro L a w' hI hall
      obtain ⟨hSw, rfl⟩ := hI
      simp only [hall, if_true]
      go_wp2_with fail
      go_ret
      exact ⟨rfl, Sb _ hSw⟩

theorem ref_In (M : Nat) (hM : M < 4294967296) (N : Nat) (hN : N < 4294967296) (b : Int) (w : World) :
    Calls Tryd.prog 22 #[adr M, net N b] w fun e w' => e = .returned (.bool (inN M N b)) ∧ Below w.heap.size w w' :=
  rin_core (b0 M) (b1 M) (b2 M) (b3 M) (b0 N) (b1 N) (b2 N) (b3 N) b (b0 (cutN M (held b))) (b1 (cutN M (held b))) (b2 (cutN M (held b))) (b3 (cutN M (held b))) (held b) (rightN N b) (decide (cutN M (held b) = N)) w
    (fun w => ref_Right N hN b w) (fun w => ref_Cut M hM b w) (fun w => eq_adr (cutN_lt hM _) hN w)

set_option maxRecDepth 100000 in
theorem rwithin_no1 (n0 n1 n2 n3 b m0 m1 m2 m3 c : Int) (w : World)
    (hr : ∀ w, Calls Tryd.prog 20 #[(.agg #[.int .u8 n0, .int .u8 n1, .int .u8 n2, .int .u8 n3, .int .i64 b])] w fun e w' => e = .returned (.bool false) ∧ Below w.heap.size w w') :
    Calls Tryd.prog 24 #[(.agg #[.int .u8 n0, .int .u8 n1, .int .u8 n2, .int .u8 n3, .int .i64 b]), (.agg #[.int .u8 m0, .int .u8 m1, .int .u8 m2, .int .u8 m3, .int .i64 c])] w fun e w' => e = .returned (.bool false) ∧ Below w.heap.size w w' := by
  obtain ⟨g, hg⟩ : ∃ g, g = w.heap.size := ⟨_, rfl⟩
  obtain ⟨h, hh⟩ : ∃ g, g = w.heap.size + 1 := ⟨_, rfl⟩
  obtain ⟨S, hS⟩ : ∃ S : World → Prop, S = fun w' => (Box5 w' g (.int .u8 n0) (.int .u8 n1) (.int .u8 n2) (.int .u8 n3) (.int .i64 b) ∧ Box5 w' h (.int .u8 m0) (.int .u8 m1) (.int .u8 m2) (.int .u8 m3) (.int .i64 c)) ∧ Below w.heap.size w w' := ⟨_, rfl⟩
  have Sn : ∀ w1 w2, S w1 → Below w1.heap.size w1 w2 → S w2 := fun w1 w2 h hb => by rw [hS] at h ⊢; exact ⟨⟨h.1.1.below hb, h.1.2.below hb⟩, bnext h.2 hb⟩
  have Sf0 : ∀ w1, S w1 → Box5 w1 g (.int .u8 n0) (.int .u8 n1) (.int .u8 n2) (.int .u8 n3) (.int .i64 b) := fun w1 h => by rw [hS] at h; exact h.1.1
  have Sf1 : ∀ w1, S w1 → Box5 w1 h (.int .u8 m0) (.int .u8 m1) (.int .u8 m2) (.int .u8 m3) (.int .i64 c) := fun w1 h => by rw [hS] at h; exact h.1.2
  have Sb : ∀ w1, S w1 → Below w.heap.size w w1 := fun w1 h => by rw [hS] at h; exact h.2
  have S0 : S ((w.alloc (.cells #[.int .u8 n0, .int .u8 n1, .int .u8 n2, .int .u8 n3, .int .i64 b] 28)).alloc (.cells #[.int .u8 m0, .int .u8 m1, .int .u8 m2, .int .u8 m3, .int .i64 c] 28)) := by rw [hS, hg, hh]; exact ⟨⟨(by simpa using ((new5 w _ _ _ _ _ _).alloc _)), (by simpa using (new5 (w.alloc _) _ _ _ _ _ _))⟩, (bal (bnew _ _) _)⟩
  clear hS
  rw [hg] at Sf0
  rw [hh] at Sf1
  clear hg hh
  go_enter Tryd.func24, Tryd.ntmps24
  go_wp2_with (first
    | (go_at_call 20; (with_reducible refine (hr _).mono ?_); rintro e w1 ⟨rfl, hb1⟩; have T1 := Sn _ _ S0 hb1; obtain ⟨⟨k0, k1, k2, k3, -, -, -, -, -⟩, k4, -⟩ := Sf0 _ T1; obtain ⟨⟨l0, l1, l2, l3, -, -, -, -, -⟩, l4, -⟩ := Sf1 _ T1))
  go_ret
  exact ⟨rfl, Sb _ T1⟩
set_option maxRecDepth 100000 in
theorem rwithin_no2 (n0 n1 n2 n3 b m0 m1 m2 m3 c : Int) (w : World)
    (hr : ∀ w, Calls Tryd.prog 20 #[(.agg #[.int .u8 n0, .int .u8 n1, .int .u8 n2, .int .u8 n3, .int .i64 b])] w fun e w' => e = .returned (.bool true) ∧ Below w.heap.size w w')
    (hr2 : ∀ w, Calls Tryd.prog 20 #[(.agg #[.int .u8 m0, .int .u8 m1, .int .u8 m2, .int .u8 m3, .int .i64 c])] w fun e w' => e = .returned (.bool false) ∧ Below w.heap.size w w') :
    Calls Tryd.prog 24 #[(.agg #[.int .u8 n0, .int .u8 n1, .int .u8 n2, .int .u8 n3, .int .i64 b]), (.agg #[.int .u8 m0, .int .u8 m1, .int .u8 m2, .int .u8 m3, .int .i64 c])] w fun e w' => e = .returned (.bool false) ∧ Below w.heap.size w w' := by
  obtain ⟨g, hg⟩ : ∃ g, g = w.heap.size := ⟨_, rfl⟩
  obtain ⟨h, hh⟩ : ∃ g, g = w.heap.size + 1 := ⟨_, rfl⟩
  obtain ⟨S, hS⟩ : ∃ S : World → Prop, S = fun w' => (Box5 w' g (.int .u8 n0) (.int .u8 n1) (.int .u8 n2) (.int .u8 n3) (.int .i64 b) ∧ Box5 w' h (.int .u8 m0) (.int .u8 m1) (.int .u8 m2) (.int .u8 m3) (.int .i64 c)) ∧ Below w.heap.size w w' := ⟨_, rfl⟩
  have Sn : ∀ w1 w2, S w1 → Below w1.heap.size w1 w2 → S w2 := fun w1 w2 h hb => by rw [hS] at h ⊢; exact ⟨⟨h.1.1.below hb, h.1.2.below hb⟩, bnext h.2 hb⟩
  have Sf0 : ∀ w1, S w1 → Box5 w1 g (.int .u8 n0) (.int .u8 n1) (.int .u8 n2) (.int .u8 n3) (.int .i64 b) := fun w1 h => by rw [hS] at h; exact h.1.1
  have Sf1 : ∀ w1, S w1 → Box5 w1 h (.int .u8 m0) (.int .u8 m1) (.int .u8 m2) (.int .u8 m3) (.int .i64 c) := fun w1 h => by rw [hS] at h; exact h.1.2
  have Sb : ∀ w1, S w1 → Below w.heap.size w w1 := fun w1 h => by rw [hS] at h; exact h.2
  have S0 : S ((w.alloc (.cells #[.int .u8 n0, .int .u8 n1, .int .u8 n2, .int .u8 n3, .int .i64 b] 28)).alloc (.cells #[.int .u8 m0, .int .u8 m1, .int .u8 m2, .int .u8 m3, .int .i64 c] 28)) := by rw [hS, hg, hh]; exact ⟨⟨(by simpa using ((new5 w _ _ _ _ _ _).alloc _)), (by simpa using (new5 (w.alloc _) _ _ _ _ _ _))⟩, (bal (bnew _ _) _)⟩
  clear hS
  rw [hg] at Sf0
  rw [hh] at Sf1
  clear hg hh
  go_enter Tryd.func24, Tryd.ntmps24
  go_wp2_with (first
    | (go_at_call 20; (with_reducible refine (hr _).mono ?_); rintro e w1 ⟨rfl, hb1⟩; have T1 := Sn _ _ S0 hb1; obtain ⟨⟨k0, k1, k2, k3, -, -, -, -, -⟩, k4, -⟩ := Sf0 _ T1; obtain ⟨⟨l0, l1, l2, l3, -, -, -, -, -⟩, l4, -⟩ := Sf1 _ T1)
    | (go_at_call 20; (with_reducible refine (hr2 _).mono ?_); rintro e w2 ⟨rfl, hb2⟩; have T2 := Sn _ _ T1 hb2))
  go_ret
  exact ⟨rfl, Sb _ T2⟩
set_option maxRecDepth 100000 in
set_option maxHeartbeats 2000000 in
theorem rwithin_a (n0 n1 n2 n3 b m0 m1 m2 m3 c x y f0 f1 f2 f3 t0 t1 t2 t3 k z0 z1 z2 z3 : Int) (u : Bool) (hx : 0 ≤ x) (hy : 0 ≤ y) (hy2 : y ≤ 4294967295) (hxy : x + (4294967295 - y) < 4294967296) (w : World)
    (hr : ∀ w, Calls Tryd.prog 20 #[(.agg #[.int .u8 n0, .int .u8 n1, .int .u8 n2, .int .u8 n3, .int .i64 b])] w fun e w' => e = .returned (.bool true) ∧ Below w.heap.size w w')
    (hr2 : ∀ w, Calls Tryd.prog 20 #[(.agg #[.int .u8 m0, .int .u8 m1, .int .u8 m2, .int .u8 m3, .int .i64 c])] w fun e w' => e = .returned (.bool true) ∧ Below w.heap.size w w')
    (hn1 : ∀ w, Calls Tryd.prog 16 #[(.agg #[.int .u8 n0, .int .u8 n1, .int .u8 n2, .int .u8 n3])] w fun e w' => e = .returned (.int .u32 x) ∧ Below w.heap.size w w')
    (ho1 : ∀ w, Calls Tryd.prog 15 #[.int .u32 4294967295] w fun e w' => e = .returned (.agg #[.int .u8 f0, .int .u8 f1, .int .u8 f2, .int .u8 f3]) ∧ Below w.heap.size w w')
    (hc1 : ∀ w, Calls Tryd.prog 17 #[(.agg #[.int .u8 f0, .int .u8 f1, .int .u8 f2, .int .u8 f3]), .int .i64 b] w fun e w' => e = .returned (.agg #[.int .u8 t0, .int .u8 t1, .int .u8 t2, .int .u8 t3, .int .i64 k]) ∧ Below w.heap.size w w')
    (hn2 : ∀ w, Calls Tryd.prog 16 #[(.agg #[.int .u8 t0, .int .u8 t1, .int .u8 t2, .int .u8 t3])] w fun e w' => e = .returned (.int .u32 y) ∧ Below w.heap.size w w')
    (hi1 : ∀ w, Calls Tryd.prog 22 #[(.agg #[.int .u8 n0, .int .u8 n1, .int .u8 n2, .int .u8 n3]), (.agg #[.int .u8 m0, .int .u8 m1, .int .u8 m2, .int .u8 m3, .int .i64 c])] w fun e w' => e = .returned (.bool false) ∧ Below w.heap.size w w')
    (_ho2 : ∀ w, Calls Tryd.prog 15 #[.int .u32 (x + (4294967295 - y))] w fun e w' => e = .returned (.agg #[.int .u8 z0, .int .u8 z1, .int .u8 z2, .int .u8 z3]) ∧ Below w.heap.size w w')
    (_hi2 : ∀ w, Calls Tryd.prog 22 #[(.agg #[.int .u8 z0, .int .u8 z1, .int .u8 z2, .int .u8 z3]), (.agg #[.int .u8 m0, .int .u8 m1, .int .u8 m2, .int .u8 m3, .int .i64 c])] w fun e w' => e = .returned (.bool u) ∧ Below w.heap.size w w') :
    Calls Tryd.prog 24 #[(.agg #[.int .u8 n0, .int .u8 n1, .int .u8 n2, .int .u8 n3, .int .i64 b]), (.agg #[.int .u8 m0, .int .u8 m1, .int .u8 m2, .int .u8 m3, .int .i64 c])] w fun e w' => e = .returned (.bool false) ∧ Below w.heap.size w w' := by
  obtain ⟨g, hg⟩ : ∃ g, g = w.heap.size := ⟨_, rfl⟩
  obtain ⟨h, hh⟩ : ∃ g, g = w.heap.size + 1 := ⟨_, rfl⟩
  obtain ⟨S, hS⟩ : ∃ S : World → Prop, S = fun w' => (Box5 w' g (.int .u8 n0) (.int .u8 n1) (.int .u8 n2) (.int .u8 n3) (.int .i64 b) ∧ Box5 w' h (.int .u8 m0) (.int .u8 m1) (.int .u8 m2) (.int .u8 m3) (.int .i64 c)) ∧ Below w.heap.size w w' := ⟨_, rfl⟩
  have Sn : ∀ w1 w2, S w1 → Below w1.heap.size w1 w2 → S w2 := fun w1 w2 h hb => by rw [hS] at h ⊢; exact ⟨⟨h.1.1.below hb, h.1.2.below hb⟩, bnext h.2 hb⟩
  have Sf0 : ∀ w1, S w1 → Box5 w1 g (.int .u8 n0) (.int .u8 n1) (.int .u8 n2) (.int .u8 n3) (.int .i64 b) := fun w1 h => by rw [hS] at h; exact h.1.1
  have Sf1 : ∀ w1, S w1 → Box5 w1 h (.int .u8 m0) (.int .u8 m1) (.int .u8 m2) (.int .u8 m3) (.int .i64 c) := fun w1 h => by rw [hS] at h; exact h.1.2
  have Sb : ∀ w1, S w1 → Below w.heap.size w w1 := fun w1 h => by rw [hS] at h; exact h.2
  have S0 : S ((w.alloc (.cells #[.int .u8 n0, .int .u8 n1, .int .u8 n2, .int .u8 n3, .int .i64 b] 28)).alloc (.cells #[.int .u8 m0, .int .u8 m1, .int .u8 m2, .int .u8 m3, .int .i64 c] 28)) := by rw [hS, hg, hh]; exact ⟨⟨(by simpa using ((new5 w _ _ _ _ _ _).alloc _)), (by simpa using (new5 (w.alloc _) _ _ _ _ _ _))⟩, (bal (bnew _ _) _)⟩
  clear hS
  have hw1 : IntKind.u32.wrap (4294967295 - y) = 4294967295 - y := by rw [IntKind.wrap_u32]; omega
  have hw2 : IntKind.u32.wrap (x + (4294967295 - y)) = x + (4294967295 - y) := by rw [IntKind.wrap_u32]; omega
  have hG := hg
  have hH := hh
  rw [hG] at Sf0
  rw [hH] at Sf1
  go_enter Tryd.func24, Tryd.ntmps24
  clear hg hh
  have HG : Hid (g = w.heap.size) := hG
  have HH : Hid (h = w.heap.size + 1) := hH
  clear hG hH
  go_wp2_with (first
    | (go_at_call 20; (with_reducible refine (hr _).mono ?_); rintro e w1 ⟨rfl, hb1⟩; have T1 := Sn _ _ S0 hb1; obtain ⟨⟨k0, k1, k2, k3, -, -, -, -, -⟩, k4, -⟩ := Sf0 _ T1; obtain ⟨⟨l0, l1, l2, l3, -, -, -, -, -⟩, l4, -⟩ := Sf1 _ T1)
    | (go_at_call 20; (with_reducible refine (hr2 _).mono ?_); rintro e w2 ⟨rfl, hb2⟩; have T2 := Sn _ _ T1 hb2; clear k0 k1 k2 k3 k4 l0 l1 l2 l3 l4))
  have S1 := Sn _ _ T2 (Below.refl _ _).drew
  rw [← HG.out] at Sf0
  rw [← HH.out] at Sf1
  rw [← HH.out, ← HG.out]
  clear HG HH S0 T1 T2
  refine Inv.region_inv (fun L a w' => S w' ∧ a = { tmps := #[(.agg #[.int .u8 n0, .int .u8 n1, .int .u8 n2, .int .u8 n3, .int .i64 b]), (.agg #[.int .u8 m0, .int .u8 m1, .int .u8 m2, .int .u8 m3, .int .i64 c]), (.pointer (some ⟨g, 0, none⟩)), (.pointer (some ⟨h, 0, none⟩)), (.bool false), (if L 11 = true then (.int .u32 (x + (4294967295 - y))) else undef), (.agg #[.int .u8 n0, .int .u8 n1, .int .u8 n2, .int .u8 n3, .int .i64 b]), (.bool true), (.bool false), (.bool false), (.agg #[.int .u8 m0, .int .u8 m1, .int .u8 m2, .int .u8 m3, .int .i64 c]), (.bool true), (.bool false), (.bool false), (if L 0 = true then (.pointer (some ⟨g, 0, none⟩)) else undef), (if L 1 = true then (.agg #[.int .u8 n0, .int .u8 n1, .int .u8 n2, .int .u8 n3]) else undef), (if L 2 = true then (.int .u32 x) else undef), (if L 3 = true then (.agg #[.int .u8 f0, .int .u8 f1, .int .u8 f2, .int .u8 f3]) else undef), (if L 4 = true then (.pointer (some ⟨g, 4, none⟩)) else undef), (if L 5 = true then (.int .i64 b) else undef), (if L 6 = true then (.agg #[.int .u8 t0, .int .u8 t1, .int .u8 t2, .int .u8 t3, .int .i64 k]) else undef), (if L 7 = true then (.agg #[.int .u8 t0, .int .u8 t1, .int .u8 t2, .int .u8 t3]) else undef), (if L 8 = true then (.int .u32 y) else undef), (if L 9 = true then (.int .u32 (4294967295 - y)) else undef), (if L 10 = true then (.int .u32 (x + (4294967295 - y))) else undef), undef, undef, undef, undef, undef, undef, undef, undef, undef, undef], defers := [] }) (by kernel_rfl) (by kernel_rfl) ?h0 ?step ?done
  case h0 => exact ⟨S1, by simp⟩
  case step =>
    refine Inv.Steps.cons rfl ?_ ?_
    · intro L a w' hI hL hd K hK
      obtain ⟨hSw, rfl⟩ := hI
      clear hd
      rw [if_pos (by rfl)]
      go_simp
      exact hK.out _ _ ⟨hSw, by simp⟩
    refine Inv.Steps.cons rfl ?_ ?_
    · intro L a w' hI hL hd K hK
      obtain ⟨hSw, rfl⟩ := hI
      simp [Region.binds] at hd
      simp only [hd, if_true]
      rw [if_pos (by rfl)]
      obtain ⟨⟨k0, k1, k2, k3, -, -, -, -, -⟩, k4, -⟩ := Sf0 _ hSw
      obtain ⟨⟨l0, l1, l2, l3, -, -, -, -, -⟩, l4, -⟩ := Sf1 _ hSw
      go_simp
      exact hK.out _ _ ⟨hSw, by simp [hd]⟩
    refine Inv.Steps.cons rfl ?_ ?_
    · intro L a w' hI hL hd K hK
      obtain ⟨hSw, rfl⟩ := hI
      simp [Region.binds] at hd
      simp only [hd, if_true]
      rw [if_pos (by rfl)]
      go_simp
      refine (hn1 _).mono ?_
      rintro e w6 ⟨rfl, hb6⟩
      exact hK.out _ _ ⟨Sn _ _ hSw hb6, by simp [hd]⟩
    refine Inv.Steps.cons rfl ?_ ?_
    · intro L a w' hI hL hd K hK
      obtain ⟨hSw, rfl⟩ := hI
      simp [Region.binds] at hd
      simp only [hd, if_true]
      rw [if_pos (by rfl)]
      go_simp
      refine (ho1 _).mono ?_
      rintro e w6 ⟨rfl, hb6⟩
      exact hK.out _ _ ⟨Sn _ _ hSw hb6, by simp [hd]⟩
    refine Inv.Steps.cons rfl ?_ ?_
    · intro L a w' hI hL hd K hK
      obtain ⟨hSw, rfl⟩ := hI
      clear hd
      rw [if_pos (by rfl)]
      go_simp
      exact hK.out _ _ ⟨hSw, by simp⟩
    refine Inv.Steps.cons rfl ?_ ?_
    · intro L a w' hI hL hd K hK
      obtain ⟨hSw, rfl⟩ := hI
      simp [Region.binds] at hd
      simp only [hd, if_true]
      rw [if_pos (by rfl)]
      obtain ⟨⟨k0, k1, k2, k3, -, -, -, -, -⟩, k4, -⟩ := Sf0 _ hSw
      obtain ⟨⟨l0, l1, l2, l3, -, -, -, -, -⟩, l4, -⟩ := Sf1 _ hSw
      go_simp
      exact hK.out _ _ ⟨hSw, by simp [hd]⟩
    refine Inv.Steps.cons rfl ?_ ?_
    · intro L a w' hI hL hd K hK
      obtain ⟨hSw, rfl⟩ := hI
      simp [Region.binds] at hd
      simp only [hd, if_true]
      rw [if_pos (by rfl)]
      go_simp
      refine (hc1 _).mono ?_
      rintro e w6 ⟨rfl, hb6⟩
      exact hK.out _ _ ⟨Sn _ _ hSw hb6, by simp [hd]⟩
    refine Inv.Steps.cons rfl ?_ ?_
    · intro L a w' hI hL hd K hK
      obtain ⟨hSw, rfl⟩ := hI
      simp [Region.binds] at hd
      simp only [hd, if_true]
      rw [if_pos (by rfl)]
      go_simp
      exact hK.out _ _ ⟨hSw, by simp [hd, size_adr, Act.put]⟩
    refine Inv.Steps.cons rfl ?_ ?_
    · intro L a w' hI hL hd K hK
      obtain ⟨hSw, rfl⟩ := hI
      simp [Region.binds] at hd
      simp only [hd, if_true]
      rw [if_pos (by rfl)]
      go_simp
      refine (hn2 _).mono ?_
      rintro e w6 ⟨rfl, hb6⟩
      exact hK.out _ _ ⟨Sn _ _ hSw hb6, by simp [hd]⟩
    refine Inv.Steps.cons rfl ?_ ?_
    · intro L a w' hI hL hd K hK
      obtain ⟨hSw, rfl⟩ := hI
      simp [Region.binds] at hd
      simp only [hd, if_true]
      rw [if_pos (by rfl)]
      go_simp
      exact hK.out _ _ ⟨hSw, by simp [hd]⟩
    refine Inv.Steps.cons rfl ?_ ?_
    · intro L a w' hI hL hd K hK
      obtain ⟨hSw, rfl⟩ := hI
      simp [Region.binds] at hd
      simp only [hd, if_true]
      rw [if_pos (by rfl)]
      go_simp
      exact hK.out _ _ ⟨hSw, by simp [hd]⟩
    refine Inv.Steps.cons rfl ?_ ?_
    · intro L a w' hI hL hd K hK
      obtain ⟨hSw, rfl⟩ := hI
      simp [Region.binds] at hd
      simp only [hd, if_true]
      rw [if_pos (by rfl)]
      go_simp
      exact hK.out _ _ ⟨hSw, by simp [hd]⟩
    exact Inv.Steps.nil (by decide)
  case done =>
    intro L a w' hI hall
    obtain ⟨hSw, rfl⟩ := hI
    simp only [hall, if_true]
    have S1 := Sn _ _ hSw (Below.refl _ _).drew
    go_wp2_with fail
    refine Inv.region_inv (fun L a w' => S w' ∧ a = { tmps := #[(.agg #[.int .u8 n0, .int .u8 n1, .int .u8 n2, .int .u8 n3, .int .i64 b]), (.agg #[.int .u8 m0, .int .u8 m1, .int .u8 m2, .int .u8 m3, .int .i64 c]), (.pointer (some ⟨g, 0, none⟩)), (.pointer (some ⟨h, 0, none⟩)), (.bool false), (.int .u32 (x + (4294967295 - y))), (.agg #[.int .u8 n0, .int .u8 n1, .int .u8 n2, .int .u8 n3, .int .i64 b]), (.bool true), (.bool false), (.bool false), (.agg #[.int .u8 m0, .int .u8 m1, .int .u8 m2, .int .u8 m3, .int .i64 c]), (.bool true), (.bool false), (.bool false), (.pointer (some ⟨g, 0, none⟩)), (.agg #[.int .u8 n0, .int .u8 n1, .int .u8 n2, .int .u8 n3]), (.int .u32 x), (.agg #[.int .u8 f0, .int .u8 f1, .int .u8 f2, .int .u8 f3]), (.pointer (some ⟨g, 4, none⟩)), (.int .i64 b), (.agg #[.int .u8 t0, .int .u8 t1, .int .u8 t2, .int .u8 t3, .int .i64 k]), (.agg #[.int .u8 t0, .int .u8 t1, .int .u8 t2, .int .u8 t3]), (.int .u32 y), (.int .u32 (4294967295 - y)), (.int .u32 (x + (4294967295 - y))), (if L 0 = true then (.pointer (some ⟨g, 0, none⟩)) else undef), (if L 1 = true then (.agg #[.int .u8 n0, .int .u8 n1, .int .u8 n2, .int .u8 n3]) else undef), (if L 2 = true then (.agg #[.int .u8 m0, .int .u8 m1, .int .u8 m2, .int .u8 m3, .int .i64 c]) else undef), (if L 3 = true then (.bool false) else undef), (if L 4 = true then (.bool false) else undef), undef, undef, undef, undef, (if L 9 = true then (.bool false) else undef)], defers := [] }) (by kernel_rfl) (by kernel_rfl) ?h0 ?step ?done
    case h0 => exact ⟨S1, by simp⟩
    case step =>
      refine Inv.Steps.cons rfl ?_ ?_
      · intro L a w' hI hL hd K hK
        obtain ⟨hSw, rfl⟩ := hI
        clear hd
        rw [if_pos (by rfl)]
        go_simp
        exact hK.out _ _ ⟨hSw, by simp⟩
      refine Inv.Steps.cons rfl ?_ ?_
      · intro L a w' hI hL hd K hK
        obtain ⟨hSw, rfl⟩ := hI
        simp [Region.binds] at hd
        simp only [hd, if_true]
        rw [if_pos (by rfl)]
        obtain ⟨⟨k0, k1, k2, k3, -, -, -, -, -⟩, k4, -⟩ := Sf0 _ hSw
        obtain ⟨⟨l0, l1, l2, l3, -, -, -, -, -⟩, l4, -⟩ := Sf1 _ hSw
        go_simp
        exact hK.out _ _ ⟨hSw, by simp [hd]⟩
      refine Inv.Steps.cons rfl ?_ ?_
      · intro L a w' hI hL hd K hK
        obtain ⟨hSw, rfl⟩ := hI
        clear hd
        rw [if_pos (by rfl)]
        obtain ⟨⟨k0, k1, k2, k3, -, -, -, -, -⟩, k4, -⟩ := Sf0 _ hSw
        obtain ⟨⟨l0, l1, l2, l3, -, -, -, -, -⟩, l4, -⟩ := Sf1 _ hSw
        go_simp
        exact hK.out _ _ ⟨hSw, by simp⟩
      refine Inv.Steps.cons rfl ?_ ?_
      · intro L a w' hI hL hd K hK
        obtain ⟨hSw, rfl⟩ := hI
        simp [Region.binds] at hd
        simp only [hd, if_true]
        rw [if_pos (by rfl)]
        go_simp
        refine (hi1 _).mono ?_
        rintro e w6 ⟨rfl, hb6⟩
        exact hK.out _ _ ⟨Sn _ _ hSw hb6, by simp [hd]⟩
      refine Inv.Steps.cons rfl ?_ ?_
      · intro L a w' hI hL hd K hK
        obtain ⟨hSw, rfl⟩ := hI
        simp [Region.binds] at hd
        simp only [hd, if_true]
        rw [if_pos (by rfl)]
        go_simp
        exact hK.out _ _ ⟨hSw, by simp [hd]⟩
      refine Inv.Steps.cons rfl ?_ ?_
      · intro L a w' hI hL hd K hK
        obtain ⟨hSw, rfl⟩ := hI
        simp [Region.binds] at hd
        simp only [hd, if_true]
        rw [if_neg (Bool.eq_false_iff.1 (by rfl))]
        exact hK.out _ _ ⟨hSw, by simp [hd, Act.put]⟩
      refine Inv.Steps.cons rfl ?_ ?_
      · intro L a w' hI hL hd K hK
        obtain ⟨hSw, rfl⟩ := hI
        simp [Region.binds] at hd
        simp only [hd, if_true]
        rw [if_neg (Bool.eq_false_iff.1 (by rfl))]
        exact hK.out _ _ ⟨hSw, by simp [hd, Act.put]⟩
      refine Inv.Steps.cons rfl ?_ ?_
      · intro L a w' hI hL hd K hK
        obtain ⟨hSw, rfl⟩ := hI
        simp [Region.binds] at hd
        simp only [hd, if_true]
        rw [if_neg (Bool.eq_false_iff.1 (by rfl))]
        exact hK.out _ _ ⟨hSw, by simp [hd, Act.put]⟩
      refine Inv.Steps.cons rfl ?_ ?_
      · intro L a w' hI hL hd K hK
        obtain ⟨hSw, rfl⟩ := hI
        simp [Region.binds] at hd
        simp only [hd, if_true]
        rw [if_neg (Bool.eq_false_iff.1 (by rfl))]
        exact hK.out _ _ ⟨hSw, by simp [hd, Act.put]⟩
      refine Inv.Steps.cons rfl ?_ ?_
      · intro L a w' hI hL hd K hK
        obtain ⟨hSw, rfl⟩ := hI
        simp [Region.binds] at hd
        simp only [hd, if_true]
        rw [if_pos (by rfl)]
        go_simp
        exact hK.out _ _ ⟨hSw, by simp [hd]⟩
      refine Inv.Steps.cons rfl ?_ ?_
      · intro L a w' hI hL hd K hK
        obtain ⟨hSw, rfl⟩ := hI
        simp [Region.binds] at hd
        simp only [hd, if_true]
        rw [if_pos (by rfl)]
        go_simp
        exact hK.out _ _ ⟨hSw, by simp [hd]⟩
      exact Inv.Steps.nil (by decide)
    case done =>
      intro L a w' hI hall
      obtain ⟨hSw, rfl⟩ := hI
      simp only [hall, if_true]
      go_wp2_with fail
      go_ret
      exact ⟨rfl, Sb _ hSw⟩

set_option maxRecDepth 100000 in
set_option maxHeartbeats 2000000 in
theorem rwithin_b (n0 n1 n2 n3 b m0 m1 m2 m3 c x y f0 f1 f2 f3 t0 t1 t2 t3 k z0 z1 z2 z3 : Int) (u : Bool) (hx : 0 ≤ x) (hy : 0 ≤ y) (hy2 : y ≤ 4294967295) (hxy : x + (4294967295 - y) < 4294967296) (w : World)
    (hr : ∀ w, Calls Tryd.prog 20 #[(.agg #[.int .u8 n0, .int .u8 n1, .int .u8 n2, .int .u8 n3, .int .i64 b])] w fun e w' => e = .returned (.bool true) ∧ Below w.heap.size w w')
    (hr2 : ∀ w, Calls Tryd.prog 20 #[(.agg #[.int .u8 m0, .int .u8 m1, .int .u8 m2, .int .u8 m3, .int .i64 c])] w fun e w' => e = .returned (.bool true) ∧ Below w.heap.size w w')
    (hn1 : ∀ w, Calls Tryd.prog 16 #[(.agg #[.int .u8 n0, .int .u8 n1, .int .u8 n2, .int .u8 n3])] w fun e w' => e = .returned (.int .u32 x) ∧ Below w.heap.size w w')
    (ho1 : ∀ w, Calls Tryd.prog 15 #[.int .u32 4294967295] w fun e w' => e = .returned (.agg #[.int .u8 f0, .int .u8 f1, .int .u8 f2, .int .u8 f3]) ∧ Below w.heap.size w w')
    (hc1 : ∀ w, Calls Tryd.prog 17 #[(.agg #[.int .u8 f0, .int .u8 f1, .int .u8 f2, .int .u8 f3]), .int .i64 b] w fun e w' => e = .returned (.agg #[.int .u8 t0, .int .u8 t1, .int .u8 t2, .int .u8 t3, .int .i64 k]) ∧ Below w.heap.size w w')
    (hn2 : ∀ w, Calls Tryd.prog 16 #[(.agg #[.int .u8 t0, .int .u8 t1, .int .u8 t2, .int .u8 t3])] w fun e w' => e = .returned (.int .u32 y) ∧ Below w.heap.size w w')
    (hi1 : ∀ w, Calls Tryd.prog 22 #[(.agg #[.int .u8 n0, .int .u8 n1, .int .u8 n2, .int .u8 n3]), (.agg #[.int .u8 m0, .int .u8 m1, .int .u8 m2, .int .u8 m3, .int .i64 c])] w fun e w' => e = .returned (.bool true) ∧ Below w.heap.size w w')
    (ho2 : ∀ w, Calls Tryd.prog 15 #[.int .u32 (x + (4294967295 - y))] w fun e w' => e = .returned (.agg #[.int .u8 z0, .int .u8 z1, .int .u8 z2, .int .u8 z3]) ∧ Below w.heap.size w w')
    (hi2 : ∀ w, Calls Tryd.prog 22 #[(.agg #[.int .u8 z0, .int .u8 z1, .int .u8 z2, .int .u8 z3]), (.agg #[.int .u8 m0, .int .u8 m1, .int .u8 m2, .int .u8 m3, .int .i64 c])] w fun e w' => e = .returned (.bool u) ∧ Below w.heap.size w w') :
    Calls Tryd.prog 24 #[(.agg #[.int .u8 n0, .int .u8 n1, .int .u8 n2, .int .u8 n3, .int .i64 b]), (.agg #[.int .u8 m0, .int .u8 m1, .int .u8 m2, .int .u8 m3, .int .i64 c])] w fun e w' => e = .returned (.bool u) ∧ Below w.heap.size w w' := by
  obtain ⟨g, hg⟩ : ∃ g, g = w.heap.size := ⟨_, rfl⟩
  obtain ⟨h, hh⟩ : ∃ g, g = w.heap.size + 1 := ⟨_, rfl⟩
  obtain ⟨S, hS⟩ : ∃ S : World → Prop, S = fun w' => (Box5 w' g (.int .u8 n0) (.int .u8 n1) (.int .u8 n2) (.int .u8 n3) (.int .i64 b) ∧ Box5 w' h (.int .u8 m0) (.int .u8 m1) (.int .u8 m2) (.int .u8 m3) (.int .i64 c)) ∧ Below w.heap.size w w' := ⟨_, rfl⟩
  have Sn : ∀ w1 w2, S w1 → Below w1.heap.size w1 w2 → S w2 := fun w1 w2 h hb => by rw [hS] at h ⊢; exact ⟨⟨h.1.1.below hb, h.1.2.below hb⟩, bnext h.2 hb⟩
  have Sf0 : ∀ w1, S w1 → Box5 w1 g (.int .u8 n0) (.int .u8 n1) (.int .u8 n2) (.int .u8 n3) (.int .i64 b) := fun w1 h => by rw [hS] at h; exact h.1.1
  have Sf1 : ∀ w1, S w1 → Box5 w1 h (.int .u8 m0) (.int .u8 m1) (.int .u8 m2) (.int .u8 m3) (.int .i64 c) := fun w1 h => by rw [hS] at h; exact h.1.2
  have Sb : ∀ w1, S w1 → Below w.heap.size w w1 := fun w1 h => by rw [hS] at h; exact h.2
  have S0 : S ((w.alloc (.cells #[.int .u8 n0, .int .u8 n1, .int .u8 n2, .int .u8 n3, .int .i64 b] 28)).alloc (.cells #[.int .u8 m0, .int .u8 m1, .int .u8 m2, .int .u8 m3, .int .i64 c] 28)) := by rw [hS, hg, hh]; exact ⟨⟨(by simpa using ((new5 w _ _ _ _ _ _).alloc _)), (by simpa using (new5 (w.alloc _) _ _ _ _ _ _))⟩, (bal (bnew _ _) _)⟩
  clear hS
  have hw1 : IntKind.u32.wrap (4294967295 - y) = 4294967295 - y := by rw [IntKind.wrap_u32]; omega
  have hw2 : IntKind.u32.wrap (x + (4294967295 - y)) = x + (4294967295 - y) := by rw [IntKind.wrap_u32]; omega
  have hG := hg
  have hH := hh
  rw [hG] at Sf0
  rw [hH] at Sf1
  go_enter Tryd.func24, Tryd.ntmps24
  clear hg hh
  have HG : Hid (g = w.heap.size) := hG
  have HH : Hid (h = w.heap.size + 1) := hH
  clear hG hH
  go_wp2_with (first
    | (go_at_call 20; (with_reducible refine (hr _).mono ?_); rintro e w1 ⟨rfl, hb1⟩; have T1 := Sn _ _ S0 hb1; obtain ⟨⟨k0, k1, k2, k3, -, -, -, -, -⟩, k4, -⟩ := Sf0 _ T1; obtain ⟨⟨l0, l1, l2, l3, -, -, -, -, -⟩, l4, -⟩ := Sf1 _ T1)
    | (go_at_call 20; (with_reducible refine (hr2 _).mono ?_); rintro e w2 ⟨rfl, hb2⟩; have T2 := Sn _ _ T1 hb2; clear k0 k1 k2 k3 k4 l0 l1 l2 l3 l4))
  have S1 := Sn _ _ T2 (Below.refl _ _).drew
  rw [← HG.out] at Sf0
  rw [← HH.out] at Sf1
  rw [← HH.out, ← HG.out]
  clear HG HH S0 T1 T2
  refine Inv.region_inv (fun L a w' => S w' ∧ a = { tmps := #[(.agg #[.int .u8 n0, .int .u8 n1, .int .u8 n2, .int .u8 n3, .int .i64 b]), (.agg #[.int .u8 m0, .int .u8 m1, .int .u8 m2, .int .u8 m3, .int .i64 c]), (.pointer (some ⟨g, 0, none⟩)), (.pointer (some ⟨h, 0, none⟩)), (.bool false), (if L 11 = true then (.int .u32 (x + (4294967295 - y))) else undef), (.agg #[.int .u8 n0, .int .u8 n1, .int .u8 n2, .int .u8 n3, .int .i64 b]), (.bool true), (.bool false), (.bool false), (.agg #[.int .u8 m0, .int .u8 m1, .int .u8 m2, .int .u8 m3, .int .i64 c]), (.bool true), (.bool false), (.bool false), (if L 0 = true then (.pointer (some ⟨g, 0, none⟩)) else undef), (if L 1 = true then (.agg #[.int .u8 n0, .int .u8 n1, .int .u8 n2, .int .u8 n3]) else undef), (if L 2 = true then (.int .u32 x) else undef), (if L 3 = true then (.agg #[.int .u8 f0, .int .u8 f1, .int .u8 f2, .int .u8 f3]) else undef), (if L 4 = true then (.pointer (some ⟨g, 4, none⟩)) else undef), (if L 5 = true then (.int .i64 b) else undef), (if L 6 = true then (.agg #[.int .u8 t0, .int .u8 t1, .int .u8 t2, .int .u8 t3, .int .i64 k]) else undef), (if L 7 = true then (.agg #[.int .u8 t0, .int .u8 t1, .int .u8 t2, .int .u8 t3]) else undef), (if L 8 = true then (.int .u32 y) else undef), (if L 9 = true then (.int .u32 (4294967295 - y)) else undef), (if L 10 = true then (.int .u32 (x + (4294967295 - y))) else undef), undef, undef, undef, undef, undef, undef, undef, undef, undef, undef], defers := [] }) (by kernel_rfl) (by kernel_rfl) ?h0 ?step ?done
  case h0 => exact ⟨S1, by simp⟩
  case step =>
    refine Inv.Steps.cons rfl ?_ ?_
    · intro L a w' hI hL hd K hK
      obtain ⟨hSw, rfl⟩ := hI
      clear hd
      rw [if_pos (by rfl)]
      go_simp
      exact hK.out _ _ ⟨hSw, by simp⟩
    refine Inv.Steps.cons rfl ?_ ?_
    · intro L a w' hI hL hd K hK
      obtain ⟨hSw, rfl⟩ := hI
      simp [Region.binds] at hd
      simp only [hd, if_true]
      rw [if_pos (by rfl)]
      obtain ⟨⟨k0, k1, k2, k3, -, -, -, -, -⟩, k4, -⟩ := Sf0 _ hSw
      obtain ⟨⟨l0, l1, l2, l3, -, -, -, -, -⟩, l4, -⟩ := Sf1 _ hSw
      go_simp
      exact hK.out _ _ ⟨hSw, by simp [hd]⟩
    refine Inv.Steps.cons rfl ?_ ?_
    · intro L a w' hI hL hd K hK
      obtain ⟨hSw, rfl⟩ := hI
      simp [Region.binds] at hd
      simp only [hd, if_true]
      rw [if_pos (by rfl)]
      go_simp
      refine (hn1 _).mono ?_
      rintro e w6 ⟨rfl, hb6⟩
      exact hK.out _ _ ⟨Sn _ _ hSw hb6, by simp [hd]⟩
    refine Inv.Steps.cons rfl ?_ ?_
    · intro L a w' hI hL hd K hK
      obtain ⟨hSw, rfl⟩ := hI
      simp [Region.binds] at hd
      simp only [hd, if_true]
      rw [if_pos (by rfl)]
      go_simp
      refine (ho1 _).mono ?_
      rintro e w6 ⟨rfl, hb6⟩
      exact hK.out _ _ ⟨Sn _ _ hSw hb6, by simp [hd]⟩
    refine Inv.Steps.cons rfl ?_ ?_
    · intro L a w' hI hL hd K hK
      obtain ⟨hSw, rfl⟩ := hI
      clear hd
      rw [if_pos (by rfl)]
      go_simp
      exact hK.out _ _ ⟨hSw, by simp⟩
    refine Inv.Steps.cons rfl ?_ ?_
    · intro L a w' hI hL hd K hK
      obtain ⟨hSw, rfl⟩ := hI
      simp [Region.binds] at hd
      simp only [hd, if_true]
      rw [if_pos (by rfl)]
      obtain ⟨⟨k0, k1, k2, k3, -, -, -, -, -⟩, k4, -⟩ := Sf0 _ hSw
      obtain ⟨⟨l0, l1, l2, l3, -, -, -, -, -⟩, l4, -⟩ := Sf1 _ hSw
      go_simp
      exact hK.out _ _ ⟨hSw, by simp [hd]⟩
    refine Inv.Steps.cons rfl ?_ ?_
    · intro L a w' hI hL hd K hK
      obtain ⟨hSw, rfl⟩ := hI
      simp [Region.binds] at hd
      simp only [hd, if_true]
      rw [if_pos (by rfl)]
      go_simp
      refine (hc1 _).mono ?_
      rintro e w6 ⟨rfl, hb6⟩
      exact hK.out _ _ ⟨Sn _ _ hSw hb6, by simp [hd]⟩
    refine Inv.Steps.cons rfl ?_ ?_
    · intro L a w' hI hL hd K hK
      obtain ⟨hSw, rfl⟩ := hI
      simp [Region.binds] at hd
      simp only [hd, if_true]
      rw [if_pos (by rfl)]
      go_simp
      exact hK.out _ _ ⟨hSw, by simp [hd, size_adr, Act.put]⟩
    refine Inv.Steps.cons rfl ?_ ?_
    · intro L a w' hI hL hd K hK
      obtain ⟨hSw, rfl⟩ := hI
      simp [Region.binds] at hd
      simp only [hd, if_true]
      rw [if_pos (by rfl)]
      go_simp
      refine (hn2 _).mono ?_
      rintro e w6 ⟨rfl, hb6⟩
      exact hK.out _ _ ⟨Sn _ _ hSw hb6, by simp [hd]⟩
    refine Inv.Steps.cons rfl ?_ ?_
    · intro L a w' hI hL hd K hK
      obtain ⟨hSw, rfl⟩ := hI
      simp [Region.binds] at hd
      simp only [hd, if_true]
      rw [if_pos (by rfl)]
      go_simp
      exact hK.out _ _ ⟨hSw, by simp [hd]⟩
    refine Inv.Steps.cons rfl ?_ ?_
    · intro L a w' hI hL hd K hK
      obtain ⟨hSw, rfl⟩ := hI
      simp [Region.binds] at hd
      simp only [hd, if_true]
      rw [if_pos (by rfl)]
      go_simp
      exact hK.out _ _ ⟨hSw, by simp [hd]⟩
    refine Inv.Steps.cons rfl ?_ ?_
    · intro L a w' hI hL hd K hK
      obtain ⟨hSw, rfl⟩ := hI
      simp [Region.binds] at hd
      simp only [hd, if_true]
      rw [if_pos (by rfl)]
      go_simp
      exact hK.out _ _ ⟨hSw, by simp [hd]⟩
    exact Inv.Steps.nil (by decide)
  case done =>
    intro L a w' hI hall
    obtain ⟨hSw, rfl⟩ := hI
    simp only [hall, if_true]
    have S1 := Sn _ _ hSw (Below.refl _ _).drew
    go_wp2_with fail
    refine Inv.region_inv (fun L a w' => S w' ∧ a = { tmps := #[(.agg #[.int .u8 n0, .int .u8 n1, .int .u8 n2, .int .u8 n3, .int .i64 b]), (.agg #[.int .u8 m0, .int .u8 m1, .int .u8 m2, .int .u8 m3, .int .i64 c]), (.pointer (some ⟨g, 0, none⟩)), (.pointer (some ⟨h, 0, none⟩)), (if L 10 = true then (.bool u) else (.bool false)), (.int .u32 (x + (4294967295 - y))), (.agg #[.int .u8 n0, .int .u8 n1, .int .u8 n2, .int .u8 n3, .int .i64 b]), (.bool true), (.bool false), (.bool false), (.agg #[.int .u8 m0, .int .u8 m1, .int .u8 m2, .int .u8 m3, .int .i64 c]), (.bool true), (.bool false), (.bool false), (.pointer (some ⟨g, 0, none⟩)), (.agg #[.int .u8 n0, .int .u8 n1, .int .u8 n2, .int .u8 n3]), (.int .u32 x), (.agg #[.int .u8 f0, .int .u8 f1, .int .u8 f2, .int .u8 f3]), (.pointer (some ⟨g, 4, none⟩)), (.int .i64 b), (.agg #[.int .u8 t0, .int .u8 t1, .int .u8 t2, .int .u8 t3, .int .i64 k]), (.agg #[.int .u8 t0, .int .u8 t1, .int .u8 t2, .int .u8 t3]), (.int .u32 y), (.int .u32 (4294967295 - y)), (.int .u32 (x + (4294967295 - y))), (if L 0 = true then (.pointer (some ⟨g, 0, none⟩)) else undef), (if L 1 = true then (.agg #[.int .u8 n0, .int .u8 n1, .int .u8 n2, .int .u8 n3]) else undef), (if L 2 = true then (.agg #[.int .u8 m0, .int .u8 m1, .int .u8 m2, .int .u8 m3, .int .i64 c]) else undef), (if L 3 = true then (.bool true) else undef), (if L 4 = true then (.bool true) else undef), (if L 5 = true then (.int .u32 (x + (4294967295 - y))) else undef), (if L 6 = true then (.agg #[.int .u8 z0, .int .u8 z1, .int .u8 z2, .int .u8 z3]) else undef), (if L 7 = true then (.agg #[.int .u8 m0, .int .u8 m1, .int .u8 m2, .int .u8 m3, .int .i64 c]) else undef), (if L 8 = true then (.bool u) else undef), (if L 9 = true then (.bool u) else undef)], defers := [] }) (by kernel_rfl) (by kernel_rfl) ?h0 ?step ?done
    case h0 => exact ⟨S1, by simp⟩
    case step =>
      refine Inv.Steps.cons rfl ?_ ?_
      · intro L a w' hI hL hd K hK
        obtain ⟨hSw, rfl⟩ := hI
        clear hd
        rw [if_pos (by rfl)]
        go_simp
        exact hK.out _ _ ⟨hSw, by simp⟩
      refine Inv.Steps.cons rfl ?_ ?_
      · intro L a w' hI hL hd K hK
        obtain ⟨hSw, rfl⟩ := hI
        simp [Region.binds] at hd
        simp only [hd, if_true]
        rw [if_pos (by rfl)]
        obtain ⟨⟨k0, k1, k2, k3, -, -, -, -, -⟩, k4, -⟩ := Sf0 _ hSw
        obtain ⟨⟨l0, l1, l2, l3, -, -, -, -, -⟩, l4, -⟩ := Sf1 _ hSw
        go_simp
        exact hK.out _ _ ⟨hSw, by simp [hd]⟩
      refine Inv.Steps.cons rfl ?_ ?_
      · intro L a w' hI hL hd K hK
        obtain ⟨hSw, rfl⟩ := hI
        clear hd
        rw [if_pos (by rfl)]
        obtain ⟨⟨k0, k1, k2, k3, -, -, -, -, -⟩, k4, -⟩ := Sf0 _ hSw
        obtain ⟨⟨l0, l1, l2, l3, -, -, -, -, -⟩, l4, -⟩ := Sf1 _ hSw
        go_simp
        exact hK.out _ _ ⟨hSw, by simp⟩
      refine Inv.Steps.cons rfl ?_ ?_
      · intro L a w' hI hL hd K hK
        obtain ⟨hSw, rfl⟩ := hI
        simp [Region.binds] at hd
        simp only [hd, if_true]
        rw [if_pos (by rfl)]
        go_simp
        refine (hi1 _).mono ?_
        rintro e w6 ⟨rfl, hb6⟩
        exact hK.out _ _ ⟨Sn _ _ hSw hb6, by simp [hd]⟩
      refine Inv.Steps.cons rfl ?_ ?_
      · intro L a w' hI hL hd K hK
        obtain ⟨hSw, rfl⟩ := hI
        simp [Region.binds] at hd
        simp only [hd, if_true]
        rw [if_pos (by rfl)]
        go_simp
        exact hK.out _ _ ⟨hSw, by simp [hd]⟩
      refine Inv.Steps.cons rfl ?_ ?_
      · intro L a w' hI hL hd K hK
        obtain ⟨hSw, rfl⟩ := hI
        simp [Region.binds] at hd
        simp only [hd, if_true]
        rw [if_pos (by rfl)]
        go_simp
        exact hK.out _ _ ⟨hSw, by simp [hd]⟩
      refine Inv.Steps.cons rfl ?_ ?_
      · intro L a w' hI hL hd K hK
        obtain ⟨hSw, rfl⟩ := hI
        simp [Region.binds] at hd
        simp only [hd, if_true]
        rw [if_pos (by rfl)]
        go_simp
        refine (ho2 _).mono ?_
        rintro e w6 ⟨rfl, hb6⟩
        exact hK.out _ _ ⟨Sn _ _ hSw hb6, by simp [hd]⟩
      refine Inv.Steps.cons rfl ?_ ?_
      · intro L a w' hI hL hd K hK
        obtain ⟨hSw, rfl⟩ := hI
        simp [Region.binds] at hd
        simp only [hd, if_true]
        rw [if_pos (by rfl)]
        obtain ⟨⟨k0, k1, k2, k3, -, -, -, -, -⟩, k4, -⟩ := Sf0 _ hSw
        obtain ⟨⟨l0, l1, l2, l3, -, -, -, -, -⟩, l4, -⟩ := Sf1 _ hSw
        go_simp
        exact hK.out _ _ ⟨hSw, by simp [hd]⟩
      refine Inv.Steps.cons rfl ?_ ?_
      · intro L a w' hI hL hd K hK
        obtain ⟨hSw, rfl⟩ := hI
        simp [Region.binds] at hd
        simp only [hd, if_true]
        rw [if_pos (by rfl)]
        go_simp
        refine (hi2 _).mono ?_
        rintro e w6 ⟨rfl, hb6⟩
        exact hK.out _ _ ⟨Sn _ _ hSw hb6, by simp [hd]⟩
      refine Inv.Steps.cons rfl ?_ ?_
      · intro L a w' hI hL hd K hK
        obtain ⟨hSw, rfl⟩ := hI
        simp [Region.binds] at hd
        simp only [hd, if_true]
        rw [if_pos (by rfl)]
        go_simp
        exact hK.out _ _ ⟨hSw, by simp [hd]⟩
      refine Inv.Steps.cons rfl ?_ ?_
      · intro L a w' hI hL hd K hK
        obtain ⟨hSw, rfl⟩ := hI
        simp [Region.binds] at hd
        simp only [hd, if_true]
        rw [if_pos (by rfl)]
        go_simp
        exact hK.out _ _ ⟨hSw, by simp [hd]⟩
      exact Inv.Steps.nil (by decide)
    case done =>
      intro L a w' hI hall
      obtain ⟨hSw, rfl⟩ := hI
      simp only [hall, if_true]
      go_wp2_with fail
      go_ret
      exact ⟨rfl, Sb _ hSw⟩

theorem ref_Within (N : Nat) (hN : N < 4294967296) (b : Int) (M : Nat) (hM : M < 4294967296) (c : Int) (w : World) :
    Calls Tryd.prog 24 #[net N b, net M c] w fun e w' => e = .returned (.bool (withinN N b M c)) ∧ Below w.heap.size w w' := by
  have hr := fun w => ref_Right N hN b w
  have hr2 := fun w => ref_Right M hM c w
  cases hv : rightN N b with
  | false =>
    rw [hv] at hr
    have e : withinN N b M c = false := by rw [withinN, hv, Bool.false_and, Bool.false_and]
    rw [e]
    exact rwithin_no1 (b0 N) (b1 N) (b2 N) (b3 N) b (b0 M) (b1 M) (b2 M) (b3 M) c w hr
  | true =>
    rw [hv] at hr
    cases hu : rightN M c with
    | false =>
      rw [hu] at hr2
      have e : withinN N b M c = false := by rw [withinN, inN, hu, Bool.false_and, Bool.and_false, Bool.false_and]
      rw [e]
      exact rwithin_no2 (b0 N) (b1 N) (b2 N) (b3 N) b (b0 M) (b1 M) (b2 M) (b3 M) c w hr hr2
    | true =>
      rw [hu] at hr2
      obtain ⟨i, hi, rfl, hni⟩ := right_iff.1 hv
      obtain ⟨j, hj, rfl, hmj⟩ := right_iff.1 hu
      have hlt := lastN_lt hN hi hni
      have hn1 := fun w => ref_Num N hN w
      have ho1 := fun w => ref_Of 4294967295 (by decide) w
      have hc1 := fun w => ref_Cut 4294967295 (by decide) (i : Int) w
      rw [held_nat hi] at hc1
      have hn2 := fun w => ref_Num (cutN 4294967295 i) (cutN_lt (by decide) i) w
      have hi1 := fun w => ref_In N hN M hM (j : Int) w
      have ho2 := fun w => ref_Of (lastN N i) hlt w
      have hi2 := fun w => ref_In (lastN N i) hlt M hM (j : Int) w
      have hle : cutN 4294967295 i ≤ 4294967295 := cutN_le _ _
      have el : ((lastN N i : Nat) : Int) = (N : Int) + (4294967295 - ((cutN 4294967295 i : Nat) : Int)) := by unfold lastN; omega
      rw [el] at ho2
      have hb : (N : Int) + (4294967295 - ((cutN 4294967295 i : Nat) : Int)) < 4294967296 := by rw [← el]; omega
      have key : withinN N i M j = (inN N M j && inN (lastN N i) M j) := by
        have h1 : inN N M j = decide (cutN N j = M) := by rw [inN, hu, held_nat hj, Bool.true_and]
        have h2 : inN (lastN N i) M j = decide (cutN (lastN N i) j = M) := by rw [inN, hu, held_nat hj, Bool.true_and]
        rw [withinN, hv, h1, h2, Bool.true_and, ← Bool.decide_and, ← Bool.decide_and]
        have := ends_iff (M := M) hi hj hni
        rw [decide_eq_decide, this]
        constructor
        · rintro ⟨h, h'⟩; exact ⟨h, by omega⟩
        · rintro ⟨h, h'⟩; exact ⟨h, by omega⟩
      rw [key]
      cases hq : inN N M j with
      | false =>
        rw [hq] at hi1
        exact rwithin_a (b0 N) (b1 N) (b2 N) (b3 N) i (b0 M) (b1 M) (b2 M) (b3 M) j N (cutN 4294967295 i : Nat) _ _ _ _ _ _ _ _ _ _ _ _ _ _ (by omega) (by omega) (by omega) hb w hr hr2 hn1 ho1 hc1 hn2 hi1 ho2 hi2
      | true =>
        rw [hq] at hi1
        rw [Bool.true_and]
        exact rwithin_b (b0 N) (b1 N) (b2 N) (b3 N) i (b0 M) (b1 M) (b2 M) (b3 M) j N (cutN 4294967295 i : Nat) _ _ _ _ _ _ _ _ _ _ _ _ _ _ (by omega) (by omega) (by omega) hb w hr hr2 hn1 ho1 hc1 hn2 hi1 ho2 hi2
end Go.Proofs.YtpekkmnomfeglaaDoor.Addr
