/-
  Which networks are right, what is in them: Right, In, Within.
-/
import Derived.Test.YtnaofcggdjbocaaAddrEq
import Derived.Test.YtnaofcggdjbocaaInvB
namespace Go.Proofs.Ytnaofcggdjbocaa.Addr
open Go.RowKit Go.Proofs.Ytnaofcggdjbocaa.Mem

theorem guard_adr : Try.prog.eqGuardType Try.prog.depth 43 = false := by kernel_rfl
theorem size_adr (h : 43 < Try.prog.types.size) : (Try.prog.types[43]'h).size = 4 := by
  have e : (Try.prog.types[43]?).map (·.size) = some 4 := by kernel_rfl
  rw [Array.getElem?_eq_getElem h] at e
  simpa using e
theorem guard_net : Try.prog.eqGuardType Try.prog.depth 45 = false := by kernel_rfl

set_option maxRecDepth 100000 in
theorem right_core (n0 n1 n2 n3 b r0 r1 r2 r3 k : Int) (v : Bool) (w : World)
    (hc : ∀ w, Calls Try.prog 91 #[(.agg #[.int .u8 n0, .int .u8 n1, .int .u8 n2, .int .u8 n3]), .int .i64 b] w fun e w' => e = .returned (.agg #[.int .u8 r0, .int .u8 r1, .int .u8 r2, .int .u8 r3, .int .i64 k]) ∧ Below w.heap.size w w')
    (he : ∀ w, (Op.equalIn 10000 45 (.agg #[.int .u8 r0, .int .u8 r1, .int .u8 r2, .int .u8 r3, .int .i64 k]) (.agg #[.int .u8 n0, .int .u8 n1, .int .u8 n2, .int .u8 n3, .int .i64 b])).run Try.prog w = .ok v w) :
    Calls Try.prog 83 #[(.agg #[.int .u8 n0, .int .u8 n1, .int .u8 n2, .int .u8 n3, .int .i64 b])] w fun e w' => e = .returned (.bool v) ∧ Below w.heap.size w w' := by
  have hgd := guard_net
  obtain ⟨g, hg⟩ : ∃ g, g = w.heap.size := ⟨_, rfl⟩
  obtain ⟨S, hS⟩ : ∃ S : World → Prop, S = fun w' => Box5 w' g (.int .u8 n0) (.int .u8 n1) (.int .u8 n2) (.int .u8 n3) (.int .i64 b) ∧ Below w.heap.size w w' := ⟨_, rfl⟩
  have Sn : ∀ w1 w2, S w1 → Below w1.heap.size w1 w2 → S w2 := fun w1 w2 h hb => by rw [hS] at h ⊢; exact ⟨h.1.below hb, bnext h.2 hb⟩
  have Sf : ∀ w1, S w1 → Box5 w1 g (.int .u8 n0) (.int .u8 n1) (.int .u8 n2) (.int .u8 n3) (.int .i64 b) := fun w1 h => by rw [hS] at h; exact h.1
  have Sb : ∀ w1, S w1 → Below w.heap.size w w1 := fun w1 h => by rw [hS] at h; exact h.2
  have S0 : S (w.alloc (.cells #[.int .u8 n0, .int .u8 n1, .int .u8 n2, .int .u8 n3, .int .i64 b] 45)) := by rw [hS, hg]; exact ⟨new5 _ _ _ _ _ _ _, bnew _ _⟩
  have S1 := Sn _ _ S0 (Below.refl _ _).drew
  clear hS S0
  go_enter Try.func83, Try.ntmps83
  go_wp2_with fail
  rw [← hg]
  clear hg
  refine Inv.region_inv (fun L a w' => S w' ∧ a = { tmps := #[(.agg #[.int .u8 n0, .int .u8 n1, .int .u8 n2, .int .u8 n3, .int .i64 b]), (.pointer (some ⟨g, 0, none⟩)), (if L 7 = true then (.bool v) else (.bool false)), (if L 0 = true then (.pointer (some ⟨g, 0, none⟩)) else undef), (if L 1 = true then (.agg #[.int .u8 n0, .int .u8 n1, .int .u8 n2, .int .u8 n3]) else undef), (if L 2 = true then (.pointer (some ⟨g, 4, none⟩)) else undef), (if L 3 = true then (.int .i64 b) else undef), (if L 4 = true then (.agg #[.int .u8 r0, .int .u8 r1, .int .u8 r2, .int .u8 r3, .int .i64 k]) else undef), (if L 5 = true then (.agg #[.int .u8 n0, .int .u8 n1, .int .u8 n2, .int .u8 n3, .int .i64 b]) else undef), (if L 6 = true then (.bool v) else undef)], defers := [] }) (by kernel_rfl) (by kernel_rfl) ?h0 ?step ?done
  case h0 => exact ⟨S1, by simp⟩
  case step =>
    refine Inv.Steps.cons rfl ?_ ?_
    · intro L a w' hI hL hd K hK
      obtain ⟨hSw, rfl⟩ := hI
      clear hd
      rw [if_pos (by rfl)]
      go_simp
      exact hK.out _ _ ⟨hSw, by simp⟩
    refine Inv.Steps.cons rfl ?_ ?_
    · intro L a w' hI hL hd K hK
      obtain ⟨hSw, rfl⟩ := hI
      simp [Region.binds] at hd
      simp only [hd, if_true]
      rw [if_pos (by rfl)]
      obtain ⟨⟨k0, k1, k2, k3, -, -, -, -, -⟩, k4, -⟩ := Sf _ hSw
      go_simp
      exact hK.out _ _ ⟨hSw, by simp [hd]⟩
    refine Inv.Steps.cons rfl ?_ ?_
    · intro L a w' hI hL hd K hK
      obtain ⟨hSw, rfl⟩ := hI
      clear hd
      rw [if_pos (by rfl)]
      go_simp
      exact hK.out _ _ ⟨hSw, by simp⟩
    refine Inv.Steps.cons rfl ?_ ?_
    · intro L a w' hI hL hd K hK
      obtain ⟨hSw, rfl⟩ := hI
      simp [Region.binds] at hd
      simp only [hd, if_true]
      rw [if_pos (by rfl)]
      obtain ⟨⟨k0, k1, k2, k3, -, -, -, -, -⟩, k4, -⟩ := Sf _ hSw
      go_simp
      exact hK.out _ _ ⟨hSw, by simp [hd]⟩
    refine Inv.Steps.cons rfl ?_ ?_
    · intro L a w' hI hL hd K hK
      obtain ⟨hSw, rfl⟩ := hI
      simp [Region.binds] at hd
      simp only [hd, if_true]
      rw [if_pos (by rfl)]
      go_simp
      refine (hc _).mono ?_
      rintro e w6 ⟨rfl, hb6⟩
      exact hK.out _ _ ⟨Sn _ _ hSw hb6, by simp [hd]⟩
    refine Inv.Steps.cons rfl ?_ ?_
    · intro L a w' hI hL hd K hK
      obtain ⟨hSw, rfl⟩ := hI
      clear hd
      rw [if_pos (by rfl)]
      obtain ⟨⟨k0, k1, k2, k3, -, -, -, -, -⟩, k4, -⟩ := Sf _ hSw
      go_simp
      exact hK.out _ _ ⟨hSw, by simp⟩
    refine Inv.Steps.cons rfl ?_ ?_
    · intro L a w' hI hL hd K hK
      obtain ⟨hSw, rfl⟩ := hI
      simp [Region.binds] at hd
      simp only [hd, if_true]
      rw [if_pos (by rfl)]
      have he6 := he w'
      go_simp
      exact hK.out _ _ ⟨hSw, by simp [hd]⟩
    refine Inv.Steps.cons rfl ?_ ?_
    · intro L a w' hI hL hd K hK
      obtain ⟨hSw, rfl⟩ := hI
      simp [Region.binds] at hd
      simp only [hd, if_true]
      rw [if_pos (by rfl)]
      go_simp
      exact hK.out _ _ ⟨hSw, by simp [hd]⟩
    exact Inv.Steps.nil (by decide)
  case done =>
    intro L a w' hI hall
    obtain ⟨hSw, rfl⟩ := hI
    simp only [hall, if_true]
    go_wp2_with fail
    go_ret
    exact ⟨rfl, Sb _ hSw⟩

theorem addr_Right (N : Nat) (hN : N < 4294967296) (b : Int) (w : World) :
    Calls Try.prog 83 #[net N b] w fun e w' => e = .returned (.bool (rightN N b)) ∧ Below w.heap.size w w' := by
  have h := right_core (b0 N) (b1 N) (b2 N) (b3 N) b (b0 (cutN N (held b))) (b1 (cutN N (held b))) (b2 (cutN N (held b))) (b3 (cutN N (held b))) (held b) (rightN N b) w (fun w => addr_Cut N hN b w)
    (fun w => by rw [rightN, Bool.and_comm]; exact eq_net (cutN_lt hN _) hN w)
  exact h



end Go.Proofs.Ytnaofcggdjbocaa.Addr
