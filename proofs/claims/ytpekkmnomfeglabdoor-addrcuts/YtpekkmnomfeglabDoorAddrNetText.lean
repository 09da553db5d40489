/-
  The text of a network.
-/
import Derived.Test.YtpekkmnomfeglabDoorAddrRead
import Derived.Laws.Concat
namespace Go.Proofs.YtpekkmnomfeglabDoor.Addr
open Go.RowKit Go.Proofs.YtpekkmnomfeglabDoor.Mem

theorem nettext_no (n0 n1 n2 n3 b : Int) (w : World)
    (hr : ∀ w, Calls Tryd.prog 12 #[(.agg #[.int .u8 n0, .int .u8 n1, .int .u8 n2, .int .u8 n3, .int .i64 b])] w fun e w' => e = .returned (.bool false) ∧ Below w.heap.size w w') :
    Calls Tryd.prog 11 #[(.agg #[.int .u8 n0, .int .u8 n1, .int .u8 n2, .int .u8 n3, .int .i64 b])] w fun e w' => e = .returned (.string ⟨#[]⟩) ∧ Below w.heap.size w w' := by
  go_enter Tryd.func11, Tryd.ntmps11
  go_wp2_with (go_at_call 12; refine (hr _).mono ?_; rintro e w1 ⟨rfl, hb1⟩)
  go_ret
  exact ⟨rfl, bnext (bnew w _) hb1⟩
set_option maxRecDepth 100000 in
theorem nettext_yes (n0 n1 n2 n3 b : Int) (s s1 u t : ByteArray) (w : World) (hF : Fact w)
    (cat1 : ∀ w, (Op.stringOp .add s ⟨#[47]⟩).run Tryd.prog w = .ok (.string s1) w) (cat2 : ∀ w, (Op.stringOp .add s1 u).run Tryd.prog w = .ok (.string t) w)
    (hr : ∀ w, Calls Tryd.prog 12 #[(.agg #[.int .u8 n0, .int .u8 n1, .int .u8 n2, .int .u8 n3, .int .i64 b])] w fun e w' => e = .returned (.bool true) ∧ Below w.heap.size w w')
    (ht : ∀ w, Fact w → Calls Tryd.prog 17 #[(.agg #[.int .u8 n0, .int .u8 n1, .int .u8 n2, .int .u8 n3])] w fun e w' => e = .returned (.string s) ∧ Below w.heap.size w w')
    (hi : ∀ w, Fact w → Calls Tryd.prog 18 #[.int .i64 b] w fun e w' => e = .returned (.string u) ∧ Below w.heap.size w w') :
    Calls Tryd.prog 11 #[(.agg #[.int .u8 n0, .int .u8 n1, .int .u8 n2, .int .u8 n3, .int .i64 b])] w fun e w' => e = .returned (.string t) ∧ Below w.heap.size w w' := by
  obtain ⟨g, hg⟩ : ∃ g, g = w.heap.size := ⟨_, rfl⟩
  obtain ⟨S, hS⟩ : ∃ S : World → Prop, S = fun w' => (Box5 w' g (.int .u8 n0) (.int .u8 n1) (.int .u8 n2) (.int .u8 n3) (.int .i64 b) ∧ Fact w') ∧ Below w.heap.size w w' := ⟨_, rfl⟩
  have Sn : ∀ w1 w2, S w1 → Below w1.heap.size w1 w2 → S w2 := fun w1 w2 h hb => by rw [hS] at h ⊢; exact ⟨⟨h.1.1.below hb, h.1.2.below hb⟩, bnext h.2 hb⟩
  have Sf : ∀ w1, S w1 → Box5 w1 g (.int .u8 n0) (.int .u8 n1) (.int .u8 n2) (.int .u8 n3) (.int .i64 b) := fun w1 h => by rw [hS] at h; exact h.1.1
  have SF : ∀ w1, S w1 → Fact w1 := fun w1 h => by rw [hS] at h; exact h.1.2
  have Sb : ∀ w1, S w1 → Below w.heap.size w w1 := fun w1 h => by rw [hS] at h; exact h.2
  have S0 : S (w.alloc (.cells #[.int .u8 n0, .int .u8 n1, .int .u8 n2, .int .u8 n3, .int .i64 b] 27)) := by rw [hS, hg]; exact ⟨⟨new5 _ _ _ _ _ _ _, hF.below (bnew _ _)⟩, bnew _ _⟩
  clear hS
  go_enter Tryd.func11, Tryd.ntmps11
  go_wp2_with (go_at_call 12; refine (hr _).mono ?_; rintro e w1 ⟨rfl, hb1⟩; have S1 := Sn _ _ (Sn _ _ S0 hb1) (Below.refl _ _).drew)
  rw [← hg]
  clear hg S0
  refine Inv.region_inv (fun L a w' => S w' ∧ a = { tmps := #[(.agg #[.int .u8 n0, .int .u8 n1, .int .u8 n2, .int .u8 n3, .int .i64 b]), (.pointer (some ⟨g, 0, none⟩)), (if L 8 = true then (.string t) else (.string ⟨#[]⟩)), (.agg #[.int .u8 n0, .int .u8 n1, .int .u8 n2, .int .u8 n3, .int .i64 b]), (.bool true), (.bool false), (if L 0 = true then (.pointer (some ⟨g, 0, none⟩)) else undef), (if L 1 = true then (.agg #[.int .u8 n0, .int .u8 n1, .int .u8 n2, .int .u8 n3]) else undef), (if L 2 = true then (.string s) else undef), (if L 3 = true then (.string s1) else undef), (if L 4 = true then (.pointer (some ⟨g, 4, none⟩)) else undef), (if L 5 = true then (.int .i64 b) else undef), (if L 6 = true then (.string u) else undef), (if L 7 = true then (.string t) else undef)], defers := [] }) (by kernel_rfl) (by kernel_rfl) ?h0 ?step ?done
  case h0 => exact ⟨S1, by simp⟩
  case step =>
    refine Inv.Steps.cons rfl ?_ ?_
    · intro L a w' hI hL hd K hK
      obtain ⟨hSw, rfl⟩ := hI
      clear hd
      rw [if_pos (by rfl)]
      go_simp
      exact hK.out _ _ ⟨hSw, by simp⟩
    refine Inv.Steps.cons rfl ?_ ?_
    · intro L a w' hI hL hd K hK
      obtain ⟨hSw, rfl⟩ := hI
      simp [Region.binds] at hd
      simp only [hd, if_true]
      rw [if_pos (by rfl)]
      obtain ⟨⟨k0, k1, k2, k3, -, -, -, -, -⟩, k4, -⟩ := Sf _ hSw
      go_simp
      exact hK.out _ _ ⟨hSw, by simp [hd]⟩
    refine Inv.Steps.cons rfl ?_ ?_
    · intro L a w' hI hL hd K hK
      obtain ⟨hSw, rfl⟩ := hI
      simp [Region.binds] at hd
      simp only [hd, if_true]
      rw [if_pos (by rfl)]
      go_simp
      refine (ht _ (SF _ hSw)).mono ?_
      rintro e w6 ⟨rfl, hb6⟩
      exact hK.out _ _ ⟨Sn _ _ hSw hb6, by simp [hd]⟩
    refine Inv.Steps.cons rfl ?_ ?_
    · intro L a w' hI hL hd K hK
      obtain ⟨hSw, rfl⟩ := hI
      simp [Region.binds] at hd
      simp only [hd, if_true]
      rw [if_pos (by rfl)]
      have hcat := cat1 w'
      go_simp
      exact hK.out _ _ ⟨hSw, by simp [hd]⟩
    refine Inv.Steps.cons rfl ?_ ?_
    · intro L a w' hI hL hd K hK
      obtain ⟨hSw, rfl⟩ := hI
      clear hd
      rw [if_pos (by rfl)]
      go_simp
      exact hK.out _ _ ⟨hSw, by simp⟩
    refine Inv.Steps.cons rfl ?_ ?_
    · intro L a w' hI hL hd K hK
      obtain ⟨hSw, rfl⟩ := hI
      simp [Region.binds] at hd
      simp only [hd, if_true]
      rw [if_pos (by rfl)]
      obtain ⟨⟨k0, k1, k2, k3, -, -, -, -, -⟩, k4, -⟩ := Sf _ hSw
      go_simp
      exact hK.out _ _ ⟨hSw, by simp [hd]⟩
    refine Inv.Steps.cons rfl ?_ ?_
    · intro L a w' hI hL hd K hK
      obtain ⟨hSw, rfl⟩ := hI
      simp [Region.binds] at hd
      simp only [hd, if_true]
      rw [if_pos (by rfl)]
      go_simp
      refine (hi _ (SF _ hSw)).mono ?_
      rintro e w6 ⟨rfl, hb6⟩
      exact hK.out _ _ ⟨Sn _ _ hSw hb6, by simp [hd]⟩
    refine Inv.Steps.cons rfl ?_ ?_
    · intro L a w' hI hL hd K hK
      obtain ⟨hSw, rfl⟩ := hI
      simp [Region.binds] at hd
      simp only [hd, if_true]
      rw [if_pos (by rfl)]
      have hcat := cat2 w'
      go_simp
      exact hK.out _ _ ⟨hSw, by simp [hd]⟩
    refine Inv.Steps.cons rfl ?_ ?_
    · intro L a w' hI hL hd K hK
      obtain ⟨hSw, rfl⟩ := hI
      simp [Region.binds] at hd
      simp only [hd, if_true]
      rw [if_pos (by rfl)]
      go_simp
      exact hK.out _ _ ⟨hSw, by simp [hd]⟩
    exact Inv.Steps.nil (by decide)
  case done =>
    intro L a w' hI hall
    obtain ⟨hSw, rfl⟩ := hI
    simp only [hall, if_true]
    go_wp2_with fail
    go_ret
    exact ⟨rfl, Sb _ hSw⟩

theorem bs_append (a b : List UInt8) : bs a ++ bs b = bs (a ++ b) := by
  apply ByteArray.ext
  simp [bs]
/-- The text of a network, as a list of bytes. -/
def ntxt (N : Nat) (b : Int) : List UInt8 := if rightN N b = true then netTxt N b.toNat else []
theorem addr_NetText (N : Nat) (hN : N < 4294967296) (b : Int) (w : World) (hF : Fact w) :
    Calls Tryd.prog 11 #[net N b] w fun e w' => e = .returned (.string (bs (ntxt N b))) ∧ Below w.heap.size w w' := by
  unfold ntxt
  by_cases h : rightN N b = true
  · obtain ⟨k, hk, rfl, -⟩ := right_iff.1 h
    rw [if_pos h]
    have hr := fun w => addr_Right N hN (k : Int) w
    rw [h] at hr
    have hi : ∀ w, Fact w → Calls Tryd.prog 18 #[.int .i64 (k : Int)] w fun e w' => e = .returned (.string (bs (dec3 k))) ∧ Below w.heap.size w w' := fun w hF => by
      have := itoa_any (k : Int) ⟨by omega, by omega⟩ w hF
      rwa [itoa_dec3 (by omega)] at this
    have ht := txt_len N
    have hd := dec3_pos k
    have e : bs (txt N ++ [47]) ++ bs (dec3 k) = bs (netTxt N k) := by
      rw [bs_append]
      simp [netTxt]
    exact nettext_yes (b0 N) (b1 N) (b2 N) (b3 N) (k : Int) (bs (txt N)) (bs (txt N ++ [47])) (bs (dec3 k)) (bs (netTxt N k)) w hF (fun w => by rw [← bs_append]; exact run_string_add_sum w (bs (txt N)) (bs [47]) (by rw [bs_size, bs_size]; simp; omega))
      (fun w => by rw [← e]; exact run_string_add_sum w _ _ (by rw [bs_size, bs_size]; simp; omega)) hr (fun w hF => addr_Text N w hF) hi
  · rw [if_neg h]
    have hr := fun w => addr_Right N hN b w
    rw [Bool.not_eq_true] at h
    rw [h] at hr
    exact nettext_no (b0 N) (b1 N) (b2 N) (b3 N) b w hr
end Go.Proofs.YtpekkmnomfeglabDoor.Addr
