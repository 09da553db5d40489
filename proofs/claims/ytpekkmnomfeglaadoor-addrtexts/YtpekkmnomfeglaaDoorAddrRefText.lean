/-
  The document's texts: Text, NetText, Parse, ParseNet.
-/
import Derived.Test.YtpekkmnomfeglaaDoorAddrRefNum
namespace Go.Proofs.YtpekkmnomfeglaaDoor.Addr
open Go.RowKit Go.Proofs.YtpekkmnomfeglaaDoor.Mem

set_option maxRecDepth 100000 in
theorem rtext_core (a0 a1 a2 a3 : Int) (q0 : Byte a0) (q1 : Byte a1) (q2 : Byte a2) (q3 : Byte a3) (s0 s1 s2 s3 t1 t2 t3 t4 t5 t6 : ByteArray) (w : World)
    (d0 : ∀ w, Calls Tryd.prog 39 #[.int .i64 a0] w fun e w' => e = .returned (.string s0) ∧ w' = w)
    (d1 : ∀ w, Calls Tryd.prog 39 #[.int .i64 a1] w fun e w' => e = .returned (.string s1) ∧ w' = w)
    (d2 : ∀ w, Calls Tryd.prog 39 #[.int .i64 a2] w fun e w' => e = .returned (.string s2) ∧ w' = w)
    (d3 : ∀ w, Calls Tryd.prog 39 #[.int .i64 a3] w fun e w' => e = .returned (.string s3) ∧ w' = w)
    (k1 : ∀ w, (Op.stringOp .add s0 ⟨#[46]⟩).run Tryd.prog w = .ok (.string t1) w)
    (k2 : ∀ w, (Op.stringOp .add t1 s1).run Tryd.prog w = .ok (.string t2) w)
    (k3 : ∀ w, (Op.stringOp .add t2 ⟨#[46]⟩).run Tryd.prog w = .ok (.string t3) w)
    (k4 : ∀ w, (Op.stringOp .add t3 s2).run Tryd.prog w = .ok (.string t4) w)
    (k5 : ∀ w, (Op.stringOp .add t4 ⟨#[46]⟩).run Tryd.prog w = .ok (.string t5) w)
    (k6 : ∀ w, (Op.stringOp .add t5 s3).run Tryd.prog w = .ok (.string t6) w) :
    Calls Tryd.prog 28 #[(.agg #[.int .u8 a0, .int .u8 a1, .int .u8 a2, .int .u8 a3])] w fun e w' => e = .returned (.string t6) ∧ Below w.heap.size w w' := by
  obtain ⟨q0, p0⟩ := q0; obtain ⟨q1, p1⟩ := q1; obtain ⟨q2, p2⟩ := q2; obtain ⟨q3, p3⟩ := q3
  have hw0 : IntKind.i64.wrap a0 = a0 := by rw [IntKind.wrap_i64]; omega
  have hw1 : IntKind.i64.wrap a1 = a1 := by rw [IntKind.wrap_i64]; omega
  have hw2 : IntKind.i64.wrap a2 = a2 := by rw [IntKind.wrap_i64]; omega
  have hw3 : IntKind.i64.wrap a3 = a3 := by rw [IntKind.wrap_i64]; omega
  obtain ⟨g, hg⟩ : ∃ g, g = w.heap.size := ⟨_, rfl⟩
  obtain ⟨S, hS⟩ : ∃ S : World → Prop, S = fun w' => (Box4 w' g (.int .u8 a0) (.int .u8 a1) (.int .u8 a2) (.int .u8 a3)) ∧ Below w.heap.size w w' := ⟨_, rfl⟩
  have Sn : ∀ w1 w2, S w1 → Below w1.heap.size w1 w2 → S w2 := fun w1 w2 h hb => by rw [hS] at h ⊢; exact ⟨h.1.below hb, bnext h.2 hb⟩
  have Sf0 : ∀ w1, S w1 → Box4 w1 g (.int .u8 a0) (.int .u8 a1) (.int .u8 a2) (.int .u8 a3) := fun w1 h => by rw [hS] at h; exact h.1
  have Sb : ∀ w1, S w1 → Below w.heap.size w w1 := fun w1 h => by rw [hS] at h; exact h.2
  have S0 : S (w.alloc (.cells #[.int .u8 a0, .int .u8 a1, .int .u8 a2, .int .u8 a3] 23)) := by rw [hS, hg]; exact ⟨(by simpa using (new4 w _ _ _ _ _)), (bnew _ _)⟩
  clear hS
  have S1 := Sn _ _ S0 (Below.refl _ _).drew
  clear S0
  go_enter Tryd.func28, Tryd.ntmps28
  go_wp2_with fail
  rw [← hg]
  clear hg
  refine Inv.region_inv (fun L a w' => S w' ∧ a = { tmps := #[(.agg #[.int .u8 a0, .int .u8 a1, .int .u8 a2, .int .u8 a3]), (.pointer (some ⟨g, 0, none⟩)), (if L 22 = true then (.string t6) else (.string ⟨#[]⟩)), (if L 0 = true then (.pointer (some ⟨g, 0, none⟩)) else undef), (if L 1 = true then (.int .u8 a0) else undef), (if L 2 = true then (.int .i64 a0) else undef), (if L 3 = true then (.string s0) else undef), (if L 4 = true then (.string t1) else undef), (if L 5 = true then (.pointer (some ⟨g, 1, none⟩)) else undef), (if L 6 = true then (.int .u8 a1) else undef), (if L 7 = true then (.int .i64 a1) else undef), (if L 8 = true then (.string s1) else undef), (if L 9 = true then (.string t2) else undef), (if L 10 = true then (.string t3) else undef), (if L 11 = true then (.pointer (some ⟨g, 2, none⟩)) else undef), (if L 12 = true then (.int .u8 a2) else undef), (if L 13 = true then (.int .i64 a2) else undef), (if L 14 = true then (.string s2) else undef), (if L 15 = true then (.string t4) else undef), (if L 16 = true then (.string t5) else undef), (if L 17 = true then (.pointer (some ⟨g, 3, none⟩)) else undef), (if L 18 = true then (.int .u8 a3) else undef), (if L 19 = true then (.int .i64 a3) else undef), (if L 20 = true then (.string s3) else undef), (if L 21 = true then (.string t6) else undef)], defers := [] }) (by kernel_rfl) (by kernel_rfl) ?h0 ?step ?done
  case h0 => exact ⟨S1, by simp⟩
  case step =>
    refine Inv.Steps.cons rfl ?_ ?_
    · intro L a w' hI hL hd K hK
      obtain ⟨hSw, rfl⟩ := hI
      clear hd
      rw [if_pos (by rfl)]
      go_simp
      exact hK.out _ _ ⟨hSw, by simp⟩
    refine Inv.Steps.cons rfl ?_ ?_
    · intro L a w' hI hL hd K hK
      obtain ⟨hSw, rfl⟩ := hI
      simp [Region.binds] at hd
      simp only [hd, if_true]
      rw [if_pos (by rfl)]
      obtain ⟨l0, l1, l2, l3, -, -, -, -, -⟩ := Sf0 _ hSw
      go_simp
      exact hK.out _ _ ⟨hSw, by simp [hd]⟩
    refine Inv.Steps.cons rfl ?_ ?_
    · intro L a w' hI hL hd K hK
      obtain ⟨hSw, rfl⟩ := hI
      simp [Region.binds] at hd
      simp only [hd, if_true]
      rw [if_pos (by rfl)]
      go_simp
      exact hK.out _ _ ⟨hSw, by simp [hd]⟩
    refine Inv.Steps.cons rfl ?_ ?_
    · intro L a w' hI hL hd K hK
      obtain ⟨hSw, rfl⟩ := hI
      simp [Region.binds] at hd
      simp only [hd, if_true]
      rw [if_pos (by rfl)]
      go_simp
      refine (d0 _).mono ?_
      rintro e w6 ⟨rfl, rfl⟩
      exact hK.out _ _ ⟨hSw, by simp [hd]⟩
    refine Inv.Steps.cons rfl ?_ ?_
    · intro L a w' hI hL hd K hK
      obtain ⟨hSw, rfl⟩ := hI
      simp [Region.binds] at hd
      simp only [hd, if_true]
      rw [if_pos (by rfl)]
      have hcat := k1 w'
      go_simp
      exact hK.out _ _ ⟨hSw, by simp [hd]⟩
    refine Inv.Steps.cons rfl ?_ ?_
    · intro L a w' hI hL hd K hK
      obtain ⟨hSw, rfl⟩ := hI
      clear hd
      rw [if_pos (by rfl)]
      go_simp
      exact hK.out _ _ ⟨hSw, by simp⟩
    refine Inv.Steps.cons rfl ?_ ?_
    · intro L a w' hI hL hd K hK
      obtain ⟨hSw, rfl⟩ := hI
      simp [Region.binds] at hd
      simp only [hd, if_true]
      rw [if_pos (by rfl)]
      obtain ⟨l0, l1, l2, l3, -, -, -, -, -⟩ := Sf0 _ hSw
      go_simp
      exact hK.out _ _ ⟨hSw, by simp [hd]⟩
    refine Inv.Steps.cons rfl ?_ ?_
    · intro L a w' hI hL hd K hK
      obtain ⟨hSw, rfl⟩ := hI
      simp [Region.binds] at hd
      simp only [hd, if_true]
      rw [if_pos (by rfl)]
      go_simp
      exact hK.out _ _ ⟨hSw, by simp [hd]⟩
    refine Inv.Steps.cons rfl ?_ ?_
    · intro L a w' hI hL hd K hK
      obtain ⟨hSw, rfl⟩ := hI
      simp [Region.binds] at hd
      simp only [hd, if_true]
      rw [if_pos (by rfl)]
      go_simp
      refine (d1 _).mono ?_
      rintro e w6 ⟨rfl, rfl⟩
      exact hK.out _ _ ⟨hSw, by simp [hd]⟩
    refine Inv.Steps.cons rfl ?_ ?_
    · intro L a w' hI hL hd K hK
      obtain ⟨hSw, rfl⟩ := hI
      simp [Region.binds] at hd
      simp only [hd, if_true]
      rw [if_pos (by rfl)]
      have hcat := k2 w'
      go_simp
      exact hK.out _ _ ⟨hSw, by simp [hd]⟩
    refine Inv.Steps.cons rfl ?_ ?_
    · intro L a w' hI hL hd K hK
      obtain ⟨hSw, rfl⟩ := hI
      simp [Region.binds] at hd
      simp only [hd, if_true]
      rw [if_pos (by rfl)]
      have hcat := k3 w'
      go_simp
      exact hK.out _ _ ⟨hSw, by simp [hd]⟩
    refine Inv.Steps.cons rfl ?_ ?_
    · intro L a w' hI hL hd K hK
      obtain ⟨hSw, rfl⟩ := hI
      clear hd
      rw [if_pos (by rfl)]
      go_simp
      exact hK.out _ _ ⟨hSw, by simp⟩
    refine Inv.Steps.cons rfl ?_ ?_
    · intro L a w' hI hL hd K hK
      obtain ⟨hSw, rfl⟩ := hI
      simp [Region.binds] at hd
      simp only [hd, if_true]
      rw [if_pos (by rfl)]
      obtain ⟨l0, l1, l2, l3, -, -, -, -, -⟩ := Sf0 _ hSw
      go_simp
      exact hK.out _ _ ⟨hSw, by simp [hd]⟩
    refine Inv.Steps.cons rfl ?_ ?_
    · intro L a w' hI hL hd K hK
      obtain ⟨hSw, rfl⟩ := hI
      simp [Region.binds] at hd
      simp only [hd, if_true]
      rw [if_pos (by rfl)]
      go_simp
      exact hK.out _ _ ⟨hSw, by simp [hd]⟩
    refine Inv.Steps.cons rfl ?_ ?_
    · intro L a w' hI hL hd K hK
      obtain ⟨hSw, rfl⟩ := hI
      simp [Region.binds] at hd
      simp only [hd, if_true]
      rw [if_pos (by rfl)]
      go_simp
      refine (d2 _).mono ?_
      rintro e w6 ⟨rfl, rfl⟩
      exact hK.out _ _ ⟨hSw, by simp [hd]⟩
    refine Inv.Steps.cons rfl ?_ ?_
    · intro L a w' hI hL hd K hK
      obtain ⟨hSw, rfl⟩ := hI
      simp [Region.binds] at hd
      simp only [hd, if_true]
      rw [if_pos (by rfl)]
      have hcat := k4 w'
      go_simp
      exact hK.out _ _ ⟨hSw, by simp [hd]⟩
    refine Inv.Steps.cons rfl ?_ ?_
    · intro L a w' hI hL hd K hK
      obtain ⟨hSw, rfl⟩ := hI
      simp [Region.binds] at hd
      simp only [hd, if_true]
      rw [if_pos (by rfl)]
      have hcat := k5 w'
      go_simp
      exact hK.out _ _ ⟨hSw, by simp [hd]⟩
    refine Inv.Steps.cons rfl ?_ ?_
    · intro L a w' hI hL hd K hK
      obtain ⟨hSw, rfl⟩ := hI
      clear hd
      rw [if_pos (by rfl)]
      go_simp
      exact hK.out _ _ ⟨hSw, by simp⟩
    refine Inv.Steps.cons rfl ?_ ?_
    · intro L a w' hI hL hd K hK
      obtain ⟨hSw, rfl⟩ := hI
      simp [Region.binds] at hd
      simp only [hd, if_true]
      rw [if_pos (by rfl)]
      obtain ⟨l0, l1, l2, l3, -, -, -, -, -⟩ := Sf0 _ hSw
      go_simp
      exact hK.out _ _ ⟨hSw, by simp [hd]⟩
    refine Inv.Steps.cons rfl ?_ ?_
    · intro L a w' hI hL hd K hK
      obtain ⟨hSw, rfl⟩ := hI
      simp [Region.binds] at hd
      simp only [hd, if_true]
      rw [if_pos (by rfl)]
      go_simp
      exact hK.out _ _ ⟨hSw, by simp [hd]⟩
    refine Inv.Steps.cons rfl ?_ ?_
    · intro L a w' hI hL hd K hK
      obtain ⟨hSw, rfl⟩ := hI
      simp [Region.binds] at hd
      simp only [hd, if_true]
      rw [if_pos (by rfl)]
      go_simp
      refine (d3 _).mono ?_
      rintro e w6 ⟨rfl, rfl⟩
      exact hK.out _ _ ⟨hSw, by simp [hd]⟩
    refine Inv.Steps.cons rfl ?_ ?_
    · intro L a w' hI hL hd K hK
      obtain ⟨hSw, rfl⟩ := hI
      simp [Region.binds] at hd
      simp only [hd, if_true]
      rw [if_pos (by rfl)]
      have hcat := k6 w'
      go_simp
      exact hK.out _ _ ⟨hSw, by simp [hd]⟩
    refine Inv.Steps.cons rfl ?_ ?_
    · intro L a w' hI hL hd K hK
      obtain ⟨hSw, rfl⟩ := hI
      simp [Region.binds] at hd
      simp only [hd, if_true]
      rw [if_pos (by rfl)]
      go_simp
      exact hK.out _ _ ⟨hSw, by simp [hd]⟩
    exact Inv.Steps.nil (by decide)
  case done =>
    intro L a w' hI hall
    obtain ⟨hSw, rfl⟩ := hI
    simp only [hall, if_true]
    go_wp2_with fail
    go_ret
    exact ⟨rfl, Sb _ hSw⟩
theorem cat_any (a b : List UInt8) (h : a.length + b.length ≤ 1000) (w : World) : (Op.stringOp .add (bs a) (bs b)).run Tryd.prog w = .ok (.string (bs (a ++ b))) w := by
  rw [← bs_append]
  exact run_string_add_sum w _ _ (by rw [bs_size, bs_size]; omega)
theorem ref_Text (N : Nat) (w : World) :
    Calls Tryd.prog 28 #[adr N] w fun e w' => e = .returned (.string (bs (txt N))) ∧ Below w.heap.size w w' := by
  have p0 := dec3_pos (b0 N); have p1 := dec3_pos (b1 N); have p2 := dec3_pos (b2 N); have p3 := dec3_pos (b3 N)
  have l0 := b0_lt N; have l1 := b1_lt N; have l2 := b2_lt N; have l3 := b3_lt N
  have e : bs (txt N) = bs (dec3 (b0 N) ++ [46] ++ dec3 (b1 N) ++ [46] ++ dec3 (b2 N) ++ [46] ++ dec3 (b3 N)) := by
    unfold txt
    simp
  rw [e]
  exact rtext_core (b0 N) (b1 N) (b2 N) (b3 N) ⟨by omega, by omega⟩ ⟨by omega, by omega⟩ ⟨by omega, by omega⟩ ⟨by omega, by omega⟩ _ _ _ _ _ _ _ _ _ _ w
    (fun w => digits_any (b0 N) (by omega) w) (fun w => digits_any (b1 N) (by omega) w) (fun w => digits_any (b2 N) (by omega) w) (fun w => digits_any (b3 N) (by omega) w)
    (fun w => cat_any _ [46] (by simp; omega) w) (fun w => cat_any _ _ (by simp; omega) w) (fun w => cat_any _ [46] (by simp; omega) w) (fun w => cat_any _ _ (by simp; omega) w) (fun w => cat_any _ [46] (by simp; omega) w) (fun w => cat_any _ _ (by simp; omega) w)

theorem rnettext_no (n0 n1 n2 n3 b : Int) (w : World)
    (hr : ∀ w, Calls Tryd.prog 20 #[(.agg #[.int .u8 n0, .int .u8 n1, .int .u8 n2, .int .u8 n3, .int .i64 b])] w fun e w' => e = .returned (.bool false) ∧ Below w.heap.size w w') :
    Calls Tryd.prog 30 #[(.agg #[.int .u8 n0, .int .u8 n1, .int .u8 n2, .int .u8 n3, .int .i64 b])] w fun e w' => e = .returned (.string ⟨#[]⟩) ∧ Below w.heap.size w w' := by
  go_enter Tryd.func30, Tryd.ntmps30
  go_wp2_with (go_at_call 20; refine (hr _).mono ?_; rintro e w1 ⟨rfl, hb1⟩)
  go_ret
  exact ⟨rfl, bnext (bnew w _) hb1⟩
set_option maxRecDepth 100000 in
theorem rnettext_yes (n0 n1 n2 n3 b : Int) (s s1 u t : ByteArray) (w : World)
    (cat1 : ∀ w, (Op.stringOp .add s ⟨#[47]⟩).run Tryd.prog w = .ok (.string s1) w) (cat2 : ∀ w, (Op.stringOp .add s1 u).run Tryd.prog w = .ok (.string t) w)
    (hr : ∀ w, Calls Tryd.prog 20 #[(.agg #[.int .u8 n0, .int .u8 n1, .int .u8 n2, .int .u8 n3, .int .i64 b])] w fun e w' => e = .returned (.bool true) ∧ Below w.heap.size w w')
    (ht : ∀ w, Calls Tryd.prog 28 #[(.agg #[.int .u8 n0, .int .u8 n1, .int .u8 n2, .int .u8 n3])] w fun e w' => e = .returned (.string s) ∧ Below w.heap.size w w')
    (hi : ∀ w, Calls Tryd.prog 39 #[.int .i64 b] w fun e w' => e = .returned (.string u) ∧ w' = w) :
    Calls Tryd.prog 30 #[(.agg #[.int .u8 n0, .int .u8 n1, .int .u8 n2, .int .u8 n3, .int .i64 b])] w fun e w' => e = .returned (.string t) ∧ Below w.heap.size w w' := by
  obtain ⟨g, hg⟩ : ∃ g, g = w.heap.size := ⟨_, rfl⟩
  obtain ⟨S, hS⟩ : ∃ S : World → Prop, S = fun w' => (Box5 w' g (.int .u8 n0) (.int .u8 n1) (.int .u8 n2) (.int .u8 n3) (.int .i64 b)) ∧ Below w.heap.size w w' := ⟨_, rfl⟩
  have Sn : ∀ w1 w2, S w1 → Below w1.heap.size w1 w2 → S w2 := fun w1 w2 h hb => by rw [hS] at h ⊢; exact ⟨h.1.below hb, bnext h.2 hb⟩
  have Sf0 : ∀ w1, S w1 → Box5 w1 g (.int .u8 n0) (.int .u8 n1) (.int .u8 n2) (.int .u8 n3) (.int .i64 b) := fun w1 h => by rw [hS] at h; exact h.1
  have Sb : ∀ w1, S w1 → Below w.heap.size w w1 := fun w1 h => by rw [hS] at h; exact h.2
  have S0 : S (w.alloc (.cells #[.int .u8 n0, .int .u8 n1, .int .u8 n2, .int .u8 n3, .int .i64 b] 28)) := by rw [hS, hg]; exact ⟨(by simpa using (new5 w _ _ _ _ _ _)), (bnew _ _)⟩
  clear hS
  go_enter Tryd.func30, Tryd.ntmps30
  go_wp2_with (go_at_call 20; refine (hr _).mono ?_; rintro e w1 ⟨rfl, hb1⟩; have S1 := Sn _ _ (Sn _ _ S0 hb1) (Below.refl _ _).drew)
  rw [← hg]
  clear hg S0
  refine Inv.region_inv (fun L a w' => S w' ∧ a = { tmps := #[(.agg #[.int .u8 n0, .int .u8 n1, .int .u8 n2, .int .u8 n3, .int .i64 b]), (.pointer (some ⟨g, 0, none⟩)), (if L 8 = true then (.string t) else (.string ⟨#[]⟩)), (.agg #[.int .u8 n0, .int .u8 n1, .int .u8 n2, .int .u8 n3, .int .i64 b]), (.bool true), (.bool false), (if L 0 = true then (.pointer (some ⟨g, 0, none⟩)) else undef), (if L 1 = true then (.agg #[.int .u8 n0, .int .u8 n1, .int .u8 n2, .int .u8 n3]) else undef), (if L 2 = true then (.string s) else undef), (if L 3 = true then (.string s1) else undef), (if L 4 = true then (.pointer (some ⟨g, 4, none⟩)) else undef), (if L 5 = true then (.int .i64 b) else undef), (if L 6 = true then (.string u) else undef), (if L 7 = true then (.string t) else undef)], defers := [] }) (by kernel_rfl) (by kernel_rfl) ?h0 ?step ?done
  case h0 => exact ⟨S1, by simp⟩
  case step =>
    refine Inv.Steps.cons rfl ?_ ?_
    · intro L a w' hI hL hd K hK
      obtain ⟨hSw, rfl⟩ := hI
      clear hd
      rw [if_pos (by rfl)]
      go_simp
      exact hK.out _ _ ⟨hSw, by simp⟩
    refine Inv.Steps.cons rfl ?_ ?_
    · intro L a w' hI hL hd K hK
      obtain ⟨hSw, rfl⟩ := hI
      simp [Region.binds] at hd
      simp only [hd, if_true]
      rw [if_pos (by rfl)]
      obtain ⟨⟨k0, k1, k2, k3, -, -, -, -, -⟩, k4, -⟩ := Sf0 _ hSw
      go_simp
      exact hK.out _ _ ⟨hSw, by simp [hd]⟩
    refine Inv.Steps.cons rfl ?_ ?_
    · intro L a w' hI hL hd K hK
      obtain ⟨hSw, rfl⟩ := hI
      simp [Region.binds] at hd
      simp only [hd, if_true]
      rw [if_pos (by rfl)]
      go_simp
      refine (ht _).mono ?_
      rintro e w6 ⟨rfl, hb6⟩
      exact hK.out _ _ ⟨Sn _ _ hSw hb6, by simp [hd]⟩
    refine Inv.Steps.cons rfl ?_ ?_
    · intro L a w' hI hL hd K hK
      obtain ⟨hSw, rfl⟩ := hI
      simp [Region.binds] at hd
      simp only [hd, if_true]
      rw [if_pos (by rfl)]
      have hcat := cat1 w'
      go_simp
      exact hK.out _ _ ⟨hSw, by simp [hd]⟩
    refine Inv.Steps.cons rfl ?_ ?_
    · intro L a w' hI hL hd K hK
      obtain ⟨hSw, rfl⟩ := hI
      clear hd
      rw [if_pos (by rfl)]
      go_simp
      exact hK.out _ _ ⟨hSw, by simp⟩
    refine Inv.Steps.cons rfl ?_ ?_
    · intro L a w' hI hL hd K hK
      obtain ⟨hSw, rfl⟩ := hI
      simp [Region.binds] at hd
      simp only [hd, if_true]
      rw [if_pos (by rfl)]
      obtain ⟨⟨k0, k1, k2, k3, -, -, -, -, -⟩, k4, -⟩ := Sf0 _ hSw
      go_simp
      exact hK.out _ _ ⟨hSw, by simp [hd]⟩
    refine Inv.Steps.cons rfl ?_ ?_
    · intro L a w' hI hL hd K hK
      obtain ⟨hSw, rfl⟩ := hI
      simp [Region.binds] at hd
      simp only [hd, if_true]
      rw [if_pos (by rfl)]
      go_simp
      refine (hi _).mono ?_
      rintro e w6 ⟨rfl, rfl⟩
      exact hK.out _ _ ⟨hSw, by simp [hd]⟩
    refine Inv.Steps.cons rfl ?_ ?_
    · intro L a w' hI hL hd K hK
      obtain ⟨hSw, rfl⟩ := hI
      simp [Region.binds] at hd
      simp only [hd, if_true]
      rw [if_pos (by rfl)]
      have hcat := cat2 w'
      go_simp
      exact hK.out _ _ ⟨hSw, by simp [hd]⟩
    refine Inv.Steps.cons rfl ?_ ?_
    · intro L a w' hI hL hd K hK
      obtain ⟨hSw, rfl⟩ := hI
      simp [Region.binds] at hd
      simp only [hd, if_true]
      rw [if_pos (by rfl)]
      go_simp
      exact hK.out _ _ ⟨hSw, by simp [hd]⟩
    exact Inv.Steps.nil (by decide)
  case done =>
    intro L a w' hI hall
    obtain ⟨hSw, rfl⟩ := hI
    simp only [hall, if_true]
    go_wp2_with fail
    go_ret
    exact ⟨rfl, Sb _ hSw⟩
theorem ref_NetText (N : Nat) (hN : N < 4294967296) (b : Int) (w : World) :
    Calls Tryd.prog 30 #[net N b] w fun e w' => e = .returned (.string (bs (ntxt N b))) ∧ Below w.heap.size w w' := by
  unfold ntxt
  by_cases h : rightN N b = true
  · obtain ⟨k, hk, rfl, -⟩ := right_iff.1 h
    rw [if_pos h]
    have hr := fun w => ref_Right N hN (k : Int) w
    rw [h] at hr
    have ht := txt_len N
    have hd := dec3_pos k
    have e : bs (netTxt N (k : Int).toNat) = bs (txt N ++ [47] ++ dec3 k) := by simp [netTxt]
    rw [e]
    exact rnettext_yes (b0 N) (b1 N) (b2 N) (b3 N) (k : Int) _ _ _ _ w (fun w => cat_any _ [47] (by simp; omega) w) (fun w => cat_any _ _ (by simp; omega) w) hr (fun w => ref_Text N w) (fun w => digits_any k (by omega) w)
  · rw [if_neg h]
    have hr := fun w => ref_Right N hN b w
    rw [Bool.not_eq_true] at h
    rw [h] at hr
    exact rnettext_no (b0 N) (b1 N) (b2 N) (b3 N) b w hr

set_option maxRecDepth 100000 in
theorem rparse_len (s : ByteArray) (n : Nat) (h : n ≠ 4) (w : World) (hn : ∀ w, Calls Tryd.prog 36 #[.string s] w fun e w' => ∃ g cap, e = .returned (.slice (some ⟨g, 0, none⟩) n cap) ∧ w.heap.size ≤ g ∧ g < w'.heap.size ∧ Below w.heap.size w w') :
    Calls Tryd.prog 25 #[.string s] w fun e w' => e = .returned (.tuple #[.agg #[.int .u8 0, .int .u8 0, .int .u8 0, .int .u8 0], .int .i64 41]) ∧ Below w.heap.size w w' := by
  have hd : ((n : Int) == 4) = false := by simp; omega
  go_enter Tryd.func25, Tryd.ntmps25
  go_wp2_with (go_at_call 36; refine (hn _).mono ?_; rintro e w1 ⟨g, cap, rfl, _, _, hb1⟩; obtain ⟨k0, k1, k2, k3, f0, f1, f2, f3, hg⟩ := (new4 w _ _ _ _ _).below hb1)
  have D := bnext (bnew w _) hb1
  try simp only [Exit.inBlock, Exit.then]
  refine bodyPost_ret (v := .tuple #[.agg #[.int .u8 0, .int .u8 0, .int .u8 0, .int .u8 0], .int .i64 41]) (by simp [results, Tryd.results25, go_sem, k0, k1, k2, k3]) rfl ⟨rfl, ?_⟩
  repeat (first | with_reducible exact D | with_reducible apply Below.drew | with_reducible apply bal | with_reducible refine Below.setCell ?_ (by first | exact Nat.le_refl _ | (simp; omega)) _)
set_option maxRecDepth 100000 in
set_option maxHeartbeats 1000000 in
theorem rparse_big0 (s : ByteArray) (m0 m1 m2 m3 : Int)  (big : 255 < m0) (w : World) (hn : ∀ w, Calls Tryd.prog 36 #[.string s] w fun e w' => ∃ g cap, e = .returned (.slice (some ⟨g, 0, none⟩) 4 cap) ∧ w.heap.size ≤ g ∧ g < w'.heap.size ∧ (w'.cell? ⟨g, 0, none⟩ = some (.int .i64 m0) ∧ w'.cell? ⟨g, 1, none⟩ = some (.int .i64 m1) ∧ w'.cell? ⟨g, 2, none⟩ = some (.int .i64 m2) ∧ w'.cell? ⟨g, 3, none⟩ = some (.int .i64 m3)) ∧ Below w.heap.size w w') :
    Calls Tryd.prog 25 #[.string s] w fun e w' => e = .returned (.tuple #[.agg #[.int .u8 0, .int .u8 0, .int .u8 0, .int .u8 0], .int .i64 41]) ∧ Below w.heap.size w w' := by
  go_enter Tryd.func25, Tryd.ntmps25
  go_wp2_with (go_at_call 36; refine (hn _).mono ?_; rintro e w1 ⟨g, cap, rfl, hle, hlt, ⟨d0, d1, d2, d3⟩, hb1⟩; have K := (new4 w _ _ _ _ _).below hb1; obtain ⟨k0, k1, k2, k3, f0, f1, f2, f3, hg⟩ := id K)
  have D := bnext (bnew w _) hb1
  clear hb1 hn
  refine wp_loop_rounds 5 ?_
  rw [rounds_succ]
  go_wp2_with fail
  try simp only [Exit.inBlock, Exit.then]
  refine bodyPost_ret (v := .tuple #[.agg #[.int .u8 0, .int .u8 0, .int .u8 0, .int .u8 0], .int .i64 41]) (by simp [results, Tryd.results25, go_sem, k0, k1, k2, k3, hg]) rfl ⟨rfl, ?_⟩
  repeat (first | with_reducible exact D | with_reducible apply Below.drew | with_reducible apply bal | with_reducible refine Below.setCell ?_ (by first | exact Nat.le_refl _ | (simp; omega)) _)
set_option maxRecDepth 100000 in
set_option maxHeartbeats 1000000 in
theorem rparse_big1 (s : ByteArray) (m0 m1 m2 m3 : Int) (t0 : 0 ≤ m0) (r0 : m0 < 256) (big : 255 < m1) (w : World) (hn : ∀ w, Calls Tryd.prog 36 #[.string s] w fun e w' => ∃ g cap, e = .returned (.slice (some ⟨g, 0, none⟩) 4 cap) ∧ w.heap.size ≤ g ∧ g < w'.heap.size ∧ (w'.cell? ⟨g, 0, none⟩ = some (.int .i64 m0) ∧ w'.cell? ⟨g, 1, none⟩ = some (.int .i64 m1) ∧ w'.cell? ⟨g, 2, none⟩ = some (.int .i64 m2) ∧ w'.cell? ⟨g, 3, none⟩ = some (.int .i64 m3)) ∧ Below w.heap.size w w') :
    Calls Tryd.prog 25 #[.string s] w fun e w' => e = .returned (.tuple #[.agg #[.int .u8 0, .int .u8 0, .int .u8 0, .int .u8 0], .int .i64 41]) ∧ Below w.heap.size w w' := by
  go_enter Tryd.func25, Tryd.ntmps25
  go_wp2_with (go_at_call 36; refine (hn _).mono ?_; rintro e w1 ⟨g, cap, rfl, hle, hlt, ⟨d0, d1, d2, d3⟩, hb1⟩; have K := (new4 w _ _ _ _ _).below hb1; obtain ⟨k0, k1, k2, k3, f0, f1, f2, f3, hg⟩ := id K)
  have D := bnext (bnew w _) hb1
  clear hb1 hn
  refine wp_loop_rounds 5 ?_
  rw [rounds_succ]
  go_wp2_with fail
  rw [rounds_succ]
  go_wp2_with fail
  try simp only [Exit.inBlock, Exit.then]
  refine bodyPost_ret (v := .tuple #[.agg #[.int .u8 0, .int .u8 0, .int .u8 0, .int .u8 0], .int .i64 41]) (by simp [results, Tryd.results25, go_sem, k0, k1, k2, k3, hg]) rfl ⟨rfl, ?_⟩
  repeat (first | with_reducible exact D | with_reducible apply Below.drew | with_reducible apply bal | with_reducible refine Below.setCell ?_ (by first | exact Nat.le_refl _ | (simp; omega)) _)
set_option maxRecDepth 100000 in
set_option maxHeartbeats 1000000 in
theorem rparse_big2 (s : ByteArray) (m0 m1 m2 m3 : Int) (t0 : 0 ≤ m0) (r0 : m0 < 256) (t1 : 0 ≤ m1) (r1 : m1 < 256) (big : 255 < m2) (w : World) (hn : ∀ w, Calls Tryd.prog 36 #[.string s] w fun e w' => ∃ g cap, e = .returned (.slice (some ⟨g, 0, none⟩) 4 cap) ∧ w.heap.size ≤ g ∧ g < w'.heap.size ∧ (w'.cell? ⟨g, 0, none⟩ = some (.int .i64 m0) ∧ w'.cell? ⟨g, 1, none⟩ = some (.int .i64 m1) ∧ w'.cell? ⟨g, 2, none⟩ = some (.int .i64 m2) ∧ w'.cell? ⟨g, 3, none⟩ = some (.int .i64 m3)) ∧ Below w.heap.size w w') :
    Calls Tryd.prog 25 #[.string s] w fun e w' => e = .returned (.tuple #[.agg #[.int .u8 0, .int .u8 0, .int .u8 0, .int .u8 0], .int .i64 41]) ∧ Below w.heap.size w w' := by
  go_enter Tryd.func25, Tryd.ntmps25
  go_wp2_with (go_at_call 36; refine (hn _).mono ?_; rintro e w1 ⟨g, cap, rfl, hle, hlt, ⟨d0, d1, d2, d3⟩, hb1⟩; have K := (new4 w _ _ _ _ _).below hb1; obtain ⟨k0, k1, k2, k3, f0, f1, f2, f3, hg⟩ := id K)
  have D := bnext (bnew w _) hb1
  clear hb1 hn
  refine wp_loop_rounds 5 ?_
  rw [rounds_succ]
  go_wp2_with fail
  rw [rounds_succ]
  go_wp2_with fail
  rw [rounds_succ]
  go_wp2_with fail
  try simp only [Exit.inBlock, Exit.then]
  refine bodyPost_ret (v := .tuple #[.agg #[.int .u8 0, .int .u8 0, .int .u8 0, .int .u8 0], .int .i64 41]) (by simp [results, Tryd.results25, go_sem, k0, k1, k2, k3, hg]) rfl ⟨rfl, ?_⟩
  repeat (first | with_reducible exact D | with_reducible apply Below.drew | with_reducible apply bal | with_reducible refine Below.setCell ?_ (by first | exact Nat.le_refl _ | (simp; omega)) _)
set_option maxRecDepth 100000 in
set_option maxHeartbeats 1000000 in
theorem rparse_big3 (s : ByteArray) (m0 m1 m2 m3 : Int) (t0 : 0 ≤ m0) (r0 : m0 < 256) (t1 : 0 ≤ m1) (r1 : m1 < 256) (t2 : 0 ≤ m2) (r2 : m2 < 256) (big : 255 < m3) (w : World) (hn : ∀ w, Calls Tryd.prog 36 #[.string s] w fun e w' => ∃ g cap, e = .returned (.slice (some ⟨g, 0, none⟩) 4 cap) ∧ w.heap.size ≤ g ∧ g < w'.heap.size ∧ (w'.cell? ⟨g, 0, none⟩ = some (.int .i64 m0) ∧ w'.cell? ⟨g, 1, none⟩ = some (.int .i64 m1) ∧ w'.cell? ⟨g, 2, none⟩ = some (.int .i64 m2) ∧ w'.cell? ⟨g, 3, none⟩ = some (.int .i64 m3)) ∧ Below w.heap.size w w') :
    Calls Tryd.prog 25 #[.string s] w fun e w' => e = .returned (.tuple #[.agg #[.int .u8 0, .int .u8 0, .int .u8 0, .int .u8 0], .int .i64 41]) ∧ Below w.heap.size w w' := by
  go_enter Tryd.func25, Tryd.ntmps25
  go_wp2_with (go_at_call 36; refine (hn _).mono ?_; rintro e w1 ⟨g, cap, rfl, hle, hlt, ⟨d0, d1, d2, d3⟩, hb1⟩; have K := (new4 w _ _ _ _ _).below hb1; obtain ⟨k0, k1, k2, k3, f0, f1, f2, f3, hg⟩ := id K)
  have D := bnext (bnew w _) hb1
  clear hb1 hn
  refine wp_loop_rounds 5 ?_
  rw [rounds_succ]
  go_wp2_with fail
  rw [rounds_succ]
  go_wp2_with fail
  rw [rounds_succ]
  go_wp2_with fail
  rw [rounds_succ]
  go_wp2_with fail
  try simp only [Exit.inBlock, Exit.then]
  refine bodyPost_ret (v := .tuple #[.agg #[.int .u8 0, .int .u8 0, .int .u8 0, .int .u8 0], .int .i64 41]) (by simp [results, Tryd.results25, go_sem, k0, k1, k2, k3, hg]) rfl ⟨rfl, ?_⟩
  repeat (first | with_reducible exact D | with_reducible apply Below.drew | with_reducible apply bal | with_reducible refine Below.setCell ?_ (by first | exact Nat.le_refl _ | (simp; omega)) _)
set_option maxRecDepth 100000 in
set_option maxHeartbeats 1000000 in
theorem rparse_ne (s u : ByteArray) (m0 m1 m2 m3 : Int) (t0 : 0 ≤ m0) (r0 : m0 < 256) (t1 : 0 ≤ m1) (r1 : m1 < 256) (t2 : 0 ≤ m2) (r2 : m2 < 256) (t3 : 0 ≤ m3) (r3 : m3 < 256) (w : World) (hn : ∀ w, Calls Tryd.prog 36 #[.string s] w fun e w' => ∃ g cap, e = .returned (.slice (some ⟨g, 0, none⟩) 4 cap) ∧ w.heap.size ≤ g ∧ g < w'.heap.size ∧ (w'.cell? ⟨g, 0, none⟩ = some (.int .i64 m0) ∧ w'.cell? ⟨g, 1, none⟩ = some (.int .i64 m1) ∧ w'.cell? ⟨g, 2, none⟩ = some (.int .i64 m2) ∧ w'.cell? ⟨g, 3, none⟩ = some (.int .i64 m3)) ∧ Below w.heap.size w w')
    (ht : ∀ w, Calls Tryd.prog 28 #[(.agg #[.int .u8 m0, .int .u8 m1, .int .u8 m2, .int .u8 m3])] w fun e w' => e = .returned (.string u) ∧ Below w.heap.size w w') (hq : (u.toList == s.toList) = false) :
    Calls Tryd.prog 25 #[.string s] w fun e w' => e = .returned (.tuple #[.agg #[.int .u8 0, .int .u8 0, .int .u8 0, .int .u8 0], .int .i64 41]) ∧ Below w.heap.size w w' := by
  go_enter Tryd.func25, Tryd.ntmps25
  go_wp2_with (go_at_call 36; refine (hn _).mono ?_; rintro e w1 ⟨g, cap, rfl, hle, hlt, ⟨d0, d1, d2, d3⟩, hb1⟩; have K := (new4 w _ _ _ _ _).below hb1; obtain ⟨k0, k1, k2, k3, f0, f1, f2, f3, hg⟩ := id K)
  have D := bnext (bnew w _) hb1
  clear hb1 hn
  refine wp_loop_rounds 5 ?_
  rw [rounds_succ]
  go_wp2_with fail
  rw [rounds_succ]
  go_wp2_with fail
  rw [rounds_succ]
  go_wp2_with fail
  rw [rounds_succ]
  go_wp2_with fail
  rw [rounds_succ]
  go_wp2_with (go_at_call 28; refine (ht _).mono ?_; rintro e w2 ⟨rfl, hb2⟩; have K2 := (K.alloc _).below hb2; have N2 := (new4 w1 (.int .u8 m0) (.int .u8 m1) (.int .u8 m2) (.int .u8 m3) 23).below hb2; have D := bnext (bal D _) hb2; clear hb2 k0 k1 k2 k3 f0 f1 f2 f3 hg; obtain ⟨k0, k1, k2, k3, f0, f1, f2, f3, hg⟩ := id K2; obtain ⟨x0, x1, x2, x3, -, -, -, -, hx⟩ := id N2)
  try simp only [Exit.inBlock, Exit.then]
  refine bodyPost_ret (v := .tuple #[.agg #[.int .u8 0, .int .u8 0, .int .u8 0, .int .u8 0], .int .i64 41]) (by simp [results, Tryd.results25, go_sem, k0, k1, k2, k3]) rfl ⟨rfl, ?_⟩
  repeat (first | with_reducible exact D | with_reducible apply Below.drew | with_reducible apply bal | with_reducible refine Below.setCell ?_ (by first | exact Nat.le_refl _ | (simp; omega)) _)
set_option maxRecDepth 100000 in
set_option maxHeartbeats 1000000 in
theorem rparse_eq (s u : ByteArray) (m0 m1 m2 m3 : Int) (t0 : 0 ≤ m0) (r0 : m0 < 256) (t1 : 0 ≤ m1) (r1 : m1 < 256) (t2 : 0 ≤ m2) (r2 : m2 < 256) (t3 : 0 ≤ m3) (r3 : m3 < 256) (w : World) (hn : ∀ w, Calls Tryd.prog 36 #[.string s] w fun e w' => ∃ g cap, e = .returned (.slice (some ⟨g, 0, none⟩) 4 cap) ∧ w.heap.size ≤ g ∧ g < w'.heap.size ∧ (w'.cell? ⟨g, 0, none⟩ = some (.int .i64 m0) ∧ w'.cell? ⟨g, 1, none⟩ = some (.int .i64 m1) ∧ w'.cell? ⟨g, 2, none⟩ = some (.int .i64 m2) ∧ w'.cell? ⟨g, 3, none⟩ = some (.int .i64 m3)) ∧ Below w.heap.size w w')
    (ht : ∀ w, Calls Tryd.prog 28 #[(.agg #[.int .u8 m0, .int .u8 m1, .int .u8 m2, .int .u8 m3])] w fun e w' => e = .returned (.string u) ∧ Below w.heap.size w w') (hq : (u.toList == s.toList) = true) :
    Calls Tryd.prog 25 #[.string s] w fun e w' => e = .returned (.tuple #[(.agg #[.int .u8 m0, .int .u8 m1, .int .u8 m2, .int .u8 m3]), .int .i64 0]) ∧ Below w.heap.size w w' := by
  go_enter Tryd.func25, Tryd.ntmps25
  go_wp2_with (go_at_call 36; refine (hn _).mono ?_; rintro e w1 ⟨g, cap, rfl, hle, hlt, ⟨d0, d1, d2, d3⟩, hb1⟩; have K := (new4 w _ _ _ _ _).below hb1; obtain ⟨k0, k1, k2, k3, f0, f1, f2, f3, hg⟩ := id K)
  have D := bnext (bnew w _) hb1
  clear hb1 hn
  refine wp_loop_rounds 5 ?_
  rw [rounds_succ]
  go_wp2_with fail
  rw [rounds_succ]
  go_wp2_with fail
  rw [rounds_succ]
  go_wp2_with fail
  rw [rounds_succ]
  go_wp2_with fail
  rw [rounds_succ]
  go_wp2_with (go_at_call 28; refine (ht _).mono ?_; rintro e w2 ⟨rfl, hb2⟩; have K2 := (K.alloc _).below hb2; have N2 := (new4 w1 (.int .u8 m0) (.int .u8 m1) (.int .u8 m2) (.int .u8 m3) 23).below hb2; have D := bnext (bal D _) hb2; clear hb2 k0 k1 k2 k3 f0 f1 f2 f3 hg; obtain ⟨k0, k1, k2, k3, f0, f1, f2, f3, hg⟩ := id K2; obtain ⟨x0, x1, x2, x3, -, -, -, -, hx⟩ := id N2)
  try simp only [Exit.inBlock, Exit.then]
  refine bodyPost_ret (v := .tuple #[(.agg #[.int .u8 m0, .int .u8 m1, .int .u8 m2, .int .u8 m3]), .int .i64 0]) (by simp [results, Tryd.results25, go_sem, k0, k1, k2, k3]) rfl ⟨rfl, ?_⟩
  repeat (first | with_reducible exact D | with_reducible apply Below.drew | with_reducible apply bal | with_reducible refine Below.setCell ?_ (by first | exact Nat.le_refl _ | (simp; omega)) _)
end Go.Proofs.YtpekkmnomfeglaaDoor.Addr
