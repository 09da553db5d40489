/-
  Which policies can be: the document's Right.
-/
import Derived.Test.YtnaofcggdjbocaaAddrNet
import Derived.Test.YtnaofcggdjbocaaPolRight
/-
  The document's numbers and networks: Of, Num, bounded, Cut.
-/
namespace Go.Proofs.Ytnaofcggdjbocaa.Addr
open Go.RowKit Go.Proofs.Ytnaofcggdjbocaa.Mem

theorem ref_Of (N : Nat) (hN : N < 4294967296) (w : World) :
    Calls Try.prog 70 #[.int .u32 N] w fun e w' => e = .returned (adr N) ∧ Below w.heap.size w w' := by
  have e : adr N = .agg #[.int .u8 ((N : Int) / 16777216), .int .u8 ((N : Int) / 65536 % 256), .int .u8 ((N : Int) / 256 % 256), .int .u8 ((N : Int) % 256)] := by
    unfold adr b0 b1 b2 b3
    simp
    omega
  rw [e]
  go_enter Try.func70, Try.ntmps70
  go_wp2
  exact bodyPost_ret (by simp [results, Try.results70, go_sem]) rfl ⟨rfl, bnew _ _⟩
theorem rnum_core (c0 c1 c2 c3 : Nat) (h0 : c0 < 256) (h1 : c1 < 256) (h2 : c2 < 256) (h3 : c3 < 256) (w : World) :
    Calls Try.prog 64 #[.agg #[.int .u8 c0, .int .u8 c1, .int .u8 c2, .int .u8 c3]] w fun e w' => e = .returned (.int .u32 ((c0 * 16777216 + c1 * 65536 + c2 * 256 + c3 : Nat) : Int)) ∧ Below w.heap.size w w' := by
  go_enter Try.func64, Try.ntmps64
  go_wp2
  go_ret
  refine ⟨?_, bnew _ _⟩
  simp
  try omega
theorem ref_Num (N : Nat) (hN : N < 4294967296) (w : World) :
    Calls Try.prog 64 #[adr N] w fun e w' => e = .returned (.int .u32 N) ∧ Below w.heap.size w w' := by
  have h := rnum_core (b0 N) (b1 N) (b2 N) (b3 N) (b0_lt N) (b1_lt N) (b2_lt N) (b3_lt N) w
  rw [bytes_num hN] at h
  exact h
theorem ref_bounded (b : Int) (w : World) :
    Calls Try.prog 92 #[.int .i64 b] w fun e w' => e = .returned (.int .i64 (held b)) ∧ w' = w := by
  go_enter Try.func92, Try.ntmps92
  go_wp2
  all_goals
    go_ret
    refine ⟨?_, rfl⟩
    simp
    unfold held
    omega
set_option maxRecDepth 100000 in
theorem ref_Cut (N : Nat) (hN : N < 4294967296) (b : Int) (w : World) :
    Calls Try.prog 93 #[adr N, .int .i64 b] w fun e w' => e = .returned (net (cutN N (held b)) (held b)) ∧ Below w.heap.size w w' := by
  obtain ⟨k, hk, hh⟩ : ∃ k, k ≤ 32 ∧ held b = k := ⟨_, held_le b, rfl⟩
  have hn := fun w => ref_Num N hN w
  have hc := fun w => ref_bounded b w
  have ho := fun w => ref_Of (cutN N k) (cutN_lt hN k) w
  rw [hh] at hc ⊢
  clear hh
  have HR : Hid (cutN N k = N / 2 ^ (32 - k) * 2 ^ (32 - k)) := rfl
  have HL : Hid (cutN N k ≤ N) := cutN_le N k
  generalize cutN N k = R at ho HR HL ⊢
  unfold adr at hn ho ⊢
  unfold net
  go_enter Try.func93, Try.ntmps93
  go_wp2_with (first
    | (go_at_call 64; refine (hn _).mono ?_; rintro e w1 ⟨rfl, hb1⟩; have hbox : Box5 w1 (w.heap.size + 1) (.int .u8 0) (.int .u8 0) (.int .u8 0) (.int .u8 0) (.int .i64 0) := (by simpa using (new5 (w.alloc _) _ _ _ _ _ _).below hb1))
    | (go_at_call 92; refine (hc _).mono ?_; rintro e w2 ⟨rfl, rfl⟩))
  go_loop [5, 7] (fun x i => ∃ j : Nat, k + j ≤ 32 ∧ i = .int .i64 ((k + j : Nat) : Int) ∧ x = .int .u32 ((N / 2 ^ j : Nat) : Int)) (fun _ i => 32 - (intOf i).toNat)
  case atStart => exact ⟨0, by omega, by simp, by simp⟩
  case round =>
    obtain ⟨j, hj, rfl, rfl⟩ := hrel
    have hlt : N / 2 ^ j < 4294967296 := Nat.lt_of_le_of_lt (Nat.div_le_self _ _) hN
    have hs : N / 2 ^ (j + 1) = N / 2 ^ j / 2 := by rw [Nat.pow_succ, Nat.div_div_eq_div_mul]
    by_cases hlast : k + j = 32
    · have ej : j = 32 - k := by omega
      rw [ej, show k + (32 - k) = 32 by omega]
      clear hs hlt ej hj hlast
      have hM1 : N / 2 ^ (32 - k) * 2 ^ (32 - k) ≤ N := Nat.div_mul_le_self _ _
      generalize N / 2 ^ (32 - k) = M at hM1 HR ⊢
      have HM : Hid (M * 2 ^ (32 - k) < 4294967296) := by show _ < _; omega
      clear hM1
      go_wp2_with fail
      go_loop [5, 8] (fun x i => ∃ j : Nat, k + j ≤ 32 ∧ i = .int .i64 ((k + j : Nat) : Int) ∧ x = .int .u32 ((M * 2 ^ j : Nat) : Int)) (fun _ i => 32 - (intOf i).toNat)
      case atStart => exact ⟨0, by omega, by simp, by simp⟩
      case round =>
        obtain ⟨j, hj, rfl, rfl⟩ := hrel
        by_cases hlast : k + j = 32
        · have ej : j = 32 - k := by omega
          rw [ej, show k + (32 - k) = 32 by omega, ← HR.out]
          clear ej hj hlast
          go_wp2_with (go_at_call 70; refine (ho _).mono ?_; rintro e w3 ⟨rfl, hb3⟩; obtain ⟨⟨l0, l1, l2, l3, g0, g1, g2, g3, hl⟩, l4, g4⟩ := hbox.below hb3)
          have hbw := bnext (bnext (bal (bnew w _) _) hb1) hb3
          refine bodyPost_ret (by simp [results, Try.results93, go_sem, l0, l1, l2, l3, l4]) rfl ⟨rfl, ?_⟩
          repeat (first | with_reducible exact hbw | with_reducible apply Below.drew | with_reducible apply bal | with_reducible refine Below.setCell ?_ (by simp) _)
        · have hs : M * 2 ^ (j + 1) = M * 2 ^ j * 2 := by rw [Nat.pow_succ, Nat.mul_assoc]
          have hle : M * 2 ^ (j + 1) ≤ M * 2 ^ (32 - k) := Nat.mul_le_mul_left _ (Nat.pow_le_pow_right (by decide) (by omega))
          have hlt : M * 2 ^ j * 2 < 4294967296 := by have := HM.out; omega
          obtain ⟨q, hq⟩ : ∃ q, q = M * 2 ^ j := ⟨_, rfl⟩
          obtain ⟨c, hcc⟩ : ∃ c, c = k + j := ⟨_, rfl⟩
          rw [← hq] at hlt hs ⊢
          rw [← hcc] at hlast hj ⊢
          have HQ : Hid (M * 2 ^ (j + 1) = q * 2) := hs
          have HC : Hid (c = k + j) := hcc
          clear hs hle hq hcc
          go_wp2_with fail
          go_round
          case rel => exact ⟨j + 1, by have := HC.out; omega, by have := HC.out; simp; omega, by rw [HQ.out]; simp; try omega⟩
          case measure => simp [intOf]; omega
    · obtain ⟨q, hq⟩ : ∃ q, q = N / 2 ^ j := ⟨_, rfl⟩
      obtain ⟨c, hcc⟩ : ∃ c, c = k + j := ⟨_, rfl⟩
      rw [← hq] at hlt hs ⊢
      rw [← hcc] at hlast hj ⊢
      have HQ : Hid (N / 2 ^ (j + 1) = q / 2) := hs
      have HC : Hid (c = k + j) := hcc
      clear hs hq hcc
      go_wp2_with fail
      go_round
      case rel => exact ⟨j + 1, by have := HC.out; omega, by have := HC.out; simp; omega, by rw [HQ.out]; simp; try omega⟩
      case measure => simp [intOf]; omega
end Go.Proofs.Ytnaofcggdjbocaa.Addr
/-
  The document's networks: Right, In, Within.
-/
namespace Go.Proofs.Ytnaofcggdjbocaa.Addr
open Go.RowKit Go.Proofs.Ytnaofcggdjbocaa.Mem

set_option maxRecDepth 100000 in
theorem rright_no (n0 n1 n2 n3 b k : Int) (hq : (k == b) = false) (w : World)
    (hb : ∀ w, Calls Try.prog 92 #[.int .i64 b] w fun e w' => e = .returned (.int .i64 k) ∧ w' = w) :
    Calls Try.prog 84 #[(.agg #[.int .u8 n0, .int .u8 n1, .int .u8 n2, .int .u8 n3, .int .i64 b])] w fun e w' => e = .returned (.bool false) ∧ Below w.heap.size w w' := by
  have hgd := guard_net
  obtain ⟨g, hg⟩ : ∃ g, g = w.heap.size := ⟨_, rfl⟩
  obtain ⟨S, hS⟩ : ∃ S : World → Prop, S = fun w' => (Box5 w' g (.int .u8 n0) (.int .u8 n1) (.int .u8 n2) (.int .u8 n3) (.int .i64 b)) ∧ Below w.heap.size w w' := ⟨_, rfl⟩
  have Sn : ∀ w1 w2, S w1 → Below w1.heap.size w1 w2 → S w2 := fun w1 w2 h hb => by rw [hS] at h ⊢; exact ⟨h.1.below hb, bnext h.2 hb⟩
  have Sf0 : ∀ w1, S w1 → Box5 w1 g (.int .u8 n0) (.int .u8 n1) (.int .u8 n2) (.int .u8 n3) (.int .i64 b) := fun w1 h => by rw [hS] at h; exact h.1
  have Sb : ∀ w1, S w1 → Below w.heap.size w w1 := fun w1 h => by rw [hS] at h; exact h.2
  have S0 : S (w.alloc (.cells #[.int .u8 n0, .int .u8 n1, .int .u8 n2, .int .u8 n3, .int .i64 b] 45)) := by rw [hS, hg]; exact ⟨(by simpa using (new5 w _ _ _ _ _ _)), (bnew _ _)⟩
  clear hS
  have S1 := Sn _ _ S0 (Below.refl _ _).drew
  clear S0
  go_enter Try.func84, Try.ntmps84
  go_wp2_with fail
  rw [← hg]
  clear hg
  refine Inv.region_inv (fun L a w' => S w' ∧ a = { tmps := #[(.agg #[.int .u8 n0, .int .u8 n1, .int .u8 n2, .int .u8 n3, .int .i64 b]), (.pointer (some ⟨g, 0, none⟩)), (.bool false), (if L 0 = true then (.pointer (some ⟨g, 4, none⟩)) else undef), (if L 1 = true then (.int .i64 b) else undef), (if L 2 = true then (.int .i64 k) else undef), (if L 3 = true then (.pointer (some ⟨g, 4, none⟩)) else undef), (if L 4 = true then (.int .i64 b) else undef), (if L 5 = true then (.bool false) else undef), (if L 6 = true then (.bool false) else undef), undef, undef, undef, undef, undef, undef, undef, (if L 14 = true then (.bool false) else undef)], defers := [] }) (by kernel_rfl) (by kernel_rfl) ?h0 ?step ?done
  case h0 => exact ⟨S1, by simp⟩
  case step =>
    refine Inv.Steps.cons rfl ?_ ?_
    · intro L a w' hI hL hd K hK
      obtain ⟨hSw, rfl⟩ := hI
      clear hd
      rw [if_pos (by rfl)]
      go_simp
      exact hK.out _ _ ⟨hSw, by simp⟩
    refine Inv.Steps.cons rfl ?_ ?_
    · intro L a w' hI hL hd K hK
      obtain ⟨hSw, rfl⟩ := hI
      simp [Region.binds] at hd
      simp only [hd, if_true]
      rw [if_pos (by rfl)]
      obtain ⟨⟨k0, k1, k2, k3, -, -, -, -, -⟩, k4, -⟩ := Sf0 _ hSw
      go_simp
      exact hK.out _ _ ⟨hSw, by simp [hd]⟩
    refine Inv.Steps.cons rfl ?_ ?_
    · intro L a w' hI hL hd K hK
      obtain ⟨hSw, rfl⟩ := hI
      simp [Region.binds] at hd
      simp only [hd, if_true]
      rw [if_pos (by rfl)]
      go_simp
      refine (hb _).mono ?_
      rintro e w6 ⟨rfl, rfl⟩
      exact hK.out _ _ ⟨hSw, by simp [hd]⟩
    refine Inv.Steps.cons rfl ?_ ?_
    · intro L a w' hI hL hd K hK
      obtain ⟨hSw, rfl⟩ := hI
      clear hd
      rw [if_pos (by rfl)]
      go_simp
      exact hK.out _ _ ⟨hSw, by simp⟩
    refine Inv.Steps.cons rfl ?_ ?_
    · intro L a w' hI hL hd K hK
      obtain ⟨hSw, rfl⟩ := hI
      simp [Region.binds] at hd
      simp only [hd, if_true]
      rw [if_pos (by rfl)]
      obtain ⟨⟨k0, k1, k2, k3, -, -, -, -, -⟩, k4, -⟩ := Sf0 _ hSw
      go_simp
      exact hK.out _ _ ⟨hSw, by simp [hd]⟩
    refine Inv.Steps.cons rfl ?_ ?_
    · intro L a w' hI hL hd K hK
      obtain ⟨hSw, rfl⟩ := hI
      simp [Region.binds] at hd
      simp only [hd, if_true]
      rw [if_pos (by rfl)]
      go_simp
      exact hK.out _ _ ⟨hSw, by simp [hd]⟩
    refine Inv.Steps.cons rfl ?_ ?_
    · intro L a w' hI hL hd K hK
      obtain ⟨hSw, rfl⟩ := hI
      simp [Region.binds] at hd
      simp only [hd, if_true]
      rw [if_pos (by rfl)]
      go_simp
      exact hK.out _ _ ⟨hSw, by simp [hd]⟩
    refine Inv.Steps.cons rfl ?_ ?_
    · intro L a w' hI hL hd K hK
      obtain ⟨hSw, rfl⟩ := hI
      simp [Region.binds] at hd
      simp only [hd, if_true]
      rw [if_neg (Bool.eq_false_iff.1 (by rfl))]
      exact hK.out _ _ ⟨hSw, by simp [hd, Act.put]⟩
    refine Inv.Steps.cons rfl ?_ ?_
    · intro L a w' hI hL hd K hK
      obtain ⟨hSw, rfl⟩ := hI
      simp [Region.binds] at hd
      simp only [hd, if_true]
      rw [if_neg (Bool.eq_false_iff.1 (by rfl))]
      exact hK.out _ _ ⟨hSw, by simp [hd, Act.put]⟩
    refine Inv.Steps.cons rfl ?_ ?_
    · intro L a w' hI hL hd K hK
      obtain ⟨hSw, rfl⟩ := hI
      simp [Region.binds] at hd
      simp only [hd, if_true]
      rw [if_neg (Bool.eq_false_iff.1 (by rfl))]
      exact hK.out _ _ ⟨hSw, by simp [hd, Act.put]⟩
    refine Inv.Steps.cons rfl ?_ ?_
    · intro L a w' hI hL hd K hK
      obtain ⟨hSw, rfl⟩ := hI
      simp [Region.binds] at hd
      simp only [hd, if_true]
      rw [if_neg (Bool.eq_false_iff.1 (by rfl))]
      exact hK.out _ _ ⟨hSw, by simp [hd, Act.put]⟩
    refine Inv.Steps.cons rfl ?_ ?_
    · intro L a w' hI hL hd K hK
      obtain ⟨hSw, rfl⟩ := hI
      simp [Region.binds] at hd
      simp only [hd, if_true]
      rw [if_neg (Bool.eq_false_iff.1 (by rfl))]
      exact hK.out _ _ ⟨hSw, by simp [hd, Act.put]⟩
    refine Inv.Steps.cons rfl ?_ ?_
    · intro L a w' hI hL hd K hK
      obtain ⟨hSw, rfl⟩ := hI
      simp [Region.binds] at hd
      simp only [hd, if_true]
      rw [if_neg (Bool.eq_false_iff.1 (by rfl))]
      exact hK.out _ _ ⟨hSw, by simp [hd, Act.put]⟩
    refine Inv.Steps.cons rfl ?_ ?_
    · intro L a w' hI hL hd K hK
      obtain ⟨hSw, rfl⟩ := hI
      simp [Region.binds] at hd
      simp only [hd, if_true]
      rw [if_neg (Bool.eq_false_iff.1 (by rfl))]
      exact hK.out _ _ ⟨hSw, by simp [hd, Act.put]⟩
    refine Inv.Steps.cons rfl ?_ ?_
    · intro L a w' hI hL hd K hK
      obtain ⟨hSw, rfl⟩ := hI
      simp [Region.binds] at hd
      simp only [hd, if_true]
      rw [if_pos (by rfl)]
      go_simp
      exact hK.out _ _ ⟨hSw, by simp [hd]⟩
    refine Inv.Steps.cons rfl ?_ ?_
    · intro L a w' hI hL hd K hK
      obtain ⟨hSw, rfl⟩ := hI
      simp [Region.binds] at hd
      simp only [hd, if_true]
      rw [if_pos (by rfl)]
      go_simp
      exact hK.out _ _ ⟨hSw, by simp [hd]⟩
    exact Inv.Steps.nil (by decide)
  case done =>
    intro L a w' hI hall
    obtain ⟨hSw, rfl⟩ := hI
    simp only [hall, if_true]
    go_wp2_with fail
    go_ret
    exact ⟨rfl, Sb _ hSw⟩

set_option maxRecDepth 100000 in
theorem rright_yes (n0 n1 n2 n3 b r0 r1 r2 r3 : Int) (v : Bool) (w : World)
    (hb : ∀ w, Calls Try.prog 92 #[.int .i64 b] w fun e w' => e = .returned (.int .i64 b) ∧ w' = w)
    (hc : ∀ w, Calls Try.prog 93 #[(.agg #[.int .u8 n0, .int .u8 n1, .int .u8 n2, .int .u8 n3]), .int .i64 b] w fun e w' => e = .returned (.agg #[.int .u8 r0, .int .u8 r1, .int .u8 r2, .int .u8 r3, .int .i64 b]) ∧ Below w.heap.size w w')
    (he : ∀ w, (Op.equalIn 10000 45 (.agg #[.int .u8 r0, .int .u8 r1, .int .u8 r2, .int .u8 r3, .int .i64 b]) (.agg #[.int .u8 n0, .int .u8 n1, .int .u8 n2, .int .u8 n3, .int .i64 b])).run Try.prog w = .ok v w) :
    Calls Try.prog 84 #[(.agg #[.int .u8 n0, .int .u8 n1, .int .u8 n2, .int .u8 n3, .int .i64 b])] w fun e w' => e = .returned (.bool v) ∧ Below w.heap.size w w' := by
  have hgd := guard_net
  obtain ⟨g, hg⟩ : ∃ g, g = w.heap.size := ⟨_, rfl⟩
  obtain ⟨S, hS⟩ : ∃ S : World → Prop, S = fun w' => (Box5 w' g (.int .u8 n0) (.int .u8 n1) (.int .u8 n2) (.int .u8 n3) (.int .i64 b)) ∧ Below w.heap.size w w' := ⟨_, rfl⟩
  have Sn : ∀ w1 w2, S w1 → Below w1.heap.size w1 w2 → S w2 := fun w1 w2 h hb => by rw [hS] at h ⊢; exact ⟨h.1.below hb, bnext h.2 hb⟩
  have Sf0 : ∀ w1, S w1 → Box5 w1 g (.int .u8 n0) (.int .u8 n1) (.int .u8 n2) (.int .u8 n3) (.int .i64 b) := fun w1 h => by rw [hS] at h; exact h.1
  have Sb : ∀ w1, S w1 → Below w.heap.size w w1 := fun w1 h => by rw [hS] at h; exact h.2
  have S0 : S (w.alloc (.cells #[.int .u8 n0, .int .u8 n1, .int .u8 n2, .int .u8 n3, .int .i64 b] 45)) := by rw [hS, hg]; exact ⟨(by simpa using (new5 w _ _ _ _ _ _)), (bnew _ _)⟩
  clear hS
  have S1 := Sn _ _ S0 (Below.refl _ _).drew
  clear S0
  go_enter Try.func84, Try.ntmps84
  go_wp2_with fail
  rw [← hg]
  clear hg
  refine Inv.region_inv (fun L a w' => S w' ∧ a = { tmps := #[(.agg #[.int .u8 n0, .int .u8 n1, .int .u8 n2, .int .u8 n3, .int .i64 b]), (.pointer (some ⟨g, 0, none⟩)), (if L 15 = true then (.bool v) else (.bool false)), (if L 0 = true then (.pointer (some ⟨g, 4, none⟩)) else undef), (if L 1 = true then (.int .i64 b) else undef), (if L 2 = true then (.int .i64 b) else undef), (if L 3 = true then (.pointer (some ⟨g, 4, none⟩)) else undef), (if L 4 = true then (.int .i64 b) else undef), (if L 5 = true then (.bool true) else undef), (if L 6 = true then (.bool true) else undef), (if L 7 = true then (.pointer (some ⟨g, 0, none⟩)) else undef), (if L 8 = true then (.agg #[.int .u8 n0, .int .u8 n1, .int .u8 n2, .int .u8 n3]) else undef), (if L 9 = true then (.pointer (some ⟨g, 4, none⟩)) else undef), (if L 10 = true then (.int .i64 b) else undef), (if L 11 = true then (.agg #[.int .u8 r0, .int .u8 r1, .int .u8 r2, .int .u8 r3, .int .i64 b]) else undef), (if L 12 = true then (.agg #[.int .u8 n0, .int .u8 n1, .int .u8 n2, .int .u8 n3, .int .i64 b]) else undef), (if L 13 = true then (.bool v) else undef), (if L 14 = true then (.bool v) else undef)], defers := [] }) (by kernel_rfl) (by kernel_rfl) ?h0 ?step ?done
  case h0 => exact ⟨S1, by simp⟩
  case step =>
    refine Inv.Steps.cons rfl ?_ ?_
    · intro L a w' hI hL hd K hK
      obtain ⟨hSw, rfl⟩ := hI
      clear hd
      rw [if_pos (by rfl)]
      go_simp
      exact hK.out _ _ ⟨hSw, by simp⟩
    refine Inv.Steps.cons rfl ?_ ?_
    · intro L a w' hI hL hd K hK
      obtain ⟨hSw, rfl⟩ := hI
      simp [Region.binds] at hd
      simp only [hd, if_true]
      rw [if_pos (by rfl)]
      obtain ⟨⟨k0, k1, k2, k3, -, -, -, -, -⟩, k4, -⟩ := Sf0 _ hSw
      go_simp
      exact hK.out _ _ ⟨hSw, by simp [hd]⟩
    refine Inv.Steps.cons rfl ?_ ?_
    · intro L a w' hI hL hd K hK
      obtain ⟨hSw, rfl⟩ := hI
      simp [Region.binds] at hd
      simp only [hd, if_true]
      rw [if_pos (by rfl)]
      go_simp
      refine (hb _).mono ?_
      rintro e w6 ⟨rfl, rfl⟩
      exact hK.out _ _ ⟨hSw, by simp [hd]⟩
    refine Inv.Steps.cons rfl ?_ ?_
    · intro L a w' hI hL hd K hK
      obtain ⟨hSw, rfl⟩ := hI
      clear hd
      rw [if_pos (by rfl)]
      go_simp
      exact hK.out _ _ ⟨hSw, by simp⟩
    refine Inv.Steps.cons rfl ?_ ?_
    · intro L a w' hI hL hd K hK
      obtain ⟨hSw, rfl⟩ := hI
      simp [Region.binds] at hd
      simp only [hd, if_true]
      rw [if_pos (by rfl)]
      obtain ⟨⟨k0, k1, k2, k3, -, -, -, -, -⟩, k4, -⟩ := Sf0 _ hSw
      go_simp
      exact hK.out _ _ ⟨hSw, by simp [hd]⟩
    refine Inv.Steps.cons rfl ?_ ?_
    · intro L a w' hI hL hd K hK
      obtain ⟨hSw, rfl⟩ := hI
      simp [Region.binds] at hd
      simp only [hd, if_true]
      rw [if_pos (by rfl)]
      go_simp
      exact hK.out _ _ ⟨hSw, by simp [hd]⟩
    refine Inv.Steps.cons rfl ?_ ?_
    · intro L a w' hI hL hd K hK
      obtain ⟨hSw, rfl⟩ := hI
      simp [Region.binds] at hd
      simp only [hd, if_true]
      rw [if_pos (by rfl)]
      go_simp
      exact hK.out _ _ ⟨hSw, by simp [hd]⟩
    refine Inv.Steps.cons rfl ?_ ?_
    · intro L a w' hI hL hd K hK
      obtain ⟨hSw, rfl⟩ := hI
      simp [Region.binds] at hd
      simp only [hd, if_true]
      rw [if_pos (by rfl)]
      go_simp
      exact hK.out _ _ ⟨hSw, by simp [hd]⟩
    refine Inv.Steps.cons rfl ?_ ?_
    · intro L a w' hI hL hd K hK
      obtain ⟨hSw, rfl⟩ := hI
      simp [Region.binds] at hd
      simp only [hd, if_true]
      rw [if_pos (by rfl)]
      obtain ⟨⟨k0, k1, k2, k3, -, -, -, -, -⟩, k4, -⟩ := Sf0 _ hSw
      go_simp
      exact hK.out _ _ ⟨hSw, by simp [hd]⟩
    refine Inv.Steps.cons rfl ?_ ?_
    · intro L a w' hI hL hd K hK
      obtain ⟨hSw, rfl⟩ := hI
      simp [Region.binds] at hd
      simp only [hd, if_true]
      rw [if_pos (by rfl)]
      go_simp
      exact hK.out _ _ ⟨hSw, by simp [hd]⟩
    refine Inv.Steps.cons rfl ?_ ?_
    · intro L a w' hI hL hd K hK
      obtain ⟨hSw, rfl⟩ := hI
      simp [Region.binds] at hd
      simp only [hd, if_true]
      rw [if_pos (by rfl)]
      obtain ⟨⟨k0, k1, k2, k3, -, -, -, -, -⟩, k4, -⟩ := Sf0 _ hSw
      go_simp
      exact hK.out _ _ ⟨hSw, by simp [hd]⟩
    refine Inv.Steps.cons rfl ?_ ?_
    · intro L a w' hI hL hd K hK
      obtain ⟨hSw, rfl⟩ := hI
      simp [Region.binds] at hd
      simp only [hd, if_true]
      rw [if_pos (by rfl)]
      go_simp
      refine (hc _).mono ?_
      rintro e w6 ⟨rfl, hb6⟩
      exact hK.out _ _ ⟨Sn _ _ hSw hb6, by simp [hd]⟩
    refine Inv.Steps.cons rfl ?_ ?_
    · intro L a w' hI hL hd K hK
      obtain ⟨hSw, rfl⟩ := hI
      simp [Region.binds] at hd
      simp only [hd, if_true]
      rw [if_pos (by rfl)]
      obtain ⟨⟨k0, k1, k2, k3, -, -, -, -, -⟩, k4, -⟩ := Sf0 _ hSw
      go_simp
      exact hK.out _ _ ⟨hSw, by simp [hd]⟩
    refine Inv.Steps.cons rfl ?_ ?_
    · intro L a w' hI hL hd K hK
      obtain ⟨hSw, rfl⟩ := hI
      simp [Region.binds] at hd
      simp only [hd, if_true]
      rw [if_pos (by rfl)]
      have he6 := he w'
      go_simp
      exact hK.out _ _ ⟨hSw, by simp [hd]⟩
    refine Inv.Steps.cons rfl ?_ ?_
    · intro L a w' hI hL hd K hK
      obtain ⟨hSw, rfl⟩ := hI
      simp [Region.binds] at hd
      simp only [hd, if_true]
      rw [if_pos (by rfl)]
      go_simp
      exact hK.out _ _ ⟨hSw, by simp [hd]⟩
    refine Inv.Steps.cons rfl ?_ ?_
    · intro L a w' hI hL hd K hK
      obtain ⟨hSw, rfl⟩ := hI
      simp [Region.binds] at hd
      simp only [hd, if_true]
      rw [if_pos (by rfl)]
      go_simp
      exact hK.out _ _ ⟨hSw, by simp [hd]⟩
    exact Inv.Steps.nil (by decide)
  case done =>
    intro L a w' hI hall
    obtain ⟨hSw, rfl⟩ := hI
    simp only [hall, if_true]
    go_wp2_with fail
    go_ret
    exact ⟨rfl, Sb _ hSw⟩

theorem ref_Right (N : Nat) (hN : N < 4294967296) (b : Int) (w : World) :
    Calls Try.prog 84 #[net N b] w fun e w' => e = .returned (.bool (rightN N b)) ∧ Below w.heap.size w w' := by
  have hb := fun w => ref_bounded b w
  have hc := fun w => ref_Cut N hN b w
  by_cases h : ((held b : Nat) : Int) = b
  · have e : rightN N b = (decide (cutN N (held b) = N) && decide (b = b)) := by rw [rightN, h]; simp
    rw [h] at hb hc
    rw [e]
    exact rright_yes (b0 N) (b1 N) (b2 N) (b3 N) b (b0 (cutN N (held b))) (b1 (cutN N (held b))) (b2 (cutN N (held b))) (b3 (cutN N (held b))) _ w hb hc (fun w => eq_net (cutN_lt hN _) hN w)
  · have e : rightN N b = false := by rw [rightN, decide_eq_false h, Bool.false_and]
    rw [e]
    exact rright_no (b0 N) (b1 N) (b2 N) (b3 N) b (held b) (by simpa using h) w hb



end Go.Proofs.Ytnaofcggdjbocaa.Addr
namespace Go.Proofs.Ytnaofcggdjbocaa.Policy
open Go.RowKit Go.Proofs.Ytnaofcggdjbocaa.Mem Go.Proofs.Ytnaofcggdjbocaa.Addr
set_option maxRecDepth 100000

theorem get7 (x0 x1 x2 x3 x4 x5 x6 : Int) (k : Nat) (hk : k < 7) (w : World) :
    (Instr.index 133 (.agg #[.int .u64 x0, .int .u64 x1, .int .u64 x2, .int .u64 x3, .int .u64 x4, .int .u64 x5, .int .u64 x6]) (.int .i64 (k : Int))).run Try.prog w = .ok (.int .u64 ([x0, x1, x2, x3, x4, x5, x6].getD k 0)) w := by
  have : k = 0 ∨ k = 1 ∨ k = 2 ∨ k = 3 ∨ k = 4 ∨ k = 5 ∨ k = 6 := by omega
  rcases this with rfl | rfl | rfl | rfl | rfl | rfl | rfl <;> simp [Instr.index, run_underlying Try.underlying133, asIntOf, go_sem]
set_option maxHeartbeats 4000000 in
theorem ref_RightP (p : Po) (hp : PoOk p) (w : World) :
    Calls Try.prog 63 #[pv p] w fun e w' => e = .returned (.bool (rightP p)) ∧ Below w.heap.size w w' := by
  have hr := fun W => ref_Right p.N hp.2.1 p.b W
  obtain ⟨s, N, b, x0, x1, x2, x3, x4, x5, x6⟩ := p
  simp only at hr
  unfold net at hr
  obtain ⟨R, hR⟩ : ∃ R, R = rightP ⟨s, N, b, x0, x1, x2, x3, x4, x5, x6⟩ := ⟨_, rfl⟩
  rw [← hR]
  have hR2 : Hid (R = rightP ⟨s, N, b, x0, x1, x2, x3, x4, x5, x6⟩) := hR
  clear hR hp
  by_cases h1 : s < 1
  · obtain rfl : R = false := by rw [hR2.out]; unfold rightP; simp; omega
    go_enter Try.func63, Try.ntmps63
    go_wp2_with (first
      | ((fail_if_success (have _ := hX1)); (refine at_box_po _ _ (by rfl) (by rfl) (by rfl) ?_); intro V1 hX1 hB1 hz1; have hk1 := cells13 hX1))
    go_ret
    exact ⟨rfl, hB1⟩
  by_cases h2 : 255 < s
  · obtain rfl : R = false := by rw [hR2.out]; unfold rightP; simp; omega
    go_enter Try.func63, Try.ntmps63
    go_wp2_with (first
      | ((fail_if_success (have _ := hX1)); (refine at_box_po _ _ (by rfl) (by rfl) (by rfl) ?_); intro V1 hX1 hB1 hz1; have hk1 := cells13 hX1))
    go_ret
    exact ⟨rfl, hB1⟩
  cases h3 : rightN N b with
  | false =>
    rw [h3] at hr
    obtain rfl : R = false := by rw [hR2.out]; unfold rightP; simp [h3]
    go_enter Try.func63, Try.ntmps63
    go_wp2_with (first
      | ((fail_if_success (have _ := hX1)); (refine at_box_po _ _ (by rfl) (by rfl) (by rfl) ?_); intro V1 hX1 hB1 hz1; have hk1 := cells13 hX1)
      | ((with_reducible refine (hr _).mono ?_); rintro e w2 ⟨rfl, hB2⟩; have hk2 := cells13 (hX1.below hB2)))
    go_ret
    exact ⟨rfl, bnext hB1 hB2⟩
  | true =>
    rw [h3] at hr
    have hR3 : Hid (R = (lowP ⟨s, N, b, x0, x1, x2, x3, x4, x5, x6⟩ && decide (1500 ≤ x5) && decide (1500 ≤ x6))) := by
      show _ = _
      rw [hR2.out]
      unfold rightP
      simp only [h3]
      rw [decide_eq_true (show 1 ≤ s by omega), decide_eq_true (show s ≤ 255 by omega)]
      simp
    obtain ⟨l, hl⟩ : ∃ l : List Int, l = [(x0 : Int), (x1 : Int), (x2 : Int), (x3 : Int), (x4 : Int), (x5 : Int), (x6 : Int)] := ⟨_, rfl⟩
    have hg7 := fun k hk W => get7 x0 x1 x2 x3 x4 x5 x6 k hk W
    rw [← hl] at hg7
    have hlow : Hid (lowP ⟨s, N, b, x0, x1, x2, x3, x4, x5, x6⟩ = true ↔ ∀ k, k < 7 → l.getD k 0 ≤ 281474976710656) := by
      show _ ↔ _
      rw [hl, low_iff]
      simp only
      constructor
      · rintro ⟨k0, k1, k2, k3, k4, k5, k6⟩ k hk
        have : k = 0 ∨ k = 1 ∨ k = 2 ∨ k = 3 ∨ k = 4 ∨ k = 5 ∨ k = 6 := by omega
        rcases this with rfl | rfl | rfl | rfl | rfl | rfl | rfl <;> simp <;> omega
      · intro h
        have a0 := h 0 (by omega)
        have a1 := h 1 (by omega)
        have a2 := h 2 (by omega)
        have a3 := h 3 (by omega)
        have a4 := h 4 (by omega)
        have a5 := h 5 (by omega)
        have a6 := h 6 (by omega)
        simp at a0 a1 a2 a3 a4 a5 a6
        omega
    clear hR2 hl h3
    go_enter Try.func63, Try.ntmps63
    go_wp2_with (first
      | ((fail_if_success (have _ := hX1)); (refine at_box_po _ _ (by rfl) (by rfl) (by rfl) ?_); intro V1 hX1 hB1 hz1; have hk1 := cells13 hX1)
      | ((with_reducible refine (hr _).mono ?_); rintro e w2 ⟨rfl, hB2⟩; have hX2 := hX1.below hB2; have hk2 := cells13 hX2))
    go_loopw [34] (fun i wr => ∃ k : Nat, k ≤ 7 ∧ i = .int .i64 k ∧ wr = w2 ∧ Hid (∀ j, j < k → l.getD j 0 ≤ 281474976710656)) (fun i _ => 7 - (intOf i).toNat)
    case atStart => exact ⟨0, by omega, rfl, rfl, fun j hj => absurd hj (by omega)⟩
    case round =>
      obtain ⟨k, hk, rfl, rfl, HK⟩ := hrel
      by_cases hlt : k < 7
      · have hg := fun W => hg7 k hlt W
        obtain ⟨x, hx⟩ : ∃ x, x = l.getD k 0 := ⟨_, rfl⟩
        rw [← hx] at hg
        have HX : Hid (x = l.getD k 0) := hx
        clear hx hg7
        have hlt2 : (k : Int) < 7 := by omega
        by_cases hb : 281474976710656 < x
        · obtain rfl : R = false := by
            rw [hR3.out]
            cases hlo : lowP ⟨s, N, b, x0, x1, x2, x3, x4, x5, x6⟩ with
            | false => simp
            | true => have := hlow.out.1 hlo k hlt; rw [← HX.out] at this; exact absurd hb (by omega)
          go_wp2
          go_ret
          exact ⟨rfl, bnext hB1 hB2⟩
        · go_wp2
          go_roundw
          case rel => exact ⟨k + 1, by omega, by go_num, trivial, fun j hj => by
            rcases Nat.lt_or_ge j k with h | h
            · exact HK.out j h
            · obtain rfl : j = k := by omega
              rw [← HX.out]; omega⟩
          case measure => simp [intOf]; omega
      · obtain rfl : k = 7 := by omega
        clear hg7
        have hlo := hlow.out.2 HK.out
        have hR4 : Hid (R = (decide (1500 ≤ x5) && decide (1500 ≤ x6))) := by
          show _ = _
          rw [hR3.out, hlo]; simp
        by_cases h5 : (1500 : Int) ≤ x5
        · by_cases h6 : (1500 : Int) ≤ x6
          · obtain rfl : R = true := by rw [hR4.out]; simp; omega
            go_wp2
            go_ret
            exact ⟨rfl, bnext hB1 hB2⟩
          · obtain rfl : R = false := by rw [hR4.out]; simp; omega
            have h6b : decide ((1500 : Int) ≤ x6) = false := decide_eq_false h6
            go_wp2
            go_ret
            exact ⟨rfl, bnext hB1 hB2⟩
        · obtain rfl : R = false := by rw [hR4.out]; simp; omega
          go_wp2
          go_ret
          exact ⟨rfl, bnext hB1 hB2⟩
end Go.Proofs.Ytnaofcggdjbocaa.Policy
