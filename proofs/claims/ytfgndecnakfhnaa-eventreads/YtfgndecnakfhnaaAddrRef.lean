/-
  The document's numbers and networks: Of, Num, bounded, Cut.
-/
import Derived.Test.YtfgndecnakfhnaaAddrNet
namespace Go.Proofs.Ytfgndecnakfhnaa.Addr
open Go.RowKit Go.Proofs.Ytfgndecnakfhnaa.Mem

theorem ref_Of (N : Nat) (hN : N < 4294967296) (w : World) :
    Calls Try.prog 49 #[.int .u32 N] w fun e w' => e = .returned (adr N) ∧ Below w.heap.size w w' := by
  have e : adr N = .agg #[.int .u8 ((N : Int) / 16777216), .int .u8 ((N : Int) / 65536 % 256), .int .u8 ((N : Int) / 256 % 256), .int .u8 ((N : Int) % 256)] := by
    unfold adr b0 b1 b2 b3
    simp
    omega
  rw [e]
  go_enter Try.func49, Try.ntmps49
  go_wp2
  exact bodyPost_ret (by simp [results, Try.results49, go_sem]) rfl ⟨rfl, bnew _ _⟩
theorem rnum_core (c0 c1 c2 c3 : Nat) (h0 : c0 < 256) (h1 : c1 < 256) (h2 : c2 < 256) (h3 : c3 < 256) (w : World) :
    Calls Try.prog 43 #[.agg #[.int .u8 c0, .int .u8 c1, .int .u8 c2, .int .u8 c3]] w fun e w' => e = .returned (.int .u32 ((c0 * 16777216 + c1 * 65536 + c2 * 256 + c3 : Nat) : Int)) ∧ Below w.heap.size w w' := by
  go_enter Try.func43, Try.ntmps43
  go_wp2
  go_ret
  refine ⟨?_, bnew _ _⟩
  simp
  try omega
theorem ref_Num (N : Nat) (hN : N < 4294967296) (w : World) :
    Calls Try.prog 43 #[adr N] w fun e w' => e = .returned (.int .u32 N) ∧ Below w.heap.size w w' := by
  have h := rnum_core (b0 N) (b1 N) (b2 N) (b3 N) (b0_lt N) (b1_lt N) (b2_lt N) (b3_lt N) w
  rw [bytes_num hN] at h
  exact h
theorem ref_bounded (b : Int) (w : World) :
    Calls Try.prog 63 #[.int .i64 b] w fun e w' => e = .returned (.int .i64 (held b)) ∧ w' = w := by
  go_enter Try.func63, Try.ntmps63
  go_wp2
  all_goals
    go_ret
    refine ⟨?_, rfl⟩
    simp
    unfold held
    omega
set_option maxRecDepth 100000 in
theorem ref_Cut (N : Nat) (hN : N < 4294967296) (b : Int) (w : World) :
    Calls Try.prog 64 #[adr N, .int .i64 b] w fun e w' => e = .returned (net (cutN N (held b)) (held b)) ∧ Below w.heap.size w w' := by
  obtain ⟨k, hk, hh⟩ : ∃ k, k ≤ 32 ∧ held b = k := ⟨_, held_le b, rfl⟩
  have hn := fun w => ref_Num N hN w
  have hc := fun w => ref_bounded b w
  have ho := fun w => ref_Of (cutN N k) (cutN_lt hN k) w
  rw [hh] at hc ⊢
  clear hh
  have HR : Hid (cutN N k = N / 2 ^ (32 - k) * 2 ^ (32 - k)) := rfl
  have HL : Hid (cutN N k ≤ N) := cutN_le N k
  generalize cutN N k = R at ho HR HL ⊢
  unfold adr at hn ho ⊢
  unfold net
  go_enter Try.func64, Try.ntmps64
  go_wp2_with (first
    | (go_at_call 43; refine (hn _).mono ?_; rintro e w1 ⟨rfl, hb1⟩; have hbox : Box5 w1 (w.heap.size + 1) (.int .u8 0) (.int .u8 0) (.int .u8 0) (.int .u8 0) (.int .i64 0) := (by simpa using (new5 (w.alloc _) _ _ _ _ _ _).below hb1))
    | (go_at_call 63; refine (hc _).mono ?_; rintro e w2 ⟨rfl, rfl⟩))
  go_loop [5, 7] (fun x i => ∃ j : Nat, k + j ≤ 32 ∧ i = .int .i64 ((k + j : Nat) : Int) ∧ x = .int .u32 ((N / 2 ^ j : Nat) : Int)) (fun _ i => 32 - (intOf i).toNat)
  case atStart => exact ⟨0, by omega, by simp, by simp⟩
  case round =>
    obtain ⟨j, hj, rfl, rfl⟩ := hrel
    have hlt : N / 2 ^ j < 4294967296 := Nat.lt_of_le_of_lt (Nat.div_le_self _ _) hN
    have hs : N / 2 ^ (j + 1) = N / 2 ^ j / 2 := by rw [Nat.pow_succ, Nat.div_div_eq_div_mul]
    by_cases hlast : k + j = 32
    · have ej : j = 32 - k := by omega
      rw [ej, show k + (32 - k) = 32 by omega]
      clear hs hlt ej hj hlast
      have hM1 : N / 2 ^ (32 - k) * 2 ^ (32 - k) ≤ N := Nat.div_mul_le_self _ _
      generalize N / 2 ^ (32 - k) = M at hM1 HR ⊢
      have HM : Hid (M * 2 ^ (32 - k) < 4294967296) := by show _ < _; omega
      clear hM1
      go_wp2_with fail
      go_loop [5, 8] (fun x i => ∃ j : Nat, k + j ≤ 32 ∧ i = .int .i64 ((k + j : Nat) : Int) ∧ x = .int .u32 ((M * 2 ^ j : Nat) : Int)) (fun _ i => 32 - (intOf i).toNat)
      case atStart => exact ⟨0, by omega, by simp, by simp⟩
      case round =>
        obtain ⟨j, hj, rfl, rfl⟩ := hrel
        by_cases hlast : k + j = 32
        · have ej : j = 32 - k := by omega
          rw [ej, show k + (32 - k) = 32 by omega, ← HR.out]
          clear ej hj hlast
          go_wp2_with (go_at_call 49; refine (ho _).mono ?_; rintro e w3 ⟨rfl, hb3⟩; obtain ⟨⟨l0, l1, l2, l3, g0, g1, g2, g3, hl⟩, l4, g4⟩ := hbox.below hb3)
          have hbw := bnext (bnext (bal (bnew w _) _) hb1) hb3
          refine bodyPost_ret (by simp [results, Try.results64, go_sem, l0, l1, l2, l3, l4]) rfl ⟨rfl, ?_⟩
          repeat (first | with_reducible exact hbw | with_reducible apply Below.drew | with_reducible apply bal | with_reducible refine Below.setCell ?_ (by simp) _)
        · have hs : M * 2 ^ (j + 1) = M * 2 ^ j * 2 := by rw [Nat.pow_succ, Nat.mul_assoc]
          have hle : M * 2 ^ (j + 1) ≤ M * 2 ^ (32 - k) := Nat.mul_le_mul_left _ (Nat.pow_le_pow_right (by decide) (by omega))
          have hlt : M * 2 ^ j * 2 < 4294967296 := by have := HM.out; omega
          obtain ⟨q, hq⟩ : ∃ q, q = M * 2 ^ j := ⟨_, rfl⟩
          obtain ⟨c, hcc⟩ : ∃ c, c = k + j := ⟨_, rfl⟩
          rw [← hq] at hlt hs ⊢
          rw [← hcc] at hlast hj ⊢
          have HQ : Hid (M * 2 ^ (j + 1) = q * 2) := hs
          have HC : Hid (c = k + j) := hcc
          clear hs hle hq hcc
          go_wp2_with fail
          go_round
          case rel => exact ⟨j + 1, by have := HC.out; omega, by have := HC.out; simp; omega, by rw [HQ.out]; simp; try omega⟩
          case measure => simp [intOf]; omega
    · obtain ⟨q, hq⟩ : ∃ q, q = N / 2 ^ j := ⟨_, rfl⟩
      obtain ⟨c, hcc⟩ : ∃ c, c = k + j := ⟨_, rfl⟩
      rw [← hq] at hlt hs ⊢
      rw [← hcc] at hlast hj ⊢
      have HQ : Hid (N / 2 ^ (j + 1) = q / 2) := hs
      have HC : Hid (c = k + j) := hcc
      clear hs hq hcc
      go_wp2_with fail
      go_round
      case rel => exact ⟨j + 1, by have := HC.out; omega, by have := HC.out; simp; omega, by rw [HQ.out]; simp; try omega⟩
      case measure => simp [intOf]; omega
end Go.Proofs.Ytfgndecnakfhnaa.Addr
