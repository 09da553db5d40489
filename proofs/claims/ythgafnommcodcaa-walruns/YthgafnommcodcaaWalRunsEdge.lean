/-
  Whatever is done with a log: where there is no log, or nothing is asked.
-/
import Derived.Test.YthgafnommcodcaaWalTwo
namespace Go.Proofs.Ythgafnommcodcaa.Wal
open Go.RowKit Go.Proofs.Ythgafnommcodcaa.Mem Go.Proofs.Ythgafnommcodcaa.Sect Go.Proofs.Ythgafnommcodcaa.Frame Go.Proofs.Ythgafnommcodcaa.Disk Go.Proofs.Ythgafnommcodcaa.Area
set_option maxRecDepth 100000

theorem runs_high (x : Int) (y0 y1 : Int) (q0 : Option Addr) (n0 c0 : Nat) (w : World) (h : 140 < x ∨ 60 < n0 ∨ 100 < y1) :
    Calls Try.prog 4 #[.int .i64 x, .agg #[.int .u64 y0, .int .u64 y1], .slice q0 n0 c0] w fun e w' => e = .returned (.bool true) ∧ Below w.heap.size w w' := by
  rcases (show 140 < x ∨ (x ≤ 140 ∧ 60 < n0) ∨ (x ≤ 140 ∧ n0 ≤ 60 ∧ 100 < y1) by omega) with h | ⟨h1, h⟩ | ⟨h1, h2, h⟩
  all_goals
    try have m1 : decide (140 < x) = false := decide_eq_false (by omega)
    try have m2 : decide ((60 : Int) < (n0 : Int)) = false := decide_eq_false (by omega)
    try have m3 : (60 : Int) < (n0 : Int) := by omega
    go_enter Try.func4, Try.ntmps4
    go_wp2_with ((with_reducible refine (alive_any _).mono ?_); rintro e w1 ⟨rfl, hb1⟩; have hb01 := bnext (bnew w (.cells #[.int .u64 y0, .int .u64 y1] 34)) hb1; have hk1 : ∀ i, w1.cell? ⟨w.heap.size, i, none⟩ = [Value.int .u64 y0, .int .u64 y1][i]? := ((Blk.new w #[.int .u64 y0, .int .u64 y1] 34).below hb1).cell)
    go_ret
    exact ⟨rfl, hb01⟩
set_option maxHeartbeats 2000000 in
theorem runs_none (x : Int) (y0 y1 : Int) (q0 : Option Addr) (n0 c0 : Nat) (w : World) (hy0 : Word y0) (hy1 : Word y1) (hx140 : ¬ 140 < x) (hn60 : ¬ 60 < n0) (hy100 : ¬ 100 < y1) (n : Nat) (hcl : clamp x = n) (s0 : Nat) (hs0 : (s0 : Int) = y0) {E : Int} (hE : chk (n : Int) (y1 - 1) s0 = E) (hE0 : E = 91 ∨ E = 81) :
    Calls Try.prog 4 #[.int .i64 x, .agg #[.int .u64 y0, .int .u64 y1], .slice q0 n0 c0] w fun e w' => e = .returned (.bool true) ∧ Below w.heap.size w w' := by
  have hw1 : IntKind.i64.wrap y1 = y1 := wrap_int ⟨by have := hy1.1; omega, by omega⟩
  obtain ⟨k, hk⟩ : ∃ k, y1 - 1 = k := ⟨_, rfl⟩
  have hw2 : IntKind.i64.wrap (y1 - 1) = k := by rw [hk]; exact wrap_int ⟨by have := hy1.1; omega, by omega⟩
  rw [hk] at hE
  have e0 : decide (140 < x) = false := decide_eq_false hx140
  have e1 : decide ((60 : Int) < (n0 : Int)) = false := decide_eq_false (by omega)
  have e2 : decide (100 < y1) = false := decide_eq_false hy100
  have hne : E ≠ 0 := by rcases hE0 with rfl | rfl <;> decide
  have hst0 : ∀ {B S0 W g}, Dk B S0 W g (fresh n) → Calls Try.prog 9 #[.pointer (some ⟨g, 0, none⟩), .int .u32 5, .int .u64 (s0 : Int), .int .i64 k] W fun e w' => e = .returned (.tuple #[.pointer none, .int .i64 E]) ∧ w' = W := fun h => wal_Start_no h 5 s0 k (by rw [show (fresh n).st.length = n by simp [fresh]]; exact hE) hne
  have hrst : ∀ W, Calls Try.prog 13 #[.int .i64 (n : Int), .int .u32 5, .int .u64 (s0 : Int), .int .i64 k] W fun e w' => e = .returned (.tuple #[lv ⟨0, 0, 0, 0, 0⟩, .int .i64 E]) ∧ Below W.heap.size W w' := fun W => ref_Start_no (n : Int) k 5 s0 hE hne W
  have hnew := fun W => new_any x W
  have hrnew := fun W => rnew_any x W
  rw [hcl] at hnew hrnew
  have hfl : (rfresh n).st.length = n := by simp [rfresh]
  subst hs0
  clear hk hE
  rcases hE0 with rfl | rfl
  all_goals
    go_enter Try.func4, Try.ntmps4
    go_wp2_with (first
      | ((fail_if_success (have _ := hb1)); (with_reducible refine (alive_any _).mono ?_); rintro e w1 ⟨rfl, hb1⟩; have hbg1 := (Blk.new w #[.int .u64 (s0 : Int), .int .u64 y1] 34).below hb1; have hk1 : ∀ i, w1.cell? ⟨w.heap.size, i, none⟩ = [Value.int .u64 (s0 : Int), .int .u64 y1][i]? := hbg1.cell; have hb01 := bnext (bnew w (.cells #[.int .u64 (s0 : Int), .int .u64 y1] 34)) hb1)
      | ((fail_if_success (have _ := hD2)); (have _ := hb1); (with_reducible refine (hnew _).mono ?_); rintro e w2 ⟨g, T2, rfl, hD2, hb2⟩)
      | ((fail_if_success (have _ := hr3)); (have _ := hD2); (with_reducible refine (hrnew _).mono ?_); rintro e w3 ⟨p3, c3, rfl, hr3, hp3, hb3⟩)
      | ((fail_if_success (have _ := hX4)); (have _ := hr3); (refine at_alloc_rd (by rfl) (by rfl) ?_); intro W4 hX4 hB4 hz4)
      | ((fail_if_success (have _ := hX5)); (have _ := hX4); (refine at_store_rd _ _ _ _ (rfresh n) p3 c3 none 0 (by rfl) (by rfl) (by rfl) hX4 (by simp [rl]) (by rfl) ?_); intro W5 hX5 hg5 hz5; have hb5 := hB4.grown hg5 hB4.size (by simp); have hD5 := (hD2.below hb3).below hb5; have hbg5 := hbg1.below (bnext hb2 (bnext hb3 hb5)); have hk5 : ∀ i, W5.cell? ⟨w.heap.size, i, none⟩ = [Value.int .u64 (s0 : Int), .int .u64 y1][i]? := hbg5.cell; have hc5 : ∀ i, W5.cell? ⟨w3.heap.size, i, none⟩ = [Value.slice p3 (rfresh n).st.length c3, .slice none 0 0, .bool false, .int .i64 (rfresh n).lf, .bool false][i]? := hX5.cell; rw [hfl] at hc5)
      | ((fail_if_success (have _ := hz6)); (have _ := hX5); (with_reducible refine (hst0 hD5).mono ?_); rintro e w6 ⟨rfl, hw⟩; rw [hw]; clear hw; have hz6 : True := trivial)
      | ((fail_if_success (have _ := hb7)); (have _ := hz6); (with_reducible refine (hrst _).mono ?_); rintro e w7 ⟨rfl, hb7⟩)
      | ((fail_if_success (have _ := hZ8)); (have _ := hb7); (refine at_alloc_ll (by rfl) (by rfl) ?_); intro V8 hZ8 hB8 hz8)
      | ((fail_if_success (have _ := hZ9)); (have _ := hZ8); (refine at_store_ll _ _ _ _ ⟨0, 0, 0, 0, 0⟩ (by rfl) (by rfl) (by rfl) hZ8 rfl (by rfl) ?_); intro V9 hZ9 hg9 hz9; have hb9 := hB8.grown hg9 hB8.size (by simp)))
    go_ret
    exact ⟨rfl, bnext hb01 (bnext (bnext hb2 (bnext hb3 hb5)) (bnext hb7 hb9))⟩
end Go.Proofs.Ythgafnommcodcaa.Wal
