/-
  How two routes of a list follow each other, as the sort asks for it.
-/
import Derived.Test.YtdpigcfchjpofaaRouteFind
import Derived.Shelf.SlSortCmp.WholeK
import Derived.Deep.RegionHeld
namespace Go.Proofs.Ytdpigcfchjpofaa.Route
open Go.RowKit Go.Maps Go.Proofs.Ytdpigcfchjpofaa.Mem Go.Proofs.Ytdpigcfchjpofaa.Addr
open Go.Sort (grow)

/-- Nothing has turned but that blocks were laid and answers drawn. -/
def Gr (w w' : World) : Prop := ∃ q os, w' = grow (w.drewN q) os
theorem Gr.refl (w : World) : Gr w w := ⟨0, #[], by simp; rfl⟩
theorem Gr.trans {a b c : World} (h : Gr a b) (k : Gr b c) : Gr a c := by
  obtain ⟨q, os, rfl⟩ := h
  obtain ⟨q', os', rfl⟩ := k
  refine ⟨q + q', os ++ os', ?_⟩
  simp [grow, World.drewN, Nat.add_assoc]
theorem Gr.new (w : World) (o : Obj) : Gr w (w.alloc o) := ⟨0, #[o], Sort.alloc_eq_grow w o⟩
theorem Gr.drew (w : World) : Gr w w.drew := ⟨1, #[], by rw [Sort.grow_empty]; rfl⟩
theorem Gr.below {w w' : World} (h : Gr w w') : Below w.heap.size w w' := by
  obtain ⟨q, os, rfl⟩ := h
  exact ⟨rfl, rfl, rfl, by simp [grow, World.drewN], fun k hk => by simp only [grow, World.drewN]; exact Array.getElem?_append_left hk⟩

set_option maxRecDepth 100000 in
theorem num_gr (c0 c1 c2 c3 : Nat) (h0 : c0 < 256) (h1 : c1 < 256) (h2 : c2 < 256) (h3 : c3 < 256) (w : World) :
    Calls Try.prog 37 #[.agg #[.int .u8 c0, .int .u8 c1, .int .u8 c2, .int .u8 c3]] w fun e w' => e = .returned (.int .u32 ((c0 * 16777216 + c1 * 65536 + c2 * 256 + c3 : Nat) : Int)) ∧ Gr w w' := by
  have i0 := fun w => (idx4 c0 c1 c2 c3 w).1
  have i1 := fun w => (idx4 c0 c1 c2 c3 w).2.1
  have i2 := fun w => (idx4 c0 c1 c2 c3 w).2.2.1
  have i3 := fun w => (idx4 c0 c1 c2 c3 w).2.2.2
  go_enter Try.func37, Try.ntmps37
  go_wp2
  refine wp_loop_rounds 5 ?_
  rw [rounds_succ]
  go_wp2
  rw [rounds_succ]
  go_wp2
  rw [rounds_succ]
  go_wp2
  rw [rounds_succ]
  go_wp2
  rw [rounds_succ]
  go_wp2
  go_ret
  refine ⟨?_, Gr.new _ _⟩
  have e0 : bits .or .u32 0 (c0 : Int) = (c0 : Int) := by
    have := u32_or_nat 0 c0 (by decide) (by omega)
    simpa using this
  simp [e0, or_step (c0 : Int) c1 (by omega) (by omega) (by omega) (by omega), or_step ((c0 : Int) * 256 + c1) c2 (by omega) (by omega) (by omega) (by omega), or_step (((c0 : Int) * 256 + c1) * 256 + c2) c3 (by omega) (by omega) (by omega) (by omega)]
  omega
def cmp (x y : Int) : Int := if x < y then -1 else if y < x then 1 else 0
theorem isNaN_u32 (x : Int) (w : World) : Calls Try.prog 52 #[.int .u32 x] w fun e w' => e = .returned (.bool false) ∧ w' = w := by
  go_enter Try.func52, Try.ntmps52
  go_wp2
  go_ret
  exact ⟨by simp, rfl⟩
theorem isNaN_int (x : Int) (w : World) : Calls Try.prog 53 #[.int .i64 x] w fun e w' => e = .returned (.bool false) ∧ w' = w := by
  go_enter Try.func53, Try.ntmps53
  go_wp2
  go_ret
  exact ⟨by simp, rfl⟩
theorem cmp_u32 (x y : Int) (w : World) : Calls Try.prog 36 #[.int .u32 x, .int .u32 y] w fun e w' => e = .returned (.int .i64 (cmp x y)) ∧ w' = w := by
  have hn := isNaN_u32
  go_enter Try.func36, Try.ntmps36
  go_wp2_with (go_at_call 52; refine (hn _ _).mono ?_; rintro e w1 ⟨rfl, rfl⟩)
  all_goals (go_ret; refine ⟨?_, rfl⟩; unfold cmp; (repeat' split) <;> first | rfl | (exfalso; omega))
theorem cmp_int (x y : Int) (w : World) : Calls Try.prog 38 #[.int .i64 x, .int .i64 y] w fun e w' => e = .returned (.int .i64 (cmp x y)) ∧ w' = w := by
  have hn := isNaN_int
  go_enter Try.func38, Try.ntmps38
  go_wp2_with (go_at_call 53; refine (hn _ _).mono ?_; rintro e w1 ⟨rfl, rfl⟩)
  all_goals (go_ret; refine ⟨?_, rfl⟩; unfold cmp; (repeat' split) <;> first | rfl | (exfalso; omega))
def orI (x y : Int) : Int := if x = 0 then y else x
theorem or_two (x y : Int) (B : Nat) (w : World) (h0 : w.cell? ⟨B, 0, none⟩ = some (.int .i64 x)) (h1 : w.cell? ⟨B, 1, none⟩ = some (.int .i64 y)) :
    Calls Try.prog 35 #[.slice (some ⟨B, 0, none⟩) 2 2] w fun e w' => e = .returned (.int .i64 (orI x y)) ∧ w' = w := by
  by_cases hx : x = 0
  · have e : orI x y = y := by simp [orI, hx]
    have ex : (x != 0) = false := by simp [hx]
    rw [e]
    by_cases hy : y = 0
    · subst hy
      subst hx
      go_enter Try.func35, Try.ntmps35
      go_wp2
      refine wp_loop_rounds 3 ?_
      rw [rounds_succ]
      go_wp2
      rw [rounds_succ]
      go_wp2
      rw [rounds_succ]
      go_wp2
      go_ret
      exact ⟨rfl, rfl⟩
    · have ey : (y != 0) = true := by simp [hy]
      go_enter Try.func35, Try.ntmps35
      go_wp2
      refine wp_loop_rounds 3 ?_
      rw [rounds_succ]
      go_wp2
      rw [rounds_succ]
      go_wp2
      go_ret
      exact ⟨rfl, rfl⟩
  · have e : orI x y = x := by simp [orI, hx]
    have ex : (x != 0) = true := by simp [hx]
    rw [e]
    go_enter Try.func35, Try.ntmps35
    go_wp2
    refine wp_loop_rounds 3 ?_
    rw [rounds_succ]
    go_wp2
    go_ret
    exact ⟨rfl, rfl⟩

/-- What stands all along: the two routes in their boxes. -/
def Os (a b : Rt) (w W : World) : Prop := Blk W w.heap.size 42 (rc a) ∧ Blk W (w.heap.size + 1) 42 (rc b) ∧ Gr w W
theorem Os.next {a b : Rt} {w W W' : World} (h : Os a b w W) (k : Gr W W') : Os a b w W' := ⟨h.1.below k.below, h.2.1.below k.below, h.2.2.trans k⟩
theorem Os.cells {a b : Rt} {w W : World} (h : Os a b w W) :
    Os a b w W ∧ W.cell? ⟨w.heap.size, 0, none⟩ = some (.int .u8 (b0 a.1)) ∧ W.cell? ⟨w.heap.size, 1, none⟩ = some (.int .u8 (b1 a.1)) ∧ W.cell? ⟨w.heap.size, 2, none⟩ = some (.int .u8 (b2 a.1)) ∧ W.cell? ⟨w.heap.size, 3, none⟩ = some (.int .u8 (b3 a.1)) ∧ W.cell? ⟨w.heap.size, 4, none⟩ = some (.int .i64 a.2.1) ∧
    W.cell? ⟨w.heap.size + 1, 0, none⟩ = some (.int .u8 (b0 b.1)) ∧ W.cell? ⟨w.heap.size + 1, 1, none⟩ = some (.int .u8 (b1 b.1)) ∧ W.cell? ⟨w.heap.size + 1, 2, none⟩ = some (.int .u8 (b2 b.1)) ∧ W.cell? ⟨w.heap.size + 1, 3, none⟩ = some (.int .u8 (b3 b.1)) ∧ W.cell? ⟨w.heap.size + 1, 4, none⟩ = some (.int .i64 b.2.1) :=
  ⟨h, h.1.cell 0, h.1.cell 1, h.1.cell 2, h.1.cell 3, h.1.cell 4, h.2.1.cell 0, h.2.1.cell 1, h.2.1.cell 2, h.2.1.cell 3, h.2.1.cell 4⟩
theorem bytes_mod (N : Nat) : b0 N * 16777216 + b1 N * 65536 + b2 N * 256 + b3 N = N % 4294967296 := by unfold b0 b1 b2 b3; omega
theorem num_mod (N : Nat) (w : World) : Calls Try.prog 37 #[.agg #[.int .u8 (b0 N), .int .u8 (b1 N), .int .u8 (b2 N), .int .u8 (b3 N)]] w fun e w' => e = .returned (.int .u32 ((N % 4294967296 : Nat) : Int)) ∧ Gr w w' := by
  have h := num_gr (b0 N) (b1 N) (b2 N) (b3 N) (b0_lt N) (b1_lt N) (b2_lt N) (b3_lt N) w
  rw [bytes_mod] at h
  exact h
/-- What the program's order says of two routes. -/
def cf (a b : Rt) : Int := orI (cmp ((a.1 % 4294967296 : Nat) : Int) ((b.1 % 4294967296 : Nat) : Int)) (cmp a.2.1 b.2.1)
set_option maxRecDepth 100000 in
set_option maxHeartbeats 4000000 in
theorem order_any (a b : Rt) (w : World) :
    Calls Try.prog 27 #[.agg (rc a).toArray, .agg (rc b).toArray] w fun e w' => e = .returned (.int .i64 (cf a b)) ∧ Gr w w' := by
  have hN1 := num_mod a.1
  have hN2 := num_mod b.1
  unfold cf
  generalize ((a.1 % 4294967296 : Nat) : Int) = X at hN1 ⊢
  generalize ((b.1 % 4294967296 : Nat) : Int) = Y at hN2 ⊢
  have hC1 := cmp_u32 X Y
  have hC2 := cmp_int a.2.1 b.2.1
  generalize cmp X Y = p at hC1 ⊢
  generalize cmp a.2.1 b.2.1 = q at hC2 ⊢
  have hO := fun B w => or_two p q B w
  have S0 : Os a b w ((w.alloc (.cells #[.int .u8 (b0 a.1), .int .u8 (b1 a.1), .int .u8 (b2 a.1), .int .u8 (b3 a.1), .int .i64 a.2.1, .int .i64 a.2.2] 42)).alloc (.cells #[.int .u8 (b0 b.1), .int .u8 (b1 b.1), .int .u8 (b2 b.1), .int .u8 (b3 b.1), .int .i64 b.2.1, .int .i64 b.2.2] 42)) :=
    ⟨(Blk.new w _ _).alloc _, Blk.new1 _ (by simp) _ _, (Gr.new _ _).trans (Gr.new _ _)⟩
  have S1 := S0.next (Gr.drew _)
  unfold rc
  go_enter Try.func27, Try.ntmps27
  go_wp2
  generalize (w.alloc (.cells #[.int .u8 (b0 a.1), .int .u8 (b1 a.1), .int .u8 (b2 a.1), .int .u8 (b3 a.1), .int .i64 a.2.1, .int .i64 a.2.2] 42)).alloc (.cells #[.int .u8 (b0 b.1), .int .u8 (b1 b.1), .int .u8 (b2 b.1), .int .u8 (b3 b.1), .int .i64 b.2.1, .int .i64 b.2.2] 42) = W at S0 S1 ⊢
  have F1 := S1.cells
  have keyF := fun W (h : Os a b w W) => Os.cells h
  go_region_held (fun W => Os a b w W ∧ W.cell? ⟨w.heap.size, 0, none⟩ = some (.int .u8 (b0 a.1)) ∧ W.cell? ⟨w.heap.size, 1, none⟩ = some (.int .u8 (b1 a.1)) ∧ W.cell? ⟨w.heap.size, 2, none⟩ = some (.int .u8 (b2 a.1)) ∧ W.cell? ⟨w.heap.size, 3, none⟩ = some (.int .u8 (b3 a.1)) ∧ W.cell? ⟨w.heap.size, 4, none⟩ = some (.int .i64 a.2.1) ∧
    W.cell? ⟨w.heap.size + 1, 0, none⟩ = some (.int .u8 (b0 b.1)) ∧ W.cell? ⟨w.heap.size + 1, 1, none⟩ = some (.int .u8 (b1 b.1)) ∧ W.cell? ⟨w.heap.size + 1, 2, none⟩ = some (.int .u8 (b2 b.1)) ∧ W.cell? ⟨w.heap.size + 1, 3, none⟩ = some (.int .u8 (b3 b.1)) ∧ W.cell? ⟨w.heap.size + 1, 4, none⟩ = some (.int .i64 b.2.1))
    (first | assumption | exact keyF _ (Os.next S1 (Gr.new _ _)))
    (first
      | ((with_reducible refine (hN1 _).mono ?_); rintro e w6 ⟨rfl, hb6⟩; replace S1 := S1.next hb6; have F6 := S1.cells)
      | ((with_reducible refine (hN2 _).mono ?_); rintro e w6 ⟨rfl, hb6⟩; replace S1 := S1.next hb6; have F6 := S1.cells)
      | ((with_reducible refine (hC1 _).mono ?_); rintro e w6 ⟨rfl, rfl⟩)
      | ((with_reducible refine (hC2 _).mono ?_); rintro e w6 ⟨rfl, rfl⟩)
      | (refine (hO _ _ (by simp) (by simp)).mono ?_; rintro e w6 ⟨rfl, rfl⟩))
  all_goals go_wp2
  all_goals go_ret
  all_goals exact ⟨rfl, S1.2.2.trans (Gr.new _ _)⟩
end Go.Proofs.Ytdpigcfchjpofaa.Route
