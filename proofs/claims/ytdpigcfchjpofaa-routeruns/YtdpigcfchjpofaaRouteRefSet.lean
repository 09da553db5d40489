/-
  The document's answers, as they are typed out: Before, Set.
-/
import Derived.Test.YtdpigcfchjpofaaRouteRef
import Derived.Deep.RegionHeld
namespace Go.Proofs.Ytdpigcfchjpofaa.Route
open Go.RowKit Go.Maps Go.Proofs.Ytdpigcfchjpofaa.Mem Go.Proofs.Ytdpigcfchjpofaa.Addr

/-- What stands all along: the two routes in their boxes. -/
def Bs (a b : Rt) (w W : World) : Prop := Blk W w.heap.size 42 (rc a) ∧ Blk W (w.heap.size + 1) 42 (rc b) ∧ Below w.heap.size w W
theorem Bs.next {a b : Rt} {w W W' : World} (h : Bs a b w W) (k : Below W.heap.size W W') : Bs a b w W' := ⟨h.1.below k, h.2.1.below k, bnext h.2.2 k⟩
theorem Bs.cells {a b : Rt} {w W : World} (h : Bs a b w W) :
    Bs a b w W ∧ W.cell? ⟨w.heap.size, 0, none⟩ = some (.int .u8 (b0 a.1)) ∧ W.cell? ⟨w.heap.size, 1, none⟩ = some (.int .u8 (b1 a.1)) ∧ W.cell? ⟨w.heap.size, 2, none⟩ = some (.int .u8 (b2 a.1)) ∧ W.cell? ⟨w.heap.size, 3, none⟩ = some (.int .u8 (b3 a.1)) ∧
    W.cell? ⟨w.heap.size + 1, 0, none⟩ = some (.int .u8 (b0 b.1)) ∧ W.cell? ⟨w.heap.size + 1, 1, none⟩ = some (.int .u8 (b1 b.1)) ∧ W.cell? ⟨w.heap.size + 1, 2, none⟩ = some (.int .u8 (b2 b.1)) ∧ W.cell? ⟨w.heap.size + 1, 3, none⟩ = some (.int .u8 (b3 b.1)) :=
  ⟨h, h.1.cell 0, h.1.cell 1, h.1.cell 2, h.1.cell 3, h.2.1.cell 0, h.2.1.cell 1, h.2.1.cell 2, h.2.1.cell 3⟩
set_option maxRecDepth 100000 in
set_option maxHeartbeats 4000000 in
theorem rref_Before (a b : Rt) (ha : ROk a) (hb : ROk b) (w : World) :
    Calls Try.prog 23 #[.agg (rc a).toArray, .agg (rc b).toArray] w fun e w' => e = .returned (.bool (ltK (kof a) (kof b))) ∧ Below w.heap.size w w' := by
  have hN1 := fun w => ref_Num a.1 ha.1.1 w
  have hN2 := fun w => ref_Num b.1 hb.1.1 w
  unfold adr at hN1 hN2
  have HL : Hid (ltK (kof a) (kof b) = (decide (a.1 < b.1) || (decide (a.1 = b.1) && decide (a.2.1 < b.2.1)))) := rfl
  have S0 : Bs a b w ((w.alloc (.cells #[.int .u8 (b0 a.1), .int .u8 (b1 a.1), .int .u8 (b2 a.1), .int .u8 (b3 a.1), .int .i64 a.2.1, .int .i64 a.2.2] 42)).alloc (.cells #[.int .u8 (b0 b.1), .int .u8 (b1 b.1), .int .u8 (b2 b.1), .int .u8 (b3 b.1), .int .i64 b.2.1, .int .i64 b.2.2] 42)) :=
    ⟨(Blk.new w _ _).alloc _, Blk.new1 _ (by simp) _ _, bnext (bnew _ _) (bnew _ _)⟩
  have S1 := S0.next (Below.refl _ _).drew
  unfold rc
  go_enter Try.func23, Try.ntmps23
  go_wp2
  generalize (w.alloc (.cells #[.int .u8 (b0 a.1), .int .u8 (b1 a.1), .int .u8 (b2 a.1), .int .u8 (b3 a.1), .int .i64 a.2.1, .int .i64 a.2.2] 42)).alloc (.cells #[.int .u8 (b0 b.1), .int .u8 (b1 b.1), .int .u8 (b2 b.1), .int .u8 (b3 b.1), .int .i64 b.2.1, .int .i64 b.2.2] 42) = W at S0 S1 ⊢
  have F1 := S1.cells
  go_region_held (fun W => Bs a b w W ∧ W.cell? ⟨w.heap.size, 0, none⟩ = some (.int .u8 (b0 a.1)) ∧ W.cell? ⟨w.heap.size, 1, none⟩ = some (.int .u8 (b1 a.1)) ∧ W.cell? ⟨w.heap.size, 2, none⟩ = some (.int .u8 (b2 a.1)) ∧ W.cell? ⟨w.heap.size, 3, none⟩ = some (.int .u8 (b3 a.1)) ∧
    W.cell? ⟨w.heap.size + 1, 0, none⟩ = some (.int .u8 (b0 b.1)) ∧ W.cell? ⟨w.heap.size + 1, 1, none⟩ = some (.int .u8 (b1 b.1)) ∧ W.cell? ⟨w.heap.size + 1, 2, none⟩ = some (.int .u8 (b2 b.1)) ∧ W.cell? ⟨w.heap.size + 1, 3, none⟩ = some (.int .u8 (b3 b.1)))
    (assumption)
    (first
      | ((with_reducible refine (hN1 _).mono ?_); rintro e w6 ⟨rfl, hb6⟩; replace S1 := S1.next hb6; have F6 := S1.cells)
      | ((with_reducible refine (hN2 _).mono ?_); rintro e w6 ⟨rfl, hb6⟩; replace S1 := S1.next hb6; have F6 := S1.cells))
  all_goals
    have m1 := S1.1.cell
    have m2 := S1.2.1.cell
    unfold rc at m1 m2
    go_wp2
  all_goals go_ret
  all_goals refine ⟨?_, S1.2.2⟩
  all_goals rw [HL.out]
  · have hq : a.1 = b.1 := by omega
    exact congrArg (fun v => Ending.returned (Value.bool v)) (by simp [hq])
  · have hq : ¬ a.1 = b.1 := by omega
    exact congrArg (fun v => Ending.returned (Value.bool v)) (by simp [hq])
  · have hq : a.1 < b.1 := by omega
    exact congrArg (fun v => Ending.returned (Value.bool v)) (by simp [hq])
theorem run_from_r (w : World) (p : Option Addr) (n cap l : Nat) (hl : l ≤ n) :
    (Instr.slice 33 (.slice p n cap) (some (.int .i64 (l : Int))) none none).run Try.prog w = .ok (.slice (cutK 6 p cap l) (n - l) (cap - l)) w := by
  have ht : Try.prog.underlying 33 = some (.slice (Try.prog.elem 33)) := by simp [Program.elem, Try.underlying33]
  have he : Try.prog.elem 33 = 42 := by simp [Program.elem, Try.underlying33]
  rw [run_slice_l w 33 p n cap ht .i64 (l : Int) (by omega) (by omega), he, Try.sizeOf42]
  simp [Result.andThen, sliced, cutK]
theorem run_upto_r (w : World) (b o n cap l : Nat) (hl : l ≤ cap) :
    (Instr.slice 33 (.slice (some ⟨b, o, none⟩) n cap) none (some (.int .i64 (l : Int))) none).run Try.prog w = .ok (.slice (some ⟨b, o, none⟩) l cap) w := by
  have ht : Try.prog.underlying 33 = some (.slice (Try.prog.elem 33)) := by simp [Program.elem, Try.underlying33]
  have he : Try.prog.elem 33 = 42 := by simp [Program.elem, Try.underlying33]
  rw [run_slice_h w 33 _ n cap ht .i64 (l : Int) (by omega) (by omega), he, Try.sizeOf42]
  simp [Result.andThen, sliced, Addr.add_lit]
/-- Where the routes ahead of one end. -/
def Ahead (L : List Rt) (k : Nt) (i : Nat) : Prop := i ≤ L.length ∧ ∀ j x, j < i → L[j]? = some x → ltK (kof x) k = true
theorem ahead_cut : ∀ {L : List Rt} {k : Nt} {i : Nat}, Ahead L k i → (∀ x, L[i]? = some x → ltK (kof x) k = false) → L.takeWhile (fun x => ltK (kof x) k) = L.take i ∧ L.dropWhile (fun x => ltK (kof x) k) = L.drop i
  | [], _, i, _, _ => by simp
  | a :: r, k, 0, _, h2 => by
    have := h2 a rfl
    simp [this]
  | a :: r, k, i + 1, h1, h2 => by
    have ha := h1.2 0 a (by omega) rfl
    have := ahead_cut (L := r) (k := k) (i := i) ⟨by have := h1.1; simp at this; omega, fun j x hj hx => h1.2 (j + 1) x (by omega) (by simpa using hx)⟩ fun x hx => h2 x (by simpa using hx)
    simp [ha, this]
end Go.Proofs.Ytdpigcfchjpofaa.Route
