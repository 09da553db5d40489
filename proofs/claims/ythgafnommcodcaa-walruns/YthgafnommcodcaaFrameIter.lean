/-
  slices.Backward over bytes: what a loop over it meets, whatever its body does with the bytes that have come.
-/
import Derived.Test.YthgafnommcodcaaFramePlain
import Derived.Test.YthgafnommcodcaaBlk
import Derived.RangeFuncNested
import Derived.RangeFuncBound
import Derived.RangeFuncCalls
import Derived.RangeFuncLeaves
import Derived.RangeFuncBox
import Derived.Shelf.Abstract
import Derived.Shelf.RegionOpen
import Derived.WalkKit
import Derived.OwnWalkIn
import Derived.TacticsInMore
import Derived.LoopNIn
import Derived.LoopIn
import Derived.Test.YthgafnommcodcaaProg
namespace Go.Proofs.Ythgafnommcodcaa.Frame
open Go.RowKit Go.Shelf Go.Proofs.Ythgafnommcodcaa.Mem
attribute [local go_sem] Oper.semAt_some

/-- What comes: a place below n, and the byte there. -/
abbrev Pl (n : Nat) := {x : Nat × Int // x.1 < n ∧ Byte x.2}
/-- The slice in the box, and bytes in all its places. -/
def Ck (Bs b off n cap : Nat) (V : Nat → Int → Prop) (W : World) : Prop :=
  W.cell? ⟨Bs, 0, none⟩ = some (.slice (some ⟨b, off, none⟩) n cap) ∧ ∀ j, j < n → ∃ z, W.cell? ⟨b, off + j, none⟩ = some (.int .u8 z) ∧ V j z ∧ Byte z
/-- The last k places, from the last one down. -/
def Down (n : Nat) (V : Nat → Int → Prop) (k : Nat) (ys : List (Pl n)) : Prop := ys.length = k ∧ ∀ (i : Nat) (x : Pl n), ys[i]? = some x → x.1.1 + i + 1 = n ∧ V x.1.1 x.1.2
theorem Down.snoc {n k : Nat} {V : Nat → Int → Prop} {ys : List (Pl n)} (h : Down n V k ys) {x : Pl n} (hx : x.1.1 + k + 1 = n) (hv : V x.1.1 x.1.2) : Down n V (k + 1) (ys ++ [x]) := by
  obtain ⟨h1, h2⟩ := h
  refine ⟨by simp [h1], fun i y hy => ?_⟩
  rcases Nat.lt_or_ge i ys.length with hi | hi
  · rw [List.getElem?_append_left hi] at hy
    exact h2 i y hy
  · rw [List.getElem?_append_right hi] at hy
    have hl := (List.getElem?_eq_some_iff.1 hy).1
    simp at hl
    obtain rfl : i = ys.length := by omega
    simp at hy
    subst hy
    exact ⟨by omega, hv⟩
theorem Ck.kept {Bs b off n cap : Nat} {V : Nat → Int → Prop} {W W' : World} {row : Option Nat} (h : Ck Bs b off n cap V W) (hg : W.grownBy W' row) (hr : ∀ r, row = some r → ∃ o : Obj, W.heap[r]? = some o ∧ o.isCells = false) : Ck Bs b off n cap V W' :=
  ⟨cell_kept h.1 hg hr, fun j hj => by obtain ⟨z, h1, h2⟩ := h.2 j hj; exact ⟨z, cell_kept h1 hg hr, h2⟩⟩
theorem Ck.below {Bs b off n cap : Nat} {V : Nat → Int → Prop} {W W' : World} (h : Ck Bs b off n cap V W) (hb : Below W.heap.size W W') : Ck Bs b off n cap V W' := by
  have key : ∀ {a : Addr} {v : Value}, W.cell? a = some v → W'.cell? a = some v := fun {a v} hc => (hb.cell (p := a) (World.block_lt_of_cell? W _ hc)).trans hc
  exact ⟨key h.1, fun j hj => by obtain ⟨z, h1, h2⟩ := h.2 j hj; exact ⟨z, key h1, h2⟩⟩
set_option maxRecDepth 100000 in
set_option maxHeartbeats 2000000 in
theorem back_in (F : Fence) (m : Nat) (h31 : F.fn 84) (hro : F.round = none) (hm : 1 ≤ m) (l Bs b off n cap : Nat) (hn : n ≤ 1000) (V : Nat → Int → Prop) (J Jx : List (Pl n) → World → Prop)
    (hY : ∀ pre x W, J pre W → pre.length < n → YieldAt F (m - 1) Try.prog l #[.int .i64 (x.1.1 : Int), .int .u8 x.1.2] W fun e W' =>
      (e = .returned (.bool true) ∧ J (pre ++ [x]) W' ∧ (Ck Bs b off n cap V W → Ck Bs b off n cap V W')) ∨ (e = .returned (.bool false) ∧ Jx (pre ++ [x]) W'))
    (W : World) (hC : Ck Bs b off n cap V W) (h0 : J [] W) :
    CallsIn F m Try.prog 84 #[.func (.yield l) #[] #[], .pointer (some ⟨Bs, 0, none⟩)] W fun e W' => (∃ v, e = .returned v) ∧
      ((∃ ys, Down n V n ys ∧ J ys W') ∨ (∃ pre, True ∧ Jx pre W')) := by
  refine callsIn_of_wp Try.func84 rfl h31 ?_ hro
  simp only [Try.ntmps84, List.size_toArray, List.length_cons, List.length_nil, Nat.reduceAdd, Nat.reduceSub, Array.replicate_succ, Array.replicate_zero, List.push_toArray, List.append_toArray, List.nil_append, List.cons_append]
  have hb := hC.1
  gi_wp2
  gi_loopw [3] (fun i wr => ∃ (k : Nat) (ys : List (Pl n)), k ≤ n ∧ i = .int .i64 ((k : Int) - 1) ∧ Down n V (n - k) ys ∧ J ys wr ∧ Ck Bs b off n cap V wr)
    (fun i _ => (intOf i + 1).toNat)
  case atStart => exact ⟨n, [], Nat.le_refl _, rfl, ⟨by simp, by simp⟩, h0, hC⟩
  case round =>
    obtain ⟨k, ys, hk, rfl, hd, hJs, hCk⟩ := hrel
    have hb2 := hCk.1
    cases k with
    | zero =>
      gi_wp2
      go_end0
      exact ⟨⟨_, rfl⟩, .inl ⟨ys, hd, hJs⟩⟩
    | succ k =>
      have ek : ((k + 1 : Nat) : Int) - 1 = (k : Int) := by omega
      rw [ek]
      obtain ⟨z, hz, hv, hby⟩ := hCk.2 k (by omega)
      obtain ⟨fn, tmps, assign, body, hy, hR⟩ := hY ys ⟨(k, z), by omega, hby⟩ wr hJs (by have := hd.1; omega)
      dsimp only at hy
      gi_wp2
      refine hR.mono ?_
      rintro e W3 (⟨rfl, hJ3, hk3⟩ | ⟨rfl, hJx3⟩)
      · gi_wp2
        go_roundw
        case rel => exact ⟨k, ys ++ [⟨(k, z), by omega, hby⟩], by omega, rfl, by have := hd.snoc (x := ⟨(k, z), by omega, hby⟩) (by show k + (n - (k + 1)) + 1 = n; omega) hv; rwa [show n - (k + 1) + 1 = n - k by omega] at this, hJ3, hk3 hCk⟩
        case measure => simp [intOf]
      · gi_wp2
        refine bodyPost_ret (results_none rfl _ _ _) rfl ?_
        exact ⟨⟨_, rfl⟩, .inr ⟨_, trivial, hJx3⟩⟩
set_option maxHeartbeats 1000000 in
theorem backward_in (F : Fence) (m : Nat) (h27 : F.fn 79) (hro : F.round = none) (a : Option Addr) (len cap : Nat) (w : World) :
    CallsIn F m Try.prog 79 #[.slice a len cap] w fun e w' => e = .returned (.func (.func 84) #[] #[.pointer (some ⟨w.heap.size, 0, none⟩)]) ∧ w' = w.alloc (.cells #[.slice a len cap] 48) := by
  refine callsIn_of_wp Try.func79 rfl h27 ?_ hro
  simp only [Try.ntmps79, List.size_toArray, List.length_cons, List.length_nil, Nat.reduceAdd, Nat.reduceSub, Array.replicate_succ, Array.replicate_zero, List.push_toArray, List.append_toArray, List.nil_append, List.cons_append]
  gi_wp2
  go_ret
  exact ⟨rfl, rfl⟩
theorem back_stops (F : Fence) (m : Nat) (h31 : F.fn 84) (hro : F.round = none) (hm : 1 ≤ m) (Bs b off n cap : Nat) (hn : n ≤ 1000) (V : Nat → Int → Prop) (w : World) (hC : Ck Bs b off n cap V w) :
    SeqStopsK F m Try.prog 84 #[.pointer (some ⟨Bs, 0, none⟩)] (fun x : Pl n => #[Value.int .i64 (x.1.1 : Int), Value.int .u8 x.1.2]) (fun W W' => Ck Bs b off n cap V W → Ck Bs b off n cap V W') (Down n V n) (fun _ => True) n w :=
  fun l J Jx W hW _ _ hY h0 => back_in F m h31 hro hm l Bs b off n cap hn V J Jx hY W (hC.below hW) h0
end Go.Proofs.Ythgafnommcodcaa.Frame
