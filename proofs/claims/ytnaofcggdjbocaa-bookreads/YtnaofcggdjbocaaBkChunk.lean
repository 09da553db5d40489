/-
  slices.Chunk over numbers, eleven at a time: what a loop over it meets, whatever its body does with the parts that have come.
-/
import Derived.Test.YtnaofcggdjbocaaBkCarry
import Derived.Test.YtnaofcggdjbocaaBlk
import Derived.RangeFuncNested
import Derived.RangeFuncBound
import Derived.RangeFuncCalls
import Derived.RangeFuncLeaves
import Derived.RangeFuncBox
import Derived.Shelf.Abstract
import Derived.Shelf.RegionOpen
import Derived.OwnWalkIn
import Derived.Deep.QuietTactic
import Derived.BigQuiet
import Derived.TacticsInMore
import Derived.LoopNIn
import Derived.LoopIn
namespace Go.Proofs.Ytnaofcggdjbocaa.Book
open Go.RowKit Go.Shelf Go.Proofs.Ytnaofcggdjbocaa.Mem Go.Proofs.Ytnaofcggdjbocaa.Event
attribute [local go_sem] Oper.semAt_some
set_option maxRecDepth 100000

theorem elem_words : Try.prog.elem 65 = 22 := by simp [Program.elem, Try.underlying65]
theorem run_three_u (w : World) (p : Option Addr) (n cap l : Nat) (hm : l + 11 ≤ cap) :
    (Instr.slice 65 (.slice p n cap) (some (.int .i64 (l : Int))) (some (.int .i64 ((l : Int) + 11))) (some (.int .i64 ((l : Int) + 11)))).run Try.prog w = .ok (.slice (p.map (·.add l)) 11 11) w := by
  have ht : Try.prog.underlying 65 = some (.slice (Try.prog.elem 65)) := by rw [elem_words]; exact Try.underlying65
  rw [run_slice_lhm w 65 p n cap ht .i64 .i64 .i64 (l : Int) ((l : Int) + 11) ((l : Int) + 11) (by omega) (by omega) (by omega) (by omega), elem_words, Try.sizeOf22]
  have e1 : ((l : Int) + 11).toNat = l + 11 := by omega
  simp [Result.andThen, sliced, e1]
/-- What comes: the parts by their numbers. -/
abbrev Ch (m : Nat) := {x : Nat // x < m}
/-- The slice in its box, and the eleven in its own. -/
def Ck (Bs Bn : Nat) (q : Option Addr) (n c : Nat) (W : World) : Prop := Blk W Bs 65 [.slice q n c] ∧ Blk W Bn 3 [.int .i64 11]
/-- So many parts, from the first one on. -/
def Upp (m : Nat) (k : Nat) (ys : List (Ch m)) : Prop := ys.length = k ∧ ∀ (i : Nat) (x : Ch m), ys[i]? = some x → x.1 = i
theorem Upp.snoc {m k : Nat} {ys : List (Ch m)} (h : Upp m k ys) {x : Ch m} (hx : x.1 = k) : Upp m (k + 1) (ys ++ [x]) := by
  obtain ⟨h1, h2⟩ := h
  refine ⟨by simp [h1], fun i y hy => ?_⟩
  rcases Nat.lt_or_ge i ys.length with hi | hi
  · rw [List.getElem?_append_left hi] at hy
    exact h2 i y hy
  · rw [List.getElem?_append_right hi] at hy
    have hl := (List.getElem?_eq_some_iff.1 hy).1
    simp at hl
    obtain rfl : i = ys.length := by omega
    simp at hy
    subst hy
    omega
theorem blk_turn {W W' : World} {g : Nat} {t : TypeId} {cs : List Value} {row : Option Nat} (h : Blk W g t cs) (hg : W.grownBy W' row) (hr : ∀ r, row = some r → ∃ o : Obj, W.heap[r]? = some o ∧ o.isCells = false) : Blk W' g t cs :=
  h.kept hg (fun e => by
    obtain ⟨o, h1, h2⟩ := hr g e.symm
    unfold Blk at h
    rw [h] at h1
    obtain rfl := Option.some.inj h1
    cases h2)
theorem Ck.kept {Bs Bn n c : Nat} {q : Option Addr} {W W' : World} {row : Option Nat} (h : Ck Bs Bn q n c W) (hg : W.grownBy W' row) (hr : ∀ r, row = some r → ∃ o : Obj, W.heap[r]? = some o ∧ o.isCells = false) : Ck Bs Bn q n c W' :=
  ⟨blk_turn h.1 hg hr, blk_turn h.2 hg hr⟩
theorem Ck.below {Bs Bn n c : Nat} {q : Option Addr} {W W' : World} (h : Ck Bs Bn q n c W) (hb : Below W.heap.size W W') : Ck Bs Bn q n c W' := ⟨h.1.below hb, h.2.below hb⟩
def partV (q : Option Addr) (i : Nat) : Value := .slice (q.map (·.add (11 * i))) 11 11
theorem gdrew (w : World) (N : Nat) : w.grownBy (w.drewN N) none := ⟨rfl, rfl, rfl, Nat.le_refl _, fun _ _ _ => rfl⟩
set_option maxHeartbeats 2000000 in
theorem chunk_go (m0 : Nat) (hm0 : 1 ≤ m0) (l Bs Bn : Nat) (q : Option Addr) (n c m : Nat) (hn : n = 11 * m) (hc : n ≤ c) (hn2 : n ≤ 1000) (J Jx : List (Ch m) → World → Prop) (hJd : ∀ {pre W} (N : Nat), J pre W → J pre (W.drewN N))
    (hY : ∀ pre x W, J pre W → pre.length < m → YieldAt Fence.wide (m0 - 1) Try.prog l #[partV q x.1] W fun e W' =>
      (e = .returned (.bool true) ∧ J (pre ++ [x]) W' ∧ (Ck Bs Bn q n c W → Ck Bs Bn q n c W')) ∨ (e = .returned (.bool false) ∧ Jx (pre ++ [x]) W'))
    (W : World) (hC : Ck Bs Bn q n c W) (h0 : J [] W) :
    CallsIn Fence.wide m0 Try.prog 80 #[.func (.yield l) #[] #[], .pointer (some ⟨Bs, 0, none⟩), .pointer (some ⟨Bn, 0, none⟩)] W fun e W' => (∃ v, e = .returned v) ∧
      ((∃ ys, Upp m m ys ∧ J ys W') ∨ (∃ pre, True ∧ Jx pre W')) := by
  refine callsIn_of_wp Try.func80 rfl trivial ?_ rfl
  simp only [Try.ntmps80, List.size_toArray, List.length_cons, List.length_nil, Nat.reduceAdd, Nat.reduceSub, Array.replicate_succ, Array.replicate_zero, List.push_toArray, List.append_toArray, List.nil_append, List.cons_append]
  have HN : Hid (n = 11 * m) := hn
  clear hn
  gi_wp2
  gi_loopw [4] (fun iv wr => ∃ (i k : Nat) (ys : List (Ch m)), Hid (i = 11 * k) ∧ k ≤ m ∧ iv = .int .i64 (i : Int) ∧ Upp m k ys ∧ J ys wr ∧ Ck Bs Bn q n c wr) (fun iv _ => n - (intOf iv).toNat)
  case atStart => exact ⟨0, 0, [], by unfold Hid; rfl, Nat.zero_le _, rfl, ⟨rfl, by simp⟩, h0, hC⟩
  case round =>
    obtain ⟨i, k, ys, Hi, hk, rfl, hd, hJs, hCk⟩ := hrel
    have hb1 := hCk.1.cell 0
    have hb2 := hCk.2.cell 0
    simp only [List.getElem?_cons_zero] at hb1 hb2
    have hmx : Try.prog.follows .mixedOrders = true := by kernel_rfl
    by_cases hlt : k < m
    · have hi1 : (i : Int) < (n : Int) := by have := Hi.out; have := HN.out; omega
      have hi2 : i + 11 ≤ n := by have := Hi.out; have := HN.out; omega
      have hfrom := fun w => run_from_u w q n c i (by omega)
      have hthree := fun w => run_three_u w q n c i (by omega)
      have hmin : min (11 : Int) ((n - i : Nat) : Int) = 11 := by omega
      have hmin2 : min (11 : Int) ((n : Int) - (i : Int)) = 11 := by omega
      have hwr : IntKind.i64.wrap ((i : Int) + 11) = (i : Int) + 11 := by rw [IntKind.wrap_i64]; omega
      have hpart : partV q k = .slice (q.map (·.add i)) 11 11 := by unfold partV; rw [← Hi.out]
      gi_wp2
      refine wpIn_wide.2 ?_
      go_quiet (fail)
      obtain ⟨fn, tmps, assign, body, hy, hR⟩ := hY ys ⟨k, hlt⟩ (wr.drewN nq) (hJd nq hJs) (by have := hd.1; omega)
      rw [hpart] at hy
      gi_wp2
      refine hR.mono ?_
      rintro e W3 (⟨rfl, hJ3, hk3⟩ | ⟨rfl, hJx3⟩)
      · have hCk3 := hk3 (hCk.below (bdrewN _ _))
        have hb2 := hCk3.2.cell 0
        simp only [List.getElem?_cons_zero] at hb2
        gi_wp2
        go_roundw
        case rel => exact ⟨i + 11, k + 1, ys ++ [⟨k, hlt⟩], by have := Hi.out; unfold Hid; omega, by omega, by go_num, hd.snoc rfl, hJ3, hCk3⟩
        case measure => simp [intOf]; omega
      · gi_wp2
        refine bodyPost_ret (results_none rfl _ _ _) rfl ?_
        exact ⟨⟨_, rfl⟩, .inr ⟨_, trivial, hJx3⟩⟩
    · have hki : ¬ ((i : Int) < (n : Int)) := by have := Hi.out; have := HN.out; omega
      have hkd : decide ((i : Int) < (n : Int)) = false := decide_eq_false hki
      obtain rfl : k = m := by omega
      gi_wp2
      go_end0
      exact ⟨⟨_, rfl⟩, .inl ⟨ys, hd, hJs⟩⟩
theorem chunk_in (m0 : Nat) (q : Option Addr) (n c : Nat) (w : World) :
    CallsIn Fence.wide m0 Try.prog 56 #[.slice q n c, .int .i64 11] w fun e w' => e = .returned (.func (.func 80) #[] #[.pointer (some ⟨w.heap.size, 0, none⟩), .pointer (some ⟨w.heap.size + 1, 0, none⟩)]) ∧
      w' = (w.alloc (.cells #[.slice q n c] 65)).alloc (.cells #[.int .i64 11] 3) := by
  refine callsIn_of_wp Try.func56 rfl trivial ?_ rfl
  simp only [Try.ntmps56, List.size_toArray, List.length_cons, List.length_nil, Nat.reduceAdd, Nat.reduceSub, Array.replicate_succ, Array.replicate_zero, List.push_toArray, List.append_toArray, List.nil_append, List.cons_append]
  gi_wp2
  go_ret
  exact ⟨rfl, rfl⟩
theorem chunk_stops (m0 : Nat) (hm0 : 1 ≤ m0) (Bs Bn : Nat) (q : Option Addr) (n c m : Nat) (hn : n = 11 * m) (hc : n ≤ c) (hn2 : n ≤ 1000) (w : World) (hC : Ck Bs Bn q n c w) :
    SeqStopsK Fence.wide m0 Try.prog 80 #[.pointer (some ⟨Bs, 0, none⟩), .pointer (some ⟨Bn, 0, none⟩)] (fun x : Ch m => #[partV q x.1]) (fun W W' => Ck Bs Bn q n c W → Ck Bs Bn q n c W') (Upp m m) (fun _ => True) m w :=
  fun l J Jx W hW hA _ hY h0 => chunk_go m0 hm0 l Bs Bn q n c m hn hc hn2 J Jx (fun {pre W'} N h => hA pre W' (W'.drewN N) none h (gdrew W' N) (fun r e => by cases e)) hY W (hC.below hW) h0
end Go.Proofs.Ytnaofcggdjbocaa.Book
