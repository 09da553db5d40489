/-
  frame.Make: a record's bytes in sectors.
-/
import Derived.Test.YthgafnommcodcaaBlk
import Derived.Maps.OwnSet
import Derived.Test.YthgafnommcodcaaFramePlain
import Derived.Test.YthgafnommcodcaaProg
import Derived.Deep.MidRow
import Derived.Laws.ResultCell
import Derived.ChangeKeysEq
import Derived.KernelRfl
import Derived.BigFrame
import Derived.Test.YthgafnommcodcaaFramePut
import Derived.Test.YthgafnommcodcaaCrcOf
import Derived.Deep.RegionLaw
import Derived.Deep.RegionWith
/-
  Slices whose elements are of several cells: what it is that one reads as a list, and what becomes of it behind calls, cuts, appends and changes of a map. Nothing of a program is named here.
-/
namespace Go.Proofs.Ythgafnommcodcaa.Mem
open Go.RowKit

section
variable {α : Type} {enc : α → List Value} {k : Nat}

/-- The slice at p, of this capacity, reads as these elements, each as its cells. -/
def RK (enc : α → List Value) (w : World) (p : Option Addr) (cap : Nat) (xs : List α) : Prop :=
  xs.length ≤ cap ∧ cap ≤ maxLen ∧ (p = none → cap = 0) ∧
  (0 < xs.length → ∃ b o, p = some ⟨b, o, none⟩ ∧ b < w.heap.size ∧ ∀ j v, (xs.flatMap enc)[j]? = some v → w.cell? ⟨b, o + j, none⟩ = some v)

theorem RK.below {w w' : World} {p : Option Addr} {cap : Nat} {xs : List α} (h : RK enc w p cap xs) (hb : Below w.heap.size w w') : RK enc w' p cap xs := by
  obtain ⟨h1, h2, h3, h4⟩ := h
  refine ⟨h1, h2, h3, fun hz => ?_⟩
  obtain ⟨b, o, e, hlt, hc⟩ := h4 hz
  exact ⟨b, o, e, Nat.lt_of_lt_of_le hlt hb.size, fun j v hv => (hb.cell (p := ⟨b, o + j, none⟩) hlt).trans (hc j v hv)⟩
theorem RK.alloc {w : World} {p : Option Addr} {cap : Nat} {xs : List α} (h : RK enc w p cap xs) (o : Obj) : RK enc (w.alloc o) p cap xs := h.below (bnew w o)
theorem RK.drew {w : World} {p : Option Addr} {cap : Nat} {xs : List α} (h : RK enc w p cap xs) : RK enc w.drew p cap xs := h.below ((Below.refl _ _).drew)
theorem RK.nil (enc : α → List Value) (w : World) : RK enc w none 0 [] := ⟨Nat.le_refl _, Nat.zero_le _, fun _ => rfl, fun h => absurd h (Nat.lt_irrefl 0)⟩

theorem len_flat (hk : ∀ x, (enc x).length = k) : ∀ xs : List α, (xs.flatMap enc).length = xs.length * k
  | [] => by simp
  | x :: r => by simp [hk x, len_flat hk r, Nat.succ_mul, Nat.add_comm]
theorem get_flat (hk : ∀ x, (enc x).length = k) : ∀ (xs : List α) (i j : Nat) (x : α), xs[i]? = some x → j < k → (xs.flatMap enc)[i * k + j]? = (enc x)[j]?
  | [], i, j, x, h, _ => by simp at h
  | a :: r, 0, j, x, h, hj => by
    simp at h; subst h
    rw [List.flatMap_cons, List.getElem?_append_left (by rw [hk]; omega)]
    simp
  | a :: r, i + 1, j, x, h, hj => by
    rw [List.flatMap_cons, List.getElem?_append_right (by rw [hk, Nat.succ_mul]; omega), hk, show (i + 1) * k + j - k = i * k + j by rw [Nat.succ_mul]; omega]
    exact get_flat hk r i j x (by simpa using h) hj
theorem drop_flat (hk : ∀ x, (enc x).length = k) : ∀ (xs : List α) (l : Nat), (xs.drop l).flatMap enc = (xs.flatMap enc).drop (l * k)
  | [], l => by simp
  | a :: r, 0 => by simp
  | a :: r, l + 1 => by
    have e : (enc a).drop ((l + 1) * k) = [] := List.drop_of_length_le (by rw [hk, Nat.succ_mul]; omega)
    rw [List.drop_succ_cons, List.flatMap_cons, drop_flat hk r l, List.drop_append, e, hk, show (l + 1) * k - k = l * k by rw [Nat.succ_mul]; omega, List.nil_append]
theorem take_flat (hk : ∀ x, (enc x).length = k) (xs : List α) (l : Nat) : (xs.take l).flatMap enc = (xs.flatMap enc).take (l * k) := by
  rcases Nat.le_total xs.length l with h | h
  · rw [List.take_of_length_le h, List.take_of_length_le (by rw [len_flat hk]; exact Nat.mul_le_mul_right _ h)]
  · have e : xs.flatMap enc = (xs.take l).flatMap enc ++ (xs.drop l).flatMap enc := by rw [← List.flatMap_append, List.take_append_drop]
    have hl : ((xs.take l).flatMap enc).length = l * k := by rw [len_flat hk, List.length_take, Nat.min_eq_left h]
    rw [e, ← hl, List.take_left]

/-- One element's cells. -/
theorem RK.at (hk : ∀ x, (enc x).length = k) {w : World} {p : Option Addr} {cap i : Nat} {xs : List α} {x : α} (h : RK enc w p cap xs) (hi : xs[i]? = some x) :
    ∃ b o, p = some ⟨b, o, none⟩ ∧ b < w.heap.size ∧ ∀ j v, (enc x)[j]? = some v → w.cell? ⟨b, o + i * k + j, none⟩ = some v := by
  have hl : i < xs.length := (List.getElem?_eq_some_iff.1 hi).1
  obtain ⟨b, o, e, hlt, hc⟩ := h.2.2.2 (by omega)
  refine ⟨b, o, e, hlt, fun j v hv => ?_⟩
  have hj : j < k := by have := (List.getElem?_eq_some_iff.1 hv).1; rw [hk] at this; exact this
  rw [Nat.add_assoc]
  exact hc _ _ ((get_flat hk xs i j x hi hj).trans hv)
/-- It stays while a map is written. -/
theorem RK.turn (hk : ∀ x, (enc x).length = k) (h0 : 0 < k) {w w' : World} {p : Option Addr} {cap b : Nat} {xs : List α} {es : Array MapEntry} {clock : Nat} (h : RK enc w p cap xs) (hm : w.heap[b]? = some (.map es clock)) (hg : w.grownBy w' (some b)) : RK enc w' p cap xs := by
  obtain ⟨h1, h2, h3, h4⟩ := h
  refine ⟨h1, h2, h3, fun hz => ?_⟩
  obtain ⟨g, o, e, hlt, hc⟩ := h4 hz
  have hne : g ≠ b := by
    intro q
    subst q
    have hf : 0 < (xs.flatMap enc).length := by rw [len_flat hk]; exact Nat.mul_pos hz h0
    have := hc 0 _ (List.getElem?_eq_getElem hf)
    simp [World.cell?, hm] at this
  exact ⟨g, o, e, Nat.lt_of_lt_of_le hlt hg.size, fun j v hv => (World.cell?_of_block (w := w) (hg.block g hlt (by simpa using hne))).trans (hc j v hv)⟩

/-- What the call has built by itself is read. -/
theorem own_rk (hk : ∀ x, (enc x).length = k) {w : World} {B n : Nat} {e : TypeId} {v : Value} {xs : List α} (h0 : 0 < k) (h : w.ownsRow B e k v n (xs.flatMap enc)) :
    ∃ p cap, v = .slice p xs.length cap ∧ RK enc w p cap xs ∧ ∀ a, p = some a → B ≤ a.block := by
  have hn : n = xs.length := by
    have := h.1
    rw [len_flat hk] at this
    exact (Nat.eq_of_mul_eq_mul_right h0 this).symm
  subst hn
  rcases h.2 with ⟨rfl, h1⟩ | ⟨g, cap, cur, rfl, hb, hg, hc, hm, hs, ht⟩
  · have : xs = [] := List.eq_nil_of_length_eq_zero h1
    subst this
    exact ⟨none, 0, rfl, RK.nil _ _, by simp⟩
  · refine ⟨some ⟨g, 0, none⟩, cap, rfl, ⟨hc, hm, fun h => by simp at h, fun _ => ⟨g, 0, rfl, (Array.getElem?_eq_some_iff.1 hg).1, fun j u hu => ?_⟩⟩, fun a ha => by simp at ha; subst ha; exact hb⟩
    rw [Nat.zero_add]
    have hj : j < xs.length * k := by have := (List.getElem?_eq_some_iff.1 hu).1; rw [len_flat hk] at this; exact this
    rw [← ht, List.getElem?_take] at hu
    simp only [hj, if_true, Array.getElem?_toList] at hu
    simp [World.cell?, hg, hu]
/-- A slice from some element on. -/
def cutK (k : Nat) (p : Option Addr) (cap l : Nat) : Option Addr := if cap = l then p else p.map (·.add (l * k))
theorem RK.cut (hk : ∀ x, (enc x).length = k) {w : World} {p : Option Addr} {cap : Nat} {xs : List α} (h : RK enc w p cap xs) (l : Nat) (hl : l ≤ xs.length) : RK enc w (cutK k p cap l) (cap - l) (xs.drop l) := by
  obtain ⟨h1, h2, h3, h4⟩ := h
  refine ⟨by simp; omega, by omega, fun hp => ?_, fun hz => ?_⟩
  · unfold cutK at hp
    split at hp
    · omega
    · have := h3 (by simpa using hp); omega
  · simp only [List.length_drop] at hz
    obtain ⟨b, o, rfl, hlt, hc⟩ := h4 (by omega)
    refine ⟨b, o + l * k, ?_, hlt, fun j v hv => ?_⟩
    · unfold cutK
      rw [if_neg (by omega)]
      simp [Addr.add_lit]
    · rw [drop_flat hk, List.getElem?_drop] at hv
      rw [Nat.add_assoc]
      exact hc _ _ hv
/-- A slice up to some element. -/
theorem RK.upto (hk : ∀ x, (enc x).length = k) {w : World} {p : Option Addr} {cap : Nat} {xs : List α} (h : RK enc w p cap xs) (l : Nat) : RK enc w p cap (xs.take l) := by
  obtain ⟨h1, h2, h3, h4⟩ := h
  refine ⟨by simp; omega, h2, h3, fun hz => ?_⟩
  simp only [List.length_take] at hz
  obtain ⟨b, o, rfl, hlt, hc⟩ := h4 (by omega)
  refine ⟨b, o, rfl, hlt, fun j v hv => ?_⟩
  rw [take_flat hk, List.getElem?_take] at hv
  split at hv
  · exact hc _ _ hv
  · cases hv
/-- An append of what is read to what is the call's own, whatever the address. -/
theorem wpList_append_rk {P : Program} (hk : ∀ x, (enc x).length = k) (h0 : 0 < k) (h1c : ∀ x, ∀ v ∈ enc x, v.oneCell' = true) (w : World) {ops : Array Oper} {rest : List Oper} {o : Oper} {a : Act} {Q : Exit → Act → World → Prop} (hgd : o.guard = none) (s x : Operand) (t : TypeId)
    (ho : o.op = .call { callee := .builtin .append, args := #[s, x], argTypes := #[t, t] })
    (base : Nat) (e : TypeId) (i : TypeInfo) (z : Value) (bytes : Nat) (ht : P.underlying t = some (.slice e)) (hi : P.info? e = some i) (hz : i.zero = some z)
    (hsize : i.size = k) (hby : i.bytes = bytes) (hzs : z.cells.size = k)
    (v : Value) (n : Nat) (ys : List α) (hs : a.eval s = v) (hown : w.ownsRow base e k v n (ys.flatMap enc))
    (p : Option Addr) (m c : Nat) (zs : List α) (hx : a.eval x = .slice p m c) (hm : zs.length = m) (hr : RK enc w p c zs)
    (h63 : n + m ≤ 100000) (hbytes : bytes ≤ 1000) (hbase : base ≤ w.heap.size)
    (h : ∀ v' w', w'.ownsRow base e k v' (n + m) ((ys ++ zs).flatMap enc) → w.grownBy w' v.ownBlock → wpList P ops Q rest (a.put o.dst v') w') : wpList P ops Q (o :: rest) a w := by
  cases p with
  | none =>
    have hc := hr.2.2.1 rfl
    have h1 := hr.1
    subst hc
    have hz0 : zs = [] := List.eq_nil_of_length_eq_zero (by omega)
    subst hz0
    have hm0 : m = 0 := by simpa using hm.symm
    subst hm0
    exact wpList_append_own_none hgd s x t ho base e i k ht hi v n _ hs hown hx (h v w (by simpa using hown) (World.grownBy.refl _ _))
  | some ad =>
    have hb2 : (n + m) * bytes ≤ 140737488355328 := by
      have : (n + m) * bytes ≤ 100000 * 1000 := Nat.mul_le_mul h63 hbytes
      omega
    refine wpList_append_own w hgd s x t ho base e i z k bytes ht hi hz hsize hby hzs h0 v n _ hs hown ad m c (zs.flatMap enc) hx (by rw [len_flat hk, hm]) (fun j u hu => ?_) (fun u hu => ?_) (by unfold maxLen; omega) hb2 hbase fun v' w' h1 h2 _ => h v' w' (by rw [List.flatMap_append]; exact h1) h2
    · have hl : 0 < zs.length := by
        rcases Nat.eq_zero_or_pos zs.length with q | q
        · obtain rfl := List.eq_nil_of_length_eq_zero q; simp at hu
        · exact q
      obtain ⟨b', o', e', _, hc⟩ := hr.2.2.2 hl
      simp only [Option.some.injEq] at e'
      subst e'
      rw [Addr.add_lit]
      exact hc j u hu
    · obtain ⟨y, _, hy⟩ := List.mem_flatMap.1 hu
      exact h1c y u hy
/-- One element that is typed out. -/
theorem lit_rk {w : World} {cs : Array Value} {e : TypeId} {x : α} (hcs : cs.toList = enc x) : RK enc (w.alloc (.cells cs e)) (some ⟨w.heap.size, 0, none⟩) 1 [x] := by
  refine ⟨by simp, by unfold maxLen; omega, fun h => by simp at h, fun _ => ⟨w.heap.size, 0, rfl, by simp, fun j v hv => ?_⟩⟩
  simp only [List.flatMap_cons, List.flatMap_nil, List.append_nil, ← hcs, Array.getElem?_toList] at hv
  rw [Nat.zero_add]
  have hn := (MapKept.heap_alloc w (.cells cs e)).1
  unfold World.cell?
  simp only
  rw [hn]
  simpa using hv
/-- A slice of nothing that is typed out. -/
theorem lit_none_k {e : TypeId} (w : World) : (w.alloc (.cells #[] e)).ownsRow w.heap.size e k (.slice (some ⟨w.heap.size, 0, none⟩) 0 0) 0 (([] : List α).flatMap enc) :=
  World.ownsRow_lit w #[] 0 (Nat.le_refl _) (by decide) (by simp)
/-- Behind an append to what is the call's own. -/
theorem grew_k {B n : Nat} {e : TypeId} {w wr w1 : World} {u : Value} {xs : List Value} {o : Obj} (hB : B ≤ w.heap.size) (hnx : Below B w wr) (hown : wr.ownsRow B e k u n xs) (hg : (wr.alloc o).grownBy w1 u.ownBlock) : Below B w w1 := by
  have hs := hnx.size
  exact (hnx.alloc (by omega) o).grown hg (by simp; omega) fun g hg => (hown.lt g hg).1
end
end Go.Proofs.Ythgafnommcodcaa.Mem
/-
  Sectors: what an operation on one does, as a walk meets it: no cell of theirs is looked at.
-/
namespace Go.Proofs.Ythgafnommcodcaa.Sect
open Go.RowKit Go.Proofs.Ythgafnommcodcaa.Mem
set_option maxRecDepth 100000


open Go.Proofs.Ythgafnommcodcaa.Frame

def sc (s : Sec) : List Value := s.1.map (Value.int .u8)
theorem sc_len (s : Sec) : (sc s).length = 64 := by simp [sc, s.2]
theorem sc_one (s : Sec) : ∀ v ∈ sc s, v.oneCell' = true := by
  intro v hv
  obtain ⟨x, _, rfl⟩ := List.mem_map.1 hv
  rfl
/-- The value of a sector, of a write. -/
def secv (s : Sec) : Value := .agg (sc s).toArray
section
variable {P : Program}
/-- A whole value into a block that is known whole. -/
theorem wp_store_blk {o : Oper} {a : Act} {w : World} {K : Act → World → Prop} {Q : Exit → Act → World → Prop} (ty : TypeId) (x y : Operand) (ho : o.op = .store ty x y) (g : Nat) (t : TypeId) (cs cs' : List Value)
    (hx : a.eval x = .pointer (some ⟨g, 0, none⟩)) (hy : a.eval y = .agg cs'.toArray) (hb : Blk w g t cs) (hi : (P.info? ty).map (·.size) = some cs'.length) (hl : cs.length = cs'.length) (h1 : ∀ v ∈ cs', v.oneCell' = true)
    (h : ∀ w', Blk w' g t cs' → w.grownBy w' (some g) → K (a.put o.dst undef) w') : o.wp P a w K Q := by
  unfold Oper.wp execOp
  simp only [ho, hx, hy, Instr.storeAt, Instr.sureAddr, Sem.run_bind, Sem.run_pure, Result.andThen_ok, run_storeVar_row w g t ty cs.toArray cs'.toArray hb (by simpa using hi) (by simpa using hl) (all_oneCell_toArray h1)]
  refine h _ ?_ ⟨rfl, rfl, rfl, by simp [World.setRow], fun k _ hk => setRow_other w g k _ (fun e => hk (by simp [e]))⟩
  exact setRow_heap w g _ _ t _ hb
/-- Two results, the first of which lies in a block of its own. -/
theorem ret_cell {fn : Func} {p u : Tmp} {ty : TypeId} {R : Ending → World → Prop} {a : Act} {w : World} (h : fn.results = #[.cell p ty, .tmp u]) (hd : a.defers = []) (g : Nat) (t : TypeId) (cs : List Value) (d : TypeDesc)
    (hp : a.tmps.getD p undef = .pointer (some ⟨g, 0, none⟩)) (hb : Blk w g t cs) (hu : P.underlying ty = some d) (hdd : (match d with | .struct _ | .array _ _ => true | _ => false) = true) (hi : (P.info? ty).map (·.size) = some cs.length)
    (hR : R (.returned (.tuple #[.agg cs.toArray, a.tmps.getD u undef])) w) : bodyPost P fn R .ret a w := by
  refine bodyPost_ret (v := .tuple #[.agg cs.toArray, a.tmps.getD u undef]) ?_ hd hR
  rw [results_cell_tmp h, hp]
  simp only [asAddr, Sem.run_pure, Result.andThen_ok, run_loadVar_row w g t ty cs.toArray (0, 0) d hb hu hdd (by simpa using hi)]
theorem ret_cell1 {fn : Func} {p : Tmp} {ty : TypeId} {R : Ending → World → Prop} {a : Act} {w : World} (h : fn.results = #[.cell p ty]) (hd : a.defers = []) (g : Nat) (t : TypeId) (cs : List Value) (d : TypeDesc)
    (hp : a.tmps.getD p undef = .pointer (some ⟨g, 0, none⟩)) (hb : Blk w g t cs) (hu : P.underlying ty = some d) (hdd : (match d with | .struct _ | .array _ _ => true | _ => false) = true) (hi : (P.info? ty).map (·.size) = some cs.length)
    (hR : R (.returned (.agg cs.toArray)) w) : bodyPost P fn R .ret a w :=
  bodyPost_ret (results_cell_row h _ w g t cs.toArray (0, 0) d hp hb hu hdd (by simpa using hi)) hd hR
end
theorem size_sec (s : Sec) : (Try.prog.info? 70).map (·.size) = some (sc s).length := by rw [sc_len]; kernel_rfl
theorem und_sec : Try.prog.underlying 70 = some (.array 64 5) := rfl
theorem zero_sec : (Try.prog.info? 70).map (fun i => i.zero) = some (some (secv zero)) := by kernel_rfl
section
variable {o : Oper} {a : Act} {w : World} {K : Act → World → Prop} {Q : Exit → Act → World → Prop}
/-- A variable of that kind. -/
theorem wp_alloc_z (t : TypeId) (z : List Value) (ho : o.op = .alloc t) (hz : (Try.prog.info? t).map (fun i => i.zero) = some (some (.agg z.toArray)))
    (h : K (a.put o.dst (.pointer (some ⟨w.heap.size, 0, none⟩))) (w.alloc (.cells z.toArray t))) : o.wp Try.prog a w K Q := by
  obtain ⟨i, hi, hz'⟩ := Option.map_eq_some_iff.1 hz
  unfold Oper.wp execOp
  simp [ho, Instr.alloc, zeroValue, typeInfo, hi, hz', newVar, Sem.run_bind, Result.andThen, Value.cells]
  exact h
theorem wp_box_v (t : TypeId) (x : Operand) (cs : List Value) (ho : o.op = .box t x) (hx : a.eval x = .agg cs.toArray)
    (h : K (a.put o.dst (.pointer (some ⟨w.heap.size, 0, none⟩))) (w.alloc (.cells cs.toArray t))) : o.wp Try.prog a w K Q := by
  unfold Oper.wp execOp
  simp [ho, hx, Instr.box, newVar, Result.andThen, Value.cells]
  exact h
end
theorem run_build0 (w : World) : (Instr.build 70 #[]).run Try.prog w = .ok (secv zero) w := by rfl
theorem sec_form (s : Sec) : ∃ f : Nat → Int, s = ⟨(List.range 64).map f, by simp⟩ := by
  refine ⟨fun i => s.1.getD i 0, Subtype.ext ?_⟩
  refine List.ext_getElem? fun i => ?_
  have h := s.2
  rcases Nat.lt_or_ge i 64 with hi | hi
  · simp [hi, List.getElem?_eq_getElem (show i < s.1.length by omega)]
  · rw [List.getElem?_eq_none (by omega)]; simp [hi]
theorem run_lits (s : Sec) (w : World) : (Instr.buildSlice 36 1 #[(0, secv s)]).run Try.prog w = .ok (.slice (some ⟨w.heap.size, 0, none⟩) 1 1) (w.alloc (.cells (sc s).toArray 70)) := by
  obtain ⟨f, rfl⟩ := sec_form s
  kernel_rfl
theorem cells_u8 : Try.prog.cellsOf 5 = 1 := by kernel_rfl
theorem info_u8 : ∃ i, Try.prog.info? 5 = some i := Option.isSome_iff_exists.1 (by kernel_rfl)
theorem eq_items (d : Nat) (s t : Sec) (w : World) : ∀ is : List Nat, (∀ j ∈ is, j < 64) →
    (Op.eqItems (d + 1) 5 1 (sc s).toArray (sc t).toArray is).run Try.prog w = .ok (is.all fun j => s.1.getD j 0 == t.1.getD j 0) w
  | [], _ => by simp [Op.eqItems]
  | j :: r, h => by
    have hj := h j (by simp)
    have hs : (sc s)[j]? = some (.int .u8 (s.1.getD j 0)) := by simp [sc, List.getElem?_eq_getElem (show j < s.1.length by rw [s.2]; exact hj)]
    have ht : (sc t)[j]? = some (.int .u8 (t.1.getD j 0)) := by simp [sc, List.getElem?_eq_getElem (show j < t.1.length by rw [t.2]; exact hj)]
    have ih := eq_items d s t w r fun k hk => h k (by simp [hk])
    simp only [Op.eqItems, Nat.mul_one]
    simp [part, Try.sizeOf5, Try.isAgg5, hs, ht, go_sem]
    by_cases e : s.1[j]?.getD 0 = t.1[j]?.getD 0
    · simp [e, ih]
    · simp [e]
theorem eq_sec (s t : Sec) (w : World) : (Op.equalIn 10000 70 (secv s) (secv t)).run Try.prog w = .ok (decide (s = t)) w := by
  obtain ⟨i, hi⟩ := info_u8
  unfold secv
  rw [run_equalIn_array w 9999 _ _ und_sec hi, cells_u8, eq_items 9998 s t w _ (fun j hj => by simpa using hj)]
  congr 1
  by_cases h : s = t
  · subst h; simp
  · rw [decide_eq_false h]
    refine Bool.eq_false_iff.2 fun q => h (Subtype.ext (List.ext_getElem? fun i => ?_))
    simp only [List.all_eq_true, List.mem_range, beq_iff_eq] at q
    have h1 := s.2
    have h2 := t.2
    rcases Nat.lt_or_ge i 64 with hi | hi
    · have := q i hi
      simp only [List.getD_eq_getElem?_getD, List.getElem?_eq_getElem (show i < s.1.length by omega), List.getElem?_eq_getElem (show i < t.1.length by omega), Option.getD_some] at this
      rw [List.getElem?_eq_getElem (show i < s.1.length by omega), List.getElem?_eq_getElem (show i < t.1.length by omega), this]
    · rw [List.getElem?_eq_none (by omega), List.getElem?_eq_none (by omega)]

theorem eq_guard (x y : Operand) (s t : Sec) (w : World) : (eqGuard .eql 70 x y (secv s) (secv t)).run Try.prog w = .ok () w := by
  unfold secv
  simp [eqGuard, go_sem]
theorem ne_guard (x y : Operand) (s t : Sec) (w : World) : (eqGuard .neq 70 x y (secv s) (secv t)).run Try.prog w = .ok () w := by
  unfold secv
  simp [eqGuard, go_sem]
theorem eq_secs (s t : Sec) (w : World) : (binOp .eql 70 (secv s) (secv t)).run Try.prog w = .ok (.bool (decide (s = t))) w := by
  have h := eq_sec s t w
  unfold secv at h ⊢
  simp [binOp, Op.equal, Op.maxDepth, h]
theorem ne_secs (s t : Sec) (w : World) : (binOp .neq 70 (secv s) (secv t)).run Try.prog w = .ok (.bool (!decide (s = t))) w := by
  have h := eq_sec s t w
  unfold secv at h ⊢
  simp [binOp, Op.equal, Op.maxDepth, h]
theorem wrap_int {x : Int} (h : Inty x) : IntKind.i64.wrap x = x := by
  obtain ⟨h1, h2⟩ := h
  simp [IntKind.wrap, IntKind.signed, IntKind.bits]
  omega
section
variable {o : Oper} {a : Act} {w : World} {K : Act → World → Prop} {Q : Exit → Act → World → Prop}
theorem new_blk (w : World) (cs : List Value) (t : TypeId) : Blk (w.alloc (.cells cs.toArray t)) w.heap.size t cs := by simpa using Blk.new w cs.toArray t
theorem wp_alloc_sec (ho : o.op = .alloc 70) (h : ∀ w', Blk w' w.heap.size 70 (sc zero) → Below w.heap.size w w' → Hid (w'.heap.size = w.heap.size + 1) → K (a.put o.dst (.pointer (some ⟨w.heap.size, 0, none⟩))) w') : o.wp Try.prog a w K Q :=
  wp_alloc_z _ (sc zero) ho zero_sec (h _ (new_blk _ _ _) (bnew _ _) (by unfold Hid; simp))
theorem wp_box_sec (x : Operand) (s : Sec) (ho : o.op = .box 70 x) (hx : a.eval x = secv s) (h : ∀ w', Blk w' w.heap.size 70 (sc s) → Below w.heap.size w w' → Hid (w'.heap.size = w.heap.size + 1) → K (a.put o.dst (.pointer (some ⟨w.heap.size, 0, none⟩))) w') : o.wp Try.prog a w K Q :=
  wp_box_v _ x (sc s) ho hx (h _ (new_blk _ _ _) (bnew _ _) (by unfold Hid; simp))
theorem wp_run {v : Value} {w' : World} (m : Sem Value) (hm : execOp a.eval o = (do pure (.value (← m)))) (hr : m.run Try.prog w = .ok v w') (h : K (a.put o.dst v) w') : o.wp Try.prog a w K Q := by
  unfold Oper.wp
  rw [hm]
  simp only [Sem.run_bind, hr, Result.andThen_ok, Sem.run_pure]
  exact h
theorem wp_build0 (ho : o.op = .build 70 #[]) (h : K (a.put o.dst (secv zero)) w) : o.wp Try.prog a w K Q :=
  wp_run (Instr.build 70 #[]) (by simp [execOp, ho]) (run_build0 w) h
theorem wp_lits (x : Operand) (s : Sec) (ho : o.op = .buildSlice 36 1 #[(0, x)]) (hx : a.eval x = secv s) (h : ∀ w', Blk w' w.heap.size 70 (sc s) → Below w.heap.size w w' → Hid (w'.heap.size = w.heap.size + 1) → K (a.put o.dst (.slice (some ⟨w.heap.size, 0, none⟩) 1 1)) w') : o.wp Try.prog a w K Q :=
  wp_run (Instr.buildSlice 36 1 #[(0, secv s)]) (by simp [execOp, ho, hx]) (run_lits s w) (h _ (new_blk _ _ _) (bnew _ _) (by unfold Hid; simp))
theorem wp_load_sec (x : Operand) (b p : Nat) (s : Sec) (ho : o.op = .load 70 x) (hx : a.eval x = .pointer (some ⟨b, p, none⟩)) (hc : w.rangeAt b p (sc s)) (h : K (a.put o.dst (secv s)) w) : o.wp Try.prog a w K Q :=
  wp_load_mid _ x ho b p hx (sc s) _ hc und_sec rfl (size_sec s) h
theorem wp_store_sec (x y : Operand) (g : Nat) (s0 s : Sec) (ho : o.op = .store 70 x y) (hx : a.eval x = .pointer (some ⟨g, 0, none⟩)) (hy : a.eval y = secv s) (hb : Blk w g 70 (sc s0))
    (h : ∀ w', Blk w' g 70 (sc s) → w.grownBy w' (some g) → Hid (w'.heap.size = w.heap.size) → K (a.put o.dst undef) w') : o.wp Try.prog a w K Q := by
  unfold Oper.wp execOp
  have e := run_storeVar_row (P := Try.prog) w g 70 70 (sc s0).toArray (sc s).toArray hb (by simpa using size_sec s) (by simp [sc_len]) (all_oneCell_toArray (sc_one s))
  simp only [ho, hx, hy, secv, Instr.storeAt, Instr.sureAddr, Sem.run_bind, Sem.run_pure, Result.andThen_ok, e]
  exact h _ (setRow_heap w g _ _ _ _ hb) ⟨rfl, rfl, rfl, by simp [World.setRow], fun k _ hk => setRow_other w g k _ (fun e => hk (by simp [e]))⟩ (by unfold Hid; simp [World.setRow])
end
section
variable {o : Oper} {a : Act} {w : World} {ops : Array Oper} {rest : List Oper} {Q : Exit → Act → World → Prop}
theorem at_alloc_sec (ho : o.op = .alloc 70) (hw : Region.wanted o (yielded ops a.tmps) = true) (h : ∀ w', Blk w' w.heap.size 70 (sc zero) → Below w.heap.size w w' → Hid (w'.heap.size = w.heap.size + 1) → wpList Try.prog ops Q rest (a.put o.dst (.pointer (some ⟨w.heap.size, 0, none⟩))) w') : wpList Try.prog ops Q (o :: rest) a w :=
  BigFrame.wpList_want hw fun _ hK => wp_alloc_sec ho (fun w2 h1 h2 h3 => hK _ _ (h w2 h1 h2 h3))
theorem at_box_sec (x : Operand) (s : Sec) (ho : o.op = .box 70 x) (hx : a.eval x = secv s) (hw : Region.wanted o (yielded ops a.tmps) = true) (h : ∀ w', Blk w' w.heap.size 70 (sc s) → Below w.heap.size w w' → Hid (w'.heap.size = w.heap.size + 1) → wpList Try.prog ops Q rest (a.put o.dst (.pointer (some ⟨w.heap.size, 0, none⟩))) w') : wpList Try.prog ops Q (o :: rest) a w :=
  BigFrame.wpList_want hw fun _ hK => wp_box_sec x s ho hx (fun w2 h1 h2 h3 => hK _ _ (h w2 h1 h2 h3))
theorem at_build0 (ho : o.op = .build 70 #[]) (hw : Region.wanted o (yielded ops a.tmps) = true) (h : wpList Try.prog ops Q rest (a.put o.dst (secv zero)) w) : wpList Try.prog ops Q (o :: rest) a w :=
  BigFrame.wpList_want hw fun _ hK => wp_build0 ho (hK _ _ h)
theorem at_lits (x : Operand) (s : Sec) (ho : o.op = .buildSlice 36 1 #[(0, x)]) (hx : a.eval x = secv s) (hw : Region.wanted o (yielded ops a.tmps) = true) (h : ∀ w', Blk w' w.heap.size 70 (sc s) → Below w.heap.size w w' → Hid (w'.heap.size = w.heap.size + 1) → wpList Try.prog ops Q rest (a.put o.dst (.slice (some ⟨w.heap.size, 0, none⟩) 1 1)) w') : wpList Try.prog ops Q (o :: rest) a w :=
  BigFrame.wpList_want hw fun _ hK => wp_lits x s ho hx (fun w2 h1 h2 h3 => hK _ _ (h w2 h1 h2 h3))
theorem at_load_sec (x : Operand) (b p : Nat) (s : Sec) (ho : o.op = .load 70 x) (hx : a.eval x = .pointer (some ⟨b, p, none⟩)) (hc : w.rangeAt b p (sc s)) (hw : Region.wanted o (yielded ops a.tmps) = true) (h : wpList Try.prog ops Q rest (a.put o.dst (secv s)) w) : wpList Try.prog ops Q (o :: rest) a w :=
  BigFrame.wpList_want hw fun _ hK => wp_load_sec x b p s ho hx hc (hK _ _ h)
theorem at_store_sec (x y : Operand) (g : Nat) (s0 s : Sec) (ho : o.op = .store 70 x y) (hx : a.eval x = .pointer (some ⟨g, 0, none⟩)) (hy : a.eval y = secv s) (hb : Blk w g 70 (sc s0)) (hw : Region.wanted o (yielded ops a.tmps) = true) (h : ∀ w', Blk w' g 70 (sc s) → w.grownBy w' (some g) → Hid (w'.heap.size = w.heap.size) → wpList Try.prog ops Q rest (a.put o.dst undef) w') : wpList Try.prog ops Q (o :: rest) a w :=
  BigFrame.wpList_want hw fun _ hK => wp_store_sec x y g s0 s ho hx hy hb (fun w2 h1 h2 h3 => hK _ _ (h w2 h1 h2 h3))
end
/-- A sector's range in its block, a write's, and the sector within a write. -/
theorem blk_sec {w : World} {g : Nat} {t : TypeId} {s : Sec} (h : Blk w g t (sc s)) : w.rangeAt g 0 (sc s) := fun j v hv => by rw [Nat.zero_add, h.cell]; exact hv
theorem made_zero : ∀ n : Nat, (madeCells (secv zero).cells (n * 64)).toList = (List.replicate n zero).flatMap sc := by
  intro n
  refine List.ext_getElem? fun j => ?_
  have e1 : (secv zero).cells = (sc zero).toArray := rfl
  have hz : ∀ k, k < 64 → (sc zero)[k]? = some (.int .u8 0) := fun k hk => by simp only [sc, zero, List.getElem?_map, List.getElem?_replicate, hk, if_true, Option.map_some]
  rcases Nat.lt_or_ge j (n * 64) with hj | hj
  · have hq : j / 64 < n := by omega
    have e2 := get_flat sc_len (List.replicate n zero) (j / 64) (j % 64) zero (by simp [hq]) (by omega)
    rw [show j / 64 * 64 + j % 64 = j by omega, hz _ (by omega)] at e2
    rw [e2, e1]
    simp [madeCells, hj, sc_len, hz (j % 64) (by omega)]
  · rw [List.getElem?_eq_none (by simp [madeCells]; exact hj), List.getElem?_eq_none (by rw [len_flat sc_len]; simpa using hj)]
theorem info_sec : ∃ i, Try.prog.info? 70 = some i ∧ i.zero = some (secv zero) ∧ i.size = 64 ∧ i.bytes = 64 := by
  have h : (Try.prog.info? 70).map (fun i => (i.zero, i.size, i.bytes)) = some (some (secv zero), 64, 64) := by kernel_rfl
  obtain ⟨i, h1, h2⟩ := Option.map_eq_some_iff.1 h
  simp only [Prod.mk.injEq] at h2
  exact ⟨i, h1, h2⟩
theorem run_make_secs (w : World) (n : Nat) (k : Int) (hk : k = n) (hn : n ≤ 1000) : ∃ w', (Instr.makeSlice 36 (.int .i64 k) (.int .i64 k)).run Try.prog w = .ok (.slice (some ⟨w.heap.size, 0, none⟩) n n) w' ∧
    w'.ownsRow w.heap.size 70 64 (.slice (some ⟨w.heap.size, 0, none⟩) n n) n ((List.replicate n zero).flatMap sc) ∧ w.grownBy w' none := by
  subst hk
  obtain ⟨i, h1, h2, h3, h4⟩ := info_sec
  obtain ⟨w', hr, ho, hg⟩ := run_make_full (P := Try.prog) w w.heap.size 36 70 i (secv zero) 64 Try.underlying36 h1 h2 h3 .i64 .i64 n (by rw [h4]; omega) (by unfold maxLen; omega) (Nat.le_refl _)
  rw [made_zero] at ho
  exact ⟨w', hr, ho, hg⟩
end Go.Proofs.Ythgafnommcodcaa.Sect
/-
  frame.Size, frame.plain, frame.Make.
-/
namespace Go.Proofs.Ythgafnommcodcaa.Frame
open Go.RowKit Go.Proofs.Ythgafnommcodcaa.Mem Go.Proofs.Ythgafnommcodcaa.Sect Go.Proofs.Ythgafnommcodcaa.Crc

theorem bs_one {zs : List Int} : ∀ v ∈ bs zs, v.oneCell' = true := ints_oneCell _ _
theorem info_one : (Try.prog.info? 5).map (·.size) = some 1 := by kernel_rfl
/-- How many sectors a payload of so many bytes needs, whatever the number. -/
def sizeI (x : Int) : Int := if 0 ≤ x then (size x.toNat : Nat) else 0
theorem sizeI_nat (m : Nat) : sizeI (m : Int) = (size m : Nat) := by simp [sizeI]
theorem ret_int {k : IntKind} {a b : Int} (h : a = b) : Ending.returned (.int k a) = .returned (.int k b) := by rw [h]
theorem frame_Size (x : Int) (w : World) :
    Calls Try.prog 41 #[.int .i64 x] w fun e w' => e = .returned (.int .i64 (sizeI x)) ∧ w' = w := by
  by_cases h0 : x < 0
  · have e : sizeI x = 0 := by simp [sizeI]; omega
    rw [e]
    go_enter Try.func41, Try.ntmps41
    go_wp2
    go_ret
    exact ⟨rfl, rfl⟩
  · have d0 : decide (x < 0) = false := decide_eq_false h0
    by_cases h7 : 700 < x
    · have e : sizeI x = 0 := by simp only [sizeI, size]; rw [if_pos (by omega), if_neg (by omega)]; rfl
      rw [e]
      go_enter Try.func41, Try.ntmps41
      go_wp2
      go_ret
      exact ⟨rfl, rfl⟩
    · have e : sizeI x = (x + 81) / 64 := by simp only [sizeI, size]; rw [if_pos (by omega), if_pos (by omega)]; omega
      rw [e]
      go_enter Try.func41, Try.ntmps41
      go_wp2
      go_ret
      exact ⟨ret_int (show (14 + x + 4 + 64 - 1) / 64 = _ by omega), rfl⟩
theorem run_mid (w : World) (b o n cap l h : Nat) (hl : l ≤ h) (hh : h ≤ cap) (hc : l < cap) :
    (Instr.slice 48 (.slice (some ⟨b, o, none⟩) n cap) (some (.int .i64 (l : Int))) (some (.int .i64 (h : Int))) none).run Try.prog w = .ok (.slice (some ⟨b, o + l, none⟩) (h - l) (cap - l)) w := by
  have ht : Try.prog.underlying 48 = some (.slice (Try.prog.elem 48)) := by simp [Program.elem, Try.underlying48]
  have he : Try.prog.elem 48 = 5 := by simp [Program.elem, Try.underlying48]
  rw [run_slice_lh w 48 _ n cap ht .i64 .i64 (l : Int) (h : Int) (by omega) (by omega) (by omega), he, Try.sizeOf5]
  simp [Result.andThen, sliced, Addr.add_lit, show cap ≠ l by omega]
theorem put_zeros (A X : List Int) (off m k : Nat) (hA : A.length = off) (_ : X.length = k) (_ : k ≤ m) : (A ++ List.replicate m 0).take off ++ X ++ (A ++ List.replicate m 0).drop (off + k) = (A ++ X) ++ List.replicate (m - k) 0 := by
  subst hA
  rw [List.take_left' rfl, ← List.drop_drop, List.drop_left' rfl, List.drop_replicate]
theorem zeros_bytes {A : List Int} (h : ∀ c ∈ A, Byte c) (m : Nat) : ∀ c ∈ A ++ List.replicate m 0, Byte c := by
  intro c hc
  rcases List.mem_append.1 hc with hc | hc
  · exact h c hc
  · obtain ⟨_, rfl⟩ := List.mem_replicate.1 hc
    constructor <;> omega
theorem app_bytes {A B : List Int} (h : ∀ c ∈ A, Byte c) (k : ∀ c ∈ B, Byte c) : ∀ c ∈ A ++ B, Byte c := by
  intro c hc
  rcases List.mem_append.1 hc with hc | hc
  · exact h c hc
  · exact k c hc
theorem splice_end (A ps : List Int) (n k : Nat) (hA : A.length = k) (hp : ps.length = n) : splice (bs (A ++ List.replicate n 0)) k (bs ps) = bs (A ++ ps) := by
  subst hA hp
  unfold splice bs
  rw [List.map_append, List.map_append, List.length_map, List.drop_append, List.drop_of_length_le (by simp), List.take_left' (by simp)]
  simp
set_option maxHeartbeats 2000000 in
set_option maxRecDepth 100000 in
theorem frame_plain (s e : Nat) (q : Option Addr) (n c : Nat) (p : List Int) (l : p.length = n) (hn : n ≤ 700) (hs : s < 18446744073709551616) (he : e < 4294967296) (w : World) (r : Reads .u8 w q c p) :
    Calls Try.prog 64 #[.agg #[.int .u64 (s : Int), .int .u32 (e : Int), .slice q n c]] w fun x w' => ∃ g, x = .returned (.slice (some ⟨g, 0, none⟩) (n + 14) (n + 14)) ∧ Reads .u8 w' (some ⟨g, 0, none⟩) (n + 14) (plain s e p) ∧ Below w.heap.size w w' := by
  obtain ⟨i0, hi, hz0, hz1, hz2⟩ := info_parts info_byte
  obtain ⟨N, hN⟩ : ∃ N : Nat, n + 14 = N := ⟨_, rfl⟩
  have hN1 : 14 + (n : Int) = (N : Int) := by omega
  rw [hN]
  have Y1 := Blk.new w #[.int .u64 (s : Int), .int .u32 (e : Int), .slice q n c] 75
  have hB1 := bnew w (.cells #[.int .u64 (s : Int), .int .u32 (e : Int), .slice q n c] 75)
  obtain ⟨w2, hmk, B2, G2⟩ := run_make_blk (P := Try.prog) (w.alloc (.cells #[.int .u64 (s : Int), .int .u32 (e : Int), .slice q n c] 75)) 48 5 i0 .u8 Try.underlying48 hi hz0 hz1 hz2 N (by omega)
  have hs1 := Y1.lt
  obtain ⟨g, hg⟩ : ∃ g, g = (w.alloc (.cells #[.int .u64 (s : Int), .int .u32 (e : Int), .slice q n c] 75)).heap.size := ⟨_, rfl⟩
  rw [← hg] at hmk B2 hs1
  have hB2 : Below w.heap.size w w2 := hB1.grown G2 hB1.size (by simp)
  have Y2 := Y1.kept G2 (by simp)
  have hgl : w.heap.size < g := hs1
  have hng : some w.heap.size ≠ some g := by simp; omega
  have HG : Hid (∀ {a b : World}, Below w.heap.size w a → a.grownBy b (some g) → Below w.heap.size w b) := fun {a b} h k => h.grown k h.size (by intro j hj; simp at hj; omega)
  have hc1 : ∀ w, (Instr.slice 48 (.slice (some ⟨g, 0, none⟩) N N) (some (.int .i64 0)) (some (.int .i64 2)) none).run Try.prog w = .ok (.slice (some ⟨g, 0, none⟩) 2 N) w := fun w => run_mid w g 0 N N 0 2 (by omega) (by omega) (by omega)
  have hc2 : ∀ w, (Instr.slice 48 (.slice (some ⟨g, 0, none⟩) N N) (some (.int .i64 2)) (some (.int .i64 10)) none).run Try.prog w = .ok (.slice (some ⟨g, 2, none⟩) 8 (N - 2)) w := fun w => run_mid w g 0 N N 2 10 (by omega) (by omega) (by omega)
  have hc3 : ∀ w, (Instr.slice 48 (.slice (some ⟨g, 0, none⟩) N N) (some (.int .i64 10)) (some (.int .i64 14)) none).run Try.prog w = .ok (.slice (some ⟨g, 10, none⟩) 4 (N - 10)) w := fun w => run_mid w g 0 N N 10 14 (by omega) (by omega) (by omega)
  have hc4 : ∀ w, (Instr.slice 48 (.slice (some ⟨g, 0, none⟩) N N) (some (.int .i64 14)) none none).run Try.prog w = .ok (.slice (cutP (some ⟨g, 0, none⟩) N 14) (N - 14) (N - 14)) w := fun w => run_from w (some ⟨g, 0, none⟩) N N 14 (by omega)
  have P1 := fun W hb => frame_put g 0 2 N n ([] ++ List.replicate N 0) (zeros_bytes (by simp) _) (by simp; omega) (by omega) (by omega) W hb
  rw [put_zeros [] (be 2 n) 0 N 2 rfl (be_len _ _) (by omega)] at P1
  have P2 := fun W hb => frame_put g 2 8 (N - 2) s (([] ++ be 2 n) ++ List.replicate (N - 2) 0) (zeros_bytes (by simpa using be_bytes 2 n) _) (by simp [be_len]; omega) (by omega) hs W hb
  rw [put_zeros ([] ++ be 2 n) (be 8 s) 2 (N - 2) 8 (by simp [be_len]) (be_len _ _) (by omega)] at P2
  have P3 := fun W hb => frame_put g 10 4 (N - 10) e ((([] ++ be 2 n) ++ be 8 s) ++ List.replicate (N - 2 - 8) 0) (zeros_bytes (by rw [List.nil_append]; exact app_bytes (be_bytes 2 n) (be_bytes 8 s)) _) (by simp [be_len]; omega) (by omega) (by omega) W hb
  rw [put_zeros (([] ++ be 2 n) ++ be 8 s) (be 4 e) 10 (N - 2 - 8) 4 (by simp [be_len]) (be_len _ _) (by omega)] at P3
  have hfin : (([] ++ be 2 n) ++ be 8 s) ++ be 4 e ++ p = plain s e p := by simp [plain, l]
  have HN : Hid (N - 2 - 8 - 4 = n) := by unfold Hid; omega
  have hN4 : (N : Int) ≤ 1000 := by omega
  have hwn : IntKind.u64.wrap (n : Int) = (n : Int) := by rw [IntKind.wrap_u64]; omega
  have hwe : IntKind.u64.wrap (e : Int) = (e : Int) := by rw [IntKind.wrap_u64]; omega
  have k1 := Y1.cell
  have k2 := Y2.cell
  clear hg hs1
  go_enter Try.func64, Try.ntmps64
  go_wp2
  have B2' : Blk w2.drew g 5 (bs ([] ++ List.replicate N 0)) := B2
  go_region_with ((go_at_call 76; refine (P1 _ B2').mono ?_; rintro e w3 ⟨rfl, B3, M3⟩))
  have Y3 := Y2.drew.kept M3 hng
  have hB3 := HG.out hB2.drew M3
  have k3 := Y3.cell
  clear B2' B2 Y2 k2 hB2 P1 M3 k1 Y1 hB1 hmk G2
  go_wp2
  go_region_with ((go_at_call 76; refine (P2 _ B3.drew).mono ?_; rintro e w4 ⟨rfl, B4, M4⟩))
  have Y4 := Y3.drew.kept M4 hng
  have hB4 := HG.out hB3.drew M4
  have k4 := Y4.cell
  clear B3 Y3 k3 hB3 P2 M4
  go_wp2
  go_region_with ((go_at_call 76; refine (P3 _ B4.drew).mono ?_; rintro e w5 ⟨rfl, B5, M5⟩))
  have Y5 := Y4.drew.kept M5 hng
  have hB5 := HG.out hB4.drew M5
  have k5 := Y5.cell
  rw [HN.out] at B5
  clear B4 Y4 k4 hB4 P3 M5
  have r5 := r.below hB5
  go_wp2
  go_region_law (refine step_copy_blk rfl (.tmp 28) (.tmp 30) 48 48 rfl 5 Try.underlying48 info_one (cutP (some ⟨g, 0, none⟩) N 14) q (N - 14) (N - 14) n c (by simp [Act.eval]) (by simp [Act.eval]) g 14 _ 5 B5 (bs p) (by show _ = min n (N - 14); rw [bs_len]; omega) (fun hp => ⟨by unfold cutP; rw [bs_len] at hp; rw [if_neg (by omega)]; simp [Addr.add], reads_pos r5.drew hp⟩) (by simp [bs, be_len]; omega) bs_one ?_; intro w6 B6 M6)
  rw [splice_end _ p n 14 (by simp [be_len]) l, hfin] at B6
  have hB6 := HG.out hB5.drew M6
  go_wp2
  go_ret
  exact ⟨g, rfl, by have := Blk.reads B6 (by rw [plain_len]; omega); rwa [plain_len, l, hN] at this, hB6⟩
end Go.Proofs.Ythgafnommcodcaa.Frame
namespace Go.Proofs.Ythgafnommcodcaa.Frame
open Go.RowKit Go.Proofs.Ythgafnommcodcaa.Mem Go.Proofs.Ythgafnommcodcaa.Sect Go.Proofs.Ythgafnommcodcaa.Crc

theorem sc_flat : ∀ l : List Sec, l.flatMap sc = bs (flat l)
  | [] => rfl
  | s :: r => by
    have h := sc_flat r
    simp only [flat, List.flatMap_cons, bs, List.map_append] at h ⊢
    rw [h]
    rfl
theorem blk_rk {w : World} {g : Nat} {t : TypeId} {l : List Sec} (h : Blk w g t (bs (flat l))) (hl : l.length ≤ 1000) : RK sc w (some ⟨g, 0, none⟩) l.length l := by
  refine ⟨Nat.le_refl _, by unfold maxLen; omega, fun h => by simp at h, fun _ => ⟨g, 0, rfl, h.lt, fun j v hv => ?_⟩⟩
  rw [Nat.zero_add, h.cell j, ← sc_flat]
  exact hv
theorem splice_mid (A X : List Int) (Z k : Nat) (hA : A.length = k) : splice (bs (A ++ List.replicate Z 0)) k (bs X) = bs ((A ++ X) ++ List.replicate (Z - X.length) 0) := by
  subst hA
  unfold splice bs
  rw [List.map_append, List.length_map, List.drop_append, List.drop_of_length_le (by simp), List.take_left' (by simp)]
  simp
theorem cut_block {q : Option Addr} {c t g : Nat} (h : ∀ a, q = some a → a.block ≠ g) : ∀ a, cutP q c t = some a → a.block ≠ g := by
  intro a ha
  unfold cutP at ha
  split at ha
  · exact h a ha
  · cases q with
    | none => simp at ha
    | some x =>
      simp at ha
      subst ha
      have e : (x.add t).block = x.block := by unfold Addr.add; first | rfl | (split <;> rfl)
      rw [e]
      exact h x rfl
theorem frame_Make_no (s e : Nat) (q : Option Addr) (n c : Nat) (p : List Int) (l : p.length = n) (hr : right s p = false) (w : World) :
    Calls Try.prog 42 #[.agg #[.int .u64 (s : Int), .int .u32 (e : Int), .slice q n c]] w fun x w' => x = .returned (.tuple #[.slice none 0 0, .int .i64 81]) ∧ Below w.heap.size w w' := by
  subst l
  have hS := fun w => frame_Size (p.length : Int) w
  rw [sizeI_nat] at hS
  by_cases h7 : p.length ≤ 700
  · have h0 : s = 0 := by simp [right, h7] at hr; exact hr
    subst h0
    have hz : ((size p.length : Nat) == (0 : Int)) = false := by have := (size_fits h7).2.2.1; simp; omega
    have hz2 : size p.length ≠ 0 := by have := (size_fits h7).2.2.1; omega
    obtain ⟨N, hN⟩ : ∃ N, size p.length = N := ⟨_, rfl⟩
    rw [hN] at hS hz hz2
    clear hN
    go_enter Try.func42, Try.ntmps42
    go_wp2_with (go_at_call 41; refine (hS _).mono ?_; rintro e w1 ⟨rfl, rfl⟩)
    all_goals (go_ret2; exact ⟨rfl, bnew _ _⟩)
  · have hz : size p.length = 0 := by simp [size, h7]
    rw [hz] at hS
    go_enter Try.func42, Try.ntmps42
    go_wp2_with (go_at_call 41; refine (hS _).mono ?_; rintro e w1 ⟨rfl, rfl⟩)
    go_ret2
    exact ⟨rfl, bnew _ _⟩
set_option maxHeartbeats 2000000 in
set_option maxRecDepth 100000 in
theorem frame_Make_ok (s e : Nat) (q : Option Addr) (n c : Nat) (p : List Int) (l : p.length = n) (hr : right s p = true) (hs : s < 18446744073709551616) (he : e < 4294967296) (hp : ∀ c ∈ p, Byte c) (w : World) (r : Reads .u8 w q c p) :
    Calls Try.prog 42 #[.agg #[.int .u64 (s : Int), .int .u32 (e : Int), .slice q n c]] w fun x w' => ∃ g, x = .returned (.tuple #[.slice (some ⟨g, 0, none⟩) (made s e p).length (made s e p).length, .int .i64 0]) ∧ RK sc w' (some ⟨g, 0, none⟩) (made s e p).length (made s e p) ∧ Below w.heap.size w w' ∧ w.heap.size ≤ g := by
  have h7 : n ≤ 700 := by simp [right] at hr; omega
  have h0 : 0 < s := by simp [right] at hr; omega
  have hs0 : ((s : Int) == 0) = false := by simp; omega
  obtain ⟨hf1, hf2, hf3, hf4⟩ := size_fits h7
  have hS := fun w => frame_Size (n : Int) w
  rw [sizeI_nat] at hS
  rw [made_len hr, l]
  have HF := flat_made (e := e) hr
  rw [l] at HF
  obtain ⟨N, hN⟩ : ∃ N, size n = N := ⟨_, rfl⟩
  rw [hN] at hS hf1 hf2 hf3 hf4 HF ⊢
  have hN0 : ((N : Int) == 0) = false := by simp; omega
  have Y1 := Blk.new w #[.int .u64 (s : Int), .int .u32 (e : Int), .slice q n c] 75
  have hB1 := bnew w (.cells #[.int .u64 (s : Int), .int .u32 (e : Int), .slice q n c] 75)
  obtain ⟨w2, hmk, O2, G2⟩ := run_make_secs (w.alloc (.cells #[.int .u64 (s : Int), .int .u32 (e : Int), .slice q n c] 75)) N (N : Int) rfl (by omega)
  have B2 : Blk w2 (w.heap.size + 1) 70 (bs (List.replicate (64 * N) 0)) := by
    rcases O2.2 with ⟨h, _⟩ | ⟨g, cap, cur, hv, _, hh, _, _, hcs, htk⟩
    · simp at h
    · simp only [Value.slice.injEq, Option.some.injEq, Addr.mk.injEq, and_true, true_and, World.size_alloc] at hv
      obtain ⟨rfl, rfl⟩ := hv
      unfold Blk
      rw [hh]
      rw [List.take_of_length_le (by rw [Array.length_toList, hcs]; exact Nat.le_refl _), sc_flat, flat_zero] at htk
      rw [← htk]
  have hs1 := Y1.lt
  simp only [World.size_alloc] at hmk
  obtain ⟨g, hg⟩ : ∃ g, g = w.heap.size + 1 := ⟨_, rfl⟩
  rw [← hg] at hmk B2
  have hB2 : Below w.heap.size w w2 := hB1.grown G2 hB1.size (by simp)
  have Y2 := Y1.kept G2 (by simp)
  have hP := fun W rr => frame_plain s e q n c p l h7 hs he W rr
  have hL : (plain s e p).length = n + 14 := by rw [plain_len, l]
  have hpb := plain_bytes (s := s) (e := e) hp
  have HG : Hid (∀ {a b : World}, Below w.heap.size w a → a.grownBy b (some g) → Below w.heap.size w b) := fun {a b} h k => h.grown k h.size (by intro j hj; simp at hj; omega)
  have k1 := Y1.cell
  have k2 := Y2.cell
  have hgl2 : g < w2.heap.size := B2.lt
  have HGG : Hid (g = w.heap.size + 1) := hg
  clear hg hs1
  go_enter Try.func42, Try.ntmps42
  go_wp2_with (first
    | (go_at_call 41; refine (hS _).mono ?_; rintro e w1 ⟨rfl, rfl⟩)
    | (go_at_call 64; refine (hP w2 (r.below hB2)).mono ?_; rintro e w3 ⟨g3, rfl, r3, hB3⟩)
    | (go_at_call 63; refine (crc_Seal (some ⟨g3, 0, none⟩) (n + 14) (n + 14) (plain s e p) hL hpb (by omega) w3 r3).mono ?_; rintro e w4 ⟨q4, d4, rfl, r4, hB4, hnw⟩))
  have hB4' : Below w.heap.size w w4 := bnext (bnext hB2 hB3) hB4
  have B4 := (B2.below hB3).below hB4
  have hne4 : ∀ a, q4 = some a → a.block ≠ g := fun a ha => by have := hnw a ha; have := hB3.size; omega
  obtain ⟨b, hb⟩ : ∃ b, all s e p = b := ⟨_, rfl⟩
  have hbl : b.length = n + 18 := by rw [← hb, all_len, l]
  have r4' : Reads .u8 w4 q4 d4 b := by rw [← hb]; exact r4
  rw [hb] at HF
  have HFF : Hid (flat (made s e p) = b ++ List.replicate (64 * N - (n + 18)) 0) := HF
  have HM : Hid ((made s e p).length = N) := by unfold Hid; rw [made_len hr, l, hN]
  clear HF hb r4 B2 hnw hP hpb hL hS k1 k2 Y1 Y2 hmk O2 G2 hB1 hB2 hB3 hB4 r3 r hN hp hr l hs he h0
  go_loopw [6, 27] (fun rs i wr => ∃ (k : Nat) (q : Option Addr) (m c : Nat), k ≤ N ∧ i = .int .i64 k ∧ rs = .slice q m c ∧ (b.drop (k * 64)).length = m ∧ Reads .u8 wr q c (b.drop (k * 64)) ∧ (∀ a, q = some a → a.block ≠ g) ∧ Blk wr g 70 (bs (b.take (k * 64) ++ List.replicate (64 * N - (b.take (k * 64)).length) 0)) ∧ Below w.heap.size w wr)
    (fun _ i _ => N - (intOf i).toNat)
  case atStart => exact ⟨0, q4, n + 14 + 4, d4, by omega, rfl, rfl, by simp [hbl], by simpa using r4', hne4, by simpa using B4, hB4'⟩
  case round =>
    obtain ⟨k, q5, m, c5, hk, rfl, rfl, hm, r5, hne, B5, hB5⟩ := hrel
    by_cases hlt : k < N
    · have hkb : k * 64 < b.length := by omega
      have hA : (b.take (k * 64)).length = k * 64 := by rw [List.length_take]; omega
      obtain ⟨D, hD⟩ : ∃ D, b.drop (k * 64) = D := ⟨_, rfl⟩
      rw [hD] at hm r5
      have hm2 : m + k * 64 = b.length := by rw [← hm, ← hD, List.length_drop]; omega
      obtain ⟨t, ht⟩ : ∃ t, (D.take 64).length = t := ⟨_, rfl⟩
      have ht2 : t = min 64 m := by rw [← ht, List.length_take, hm]
      obtain ⟨w6, hcp, B6, M6⟩ := run_copy_blk (P := Try.prog) wr 48 48 3 5 Try.underlying48 info_one (some ⟨g, k * 64, none⟩) q5 64 64 m c5 g (k * 64) _ 70 B5 (bs (D.take 64))
        (by show _ = min m 64; rw [bs_len, ht]; omega)
        (fun hp => ⟨rfl, reads_pos (r5.upto 64) hp⟩)
        (by rw [bs_len, bs_len, List.length_append, hA, List.length_replicate, ht]; omega) bs_one
      rw [bs_len, ht] at hcp
      rw [splice_mid _ _ _ (k * 64) hA, hA, ht] at B6
      have e1 : b.take (k * 64) ++ D.take 64 = b.take ((k + 1) * 64) := by rw [← hD, ← List.take_add, Nat.succ_mul]
      have hA2 : (b.take ((k + 1) * 64)).length = k * 64 + t := by rw [← e1, List.length_append, hA, ht]
      have e2 : b.drop ((k + 1) * 64) = D.drop t := by
        rw [← hD, List.drop_drop]
        rcases Nat.le_total 64 m with h | h
        · rw [show t = 64 by omega, Nat.succ_mul]
        · rw [List.drop_of_length_le (by omega), List.drop_of_length_le (by omega)]
      rw [e1] at B6
      have B7 : Blk w6 g 70 (bs (b.take ((k + 1) * 64) ++ List.replicate (64 * N - (b.take ((k + 1) * 64)).length) 0)) := by
        rw [hA2, show 64 * N - (k * 64 + t) = 64 * N - k * 64 - t by omega]
        exact B6
      have r7 : Reads .u8 w6 (cutP q5 c5 t) (c5 - t) (b.drop ((k + 1) * 64)) := by
        rw [e2]
        exact (r5.kept M6 (fun _ => hne)).cut t (by omega)
      have hl7 : (b.drop ((k + 1) * 64)).length = m - t := by rw [e2, List.length_drop, hm]
      have hcut := fun w => run_from w q5 m c5 t (by omega)
      have hB7 := HG.out hB5 M6
      have hne7 := cut_block (c := c5) (t := t) hne
      clear e1 e2 hA hA2 B6 hD ht ht2 B5 hm r5 hne B4 r4'
      go_wp2
      go_roundw
      case rel => exact ⟨k + 1, _, _, _, by omega, by go_num, rfl, hl7, r7, hne7, B7, hB7⟩
      case measure => simp [intOf]; omega
    · obtain rfl : k = N := by omega
      have e1 : b.take (k * 64) = b := List.take_of_length_le (by omega)
      rw [e1, hbl, ← HFF.out] at B5
      have hrk := blk_rk B5 (by rw [HM.out]; omega)
      rw [HM.out] at hrk
      go_wp2
      go_ret2
      exact ⟨g, rfl, hrk, hB5, by have := HGG.out; omega⟩
/-- Whatever the record. -/
theorem frame_Make (s e : Nat) (q : Option Addr) (n c : Nat) (p : List Int) (l : p.length = n) (hs : s < 18446744073709551616) (he : e < 4294967296) (hp : ∀ c ∈ p, Byte c) (w : World) (r : Reads .u8 w q c p) :
    Calls Try.prog 42 #[.agg #[.int .u64 (s : Int), .int .u32 (e : Int), .slice q n c]] w fun x w' => ∃ q' c', x = .returned (.tuple #[.slice q' (made s e p).length c', .int .i64 (fault s p)]) ∧ RK sc w' q' c' (made s e p) ∧ Below w.heap.size w w' := by
  cases hr : right s p with
  | false =>
    refine (frame_Make_no s e q n c p l hr w).mono ?_
    rintro x w' ⟨rfl, hB⟩
    have e1 : made s e p = [] := by simp [made, hr]
    have e2 : fault s p = 81 := by simp [fault, hr]
    rw [e1, e2]
    exact ⟨none, 0, rfl, RK.nil _ _, hB⟩
  | true =>
    refine (frame_Make_ok s e q n c p l hr hs he hp w r).mono ?_
    rintro x w' ⟨g, rfl, hrk, hB, -⟩
    have e2 : fault s p = 0 := by simp [fault, hr]
    rw [e2]
    exact ⟨_, _, rfl, hrk, hB⟩
end Go.Proofs.Ythgafnommcodcaa.Frame
