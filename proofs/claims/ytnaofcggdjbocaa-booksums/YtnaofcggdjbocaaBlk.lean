/-
  A block of memory that is known whole: its cells, and what becomes of them behind calls and stores. Nothing of a program is named here.
-/
import Derived.Test.YtnaofcggdjbocaaMem
import Derived.Maps.OwnSet
import Derived.Laws.CopyOwn
/-
  Slices whose elements are of several cells: what it is that one reads as a list, and what becomes of it behind calls, cuts, appends and changes of a map. Nothing of a program is named here.
-/
namespace Go.Proofs.Ytnaofcggdjbocaa.Mem
open Go.RowKit

section
variable {α : Type} {enc : α → List Value} {k : Nat}

/-- The slice at p, of this capacity, reads as these elements, each as its cells. -/
def RK (enc : α → List Value) (w : World) (p : Option Addr) (cap : Nat) (xs : List α) : Prop :=
  xs.length ≤ cap ∧ cap ≤ maxLen ∧ (p = none → cap = 0) ∧
  (0 < xs.length → ∃ b o, p = some ⟨b, o, none⟩ ∧ b < w.heap.size ∧ ∀ j v, (xs.flatMap enc)[j]? = some v → w.cell? ⟨b, o + j, none⟩ = some v)

theorem RK.below {w w' : World} {p : Option Addr} {cap : Nat} {xs : List α} (h : RK enc w p cap xs) (hb : Below w.heap.size w w') : RK enc w' p cap xs := by
  obtain ⟨h1, h2, h3, h4⟩ := h
  refine ⟨h1, h2, h3, fun hz => ?_⟩
  obtain ⟨b, o, e, hlt, hc⟩ := h4 hz
  exact ⟨b, o, e, Nat.lt_of_lt_of_le hlt hb.size, fun j v hv => (hb.cell (p := ⟨b, o + j, none⟩) hlt).trans (hc j v hv)⟩
theorem RK.alloc {w : World} {p : Option Addr} {cap : Nat} {xs : List α} (h : RK enc w p cap xs) (o : Obj) : RK enc (w.alloc o) p cap xs := h.below (bnew w o)
theorem RK.drew {w : World} {p : Option Addr} {cap : Nat} {xs : List α} (h : RK enc w p cap xs) : RK enc w.drew p cap xs := h.below ((Below.refl _ _).drew)
theorem RK.nil (enc : α → List Value) (w : World) : RK enc w none 0 [] := ⟨Nat.le_refl _, Nat.zero_le _, fun _ => rfl, fun h => absurd h (Nat.lt_irrefl 0)⟩

theorem len_flat (hk : ∀ x, (enc x).length = k) : ∀ xs : List α, (xs.flatMap enc).length = xs.length * k
  | [] => by simp
  | x :: r => by simp [hk x, len_flat hk r, Nat.succ_mul, Nat.add_comm]
theorem get_flat (hk : ∀ x, (enc x).length = k) : ∀ (xs : List α) (i j : Nat) (x : α), xs[i]? = some x → j < k → (xs.flatMap enc)[i * k + j]? = (enc x)[j]?
  | [], i, j, x, h, _ => by simp at h
  | a :: r, 0, j, x, h, hj => by
    simp at h; subst h
    rw [List.flatMap_cons, List.getElem?_append_left (by rw [hk]; omega)]
    simp
  | a :: r, i + 1, j, x, h, hj => by
    rw [List.flatMap_cons, List.getElem?_append_right (by rw [hk, Nat.succ_mul]; omega), hk, show (i + 1) * k + j - k = i * k + j by rw [Nat.succ_mul]; omega]
    exact get_flat hk r i j x (by simpa using h) hj
theorem drop_flat (hk : ∀ x, (enc x).length = k) : ∀ (xs : List α) (l : Nat), (xs.drop l).flatMap enc = (xs.flatMap enc).drop (l * k)
  | [], l => by simp
  | a :: r, 0 => by simp
  | a :: r, l + 1 => by
    have e : (enc a).drop ((l + 1) * k) = [] := List.drop_of_length_le (by rw [hk, Nat.succ_mul]; omega)
    rw [List.drop_succ_cons, List.flatMap_cons, drop_flat hk r l, List.drop_append, e, hk, show (l + 1) * k - k = l * k by rw [Nat.succ_mul]; omega, List.nil_append]
theorem take_flat (hk : ∀ x, (enc x).length = k) (xs : List α) (l : Nat) : (xs.take l).flatMap enc = (xs.flatMap enc).take (l * k) := by
  rcases Nat.le_total xs.length l with h | h
  · rw [List.take_of_length_le h, List.take_of_length_le (by rw [len_flat hk]; exact Nat.mul_le_mul_right _ h)]
  · have e : xs.flatMap enc = (xs.take l).flatMap enc ++ (xs.drop l).flatMap enc := by rw [← List.flatMap_append, List.take_append_drop]
    have hl : ((xs.take l).flatMap enc).length = l * k := by rw [len_flat hk, List.length_take, Nat.min_eq_left h]
    rw [e, ← hl, List.take_left]

/-- One element's cells. -/
theorem RK.at (hk : ∀ x, (enc x).length = k) {w : World} {p : Option Addr} {cap i : Nat} {xs : List α} {x : α} (h : RK enc w p cap xs) (hi : xs[i]? = some x) :
    ∃ b o, p = some ⟨b, o, none⟩ ∧ b < w.heap.size ∧ ∀ j v, (enc x)[j]? = some v → w.cell? ⟨b, o + i * k + j, none⟩ = some v := by
  have hl : i < xs.length := (List.getElem?_eq_some_iff.1 hi).1
  obtain ⟨b, o, e, hlt, hc⟩ := h.2.2.2 (by omega)
  refine ⟨b, o, e, hlt, fun j v hv => ?_⟩
  have hj : j < k := by have := (List.getElem?_eq_some_iff.1 hv).1; rw [hk] at this; exact this
  rw [Nat.add_assoc]
  exact hc _ _ ((get_flat hk xs i j x hi hj).trans hv)
/-- It stays while a map is written. -/
theorem RK.turn (hk : ∀ x, (enc x).length = k) (h0 : 0 < k) {w w' : World} {p : Option Addr} {cap b : Nat} {xs : List α} {es : Array MapEntry} {clock : Nat} (h : RK enc w p cap xs) (hm : w.heap[b]? = some (.map es clock)) (hg : w.grownBy w' (some b)) : RK enc w' p cap xs := by
  obtain ⟨h1, h2, h3, h4⟩ := h
  refine ⟨h1, h2, h3, fun hz => ?_⟩
  obtain ⟨g, o, e, hlt, hc⟩ := h4 hz
  have hne : g ≠ b := by
    intro q
    subst q
    have hf : 0 < (xs.flatMap enc).length := by rw [len_flat hk]; exact Nat.mul_pos hz h0
    have := hc 0 _ (List.getElem?_eq_getElem hf)
    simp [World.cell?, hm] at this
  exact ⟨g, o, e, Nat.lt_of_lt_of_le hlt hg.size, fun j v hv => (World.cell?_of_block (w := w) (hg.block g hlt (by simpa using hne))).trans (hc j v hv)⟩

/-- What the call has built by itself is read. -/
theorem own_rk (hk : ∀ x, (enc x).length = k) {w : World} {B n : Nat} {e : TypeId} {v : Value} {xs : List α} (h0 : 0 < k) (h : w.ownsRow B e k v n (xs.flatMap enc)) :
    ∃ p cap, v = .slice p xs.length cap ∧ RK enc w p cap xs ∧ ∀ a, p = some a → B ≤ a.block := by
  have hn : n = xs.length := by
    have := h.1
    rw [len_flat hk] at this
    exact (Nat.eq_of_mul_eq_mul_right h0 this).symm
  subst hn
  rcases h.2 with ⟨rfl, h1⟩ | ⟨g, cap, cur, rfl, hb, hg, hc, hm, hs, ht⟩
  · have : xs = [] := List.eq_nil_of_length_eq_zero h1
    subst this
    exact ⟨none, 0, rfl, RK.nil _ _, by simp⟩
  · refine ⟨some ⟨g, 0, none⟩, cap, rfl, ⟨hc, hm, fun h => by simp at h, fun _ => ⟨g, 0, rfl, (Array.getElem?_eq_some_iff.1 hg).1, fun j u hu => ?_⟩⟩, fun a ha => by simp at ha; subst ha; exact hb⟩
    rw [Nat.zero_add]
    have hj : j < xs.length * k := by have := (List.getElem?_eq_some_iff.1 hu).1; rw [len_flat hk] at this; exact this
    rw [← ht, List.getElem?_take] at hu
    simp only [hj, if_true, Array.getElem?_toList] at hu
    simp [World.cell?, hg, hu]
/-- A slice from some element on. -/
def cutK (k : Nat) (p : Option Addr) (cap l : Nat) : Option Addr := if cap = l then p else p.map (·.add (l * k))
theorem RK.cut (hk : ∀ x, (enc x).length = k) {w : World} {p : Option Addr} {cap : Nat} {xs : List α} (h : RK enc w p cap xs) (l : Nat) (hl : l ≤ xs.length) : RK enc w (cutK k p cap l) (cap - l) (xs.drop l) := by
  obtain ⟨h1, h2, h3, h4⟩ := h
  refine ⟨by simp; omega, by omega, fun hp => ?_, fun hz => ?_⟩
  · unfold cutK at hp
    split at hp
    · omega
    · have := h3 (by simpa using hp); omega
  · simp only [List.length_drop] at hz
    obtain ⟨b, o, rfl, hlt, hc⟩ := h4 (by omega)
    refine ⟨b, o + l * k, ?_, hlt, fun j v hv => ?_⟩
    · unfold cutK
      rw [if_neg (by omega)]
      simp [Addr.add_lit]
    · rw [drop_flat hk, List.getElem?_drop] at hv
      rw [Nat.add_assoc]
      exact hc _ _ hv
/-- A slice up to some element. -/
theorem RK.upto (hk : ∀ x, (enc x).length = k) {w : World} {p : Option Addr} {cap : Nat} {xs : List α} (h : RK enc w p cap xs) (l : Nat) : RK enc w p cap (xs.take l) := by
  obtain ⟨h1, h2, h3, h4⟩ := h
  refine ⟨by simp; omega, h2, h3, fun hz => ?_⟩
  simp only [List.length_take] at hz
  obtain ⟨b, o, rfl, hlt, hc⟩ := h4 (by omega)
  refine ⟨b, o, rfl, hlt, fun j v hv => ?_⟩
  rw [take_flat hk, List.getElem?_take] at hv
  split at hv
  · exact hc _ _ hv
  · cases hv
/-- An append of what is read to what is the call's own, whatever the address. -/
theorem wpList_append_rk {P : Program} (hk : ∀ x, (enc x).length = k) (h0 : 0 < k) (h1c : ∀ x, ∀ v ∈ enc x, v.oneCell' = true) (w : World) {ops : Array Oper} {rest : List Oper} {o : Oper} {a : Act} {Q : Exit → Act → World → Prop} (hgd : o.guard = none) (s x : Operand) (t : TypeId)
    (ho : o.op = .call { callee := .builtin .append, args := #[s, x], argTypes := #[t, t] })
    (base : Nat) (e : TypeId) (i : TypeInfo) (z : Value) (bytes : Nat) (ht : P.underlying t = some (.slice e)) (hi : P.info? e = some i) (hz : i.zero = some z)
    (hsize : i.size = k) (hby : i.bytes = bytes) (hzs : z.cells.size = k)
    (v : Value) (n : Nat) (ys : List α) (hs : a.eval s = v) (hown : w.ownsRow base e k v n (ys.flatMap enc))
    (p : Option Addr) (m c : Nat) (zs : List α) (hx : a.eval x = .slice p m c) (hm : zs.length = m) (hr : RK enc w p c zs)
    (h63 : n + m ≤ 100000) (hbytes : bytes ≤ 1000) (hbase : base ≤ w.heap.size)
    (h : ∀ v' w', w'.ownsRow base e k v' (n + m) ((ys ++ zs).flatMap enc) → w.grownBy w' v.ownBlock → wpList P ops Q rest (a.put o.dst v') w') : wpList P ops Q (o :: rest) a w := by
  cases p with
  | none =>
    have hc := hr.2.2.1 rfl
    have h1 := hr.1
    subst hc
    have hz0 : zs = [] := List.eq_nil_of_length_eq_zero (by omega)
    subst hz0
    have hm0 : m = 0 := by simpa using hm.symm
    subst hm0
    exact wpList_append_own_none hgd s x t ho base e i k ht hi v n _ hs hown hx (h v w (by simpa using hown) (World.grownBy.refl _ _))
  | some ad =>
    have hb2 : (n + m) * bytes ≤ 140737488355328 := by
      have : (n + m) * bytes ≤ 100000 * 1000 := Nat.mul_le_mul h63 hbytes
      omega
    refine wpList_append_own w hgd s x t ho base e i z k bytes ht hi hz hsize hby hzs h0 v n _ hs hown ad m c (zs.flatMap enc) hx (by rw [len_flat hk, hm]) (fun j u hu => ?_) (fun u hu => ?_) (by unfold maxLen; omega) hb2 hbase fun v' w' h1 h2 _ => h v' w' (by rw [List.flatMap_append]; exact h1) h2
    · have hl : 0 < zs.length := by
        rcases Nat.eq_zero_or_pos zs.length with q | q
        · obtain rfl := List.eq_nil_of_length_eq_zero q; simp at hu
        · exact q
      obtain ⟨b', o', e', _, hc⟩ := hr.2.2.2 hl
      simp only [Option.some.injEq] at e'
      subst e'
      rw [Addr.add_lit]
      exact hc j u hu
    · obtain ⟨y, _, hy⟩ := List.mem_flatMap.1 hu
      exact h1c y u hy
/-- One element that is typed out. -/
theorem lit_rk {w : World} {cs : Array Value} {e : TypeId} {x : α} (hcs : cs.toList = enc x) : RK enc (w.alloc (.cells cs e)) (some ⟨w.heap.size, 0, none⟩) 1 [x] := by
  refine ⟨by simp, by unfold maxLen; omega, fun h => by simp at h, fun _ => ⟨w.heap.size, 0, rfl, by simp, fun j v hv => ?_⟩⟩
  simp only [List.flatMap_cons, List.flatMap_nil, List.append_nil, ← hcs, Array.getElem?_toList] at hv
  rw [Nat.zero_add]
  have hn := (MapKept.heap_alloc w (.cells cs e)).1
  unfold World.cell?
  simp only
  rw [hn]
  simpa using hv
/-- A slice of nothing that is typed out. -/
theorem lit_none_k {e : TypeId} (w : World) : (w.alloc (.cells #[] e)).ownsRow w.heap.size e k (.slice (some ⟨w.heap.size, 0, none⟩) 0 0) 0 (([] : List α).flatMap enc) :=
  World.ownsRow_lit w #[] 0 (Nat.le_refl _) (by decide) (by simp)
/-- Behind an append to what is the call's own. -/
theorem grew_k {B n : Nat} {e : TypeId} {w wr w1 : World} {u : Value} {xs : List Value} {o : Obj} (hB : B ≤ w.heap.size) (hnx : Below B w wr) (hown : wr.ownsRow B e k u n xs) (hg : (wr.alloc o).grownBy w1 u.ownBlock) : Below B w w1 := by
  have hs := hnx.size
  exact (hnx.alloc (by omega) o).grown hg (by simp; omega) fun g hg => (hown.lt g hg).1
end
end Go.Proofs.Ytnaofcggdjbocaa.Mem
namespace Go.Proofs.Ytnaofcggdjbocaa.Mem
open Go.RowKit

/-- Block g holds just these cells, none of them frozen. -/
def Blk (w : World) (g : Nat) (t : TypeId) (cs : List Value) : Prop := w.heap[g]? = some (.cells cs.toArray t (0, 0))
section
variable {w w' : World} {g : Nat} {t : TypeId} {cs : List Value}
theorem Blk.cell (h : Blk w g t cs) (i : Nat) : w.cell? ⟨g, i, none⟩ = cs[i]? := by
  rw [cell_of_row w g i cs.toArray t (0, 0) h]; simp
theorem Blk.frozen (h : Blk w g t cs) (i : Nat) : w.frozen? ⟨g, i, none⟩ = false := frozen_of_row w g i cs.toArray t h
theorem Blk.lt (h : Blk w g t cs) : g < w.heap.size := (Array.getElem?_eq_some_iff.1 h).1
theorem Blk.below (h : Blk w g t cs) (hb : Below w.heap.size w w') : Blk w' g t cs := (hb.block g h.lt).trans h
theorem Blk.kept (h : Blk w g t cs) {row : Option Nat} (hg : w.grownBy w' row) (hne : some g ≠ row) : Blk w' g t cs := (hg.block g h.lt hne).trans h
theorem Blk.alloc (h : Blk w g t cs) (o : Obj) : Blk (w.alloc o) g t cs := h.below (bnew w o)
theorem Blk.drew (h : Blk w g t cs) : Blk w.drew g t cs := h
theorem Blk.new (w : World) (a : Array Value) (t : TypeId) : Blk (w.alloc (.cells a t)) w.heap.size t a.toList := by
  unfold Blk; rw [Array.toArray_toList]; exact heap_alloc_new w _
theorem Blk.new1 (w : World) {G : Nat} (hG : w.heap.size = G) (a : Array Value) (t : TypeId) : Blk (w.alloc (.cells a t)) G t a.toList := hG ▸ Blk.new w a t
theorem Blk.put (h : Blk w g t cs) (i : Nat) (v : Value) : Blk (w.setCell ⟨g, i, none⟩ v) g t (cs.set i v) := by
  have := heap_setCell_same w g i cs.toArray t v h
  unfold Blk
  rw [this]
  simp
theorem Blk.other (h : Blk w g t cs) {p : Addr} (hp : g ≠ p.block) (v : Value) : Blk (w.setCell p v) g t cs := (Below.heap_setCell w p v g hp).trans h
theorem only_put (w : World) (p : Addr) (v : Value) : w.grownBy (w.setCell p v) (some p.block) :=
  ⟨rfl, rfl, rfl, by simp, fun k _ hk => heap_setCell_other w p k v (fun e => hk (by simp [e]))⟩
/-- Some of its cells, one behind the other. -/
theorem Blk.part (h : Blk w g t cs) (o : Nat) (us rest : List Value) (hd : cs.drop o = us ++ rest) : ∀ j v, us[j]? = some v → w.cell? ((⟨g, o, none⟩ : Addr).add j) = some v := by
  intro j v hj
  rw [Addr.add_lit, h.cell, ← List.getElem?_drop, hd, List.getElem?_append_left (List.getElem?_eq_some_iff.1 hj).1]
  exact hj
/-- Bytes in a block of their own are read. -/
theorem Blk.reads {k : IntKind} {zs : List Int} (h : Blk w g t (zs.map (Value.int k))) (hn : zs.length ≤ 100000) : Reads k w (some ⟨g, 0, none⟩) zs.length zs := by
  refine ⟨Nat.le_refl _, by unfold maxLen; omega, fun h => by simp at h, fun _ => ⟨g, 0, rfl, h.lt, fun i hi => ?_⟩⟩
  rw [Nat.zero_add, h.cell i]
  simp [hi]
end
/-- What only block g has turned in is new elsewhere. -/
theorem Reads.kept {k : IntKind} {w w' : World} {p : Option Addr} {cap g : Nat} {zs : List Int} (h : Reads k w p cap zs) (hg : w.grownBy w' (some g)) (hne : 0 < zs.length → ∀ a, p = some a → a.block ≠ g) : Reads k w' p cap zs := by
  obtain ⟨h1, h2, h3, h4⟩ := h
  refine ⟨h1, h2, h3, fun hz => ?_⟩
  obtain ⟨b, o, e, hlt, hc⟩ := h4 hz
  exact ⟨b, o, e, Nat.lt_of_lt_of_le hlt hg.size, fun i hi => hg.cell (hc i hi) (by have := hne hz _ e; simpa using this)⟩
/-- A copy into a block that is known whole. -/
theorem wpList_copy_blk {P : Program} {w : World} {ops : Array Oper} {rest : List Oper} {o : Oper} {a : Act} {Q : Exit → Act → World → Prop} (hgd : o.guard = none) (d s : Operand) (dT sT : TypeId)
    (ho : o.op = .call { callee := .builtin .copy, args := #[d, s], argTypes := #[dT, sT] }) (elem : TypeId) (hu : P.underlying dT = some (.slice elem)) (hsz : (P.info? elem).map (·.size) = some 1)
    (dp sp : Option Addr) (dLen dCap sLen sCap : Nat) (hd : a.eval d = .slice dp dLen dCap) (hs : a.eval s = .slice sp sLen sCap)
    (g off : Nat) (cur : List Value) (t : TypeId) (hg : Blk w g t cur) (cs : List Value) (hn : cs.length = Nat.min sLen dLen)
    (hpos : 0 < cs.length → dp = some ⟨g, off, none⟩ ∧ ∃ ad, sp = some ad ∧ ∀ j v, cs[j]? = some v → w.cell? (ad.add j) = some v)
    (hfit : off + cs.length ≤ cur.length) (h1 : ∀ v ∈ cs, v.oneCell' = true)
    (h : ∀ w', Blk w' g t (splice cur off cs) → w.grownBy w' (some g) → wpList P ops Q rest (a.put o.dst (goInt cs.length)) w') :
    wpList P ops Q (o :: rest) a w := by
  by_cases h0 : cs.length = 0
  · obtain rfl : cs = [] := List.eq_nil_of_length_eq_zero h0
    refine wpList_copy_nothing hgd d s dT sT ho elem hu hsz dp sp dLen dCap sLen sCap hd hs (by simpa using hn.symm) ?_
    exact h w (by unfold Blk at hg ⊢; simpa [splice] using hg) (World.grownBy.refl _ _)
  · obtain ⟨rfl, ad, rfl, hsrc⟩ := hpos (by omega)
    refine wpList_copy_own hgd d s dT sT ho elem hu hsz g off dLen dCap ad sLen sCap hd hs cur.toArray t hg cs hn hsrc (by simpa using hfit) h1 ?_
    exact h _ (show _ = _ by simpa [splice] using setRow_heap w g _ _ t _ hg) ⟨rfl, rfl, rfl, by simp [World.setRow], fun k _ hk => setRow_other w g k _ (fun e => hk (by simp [e]))⟩
/-- The same as what it runs to. -/
theorem run_copy_blk {P : Program} (w : World) (dT sT ty elem : TypeId) (hu : P.underlying dT = some (.slice elem)) (hsz : (P.info? elem).map (·.size) = some 1)
    (dp sp : Option Addr) (dLen dCap sLen sCap : Nat) (g off : Nat) (cur : List Value) (t : TypeId) (hg : Blk w g t cur) (cs : List Value) (hn : cs.length = Nat.min sLen dLen)
    (hpos : 0 < cs.length → dp = some ⟨g, off, none⟩ ∧ ∃ ad, sp = some ad ∧ ∀ j v, cs[j]? = some v → w.cell? (ad.add j) = some v)
    (hfit : off + cs.length ≤ cur.length) (h1 : ∀ v ∈ cs, v.oneCell' = true) :
    ∃ w', (Builtin.copy_ #[dT, sT] ty #[.slice dp dLen dCap, .slice sp sLen sCap]).run P w = .ok (goInt cs.length) w' ∧ Blk w' g t (splice cur off cs) ∧ w.grownBy w' (some g) := by
  by_cases h0 : cs.length = 0
  · obtain rfl : cs = [] := List.eq_nil_of_length_eq_zero h0
    exact ⟨w, run_copy_none (P := P) w dT sT ty elem dp sp dLen dCap sLen sCap hu hsz (by simpa using hn.symm), by unfold Blk at hg ⊢; simpa [splice] using hg, World.grownBy.refl _ _⟩
  · obtain ⟨rfl, ad, rfl, hsrc⟩ := hpos (by omega)
    exact ⟨_, run_copy_row (P := P) w dT sT ty elem g off dLen dCap ad sLen sCap cur.toArray t cs hu hsz hg hn hsrc (by simpa using hfit) h1, show _ = _ by simpa [splice] using setRow_heap w g _ _ t _ hg, ⟨rfl, rfl, rfl, by simp [World.setRow], fun k _ hk => setRow_other w g k _ (fun e => hk (by simp [e]))⟩⟩
/-- The same as one operation. -/
theorem wp_copy_blk {P : Program} {w : World} {o : Oper} {a : Act} {K : Act → World → Prop} {Q : Exit → Act → World → Prop} (d s : Operand) (dT sT : TypeId)
    (ho : o.op = .call { callee := .builtin .copy, args := #[d, s], argTypes := #[dT, sT] }) (elem : TypeId) (hu : P.underlying dT = some (.slice elem)) (hsz : (P.info? elem).map (·.size) = some 1)
    (dp sp : Option Addr) (dLen dCap sLen sCap : Nat) (hd : a.eval d = .slice dp dLen dCap) (hs : a.eval s = .slice sp sLen sCap)
    (g off : Nat) (cur : List Value) (t : TypeId) (hg : Blk w g t cur) (cs : List Value) (hn : cs.length = Nat.min sLen dLen)
    (hpos : 0 < cs.length → dp = some ⟨g, off, none⟩ ∧ ∃ ad, sp = some ad ∧ ∀ j v, cs[j]? = some v → w.cell? (ad.add j) = some v)
    (hfit : off + cs.length ≤ cur.length) (h1 : ∀ v ∈ cs, v.oneCell' = true)
    (h : ∀ w', Blk w' g t (splice cur off cs) → w.grownBy w' (some g) → K (a.put o.dst (goInt cs.length)) w') :
    Oper.wp P o a w K Q := by
  by_cases h0 : cs.length = 0
  · obtain rfl : cs = [] := List.eq_nil_of_length_eq_zero h0
    have hrun := run_copy_none (P := P) w dT sT o.type elem dp sp dLen dCap sLen sCap hu hsz (by simpa using hn.symm)
    unfold Oper.wp
    simp [execOp, ho, resolve, invoke, builtin, hd, hs, hrun, Result.andThen]
    exact h w (by unfold Blk at hg ⊢; simpa [splice] using hg) (World.grownBy.refl _ _)
  · obtain ⟨rfl, ad, rfl, hsrc⟩ := hpos (by omega)
    have hrun := run_copy_row (P := P) w dT sT o.type elem g off dLen dCap ad sLen sCap cur.toArray t cs hu hsz hg hn hsrc (by simpa using hfit) h1
    unfold Oper.wp
    simp [execOp, ho, resolve, invoke, builtin, hd, hs, hrun, Result.andThen]
    exact h _ (show _ = _ by simpa [splice] using setRow_heap w g _ _ t _ hg) ⟨rfl, rfl, rfl, by simp [World.setRow], fun k _ hk => setRow_other w g k _ (fun e => hk (by simp [e]))⟩
/-- The same as one step of a region that draws its order. -/
theorem step_copy_blk {P : Program} {ops : Array Oper} {w : World} {o : Oper} {a : Act} {K : Act → World → Prop} {Q : Exit → Act → World → Prop} {E : Prop} (hgd : o.guard = none) (d s : Operand) (dT sT : TypeId)
    (ho : o.op = .call { callee := .builtin .copy, args := #[d, s], argTypes := #[dT, sT] }) (elem : TypeId) (hu : P.underlying dT = some (.slice elem)) (hsz : (P.info? elem).map (·.size) = some 1)
    (dp sp : Option Addr) (dLen dCap sLen sCap : Nat) (hd : a.eval d = .slice dp dLen dCap) (hs : a.eval s = .slice sp sLen sCap)
    (g off : Nat) (cur : List Value) (t : TypeId) (hg : Blk w g t cur) (cs : List Value) (hn : cs.length = Nat.min sLen dLen)
    (hpos : 0 < cs.length → dp = some ⟨g, off, none⟩ ∧ ∃ ad, sp = some ad ∧ ∀ j v, cs[j]? = some v → w.cell? (ad.add j) = some v)
    (hfit : off + cs.length ≤ cur.length) (h1 : ∀ v ∈ cs, v.oneCell' = true)
    (h : ∀ w', Blk w' g t (splice cur off cs) → w.grownBy w' (some g) → K (a.put o.dst (goInt cs.length)) w') :
    if Region.wanted o (yielded ops a.tmps) = true then Oper.wp P o a w K Q else E := by
  rw [if_pos (show Region.wanted o (yielded ops a.tmps) = true by simp [Region.wanted, hgd])]
  exact wp_copy_blk d s dT sT ho elem hu hsz dp sp dLen dCap sLen sCap hd hs g off cur t hg cs hn hpos hfit h1 h
/-- A slice that is made. -/
theorem run_make_blk {P : Program} (w : World) (t e : TypeId) (i : TypeInfo) (k : IntKind) (ht : P.underlying t = some (.slice e)) (hi : P.info? e = some i) (hz : i.zero = some (.int k 0)) (hsize : i.size = 1) (hby : i.bytes = 1) (n : Nat) (hn : n ≤ 100000) :
    ∃ w', (Instr.makeSlice t (.int .i64 (n : Int)) (.int .i64 (n : Int))).run P w = .ok (.slice (some ⟨w.heap.size, 0, none⟩) n n) w' ∧ Blk w' w.heap.size e ((List.replicate n (0 : Int)).map (Value.int k)) ∧ w.grownBy w' none := by
  obtain ⟨w', hr, ho, hg⟩ := run_make_full (P := P) w w.heap.size t e i (.int k 0) 1 ht hi hz hsize .i64 .i64 n (by rw [hby]; omega) (by unfold maxLen; omega) (Nat.le_refl _)
  refine ⟨w', hr, ?_, hg⟩
  rcases ho.2 with ⟨h, _⟩ | ⟨g, cap, cur, hv, _, hh, _, _, hs, htk⟩
  · simp at h
  · simp only [Value.slice.injEq, Option.some.injEq, Addr.mk.injEq, and_true, true_and] at hv
    obtain ⟨rfl, rfl⟩ := hv
    unfold Blk
    rw [hh]
    have e1 : cur.toList = (madeCells #[Value.int k 0] n).toList := by
      rw [List.take_of_length_le (by rw [Array.length_toList, hs]; exact Nat.le_refl _)] at htk
      simpa [Value.cells] using htk
    rw [toList_madeCells_one] at e1
    have e2 : cur = (List.replicate n (Value.int k 0)).toArray := by rw [← e1]
    rw [e2]
    simp
/-- What is read lies elsewhere than what is made later. -/
theorem Reads.apart {k : IntKind} {w : World} {p : Option Addr} {cap g : Nat} {zs : List Int} (h : Reads k w p cap zs) (hg : w.heap.size ≤ g) : 0 < zs.length → ∀ a, p = some a → a.block ≠ g := by
  intro hz a ha
  obtain ⟨b, o, e, hlt, _⟩ := h.2.2.2 hz
  rw [e] at ha
  obtain rfl := Option.some.inj ha
  exact fun q => by simp only at q; omega
/-- An append of what is read to what is the call's own, as what it runs to, and as one step of a region that draws its order. -/
theorem run_append_reads {P : Program} (w : World) (t ty : TypeId) (base : Nat) (e : TypeId) (i : TypeInfo) (k : IntKind) (ht : P.underlying t = some (.slice e)) (hi : P.info? e = some i) (hz : i.zero = some (.int k 0)) (hsize : i.size = 1) (hby : i.bytes = 1)
    (v : Value) (n : Nat) (xs : List Value) (hown : w.ownsRow base e 1 v n xs) (p : Option Addr) (m c : Nat) (zs : List Int) (hm : zs.length = m) (hr : Reads k w p c zs) (h63 : n + m ≤ 100000) (hbase : base ≤ w.heap.size) :
    ∃ v' w', (Builtin.append_ #[t, t] ty #[v, .slice p m c]).run P w = .ok v' w' ∧ w'.ownsRow base e 1 v' (n + m) (xs ++ zs.map (Value.int k)) ∧ w.grownBy w' v.ownBlock := by
  cases p with
  | none =>
    have hc := hr.2.2.1 rfl
    have h1 := hr.1
    subst hc
    obtain rfl : zs = [] := List.eq_nil_of_length_eq_zero (by omega)
    obtain rfl : m = 0 := by simpa using hm.symm
    exact ⟨v, w, run_append_owned_none w base t ty e i 1 ht hi v n xs hown, by simpa using hown, World.grownBy.refl _ _⟩
  | some ad =>
    obtain ⟨v', w', h1, h2, h3, _⟩ := run_append_own (P := P) w base t ty e i (.int k 0) 1 1 ht hi hz hsize hby rfl (by decide) v n xs hown ad m c (zs.map (Value.int k)) (by simp [hm]) (fun j u hu => by
      have hj : j < zs.length := by
        have := (List.getElem?_eq_some_iff.1 hu).1
        simpa using this
      obtain ⟨b', o', e', _, hc⟩ := hr.2.2.2 (by omega)
      simp only [Option.some.injEq] at e'
      subst e'
      rw [Addr.add_lit, hc j hj, ← hu]
      simp [hj]) (ints_oneCell _ _) (by unfold maxLen; omega) (by omega) hbase
    exact ⟨v', w', h1, h2, h3⟩
theorem step_append_reads {P : Program} {ops : Array Oper} {w : World} {o : Oper} {a : Act} {K : Act → World → Prop} {Q : Exit → Act → World → Prop} {E : Prop} (hgd : o.guard = none) (s x : Operand) (t : TypeId)
    (ho : o.op = .call { callee := .builtin .append, args := #[s, x], argTypes := #[t, t] }) (base : Nat) (e : TypeId) (i : TypeInfo) (k : IntKind) (ht : P.underlying t = some (.slice e)) (hi : P.info? e = some i) (hz : i.zero = some (.int k 0)) (hsize : i.size = 1) (hby : i.bytes = 1)
    (v : Value) (n : Nat) (xs : List Value) (hs : a.eval s = v) (hown : w.ownsRow base e 1 v n xs) (p : Option Addr) (m c : Nat) (zs : List Int) (hx : a.eval x = .slice p m c) (hm : zs.length = m) (hr : Reads k w p c zs) (h63 : n + m ≤ 100000) (hbase : base ≤ w.heap.size)
    (h : ∀ v' w', w'.ownsRow base e 1 v' (n + m) (xs ++ zs.map (Value.int k)) → w.grownBy w' v.ownBlock → K (a.put o.dst v') w') :
    if Region.wanted o (yielded ops a.tmps) = true then Oper.wp P o a w K Q else E := by
  rw [if_pos (show Region.wanted o (yielded ops a.tmps) = true by simp [Region.wanted, hgd])]
  obtain ⟨v', w', hrun, h1, h2⟩ := run_append_reads (P := P) w t o.type base e i k ht hi hz hsize hby v n xs hown p m c zs hm hr h63 hbase
  unfold Oper.wp
  simp [execOp, ho, resolve, invoke, builtin, hs, hx, hrun, Result.andThen]
  exact h v' w' h1 h2
/-- What is read, as a copy asks for it. -/
theorem reads_pos {k : IntKind} {w : World} {p : Option Addr} {cap : Nat} {zs : List Int} (h : Reads k w p cap zs) (hp : 0 < (zs.map (Value.int k)).length) :
    ∃ ad, p = some ad ∧ ∀ j v, (zs.map (Value.int k))[j]? = some v → w.cell? (ad.add j) = some v := by
  obtain ⟨b, o, rfl, _, _⟩ := h.2.2.2 (by simpa using hp)
  exact ⟨_, rfl, reads_news h⟩
end Go.Proofs.Ytnaofcggdjbocaa.Mem
