/-
  A block of memory that is known whole: its cells, and what becomes of them behind calls and stores. Nothing of a program is named here.
-/
import Derived.Test.YthgafnommcodcaaProg
import Derived.Test.YthgafnommcodcaaFramePlain
import Derived.WalkKit
import Derived.Lib.Bytes
import Derived.Laws.BytesArg
import Derived.Laws.BitsLemmas
import Derived.WalkSpells
import Derived.WalkLawsBesides
import Derived.Below
import Derived.OwnWalk
import Derived.Deep.Draws
import Derived.Laws.AppendOwnNone
import Derived.Laws.CopyOwn
/-
  Slices of integers in memory: what it is that one reads as a list of numbers, and what becomes of it behind calls, cuts and appends.
-/
namespace Go.Proofs.Ythgafnommcodcaa.Mem
open Go.RowKit

/-- The slice at p, of this capacity, reads as these numbers. -/
def Reads (k : IntKind) (w : World) (p : Option Addr) (cap : Nat) (zs : List Int) : Prop :=
  zs.length ≤ cap ∧ cap ≤ maxLen ∧ (p = none → cap = 0) ∧
  (0 < zs.length → ∃ b o, p = some ⟨b, o, none⟩ ∧ b < w.heap.size ∧ ∀ i, i < zs.length → w.cell? ⟨b, o + i, none⟩ = some (.int k (zs.getD i 0)))

theorem Reads.below {k : IntKind} {w w' : World} {p : Option Addr} {cap : Nat} {zs : List Int} (h : Reads k w p cap zs) (hb : Below w.heap.size w w') : Reads k w' p cap zs := by
  obtain ⟨h1, h2, h3, h4⟩ := h
  refine ⟨h1, h2, h3, fun hz => ?_⟩
  obtain ⟨b, o, e, hlt, hc⟩ := h4 hz
  exact ⟨b, o, e, Nat.lt_of_lt_of_le hlt hb.size, fun i hi => (hb.cell (p := ⟨b, o + i, none⟩) hlt).trans (hc i hi)⟩
theorem bnew (w : World) (o : Obj) : Below w.heap.size w (w.alloc o) := (Below.refl _ _).alloc (Nat.le_refl _) o
theorem Reads.alloc {k : IntKind} {w : World} {p : Option Addr} {cap : Nat} {zs : List Int} (h : Reads k w p cap zs) (o : Obj) : Reads k (w.alloc o) p cap zs := h.below (bnew w o)
theorem Reads.drew {k : IntKind} {w : World} {p : Option Addr} {cap : Nat} {zs : List Int} (h : Reads k w p cap zs) : Reads k w.drew p cap zs := h.below ((Below.refl _ _).drew)
theorem bdrewN (w : World) (n : Nat) : Below w.heap.size w (w.drewN n) := ⟨rfl, rfl, rfl, Nat.le_refl _, fun _ _ => rfl⟩
theorem Reads.drewN {k : IntKind} {w : World} {p : Option Addr} {cap : Nat} {zs : List Int} (h : Reads k w p cap zs) (n : Nat) : Reads k (w.drewN n) p cap zs := h.below (bdrewN w n)
theorem Reads.nil (k : IntKind) (w : World) : Reads k w none 0 [] := ⟨Nat.le_refl _, Nat.zero_le _, fun _ => rfl, fun h => absurd h (Nat.lt_irrefl 0)⟩
/-- One behind the other. -/
theorem bnext {a b c : World} (h : Below a.heap.size a b) (k : Below b.heap.size b c) : Below a.heap.size a c := h.trans (k.mono h.size)

/-- The string of bytes. -/
def str (xs : List Int) : ByteArray := strOfNums xs
theorem conv {w : World} {p : Option Addr} {cap n : Nat} {zs : List Int} (h : Reads .u8 w p cap zs) (hn : zs.length = n) :
    (convert 48 9 (.slice p n cap)).run Try.prog w = .ok (.string (str zs)) w := by
  rcases Nat.eq_zero_or_pos n with h0 | h0
  · subst h0
    obtain rfl : zs = [] := List.eq_nil_of_length_eq_zero hn
    rw [run_convert_bytes_string w 48 9 5 _ 0 cap Try.underlying48 Try.underlying5 Try.underlying9]
    cases p <;> simp [Conv.bytesToString, loadCells]
    all_goals rfl
  · obtain ⟨b, o, rfl, _, hc⟩ := h.2.2.2 (by omega)
    exact run_convert_bytes_arg (P := Try.prog) w 48 5 Try.underlying48 Try.underlying5 b o n cap zs hn (by subst hn; exact hc) 9 Try.underlying9
theorem bytes_inj : ∀ {xs ys : List Int}, (∀ c ∈ xs, Byte c) → (∀ c ∈ ys, Byte c) → Lib.bytesOf xs = Lib.bytesOf ys → xs = ys
  | [], [], _, _, _ => rfl
  | [], _ :: _, _, _, h => by simp [Lib.bytesOf] at h
  | _ :: _, [], _, _, h => by simp [Lib.bytesOf] at h
  | x :: xs, y :: ys, hx, hy, h => by
    simp only [Lib.bytesOf, List.map_cons, List.cons.injEq] at h
    obtain ⟨x0, x1⟩ := hx x (by simp)
    obtain ⟨y0, y1⟩ := hy y (by simp)
    have e : x = y := by
      have := congrArg UInt8.toNat h.1
      simp only [UInt8.toNat_ofNat', Nat.reducePow] at this
      omega
    rw [e, bytes_inj (fun c hc => hx c (by simp [hc])) (fun c hc => hy c (by simp [hc])) h.2]
theorem bytes_eq {xs ys : List Int} (hx : ∀ c ∈ xs, Byte c) (hy : ∀ c ∈ ys, Byte c) : (Lib.bytesOf xs == Lib.bytesOf ys) = decide (xs = ys) := by
  by_cases h : xs = ys
  · subst h; simp
  · rw [decide_eq_false h]
    simpa using fun e => h (bytes_inj hx hy e)
theorem str_eq {xs ys : List Int} (hx : ∀ c ∈ xs, Byte c) (hy : ∀ c ∈ ys, Byte c) : ((str xs).toList == (str ys).toList) = decide (xs = ys) := by
  unfold str
  rw [Lib.strOfNums_toList, Lib.strOfNums_toList, bytes_eq hx hy]

/-- What the call has built by itself is read. -/
theorem own_reads {w : World} {B n : Nat} {e : TypeId} {v : Value} {k : IntKind} {xs : List Int} (h : w.ownsRow B e 1 v n (xs.map (Value.int k))) :
    n = xs.length ∧ ∃ p cap, v = .slice p xs.length cap ∧ Reads k w p cap xs := by
  have hn : n = xs.length := by have := h.1; simp at this; omega
  subst hn
  refine ⟨rfl, ?_⟩
  rcases h.2 with ⟨rfl, h0⟩ | ⟨g, cap, cur, rfl, hb, hg, hc, hm, hs, ht⟩
  · have : xs = [] := List.eq_nil_of_length_eq_zero h0
    subst this
    exact ⟨none, 0, rfl, Reads.nil _ _⟩
  · refine ⟨some ⟨g, 0, none⟩, cap, rfl, hc, hm, fun h => by simp at h, fun hz => ⟨g, 0, rfl, (Array.getElem?_eq_some_iff.1 hg).1, fun i hi => ?_⟩⟩
    have := h.cellAt i (by simpa using hi)
    rw [Nat.zero_add, this]
    simp [hi]
theorem own_reads_pos {w : World} {B n : Nat} {e : TypeId} {v : Value} {k : IntKind} {xs : List Int} (h : w.ownsRow B e 1 v n (xs.map (Value.int k))) (hp : 0 < xs.length) :
    ∃ g cap, v = .slice (some ⟨g, 0, none⟩) xs.length cap ∧ Reads k w (some ⟨g, 0, none⟩) cap xs := by
  obtain ⟨_, p, cap, hv, hr⟩ := own_reads h
  rcases h.2 with ⟨rfl, h0⟩ | ⟨g, cap', cur, rfl, _⟩
  · simp at hv
    omega
  · simp only [Value.slice.injEq] at hv
    obtain ⟨rfl, _, rfl⟩ := hv
    exact ⟨g, cap', by simp; omega, hr⟩

/-- A slice that is typed out. -/
theorem lit_reads {k : IntKind} {e : TypeId} {w : World} {cs : Array Value} {n : Nat} {zs : List Int} (hcs : cs = (zs.map (Value.int k)).toArray) (hn : n = zs.length) (hl : zs.length ≤ 1000) :
    Reads k (w.alloc (.cells cs e)) (some ⟨w.heap.size, 0, none⟩) n zs := by
  subst hcs hn
  have h := World.ownsRow_lit (base := 0) (e := e) (size := 1) w (zs.map (Value.int k)).toArray zs.length (Nat.zero_le _) (by unfold maxLen; omega) (by simp)
  simp only at h
  obtain ⟨_, p, cap, hv, hr⟩ := own_reads h
  simp only [Value.slice.injEq] at hv
  obtain ⟨rfl, _, rfl⟩ := hv
  exact hr

/-- Its cells, as an append asks for them. -/
theorem reads_news {k : IntKind} {w : World} {b o cap : Nat} {zs : List Int} (h : Reads k w (some ⟨b, o, none⟩) cap zs) :
    ∀ j u, (zs.map (Value.int k))[j]? = some u → w.cell? ((⟨b, o, none⟩ : Addr).add j) = some u := by
  intro j u hu
  have hj : j < zs.length := by
    have := (List.getElem?_eq_some_iff.1 hu).1
    simpa using this
  obtain ⟨b', o', e, _, hc⟩ := h.2.2.2 (by omega)
  simp only [Option.some.injEq, Addr.mk.injEq, and_true] at e
  obtain ⟨rfl, rfl⟩ := e
  rw [Addr.add_lit, hc j hj, ← hu]
  simp [hj]

/-- A slice from some element on. -/
def cutP (p : Option Addr) (cap l : Nat) : Option Addr := if cap = l then p else p.map (·.add l)
theorem Reads.cut {k : IntKind} {w : World} {p : Option Addr} {cap : Nat} {zs : List Int} (h : Reads k w p cap zs) (l : Nat) (hl : l ≤ zs.length) : Reads k w (cutP p cap l) (cap - l) (zs.drop l) := by
  obtain ⟨h1, h2, h3, h4⟩ := h
  refine ⟨by simp; omega, by omega, fun hp => ?_, fun hz => ?_⟩
  · unfold cutP at hp
    split at hp
    · omega
    · have := h3 (by simpa using hp); omega
  · simp only [List.length_drop] at hz
    obtain ⟨b, o, rfl, hlt, hc⟩ := h4 (by omega)
    refine ⟨b, o + l, ?_, hlt, fun i hi => ?_⟩
    · unfold cutP
      rw [if_neg (by omega)]
      simp [Addr.add_lit]
    · simp only [List.length_drop] at hi
      rw [Nat.add_assoc, hc (l + i) (by omega)]
      simp
/-- A slice up to some element. -/
theorem Reads.upto {k : IntKind} {w : World} {p : Option Addr} {cap : Nat} {zs : List Int} (h : Reads k w p cap zs) (l : Nat) : Reads k w p cap (zs.take l) := by
  obtain ⟨h1, h2, h3, h4⟩ := h
  refine ⟨by simp; omega, h2, h3, fun hz => ?_⟩
  simp only [List.length_take] at hz
  obtain ⟨b, o, rfl, hlt, hc⟩ := h4 (by omega)
  refine ⟨b, o, rfl, hlt, fun i hi => ?_⟩
  simp only [List.length_take] at hi
  rw [hc i (by omega)]
  simp [List.getD, show i < l by omega]
theorem run_from (w : World) (p : Option Addr) (n cap l : Nat) (hl : l ≤ n) :
    (Instr.slice 48 (.slice p n cap) (some (.int .i64 (l : Int))) none none).run Try.prog w = .ok (.slice (cutP p cap l) (n - l) (cap - l)) w := by
  have ht : Try.prog.underlying 48 = some (.slice (Try.prog.elem 48)) := by simp [Program.elem, Try.underlying48]
  have he : Try.prog.elem 48 = 5 := by simp [Program.elem, Try.underlying48]
  rw [run_slice_l w 48 p n cap ht .i64 (l : Int) (by omega) (by omega), he, Try.sizeOf5]
  simp [Result.andThen, sliced, cutP]
theorem run_upto (w : World) (b o n cap l : Nat) (hl : l ≤ cap) :
    (Instr.slice 48 (.slice (some ⟨b, o, none⟩) n cap) none (some (.int .i64 (l : Int))) none).run Try.prog w = .ok (.slice (some ⟨b, o, none⟩) l cap) w := by
  have ht : Try.prog.underlying 48 = some (.slice (Try.prog.elem 48)) := by simp [Program.elem, Try.underlying48]
  have he : Try.prog.elem 48 = 5 := by simp [Program.elem, Try.underlying48]
  rw [run_slice_h w 48 _ n cap ht .i64 (l : Int) (by omega) (by omega), he, Try.sizeOf5]
  simp [Result.andThen, sliced, Addr.add_lit]

/-- What is the call's own stays so behind calls of others. -/
theorem own_below {B n size : Nat} {e : TypeId} {w w' : World} {v : Value} {xs : List Value} (h : w.ownsRow B e size v n xs) (hb : Below w.heap.size w w') : w'.ownsRow B e size v n xs := by
  refine ⟨h.1, ?_⟩
  rcases h.2 with h0 | ⟨g, cap, cur, hv, hg, hh, r⟩
  · exact .inl h0
  · exact .inr ⟨g, cap, cur, hv, hg, (hb.block g (Array.getElem?_eq_some_iff.1 hh).1).trans hh, r⟩
/-- How long a slice is. -/
def sliceLen : Value → Nat
  | .slice _ n _ => n
  | _ => 0

/-- Behind an append to what is the call's own. -/
theorem grew {k : IntKind} {B n : Nat} {e : TypeId} {w wr w1 : World} {u v : Value} {ys zs : List Int} {o : Obj} (hB : B ≤ w.heap.size) (hnx : Below B w wr) (hown : wr.ownsRow B e 1 u ys.length (ys.map (Value.int k)))
    (hown1 : w1.ownsRow B e 1 v n (ys.map (Value.int k) ++ zs.map (Value.int k))) (hg : (wr.alloc o).grownBy w1 u.ownBlock) :
    w1.ownsRow B e 1 v (ys ++ zs).length ((ys ++ zs).map (Value.int k)) ∧ Below B w w1 := by
  have hs := hnx.size
  refine ⟨?_, (hnx.alloc (by omega) o).grown hg (by simp; omega) fun g hg => (hown.lt g hg).1⟩
  have hn : n = (ys ++ zs).length := by have := hown1.1; simp at this ⊢; omega
  rw [← hn, List.map_append]
  exact hown1
theorem grew0 {k : IntKind} {B n : Nat} {e : TypeId} {w wr w1 : World} {u v : Value} {ys zs : List Int} (hB : B ≤ w.heap.size) (hnx : Below B w wr) (hown : wr.ownsRow B e 1 u ys.length (ys.map (Value.int k)))
    (hown1 : w1.ownsRow B e 1 v n (ys.map (Value.int k) ++ zs.map (Value.int k))) (hg : wr.grownBy w1 u.ownBlock) :
    w1.ownsRow B e 1 v (ys ++ zs).length ((ys ++ zs).map (Value.int k)) ∧ Below B w w1 := by
  have hs := hnx.size
  refine ⟨?_, hnx.grown hg (by omega) fun g hg => (hown.lt g hg).1⟩
  have hn : n = (ys ++ zs).length := by have := hown1.1; simp at this ⊢; omega
  rw [← hn, List.map_append]
  exact hown1
theorem one_cell {w : World} {e : TypeId} {k : IntKind} {x : Int} : ∀ j u, [Value.int k x][j]? = some u → (w.alloc (.cells #[.int k x] e)).cell? ((⟨w.heap.size, 0, none⟩ : Addr).add j) = some u := by
  intro j u hj
  match j, hj with
  | 0, hj => simp at hj; subst hj; simp [Addr.add]
theorem one_one {k : IntKind} {x : Int} : ∀ u ∈ [Value.int k x], u.oneCell' = true := by
  intro u hu; simp at hu; subst hu; rfl

/-- An append of what is read to what is the call's own, whatever the address. -/
theorem wpList_append_reads {P : Program} (w : World) {ops : Array Oper} {rest : List Oper} {o : Oper} {a : Act} {Q : Exit → Act → World → Prop} (hgd : o.guard = none) (s x : Operand) (t : TypeId)
    (ho : o.op = .call { callee := .builtin .append, args := #[s, x], argTypes := #[t, t] })
    (base : Nat) (e : TypeId) (i : TypeInfo) (z : Value) (bytes : Nat) (k : IntKind) (ht : P.underlying t = some (.slice e)) (hi : P.info? e = some i) (hz : i.zero = some z)
    (hsize : i.size = 1) (hby : i.bytes = bytes) (hzs : z.cells.size = 1)
    (v : Value) (n : Nat) (xs : List Value) (hs : a.eval s = v) (hown : w.ownsRow base e 1 v n xs)
    (p : Option Addr) (m c : Nat) (zs : List Int) (hx : a.eval x = .slice p m c) (hm : zs.length = m) (hr : Reads k w p c zs)
    (h63 : n + m ≤ maxLen) (hbytes : (n + m) * bytes ≤ 140737488355328) (hbase : base ≤ w.heap.size)
    (h : ∀ v' w', w'.ownsRow base e 1 v' (n + m) (xs ++ zs.map (Value.int k)) → w.grownBy w' v.ownBlock → wpList P ops Q rest (a.put o.dst v') w') : wpList P ops Q (o :: rest) a w := by
  cases p with
  | none =>
    have hc := hr.2.2.1 rfl
    have h1 := hr.1
    subst hc
    have hz0 : zs = [] := List.eq_nil_of_length_eq_zero (by omega)
    subst hz0
    have hm0 : m = 0 := by simpa using hm.symm
    subst hm0
    exact wpList_append_own_none hgd s x t ho base e i 1 ht hi v n xs hs hown hx (h v w (by simpa using hown) (World.grownBy.refl _ _))
  | some ad =>
    refine wpList_append_own w hgd s x t ho base e i z 1 bytes ht hi hz hsize hby hzs (by decide) v n xs hs hown ad m c (zs.map (Value.int k)) hx (by simp [hm]) (fun j u hu => ?_) (ints_oneCell _ _) h63 hbytes hbase fun v' w' h1 h2 _ => h v' w' h1 h2
    have hj : j < zs.length := by
      have := (List.getElem?_eq_some_iff.1 hu).1
      simpa using this
    obtain ⟨b', o', e', _, hc⟩ := hr.2.2.2 (by omega)
    simp only [Option.some.injEq] at e'
    subst e'
    rw [Addr.add_lit, hc j hj, ← hu]
    simp [hj]
/-- A slice of nothing that is typed out. -/
theorem lit_none {k : IntKind} {e : TypeId} (w : World) : (w.alloc (.cells #[] e)).ownsRow w.heap.size e 1 (.slice (some ⟨w.heap.size, 0, none⟩) 0 0) ([] : List Int).length (([] : List Int).map (Value.int k)) :=
  World.ownsRow_lit w #[] 0 (Nat.le_refl _) (by decide) rfl

/-- What a reading hands over of a slice that came in. -/
theorem row_reads {k : IntKind} {w : World} {a : Option Addr} {len cap : Nat} {zs : List Int}
    (h : (a = none ∧ len = 0 ∧ cap = 0 ∧ zs = []) ∨ ∃ x, a = some x ∧ len ≤ cap ∧ cap ≤ maxLen ∧ zs.length = cap ∧ (∀ i, i < zs.length → w.cell? (x.add i) = some (.int k (zs.getD i 0))) ∧ ∀ n ∈ zs, (Lit.int k n).wf = true) :
    ∃ ys : List Int, ys.length = len ∧ Reads k w a cap ys ∧ ∀ n ∈ ys, (Lit.int k n).wf = true := by
  rcases h with ⟨rfl, rfl, rfl, rfl⟩ | ⟨x, rfl, h1, h2, h3, h4, h5⟩
  · exact ⟨[], rfl, Reads.nil _ _, by simp⟩
  · refine ⟨zs.take len, by simp; omega, ⟨by simp; omega, h2, fun h => by simp at h, fun hz => ?_⟩, fun n hn => h5 n (List.mem_of_mem_take hn)⟩
    simp only [List.length_take] at hz
    have h0 := h4 0 (by omega)
    obtain ⟨b, o, s⟩ := x
    obtain rfl : s = none := by simpa [Addr.add] using World.cell?_spot h0
    refine ⟨b, o, rfl, ?_, fun i hi => ?_⟩
    · have := World.block_lt_of_cell? w _ h0
      simpa [Addr.add] using this
    · simp only [List.length_take] at hi
      rw [← Addr.add_lit, h4 i (by omega)]
      simp [List.getD, show i < len by omega]

/-- The rows of the table. -/
theorem info_byte : (Try.prog.info? 5).map (fun i => (i.zero, i.size, i.bytes)) = some (some (.int .u8 0), 1, 1) := by kernel_rfl

theorem ret_int {k : IntKind} {a b : Int} (h : a = b) : Ending.returned (.int k a) = .returned (.int k b) := by rw [h]
end Go.Proofs.Ythgafnommcodcaa.Mem
namespace Go.Proofs.Ythgafnommcodcaa.Mem
open Go.RowKit

/-- Block g holds just these cells, none of them frozen. -/
def Blk (w : World) (g : Nat) (t : TypeId) (cs : List Value) : Prop := w.heap[g]? = some (.cells cs.toArray t (0, 0))
section
variable {w w' : World} {g : Nat} {t : TypeId} {cs : List Value}
theorem Blk.cell (h : Blk w g t cs) (i : Nat) : w.cell? ⟨g, i, none⟩ = cs[i]? := by
  rw [cell_of_row w g i cs.toArray t (0, 0) h]; simp
theorem Blk.frozen (h : Blk w g t cs) (i : Nat) : w.frozen? ⟨g, i, none⟩ = false := frozen_of_row w g i cs.toArray t h
theorem Blk.lt (h : Blk w g t cs) : g < w.heap.size := (Array.getElem?_eq_some_iff.1 h).1
theorem Blk.below (h : Blk w g t cs) (hb : Below w.heap.size w w') : Blk w' g t cs := (hb.block g h.lt).trans h
theorem Blk.kept (h : Blk w g t cs) {row : Option Nat} (hg : w.grownBy w' row) (hne : some g ≠ row) : Blk w' g t cs := (hg.block g h.lt hne).trans h
theorem Blk.alloc (h : Blk w g t cs) (o : Obj) : Blk (w.alloc o) g t cs := h.below (bnew w o)
theorem Blk.drew (h : Blk w g t cs) : Blk w.drew g t cs := h
theorem Blk.new (w : World) (a : Array Value) (t : TypeId) : Blk (w.alloc (.cells a t)) w.heap.size t a.toList := by
  unfold Blk; rw [Array.toArray_toList]; exact heap_alloc_new w _
theorem Blk.new1 (w : World) {G : Nat} (hG : w.heap.size = G) (a : Array Value) (t : TypeId) : Blk (w.alloc (.cells a t)) G t a.toList := hG ▸ Blk.new w a t
theorem Blk.put (h : Blk w g t cs) (i : Nat) (v : Value) : Blk (w.setCell ⟨g, i, none⟩ v) g t (cs.set i v) := by
  have := heap_setCell_same w g i cs.toArray t v h
  unfold Blk
  rw [this]
  simp
theorem Blk.other (h : Blk w g t cs) {p : Addr} (hp : g ≠ p.block) (v : Value) : Blk (w.setCell p v) g t cs := (Below.heap_setCell w p v g hp).trans h
theorem only_put (w : World) (p : Addr) (v : Value) : w.grownBy (w.setCell p v) (some p.block) :=
  ⟨rfl, rfl, rfl, by simp, fun k _ hk => heap_setCell_other w p k v (fun e => hk (by simp [e]))⟩
/-- Some of its cells, one behind the other. -/
theorem Blk.part (h : Blk w g t cs) (o : Nat) (us rest : List Value) (hd : cs.drop o = us ++ rest) : ∀ j v, us[j]? = some v → w.cell? ((⟨g, o, none⟩ : Addr).add j) = some v := by
  intro j v hj
  rw [Addr.add_lit, h.cell, ← List.getElem?_drop, hd, List.getElem?_append_left (List.getElem?_eq_some_iff.1 hj).1]
  exact hj
/-- Bytes in a block of their own are read. -/
theorem Blk.reads {k : IntKind} {zs : List Int} (h : Blk w g t (zs.map (Value.int k))) (hn : zs.length ≤ 100000) : Reads k w (some ⟨g, 0, none⟩) zs.length zs := by
  refine ⟨Nat.le_refl _, by unfold maxLen; omega, fun h => by simp at h, fun _ => ⟨g, 0, rfl, h.lt, fun i hi => ?_⟩⟩
  rw [Nat.zero_add, h.cell i]
  simp [hi]
end
/-- What only block g has turned in is new elsewhere. -/
theorem Reads.kept {k : IntKind} {w w' : World} {p : Option Addr} {cap g : Nat} {zs : List Int} (h : Reads k w p cap zs) (hg : w.grownBy w' (some g)) (hne : 0 < zs.length → ∀ a, p = some a → a.block ≠ g) : Reads k w' p cap zs := by
  obtain ⟨h1, h2, h3, h4⟩ := h
  refine ⟨h1, h2, h3, fun hz => ?_⟩
  obtain ⟨b, o, e, hlt, hc⟩ := h4 hz
  exact ⟨b, o, e, Nat.lt_of_lt_of_le hlt hg.size, fun i hi => hg.cell (hc i hi) (by have := hne hz _ e; simpa using this)⟩
/-- A copy into a block that is known whole. -/
theorem wpList_copy_blk {P : Program} {w : World} {ops : Array Oper} {rest : List Oper} {o : Oper} {a : Act} {Q : Exit → Act → World → Prop} (hgd : o.guard = none) (d s : Operand) (dT sT : TypeId)
    (ho : o.op = .call { callee := .builtin .copy, args := #[d, s], argTypes := #[dT, sT] }) (elem : TypeId) (hu : P.underlying dT = some (.slice elem)) (hsz : (P.info? elem).map (·.size) = some 1)
    (dp sp : Option Addr) (dLen dCap sLen sCap : Nat) (hd : a.eval d = .slice dp dLen dCap) (hs : a.eval s = .slice sp sLen sCap)
    (g off : Nat) (cur : List Value) (t : TypeId) (hg : Blk w g t cur) (cs : List Value) (hn : cs.length = Nat.min sLen dLen)
    (hpos : 0 < cs.length → dp = some ⟨g, off, none⟩ ∧ ∃ ad, sp = some ad ∧ ∀ j v, cs[j]? = some v → w.cell? (ad.add j) = some v)
    (hfit : off + cs.length ≤ cur.length) (h1 : ∀ v ∈ cs, v.oneCell' = true)
    (h : ∀ w', Blk w' g t (splice cur off cs) → w.grownBy w' (some g) → wpList P ops Q rest (a.put o.dst (goInt cs.length)) w') :
    wpList P ops Q (o :: rest) a w := by
  by_cases h0 : cs.length = 0
  · obtain rfl : cs = [] := List.eq_nil_of_length_eq_zero h0
    refine wpList_copy_nothing hgd d s dT sT ho elem hu hsz dp sp dLen dCap sLen sCap hd hs (by simpa using hn.symm) ?_
    exact h w (by unfold Blk at hg ⊢; simpa [splice] using hg) (World.grownBy.refl _ _)
  · obtain ⟨rfl, ad, rfl, hsrc⟩ := hpos (by omega)
    refine wpList_copy_own hgd d s dT sT ho elem hu hsz g off dLen dCap ad sLen sCap hd hs cur.toArray t hg cs hn hsrc (by simpa using hfit) h1 ?_
    exact h _ (show _ = _ by simpa [splice] using setRow_heap w g _ _ t _ hg) ⟨rfl, rfl, rfl, by simp [World.setRow], fun k _ hk => setRow_other w g k _ (fun e => hk (by simp [e]))⟩
/-- The same as what it runs to. -/
theorem run_copy_blk {P : Program} (w : World) (dT sT ty elem : TypeId) (hu : P.underlying dT = some (.slice elem)) (hsz : (P.info? elem).map (·.size) = some 1)
    (dp sp : Option Addr) (dLen dCap sLen sCap : Nat) (g off : Nat) (cur : List Value) (t : TypeId) (hg : Blk w g t cur) (cs : List Value) (hn : cs.length = Nat.min sLen dLen)
    (hpos : 0 < cs.length → dp = some ⟨g, off, none⟩ ∧ ∃ ad, sp = some ad ∧ ∀ j v, cs[j]? = some v → w.cell? (ad.add j) = some v)
    (hfit : off + cs.length ≤ cur.length) (h1 : ∀ v ∈ cs, v.oneCell' = true) :
    ∃ w', (Builtin.copy_ #[dT, sT] ty #[.slice dp dLen dCap, .slice sp sLen sCap]).run P w = .ok (goInt cs.length) w' ∧ Blk w' g t (splice cur off cs) ∧ w.grownBy w' (some g) := by
  by_cases h0 : cs.length = 0
  · obtain rfl : cs = [] := List.eq_nil_of_length_eq_zero h0
    exact ⟨w, run_copy_none (P := P) w dT sT ty elem dp sp dLen dCap sLen sCap hu hsz (by simpa using hn.symm), by unfold Blk at hg ⊢; simpa [splice] using hg, World.grownBy.refl _ _⟩
  · obtain ⟨rfl, ad, rfl, hsrc⟩ := hpos (by omega)
    exact ⟨_, run_copy_row (P := P) w dT sT ty elem g off dLen dCap ad sLen sCap cur.toArray t cs hu hsz hg hn hsrc (by simpa using hfit) h1, show _ = _ by simpa [splice] using setRow_heap w g _ _ t _ hg, ⟨rfl, rfl, rfl, by simp [World.setRow], fun k _ hk => setRow_other w g k _ (fun e => hk (by simp [e]))⟩⟩
/-- The same as one operation. -/
theorem wp_copy_blk {P : Program} {w : World} {o : Oper} {a : Act} {K : Act → World → Prop} {Q : Exit → Act → World → Prop} (d s : Operand) (dT sT : TypeId)
    (ho : o.op = .call { callee := .builtin .copy, args := #[d, s], argTypes := #[dT, sT] }) (elem : TypeId) (hu : P.underlying dT = some (.slice elem)) (hsz : (P.info? elem).map (·.size) = some 1)
    (dp sp : Option Addr) (dLen dCap sLen sCap : Nat) (hd : a.eval d = .slice dp dLen dCap) (hs : a.eval s = .slice sp sLen sCap)
    (g off : Nat) (cur : List Value) (t : TypeId) (hg : Blk w g t cur) (cs : List Value) (hn : cs.length = Nat.min sLen dLen)
    (hpos : 0 < cs.length → dp = some ⟨g, off, none⟩ ∧ ∃ ad, sp = some ad ∧ ∀ j v, cs[j]? = some v → w.cell? (ad.add j) = some v)
    (hfit : off + cs.length ≤ cur.length) (h1 : ∀ v ∈ cs, v.oneCell' = true)
    (h : ∀ w', Blk w' g t (splice cur off cs) → w.grownBy w' (some g) → K (a.put o.dst (goInt cs.length)) w') :
    Oper.wp P o a w K Q := by
  by_cases h0 : cs.length = 0
  · obtain rfl : cs = [] := List.eq_nil_of_length_eq_zero h0
    have hrun := run_copy_none (P := P) w dT sT o.type elem dp sp dLen dCap sLen sCap hu hsz (by simpa using hn.symm)
    unfold Oper.wp
    simp [execOp, ho, resolve, invoke, builtin, hd, hs, hrun, Result.andThen]
    exact h w (by unfold Blk at hg ⊢; simpa [splice] using hg) (World.grownBy.refl _ _)
  · obtain ⟨rfl, ad, rfl, hsrc⟩ := hpos (by omega)
    have hrun := run_copy_row (P := P) w dT sT o.type elem g off dLen dCap ad sLen sCap cur.toArray t cs hu hsz hg hn hsrc (by simpa using hfit) h1
    unfold Oper.wp
    simp [execOp, ho, resolve, invoke, builtin, hd, hs, hrun, Result.andThen]
    exact h _ (show _ = _ by simpa [splice] using setRow_heap w g _ _ t _ hg) ⟨rfl, rfl, rfl, by simp [World.setRow], fun k _ hk => setRow_other w g k _ (fun e => hk (by simp [e]))⟩
/-- The same as one step of a region that draws its order. -/
theorem step_copy_blk {P : Program} {ops : Array Oper} {w : World} {o : Oper} {a : Act} {K : Act → World → Prop} {Q : Exit → Act → World → Prop} {E : Prop} (hgd : o.guard = none) (d s : Operand) (dT sT : TypeId)
    (ho : o.op = .call { callee := .builtin .copy, args := #[d, s], argTypes := #[dT, sT] }) (elem : TypeId) (hu : P.underlying dT = some (.slice elem)) (hsz : (P.info? elem).map (·.size) = some 1)
    (dp sp : Option Addr) (dLen dCap sLen sCap : Nat) (hd : a.eval d = .slice dp dLen dCap) (hs : a.eval s = .slice sp sLen sCap)
    (g off : Nat) (cur : List Value) (t : TypeId) (hg : Blk w g t cur) (cs : List Value) (hn : cs.length = Nat.min sLen dLen)
    (hpos : 0 < cs.length → dp = some ⟨g, off, none⟩ ∧ ∃ ad, sp = some ad ∧ ∀ j v, cs[j]? = some v → w.cell? (ad.add j) = some v)
    (hfit : off + cs.length ≤ cur.length) (h1 : ∀ v ∈ cs, v.oneCell' = true)
    (h : ∀ w', Blk w' g t (splice cur off cs) → w.grownBy w' (some g) → K (a.put o.dst (goInt cs.length)) w') :
    if Region.wanted o (yielded ops a.tmps) = true then Oper.wp P o a w K Q else E := by
  rw [if_pos (show Region.wanted o (yielded ops a.tmps) = true by simp [Region.wanted, hgd])]
  exact wp_copy_blk d s dT sT ho elem hu hsz dp sp dLen dCap sLen sCap hd hs g off cur t hg cs hn hpos hfit h1 h
/-- A slice that is made. -/
theorem run_make_blk {P : Program} (w : World) (t e : TypeId) (i : TypeInfo) (k : IntKind) (ht : P.underlying t = some (.slice e)) (hi : P.info? e = some i) (hz : i.zero = some (.int k 0)) (hsize : i.size = 1) (hby : i.bytes = 1) (n : Nat) (hn : n ≤ 100000) :
    ∃ w', (Instr.makeSlice t (.int .i64 (n : Int)) (.int .i64 (n : Int))).run P w = .ok (.slice (some ⟨w.heap.size, 0, none⟩) n n) w' ∧ Blk w' w.heap.size e ((List.replicate n (0 : Int)).map (Value.int k)) ∧ w.grownBy w' none := by
  obtain ⟨w', hr, ho, hg⟩ := run_make_full (P := P) w w.heap.size t e i (.int k 0) 1 ht hi hz hsize .i64 .i64 n (by rw [hby]; omega) (by unfold maxLen; omega) (Nat.le_refl _)
  refine ⟨w', hr, ?_, hg⟩
  rcases ho.2 with ⟨h, _⟩ | ⟨g, cap, cur, hv, _, hh, _, _, hs, htk⟩
  · simp at h
  · simp only [Value.slice.injEq, Option.some.injEq, Addr.mk.injEq, and_true, true_and] at hv
    obtain ⟨rfl, rfl⟩ := hv
    unfold Blk
    rw [hh]
    have e1 : cur.toList = (madeCells #[Value.int k 0] n).toList := by
      rw [List.take_of_length_le (by rw [Array.length_toList, hs]; exact Nat.le_refl _)] at htk
      simpa [Value.cells] using htk
    rw [toList_madeCells_one] at e1
    have e2 : cur = (List.replicate n (Value.int k 0)).toArray := by rw [← e1]
    rw [e2]
    simp
/-- What is read lies elsewhere than what is made later. -/
theorem Reads.apart {k : IntKind} {w : World} {p : Option Addr} {cap g : Nat} {zs : List Int} (h : Reads k w p cap zs) (hg : w.heap.size ≤ g) : 0 < zs.length → ∀ a, p = some a → a.block ≠ g := by
  intro hz a ha
  obtain ⟨b, o, e, hlt, _⟩ := h.2.2.2 hz
  rw [e] at ha
  obtain rfl := Option.some.inj ha
  exact fun q => by simp only at q; omega
/-- An append of what is read to what is the call's own, as what it runs to, and as one step of a region that draws its order. -/
theorem run_append_reads {P : Program} (w : World) (t ty : TypeId) (base : Nat) (e : TypeId) (i : TypeInfo) (k : IntKind) (ht : P.underlying t = some (.slice e)) (hi : P.info? e = some i) (hz : i.zero = some (.int k 0)) (hsize : i.size = 1) (hby : i.bytes = 1)
    (v : Value) (n : Nat) (xs : List Value) (hown : w.ownsRow base e 1 v n xs) (p : Option Addr) (m c : Nat) (zs : List Int) (hm : zs.length = m) (hr : Reads k w p c zs) (h63 : n + m ≤ 100000) (hbase : base ≤ w.heap.size) :
    ∃ v' w', (Builtin.append_ #[t, t] ty #[v, .slice p m c]).run P w = .ok v' w' ∧ w'.ownsRow base e 1 v' (n + m) (xs ++ zs.map (Value.int k)) ∧ w.grownBy w' v.ownBlock := by
  cases p with
  | none =>
    have hc := hr.2.2.1 rfl
    have h1 := hr.1
    subst hc
    obtain rfl : zs = [] := List.eq_nil_of_length_eq_zero (by omega)
    obtain rfl : m = 0 := by simpa using hm.symm
    exact ⟨v, w, run_append_owned_none w base t ty e i 1 ht hi v n xs hown, by simpa using hown, World.grownBy.refl _ _⟩
  | some ad =>
    obtain ⟨v', w', h1, h2, h3, _⟩ := run_append_own (P := P) w base t ty e i (.int k 0) 1 1 ht hi hz hsize hby rfl (by decide) v n xs hown ad m c (zs.map (Value.int k)) (by simp [hm]) (fun j u hu => by
      have hj : j < zs.length := by
        have := (List.getElem?_eq_some_iff.1 hu).1
        simpa using this
      obtain ⟨b', o', e', _, hc⟩ := hr.2.2.2 (by omega)
      simp only [Option.some.injEq] at e'
      subst e'
      rw [Addr.add_lit, hc j hj, ← hu]
      simp [hj]) (ints_oneCell _ _) (by unfold maxLen; omega) (by omega) hbase
    exact ⟨v', w', h1, h2, h3⟩
theorem step_append_reads {P : Program} {ops : Array Oper} {w : World} {o : Oper} {a : Act} {K : Act → World → Prop} {Q : Exit → Act → World → Prop} {E : Prop} (hgd : o.guard = none) (s x : Operand) (t : TypeId)
    (ho : o.op = .call { callee := .builtin .append, args := #[s, x], argTypes := #[t, t] }) (base : Nat) (e : TypeId) (i : TypeInfo) (k : IntKind) (ht : P.underlying t = some (.slice e)) (hi : P.info? e = some i) (hz : i.zero = some (.int k 0)) (hsize : i.size = 1) (hby : i.bytes = 1)
    (v : Value) (n : Nat) (xs : List Value) (hs : a.eval s = v) (hown : w.ownsRow base e 1 v n xs) (p : Option Addr) (m c : Nat) (zs : List Int) (hx : a.eval x = .slice p m c) (hm : zs.length = m) (hr : Reads k w p c zs) (h63 : n + m ≤ 100000) (hbase : base ≤ w.heap.size)
    (h : ∀ v' w', w'.ownsRow base e 1 v' (n + m) (xs ++ zs.map (Value.int k)) → w.grownBy w' v.ownBlock → K (a.put o.dst v') w') :
    if Region.wanted o (yielded ops a.tmps) = true then Oper.wp P o a w K Q else E := by
  rw [if_pos (show Region.wanted o (yielded ops a.tmps) = true by simp [Region.wanted, hgd])]
  obtain ⟨v', w', hrun, h1, h2⟩ := run_append_reads (P := P) w t o.type base e i k ht hi hz hsize hby v n xs hown p m c zs hm hr h63 hbase
  unfold Oper.wp
  simp [execOp, ho, resolve, invoke, builtin, hs, hx, hrun, Result.andThen]
  exact h v' w' h1 h2
/-- What is read, as a copy asks for it. -/
theorem reads_pos {k : IntKind} {w : World} {p : Option Addr} {cap : Nat} {zs : List Int} (h : Reads k w p cap zs) (hp : 0 < (zs.map (Value.int k)).length) :
    ∃ ad, p = some ad ∧ ∀ j v, (zs.map (Value.int k))[j]? = some v → w.cell? (ad.add j) = some v := by
  obtain ⟨b, o, rfl, _, _⟩ := h.2.2.2 (by simpa using hp)
  exact ⟨_, rfl, reads_news h⟩
end Go.Proofs.Ythgafnommcodcaa.Mem
