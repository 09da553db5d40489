/-
  Slices of integers in memory: what it is that one reads as a list of numbers, and what becomes of it behind calls, cuts and appends.
-/
import Derived.Test.YtnaofcggdjbocaaProg
import Derived.Test.YtnaofcggdjbocaaKinds
import Derived.WalkKit
import Derived.Lib.Bytes
import Derived.Laws.BytesArg
import Derived.Laws.BitsLemmas
import Derived.WalkSpells
import Derived.WalkLawsBesides
import Derived.Below
import Derived.OwnWalk
import Derived.Deep.Draws
import Derived.Laws.AppendOwnNone
namespace Go.Proofs.Ytnaofcggdjbocaa.Mem
open Go.RowKit

/-- The slice at p, of this capacity, reads as these numbers. -/
def Reads (k : IntKind) (w : World) (p : Option Addr) (cap : Nat) (zs : List Int) : Prop :=
  zs.length ≤ cap ∧ cap ≤ maxLen ∧ (p = none → cap = 0) ∧
  (0 < zs.length → ∃ b o, p = some ⟨b, o, none⟩ ∧ b < w.heap.size ∧ ∀ i, i < zs.length → w.cell? ⟨b, o + i, none⟩ = some (.int k (zs.getD i 0)))

theorem Reads.below {k : IntKind} {w w' : World} {p : Option Addr} {cap : Nat} {zs : List Int} (h : Reads k w p cap zs) (hb : Below w.heap.size w w') : Reads k w' p cap zs := by
  obtain ⟨h1, h2, h3, h4⟩ := h
  refine ⟨h1, h2, h3, fun hz => ?_⟩
  obtain ⟨b, o, e, hlt, hc⟩ := h4 hz
  exact ⟨b, o, e, Nat.lt_of_lt_of_le hlt hb.size, fun i hi => (hb.cell (p := ⟨b, o + i, none⟩) hlt).trans (hc i hi)⟩
theorem bnew (w : World) (o : Obj) : Below w.heap.size w (w.alloc o) := (Below.refl _ _).alloc (Nat.le_refl _) o
theorem Reads.alloc {k : IntKind} {w : World} {p : Option Addr} {cap : Nat} {zs : List Int} (h : Reads k w p cap zs) (o : Obj) : Reads k (w.alloc o) p cap zs := h.below (bnew w o)
theorem Reads.drew {k : IntKind} {w : World} {p : Option Addr} {cap : Nat} {zs : List Int} (h : Reads k w p cap zs) : Reads k w.drew p cap zs := h.below ((Below.refl _ _).drew)
theorem bdrewN (w : World) (n : Nat) : Below w.heap.size w (w.drewN n) := ⟨rfl, rfl, rfl, Nat.le_refl _, fun _ _ => rfl⟩
theorem Reads.drewN {k : IntKind} {w : World} {p : Option Addr} {cap : Nat} {zs : List Int} (h : Reads k w p cap zs) (n : Nat) : Reads k (w.drewN n) p cap zs := h.below (bdrewN w n)
theorem Reads.nil (k : IntKind) (w : World) : Reads k w none 0 [] := ⟨Nat.le_refl _, Nat.zero_le _, fun _ => rfl, fun h => absurd h (Nat.lt_irrefl 0)⟩
/-- One behind the other. -/
theorem bnext {a b c : World} (h : Below a.heap.size a b) (k : Below b.heap.size b c) : Below a.heap.size a c := h.trans (k.mono h.size)

/-- The string of bytes. -/
def str (xs : List Int) : ByteArray := strOfNums xs
theorem conv {w : World} {p : Option Addr} {cap n : Nat} {zs : List Int} (h : Reads .u8 w p cap zs) (hn : zs.length = n) :
    (convert 37 9 (.slice p n cap)).run Try.prog w = .ok (.string (str zs)) w := by
  rcases Nat.eq_zero_or_pos n with h0 | h0
  · subst h0
    obtain rfl : zs = [] := List.eq_nil_of_length_eq_zero hn
    rw [run_convert_bytes_string w 37 9 5 _ 0 cap Try.underlying37 Try.underlying5 Try.underlying9]
    cases p <;> simp [Conv.bytesToString, loadCells]
    all_goals rfl
  · obtain ⟨b, o, rfl, _, hc⟩ := h.2.2.2 (by omega)
    exact run_convert_bytes_arg (P := Try.prog) w 37 5 Try.underlying37 Try.underlying5 b o n cap zs hn (by subst hn; exact hc) 9 Try.underlying9
theorem bytes_inj : ∀ {xs ys : List Int}, (∀ c ∈ xs, Byte c) → (∀ c ∈ ys, Byte c) → Lib.bytesOf xs = Lib.bytesOf ys → xs = ys
  | [], [], _, _, _ => rfl
  | [], _ :: _, _, _, h => by simp [Lib.bytesOf] at h
  | _ :: _, [], _, _, h => by simp [Lib.bytesOf] at h
  | x :: xs, y :: ys, hx, hy, h => by
    simp only [Lib.bytesOf, List.map_cons, List.cons.injEq] at h
    obtain ⟨x0, x1⟩ := hx x (by simp)
    obtain ⟨y0, y1⟩ := hy y (by simp)
    have e : x = y := by
      have := congrArg UInt8.toNat h.1
      simp only [UInt8.toNat_ofNat', Nat.reducePow] at this
      omega
    rw [e, bytes_inj (fun c hc => hx c (by simp [hc])) (fun c hc => hy c (by simp [hc])) h.2]
theorem bytes_eq {xs ys : List Int} (hx : ∀ c ∈ xs, Byte c) (hy : ∀ c ∈ ys, Byte c) : (Lib.bytesOf xs == Lib.bytesOf ys) = decide (xs = ys) := by
  by_cases h : xs = ys
  · subst h; simp
  · rw [decide_eq_false h]
    simpa using fun e => h (bytes_inj hx hy e)
theorem str_eq {xs ys : List Int} (hx : ∀ c ∈ xs, Byte c) (hy : ∀ c ∈ ys, Byte c) : ((str xs).toList == (str ys).toList) = decide (xs = ys) := by
  unfold str
  rw [Lib.strOfNums_toList, Lib.strOfNums_toList, bytes_eq hx hy]

/-- What the call has built by itself is read. -/
theorem own_reads {w : World} {B n : Nat} {e : TypeId} {v : Value} {k : IntKind} {xs : List Int} (h : w.ownsRow B e 1 v n (xs.map (Value.int k))) :
    n = xs.length ∧ ∃ p cap, v = .slice p xs.length cap ∧ Reads k w p cap xs := by
  have hn : n = xs.length := by have := h.1; simp at this; omega
  subst hn
  refine ⟨rfl, ?_⟩
  rcases h.2 with ⟨rfl, h0⟩ | ⟨g, cap, cur, rfl, hb, hg, hc, hm, hs, ht⟩
  · have : xs = [] := List.eq_nil_of_length_eq_zero h0
    subst this
    exact ⟨none, 0, rfl, Reads.nil _ _⟩
  · refine ⟨some ⟨g, 0, none⟩, cap, rfl, hc, hm, fun h => by simp at h, fun hz => ⟨g, 0, rfl, (Array.getElem?_eq_some_iff.1 hg).1, fun i hi => ?_⟩⟩
    have := h.cellAt i (by simpa using hi)
    rw [Nat.zero_add, this]
    simp [hi]
theorem own_reads_pos {w : World} {B n : Nat} {e : TypeId} {v : Value} {k : IntKind} {xs : List Int} (h : w.ownsRow B e 1 v n (xs.map (Value.int k))) (hp : 0 < xs.length) :
    ∃ g cap, v = .slice (some ⟨g, 0, none⟩) xs.length cap ∧ Reads k w (some ⟨g, 0, none⟩) cap xs := by
  obtain ⟨_, p, cap, hv, hr⟩ := own_reads h
  rcases h.2 with ⟨rfl, h0⟩ | ⟨g, cap', cur, rfl, _⟩
  · simp at hv
    omega
  · simp only [Value.slice.injEq] at hv
    obtain ⟨rfl, _, rfl⟩ := hv
    exact ⟨g, cap', by simp; omega, hr⟩

/-- A slice that is typed out. -/
theorem lit_reads {k : IntKind} {e : TypeId} {w : World} {cs : Array Value} {n : Nat} {zs : List Int} (hcs : cs = (zs.map (Value.int k)).toArray) (hn : n = zs.length) (hl : zs.length ≤ 1000) :
    Reads k (w.alloc (.cells cs e)) (some ⟨w.heap.size, 0, none⟩) n zs := by
  subst hcs hn
  have h := World.ownsRow_lit (base := 0) (e := e) (size := 1) w (zs.map (Value.int k)).toArray zs.length (Nat.zero_le _) (by unfold maxLen; omega) (by simp)
  simp only at h
  obtain ⟨_, p, cap, hv, hr⟩ := own_reads h
  simp only [Value.slice.injEq] at hv
  obtain ⟨rfl, _, rfl⟩ := hv
  exact hr

/-- Its cells, as an append asks for them. -/
theorem reads_news {k : IntKind} {w : World} {b o cap : Nat} {zs : List Int} (h : Reads k w (some ⟨b, o, none⟩) cap zs) :
    ∀ j u, (zs.map (Value.int k))[j]? = some u → w.cell? ((⟨b, o, none⟩ : Addr).add j) = some u := by
  intro j u hu
  have hj : j < zs.length := by
    have := (List.getElem?_eq_some_iff.1 hu).1
    simpa using this
  obtain ⟨b', o', e, _, hc⟩ := h.2.2.2 (by omega)
  simp only [Option.some.injEq, Addr.mk.injEq, and_true] at e
  obtain ⟨rfl, rfl⟩ := e
  rw [Addr.add_lit, hc j hj, ← hu]
  simp [hj]

/-- A slice from some element on. -/
def cutP (p : Option Addr) (cap l : Nat) : Option Addr := if cap = l then p else p.map (·.add l)
theorem Reads.cut {k : IntKind} {w : World} {p : Option Addr} {cap : Nat} {zs : List Int} (h : Reads k w p cap zs) (l : Nat) (hl : l ≤ zs.length) : Reads k w (cutP p cap l) (cap - l) (zs.drop l) := by
  obtain ⟨h1, h2, h3, h4⟩ := h
  refine ⟨by simp; omega, by omega, fun hp => ?_, fun hz => ?_⟩
  · unfold cutP at hp
    split at hp
    · omega
    · have := h3 (by simpa using hp); omega
  · simp only [List.length_drop] at hz
    obtain ⟨b, o, rfl, hlt, hc⟩ := h4 (by omega)
    refine ⟨b, o + l, ?_, hlt, fun i hi => ?_⟩
    · unfold cutP
      rw [if_neg (by omega)]
      simp [Addr.add_lit]
    · simp only [List.length_drop] at hi
      rw [Nat.add_assoc, hc (l + i) (by omega)]
      simp
/-- A slice up to some element. -/
theorem Reads.upto {k : IntKind} {w : World} {p : Option Addr} {cap : Nat} {zs : List Int} (h : Reads k w p cap zs) (l : Nat) : Reads k w p cap (zs.take l) := by
  obtain ⟨h1, h2, h3, h4⟩ := h
  refine ⟨by simp; omega, h2, h3, fun hz => ?_⟩
  simp only [List.length_take] at hz
  obtain ⟨b, o, rfl, hlt, hc⟩ := h4 (by omega)
  refine ⟨b, o, rfl, hlt, fun i hi => ?_⟩
  simp only [List.length_take] at hi
  rw [hc i (by omega)]
  simp [List.getD, show i < l by omega]
theorem run_from (w : World) (p : Option Addr) (n cap l : Nat) (hl : l ≤ n) :
    (Instr.slice 37 (.slice p n cap) (some (.int .i64 (l : Int))) none none).run Try.prog w = .ok (.slice (cutP p cap l) (n - l) (cap - l)) w := by
  have ht : Try.prog.underlying 37 = some (.slice (Try.prog.elem 37)) := by simp [Program.elem, Try.underlying37]
  have he : Try.prog.elem 37 = 5 := by simp [Program.elem, Try.underlying37]
  rw [run_slice_l w 37 p n cap ht .i64 (l : Int) (by omega) (by omega), he, Try.sizeOf5]
  simp [Result.andThen, sliced, cutP]
theorem run_upto (w : World) (b o n cap l : Nat) (hl : l ≤ cap) :
    (Instr.slice 37 (.slice (some ⟨b, o, none⟩) n cap) none (some (.int .i64 (l : Int))) none).run Try.prog w = .ok (.slice (some ⟨b, o, none⟩) l cap) w := by
  have ht : Try.prog.underlying 37 = some (.slice (Try.prog.elem 37)) := by simp [Program.elem, Try.underlying37]
  have he : Try.prog.elem 37 = 5 := by simp [Program.elem, Try.underlying37]
  rw [run_slice_h w 37 _ n cap ht .i64 (l : Int) (by omega) (by omega), he, Try.sizeOf5]
  simp [Result.andThen, sliced, Addr.add_lit]

/-- What is the call's own stays so behind calls of others. -/
theorem own_below {B n size : Nat} {e : TypeId} {w w' : World} {v : Value} {xs : List Value} (h : w.ownsRow B e size v n xs) (hb : Below w.heap.size w w') : w'.ownsRow B e size v n xs := by
  refine ⟨h.1, ?_⟩
  rcases h.2 with h0 | ⟨g, cap, cur, hv, hg, hh, r⟩
  · exact .inl h0
  · exact .inr ⟨g, cap, cur, hv, hg, (hb.block g (Array.getElem?_eq_some_iff.1 hh).1).trans hh, r⟩
/-- How long a slice is. -/
def sliceLen : Value → Nat
  | .slice _ n _ => n
  | _ => 0

/-- Behind an append to what is the call's own. -/
theorem grew {k : IntKind} {B n : Nat} {e : TypeId} {w wr w1 : World} {u v : Value} {ys zs : List Int} {o : Obj} (hB : B ≤ w.heap.size) (hnx : Below B w wr) (hown : wr.ownsRow B e 1 u ys.length (ys.map (Value.int k)))
    (hown1 : w1.ownsRow B e 1 v n (ys.map (Value.int k) ++ zs.map (Value.int k))) (hg : (wr.alloc o).grownBy w1 u.ownBlock) :
    w1.ownsRow B e 1 v (ys ++ zs).length ((ys ++ zs).map (Value.int k)) ∧ Below B w w1 := by
  have hs := hnx.size
  refine ⟨?_, (hnx.alloc (by omega) o).grown hg (by simp; omega) fun g hg => (hown.lt g hg).1⟩
  have hn : n = (ys ++ zs).length := by have := hown1.1; simp at this ⊢; omega
  rw [← hn, List.map_append]
  exact hown1
theorem grew0 {k : IntKind} {B n : Nat} {e : TypeId} {w wr w1 : World} {u v : Value} {ys zs : List Int} (hB : B ≤ w.heap.size) (hnx : Below B w wr) (hown : wr.ownsRow B e 1 u ys.length (ys.map (Value.int k)))
    (hown1 : w1.ownsRow B e 1 v n (ys.map (Value.int k) ++ zs.map (Value.int k))) (hg : wr.grownBy w1 u.ownBlock) :
    w1.ownsRow B e 1 v (ys ++ zs).length ((ys ++ zs).map (Value.int k)) ∧ Below B w w1 := by
  have hs := hnx.size
  refine ⟨?_, hnx.grown hg (by omega) fun g hg => (hown.lt g hg).1⟩
  have hn : n = (ys ++ zs).length := by have := hown1.1; simp at this ⊢; omega
  rw [← hn, List.map_append]
  exact hown1
theorem one_cell {w : World} {e : TypeId} {k : IntKind} {x : Int} : ∀ j u, [Value.int k x][j]? = some u → (w.alloc (.cells #[.int k x] e)).cell? ((⟨w.heap.size, 0, none⟩ : Addr).add j) = some u := by
  intro j u hj
  match j, hj with
  | 0, hj => simp at hj; subst hj; simp [Addr.add]
theorem one_one {k : IntKind} {x : Int} : ∀ u ∈ [Value.int k x], u.oneCell' = true := by
  intro u hu; simp at hu; subst hu; rfl

/-- An append of what is read to what is the call's own, whatever the address. -/
theorem wpList_append_reads {P : Program} (w : World) {ops : Array Oper} {rest : List Oper} {o : Oper} {a : Act} {Q : Exit → Act → World → Prop} (hgd : o.guard = none) (s x : Operand) (t : TypeId)
    (ho : o.op = .call { callee := .builtin .append, args := #[s, x], argTypes := #[t, t] })
    (base : Nat) (e : TypeId) (i : TypeInfo) (z : Value) (bytes : Nat) (k : IntKind) (ht : P.underlying t = some (.slice e)) (hi : P.info? e = some i) (hz : i.zero = some z)
    (hsize : i.size = 1) (hby : i.bytes = bytes) (hzs : z.cells.size = 1)
    (v : Value) (n : Nat) (xs : List Value) (hs : a.eval s = v) (hown : w.ownsRow base e 1 v n xs)
    (p : Option Addr) (m c : Nat) (zs : List Int) (hx : a.eval x = .slice p m c) (hm : zs.length = m) (hr : Reads k w p c zs)
    (h63 : n + m ≤ maxLen) (hbytes : (n + m) * bytes ≤ 140737488355328) (hbase : base ≤ w.heap.size)
    (h : ∀ v' w', w'.ownsRow base e 1 v' (n + m) (xs ++ zs.map (Value.int k)) → w.grownBy w' v.ownBlock → wpList P ops Q rest (a.put o.dst v') w') : wpList P ops Q (o :: rest) a w := by
  cases p with
  | none =>
    have hc := hr.2.2.1 rfl
    have h1 := hr.1
    subst hc
    have hz0 : zs = [] := List.eq_nil_of_length_eq_zero (by omega)
    subst hz0
    have hm0 : m = 0 := by simpa using hm.symm
    subst hm0
    exact wpList_append_own_none hgd s x t ho base e i 1 ht hi v n xs hs hown hx (h v w (by simpa using hown) (World.grownBy.refl _ _))
  | some ad =>
    refine wpList_append_own w hgd s x t ho base e i z 1 bytes ht hi hz hsize hby hzs (by decide) v n xs hs hown ad m c (zs.map (Value.int k)) hx (by simp [hm]) (fun j u hu => ?_) (ints_oneCell _ _) h63 hbytes hbase fun v' w' h1 h2 _ => h v' w' h1 h2
    have hj : j < zs.length := by
      have := (List.getElem?_eq_some_iff.1 hu).1
      simpa using this
    obtain ⟨b', o', e', _, hc⟩ := hr.2.2.2 (by omega)
    simp only [Option.some.injEq] at e'
    subst e'
    rw [Addr.add_lit, hc j hj, ← hu]
    simp [hj]
/-- A slice of nothing that is typed out. -/
theorem lit_none {k : IntKind} {e : TypeId} (w : World) : (w.alloc (.cells #[] e)).ownsRow w.heap.size e 1 (.slice (some ⟨w.heap.size, 0, none⟩) 0 0) ([] : List Int).length (([] : List Int).map (Value.int k)) :=
  World.ownsRow_lit w #[] 0 (Nat.le_refl _) (by decide) rfl

/-- What a reading hands over of a slice that came in. -/
theorem row_reads {k : IntKind} {w : World} {a : Option Addr} {len cap : Nat} {zs : List Int}
    (h : (a = none ∧ len = 0 ∧ cap = 0 ∧ zs = []) ∨ ∃ x, a = some x ∧ len ≤ cap ∧ cap ≤ maxLen ∧ zs.length = cap ∧ (∀ i, i < zs.length → w.cell? (x.add i) = some (.int k (zs.getD i 0))) ∧ ∀ n ∈ zs, (Lit.int k n).wf = true) :
    ∃ ys : List Int, ys.length = len ∧ Reads k w a cap ys ∧ ∀ n ∈ ys, (Lit.int k n).wf = true := by
  rcases h with ⟨rfl, rfl, rfl, rfl⟩ | ⟨x, rfl, h1, h2, h3, h4, h5⟩
  · exact ⟨[], rfl, Reads.nil _ _, by simp⟩
  · refine ⟨zs.take len, by simp; omega, ⟨by simp; omega, h2, fun h => by simp at h, fun hz => ?_⟩, fun n hn => h5 n (List.mem_of_mem_take hn)⟩
    simp only [List.length_take] at hz
    have h0 := h4 0 (by omega)
    obtain ⟨b, o, s⟩ := x
    obtain rfl : s = none := by simpa [Addr.add] using World.cell?_spot h0
    refine ⟨b, o, rfl, ?_, fun i hi => ?_⟩
    · have := World.block_lt_of_cell? w _ h0
      simpa [Addr.add] using this
    · simp only [List.length_take] at hi
      rw [← Addr.add_lit, h4 i (by omega)]
      simp [List.getD, show i < len by omega]

/-- The rows of the table. -/
theorem info_byte : (Try.prog.info? 5).map (fun i => (i.zero, i.size, i.bytes)) = some (some (.int .u8 0), 1, 1) := by kernel_rfl

theorem ret_int {k : IntKind} {a b : Int} (h : a = b) : Ending.returned (.int k a) = .returned (.int k b) := by rw [h]
end Go.Proofs.Ytnaofcggdjbocaa.Mem
