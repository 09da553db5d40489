/-
  What a reading hands over of an argument that came in: a record, a slice of sectors, a slice of bools.
-/
import Derived.Test.YtdjcdpmnijcenaaSect
import Derived.Deep.Slices
import Derived.WalkKit
import Derived.ProofKit
import Derived.OpenShut
import Derived.ShutString
import Derived.ChangeOld
import Derived.Below
namespace Go.Proofs.Ytdjcdpmnijcenaa.Frame
open Go.ChangeShapes Go.WideShapes Go.ChangeAt Go.RowKit Go.Proofs.Ytdjcdpmnijcenaa.Mem Go.Proofs.Ytdjcdpmnijcenaa.Sect
set_option linter.unusedVariables false
set_option maxRecDepth 100000

theorem own : ownKnob Try.prog.godebug = none := by kernel_rfl
theorem laidOut : laidOutB Try.prog = true := by kernel_rfl
theorem cellsBool : Try.prog.cellsOf 4 = 1 := by kernel_rfl
theorem cellsByte : Try.prog.cellsOf 5 = 1 := by kernel_rfl
theorem cellsWord : Try.prog.cellsOf 26 = 1 := by kernel_rfl
theorem cellsHalf : Try.prog.cellsOf 27 = 1 := by kernel_rfl
theorem cellsBytes : Try.prog.cellsOf 28 = 1 := by kernel_rfl
theorem cellsSec : Try.prog.cellsOf 44 = 64 := by kernel_rfl
theorem cellsRec : Try.prog.cellsOf 30 = 3 := by kernel_rfl
def bc (b : Bool) : List Value := [.bool b]
theorem bc_len (b : Bool) : (bc b).length = 1 := rfl
def SecOk (s : Sec) : Prop := ∀ c ∈ s.1, Byte c
theorem list3 {α : Type} (l : List α) (h : l.length = 3) : ∃ c0 c1 c2, l = [c0, c1, c2] := by
  match l, h with
  | [c0, c1, c2], _ => exact ⟨c0, c1, c2, rfl⟩
section
variable {H : Type} {enc : TypeId × Value → H} {W : World} {fuel : Nat}
theorem slice_reads {v : Value} {x : DataW H × List MemPlace} (hf : DataW.trod enc Try.prog W 0 (fun _ => true) true fuel 28 [v] = some x) :
    ∃ (q : Option Addr) (n c : Nat) (xs : List Int), v = .slice q n c ∧ xs.length = n ∧ Reads .u8 W q c xs ∧ ∀ b ∈ xs, Byte b := by
  rcases open_ints Try.underlying28 Try.underlying5 cellsByte hf with ⟨hcs, _⟩ | ⟨a, l, c, zs, hcs, _, hl, hm, hz, _, hcell, hwz⟩
  · simp at hcs
    exact ⟨none, 0, 0, [], hcs, rfl, Reads.nil _ _, by simp⟩
  · simp at hcs
    obtain ⟨ys, hl2, hr, hw⟩ := row_reads (w := W) (a := some a) (len := l) (cap := c) (zs := zs) (.inr ⟨a, rfl, hl, hm, by simpa using hz, hcell, hwz⟩)
    exact ⟨some a, l, c, ys, hcs, hl2, hr, fun b hb => byte_of_wf (hw b hb)⟩
/-- A slice of whatever can be read. -/
theorem slice_rk {α : Type} [Inhabited α] {enc2 : α → List Value} {k : Nat} {t e : TypeId} {v : Value} {x : DataW H × List MemPlace} {ok : α → Prop} (hk : ∀ x, (enc2 x).length = k) (h0 : 0 < k) (ht : Try.prog.underlying t = some (.slice e)) (hc : Try.prog.cellsOf e = k)
    (hel : ∀ (n : Nat) (cs : List Value) (y : DataW H × List MemPlace), cs.length = k → DataW.trod enc Try.prog W 0 (fun _ => true) true n e cs = some y → ∃ a : α, ok a ∧ cs = enc2 a)
    (hf : DataW.trod enc Try.prog W 0 (fun _ => true) true fuel t [v] = some x) :
    ∃ (q : Option Addr) (n c : Nat) (xs : List α), v = .slice q n c ∧ xs.length = n ∧ RK enc2 W q c xs ∧ ∀ a ∈ xs, ok a := by
  rcases Deep.open_slice ht hf with ⟨hcs, _⟩ | ⟨a, len, cap, m, n, D, Pl, hcs, _, hl, hm, hmm, _, hx⟩
  · simp at hcs
    exact ⟨none, 0, 0, [], hcs, rfl, RK.nil _ _, by simp⟩
  · simp at hcs hmm
    subst hmm
    rw [hc] at hx
    have key : ∀ i, i < m → ∃ u : α, ok u ∧ ∀ j v, (enc2 u)[j]? = some v → W.cell? (a.add (i * k + j)) = some v := fun i hi => by
      obtain ⟨cs', h1, h2⟩ := hx i hi
      obtain ⟨_, hlen, hcell⟩ := World.cells?_some h1
      obtain ⟨u, hu, rfl⟩ := hel n cs' _ hlen h2
      refine ⟨u, hu, fun j v hj => ?_⟩
      have hjl : j < k := by have := (List.getElem?_eq_some_iff.1 hj).1; rw [hk] at this; exact this
      rw [← Deep.add_add, hcell j hjl, hj]
    obtain ⟨f, hfa⟩ := Deep.choose_lt (α := α) key
    refine ⟨some a, len, m, (List.range len).map f, hcs, by simp, ⟨by simpa using hl, hm, fun h => by simp at h, fun hz => ?_⟩, fun u hu => ?_⟩
    · simp only [List.length_map, List.length_range] at hz
      have h00 := (hfa 0 (by omega)).2 0 _ (List.getElem?_eq_getElem (by rw [hk]; exact h0))
      obtain ⟨bb, o, s⟩ := a
      obtain rfl : s = none := by simpa [Addr.add] using World.cell?_spot h00
      refine ⟨bb, o, rfl, by have := World.block_lt_of_cell? W _ h00; simpa [Addr.add_lit] using this, fun j v hv => ?_⟩
      have hjl : j < len * k := by have := (List.getElem?_eq_some_iff.1 hv).1; rw [len_flat hk] at this; simpa using this
      have hq : j / k < len := Nat.div_lt_of_lt_mul (by rw [Nat.mul_comm]; exact hjl)
      have hr : j % k < k := Nat.mod_lt _ h0
      have e := get_flat hk ((List.range len).map f) (j / k) (j % k) (f (j / k)) (by simp [hq]) hr
      have ej : j / k * k + j % k = j := by rw [Nat.mul_comm]; exact Nat.div_add_mod j k
      rw [ej, hv] at e
      have := (hfa (j / k) (by omega)).2 (j % k) v e.symm
      rw [ej, Addr.add_lit] at this
      exact this
    · obtain ⟨i, hi, rfl⟩ := List.mem_map.1 hu
      exact (hfa i (by have := List.mem_range.1 hi; omega)).1
theorem bool_trod {cs : List Value} {x : DataW H × List MemPlace} (hf : DataW.trod enc Try.prog W 0 (fun _ => true) true fuel 4 cs = some x) : ∃ b : Bool, True ∧ cs = bc b := by
  obtain ⟨b, e, _⟩ := DataW.trod_bool Try.underlying4 hf
  exact ⟨b, trivial, e⟩
theorem sec_trod {cs : List Value} {x : DataW H × List MemPlace} (hl : cs.length = 64) (hf : DataW.trod enc Try.prog W 0 (fun _ => true) true fuel 44 cs = some x) : ∃ s : Sec, SecOk s ∧ cs = sc s := by
  obtain ⟨ys, m, _, _, _, hlen, hy⟩ := DataW.trod_array und_sec hf
  have key : ∀ i, i < 64 → ∃ u : Int, Byte u ∧ cs[i]? = some (.int .u8 u) := fun i hi => by
    have h := hy i hi
    rw [cellsByte, Nat.mul_one, List.getElem?_eq_getElem (by omega)] at h
    obtain ⟨u, hu, _, hw⟩ := DataW.trod_int Try.underlying5 h
    refine ⟨u, byte_of_wf hw, ?_⟩
    have e : ((cs.drop i).take 1)[0]? = cs[i]? := by rw [List.getElem?_take, if_pos (by omega), List.getElem?_drop, Nat.add_zero]
    rw [hu] at e
    exact e.symm
  obtain ⟨f, hfa⟩ := Deep.choose_lt (α := Int) key
  refine ⟨⟨(List.range 64).map f, by simp⟩, fun c hc => ?_, ?_⟩
  · obtain ⟨i, hi, rfl⟩ := List.mem_map.1 hc
    exact (hfa i (List.mem_range.1 hi)).1
  · refine List.ext_getElem? fun i => ?_
    rcases Nat.lt_or_ge i 64 with hi | hi
    · rw [(hfa i hi).2]; simp [sc, hi]
    · rw [List.getElem?_eq_none (by omega), List.getElem?_eq_none (by rw [sc_len]; exact hi)]
theorem open_bools {base : Nat} {v : Value} {d : DataW H} {p : List MemPlace} (hv : Value.okWide Try.prog W .any base 42 v) (h : DataW.Trod enc Try.prog W 0 (fun _ => true) true 42 v d p) :
    ∃ (q : Option Addr) (n c : Nat) (xs : List Bool), v = .slice q n c ∧ xs.length = n ∧ RK bc W q c xs ∧ ∀ a ∈ xs, True := by
  obtain ⟨a, len, cap, rfl⟩ := okWide_slice Try.underlying42 hv
  obtain ⟨fuel, hf⟩ := h
  exact slice_rk bc_len (by decide) Try.underlying42 cellsBool (fun n cs y hl hy => bool_trod hy) hf
theorem open_secs {base : Nat} {v : Value} {d : DataW H} {p : List MemPlace} (hv : Value.okWide Try.prog W .any base 22 v) (h : DataW.Trod enc Try.prog W 0 (fun _ => true) true 22 v d p) :
    ∃ (q : Option Addr) (n c : Nat) (xs : List Sec), v = .slice q n c ∧ xs.length = n ∧ RK sc W q c xs ∧ ∀ a ∈ xs, SecOk a := by
  obtain ⟨a, len, cap, rfl⟩ := okWide_slice Try.underlying22 hv
  obtain ⟨fuel, hf⟩ := h
  haveI : Inhabited Sec := ⟨zero⟩
  exact slice_rk sc_len (by decide) Try.underlying22 cellsSec (fun n cs y hl hy => sec_trod hl hy) hf
theorem open_rec {base : Nat} {v : Value} {d : DataW H} {p : List MemPlace} (hv : Value.okWide Try.prog W .any base 30 v) (h : DataW.Trod enc Try.prog W 0 (fun _ => true) true 30 v d p) :
    ∃ (s e : Nat) (q : Option Addr) (m c : Nat) (xs : List Int), v = .agg #[.int .u64 (s : Int), .int .u32 (e : Int), .slice q m c] ∧ s < 18446744073709551616 ∧ e < 4294967296 ∧ xs.length = m ∧ Reads .u8 W q c xs ∧ ∀ b ∈ xs, Byte b := by
  obtain ⟨cs, rfl, hsz⟩ := okWide_struct Try.underlying30 hv
  rw [cellsRec] at hsz
  obtain ⟨l⟩ := cs
  obtain ⟨c0, c1, c2, rfl⟩ := list3 l hsz
  obtain ⟨fuel, hf⟩ := h
  obtain ⟨ys, n, _, _, _, hlen, hfs⟩ := DataW.trod_struct Try.underlying30 hf
  obtain ⟨y0, y1, y2, rfl⟩ := list3 ys hlen
  have h0 := hfs 0 _ rfl
  have h1 := hfs 1 _ rfl
  have h2 := hfs 2 _ rfl
  simp [Value.cells, cellsWord, cellsHalf, cellsBytes] at h0 h1 h2
  obtain ⟨x0, e0, _, w0⟩ := DataW.trod_int Try.underlying26 h0
  obtain ⟨x1, e1, _, w1⟩ := DataW.trod_int Try.underlying27 h1
  obtain ⟨q, m, c, xs, e2, l2, r2, b2⟩ := slice_reads h2
  simp at e0 e1
  subst e0 e1 e2
  obtain ⟨a0, a1⟩ := word_of_wf w0
  obtain ⟨b0, b1⟩ := half_of_wf w1
  obtain ⟨s, rfl⟩ := Int.eq_ofNat_of_zero_le a0
  obtain ⟨e, rfl⟩ := Int.eq_ofNat_of_zero_le b0
  exact ⟨s, e, q, m, c, xs, rfl, by omega, by omega, l2, r2, b2⟩
end
end Go.Proofs.Ytdjcdpmnijcenaa.Frame
