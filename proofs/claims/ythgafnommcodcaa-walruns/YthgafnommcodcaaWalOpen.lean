/-
  What a reading hands over of an argument that came in: a slice of a log's acts, of ints, of bools; numbers; two of them.
-/
import Derived.Test.YthgafnommcodcaaDiskOpen
namespace Go.Proofs.Ythgafnommcodcaa.Wal
open Go.ChangeShapes Go.WideShapes Go.ChangeAt Go.RowKit Go.Proofs.Ythgafnommcodcaa.Mem Go.Proofs.Ythgafnommcodcaa.Sect Go.Proofs.Ythgafnommcodcaa.Disk
set_option linter.unusedVariables false
set_option maxRecDepth 100000

theorem cellsWord : Try.prog.cellsOf 29 = 1 := by kernel_rfl
theorem cellsWords : Try.prog.cellsOf 34 = 2 := by kernel_rfl
theorem cellsDo : Try.prog.cellsOf 47 = 4 := by kernel_rfl
theorem list2 {α : Type} (l : List α) (h : l.length = 2) : ∃ c0 c1, l = [c0, c1] := by
  match l, h with
  | [c0, c1], _ => exact ⟨c0, c1, rfl⟩
section
variable {H : Type} {enc : TypeId × Value → H} {W : World} {base fuel : Nat} {v : Value} {d : DataW H} {p : List MemPlace}
theorem open_i (hv : Value.okWide Try.prog W .any base 3 v) (h : DataW.Trod enc Try.prog W 0 (fun _ => true) true 3 v d p) :
    ∃ x : Int, v = .int .i64 x ∧ Inty x := by
  obtain ⟨x, rfl, -, -, w⟩ := open_int Try.underlying3 hv h
  exact ⟨x, rfl, inty_of_wf w⟩
theorem open_u (hv : Value.okWide Try.prog W .any base 29 v) (h : DataW.Trod enc Try.prog W 0 (fun _ => true) true 29 v d p) :
    ∃ x : Int, v = .int .u64 x ∧ Word x := by
  obtain ⟨x, rfl, -, -, w⟩ := open_int Try.underlying29 hv h
  exact ⟨x, rfl, word_of_wf w⟩
theorem open_h (hv : Value.okWide Try.prog W .any base 28 v) (h : DataW.Trod enc Try.prog W 0 (fun _ => true) true 28 v d p) :
    ∃ x : Int, v = .int .u32 x ∧ (0 ≤ x ∧ x < 4294967296) := by
  obtain ⟨x, rfl, -, -, w⟩ := open_int Try.underlying28 hv h
  refine ⟨x, rfl, ?_⟩
  have : 0 ≤ x ∧ x ≤ 4294967295 := by simpa [Lit.wf, IntKind.min, IntKind.max, IntKind.signed, IntKind.bits] using w
  omega
theorem open_uu (hv : Value.okWide Try.prog W .any base 34 v) (h : DataW.Trod enc Try.prog W 0 (fun _ => true) true 34 v d p) :
    ∃ x y : Int, v = .agg #[.int .u64 x, .int .u64 y] ∧ Word x ∧ Word y := by
  obtain ⟨cs, rfl, hsz, _⟩ : ∃ cs, v = .agg cs ∧ cs.size = Try.prog.cellsOf 34 ∧ Row.okWide Try.prog W .any base 34 cs := by
    simpa [Value.okWide, Try.underlying34] using hv
  rw [cellsWords] at hsz
  obtain ⟨l⟩ := cs
  obtain ⟨c0, c1, rfl⟩ := list2 l hsz
  obtain ⟨fuel, hf⟩ := h
  obtain ⟨ys, m, _, hx, _, hl, hy⟩ := DataW.trod_array Try.underlying34 hf
  obtain ⟨y0, y1, rfl⟩ := list2 ys hl
  have h0 := hy 0 (by omega)
  have h1 := hy 1 (by omega)
  simp [Value.cells, cellsWord] at h0 h1
  obtain ⟨x0, e0, _, w0⟩ := DataW.trod_int Try.underlying29 h0
  obtain ⟨x1, e1, _, w1⟩ := DataW.trod_int Try.underlying29 h1
  simp at e0 e1
  subst e0 e1
  exact ⟨x0, x1, rfl, word_of_wf w0, word_of_wf w1⟩
theorem ints_reads {v : Value} {x : DataW H × List MemPlace} (hf : DataW.trod enc Try.prog W 0 (fun _ => true) true fuel 78 [v] = some x) :
    ∃ (q : Option Addr) (n c : Nat) (xs : List Int), v = .slice q n c ∧ xs.length = n ∧ Reads .i64 W q c xs ∧ ∀ b ∈ xs, Inty b := by
  rcases open_ints Try.underlying78 Try.underlying3 cellsInt hf with ⟨hcs, _⟩ | ⟨a, l, c, zs, hcs, _, hl, hm, hz, _, hcell, hwz⟩
  · simp at hcs
    exact ⟨none, 0, 0, [], hcs, rfl, Reads.nil _ _, by simp⟩
  · simp at hcs
    obtain ⟨ys, hl2, hr, hw⟩ := row_reads (w := W) (a := some a) (len := l) (cap := c) (zs := zs) (.inr ⟨a, rfl, hl, hm, by simpa using hz, hcell, hwz⟩)
    exact ⟨some a, l, c, ys, hcs, hl2, hr, fun b hb => inty_of_wf (hw b hb)⟩
theorem open_is (hv : Value.okWide Try.prog W .any base 78 v) (h : DataW.Trod enc Try.prog W 0 (fun _ => true) true 78 v d p) :
    ∃ (q : Option Addr) (n c : Nat) (xs : List Int), v = .slice q n c ∧ xs.length = n ∧ Reads .i64 W q c xs ∧ ∀ x ∈ xs, Inty x := by
  obtain ⟨a, len, cap, rfl⟩ := okWide_slice Try.underlying78 hv
  obtain ⟨fuel, hf⟩ := h
  exact ints_reads hf
theorem do_trod {cs : List Value} {x : DataW H × List MemPlace} (hl : cs.length = 4) (hf : DataW.trod enc Try.prog W 0 (fun _ => true) true fuel 47 cs = some x) (hw : ∀ m ∈ x.1.weights Try.prog 47, m ≤ reachBytes) :
    ∃ a : Ac, (AcOk W a ∧ Byte a.2.2.1) ∧ cs = ac a := by
  obtain ⟨c0, c1, c2, c3, rfl⟩ := list4 cs hl
  obtain ⟨ys, n, _, hxe, _, hlen, hfs⟩ := DataW.trod_struct Try.underlying47 hf
  obtain ⟨y0, y1, y2, y3, rfl⟩ := list4 ys hlen
  have hw3 : ∀ m ∈ y3.1.weights Try.prog 45, m ≤ reachBytes := fun m hm => hw m (by rw [hxe]; simp [DataW.weights, Try.underlying47, DataW.weightsEach, hm])
  have h0 := hfs 0 _ rfl
  have h1 := hfs 1 _ rfl
  have h2 := hfs 2 _ rfl
  have h3 := hfs 3 _ rfl
  simp [cellsByte, cellsInt, cellsBools] at h0 h1 h2 h3
  obtain ⟨x0, e0, _, w0⟩ := DataW.trod_int Try.underlying3 h0
  obtain ⟨x1, e1, _, w1⟩ := DataW.trod_int Try.underlying3 h1
  obtain ⟨x2, e2, _, w2⟩ := DataW.trod_int Try.underlying5 h2
  obtain ⟨q, n, c, ks, e3, l3, r3, _, b3⟩ := slice_rkw (ok := fun _ => True) bc_len (by decide) Try.underlying45 cellsBool (fun n cs y hl hy _ => bool_trod hy) h3 hw3
  rw [bytesBool, Nat.mul_one] at b3
  simp at e0 e1 e2
  subst e0 e1 e2 e3
  exact ⟨(x0, x1, x2, q, n, c), ⟨⟨inty_of_wf w0, inty_of_wf w1, ks, l3, by rw [l3]; exact b3, r3⟩, byte_of_wf w2⟩, rfl⟩
theorem open_dos (hv : Value.okWide Try.prog W .any base 35 v) (h : DataW.Trod enc Try.prog W 0 (fun _ => true) true 35 v d p) (hw : ∀ m ∈ d.weights Try.prog 35, m ≤ reachBytes) :
    ∃ (q : Option Addr) (n c : Nat) (xs : List Ac), v = .slice q n c ∧ xs.length = n ∧ RK ac W q c xs ∧ ∀ a ∈ xs, AcOk W a ∧ Byte a.2.2.1 := by
  obtain ⟨a, len, cap, rfl⟩ := okWide_slice Try.underlying35 hv
  obtain ⟨fuel, hf⟩ := h
  obtain ⟨q, n, c, xs, h1, h2, h3, h4, _⟩ := slice_rkw (ok := fun a => AcOk W a ∧ Byte a.2.2.1) ac_len (by decide) Try.underlying35 cellsDo (fun n cs y hl hy hw => do_trod hl hy hw) hf hw
  exact ⟨q, n, c, xs, h1, h2, h3, h4⟩
end
end Go.Proofs.Ythgafnommcodcaa.Wal
