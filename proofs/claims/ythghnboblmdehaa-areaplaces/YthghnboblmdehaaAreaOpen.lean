/-
  What a reading hands over of an argument that came in: an int, a number of 64 bits, two of either.
-/
import Derived.Test.YthghnboblmdehaaAreaPlain
import Derived.Test.YthghnboblmdehaaMem
import Derived.WalkKit
import Derived.ProofKit
import Derived.OpenShut
import Derived.ShutString
import Derived.ChangeOld
import Derived.Below
namespace Go.Proofs.Ythghnboblmdehaa.Area
open Go.ChangeShapes Go.WideShapes Go.ChangeAt Go.RowKit Go.Proofs.Ythghnboblmdehaa.Mem
set_option linter.unusedVariables false
set_option maxRecDepth 100000

theorem own : ownKnob Try.prog.godebug = none := by kernel_rfl
theorem laidOut : laidOutB Try.prog = true := by kernel_rfl
theorem cellsInt : Try.prog.cellsOf 3 = 1 := by kernel_rfl
theorem cellsWord : Try.prog.cellsOf 28 = 1 := by kernel_rfl
theorem cellsInts : Try.prog.cellsOf 27 = 2 := by kernel_rfl
theorem cellsWords : Try.prog.cellsOf 38 = 2 := by kernel_rfl
theorem list2 {α : Type} (l : List α) (h : l.length = 2) : ∃ c0 c1, l = [c0, c1] := by
  match l, h with
  | [c0, c1], _ => exact ⟨c0, c1, rfl⟩
section
variable {H : Type} {enc : TypeId × Value → H} {W : World} {base : Nat} {v : Value} {d : DataW H} {p : List MemPlace}
theorem open_i (hv : Value.okWide Try.prog W .any base 3 v) (h : DataW.Trod enc Try.prog W 0 (fun _ => true) true 3 v d p) :
    ∃ x : Int, v = .int .i64 x ∧ Inty x := by
  obtain ⟨x, rfl, -, -, w⟩ := open_int Try.underlying3 hv h
  exact ⟨x, rfl, inty_of_wf w⟩
theorem open_u (hv : Value.okWide Try.prog W .any base 28 v) (h : DataW.Trod enc Try.prog W 0 (fun _ => true) true 28 v d p) :
    ∃ x : Int, v = .int .u64 x ∧ Word x := by
  obtain ⟨x, rfl, -, -, w⟩ := open_int Try.underlying28 hv h
  exact ⟨x, rfl, word_of_wf w⟩
theorem open_ii (hv : Value.okWide Try.prog W .any base 27 v) (h : DataW.Trod enc Try.prog W 0 (fun _ => true) true 27 v d p) :
    ∃ x y : Int, v = .agg #[.int .i64 x, .int .i64 y] ∧ Inty x ∧ Inty y := by
  obtain ⟨cs, rfl, hsz, _⟩ : ∃ cs, v = .agg cs ∧ cs.size = Try.prog.cellsOf 27 ∧ Row.okWide Try.prog W .any base 27 cs := by
    simpa [Value.okWide, Try.underlying27] using hv
  rw [cellsInts] at hsz
  obtain ⟨l⟩ := cs
  obtain ⟨c0, c1, rfl⟩ := list2 l hsz
  obtain ⟨fuel, hf⟩ := h
  obtain ⟨ys, m, _, hx, _, hl, hy⟩ := DataW.trod_array Try.underlying27 hf
  obtain ⟨y0, y1, rfl⟩ := list2 ys hl
  have h0 := hy 0 (by omega)
  have h1 := hy 1 (by omega)
  simp [Value.cells, cellsInt] at h0 h1
  obtain ⟨x0, e0, _, w0⟩ := DataW.trod_int Try.underlying3 h0
  obtain ⟨x1, e1, _, w1⟩ := DataW.trod_int Try.underlying3 h1
  simp at e0 e1
  subst e0 e1
  exact ⟨x0, x1, rfl, inty_of_wf w0, inty_of_wf w1⟩
theorem open_uu (hv : Value.okWide Try.prog W .any base 38 v) (h : DataW.Trod enc Try.prog W 0 (fun _ => true) true 38 v d p) :
    ∃ x y : Int, v = .agg #[.int .u64 x, .int .u64 y] ∧ Word x ∧ Word y := by
  obtain ⟨cs, rfl, hsz, _⟩ : ∃ cs, v = .agg cs ∧ cs.size = Try.prog.cellsOf 38 ∧ Row.okWide Try.prog W .any base 38 cs := by
    simpa [Value.okWide, Try.underlying38] using hv
  rw [cellsWords] at hsz
  obtain ⟨l⟩ := cs
  obtain ⟨c0, c1, rfl⟩ := list2 l hsz
  obtain ⟨fuel, hf⟩ := h
  obtain ⟨ys, m, _, hx, _, hl, hy⟩ := DataW.trod_array Try.underlying38 hf
  obtain ⟨y0, y1, rfl⟩ := list2 ys hl
  have h0 := hy 0 (by omega)
  have h1 := hy 1 (by omega)
  simp [Value.cells, cellsWord] at h0 h1
  obtain ⟨x0, e0, _, w0⟩ := DataW.trod_int Try.underlying28 h0
  obtain ⟨x1, e1, _, w1⟩ := DataW.trod_int Try.underlying28 h1
  simp at e0 e1
  subst e0 e1
  exact ⟨x0, x1, rfl, word_of_wf w0, word_of_wf w1⟩
end
end Go.Proofs.Ythghnboblmdehaa.Area
