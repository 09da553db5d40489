/-
  What a reading hands over of an argument that came in: a header, a slice of bytes.
-/
import Derived.Test.YtogijgpamdcjkaaHeadPlain
import Derived.Test.YtogijgpamdcjkaaMem
import Derived.WalkKit
import Derived.ProofKit
import Derived.OpenShut
import Derived.ShutString
import Derived.ChangeOld
import Derived.Below
namespace Go.Proofs.Ytogijgpamdcjkaa.Head
open Go.ChangeShapes Go.WideShapes Go.ChangeAt Go.RowKit Go.Proofs.Ytogijgpamdcjkaa.Mem
set_option linter.unusedVariables false
set_option maxRecDepth 100000

theorem own : ownKnob Try.prog.godebug = none := by kernel_rfl
theorem laidOut : laidOutB Try.prog = true := by kernel_rfl
theorem cells1 : Try.prog.cellsOf 5 = 1 := by kernel_rfl
theorem cellsA : Try.prog.cellsOf 23 = 4 := by kernel_rfl
theorem cellsI : Try.prog.cellsOf 3 = 1 := by kernel_rfl
theorem cellsS : Try.prog.cellsOf 24 = 1 := by kernel_rfl
theorem cellsH : Try.prog.cellsOf 26 = 14 := by kernel_rfl
theorem list4 {α : Type} (l : List α) (h : l.length = 4) : ∃ c0 c1 c2 c3, l = [c0, c1, c2, c3] := by
  match l, h with
  | [c0, c1, c2, c3], _ => exact ⟨c0, c1, c2, c3, rfl⟩
theorem list8 {α : Type} (l : List α) (h : l.length = 8) : ∃ c0 c1 c2 c3 c4 c5 c6 c7, l = [c0, c1, c2, c3, c4, c5, c6, c7] := by
  match l, h with
  | [c0, c1, c2, c3, c4, c5, c6, c7], _ => exact ⟨c0, c1, c2, c3, c4, c5, c6, c7, rfl⟩
theorem list14 {α : Type} (l : List α) (h : l.length = 14) : ∃ c0 c1 c2 c3 c4 c5 c6 c7 c8 c9 c10 c11 c12 c13, l = [c0, c1, c2, c3, c4, c5, c6, c7, c8, c9, c10, c11, c12, c13] := by
  match l, h with
  | [c0, c1, c2, c3, c4, c5, c6, c7, c8, c9, c10, c11, c12, c13], _ => exact ⟨c0, c1, c2, c3, c4, c5, c6, c7, c8, c9, c10, c11, c12, c13, rfl⟩
theorem ints4 {H : Type} {enc : TypeId × Value → H} {W : World} {fuel : Nat} {c0 c1 c2 c3 : Value} {x : DataW H × List MemPlace} (hf : DataW.trod enc Try.prog W 0 (fun _ => true) true fuel 23 [c0, c1, c2, c3] = some x) :
    ∃ x0 x1 x2 x3 : Int, c0 = .int .u8 x0 ∧ c1 = .int .u8 x1 ∧ c2 = .int .u8 x2 ∧ c3 = .int .u8 x3 ∧ Byte x0 ∧ Byte x1 ∧ Byte x2 ∧ Byte x3 := by
  obtain ⟨ys, m, _, hx, _, hl, hy⟩ := DataW.trod_array Try.underlying23 hf
  obtain ⟨y0, y1, y2, y3, rfl⟩ := list4 ys hl
  have h0 := hy 0 (by omega)
  have h1 := hy 1 (by omega)
  have h2 := hy 2 (by omega)
  have h3 := hy 3 (by omega)
  simp [cells1] at h0 h1 h2 h3
  obtain ⟨x0, e0, _, w0⟩ := DataW.trod_int Try.underlying5 h0
  obtain ⟨x1, e1, _, w1⟩ := DataW.trod_int Try.underlying5 h1
  obtain ⟨x2, e2, _, w2⟩ := DataW.trod_int Try.underlying5 h2
  obtain ⟨x3, e3, _, w3⟩ := DataW.trod_int Try.underlying5 h3
  simp at e0 e1 e2 e3
  exact ⟨x0, x1, x2, x3, e0, e1, e2, e3, byte_of_wf w0, byte_of_wf w1, byte_of_wf w2, byte_of_wf w3⟩
theorem slice_reads {H : Type} {enc : TypeId × Value → H} {W : World} {fuel : Nat} {v : Value} {x : DataW H × List MemPlace} (hf : DataW.trod enc Try.prog W 0 (fun _ => true) true fuel 24 [v] = some x) :
    ∃ (q : Option Addr) (n c : Nat) (xs : List Int), v = .slice q n c ∧ xs.length = n ∧ Reads .u8 W q c xs ∧ ∀ b ∈ xs, Byte b := by
  rcases open_ints Try.underlying24 Try.underlying5 cells1 hf with ⟨hcs, _⟩ | ⟨a, l, c, zs, hcs, _, hl, hm, hz, _, hcell, hwz⟩
  · simp at hcs
    exact ⟨none, 0, 0, [], hcs, rfl, Reads.nil _ _, by simp⟩
  · simp at hcs
    obtain ⟨ys, hl2, hr, hw⟩ := row_reads (w := W) (a := some a) (len := l) (cap := c) (zs := zs) (.inr ⟨a, rfl, hl, hm, by simpa using hz, hcell, hwz⟩)
    exact ⟨some a, l, c, ys, hcs, hl2, hr, fun b hb => byte_of_wf (hw b hb)⟩
theorem open_bytes {H : Type} {enc : TypeId × Value → H} {W : World} {base : Nat} {v : Value} {d : DataW H} {p : List MemPlace} (hv : Value.okWide Try.prog W .any base 24 v) (h : DataW.Trod enc Try.prog W 0 (fun _ => true) true 24 v d p) :
    ∃ (q : Option Addr) (n c : Nat) (xs : List Int), v = .slice q n c ∧ xs.length = n ∧ Reads .u8 W q c xs ∧ ∀ b ∈ xs, Byte b := by
  obtain ⟨a, len, cap, rfl⟩ := okWide_slice Try.underlying24 hv
  obtain ⟨fuel, hf⟩ := h
  exact slice_reads hf
theorem open_head {H : Type} {enc : TypeId × Value → H} {W : World} {base : Nat} {v : Value} {d : DataW H} {p : List MemPlace} (hv : Value.okWide Try.prog W .any base 26 v) (h : DataW.Trod enc Try.prog W 0 (fun _ => true) true 26 v d p) :
    ∃ (g : Hd) (q : Option Addr) (m c : Nat) (os : List Int), v = .agg #[.int .i64 g.tos, .int .i64 g.id, .int .i64 g.fl, .int .i64 g.ttl, .int .i64 g.pr, .int .u8 g.s0, .int .u8 g.s1, .int .u8 g.s2, .int .u8 g.s3, .int .u8 g.d0, .int .u8 g.d1, .int .u8 g.d2, .int .u8 g.d3, .slice q m c] ∧ Ads g ∧ os.length = m ∧ Reads .u8 W q c os ∧ (∀ b ∈ os, Byte b) ∧ Inty g.ttl := by
  obtain ⟨cs, rfl, hsz⟩ := okWide_struct Try.underlying26 hv
  rw [cellsH] at hsz
  obtain ⟨l⟩ := cs
  obtain ⟨c0, c1, c2, c3, c4, c5, c6, c7, c8, c9, c10, c11, c12, c13, rfl⟩ := list14 l hsz
  obtain ⟨fuel, hf⟩ := h
  obtain ⟨ys, n, _, _, _, hlen, hfs⟩ := DataW.trod_struct Try.underlying26 hf
  obtain ⟨y0, y1, y2, y3, y4, y5, y6, y7, rfl⟩ := list8 ys hlen
  have h0 := hfs 0 _ rfl
  have h1 := hfs 1 _ rfl
  have h2 := hfs 2 _ rfl
  have h3 := hfs 3 _ rfl
  have h4 := hfs 4 _ rfl
  have h5 := hfs 5 _ rfl
  have h6 := hfs 6 _ rfl
  have h7 := hfs 7 _ rfl
  simp [Value.cells, cellsA, cellsI, cellsS] at h0 h1 h2 h3 h4 h5 h6 h7
  obtain ⟨x0, e0, _, _⟩ := DataW.trod_int Try.underlying3 h0
  obtain ⟨x1, e1, _, _⟩ := DataW.trod_int Try.underlying3 h1
  obtain ⟨x2, e2, _, _⟩ := DataW.trod_int Try.underlying3 h2
  obtain ⟨x3, e3, _, w3⟩ := DataW.trod_int Try.underlying3 h3
  obtain ⟨x4, e4, _, _⟩ := DataW.trod_int Try.underlying3 h4
  obtain ⟨s0, s1, s2, s3, f0, f1, f2, f3, b0, b1, b2, b3⟩ := ints4 h5
  obtain ⟨d0, d1, d2, d3, g0, g1, g2, g3, b4, b5, b6, b7⟩ := ints4 h6
  obtain ⟨q, m, c, os, e7, lo, ro, ho⟩ := slice_reads h7
  simp at e0 e1 e2 e3 e4
  subst e0 e1 e2 e3 e4 f0 f1 f2 f3 g0 g1 g2 g3 e7
  exact ⟨⟨x0, x1, x2, x3, x4, s0, s1, s2, s3, d0, d1, d2, d3⟩, q, m, c, os, rfl, ⟨b0, b1, b2, b3, b4, b5, b6, b7⟩, lo, ro, ho, inty_of_wf w3⟩
end Go.Proofs.Ytogijgpamdcjkaa.Head
