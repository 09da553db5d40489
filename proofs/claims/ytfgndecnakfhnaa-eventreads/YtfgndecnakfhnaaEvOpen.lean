/-
  What a reading hands over of an argument that came in: an event, a slice of bytes.
-/
import Derived.Test.YtfgndecnakfhnaaPolOpen
import Derived.Test.YtfgndecnakfhnaaEvMem
namespace Go.Proofs.Ytfgndecnakfhnaa.Event
open Go.ChangeShapes Go.WideShapes Go.ChangeAt Go.RowKit Go.Proofs.Ytfgndecnakfhnaa.Mem Go.Proofs.Ytfgndecnakfhnaa.Policy
set_option linter.unusedVariables false
set_option maxRecDepth 100000

theorem cellsOne : Try.prog.cellsOf 5 = 1 := by kernel_rfl
theorem cellsI : Try.prog.cellsOf 3 = 1 := by kernel_rfl
theorem cellsU : Try.prog.cellsOf 28 = 1 := by kernel_rfl
theorem cellsPs : Try.prog.cellsOf 26 = 1 := by kernel_rfl
theorem cellsIs : Try.prog.cellsOf 27 = 1 := by kernel_rfl
theorem cellsEv : Try.prog.cellsOf 30 = 6 := by kernel_rfl
theorem list6 {α : Type} (l : List α) (h : l.length = 6) : ∃ c0 c1 c2 c3 c4 c5, l = [c0, c1, c2, c3, c4, c5] := by
  match l, h with
  | [c0, c1, c2, c3, c4, c5], _ => exact ⟨c0, c1, c2, c3, c4, c5, rfl⟩
section
variable {H : Type} {enc : TypeId × Value → H} {W : World} {fuel : Nat}
theorem bytes_reads {v : Value} {x : DataW H × List MemPlace} (hf : DataW.trod enc Try.prog W 0 (fun _ => true) true fuel 22 [v] = some x) :
    ∃ (q : Option Addr) (n c : Nat) (xs : List Int), v = .slice q n c ∧ xs.length = n ∧ Reads .u8 W q c xs ∧ ∀ b ∈ xs, Byte b := by
  rcases open_ints Try.underlying22 Try.underlying5 cellsOne hf with ⟨hcs, _⟩ | ⟨a, l, c, zs, hcs, _, hl, hm, hz, _, hcell, hwz⟩
  · simp at hcs
    exact ⟨none, 0, 0, [], hcs, rfl, Reads.nil _ _, by simp⟩
  · simp at hcs
    obtain ⟨ys, hl2, hr, hw⟩ := row_reads (w := W) (a := some a) (len := l) (cap := c) (zs := zs) (.inr ⟨a, rfl, hl, hm, by simpa using hz, hcell, hwz⟩)
    exact ⟨some a, l, c, ys, hcs, hl2, hr, fun b hb => byte_of_wf (hw b hb)⟩
theorem ints_reads {v : Value} {x : DataW H × List MemPlace} (hf : DataW.trod enc Try.prog W 0 (fun _ => true) true fuel 27 [v] = some x) :
    ∃ (q : Option Addr) (n c : Nat) (xs : List Int), v = .slice q n c ∧ xs.length = n ∧ Reads .i64 W q c xs ∧ ∀ b ∈ xs, Inty b := by
  rcases open_ints Try.underlying27 Try.underlying3 cellsI hf with ⟨hcs, _⟩ | ⟨a, l, c, zs, hcs, _, hl, hm, hz, _, hcell, hwz⟩
  · simp at hcs
    exact ⟨none, 0, 0, [], hcs, rfl, Reads.nil _ _, by simp⟩
  · simp at hcs
    obtain ⟨ys, hl2, hr, hw⟩ := row_reads (w := W) (a := some a) (len := l) (cap := c) (zs := zs) (.inr ⟨a, rfl, hl, hm, by simpa using hz, hcell, hwz⟩)
    exact ⟨some a, l, c, ys, hcs, hl2, hr, fun b hb => inty_of_wf (hw b hb)⟩
theorem pols_reads {v : Value} {x : DataW H × List MemPlace} (hf : DataW.trod enc Try.prog W 0 (fun _ => true) true fuel 26 [v] = some x) :
    ∃ (q : Option Addr) (n c : Nat) (xs : List Po), v = .slice q n c ∧ xs.length = n ∧ RK pl W q c xs ∧ ∀ k ∈ xs, PoOk k := by
  haveI : Inhabited Po := ⟨zeroP⟩
  exact slice_rk pl_len (by decide) Try.underlying26 cellsPol (fun n cs y hl hy => pol_trod hl hy) hf
variable {base : Nat} {v : Value} {d : DataW H} {p : List MemPlace}
theorem open_bytes (hv : Value.okWide Try.prog W .any base 22 v) (h : DataW.Trod enc Try.prog W 0 (fun _ => true) true 22 v d p) :
    ∃ (q : Option Addr) (n c : Nat) (xs : List Int), v = .slice q n c ∧ xs.length = n ∧ Reads .u8 W q c xs ∧ ∀ b ∈ xs, Byte b := by
  obtain ⟨a, len, cap, rfl⟩ := okWide_slice Try.underlying22 hv
  obtain ⟨fuel, hf⟩ := h
  exact bytes_reads hf
theorem open_ev (hv : Value.okWide Try.prog W .any base 30 v) (h : DataW.Trod enc Try.prog W 0 (fun _ => true) true 30 v d p) :
    ∃ (h : Eh) (e : Ev), v = ev h ∧ Is W h e ∧ EvOk e := by
  obtain ⟨cs, rfl, hsz⟩ := okWide_struct Try.underlying30 hv
  rw [cellsEv] at hsz
  obtain ⟨l⟩ := cs
  obtain ⟨c0, c1, c2, c3, c4, c5, rfl⟩ := list6 l hsz
  obtain ⟨fuel, hf⟩ := h
  obtain ⟨ys, n, _, _, _, hlen, hfs⟩ := DataW.trod_struct Try.underlying30 hf
  obtain ⟨y0, y1, y2, y3, y4, y5, rfl⟩ := list6 ys hlen
  have h0 := hfs 0 _ rfl
  have h1 := hfs 1 _ rfl
  have h2 := hfs 2 _ rfl
  have h3 := hfs 3 _ rfl
  have h4 := hfs 4 _ rfl
  have h5 := hfs 5 _ rfl
  simp [Value.cells, cellsI, cellsU, cellsPs, cellsIs] at h0 h1 h2 h3 h4 h5
  obtain ⟨x0, e0, _, w0⟩ := DataW.trod_int Try.underlying3 h0
  obtain ⟨x1, e1, _, w1⟩ := DataW.trod_int Try.underlying3 h1
  obtain ⟨q2, m2, d2, ps, e2, l2, r2, o2⟩ := pols_reads h2
  obtain ⟨q3, m3, d3, ds, e3, l3, r3, o3⟩ := ints_reads h3
  obtain ⟨x4, e4, _, w4⟩ := DataW.trod_int Try.underlying28 h4
  obtain ⟨x5, e5, _, w5⟩ := DataW.trod_int Try.underlying28 h5
  simp at e0 e1 e4 e5
  subst e0 e1 e2 e3 e4 e5
  exact ⟨⟨x0, x1, q2, m2, d2, q3, m3, d3, x4, x5⟩, ⟨x0, x1, ps, ds, x4, x5⟩, rfl, ⟨⟨rfl, rfl, rfl, rfl⟩, ⟨l2, r2⟩, l3, r3⟩, inty_of_wf w0, inty_of_wf w1, o2, o3, word_of_wf w4, word_of_wf w5⟩
end
end Go.Proofs.Ytfgndecnakfhnaa.Event
