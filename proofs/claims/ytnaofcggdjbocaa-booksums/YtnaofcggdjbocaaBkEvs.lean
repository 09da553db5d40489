/-
  What a reading hands over of an argument that came in: a slice of events.
-/
import Derived.Test.YtnaofcggdjbocaaBkOpen
import Derived.Test.YtnaofcggdjbocaaBkSumPlain
namespace Go.Proofs.Ytnaofcggdjbocaa.Book
open Go.ChangeShapes Go.WideShapes Go.ChangeAt Go.RowKit Go.Proofs.Ytnaofcggdjbocaa.Mem Go.Proofs.Ytnaofcggdjbocaa.Policy Go.Proofs.Ytnaofcggdjbocaa.Event
set_option linter.unusedVariables false
set_option maxRecDepth 100000
section
variable {H : Type} {enc : TypeId × Value → H} {W : World} {fuel : Nat}
theorem ev_trod {cs : List Value} {x : DataW H × List MemPlace} (hl0 : cs.length = 6) (hf : DataW.trod enc Try.prog W 0 (fun _ => true) true fuel 32 cs = some x) :
    ∃ a : Eh × Ev, HOk W a ∧ cs = hl a := by
  obtain ⟨c0, c1, c2, c3, c4, c5, rfl⟩ := list6 cs hl0
  obtain ⟨ys, n, _, _, _, hlen, hfs⟩ := DataW.trod_struct Try.underlying32 hf
  obtain ⟨y0, y1, y2, y3, y4, y5, rfl⟩ := list6 ys hlen
  have h0 := hfs 0 _ rfl
  have h1 := hfs 1 _ rfl
  have h2 := hfs 2 _ rfl
  have h3 := hfs 3 _ rfl
  have h4 := hfs 4 _ rfl
  have h5 := hfs 5 _ rfl
  simp [cellsI, cellsU, cellsPs, cellsIs] at h0 h1 h2 h3 h4 h5
  obtain ⟨x0, e0, _, w0⟩ := DataW.trod_int Try.underlying3 h0
  obtain ⟨x1, e1, _, w1⟩ := DataW.trod_int Try.underlying3 h1
  obtain ⟨q2, m2, d2, ps, e2, l2, r2, o2⟩ := pols_reads h2
  obtain ⟨q3, m3, d3, ds, e3, l3, r3, o3⟩ := ints_reads h3
  obtain ⟨x4, e4, _, w4⟩ := DataW.trod_int Try.underlying22 h4
  obtain ⟨x5, e5, _, w5⟩ := DataW.trod_int Try.underlying22 h5
  simp at e0 e1 e4 e5
  subst e0 e1 e2 e3 e4 e5
  exact ⟨(⟨x0, x1, q2, m2, d2, q3, m3, d3, x4, x5⟩, ⟨x0, x1, ps, ds, x4, x5⟩), ⟨⟨⟨rfl, rfl, rfl, rfl⟩, ⟨l2, r2⟩, l3, r3⟩, inty_of_wf w0, inty_of_wf w1, o2, o3, word_of_wf w4, word_of_wf w5⟩, rfl⟩
variable {base : Nat} {v : Value} {d : DataW H} {p : List MemPlace}
theorem open_evs (hv : Value.okWide Try.prog W .any base 59 v) (h : DataW.Trod enc Try.prog W 0 (fun _ => true) true 59 v d p) :
    ∃ (q : Option Addr) (n c : Nat) (xs : List (Eh × Ev)), v = .slice q n c ∧ xs.length = n ∧ RK hl W q c xs ∧ ∀ a ∈ xs, HOk W a := by
  haveI : Inhabited (Eh × Ev) := ⟨(Event.zeroH, zeroE)⟩
  obtain ⟨a, len, cap, rfl⟩ := okWide_slice Try.underlying59 hv
  obtain ⟨fuel, hf⟩ := h
  exact slice_rk hl_len (by decide) Try.underlying59 cellsEv (fun n cs y hl hy => ev_trod hl hy) hf
end
end Go.Proofs.Ytnaofcggdjbocaa.Book
