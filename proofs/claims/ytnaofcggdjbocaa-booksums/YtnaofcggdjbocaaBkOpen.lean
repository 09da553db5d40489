/-
  What a reading hands over of an argument that came in: a book.
-/
import Derived.Test.YtnaofcggdjbocaaPolAll
import Derived.Test.YtnaofcggdjbocaaPolSat
import Derived.Deep.Slices
import Derived.WalkKit
import Derived.ProofKit
import Derived.OpenShut
import Derived.ShutString
import Derived.ChangeOld
import Derived.Below
import Derived.Test.YtnaofcggdjbocaaBkSmall
import Derived.Test.YtnaofcggdjbocaaBkEq
/-
  What a reading hands over of an argument that came in: a policy, a slice of policies, of numbers, two ints.
-/
namespace Go.Proofs.Ytnaofcggdjbocaa.Policy
open Go.ChangeShapes Go.WideShapes Go.ChangeAt Go.RowKit Go.Proofs.Ytnaofcggdjbocaa.Mem Go.Proofs.Ytnaofcggdjbocaa.Addr
set_option linter.unusedVariables false
set_option maxRecDepth 100000

theorem own : ownKnob Try.prog.godebug = none := by kernel_rfl
theorem cells1 : Try.prog.cellsOf 5 = 1 := by kernel_rfl
theorem cellsWord : Try.prog.cellsOf 22 = 1 := by kernel_rfl
theorem cellsPol : Try.prog.cellsOf 47 = 13 := by kernel_rfl
/-- A network's cells. -/
def ncl (k : Nat × Int) : List Value := [.int .u8 (b0 k.1), .int .u8 (b1 k.1), .int .u8 (b2 k.1), .int .u8 (b3 k.1), .int .i64 k.2]
theorem list4 {α : Type} (l : List α) (h : l.length = 4) : ∃ c0 c1 c2 c3, l = [c0, c1, c2, c3] := by
  match l, h with
  | [c0, c1, c2, c3], _ => exact ⟨c0, c1, c2, c3, rfl⟩
theorem list2 {α : Type} (l : List α) (h : l.length = 2) : ∃ c0 c1, l = [c0, c1] := by
  match l, h with
  | [c0, c1], _ => exact ⟨c0, c1, rfl⟩
theorem list5 {α : Type} (l : List α) (h : l.length = 5) : ∃ c0 c1 c2 c3 c4, l = [c0, c1, c2, c3, c4] := by
  match l, h with
  | [c0, c1, c2, c3, c4], _ => exact ⟨c0, c1, c2, c3, c4, rfl⟩
theorem list9 {α : Type} (l : List α) (h : l.length = 9) : ∃ c0 c1 c2 c3 c4 c5 c6 c7 c8, l = [c0, c1, c2, c3, c4, c5, c6, c7, c8] := by
  match l, h with
  | [c0, c1, c2, c3, c4, c5, c6, c7, c8], _ => exact ⟨c0, c1, c2, c3, c4, c5, c6, c7, c8, rfl⟩
theorem list13 {α : Type} (l : List α) (h : l.length = 13) : ∃ c0 c1 c2 c3 c4 c5 c6 c7 c8 c9 c10 c11 c12, l = [c0, c1, c2, c3, c4, c5, c6, c7, c8, c9, c10, c11, c12] := by
  match l, h with
  | [c0, c1, c2, c3, c4, c5, c6, c7, c8, c9, c10, c11, c12], _ => exact ⟨c0, c1, c2, c3, c4, c5, c6, c7, c8, c9, c10, c11, c12, rfl⟩
section
variable {H : Type} {enc : TypeId × Value → H} {W : World} {fuel : Nat}
theorem ints4 {c0 c1 c2 c3 : Value} {x : DataW H × List MemPlace} (hf : DataW.trod enc Try.prog W 0 (fun _ => true) true fuel 43 [c0, c1, c2, c3] = some x) :
    ∃ N : Nat, N < 4294967296 ∧ c0 = .int .u8 (b0 N) ∧ c1 = .int .u8 (b1 N) ∧ c2 = .int .u8 (b2 N) ∧ c3 = .int .u8 (b3 N) := by
  obtain ⟨ys, m, _, hx, _, hl, hy⟩ := DataW.trod_array Try.underlying43 hf
  obtain ⟨y0, y1, y2, y3, rfl⟩ := list4 ys hl
  have h0 := hy 0 (by omega)
  have h1 := hy 1 (by omega)
  have h2 := hy 2 (by omega)
  have h3 := hy 3 (by omega)
  simp [cells1] at h0 h1 h2 h3
  obtain ⟨x0, e0, _, w0⟩ := DataW.trod_int Try.underlying5 h0
  obtain ⟨x1, e1, _, w1⟩ := DataW.trod_int Try.underlying5 h1
  obtain ⟨x2, e2, _, w2⟩ := DataW.trod_int Try.underlying5 h2
  obtain ⟨x3, e3, _, w3⟩ := DataW.trod_int Try.underlying5 h3
  simp at e0 e1 e2 e3
  have y0 := byte_of_wf w0
  have y1 := byte_of_wf w1
  have y2 := byte_of_wf w2
  have y3 := byte_of_wf w3
  obtain ⟨z0, rfl⟩ := Int.eq_ofNat_of_zero_le y0.1
  obtain ⟨z1, rfl⟩ := Int.eq_ofNat_of_zero_le y1.1
  obtain ⟨z2, rfl⟩ := Int.eq_ofNat_of_zero_le y2.1
  obtain ⟨z3, rfl⟩ := Int.eq_ofNat_of_zero_le y3.1
  have q0 : z0 < 256 := by have := y0.2; omega
  have q1 : z1 < 256 := by have := y1.2; omega
  have q2 : z2 < 256 := by have := y2.2; omega
  have q3 : z3 < 256 := by have := y3.2; omega
  obtain ⟨f0, f1, f2, f3⟩ := num_bytes q0 q1 q2 q3
  exact ⟨z0 * 16777216 + z1 * 65536 + z2 * 256 + z3, by omega, by rw [f0]; exact e0, by rw [f1]; exact e1, by rw [f2]; exact e2, by rw [f3]; exact e3⟩
theorem net_trod {cs : List Value} {x : DataW H × List MemPlace} (hl : cs.length = 5) (hf : DataW.trod enc Try.prog W 0 (fun _ => true) true fuel 45 cs = some x) :
    ∃ k : Nat × Int, NOk k ∧ cs = ncl k := by
  obtain ⟨c0, c1, c2, c3, c4, rfl⟩ := list5 cs hl
  obtain ⟨ys, n, _, _, _, hlen, hfs⟩ := DataW.trod_struct Try.underlying45 hf
  obtain ⟨y0, y1, rfl⟩ := list2 ys hlen
  have h0 := hfs 0 _ rfl
  have h1 := hfs 1 _ rfl
  simp [cellsAdr, cellsInt] at h0 h1
  obtain ⟨N, hN, e0, e1, e2, e3⟩ := ints4 h0
  obtain ⟨x4, e4, _, w4⟩ := DataW.trod_int Try.underlying3 h1
  simp at e4
  subst e0 e1 e2 e3 e4
  exact ⟨(N, x4), ⟨hN, inty_of_wf w4⟩, rfl⟩
theorem pol_trod {cs : List Value} {x : DataW H × List MemPlace} (hl : cs.length = 13) (hf : DataW.trod enc Try.prog W 0 (fun _ => true) true fuel 47 cs = some x) :
    ∃ p : Po, PoOk p ∧ cs = pl p := by
  obtain ⟨c0, c1, c2, c3, c4, c5, c6, c7, c8, c9, c10, c11, c12, rfl⟩ := list13 cs hl
  obtain ⟨ys, n, _, _, _, hlen, hfs⟩ := DataW.trod_struct Try.underlying47 hf
  obtain ⟨y0, y1, y2, y3, y4, y5, y6, y7, y8, rfl⟩ := list9 ys hlen
  have h0 := hfs 0 _ rfl
  have h1 := hfs 1 _ rfl
  have h2 := hfs 2 _ rfl
  have h3 := hfs 3 _ rfl
  have h4 := hfs 4 _ rfl
  have h5 := hfs 5 _ rfl
  have h6 := hfs 6 _ rfl
  have h7 := hfs 7 _ rfl
  have h8 := hfs 8 _ rfl
  simp [cellsInt, cellsNet, cellsWord] at h0 h1 h2 h3 h4 h5 h6 h7 h8
  obtain ⟨x0, e0, _, w0⟩ := DataW.trod_int Try.underlying3 h0
  obtain ⟨k, hk, e1⟩ := net_trod rfl h1
  obtain ⟨x2, e2, _, w2⟩ := DataW.trod_int Try.underlying22 h2
  obtain ⟨x3, e3, _, w3⟩ := DataW.trod_int Try.underlying22 h3
  obtain ⟨x4, e4, _, w4⟩ := DataW.trod_int Try.underlying22 h4
  obtain ⟨x5, e5, _, w5⟩ := DataW.trod_int Try.underlying22 h5
  obtain ⟨x6, e6, _, w6⟩ := DataW.trod_int Try.underlying22 h6
  obtain ⟨x7, e7, _, w7⟩ := DataW.trod_int Try.underlying22 h7
  obtain ⟨x8, e8, _, w8⟩ := DataW.trod_int Try.underlying22 h8
  simp [ncl] at e0 e1 e2 e3 e4 e5 e6 e7 e8
  obtain ⟨g0, g1, g2, g3, g4⟩ := e1
  have v2 := word_of_wf w2
  obtain ⟨n2, rfl⟩ := Int.eq_ofNat_of_zero_le v2.1
  have u2 := v2.2
  have v3 := word_of_wf w3
  obtain ⟨n3, rfl⟩ := Int.eq_ofNat_of_zero_le v3.1
  have u3 := v3.2
  have v4 := word_of_wf w4
  obtain ⟨n4, rfl⟩ := Int.eq_ofNat_of_zero_le v4.1
  have u4 := v4.2
  have v5 := word_of_wf w5
  obtain ⟨n5, rfl⟩ := Int.eq_ofNat_of_zero_le v5.1
  have u5 := v5.2
  have v6 := word_of_wf w6
  obtain ⟨n6, rfl⟩ := Int.eq_ofNat_of_zero_le v6.1
  have u6 := v6.2
  have v7 := word_of_wf w7
  obtain ⟨n7, rfl⟩ := Int.eq_ofNat_of_zero_le v7.1
  have u7 := v7.2
  have v8 := word_of_wf w8
  obtain ⟨n8, rfl⟩ := Int.eq_ofNat_of_zero_le v8.1
  have u8 := v8.2
  subst e0 g0 g1 g2 g3 g4 e2 e3 e4 e5 e6 e7 e8
  exact ⟨⟨x0, k.1, k.2, n2, n3, n4, n5, n6, n7, n8⟩, ⟨inty_of_wf w0, hk.1, hk.2, by simp only; omega, by simp only; omega, by simp only; omega, by simp only; omega, by simp only; omega, by simp only; omega, by simp only; omega⟩, rfl⟩
/-- A slice of whatever can be read. -/
theorem slice_rk {α : Type} [Inhabited α] {enc2 : α → List Value} {k : Nat} {t e : TypeId} {v : Value} {x : DataW H × List MemPlace} {ok : α → Prop} (hk : ∀ x, (enc2 x).length = k) (h0 : 0 < k) (ht : Try.prog.underlying t = some (.slice e)) (hc : Try.prog.cellsOf e = k)
    (hel : ∀ (n : Nat) (cs : List Value) (y : DataW H × List MemPlace), cs.length = k → DataW.trod enc Try.prog W 0 (fun _ => true) true n e cs = some y → ∃ a : α, ok a ∧ cs = enc2 a)
    (hf : DataW.trod enc Try.prog W 0 (fun _ => true) true fuel t [v] = some x) :
    ∃ (q : Option Addr) (n c : Nat) (xs : List α), v = .slice q n c ∧ xs.length = n ∧ RK enc2 W q c xs ∧ ∀ a ∈ xs, ok a := by
  rcases Deep.open_slice ht hf with ⟨hcs, _⟩ | ⟨a, len, cap, m, n, D, Pl, hcs, _, hl, hm, hmm, _, hx⟩
  · simp at hcs
    exact ⟨none, 0, 0, [], hcs, rfl, RK.nil _ _, by simp⟩
  · simp at hcs hmm
    subst hmm
    rw [hc] at hx
    have key : ∀ i, i < m → ∃ u : α, ok u ∧ ∀ j v, (enc2 u)[j]? = some v → W.cell? (a.add (i * k + j)) = some v := fun i hi => by
      obtain ⟨cs', h1, h2⟩ := hx i hi
      obtain ⟨_, hlen, hcell⟩ := World.cells?_some h1
      obtain ⟨u, hu, rfl⟩ := hel n cs' _ hlen h2
      refine ⟨u, hu, fun j v hj => ?_⟩
      have hjl : j < k := by have := (List.getElem?_eq_some_iff.1 hj).1; rw [hk] at this; exact this
      rw [← Deep.add_add, hcell j hjl, hj]
    obtain ⟨f, hfa⟩ := Deep.choose_lt (α := α) key
    refine ⟨some a, len, m, (List.range len).map f, hcs, by simp, ⟨by simpa using hl, hm, fun h => by simp at h, fun hz => ?_⟩, fun u hu => ?_⟩
    · simp only [List.length_map, List.length_range] at hz
      have h00 := (hfa 0 (by omega)).2 0 _ (List.getElem?_eq_getElem (by rw [hk]; exact h0))
      obtain ⟨bb, o, s⟩ := a
      obtain rfl : s = none := by simpa [Addr.add] using World.cell?_spot h00
      refine ⟨bb, o, rfl, by have := World.block_lt_of_cell? W _ h00; simpa [Addr.add_lit] using this, fun j v hv => ?_⟩
      have hjl : j < len * k := by have := (List.getElem?_eq_some_iff.1 hv).1; rw [len_flat hk] at this; simpa using this
      have hq : j / k < len := Nat.div_lt_of_lt_mul (by rw [Nat.mul_comm]; exact hjl)
      have hr : j % k < k := Nat.mod_lt _ h0
      have e := get_flat hk ((List.range len).map f) (j / k) (j % k) (f (j / k)) (by simp [hq]) hr
      have ej : j / k * k + j % k = j := by rw [Nat.mul_comm]; exact Nat.div_add_mod j k
      rw [ej, hv] at e
      have := (hfa (j / k) (by omega)).2 (j % k) v e.symm
      rw [ej, Addr.add_lit] at this
      exact this
    · obtain ⟨i, hi, rfl⟩ := List.mem_map.1 hu
      exact (hfa i (by have := List.mem_range.1 hi; omega)).1
theorem open_pols {base : Nat} {v : Value} {d : DataW H} {p : List MemPlace} (hv : Value.okWide Try.prog W .any base 29 v) (h : DataW.Trod enc Try.prog W 0 (fun _ => true) true 29 v d p) :
    ∃ (q : Option Addr) (n c : Nat) (xs : List Po), v = .slice q n c ∧ xs.length = n ∧ RK pl W q c xs ∧ ∀ k ∈ xs, PoOk k := by
  obtain ⟨a, len, cap, rfl⟩ := okWide_slice Try.underlying29 hv
  obtain ⟨fuel, hf⟩ := h
  haveI : Inhabited Po := ⟨zeroP⟩
  exact slice_rk pl_len (by decide) Try.underlying29 cellsPol (fun n cs y hl hy => pol_trod hl hy) hf
theorem open_pol {base : Nat} {v : Value} {d : DataW H} {p : List MemPlace} (hv : Value.okWide Try.prog W .any base 47 v) (h : DataW.Trod enc Try.prog W 0 (fun _ => true) true 47 v d p) :
    ∃ p : Po, v = pv p ∧ PoOk p := by
  obtain ⟨cs, rfl, hsz⟩ := okWide_struct Try.underlying47 hv
  rw [cellsPol] at hsz
  obtain ⟨l⟩ := cs
  obtain ⟨fuel, hf⟩ := h
  obtain ⟨k, hk, e⟩ := pol_trod (cs := l) (by simpa using hsz) hf
  exact ⟨k, by rw [e]; rfl, hk⟩
section
variable {base : Nat} {v : Value} {d : DataW H} {p : List MemPlace}
theorem words_reads {v : Value} {x : DataW H × List MemPlace} (hf : DataW.trod enc Try.prog W 0 (fun _ => true) true fuel 65 [v] = some x) :
    ∃ (q : Option Addr) (n c : Nat) (xs : List Int), v = .slice q n c ∧ xs.length = n ∧ Reads .u64 W q c xs ∧ ∀ b ∈ xs, Word b := by
  rcases open_ints Try.underlying65 Try.underlying22 cellsWord hf with ⟨hcs, _⟩ | ⟨a, l, c, zs, hcs, _, hl, hm, hz, _, hcell, hwz⟩
  · simp at hcs
    exact ⟨none, 0, 0, [], hcs, rfl, Reads.nil _ _, by simp⟩
  · simp at hcs
    obtain ⟨ys, hl2, hr, hw⟩ := row_reads (w := W) (a := some a) (len := l) (cap := c) (zs := zs) (.inr ⟨a, rfl, hl, hm, by simpa using hz, hcell, hwz⟩)
    exact ⟨some a, l, c, ys, hcs, hl2, hr, fun b hb => word_of_wf (hw b hb)⟩
theorem open_us (hv : Value.okWide Try.prog W .any base 65 v) (h : DataW.Trod enc Try.prog W 0 (fun _ => true) true 65 v d p) :
    ∃ (q : Option Addr) (n c : Nat) (xs : List Int), v = .slice q n c ∧ xs.length = n ∧ Reads .u64 W q c xs ∧ ∀ x ∈ xs, Word x := by
  obtain ⟨a, len, cap, rfl⟩ := okWide_slice Try.underlying65 hv
  obtain ⟨fuel, hf⟩ := h
  exact words_reads hf
end
end
end Go.Proofs.Ytnaofcggdjbocaa.Policy
/-
  What a reading hands over of an argument that came in: an event, a slice of bytes.
-/
namespace Go.Proofs.Ytnaofcggdjbocaa.Event
open Go.ChangeShapes Go.WideShapes Go.ChangeAt Go.RowKit Go.Proofs.Ytnaofcggdjbocaa.Mem Go.Proofs.Ytnaofcggdjbocaa.Policy
set_option linter.unusedVariables false
set_option maxRecDepth 100000

theorem cellsOne : Try.prog.cellsOf 5 = 1 := by kernel_rfl
theorem cellsI : Try.prog.cellsOf 3 = 1 := by kernel_rfl
theorem cellsU : Try.prog.cellsOf 22 = 1 := by kernel_rfl
theorem cellsPs : Try.prog.cellsOf 29 = 1 := by kernel_rfl
theorem cellsIs : Try.prog.cellsOf 30 = 1 := by kernel_rfl
theorem cellsEv : Try.prog.cellsOf 32 = 6 := by kernel_rfl
theorem list6 {α : Type} (l : List α) (h : l.length = 6) : ∃ c0 c1 c2 c3 c4 c5, l = [c0, c1, c2, c3, c4, c5] := by
  match l, h with
  | [c0, c1, c2, c3, c4, c5], _ => exact ⟨c0, c1, c2, c3, c4, c5, rfl⟩
section
variable {H : Type} {enc : TypeId × Value → H} {W : World} {fuel : Nat}
theorem bytes_reads {v : Value} {x : DataW H × List MemPlace} (hf : DataW.trod enc Try.prog W 0 (fun _ => true) true fuel 37 [v] = some x) :
    ∃ (q : Option Addr) (n c : Nat) (xs : List Int), v = .slice q n c ∧ xs.length = n ∧ Reads .u8 W q c xs ∧ ∀ b ∈ xs, Byte b := by
  rcases open_ints Try.underlying37 Try.underlying5 cellsOne hf with ⟨hcs, _⟩ | ⟨a, l, c, zs, hcs, _, hl, hm, hz, _, hcell, hwz⟩
  · simp at hcs
    exact ⟨none, 0, 0, [], hcs, rfl, Reads.nil _ _, by simp⟩
  · simp at hcs
    obtain ⟨ys, hl2, hr, hw⟩ := row_reads (w := W) (a := some a) (len := l) (cap := c) (zs := zs) (.inr ⟨a, rfl, hl, hm, by simpa using hz, hcell, hwz⟩)
    exact ⟨some a, l, c, ys, hcs, hl2, hr, fun b hb => byte_of_wf (hw b hb)⟩
theorem ints_reads {v : Value} {x : DataW H × List MemPlace} (hf : DataW.trod enc Try.prog W 0 (fun _ => true) true fuel 30 [v] = some x) :
    ∃ (q : Option Addr) (n c : Nat) (xs : List Int), v = .slice q n c ∧ xs.length = n ∧ Reads .i64 W q c xs ∧ ∀ b ∈ xs, Inty b := by
  rcases open_ints Try.underlying30 Try.underlying3 cellsI hf with ⟨hcs, _⟩ | ⟨a, l, c, zs, hcs, _, hl, hm, hz, _, hcell, hwz⟩
  · simp at hcs
    exact ⟨none, 0, 0, [], hcs, rfl, Reads.nil _ _, by simp⟩
  · simp at hcs
    obtain ⟨ys, hl2, hr, hw⟩ := row_reads (w := W) (a := some a) (len := l) (cap := c) (zs := zs) (.inr ⟨a, rfl, hl, hm, by simpa using hz, hcell, hwz⟩)
    exact ⟨some a, l, c, ys, hcs, hl2, hr, fun b hb => inty_of_wf (hw b hb)⟩
theorem pols_reads {v : Value} {x : DataW H × List MemPlace} (hf : DataW.trod enc Try.prog W 0 (fun _ => true) true fuel 29 [v] = some x) :
    ∃ (q : Option Addr) (n c : Nat) (xs : List Po), v = .slice q n c ∧ xs.length = n ∧ RK pl W q c xs ∧ ∀ k ∈ xs, PoOk k := by
  haveI : Inhabited Po := ⟨zeroP⟩
  exact slice_rk pl_len (by decide) Try.underlying29 cellsPol (fun n cs y hl hy => pol_trod hl hy) hf
variable {base : Nat} {v : Value} {d : DataW H} {p : List MemPlace}
theorem open_bytes (hv : Value.okWide Try.prog W .any base 37 v) (h : DataW.Trod enc Try.prog W 0 (fun _ => true) true 37 v d p) :
    ∃ (q : Option Addr) (n c : Nat) (xs : List Int), v = .slice q n c ∧ xs.length = n ∧ Reads .u8 W q c xs ∧ ∀ b ∈ xs, Byte b := by
  obtain ⟨a, len, cap, rfl⟩ := okWide_slice Try.underlying37 hv
  obtain ⟨fuel, hf⟩ := h
  exact bytes_reads hf
theorem open_ev (hv : Value.okWide Try.prog W .any base 32 v) (h : DataW.Trod enc Try.prog W 0 (fun _ => true) true 32 v d p) :
    ∃ (h : Eh) (e : Ev), v = ev h ∧ Is W h e ∧ EvOk e := by
  obtain ⟨cs, rfl, hsz⟩ := okWide_struct Try.underlying32 hv
  rw [cellsEv] at hsz
  obtain ⟨l⟩ := cs
  obtain ⟨c0, c1, c2, c3, c4, c5, rfl⟩ := list6 l hsz
  obtain ⟨fuel, hf⟩ := h
  obtain ⟨ys, n, _, _, _, hlen, hfs⟩ := DataW.trod_struct Try.underlying32 hf
  obtain ⟨y0, y1, y2, y3, y4, y5, rfl⟩ := list6 ys hlen
  have h0 := hfs 0 _ rfl
  have h1 := hfs 1 _ rfl
  have h2 := hfs 2 _ rfl
  have h3 := hfs 3 _ rfl
  have h4 := hfs 4 _ rfl
  have h5 := hfs 5 _ rfl
  simp [Value.cells, cellsI, cellsU, cellsPs, cellsIs] at h0 h1 h2 h3 h4 h5
  obtain ⟨x0, e0, _, w0⟩ := DataW.trod_int Try.underlying3 h0
  obtain ⟨x1, e1, _, w1⟩ := DataW.trod_int Try.underlying3 h1
  obtain ⟨q2, m2, d2, ps, e2, l2, r2, o2⟩ := pols_reads h2
  obtain ⟨q3, m3, d3, ds, e3, l3, r3, o3⟩ := ints_reads h3
  obtain ⟨x4, e4, _, w4⟩ := DataW.trod_int Try.underlying22 h4
  obtain ⟨x5, e5, _, w5⟩ := DataW.trod_int Try.underlying22 h5
  simp at e0 e1 e4 e5
  subst e0 e1 e2 e3 e4 e5
  exact ⟨⟨x0, x1, q2, m2, d2, q3, m3, d3, x4, x5⟩, ⟨x0, x1, ps, ds, x4, x5⟩, rfl, ⟨⟨rfl, rfl, rfl, rfl⟩, ⟨l2, r2⟩, l3, r3⟩, inty_of_wf w0, inty_of_wf w1, o2, o3, word_of_wf w4, word_of_wf w5⟩
end
end Go.Proofs.Ytnaofcggdjbocaa.Event
namespace Go.Proofs.Ytnaofcggdjbocaa.Book
open Go.ChangeShapes Go.WideShapes Go.ChangeAt Go.RowKit Go.Proofs.Ytnaofcggdjbocaa.Mem Go.Proofs.Ytnaofcggdjbocaa.Policy Go.Proofs.Ytnaofcggdjbocaa.Event
set_option linter.unusedVariables false
set_option maxRecDepth 100000

theorem cellsEnt : Try.prog.cellsOf 49 = 14 := by kernel_rfl
theorem cellsEnts : Try.prog.cellsOf 23 = 1 := by kernel_rfl
theorem cellsBk : Try.prog.cellsOf 25 = 2 := by kernel_rfl
theorem list14 {α : Type} (l : List α) (h : l.length = 14) : ∃ c0 c1 c2 c3 c4 c5 c6 c7 c8 c9 c10 c11 c12 c13, l = [c0, c1, c2, c3, c4, c5, c6, c7, c8, c9, c10, c11, c12, c13] := by
  match l, h with
  | [c0, c1, c2, c3, c4, c5, c6, c7, c8, c9, c10, c11, c12, c13], _ => exact ⟨c0, c1, c2, c3, c4, c5, c6, c7, c8, c9, c10, c11, c12, c13, rfl⟩
section
variable {H : Type} {enc : TypeId × Value → H} {W : World} {fuel : Nat}
theorem en_trod {cs : List Value} {x : DataW H × List MemPlace} (hl : cs.length = 14) (hf : DataW.trod enc Try.prog W 0 (fun _ => true) true fuel 49 cs = some x) :
    ∃ e : En, EnOk e ∧ cs = nl e := by
  obtain ⟨c0, c1, c2, c3, c4, c5, c6, c7, c8, c9, c10, c11, c12, c13, rfl⟩ := list14 cs hl
  obtain ⟨ys, n, _, _, _, hlen, hfs⟩ := DataW.trod_struct Try.underlying49 hf
  obtain ⟨y0, y1, rfl⟩ := Policy.list2 ys hlen
  have h0 := hfs 0 _ rfl
  have h1 := hfs 1 _ rfl
  simp [cellsPol, cellsU] at h0 h1
  obtain ⟨p, op, e0⟩ := pol_trod rfl h0
  obtain ⟨x1, e1, _, w1⟩ := DataW.trod_int Try.underlying22 h1
  simp at e1
  refine ⟨⟨p, x1⟩, ⟨op, word_of_wf w1⟩, ?_⟩
  unfold nl
  rw [← e0, e1]
  rfl
theorem ents_reads {v : Value} {x : DataW H × List MemPlace} (hf : DataW.trod enc Try.prog W 0 (fun _ => true) true fuel 23 [v] = some x) :
    ∃ (q : Option Addr) (n c : Nat) (xs : List En), v = .slice q n c ∧ xs.length = n ∧ RK nl W q c xs ∧ ∀ k ∈ xs, EnOk k := by
  haveI : Inhabited En := ⟨zeroN⟩
  exact slice_rk len_en (by decide) Try.underlying23 cellsEnt (fun n cs y hl hy => en_trod hl hy) hf
variable {base : Nat} {v : Value} {d : DataW H} {p : List MemPlace}
theorem open_i (hv : Value.okWide Try.prog W .any base 3 v) (h : DataW.Trod enc Try.prog W 0 (fun _ => true) true 3 v d p) :
    ∃ x : Int, v = .int .i64 x ∧ Inty x := by
  obtain ⟨x, rfl, -, -, w⟩ := open_int Try.underlying3 hv h
  exact ⟨x, rfl, inty_of_wf w⟩
theorem open_u (hv : Value.okWide Try.prog W .any base 22 v) (h : DataW.Trod enc Try.prog W 0 (fun _ => true) true 22 v d p) :
    ∃ x : Int, v = .int .u64 x ∧ Word x := by
  obtain ⟨x, rfl, -, -, w⟩ := open_int Try.underlying22 hv h
  exact ⟨x, rfl, word_of_wf w⟩
theorem open_bk (hv : Value.okWide Try.prog W .any base 25 v) (h : DataW.Trod enc Try.prog W 0 (fun _ => true) true 25 v d p) :
    ∃ (h : Bh) (b : Bk), v = bv h ∧ IsB W h b ∧ BkOk b := by
  obtain ⟨cs, rfl, hsz⟩ := okWide_struct Try.underlying25 hv
  rw [cellsBk] at hsz
  obtain ⟨l⟩ := cs
  obtain ⟨c0, c1, rfl⟩ := Policy.list2 l hsz
  obtain ⟨fuel, hf⟩ := h
  obtain ⟨ys, n, _, _, _, hlen, hfs⟩ := DataW.trod_struct Try.underlying25 hf
  obtain ⟨y0, y1, rfl⟩ := Policy.list2 ys hlen
  have h0 := hfs 0 _ rfl
  have h1 := hfs 1 _ rfl
  simp [Value.cells, cellsU, cellsEnts] at h0 h1
  obtain ⟨x0, e0, _, w0⟩ := DataW.trod_int Try.underlying22 h0
  obtain ⟨q, n, c, es, e1, l1, r1, o1⟩ := ents_reads h1
  simp at e0
  subst e0 e1
  exact ⟨⟨x0, q, n, c⟩, ⟨x0, es⟩, rfl, ⟨rfl, l1, r1⟩, word_of_wf w0, o1⟩
end
end Go.Proofs.Ytnaofcggdjbocaa.Book
