/-
  What a reading hands over of an argument that came in: a slice of bools, a slice of acts.
-/
import Derived.Test.YthgafnommcodcaaDiskAlive
import Derived.Deep.Slices
import Derived.WalkKit
import Derived.ProofKit
import Derived.OpenShut
import Derived.ShutString
import Derived.ChangeOld
import Derived.Below
import Derived.Handed
namespace Go.Proofs.Ythgafnommcodcaa.Disk
open Go.ChangeShapes Go.WideShapes Go.ChangeAt Go.RowKit Go.Proofs.Ythgafnommcodcaa.Mem Go.Proofs.Ythgafnommcodcaa.Sect
open Go.Proofs.Ythgafnommcodcaa.Frame (Sec zero)
set_option linter.unusedVariables false
set_option maxRecDepth 100000

theorem own : ownKnob Try.prog.godebug = none := by kernel_rfl
theorem laidOut : laidOutB Try.prog = true := by kernel_rfl
theorem cellsBool : Try.prog.cellsOf 4 = 1 := by kernel_rfl
theorem cellsByte : Try.prog.cellsOf 5 = 1 := by kernel_rfl
theorem cellsInt : Try.prog.cellsOf 3 = 1 := by kernel_rfl
theorem cellsBools : Try.prog.cellsOf 45 = 1 := by kernel_rfl
/-- An act: its kind, its place, its byte, which writes stay. -/
abbrev Ac := Int × Int × Int × Option Addr × Nat × Nat
def ac (a : Ac) : List Value := [.int .i64 a.1, .int .i64 a.2.1, .int .u8 a.2.2.1, .slice a.2.2.2.1 a.2.2.2.2.1 a.2.2.2.2.2]
theorem ac_len (a : Ac) : (ac a).length = 4 := rfl
def AcOk (w : World) (a : Ac) : Prop := Inty a.1 ∧ Inty a.2.1 ∧ ∃ ks : List Bool, ks.length = a.2.2.2.2.1 ∧ ks.length ≤ 140737488351232 ∧ RK bc w a.2.2.2.1 a.2.2.2.2.2 ks
theorem list4 {α : Type} (l : List α) (h : l.length = 4) : ∃ c0 c1 c2 c3, l = [c0, c1, c2, c3] := by
  match l, h with
  | [c0, c1, c2, c3], _ => exact ⟨c0, c1, c2, c3, rfl⟩
section
variable {H : Type} {enc : TypeId × Value → H} {W : World} {fuel : Nat}
/-- The wrap with what the form says of how much an input takes up handed on. -/
theorem handed_sized {a : Assume} {C : Checked} {os : Os} {f : FuncId} {fn : Func} {s : ChangeSpec} {conds : List PathCond} {apart fresh handsOn again : Bool}
    (own : ownKnob C.prog.godebug = none) (started : os.Started) (noInit : C.prog.inits.idxOf? f = none) (hfn : C.prog.funcs[f]? = some fn)
    (witness : ∃ (w : World) (tape : Tape) (i : Input), w.os = os ∧ (w.forCall tape i).Shaped C.prog ∧ i.vars = [] ∧ Input.okWide C.prog (w.forCall tape i) .any w.heap.size f i ∧
      s.pre6 enc C.prog fn conds apart (w.forCall tape i).memory i.args ∧ a.holds C.prog (lone (Frame.enter C.prog f i.args .normal) [] (w.forCall tape i)))
    (contract : ∀ (W : World) (base : Nat) (args : Array Value) (ds gs : List (DataW H)) (before : List MemPlace),
      (∀ (j : Nat) t v, fn.params[j]? = some t → args[j]? = some v → Value.okWide C.prog W .any base t v) →
      DataW.Whole enc C.prog fn.params.toList s.vars apart W args.toList ds gs before →
      conds.all (PathCond.test C.prog ⟨fn.params.toList, ds, s.plain.varTypes C.prog, gs⟩) = true →
      (DataW.weightsEach C.prog (fn.params.toList ++ s.plain.varTypes C.prog) (ds ++ gs)).all (· ≤ reachBytes) = true →
      Calls C.prog f args W fun e W' => ∃ v, e = .returned v ∧ s.post enc C.prog fn apart fresh handsOn again W args v W') :
    ReturnsInHanded a C os f .any (s.pre6 enc C.prog fn conds apart) (s.post enc C.prog fn apart fresh handsOn again) := by
  refine returnsInHanded_of_calls own started noInit witness ?_
  intro w tape i _ _ _ hok hpre hholds
  obtain ⟨_, _, _, fn', hfn', _, _, _, _, hval⟩ := hok
  have e : fn' = fn := Option.some.inj (hfn'.symm.trans hfn)
  subst e
  obtain ⟨⟨ds, gs, before, hw, hc⟩, hz⟩ := hpre
  have hw' := DataW.Whole.of_heap (w' := w.forCall tape i) (by rfl) hw
  refine (contract (w.forCall tape i) w.heap.size i.args ds gs before hval hw' hc (hz.weights hw)).mono fun e W' ⟨v, he, hp⟩ => ?_
  subst he
  exact ChangeSpec.post_blind hp
/-- A slice of whatever can be read. -/
theorem slice_rk {α : Type} [Inhabited α] {enc2 : α → List Value} {k : Nat} {t e : TypeId} {v : Value} {x : DataW H × List MemPlace} {ok : α → Prop} (hk : ∀ x, (enc2 x).length = k) (h0 : 0 < k) (ht : Try.prog.underlying t = some (.slice e)) (hc : Try.prog.cellsOf e = k)
    (hel : ∀ (n : Nat) (cs : List Value) (y : DataW H × List MemPlace), cs.length = k → DataW.trod enc Try.prog W 0 (fun _ => true) true n e cs = some y → ∃ a : α, ok a ∧ cs = enc2 a)
    (hf : DataW.trod enc Try.prog W 0 (fun _ => true) true fuel t [v] = some x) :
    ∃ (q : Option Addr) (n c : Nat) (xs : List α), v = .slice q n c ∧ xs.length = n ∧ RK enc2 W q c xs ∧ ∀ a ∈ xs, ok a := by
  rcases Deep.open_slice ht hf with ⟨hcs, _⟩ | ⟨a, len, cap, m, n, D, Pl, hcs, _, hl, hm, hmm, _, hx⟩
  · simp at hcs
    exact ⟨none, 0, 0, [], hcs, rfl, RK.nil _ _, by simp⟩
  · simp at hcs hmm
    subst hmm
    rw [hc] at hx
    have key : ∀ i, i < m → ∃ u : α, ok u ∧ ∀ j v, (enc2 u)[j]? = some v → W.cell? (a.add (i * k + j)) = some v := fun i hi => by
      obtain ⟨cs', h1, h2⟩ := hx i hi
      obtain ⟨_, hlen, hcell⟩ := World.cells?_some h1
      obtain ⟨u, hu, rfl⟩ := hel n cs' _ hlen h2
      refine ⟨u, hu, fun j v hj => ?_⟩
      have hjl : j < k := by have := (List.getElem?_eq_some_iff.1 hj).1; rw [hk] at this; exact this
      rw [← Deep.add_add, hcell j hjl, hj]
    obtain ⟨f, hfa⟩ := Deep.choose_lt (α := α) key
    refine ⟨some a, len, m, (List.range len).map f, hcs, by simp, ⟨by simpa using hl, hm, fun h => by simp at h, fun hz => ?_⟩, fun u hu => ?_⟩
    · simp only [List.length_map, List.length_range] at hz
      have h00 := (hfa 0 (by omega)).2 0 _ (List.getElem?_eq_getElem (by rw [hk]; exact h0))
      obtain ⟨bb, o, s⟩ := a
      obtain rfl : s = none := by simpa [Addr.add] using World.cell?_spot h00
      refine ⟨bb, o, rfl, by have := World.block_lt_of_cell? W _ h00; simpa [Addr.add_lit] using this, fun j v hv => ?_⟩
      have hjl : j < len * k := by have := (List.getElem?_eq_some_iff.1 hv).1; rw [len_flat hk] at this; simpa using this
      have hq : j / k < len := Nat.div_lt_of_lt_mul (by rw [Nat.mul_comm]; exact hjl)
      have hr : j % k < k := Nat.mod_lt _ h0
      have e := get_flat hk ((List.range len).map f) (j / k) (j % k) (f (j / k)) (by simp [hq]) hr
      have ej : j / k * k + j % k = j := by rw [Nat.mul_comm]; exact Nat.div_add_mod j k
      rw [ej, hv] at e
      have := (hfa (j / k) (by omega)).2 (j % k) v e.symm
      rw [ej, Addr.add_lit] at this
      exact this
    · obtain ⟨i, hi, rfl⟩ := List.mem_map.1 hu
      exact (hfa i (by have := List.mem_range.1 hi; omega)).1
theorem mem_weightsAll {P : Program} {e : TypeId} : ∀ {l : List (DataW H)} {d : DataW H} {n : Nat}, d ∈ l → n ∈ d.weights P e → n ∈ DataW.weightsAll P e l
  | [], d, n, h, _ => by cases h
  | x :: r, d, n, h, hn => by
    unfold DataW.weightsAll
    rcases List.mem_cons.1 h with rfl | h
    · exact List.mem_append_left _ hn
    · exact List.mem_append_right _ (mem_weightsAll h hn)
/-- The same with what the form says of how much an input takes up. -/
theorem slice_rkw {α : Type} [Inhabited α] {enc2 : α → List Value} {k : Nat} {t e : TypeId} {v : Value} {x : DataW H × List MemPlace} {ok : α → Prop} (hk : ∀ x, (enc2 x).length = k) (h0 : 0 < k) (ht : Try.prog.underlying t = some (.slice e)) (hc : Try.prog.cellsOf e = k)
    (hel : ∀ (n : Nat) (cs : List Value) (y : DataW H × List MemPlace), cs.length = k → DataW.trod enc Try.prog W 0 (fun _ => true) true n e cs = some y → (∀ m ∈ y.1.weights Try.prog e, m ≤ reachBytes) → ∃ a : α, ok a ∧ cs = enc2 a)
    (hf : DataW.trod enc Try.prog W 0 (fun _ => true) true fuel t [v] = some x) (hw : ∀ m ∈ x.1.weights Try.prog t, m ≤ reachBytes) :
    ∃ (q : Option Addr) (n c : Nat) (xs : List α), v = .slice q n c ∧ xs.length = n ∧ RK enc2 W q c xs ∧ (∀ a ∈ xs, ok a) ∧ n * Try.prog.bytesOf e ≤ reachBytes := by
  rcases Deep.open_slice ht hf with ⟨hcs, _⟩ | ⟨a, len, cap, m, n, D, Pl, hcs, _, hl, hm, hmm, hxe, hx⟩
  · simp at hcs
    exact ⟨none, 0, 0, [], hcs, rfl, RK.nil _ _, by simp, by simp⟩
  · simp at hcs hmm
    subst hmm
    rw [hc] at hx
    have hwl : ∀ i, i < m → ∀ q ∈ (D i).weights Try.prog e, q ≤ reachBytes := fun i hi q hq => by
      refine hw q ?_
      rw [hxe]
      simp only [DataW.weights, ht]
      refine List.mem_cons_of_mem _ ?_
      rcases Nat.lt_or_ge i len with hil | hil
      · exact List.mem_append_left _ (mem_weightsAll (List.mem_map.2 ⟨i, List.mem_range.2 hil, rfl⟩) hq)
      · exact List.mem_append_right _ (mem_weightsAll (List.mem_map.2 ⟨i - len, List.mem_range.2 (by omega), by rw [show len + (i - len) = i by omega]⟩) hq)
    have hnb : len * Try.prog.bytesOf e ≤ reachBytes := by
      have := hw ((len + (m - len)) * Try.prog.bytesOf e) (by rw [hxe]; simp only [DataW.weights, ht]; exact List.mem_cons.2 (.inl (by simp)))
      exact Nat.le_trans (Nat.mul_le_mul_right _ (by omega)) this
    have key : ∀ i, i < m → ∃ u : α, ok u ∧ ∀ j v, (enc2 u)[j]? = some v → W.cell? (a.add (i * k + j)) = some v := fun i hi => by
      obtain ⟨cs', h1, h2⟩ := hx i hi
      obtain ⟨_, hlen, hcell⟩ := World.cells?_some h1
      obtain ⟨u, hu, rfl⟩ := hel n cs' _ hlen h2 (hwl i hi)
      refine ⟨u, hu, fun j v hj => ?_⟩
      have hjl : j < k := by have := (List.getElem?_eq_some_iff.1 hj).1; rw [hk] at this; exact this
      rw [← Deep.add_add, hcell j hjl, hj]
    obtain ⟨f, hfa⟩ := Deep.choose_lt (α := α) key
    refine ⟨some a, len, m, (List.range len).map f, hcs, by simp, ⟨by simpa using hl, hm, fun h => by simp at h, fun hz => ?_⟩, fun u hu => ?_, hnb⟩
    · simp only [List.length_map, List.length_range] at hz
      have h00 := (hfa 0 (by omega)).2 0 _ (List.getElem?_eq_getElem (by rw [hk]; exact h0))
      obtain ⟨bb, o, s⟩ := a
      obtain rfl : s = none := by simpa [Addr.add] using World.cell?_spot h00
      refine ⟨bb, o, rfl, by have := World.block_lt_of_cell? W _ h00; simpa [Addr.add_lit] using this, fun j v hv => ?_⟩
      have hjl : j < len * k := by have := (List.getElem?_eq_some_iff.1 hv).1; rw [len_flat hk] at this; simpa using this
      have hq : j / k < len := Nat.div_lt_of_lt_mul (by rw [Nat.mul_comm]; exact hjl)
      have hr : j % k < k := Nat.mod_lt _ h0
      have e := get_flat hk ((List.range len).map f) (j / k) (j % k) (f (j / k)) (by simp [hq]) hr
      have ej : j / k * k + j % k = j := by rw [Nat.mul_comm]; exact Nat.div_add_mod j k
      rw [ej, hv] at e
      have := (hfa (j / k) (by omega)).2 (j % k) v e.symm
      rw [ej, Addr.add_lit] at this
      exact this
    · obtain ⟨i, hi, rfl⟩ := List.mem_map.1 hu
      exact (hfa i (by have := List.mem_range.1 hi; omega)).1
theorem bytesBool : Try.prog.bytesOf 4 = 1 := by kernel_rfl
theorem bool_trod {cs : List Value} {x : DataW H × List MemPlace} (hf : DataW.trod enc Try.prog W 0 (fun _ => true) true fuel 4 cs = some x) : ∃ b : Bool, True ∧ cs = bc b := by
  obtain ⟨b, e, _⟩ := DataW.trod_bool Try.underlying4 hf
  exact ⟨b, trivial, e⟩
theorem open_bools {base : Nat} {v : Value} {d : DataW H} {p : List MemPlace} (hv : Value.okWide Try.prog W .any base 45 v) (h : DataW.Trod enc Try.prog W 0 (fun _ => true) true 45 v d p) :
    ∃ (q : Option Addr) (n c : Nat) (xs : List Bool), v = .slice q n c ∧ xs.length = n ∧ RK bc W q c xs ∧ ∀ a ∈ xs, True := by
  obtain ⟨a, len, cap, rfl⟩ := okWide_slice Try.underlying45 hv
  obtain ⟨fuel, hf⟩ := h
  exact slice_rk bc_len (by decide) Try.underlying45 cellsBool (fun n cs y hl hy => bool_trod hy) hf
end
end Go.Proofs.Ythgafnommcodcaa.Disk
