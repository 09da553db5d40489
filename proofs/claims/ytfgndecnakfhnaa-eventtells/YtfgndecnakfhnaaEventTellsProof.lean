/-
  EventTells: at every input the statement's function returns true, and its arguments read afterwards as before; there is no condition. (The frame follows the shell's program; the walk and the openings are our own.)
-/
import Derived.Test.YtfgndecnakfhnaaRows
import Derived.Test.YtfgndecnakfhnaaEvOpen
import Derived.Test.YtfgndecnakfhnaaEvTells
import Derived.WalkKit
import Derived.ProofKit
import Derived.OpenShut
import Derived.ShutString
import Derived.ChangeOld
import Derived.Below
namespace Go.Proofs.Ytfgndecnakfhnaa.eventTells
open Go.ChangeShapes Go.WideShapes Go.ChangeAt Go.RowKit Go.Proofs.Ytfgndecnakfhnaa.Mem Go.Proofs.Ytfgndecnakfhnaa.Policy Go.Proofs.Ytfgndecnakfhnaa.Event
set_option linter.unusedVariables false
set_option maxRecDepth 100000

theorem walk (eh0 : Eh) (ee0 : Ev) (eh1 : Eh) (ee1 : Ev) (w : World) (ei0 : Is w eh0 ee0) (eo0 : EvOk ee0) (ei1 : Is w eh1 ee1) (eo1 : EvOk ee1) :
    Calls Try.prog 4 #[ev eh0, ev eh1] w fun e w' => e = .returned (.bool true) ∧ Below w.heap.size w w' := by
  exact tells_any eh0 eh1 ee0 ee1 w ei0 ei1 eo0.2.2.1 eo1.2.2.1

set_option maxRecDepth 100000 in
theorem lifted (os : Os) (started : os.Started) (H : Type) (enc : TypeId × Value → H) :
    ReturnsInHanded {} Try.checked os 4 .any (Rows.eventTellsSpec.pre6 enc Try.prog Try.f4 Rows.eventTellsRow.domain false) (Rows.eventTellsSpec.post enc Try.prog Try.f4 false true false false) := by
  refine returnsInHanded_of_change (C := Try.checked) own started (by kernel_rfl) Try.func4
    (ChangeSpec.witness6 (enc := enc) (C := Try.checked) false ⟨#[], #[.agg #[.int .i64 0, .int .i64 0, .slice none 0 0, .slice none 0 0, .int .u64 0, .int .u64 0], .agg #[.int .i64 0, .int .i64 0, .slice none 0 0, .slice none 0 0, .int .u64 0, .int .u64 0]], []⟩ 8 (by kernel_rfl) (by kernel_rfl) (by kernel_rfl) (by kernel_rfl)) ?_
  intro W base args ds gs before hval0 hW hcnd hsz
  have hval : ∀ (j : Nat) t v, Try.f4.params[j]? = some t → args[j]? = some v → Value.okWide Try.prog W .any base t v := hval0
  have hW' := hW
  obtain ⟨p, q, hA0, hV, rfl, hfz, hnd⟩ := hW
  have hA : DataW.TrodAll enc Try.prog W 0 (fun _ => true) true Try.f4.params.toList args.toList ds p := hA0
  rw [Try.params4] at hA hval
  obtain ⟨v0, vs0, d0, ds0, p0, pq0, hargs, rfl, rfl, h0, pr0⟩ := trodAll_cons hA
  obtain ⟨v1, vs1, d1, ds1, p1, pq1, rfl, rfl, rfl, h1, pr1⟩ := trodAll_cons pr0
  obtain ⟨rfl, rfl, rfl⟩ := trodAll_nil pr1
  obtain rfl : args = #[v0, v1] := by cases args; simp_all
  obtain ⟨rfl, rfl⟩ := trodVars_none hV
  have tr0 := h0
  have lt0 : ∀ x ∈ p0, x.block < W.heap.size := by obtain ⟨m, hm⟩ := tr0; exact DataW.trod_lt m _ _ _ hm
  obtain ⟨eh0, ee0, rfl, ei0, eo0⟩ := open_ev (hval 0 30 v0 rfl rfl) h0
  have tr1 := h1
  have lt1 : ∀ x ∈ p1, x.block < W.heap.size := by obtain ⟨m, hm⟩ := tr1; exact DataW.trod_lt m _ _ _ hm
  obtain ⟨eh1, ee1, rfl, ei1, eo1⟩ := open_ev (hval 1 30 v1 rfl rfl) h1
  clear hA0 hval0 hsz
  refine (walk eh0 ee0 eh1 ee1 W ei0 eo0 ei1 eo1).mono fun e W' ⟨he, bel⟩ => ?_
  subst he
  exact ⟨_, rfl, _, _, _, [], _, [], hW', trodAll_mk1 (shut_bool Try.underlying4 _), (trodAll_cons_mk (Below.trod laidOut (by kernel_rfl) (of_decide_eq_true (by kernel_rfl)) tr0 bel lt0) (trodAll_cons_mk (Below.trod laidOut (by kernel_rfl) (of_decide_eq_true (by kernel_rfl)) tr1 bel lt1) trodAll_mk0)), rfl, bel.frame _, fun h => by cases h⟩

theorem over : Rows.eventTellsRow.holds Try.pinned (OpenSpec.ofChange Rows.eventTellsSpec) :=
  OpenClaim.holds_of_wide 4 Try.f4 rfl rfl rfl rfl rfl rfl rfl ⟨rfl, rfl, rfl, rfl, rfl⟩ rfl rfl rfl rfl rfl (by kernel_rfl) Try.func4 (by kernel_rfl)
    (of_decide_eq_true (by kernel_rfl)) (by unfold Func.isWrapper; first | (rw [if_pos (by decide +kernel)]; kernel_rfl) | (rw [if_neg (by decide +kernel)]; exact ⟨rfl, rfl⟩))
    (fun os started H enc _ => lifted os started H enc)

end Go.Proofs.Ytfgndecnakfhnaa.eventTells
namespace Go.Proofs.Ytfgndecnakfhnaa
/-- EventTells. -/
theorem eventTells_holds : Rows.EventTellsSaid :=
  eventTells.over
#print axioms eventTells_holds
end Go.Proofs.Ytfgndecnakfhnaa
