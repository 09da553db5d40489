/-
  BookSums: at every input the statement's function returns true, and its arguments read afterwards as before; there is no condition. (The frame follows the shell's program; the walk and the openings are our own.)
-/
import Derived.Test.YtnaofcggdjbocaaRows
import Derived.Test.YtnaofcggdjbocaaBkEvs
import Derived.Test.YtnaofcggdjbocaaBkSums
import Derived.WalkKit
import Derived.ProofKit
import Derived.OpenShut
import Derived.ShutString
import Derived.ChangeOld
import Derived.Below
namespace Go.Proofs.Ytnaofcggdjbocaa.bookSums
open Go.ChangeShapes Go.WideShapes Go.ChangeAt Go.RowKit Go.Proofs.Ytnaofcggdjbocaa.Mem Go.Proofs.Ytnaofcggdjbocaa.Policy Go.Proofs.Ytnaofcggdjbocaa.Event Go.Proofs.Ytnaofcggdjbocaa.Book
set_option linter.unusedVariables false
set_option maxRecDepth 100000

theorem walk (q0 : Option Addr) (n0 c0 : Nat) (xs0 : List (Eh × Ev)) (w : World) (l0 : xs0.length = n0) (r0 : RK hl w q0 c0 xs0) (o0 : ∀ a ∈ xs0, HOk w a) :
    Calls Try.prog 8 #[.slice q0 n0 c0] w fun e w' => e = .returned (.bool true) ∧ Below w.heap.size w w' := by
  exact sums_any q0 n0 c0 xs0 l0 w r0 o0

set_option maxRecDepth 100000 in
theorem lifted (os : Os) (started : os.Started) (H : Type) (enc : TypeId × Value → H) :
    ReturnsInHanded {} Try.checked os 8 .any (Rows.bookSumsSpec.pre6 enc Try.prog Try.f8 Rows.bookSumsRow.domain false) (Rows.bookSumsSpec.post enc Try.prog Try.f8 false true false false) := by
  refine returnsInHanded_of_change (C := Try.checked) own started (by kernel_rfl) Try.func8
    (ChangeSpec.witness6 (enc := enc) (C := Try.checked) false ⟨#[], #[.slice none 0 0], []⟩ 8 (by kernel_rfl) (by kernel_rfl) (by kernel_rfl) (by kernel_rfl)) ?_
  intro W base args ds gs before hval0 hW hcnd hsz
  have hval : ∀ (j : Nat) t v, Try.f8.params[j]? = some t → args[j]? = some v → Value.okWide Try.prog W .any base t v := hval0
  have hW' := hW
  obtain ⟨p, q, hA0, hV, rfl, hfz, hnd⟩ := hW
  have hA : DataW.TrodAll enc Try.prog W 0 (fun _ => true) true Try.f8.params.toList args.toList ds p := hA0
  rw [Try.params8] at hA hval
  obtain ⟨v0, vs0, d0, ds0, p0, pq0, hargs, rfl, rfl, h0, pr0⟩ := trodAll_cons hA
  obtain ⟨rfl, rfl, rfl⟩ := trodAll_nil pr0
  obtain rfl : args = #[v0] := by cases args; simp_all
  obtain ⟨rfl, rfl⟩ := trodVars_none hV
  have tr0 := h0
  have lt0 : ∀ x ∈ p0, x.block < W.heap.size := by obtain ⟨m, hm⟩ := tr0; exact DataW.trod_lt m _ _ _ hm
  obtain ⟨q0, n0, c0, xs0, rfl, l0, r0, o0⟩ := open_evs (hval 0 59 v0 rfl rfl) h0
  clear hA0 hval0 hsz
  refine (walk q0 n0 c0 xs0 W l0 r0 o0).mono fun e W' ⟨he, bel⟩ => ?_
  subst he
  exact ⟨_, rfl, _, _, _, [], _, [], hW', trodAll_mk1 (shut_bool Try.underlying4 _), (trodAll_cons_mk (Below.trod laidOut (by kernel_rfl) (of_decide_eq_true (by kernel_rfl)) tr0 bel lt0) trodAll_mk0), rfl, bel.frame _, fun h => by cases h⟩

theorem over : Rows.bookSumsRow.holds Try.pinned (OpenSpec.ofChange Rows.bookSumsSpec) :=
  OpenClaim.holds_of_wide 8 Try.f8 rfl rfl rfl rfl rfl rfl rfl ⟨rfl, rfl, rfl, rfl, rfl⟩ rfl rfl rfl rfl rfl (by kernel_rfl) Try.func8 (by kernel_rfl)
    (of_decide_eq_true (by kernel_rfl)) (by unfold Func.isWrapper; first | (rw [if_pos (by decide +kernel)]; kernel_rfl) | (rw [if_neg (by decide +kernel)]; exact ⟨rfl, rfl⟩))
    (fun os started H enc _ => lifted os started H enc)

end Go.Proofs.Ytnaofcggdjbocaa.bookSums
namespace Go.Proofs.Ytnaofcggdjbocaa
/-- BookSums. -/
theorem bookSums_holds : Rows.BookSumsSaid :=
  bookSums.over
#print axioms bookSums_holds
end Go.Proofs.Ytnaofcggdjbocaa
