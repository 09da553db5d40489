/-
  BookBack: at every input the statement's function returns true, and its arguments read afterwards as before; there is no condition. (The frame follows the shell's program; the walk and the openings are our own.)
-/
import Derived.Test.YtnaofcggdjbocaaRows
import Derived.Test.YtnaofcggdjbocaaBkOpen
import Derived.Test.YtnaofcggdjbocaaBkBack
import Derived.WalkKit
import Derived.ProofKit
import Derived.OpenShut
import Derived.ShutString
import Derived.ChangeOld
import Derived.Below
namespace Go.Proofs.Ytnaofcggdjbocaa.bookBack
open Go.ChangeShapes Go.WideShapes Go.ChangeAt Go.RowKit Go.Proofs.Ytnaofcggdjbocaa.Mem Go.Proofs.Ytnaofcggdjbocaa.Policy Go.Proofs.Ytnaofcggdjbocaa.Event Go.Proofs.Ytnaofcggdjbocaa.Book
set_option linter.unusedVariables false
set_option maxRecDepth 100000

theorem walk (bh0 : Bh) (bb0 : Bk) (q1 : Option Addr) (n1 c1 : Nat) (xs1 : List Int) (w : World) (bi0 : IsB w bh0 bb0) (bo0 : BkOk bb0) (l1 : xs1.length = n1) (r1 : Reads .u8 w q1 c1 xs1) (o1 : ∀ b ∈ xs1, Byte b) :
    Calls Try.prog 7 #[bv bh0, .slice q1 n1 c1] w fun e w' => e = .returned (.bool true) ∧ Below w.heap.size w w' := by
  exact back_any bh0 bb0 q1 n1 c1 xs1 l1 o1 w bi0 bo0 r1

set_option maxRecDepth 100000 in
theorem lifted (os : Os) (started : os.Started) (H : Type) (enc : TypeId × Value → H) :
    ReturnsInHanded {} Try.checked os 7 .any (Rows.bookBackSpec.pre6 enc Try.prog Try.f7 Rows.bookBackRow.domain false) (Rows.bookBackSpec.post enc Try.prog Try.f7 false true false false) := by
  refine returnsInHanded_of_change (C := Try.checked) own started (by kernel_rfl) Try.func7
    (ChangeSpec.witness6 (enc := enc) (C := Try.checked) false ⟨#[], #[.agg #[.int .u64 0, .slice none 0 0], .slice none 0 0], []⟩ 8 (by kernel_rfl) (by kernel_rfl) (by kernel_rfl) (by kernel_rfl)) ?_
  intro W base args ds gs before hval0 hW hcnd hsz
  have hval : ∀ (j : Nat) t v, Try.f7.params[j]? = some t → args[j]? = some v → Value.okWide Try.prog W .any base t v := hval0
  have hW' := hW
  obtain ⟨p, q, hA0, hV, rfl, hfz, hnd⟩ := hW
  have hA : DataW.TrodAll enc Try.prog W 0 (fun _ => true) true Try.f7.params.toList args.toList ds p := hA0
  rw [Try.params7] at hA hval
  obtain ⟨v0, vs0, d0, ds0, p0, pq0, hargs, rfl, rfl, h0, pr0⟩ := trodAll_cons hA
  obtain ⟨v1, vs1, d1, ds1, p1, pq1, rfl, rfl, rfl, h1, pr1⟩ := trodAll_cons pr0
  obtain ⟨rfl, rfl, rfl⟩ := trodAll_nil pr1
  obtain rfl : args = #[v0, v1] := by cases args; simp_all
  obtain ⟨rfl, rfl⟩ := trodVars_none hV
  have tr0 := h0
  have lt0 : ∀ x ∈ p0, x.block < W.heap.size := by obtain ⟨m, hm⟩ := tr0; exact DataW.trod_lt m _ _ _ hm
  obtain ⟨bh0, bb0, rfl, bi0, bo0⟩ := open_bk (hval 0 25 v0 rfl rfl) h0
  have tr1 := h1
  have lt1 : ∀ x ∈ p1, x.block < W.heap.size := by obtain ⟨m, hm⟩ := tr1; exact DataW.trod_lt m _ _ _ hm
  obtain ⟨q1, n1, c1, xs1, rfl, l1, r1, o1⟩ := open_bytes (hval 1 37 v1 rfl rfl) h1
  clear hA0 hval0 hsz
  refine (walk bh0 bb0 q1 n1 c1 xs1 W bi0 bo0 l1 r1 o1).mono fun e W' ⟨he, bel⟩ => ?_
  subst he
  exact ⟨_, rfl, _, _, _, [], _, [], hW', trodAll_mk1 (shut_bool Try.underlying4 _), (trodAll_cons_mk (Below.trod laidOut (by kernel_rfl) (of_decide_eq_true (by kernel_rfl)) tr0 bel lt0) (trodAll_cons_mk (Below.trod laidOut (by kernel_rfl) (of_decide_eq_true (by kernel_rfl)) tr1 bel lt1) trodAll_mk0)), rfl, bel.frame _, fun h => by cases h⟩

theorem over : Rows.bookBackRow.holds Try.pinned (OpenSpec.ofChange Rows.bookBackSpec) :=
  OpenClaim.holds_of_wide 7 Try.f7 rfl rfl rfl rfl rfl rfl rfl ⟨rfl, rfl, rfl, rfl, rfl⟩ rfl rfl rfl rfl rfl (by kernel_rfl) Try.func7 (by kernel_rfl)
    (of_decide_eq_true (by kernel_rfl)) (by unfold Func.isWrapper; first | (rw [if_pos (by decide +kernel)]; kernel_rfl) | (rw [if_neg (by decide +kernel)]; exact ⟨rfl, rfl⟩))
    (fun os started H enc _ => lifted os started H enc)

end Go.Proofs.Ytnaofcggdjbocaa.bookBack
namespace Go.Proofs.Ytnaofcggdjbocaa
/-- BookBack. -/
theorem bookBack_holds : Rows.BookBackSaid :=
  bookBack.over
#print axioms bookBack_holds
end Go.Proofs.Ytnaofcggdjbocaa
