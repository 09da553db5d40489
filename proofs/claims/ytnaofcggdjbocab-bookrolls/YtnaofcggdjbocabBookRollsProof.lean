/-
  BookRolls: at every input the statement's function returns true, and its arguments read afterwards as before; there is no condition. (The frame follows the shell's program; the walk and the openings are our own.)
-/
import Derived.Test.YtnaofcggdjbocabRows
import Derived.Test.YtnaofcggdjbocabBkOpen
import Derived.Test.YtnaofcggdjbocabBkRolls
import Derived.WalkKit
import Derived.ProofKit
import Derived.OpenShut
import Derived.ShutString
import Derived.ChangeOld
import Derived.Below
namespace Go.Proofs.Ytnaofcggdjbocab.bookRolls
open Go.ChangeShapes Go.WideShapes Go.ChangeAt Go.RowKit Go.Proofs.Ytnaofcggdjbocab.Mem Go.Proofs.Ytnaofcggdjbocab.Policy Go.Proofs.Ytnaofcggdjbocab.Event Go.Proofs.Ytnaofcggdjbocab.Book
set_option linter.unusedVariables false
set_option maxRecDepth 100000

theorem walk (bh0 : Bh) (bb0 : Bk) (x1 : Int) (x2 : Int) (w : World) (bi0 : IsB w bh0 bb0) (bo0 : BkOk bb0) (w1 : Inty x1) (w2 : Word x2) :
    Calls Try.prog 4 #[bv bh0, .int .i64 x1, .int .u64 x2] w fun e w' => e = .returned (.bool true) ∧ Below w.heap.size w w' := by
  exact rolls_any bh0 bb0 x1 x2 w bi0 bo0 w2

set_option maxRecDepth 100000 in
theorem lifted (os : Os) (started : os.Started) (H : Type) (enc : TypeId × Value → H) :
    ReturnsInHanded {} Try.checked os 4 .any (Rows.bookRollsSpec.pre6 enc Try.prog Try.f4 Rows.bookRollsRow.domain false) (Rows.bookRollsSpec.post enc Try.prog Try.f4 false true false false) := by
  refine returnsInHanded_of_change (C := Try.checked) own started (by kernel_rfl) Try.func4
    (ChangeSpec.witness6 (enc := enc) (C := Try.checked) false ⟨#[], #[.agg #[.int .u64 0, .slice none 0 0], .int .i64 0, .int .u64 0], []⟩ 8 (by kernel_rfl) (by kernel_rfl) (by kernel_rfl) (by kernel_rfl)) ?_
  intro W base args ds gs before hval0 hW hcnd hsz
  have hval : ∀ (j : Nat) t v, Try.f4.params[j]? = some t → args[j]? = some v → Value.okWide Try.prog W .any base t v := hval0
  have hW' := hW
  obtain ⟨p, q, hA0, hV, rfl, hfz, hnd⟩ := hW
  have hA : DataW.TrodAll enc Try.prog W 0 (fun _ => true) true Try.f4.params.toList args.toList ds p := hA0
  rw [Try.params4] at hA hval
  obtain ⟨v0, vs0, d0, ds0, p0, pq0, hargs, rfl, rfl, h0, pr0⟩ := trodAll_cons hA
  obtain ⟨v1, vs1, d1, ds1, p1, pq1, rfl, rfl, rfl, h1, pr1⟩ := trodAll_cons pr0
  obtain ⟨v2, vs2, d2, ds2, p2, pq2, rfl, rfl, rfl, h2, pr2⟩ := trodAll_cons pr1
  obtain ⟨rfl, rfl, rfl⟩ := trodAll_nil pr2
  obtain rfl : args = #[v0, v1, v2] := by cases args; simp_all
  obtain ⟨rfl, rfl⟩ := trodVars_none hV
  have tr0 := h0
  have lt0 : ∀ x ∈ p0, x.block < W.heap.size := by obtain ⟨m, hm⟩ := tr0; exact DataW.trod_lt m _ _ _ hm
  obtain ⟨bh0, bb0, rfl, bi0, bo0⟩ := open_bk (hval 0 25 v0 rfl rfl) h0
  have tr1 := h1
  have lt1 : ∀ x ∈ p1, x.block < W.heap.size := by obtain ⟨m, hm⟩ := tr1; exact DataW.trod_lt m _ _ _ hm
  obtain ⟨x1, rfl, w1⟩ := open_i (hval 1 3 v1 rfl rfl) h1
  have tr2 := h2
  have lt2 : ∀ x ∈ p2, x.block < W.heap.size := by obtain ⟨m, hm⟩ := tr2; exact DataW.trod_lt m _ _ _ hm
  obtain ⟨x2, rfl, w2⟩ := open_u (hval 2 22 v2 rfl rfl) h2
  clear hA0 hval0 hsz
  refine (walk bh0 bb0 x1 x2 W bi0 bo0 w1 w2).mono fun e W' ⟨he, bel⟩ => ?_
  subst he
  exact ⟨_, rfl, _, _, _, [], _, [], hW', trodAll_mk1 (shut_bool Try.underlying4 _), (trodAll_cons_mk (Below.trod laidOut (by kernel_rfl) (of_decide_eq_true (by kernel_rfl)) tr0 bel lt0) (trodAll_cons_mk (Below.trod laidOut (by kernel_rfl) (of_decide_eq_true (by kernel_rfl)) tr1 bel lt1) (trodAll_cons_mk (Below.trod laidOut (by kernel_rfl) (of_decide_eq_true (by kernel_rfl)) tr2 bel lt2) trodAll_mk0))), rfl, bel.frame _, fun h => by cases h⟩

theorem over : Rows.bookRollsRow.holds Try.pinned (OpenSpec.ofChange Rows.bookRollsSpec) :=
  OpenClaim.holds_of_wide 4 Try.f4 rfl rfl rfl rfl rfl rfl rfl ⟨rfl, rfl, rfl, rfl, rfl⟩ rfl rfl rfl rfl rfl (by kernel_rfl) Try.func4 (by kernel_rfl)
    (of_decide_eq_true (by kernel_rfl)) (by unfold Func.isWrapper; first | (rw [if_pos (by decide +kernel)]; kernel_rfl) | (rw [if_neg (by decide +kernel)]; exact ⟨rfl, rfl⟩))
    (fun os started H enc _ => lifted os started H enc)

end Go.Proofs.Ytnaofcggdjbocab.bookRolls
namespace Go.Proofs.Ytnaofcggdjbocab
/-- BookRolls. -/
theorem bookRolls_holds : Rows.BookRollsSaid :=
  bookRolls.over
#print axioms bookRolls_holds
end Go.Proofs.Ytnaofcggdjbocab
