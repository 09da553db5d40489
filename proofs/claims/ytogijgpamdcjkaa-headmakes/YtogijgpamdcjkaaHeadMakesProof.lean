/-
  HeadMakes: at every input the statement's function returns true, and its arguments read afterwards as before; there is no condition. (The frame follows the shell's program; the walk and the openings are our own.)
-/
import Derived.Test.YtogijgpamdcjkaaRows
import Derived.Test.YtogijgpamdcjkaaHeadOpen
import Derived.Test.YtogijgpamdcjkaaHeadMakes
import Derived.WalkKit
import Derived.ProofKit
import Derived.OpenShut
import Derived.ShutString
import Derived.ChangeOld
import Derived.Below
namespace Go.Proofs.Ytogijgpamdcjkaa.headMakes
open Go.ChangeShapes Go.WideShapes Go.ChangeAt Go.RowKit Go.Proofs.Ytogijgpamdcjkaa.Mem Go.Proofs.Ytogijgpamdcjkaa.Head
set_option linter.unusedVariables false
set_option maxRecDepth 100000

theorem walk (g0 : Hd) (q0 : Option Addr) (m0 c0 : Nat) (os0 : List Int) (q1 : Option Addr) (n1 c1 : Nat) (xs1 : List Int) (w : World) (A0 : Ads g0) (l0 : os0.length = m0) (r0 : Reads .u8 w q0 c0 os0) (b0 : ∀ b ∈ os0, Byte b) (t0 : Inty g0.ttl) (l1 : xs1.length = n1) (r1 : Reads .u8 w q1 c1 xs1) (b1 : ∀ b ∈ xs1, Byte b) :
    Calls Try.prog 5 #[.agg #[.int .i64 g0.tos, .int .i64 g0.id, .int .i64 g0.fl, .int .i64 g0.ttl, .int .i64 g0.pr, .int .u8 g0.s0, .int .u8 g0.s1, .int .u8 g0.s2, .int .u8 g0.s3, .int .u8 g0.d0, .int .u8 g0.d1, .int .u8 g0.d2, .int .u8 g0.d3, .slice q0 m0 c0], .slice q1 n1 c1] w fun e w' => e = .returned (.bool true) ∧ Below w.heap.size w w' := by
  exact makes_any g0 q0 m0 c0 os0 l0 q1 n1 c1 xs1 l1 A0 b0 b1 w r0 r1

set_option maxRecDepth 100000 in
theorem lifted (os : Os) (started : os.Started) (H : Type) (enc : TypeId × Value → H) :
    ReturnsInHanded {} Try.checked os 5 .any (Rows.headMakesSpec.pre6 enc Try.prog Try.f5 Rows.headMakesRow.domain false) (Rows.headMakesSpec.post enc Try.prog Try.f5 false true false false) := by
  refine returnsInHanded_of_change (C := Try.checked) own started (by kernel_rfl) Try.func5
    (ChangeSpec.witness6 (enc := enc) (C := Try.checked) false ⟨#[], #[.agg #[.int .i64 0, .int .i64 0, .int .i64 0, .int .i64 0, .int .i64 0, .int .u8 0, .int .u8 0, .int .u8 0, .int .u8 0, .int .u8 0, .int .u8 0, .int .u8 0, .int .u8 0, .slice none 0 0], .slice none 0 0], []⟩ 8 (by kernel_rfl) (by kernel_rfl) (by kernel_rfl) (by kernel_rfl)) ?_
  intro W base args ds gs before hval0 hW hcnd _
  have hval : ∀ (j : Nat) t v, Try.f5.params[j]? = some t → args[j]? = some v → Value.okWide Try.prog W .any base t v := hval0
  have hW' := hW
  obtain ⟨p, q, hA0, hV, rfl, hfz, hnd⟩ := hW
  have hA : DataW.TrodAll enc Try.prog W 0 (fun _ => true) true Try.f5.params.toList args.toList ds p := hA0
  rw [Try.params5] at hA hval
  obtain ⟨v0, vs0, d0, ds0, p0, pq0, hargs, rfl, rfl, h0, pr0⟩ := trodAll_cons hA
  obtain ⟨v1, vs1, d1, ds1, p1, pq1, rfl, rfl, rfl, h1, pr1⟩ := trodAll_cons pr0
  obtain ⟨rfl, rfl, rfl⟩ := trodAll_nil pr1
  obtain rfl : args = #[v0, v1] := by cases args; simp_all
  obtain ⟨rfl, rfl⟩ := trodVars_none hV
  have k0 := h0
  have lt0 : ∀ x ∈ p0, x.block < W.heap.size := by obtain ⟨m, hm⟩ := k0; exact DataW.trod_lt m _ _ _ hm
  obtain ⟨g0, q0, m0, c0, os0, rfl, A0, l0, r0, b0, t0⟩ := open_head (hval 0 26 v0 rfl rfl) h0
  have k1 := h1
  have lt1 : ∀ x ∈ p1, x.block < W.heap.size := by obtain ⟨m, hm⟩ := k1; exact DataW.trod_lt m _ _ _ hm
  obtain ⟨q1, n1, c1, xs1, rfl, l1, r1, b1⟩ := open_bytes (hval 1 24 v1 rfl rfl) h1
  clear hA0 hval0
  refine (walk g0 q0 m0 c0 os0 q1 n1 c1 xs1 W A0 l0 r0 b0 t0 l1 r1 b1).mono fun e W' ⟨he, bel⟩ => ?_
  subst he
  exact ⟨_, rfl, _, _, _, [], _, [], hW', trodAll_mk1 (shut_bool Try.underlying4 _), (trodAll_cons_mk (Below.trod laidOut (by kernel_rfl) (of_decide_eq_true (by kernel_rfl)) k0 bel lt0) (trodAll_cons_mk (Below.trod laidOut (by kernel_rfl) (of_decide_eq_true (by kernel_rfl)) k1 bel lt1) trodAll_mk0)), rfl, bel.frame _, fun h => by cases h⟩

theorem over : Rows.headMakesRow.holds Try.pinned (OpenSpec.ofChange Rows.headMakesSpec) :=
  OpenClaim.holds_of_wide 5 Try.f5 rfl rfl rfl rfl rfl rfl rfl ⟨rfl, rfl, rfl, rfl, rfl⟩ rfl rfl rfl rfl rfl (by kernel_rfl) Try.func5 (by kernel_rfl)
    (of_decide_eq_true (by kernel_rfl)) (by unfold Func.isWrapper; first | (rw [if_pos (by decide +kernel)]; kernel_rfl) | (rw [if_neg (by decide +kernel)]; exact ⟨rfl, rfl⟩))
    (fun os started H enc _ => lifted os started H enc)

end Go.Proofs.Ytogijgpamdcjkaa.headMakes
namespace Go.Proofs.Ytogijgpamdcjkaa
/-- HeadMakes. -/
theorem headMakes_holds : Rows.HeadMakesSaid :=
  headMakes.over
#print axioms headMakes_holds
end Go.Proofs.Ytogijgpamdcjkaa
