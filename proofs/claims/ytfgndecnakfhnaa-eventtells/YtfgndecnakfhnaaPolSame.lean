/-
  When two lists of numbers, and two policies, are the same.
-/
import Derived.Test.YtfgndecnakfhnaaPolMem
import Derived.Laws.StructEq
namespace Go.Proofs.Ytfgndecnakfhnaa.Policy
open Go.RowKit Go.Proofs.Ytfgndecnakfhnaa.Mem Go.Proofs.Ytfgndecnakfhnaa.Addr
set_option maxRecDepth 100000


theorem stood_po : Try.prog.stoodInHeld 54 = false := by kernel_rfl
/-- The same, field by field. -/
def eqB (p q : Po) : Bool := decide (p.s = q.s) && (decide (p.N = q.N) && decide (p.b = q.b)) && decide (p.x0 = q.x0) && decide (p.x1 = q.x1) && decide (p.x2 = q.x2) && decide (p.x3 = q.x3) && decide (p.x4 = q.x4) && decide (p.x5 = q.x5) && decide (p.x6 = q.x6)
theorem eqB_iff {p q : Po} : eqB p q = true ↔ p = q := by
  obtain ⟨s, N, b, x0, x1, x2, x3, x4, x5, x6⟩ := p
  obtain ⟨s', N', b', y0, y1, y2, y3, y4, y5, y6⟩ := q
  unfold eqB
  simp only [Bool.and_eq_true, decide_eq_true_eq, Po.mk.injEq, and_assoc]
set_option maxHeartbeats 2000000 in
theorem eq_po {p q : Po} (hp : PoOk p) (hq : PoOk q) (w : World) : (Op.equalIn 10000 54 (pv p) (pv q)).run Try.prog w = .ok (eqB p q) w := by
  obtain ⟨s, N, b, x0, x1, x2, x3, x4, x5, x6⟩ := p
  obtain ⟨s', N', b', y0, y1, y2, y3, y4, y5, y6⟩ := q
  have hN := hp.2.1
  have hN' := hq.2.1
  simp only at hN hN'
  have hf : Try.prog.underlying 54 = some (.struct (Try.prog.fieldsOf 54)) := by simp [Program.fieldsOf, Try.underlying54]
  have e := eq_bytes hN hN'
  have e4 := eq4 9996 (b0 N) (b1 N) (b2 N) (b3 N) (b0 N') (b1 N') (b2 N') (b3 N') w
  rw [e] at e4
  unfold pv pl eqB
  rw [run_equalIn_struct w 9999 _ _ _ hf stood_po]
  clear hp hq
  simp [Program.fieldsOf, Try.underlying54, Op.eqFields, part, Try.isAgg52, Try.sizeOf52, Try.isAgg3, Try.isAgg28, go_sem, e4]
  by_cases k1 : s = s'
  · by_cases k2 : N = N'
    · by_cases k3 : b = b'
      · by_cases k4 : x0 = y0
        · by_cases k5 : x1 = y1
          · by_cases k6 : x2 = y2
            · by_cases k7 : x3 = y3
              · by_cases k8 : x4 = y4
                · by_cases k9 : x5 = y5 <;> by_cases k10 : x6 = y6 <;> simp [Int.natCast_inj, k1, k2, k3, k4, k5, k6, k7, k8, k9, k10]
                · simp [Int.natCast_inj, k1, k2, k3, k4, k5, k6, k7, k8]
              · simp [Int.natCast_inj, k1, k2, k3, k4, k5, k6, k7]
            · simp [Int.natCast_inj, k1, k2, k3, k4, k5, k6]
          · simp [Int.natCast_inj, k1, k2, k3, k4, k5]
        · simp [Int.natCast_inj, k1, k2, k3, k4]
      · simp [k1, k2, k3]
    · simp [k1, k2]
  · simp [k1]
theorem guard_po : Try.prog.eqGuardType Try.prog.depth 54 = false := by kernel_rfl
theorem eqg_po (x y : Operand) (p q : Po) (w : World) : (eqGuard .eql 54 x y (pv p) (pv q)).run Try.prog w = .ok () w := by
  unfold pv
  simp [eqGuard, go_sem]
theorem neg_po (x y : Operand) (p q : Po) (w : World) : (eqGuard .neq 54 x y (pv p) (pv q)).run Try.prog w = .ok () w := by
  unfold pv
  simp [eqGuard, go_sem]
theorem eqs_po {p q : Po} (hp : PoOk p) (hq : PoOk q) (w : World) : (binOp .eql 54 (pv p) (pv q)).run Try.prog w = .ok (.bool (eqB p q)) w := by
  have h := eq_po hp hq w
  unfold pv at h ⊢
  simp [binOp, Op.equal, Op.maxDepth, h]
theorem nes_po {p q : Po} (hp : PoOk p) (hq : PoOk q) (w : World) : (binOp .neq 54 (pv p) (pv q)).run Try.prog w = .ok (.bool (!eqB p q)) w := by
  have h := eq_po hp hq w
  unfold pv at h ⊢
  simp [binOp, Op.equal, Op.maxDepth, h]
end Go.Proofs.Ytfgndecnakfhnaa.Policy
