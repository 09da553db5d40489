/-
  The policies that the statements make themselves; policies held against one another.
-/
import Derived.Test.YtnaofcggdjbocaaPolSat
import Derived.Test.YtnaofcggdjbocaaPolRefNums
import Derived.Test.YtnaofcggdjbocaaBkCarry
namespace Go.Proofs.Ytnaofcggdjbocaa.Policy
open Go.RowKit Go.Proofs.Ytnaofcggdjbocaa.Mem Go.Proofs.Ytnaofcggdjbocaa.Addr
set_option maxRecDepth 100000

section
variable {o : Oper} {a : Act} {w : World} {K : Act → World → Prop} {ops : Array Oper} {rest : List Oper} {Q : Exit → Act → World → Prop}
theorem wp_eq_po {p q : Po} (hp : PoOk p) (hq : PoOk q) (x y : Operand) (ho : o.op = .binOp .eql 47 x y 47) (hx : a.eval x = pv p) (hy : a.eval y = pv q) (h : K (a.put o.dst (.bool (eqB p q))) w) : o.wp Try.prog a w K Q := by
  unfold Oper.wp execOp
  simp only [ho, hx, hy, Sem.run_bind, eqg_po, eqs_po hp hq, Sem.run_pure, Result.andThen_ok]
  exact h
theorem wp_ne_po {p q : Po} (hp : PoOk p) (hq : PoOk q) (x y : Operand) (ho : o.op = .binOp .neq 47 x y 47) (hx : a.eval x = pv p) (hy : a.eval y = pv q) (h : K (a.put o.dst (.bool (!eqB p q))) w) : o.wp Try.prog a w K Q := by
  unfold Oper.wp execOp
  simp only [ho, hx, hy, Sem.run_bind, neg_po, nes_po hp hq, Sem.run_pure, Result.andThen_ok]
  exact h
theorem at_ne_po {p q : Po} (hp : PoOk p) (hq : PoOk q) (x y : Operand) (ho : o.op = .binOp .neq 47 x y 47) (hx : a.eval x = pv p) (hy : a.eval y = pv q) (hw : Region.wanted o (yielded ops a.tmps) = true) (h : wpList Try.prog ops Q rest (a.put o.dst (.bool (!eqB p q))) w) : wpList Try.prog ops Q (o :: rest) a w :=
  BigFrame.wpList_want hw fun _ hK => wp_ne_po hp hq x y ho hx hy (hK _ _ h)
end
/-- The statements' own policy of a number. -/
def oneP (s : Nat) : Po := ⟨s, 167772160 + s * 65536, 16, 5, 3000, 0, 0, 9000, 1500, 1500⟩
theorem one_ok {s : Nat} (h : s < 256) : PoOk (oneP s) := by
  unfold PoOk oneP Inty
  simp only
  omega
theorem run_one0 (s : Int) (w : World) : (Instr.build 47 #[(0, .int .i64 s), (1, .agg #[.int .u8 10, .int .u8 s, .int .u8 0, .int .u8 0, .int .i64 16]), (2, .int .u64 5), (3, .int .u64 3000), (6, .int .u64 9000), (7, .int .u64 1500), (8, .int .u64 1500)]).run Try.prog w = .ok (.agg #[.int .i64 s, .int .u8 10, .int .u8 s, .int .u8 0, .int .u8 0, .int .i64 16, .int .u64 5, .int .u64 3000, .int .u64 0, .int .u64 0, .int .u64 9000, .int .u64 1500, .int .u64 1500]) w := by kernel_rfl
theorem run_one (s : Nat) (hs : s < 256) (w : World) : (Instr.build 47 #[(0, .int .i64 (s : Int)), (1, .agg #[.int .u8 10, .int .u8 (s : Int), .int .u8 0, .int .u8 0, .int .i64 16]), (2, .int .u64 5), (3, .int .u64 3000), (6, .int .u64 9000), (7, .int .u64 1500), (8, .int .u64 1500)]).run Try.prog w = .ok (pv (oneP s)) w := by
  have e : pv (oneP s) = .agg #[.int .i64 (s : Int), .int .u8 10, .int .u8 (s : Int), .int .u8 0, .int .u8 0, .int .i64 16, .int .u64 5, .int .u64 3000, .int .u64 0, .int .u64 0, .int .u64 9000, .int .u64 1500, .int .u64 1500] := by
    simp [pv, pl, oneP, b0, b1, b2, b3]
    omega
  rw [e, run_one0]
theorem at_one {o : Oper} {a : Act} {w : World} {ops : Array Oper} {rest : List Oper} {Q : Exit → Act → World → Prop} (x y : Operand) (s : Nat) (hs : s < 256) (ho : o.op = .build 47 #[(0, x), (1, y), (2, .const (.int .u64 5)), (3, .const (.int .u64 3000)), (6, .const (.int .u64 9000)), (7, .const (.int .u64 1500)), (8, .const (.int .u64 1500))]) (hx : a.eval x = .int .i64 (s : Int)) (hy : a.eval y = .agg #[.int .u8 10, .int .u8 (s : Int), .int .u8 0, .int .u8 0, .int .i64 16]) (hw : Region.wanted o (yielded ops a.tmps) = true) (h : wpList Try.prog ops Q rest (a.put o.dst (pv (oneP s))) w) : wpList Try.prog ops Q (o :: rest) a w :=
  BigFrame.wpList_want hw fun _ hK => wp_run (Instr.build 47 #[(0, .int .i64 (s : Int)), (1, .agg #[.int .u8 10, .int .u8 (s : Int), .int .u8 0, .int .u8 0, .int .i64 16]), (2, .int .u64 5), (3, .int .u64 3000), (6, .int .u64 9000), (7, .int .u64 1500), (8, .int .u64 1500)]) (by simp [execOp, ho, hx, hy]; rfl) (run_one s hs w) (hK _ _ h)
end Go.Proofs.Ytnaofcggdjbocaa.Policy
