/-
  The policies that the statements make themselves; policies held against one another.
-/
import Derived.Test.YtjjgecnnginnpaaPolSame
import Derived.Test.YtjjgecnnginnpaaPolNums
import Derived.Test.YtjjgecnnginnpaaPolOf
namespace Go.Proofs.Ytjjgecnnginnpaa.Policy
open Go.RowKit Go.Proofs.Ytjjgecnnginnpaa.Mem Go.Proofs.Ytjjgecnnginnpaa.Addr
set_option maxRecDepth 100000

section
variable {o : Oper} {a : Act} {w : World} {K : Act → World → Prop} {ops : Array Oper} {rest : List Oper} {Q : Exit → Act → World → Prop}
theorem wp_eq_po {p q : Po} (hp : PoOk p) (hq : PoOk q) (x y : Operand) (ho : o.op = .binOp .eql 28 x y 28) (hx : a.eval x = pv p) (hy : a.eval y = pv q) (h : K (a.put o.dst (.bool (eqB p q))) w) : o.wp Try.prog a w K Q := by
  unfold Oper.wp execOp
  simp only [ho, hx, hy, Sem.run_bind, eqg_po, eqs_po hp hq, Sem.run_pure, Result.andThen_ok]
  exact h
theorem wp_ne_po {p q : Po} (hp : PoOk p) (hq : PoOk q) (x y : Operand) (ho : o.op = .binOp .neq 28 x y 28) (hx : a.eval x = pv p) (hy : a.eval y = pv q) (h : K (a.put o.dst (.bool (!eqB p q))) w) : o.wp Try.prog a w K Q := by
  unfold Oper.wp execOp
  simp only [ho, hx, hy, Sem.run_bind, neg_po, nes_po hp hq, Sem.run_pure, Result.andThen_ok]
  exact h
theorem at_ne_po {p q : Po} (hp : PoOk p) (hq : PoOk q) (x y : Operand) (ho : o.op = .binOp .neq 28 x y 28) (hx : a.eval x = pv p) (hy : a.eval y = pv q) (hw : Region.wanted o (yielded ops a.tmps) = true) (h : wpList Try.prog ops Q rest (a.put o.dst (.bool (!eqB p q))) w) : wpList Try.prog ops Q (o :: rest) a w :=
  BigFrame.wpList_want hw fun _ hK => wp_ne_po hp hq x y ho hx hy (hK _ _ h)
end
/-- The statements' own policy of a number. -/
def oneP (s : Nat) : Po := ⟨s, 167772160 + s * 65536, 16, 5, 3000, 0, 0, 9000, 1500, 1500⟩
theorem one_ok {s : Nat} (h : s < 256) : PoOk (oneP s) := by
  unfold PoOk oneP Inty
  simp only
  omega
theorem run_one0 (s : Int) (w : World) : (Instr.build 28 #[(0, .int .i64 s), (1, .agg #[.int .u8 10, .int .u8 s, .int .u8 0, .int .u8 0, .int .i64 16]), (2, .int .u64 5), (3, .int .u64 3000), (6, .int .u64 9000), (7, .int .u64 1500), (8, .int .u64 1500)]).run Try.prog w = .ok (.agg #[.int .i64 s, .int .u8 10, .int .u8 s, .int .u8 0, .int .u8 0, .int .i64 16, .int .u64 5, .int .u64 3000, .int .u64 0, .int .u64 0, .int .u64 9000, .int .u64 1500, .int .u64 1500]) w := by kernel_rfl
theorem run_one (s : Nat) (hs : s < 256) (w : World) : (Instr.build 28 #[(0, .int .i64 (s : Int)), (1, .agg #[.int .u8 10, .int .u8 (s : Int), .int .u8 0, .int .u8 0, .int .i64 16]), (2, .int .u64 5), (3, .int .u64 3000), (6, .int .u64 9000), (7, .int .u64 1500), (8, .int .u64 1500)]).run Try.prog w = .ok (pv (oneP s)) w := by
  have e : pv (oneP s) = .agg #[.int .i64 (s : Int), .int .u8 10, .int .u8 (s : Int), .int .u8 0, .int .u8 0, .int .i64 16, .int .u64 5, .int .u64 3000, .int .u64 0, .int .u64 0, .int .u64 9000, .int .u64 1500, .int .u64 1500] := by
    simp [pv, pl, oneP, b0, b1, b2, b3]
    omega
  rw [e, run_one0]
theorem at_one {o : Oper} {a : Act} {w : World} {ops : Array Oper} {rest : List Oper} {Q : Exit → Act → World → Prop} (x y : Operand) (s : Nat) (hs : s < 256) (ho : o.op = .build 28 #[(0, x), (1, y), (2, .const (.int .u64 5)), (3, .const (.int .u64 3000)), (6, .const (.int .u64 9000)), (7, .const (.int .u64 1500)), (8, .const (.int .u64 1500))]) (hx : a.eval x = .int .i64 (s : Int)) (hy : a.eval y = .agg #[.int .u8 10, .int .u8 (s : Int), .int .u8 0, .int .u8 0, .int .i64 16]) (hw : Region.wanted o (yielded ops a.tmps) = true) (h : wpList Try.prog ops Q rest (a.put o.dst (pv (oneP s))) w) : wpList Try.prog ops Q (o :: rest) a w :=
  BigFrame.wpList_want hw fun _ hK => wp_run (Instr.build 28 #[(0, .int .i64 (s : Int)), (1, .agg #[.int .u8 10, .int .u8 (s : Int), .int .u8 0, .int .u8 0, .int .i64 16]), (2, .int .u64 5), (3, .int .u64 3000), (6, .int .u64 9000), (7, .int .u64 1500), (8, .int .u64 1500)]) (by simp [execOp, ho, hx, hy]; rfl) (run_one s hs w) (hK _ _ h)
theorem law_one (s : Nat) (hs : s < 256) (w : World) :
    Calls Try.prog 8 #[.int .i64 (s : Int)] w fun e w' => e = .returned (pv (oneP s)) ∧ Below w.heap.size w w' := by
  have hwr : IntKind.u8.wrap (s : Int) = s := by rw [IntKind.wrap_u8]; omega
  go_enter Try.func8, Try.ntmps8
  go_wp2_with (first
    | ((fail_if_success (have _ := hX1)); (refine at_alloc_po (by rfl) (by rfl) ?_); intro V1 hX1 hB1 hz1)
    | ((fail_if_success (have _ := hX2)); (refine at_one _ _ s hs (by rfl) (by rfl) (by rfl) (by rfl) ?_))
    | ((fail_if_success (have _ := hX2)); (refine at_store_po _ _ _ _ _ (by rfl) (by rfl) (by rfl) hX1 rfl (by rfl) ?_); intro V2 hX2 hg2 hz2))
  refine ret_po (by rfl) rfl _ _ rfl hX2 ⟨rfl, ?_⟩
  exact hB1.grown hg2 hB1.size (by simp)
end Go.Proofs.Ytjjgecnnginnpaa.Policy
