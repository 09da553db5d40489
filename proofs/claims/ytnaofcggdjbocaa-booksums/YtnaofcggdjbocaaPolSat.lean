/-
  Numbers as ints, and ints as numbers: sat.Int, sat.Uint.
-/
import Derived.Test.YtnaofcggdjbocaaPolPlain
import Derived.Test.YtnaofcggdjbocaaAddrNet
import Derived.Test.YtnaofcggdjbocaaBlk
import Derived.Deep.MidRow
import Derived.Laws.ResultCell
import Derived.KernelRfl
import Derived.BigFrame
import Derived.Laws.StructEq
/-
  Policies in memory: what an operation on one does, as a walk meets it.
-/
namespace Go.Proofs.Ytnaofcggdjbocaa.Policy
open Go.RowKit Go.Proofs.Ytnaofcggdjbocaa.Mem Go.Proofs.Ytnaofcggdjbocaa.Addr
set_option maxRecDepth 100000

/-- A policy's cells, and its value. -/
def pl (p : Po) : List Value := [Value.int .i64 p.s, .int .u8 (b0 p.N), .int .u8 (b1 p.N), .int .u8 (b2 p.N), .int .u8 (b3 p.N), .int .i64 p.b, .int .u64 (p.x0 : Int), .int .u64 (p.x1 : Int), .int .u64 (p.x2 : Int), .int .u64 (p.x3 : Int), .int .u64 (p.x4 : Int), .int .u64 (p.x5 : Int), .int .u64 (p.x6 : Int)]
def pv (p : Po) : Value := .agg (pl p).toArray
theorem pl_len (p : Po) : (pl p).length = 13 := rfl
theorem pl_one (p : Po) : ∀ v ∈ pl p, v.oneCell' = true := by
  intro v hv
  simp only [pl, List.mem_cons, List.not_mem_nil, or_false] at hv
  rcases hv with rfl | rfl | rfl | rfl | rfl | rfl | rfl | rfl | rfl | rfl | rfl | rfl | rfl <;> rfl
theorem size_po : (Try.prog.info? 47).map (·.size) = some 13 := by kernel_rfl
theorem zero_po : (Try.prog.info? 47).map (fun i => i.zero) = some (some (pv zeroP)) := by kernel_rfl
/-- Two results, the first of which lies in a block of its own. -/
theorem ret_cell {P : Program} {fn : Func} {p u : Tmp} {ty : TypeId} {R : Ending → World → Prop} {a : Act} {w : World} (h : fn.results = #[.cell p ty, .tmp u]) (hd : a.defers = []) (g : Nat) (t : TypeId) (cs : List Value) (d : TypeDesc)
    (hp : a.tmps.getD p undef = .pointer (some ⟨g, 0, none⟩)) (hb : Blk w g t cs) (hu : P.underlying ty = some d) (hdd : (match d with | .struct _ | .array _ _ => true | _ => false) = true) (hi : (P.info? ty).map (·.size) = some cs.length)
    (hR : R (.returned (.tuple #[.agg cs.toArray, a.tmps.getD u undef])) w) : bodyPost P fn R .ret a w := by
  refine bodyPost_ret (v := .tuple #[.agg cs.toArray, a.tmps.getD u undef]) ?_ hd hR
  rw [results_cell_tmp h, hp]
  simp only [asAddr, Sem.run_pure, Result.andThen_ok, run_loadVar_row w g t ty cs.toArray (0, 0) d hb hu hdd (by simpa using hi)]
theorem ret_cell1 {P : Program} {fn : Func} {p : Tmp} {ty : TypeId} {R : Ending → World → Prop} {a : Act} {w : World} (h : fn.results = #[.cell p ty]) (hd : a.defers = []) (g : Nat) (t : TypeId) (cs : List Value) (d : TypeDesc)
    (hp : a.tmps.getD p undef = .pointer (some ⟨g, 0, none⟩)) (hb : Blk w g t cs) (hu : P.underlying ty = some d) (hdd : (match d with | .struct _ | .array _ _ => true | _ => false) = true) (hi : (P.info? ty).map (·.size) = some cs.length)
    (hR : R (.returned (.agg cs.toArray)) w) : bodyPost P fn R .ret a w :=
  bodyPost_ret (results_cell_row h _ w g t cs.toArray (0, 0) d hp hb hu hdd (by simpa using hi)) hd hR
section
variable {o : Oper} {a : Act} {w : World} {K : Act → World → Prop} {Q : Exit → Act → World → Prop}
theorem new_blk (w : World) (cs : List Value) (t : TypeId) : Blk (w.alloc (.cells cs.toArray t)) w.heap.size t cs := by simpa using Blk.new w cs.toArray t
theorem wp_alloc_z (t : TypeId) (z : List Value) (ho : o.op = .alloc t) (hz : (Try.prog.info? t).map (fun i => i.zero) = some (some (.agg z.toArray)))
    (h : K (a.put o.dst (.pointer (some ⟨w.heap.size, 0, none⟩))) (w.alloc (.cells z.toArray t))) : o.wp Try.prog a w K Q := by
  obtain ⟨i, hi, hz'⟩ := Option.map_eq_some_iff.1 hz
  unfold Oper.wp execOp
  simp [ho, Instr.alloc, zeroValue, typeInfo, hi, hz', newVar, Sem.run_bind, Result.andThen, Value.cells]
  exact h
theorem wp_box_v (t : TypeId) (x : Operand) (cs : List Value) (ho : o.op = .box t x) (hx : a.eval x = .agg cs.toArray)
    (h : K (a.put o.dst (.pointer (some ⟨w.heap.size, 0, none⟩))) (w.alloc (.cells cs.toArray t))) : o.wp Try.prog a w K Q := by
  unfold Oper.wp execOp
  simp [ho, hx, Instr.box, newVar, Result.andThen, Value.cells]
  exact h
theorem wp_run {v : Value} {w' : World} (m : Sem Value) (hm : execOp a.eval o = (do pure (.value (← m)))) (hr : m.run Try.prog w = .ok v w') (h : K (a.put o.dst v) w') : o.wp Try.prog a w K Q := by
  unfold Oper.wp
  rw [hm]
  simp only [Sem.run_bind, hr, Result.andThen_ok, Sem.run_pure]
  exact h
theorem wp_box_po (x : Operand) (p : Po) (ho : o.op = .box 47 x) (hx : a.eval x = pv p) (h : ∀ w', Blk w' w.heap.size 47 (pl p) → Below w.heap.size w w' → Hid (w'.heap.size = w.heap.size + 1) → K (a.put o.dst (.pointer (some ⟨w.heap.size, 0, none⟩))) w') : o.wp Try.prog a w K Q :=
  wp_box_v _ x (pl p) ho hx (h _ (new_blk _ _ _) (bnew _ _) (by unfold Hid; simp))
theorem wp_alloc_po (ho : o.op = .alloc 47) (h : ∀ w', Blk w' w.heap.size 47 (pl zeroP) → Below w.heap.size w w' → Hid (w'.heap.size = w.heap.size + 1) → K (a.put o.dst (.pointer (some ⟨w.heap.size, 0, none⟩))) w') : o.wp Try.prog a w K Q :=
  wp_alloc_z _ _ ho zero_po (h _ (new_blk _ _ _) (bnew _ _) (by unfold Hid; simp))
theorem wp_load_po (x : Operand) (g : Nat) (p : Po) (ho : o.op = .load 47 x) (hx : a.eval x = .pointer (some ⟨g, 0, none⟩)) (hb : Blk w g 47 (pl p)) (h : K (a.put o.dst (pv p)) w) : o.wp Try.prog a w K Q :=
  wp_load_mid _ x ho g 0 hx (pl p) _ (fun j v hv => by rw [Nat.zero_add, hb.cell]; exact hv) (by rfl) rfl size_po h
/-- Out of a row of them. -/
theorem wp_load_pr (x : Operand) (b k : Nat) (p : Po) (ho : o.op = .load 47 x) (hx : a.eval x = .pointer (some ⟨b, k, none⟩)) (hc : ∀ j v, (pl p)[j]? = some v → w.cell? ⟨b, k + j, none⟩ = some v) (h : K (a.put o.dst (pv p)) w) : o.wp Try.prog a w K Q :=
  wp_load_mid _ x ho b k hx (pl p) _ hc (by rfl) rfl size_po h
theorem wp_store_po (x y : Operand) (g : Nat) (cs : List Value) (p : Po) (ho : o.op = .store 47 x y) (hx : a.eval x = .pointer (some ⟨g, 0, none⟩)) (hy : a.eval y = pv p) (hb : Blk w g 47 cs) (hl : cs.length = 13)
    (h : ∀ w', Blk w' g 47 (pl p) → w.grownBy w' (some g) → Hid (w'.heap.size = w.heap.size) → K (a.put o.dst undef) w') : o.wp Try.prog a w K Q := by
  unfold Oper.wp execOp
  have e := run_storeVar_row (P := Try.prog) w g 47 47 cs.toArray (pl p).toArray hb (by simpa [pl_len] using size_po) (by simp [hl, pl_len]) (all_oneCell_toArray (pl_one p))
  simp only [ho, hx, hy, pv, Instr.storeAt, Instr.sureAddr, Sem.run_bind, Sem.run_pure, Result.andThen_ok, e]
  exact h _ (setRow_heap w g _ _ _ _ hb) ⟨rfl, rfl, rfl, by simp [World.setRow], fun k _ hk => setRow_other w g k _ (fun e => hk (by simp [e]))⟩ (by unfold Hid; simp [World.setRow])
end
theorem run_build0 (w : World) : (Instr.build 47 #[]).run Try.prog w = .ok (pv zeroP) w := by kernel_rfl
section
variable {o : Oper} {a : Act} {w : World} {ops : Array Oper} {rest : List Oper} {Q : Exit → Act → World → Prop}
theorem at_box_po (x : Operand) (p : Po) (ho : o.op = .box 47 x) (hx : a.eval x = pv p) (hw : Region.wanted o (yielded ops a.tmps) = true) (h : ∀ w', Blk w' w.heap.size 47 (pl p) → Below w.heap.size w w' → Hid (w'.heap.size = w.heap.size + 1) → wpList Try.prog ops Q rest (a.put o.dst (.pointer (some ⟨w.heap.size, 0, none⟩))) w') : wpList Try.prog ops Q (o :: rest) a w :=
  BigFrame.wpList_want hw fun _ hK => wp_box_po x p ho hx (fun w2 h1 h2 h3 => hK _ _ (h w2 h1 h2 h3))
theorem at_alloc_po (ho : o.op = .alloc 47) (hw : Region.wanted o (yielded ops a.tmps) = true) (h : ∀ w', Blk w' w.heap.size 47 (pl zeroP) → Below w.heap.size w w' → Hid (w'.heap.size = w.heap.size + 1) → wpList Try.prog ops Q rest (a.put o.dst (.pointer (some ⟨w.heap.size, 0, none⟩))) w') : wpList Try.prog ops Q (o :: rest) a w :=
  BigFrame.wpList_want hw fun _ hK => wp_alloc_po ho (fun w2 h1 h2 h3 => hK _ _ (h w2 h1 h2 h3))
theorem at_load_po (x : Operand) (g : Nat) (p : Po) (ho : o.op = .load 47 x) (hx : a.eval x = .pointer (some ⟨g, 0, none⟩)) (hb : Blk w g 47 (pl p)) (hw : Region.wanted o (yielded ops a.tmps) = true) (h : wpList Try.prog ops Q rest (a.put o.dst (pv p)) w) : wpList Try.prog ops Q (o :: rest) a w :=
  BigFrame.wpList_want hw fun _ hK => wp_load_po x g p ho hx hb (hK _ _ h)
theorem at_load_pr (x : Operand) (b k : Nat) (p : Po) (ho : o.op = .load 47 x) (hx : a.eval x = .pointer (some ⟨b, k, none⟩)) (hc : ∀ j v, (pl p)[j]? = some v → w.cell? ⟨b, k + j, none⟩ = some v) (hw : Region.wanted o (yielded ops a.tmps) = true) (h : wpList Try.prog ops Q rest (a.put o.dst (pv p)) w) : wpList Try.prog ops Q (o :: rest) a w :=
  BigFrame.wpList_want hw fun _ hK => wp_load_pr x b k p ho hx hc (hK _ _ h)
theorem at_store_po (x y : Operand) (g : Nat) (cs : List Value) (p : Po) (ho : o.op = .store 47 x y) (hx : a.eval x = .pointer (some ⟨g, 0, none⟩)) (hy : a.eval y = pv p) (hb : Blk w g 47 cs) (hl : cs.length = 13) (hw : Region.wanted o (yielded ops a.tmps) = true) (h : ∀ w', Blk w' g 47 (pl p) → w.grownBy w' (some g) → Hid (w'.heap.size = w.heap.size) → wpList Try.prog ops Q rest (a.put o.dst undef) w') : wpList Try.prog ops Q (o :: rest) a w :=
  BigFrame.wpList_want hw fun _ hK => wp_store_po x y g cs p ho hx hy hb hl (fun w2 h1 h2 h3 => hK _ _ (h w2 h1 h2 h3))
theorem at_build0 (ho : o.op = .build 47 #[]) (hw : Region.wanted o (yielded ops a.tmps) = true) (h : wpList Try.prog ops Q rest (a.put o.dst (pv zeroP)) w) : wpList Try.prog ops Q (o :: rest) a w :=
  BigFrame.wpList_want hw fun _ hK => wp_run (Instr.build 47 #[]) (by simp [execOp, ho]) (run_build0 w) (hK _ _ h)
end
/-- A policy is handed back, with a number beside it or alone. -/
theorem ret_po2 {fn : Func} {x u : Tmp} {R : Ending → World → Prop} {a : Act} {w : World} (h : fn.results = #[.cell x 47, .tmp u]) (hd : a.defers = []) (g : Nat) (p : Po) (hp : a.tmps.getD x undef = .pointer (some ⟨g, 0, none⟩))
    (hb : Blk w g 47 (pl p)) (hR : R (.returned (.tuple #[pv p, a.tmps.getD u undef])) w) : bodyPost Try.prog fn R .ret a w :=
  ret_cell h hd g _ (pl p) _ hp hb (by rfl) rfl size_po hR
theorem ret_po {fn : Func} {x : Tmp} {R : Ending → World → Prop} {a : Act} {w : World} (h : fn.results = #[.cell x 47]) (hd : a.defers = []) (g : Nat) (p : Po) (hp : a.tmps.getD x undef = .pointer (some ⟨g, 0, none⟩))
    (hb : Blk w g 47 (pl p)) (hR : R (.returned (pv p)) w) : bodyPost Try.prog fn R .ret a w :=
  ret_cell1 h hd g _ (pl p) _ hp hb (by rfl) rfl size_po hR
/-- Its cells as they lie. -/
theorem cells13 {w : World} {g : Nat} {p : Po} (h : Blk w g 47 (pl p)) : ∀ i, w.cell? ⟨g, i, none⟩ = [Value.int .i64 p.s, .int .u8 (b0 p.N), .int .u8 (b1 p.N), .int .u8 (b2 p.N), .int .u8 (b3 p.N), .int .i64 p.b, .int .u64 (p.x0 : Int), .int .u64 (p.x1 : Int), .int .u64 (p.x2 : Int), .int .u64 (p.x3 : Int), .int .u64 (p.x4 : Int), .int .u64 (p.x5 : Int), .int .u64 (p.x6 : Int)][i]? := h.cell
end Go.Proofs.Ytnaofcggdjbocaa.Policy
/-
  When two lists of numbers, and two policies, are the same.
-/
namespace Go.Proofs.Ytnaofcggdjbocaa.Policy
open Go.RowKit Go.Proofs.Ytnaofcggdjbocaa.Mem Go.Proofs.Ytnaofcggdjbocaa.Addr
set_option maxRecDepth 100000


theorem stood_po : Try.prog.stoodInHeld 47 = false := by kernel_rfl
/-- The same, field by field. -/
def eqB (p q : Po) : Bool := decide (p.s = q.s) && (decide (p.N = q.N) && decide (p.b = q.b)) && decide (p.x0 = q.x0) && decide (p.x1 = q.x1) && decide (p.x2 = q.x2) && decide (p.x3 = q.x3) && decide (p.x4 = q.x4) && decide (p.x5 = q.x5) && decide (p.x6 = q.x6)
theorem eqB_iff {p q : Po} : eqB p q = true ↔ p = q := by
  obtain ⟨s, N, b, x0, x1, x2, x3, x4, x5, x6⟩ := p
  obtain ⟨s', N', b', y0, y1, y2, y3, y4, y5, y6⟩ := q
  unfold eqB
  simp only [Bool.and_eq_true, decide_eq_true_eq, Po.mk.injEq, and_assoc]
set_option maxHeartbeats 2000000 in
theorem eq_po {p q : Po} (hp : PoOk p) (hq : PoOk q) (w : World) : (Op.equalIn 10000 47 (pv p) (pv q)).run Try.prog w = .ok (eqB p q) w := by
  obtain ⟨s, N, b, x0, x1, x2, x3, x4, x5, x6⟩ := p
  obtain ⟨s', N', b', y0, y1, y2, y3, y4, y5, y6⟩ := q
  have hN := hp.2.1
  have hN' := hq.2.1
  simp only at hN hN'
  have hf : Try.prog.underlying 47 = some (.struct (Try.prog.fieldsOf 47)) := by simp [Program.fieldsOf, Try.underlying47]
  have e := eq_bytes hN hN'
  have e4 := eq4 9996 (b0 N) (b1 N) (b2 N) (b3 N) (b0 N') (b1 N') (b2 N') (b3 N') w
  rw [e] at e4
  unfold pv pl eqB
  rw [run_equalIn_struct w 9999 _ _ _ hf stood_po]
  clear hp hq
  simp [Program.fieldsOf, Try.underlying47, Op.eqFields, part, Try.isAgg45, Try.sizeOf45, Try.isAgg3, Try.isAgg22, go_sem, e4]
  by_cases k1 : s = s'
  · by_cases k2 : N = N'
    · by_cases k3 : b = b'
      · by_cases k4 : x0 = y0
        · by_cases k5 : x1 = y1
          · by_cases k6 : x2 = y2
            · by_cases k7 : x3 = y3
              · by_cases k8 : x4 = y4
                · by_cases k9 : x5 = y5 <;> by_cases k10 : x6 = y6 <;> simp [Int.natCast_inj, k1, k2, k3, k4, k5, k6, k7, k8, k9, k10]
                · simp [Int.natCast_inj, k1, k2, k3, k4, k5, k6, k7, k8]
              · simp [Int.natCast_inj, k1, k2, k3, k4, k5, k6, k7]
            · simp [Int.natCast_inj, k1, k2, k3, k4, k5, k6]
          · simp [Int.natCast_inj, k1, k2, k3, k4, k5]
        · simp [Int.natCast_inj, k1, k2, k3, k4]
      · simp [k1, k2, k3]
    · simp [k1, k2]
  · simp [k1]
theorem guard_po : Try.prog.eqGuardType Try.prog.depth 47 = false := by kernel_rfl
theorem eqg_po (x y : Operand) (p q : Po) (w : World) : (eqGuard .eql 47 x y (pv p) (pv q)).run Try.prog w = .ok () w := by
  unfold pv
  simp [eqGuard, go_sem]
theorem neg_po (x y : Operand) (p q : Po) (w : World) : (eqGuard .neq 47 x y (pv p) (pv q)).run Try.prog w = .ok () w := by
  unfold pv
  simp [eqGuard, go_sem]
theorem eqs_po {p q : Po} (hp : PoOk p) (hq : PoOk q) (w : World) : (binOp .eql 47 (pv p) (pv q)).run Try.prog w = .ok (.bool (eqB p q)) w := by
  have h := eq_po hp hq w
  unfold pv at h ⊢
  simp [binOp, Op.equal, Op.maxDepth, h]
theorem nes_po {p q : Po} (hp : PoOk p) (hq : PoOk q) (w : World) : (binOp .neq 47 (pv p) (pv q)).run Try.prog w = .ok (.bool (!eqB p q)) w := by
  have h := eq_po hp hq w
  unfold pv at h ⊢
  simp [binOp, Op.equal, Op.maxDepth, h]
end Go.Proofs.Ytnaofcggdjbocaa.Policy
namespace Go.Proofs.Ytnaofcggdjbocaa.Policy
open Go.RowKit Go.Proofs.Ytnaofcggdjbocaa.Mem Go.Proofs.Ytnaofcggdjbocaa.Addr

def sint (a : Int) : Int := if 9223372036854775807 < a then 0 else a
def fits (a : Int) : Bool := decide (a ≤ 9223372036854775807)
def suint (n : Int) : Int := if n < 0 then 0 else n
/-- sat.Int. -/
theorem int_any (a : Int) (ha : Word a) (w : World) :
    Calls Try.prog 81 #[.int .u64 a] w fun e w' => e = .returned (.tuple #[.int .i64 (sint a), .bool (fits a)]) ∧ w' = w := by
  obtain ⟨a0, a1⟩ := ha
  by_cases h : 9223372036854775807 < a
  · have e1 : sint a = 0 := by unfold sint; rw [if_pos h]
    have e2 : fits a = false := by unfold fits; simp; omega
    rw [e1, e2]
    go_enter Try.func81, Try.ntmps81
    go_wp2
    go_ret2
    exact ⟨rfl, rfl⟩
  · have e1 : sint a = a := by unfold sint; rw [if_neg h]
    have e2 : fits a = true := by unfold fits; simp; omega
    rw [e1, e2]; clear e1 e2
    go_enter Try.func81, Try.ntmps81
    go_wp2
    go_ret2
    exact ⟨rfl, rfl⟩

/-- sat.Uint. -/
theorem uint_any (n : Int) (hn : Inty n) (w : World) :
    Calls Try.prog 60 #[.int .i64 n] w fun e w' => e = .returned (.tuple #[.int .u64 (suint n), .bool (decide (0 ≤ n))]) ∧ w' = w := by
  obtain ⟨n0, n1⟩ := hn
  by_cases h : n < 0
  · have e1 : suint n = 0 := by unfold suint; rw [if_pos h]
    have e2 : decide (0 ≤ n) = false := by simp; omega
    rw [e1, e2]
    go_enter Try.func60, Try.ntmps60
    go_wp2
    go_ret2
    exact ⟨rfl, rfl⟩
  · have e1 : suint n = n := by unfold suint; rw [if_neg h]
    have e2 : decide (0 ≤ n) = true := by simp; omega
    rw [e1, e2]; clear e1 e2
    go_enter Try.func60, Try.ntmps60
    go_wp2
    go_ret2
    exact ⟨rfl, rfl⟩
end Go.Proofs.Ytnaofcggdjbocaa.Policy
