/-
  Sectors: what an operation on one does, as a walk meets it: no cell of theirs is looked at.
-/
import Derived.Test.YthgafnommcodcaaFramePlain
import Derived.Test.YthgafnommcodcaaRowK
import Derived.Test.YthgafnommcodcaaBlk
import Derived.Test.YthgafnommcodcaaProg
import Derived.Deep.MidRow
import Derived.Laws.ResultCell
import Derived.ChangeKeysEq
import Derived.KernelRfl
import Derived.BigFrame
namespace Go.Proofs.Ythgafnommcodcaa.Sect
open Go.RowKit Go.Proofs.Ythgafnommcodcaa.Mem
set_option maxRecDepth 100000


open Go.Proofs.Ythgafnommcodcaa.Frame

def sc (s : Sec) : List Value := s.1.map (Value.int .u8)
theorem sc_len (s : Sec) : (sc s).length = 64 := by simp [sc, s.2]
theorem sc_one (s : Sec) : ∀ v ∈ sc s, v.oneCell' = true := by
  intro v hv
  obtain ⟨x, _, rfl⟩ := List.mem_map.1 hv
  rfl
/-- The value of a sector, of a write. -/
def secv (s : Sec) : Value := .agg (sc s).toArray
section
variable {P : Program}
/-- A whole value into a block that is known whole. -/
theorem wp_store_blk {o : Oper} {a : Act} {w : World} {K : Act → World → Prop} {Q : Exit → Act → World → Prop} (ty : TypeId) (x y : Operand) (ho : o.op = .store ty x y) (g : Nat) (t : TypeId) (cs cs' : List Value)
    (hx : a.eval x = .pointer (some ⟨g, 0, none⟩)) (hy : a.eval y = .agg cs'.toArray) (hb : Blk w g t cs) (hi : (P.info? ty).map (·.size) = some cs'.length) (hl : cs.length = cs'.length) (h1 : ∀ v ∈ cs', v.oneCell' = true)
    (h : ∀ w', Blk w' g t cs' → w.grownBy w' (some g) → K (a.put o.dst undef) w') : o.wp P a w K Q := by
  unfold Oper.wp execOp
  simp only [ho, hx, hy, Instr.storeAt, Instr.sureAddr, Sem.run_bind, Sem.run_pure, Result.andThen_ok, run_storeVar_row w g t ty cs.toArray cs'.toArray hb (by simpa using hi) (by simpa using hl) (all_oneCell_toArray h1)]
  refine h _ ?_ ⟨rfl, rfl, rfl, by simp [World.setRow], fun k _ hk => setRow_other w g k _ (fun e => hk (by simp [e]))⟩
  exact setRow_heap w g _ _ t _ hb
/-- Two results, the first of which lies in a block of its own. -/
theorem ret_cell {fn : Func} {p u : Tmp} {ty : TypeId} {R : Ending → World → Prop} {a : Act} {w : World} (h : fn.results = #[.cell p ty, .tmp u]) (hd : a.defers = []) (g : Nat) (t : TypeId) (cs : List Value) (d : TypeDesc)
    (hp : a.tmps.getD p undef = .pointer (some ⟨g, 0, none⟩)) (hb : Blk w g t cs) (hu : P.underlying ty = some d) (hdd : (match d with | .struct _ | .array _ _ => true | _ => false) = true) (hi : (P.info? ty).map (·.size) = some cs.length)
    (hR : R (.returned (.tuple #[.agg cs.toArray, a.tmps.getD u undef])) w) : bodyPost P fn R .ret a w := by
  refine bodyPost_ret (v := .tuple #[.agg cs.toArray, a.tmps.getD u undef]) ?_ hd hR
  rw [results_cell_tmp h, hp]
  simp only [asAddr, Sem.run_pure, Result.andThen_ok, run_loadVar_row w g t ty cs.toArray (0, 0) d hb hu hdd (by simpa using hi)]
theorem ret_cell1 {fn : Func} {p : Tmp} {ty : TypeId} {R : Ending → World → Prop} {a : Act} {w : World} (h : fn.results = #[.cell p ty]) (hd : a.defers = []) (g : Nat) (t : TypeId) (cs : List Value) (d : TypeDesc)
    (hp : a.tmps.getD p undef = .pointer (some ⟨g, 0, none⟩)) (hb : Blk w g t cs) (hu : P.underlying ty = some d) (hdd : (match d with | .struct _ | .array _ _ => true | _ => false) = true) (hi : (P.info? ty).map (·.size) = some cs.length)
    (hR : R (.returned (.agg cs.toArray)) w) : bodyPost P fn R .ret a w :=
  bodyPost_ret (results_cell_row h _ w g t cs.toArray (0, 0) d hp hb hu hdd (by simpa using hi)) hd hR
end
theorem size_sec (s : Sec) : (Try.prog.info? 70).map (·.size) = some (sc s).length := by rw [sc_len]; kernel_rfl
theorem und_sec : Try.prog.underlying 70 = some (.array 64 5) := rfl
theorem zero_sec : (Try.prog.info? 70).map (fun i => i.zero) = some (some (secv zero)) := by kernel_rfl
section
variable {o : Oper} {a : Act} {w : World} {K : Act → World → Prop} {Q : Exit → Act → World → Prop}
/-- A variable of that kind. -/
theorem wp_alloc_z (t : TypeId) (z : List Value) (ho : o.op = .alloc t) (hz : (Try.prog.info? t).map (fun i => i.zero) = some (some (.agg z.toArray)))
    (h : K (a.put o.dst (.pointer (some ⟨w.heap.size, 0, none⟩))) (w.alloc (.cells z.toArray t))) : o.wp Try.prog a w K Q := by
  obtain ⟨i, hi, hz'⟩ := Option.map_eq_some_iff.1 hz
  unfold Oper.wp execOp
  simp [ho, Instr.alloc, zeroValue, typeInfo, hi, hz', newVar, Sem.run_bind, Result.andThen, Value.cells]
  exact h
theorem wp_box_v (t : TypeId) (x : Operand) (cs : List Value) (ho : o.op = .box t x) (hx : a.eval x = .agg cs.toArray)
    (h : K (a.put o.dst (.pointer (some ⟨w.heap.size, 0, none⟩))) (w.alloc (.cells cs.toArray t))) : o.wp Try.prog a w K Q := by
  unfold Oper.wp execOp
  simp [ho, hx, Instr.box, newVar, Result.andThen, Value.cells]
  exact h
end
theorem run_build0 (w : World) : (Instr.build 70 #[]).run Try.prog w = .ok (secv zero) w := by rfl
theorem sec_form (s : Sec) : ∃ f : Nat → Int, s = ⟨(List.range 64).map f, by simp⟩ := by
  refine ⟨fun i => s.1.getD i 0, Subtype.ext ?_⟩
  refine List.ext_getElem? fun i => ?_
  have h := s.2
  rcases Nat.lt_or_ge i 64 with hi | hi
  · simp [hi, List.getElem?_eq_getElem (show i < s.1.length by omega)]
  · rw [List.getElem?_eq_none (by omega)]; simp [hi]
theorem run_lits (s : Sec) (w : World) : (Instr.buildSlice 36 1 #[(0, secv s)]).run Try.prog w = .ok (.slice (some ⟨w.heap.size, 0, none⟩) 1 1) (w.alloc (.cells (sc s).toArray 70)) := by
  obtain ⟨f, rfl⟩ := sec_form s
  kernel_rfl
theorem cells_u8 : Try.prog.cellsOf 5 = 1 := by kernel_rfl
theorem info_u8 : ∃ i, Try.prog.info? 5 = some i := Option.isSome_iff_exists.1 (by kernel_rfl)
theorem eq_items (d : Nat) (s t : Sec) (w : World) : ∀ is : List Nat, (∀ j ∈ is, j < 64) →
    (Op.eqItems (d + 1) 5 1 (sc s).toArray (sc t).toArray is).run Try.prog w = .ok (is.all fun j => s.1.getD j 0 == t.1.getD j 0) w
  | [], _ => by simp [Op.eqItems]
  | j :: r, h => by
    have hj := h j (by simp)
    have hs : (sc s)[j]? = some (.int .u8 (s.1.getD j 0)) := by simp [sc, List.getElem?_eq_getElem (show j < s.1.length by rw [s.2]; exact hj)]
    have ht : (sc t)[j]? = some (.int .u8 (t.1.getD j 0)) := by simp [sc, List.getElem?_eq_getElem (show j < t.1.length by rw [t.2]; exact hj)]
    have ih := eq_items d s t w r fun k hk => h k (by simp [hk])
    simp only [Op.eqItems, Nat.mul_one]
    simp [part, Try.sizeOf5, Try.isAgg5, hs, ht, go_sem]
    by_cases e : s.1[j]?.getD 0 = t.1[j]?.getD 0
    · simp [e, ih]
    · simp [e]
theorem eq_sec (s t : Sec) (w : World) : (Op.equalIn 10000 70 (secv s) (secv t)).run Try.prog w = .ok (decide (s = t)) w := by
  obtain ⟨i, hi⟩ := info_u8
  unfold secv
  rw [run_equalIn_array w 9999 _ _ und_sec hi, cells_u8, eq_items 9998 s t w _ (fun j hj => by simpa using hj)]
  congr 1
  by_cases h : s = t
  · subst h; simp
  · rw [decide_eq_false h]
    refine Bool.eq_false_iff.2 fun q => h (Subtype.ext (List.ext_getElem? fun i => ?_))
    simp only [List.all_eq_true, List.mem_range, beq_iff_eq] at q
    have h1 := s.2
    have h2 := t.2
    rcases Nat.lt_or_ge i 64 with hi | hi
    · have := q i hi
      simp only [List.getD_eq_getElem?_getD, List.getElem?_eq_getElem (show i < s.1.length by omega), List.getElem?_eq_getElem (show i < t.1.length by omega), Option.getD_some] at this
      rw [List.getElem?_eq_getElem (show i < s.1.length by omega), List.getElem?_eq_getElem (show i < t.1.length by omega), this]
    · rw [List.getElem?_eq_none (by omega), List.getElem?_eq_none (by omega)]

theorem eq_guard (x y : Operand) (s t : Sec) (w : World) : (eqGuard .eql 70 x y (secv s) (secv t)).run Try.prog w = .ok () w := by
  unfold secv
  simp [eqGuard, go_sem]
theorem ne_guard (x y : Operand) (s t : Sec) (w : World) : (eqGuard .neq 70 x y (secv s) (secv t)).run Try.prog w = .ok () w := by
  unfold secv
  simp [eqGuard, go_sem]
theorem eq_secs (s t : Sec) (w : World) : (binOp .eql 70 (secv s) (secv t)).run Try.prog w = .ok (.bool (decide (s = t))) w := by
  have h := eq_sec s t w
  unfold secv at h ⊢
  simp [binOp, Op.equal, Op.maxDepth, h]
theorem ne_secs (s t : Sec) (w : World) : (binOp .neq 70 (secv s) (secv t)).run Try.prog w = .ok (.bool (!decide (s = t))) w := by
  have h := eq_sec s t w
  unfold secv at h ⊢
  simp [binOp, Op.equal, Op.maxDepth, h]
theorem wrap_int {x : Int} (h : Inty x) : IntKind.i64.wrap x = x := by
  obtain ⟨h1, h2⟩ := h
  simp [IntKind.wrap, IntKind.signed, IntKind.bits]
  omega
section
variable {o : Oper} {a : Act} {w : World} {K : Act → World → Prop} {Q : Exit → Act → World → Prop}
theorem new_blk (w : World) (cs : List Value) (t : TypeId) : Blk (w.alloc (.cells cs.toArray t)) w.heap.size t cs := by simpa using Blk.new w cs.toArray t
theorem wp_alloc_sec (ho : o.op = .alloc 70) (h : ∀ w', Blk w' w.heap.size 70 (sc zero) → Below w.heap.size w w' → Hid (w'.heap.size = w.heap.size + 1) → K (a.put o.dst (.pointer (some ⟨w.heap.size, 0, none⟩))) w') : o.wp Try.prog a w K Q :=
  wp_alloc_z _ (sc zero) ho zero_sec (h _ (new_blk _ _ _) (bnew _ _) (by unfold Hid; simp))
theorem wp_box_sec (x : Operand) (s : Sec) (ho : o.op = .box 70 x) (hx : a.eval x = secv s) (h : ∀ w', Blk w' w.heap.size 70 (sc s) → Below w.heap.size w w' → Hid (w'.heap.size = w.heap.size + 1) → K (a.put o.dst (.pointer (some ⟨w.heap.size, 0, none⟩))) w') : o.wp Try.prog a w K Q :=
  wp_box_v _ x (sc s) ho hx (h _ (new_blk _ _ _) (bnew _ _) (by unfold Hid; simp))
theorem wp_run {v : Value} {w' : World} (m : Sem Value) (hm : execOp a.eval o = (do pure (.value (← m)))) (hr : m.run Try.prog w = .ok v w') (h : K (a.put o.dst v) w') : o.wp Try.prog a w K Q := by
  unfold Oper.wp
  rw [hm]
  simp only [Sem.run_bind, hr, Result.andThen_ok, Sem.run_pure]
  exact h
theorem wp_build0 (ho : o.op = .build 70 #[]) (h : K (a.put o.dst (secv zero)) w) : o.wp Try.prog a w K Q :=
  wp_run (Instr.build 70 #[]) (by simp [execOp, ho]) (run_build0 w) h
theorem wp_lits (x : Operand) (s : Sec) (ho : o.op = .buildSlice 36 1 #[(0, x)]) (hx : a.eval x = secv s) (h : ∀ w', Blk w' w.heap.size 70 (sc s) → Below w.heap.size w w' → Hid (w'.heap.size = w.heap.size + 1) → K (a.put o.dst (.slice (some ⟨w.heap.size, 0, none⟩) 1 1)) w') : o.wp Try.prog a w K Q :=
  wp_run (Instr.buildSlice 36 1 #[(0, secv s)]) (by simp [execOp, ho, hx]) (run_lits s w) (h _ (new_blk _ _ _) (bnew _ _) (by unfold Hid; simp))
theorem wp_load_sec (x : Operand) (b p : Nat) (s : Sec) (ho : o.op = .load 70 x) (hx : a.eval x = .pointer (some ⟨b, p, none⟩)) (hc : w.rangeAt b p (sc s)) (h : K (a.put o.dst (secv s)) w) : o.wp Try.prog a w K Q :=
  wp_load_mid _ x ho b p hx (sc s) _ hc und_sec rfl (size_sec s) h
theorem wp_store_sec (x y : Operand) (g : Nat) (s0 s : Sec) (ho : o.op = .store 70 x y) (hx : a.eval x = .pointer (some ⟨g, 0, none⟩)) (hy : a.eval y = secv s) (hb : Blk w g 70 (sc s0))
    (h : ∀ w', Blk w' g 70 (sc s) → w.grownBy w' (some g) → Hid (w'.heap.size = w.heap.size) → K (a.put o.dst undef) w') : o.wp Try.prog a w K Q := by
  unfold Oper.wp execOp
  have e := run_storeVar_row (P := Try.prog) w g 70 70 (sc s0).toArray (sc s).toArray hb (by simpa using size_sec s) (by simp [sc_len]) (all_oneCell_toArray (sc_one s))
  simp only [ho, hx, hy, secv, Instr.storeAt, Instr.sureAddr, Sem.run_bind, Sem.run_pure, Result.andThen_ok, e]
  exact h _ (setRow_heap w g _ _ _ _ hb) ⟨rfl, rfl, rfl, by simp [World.setRow], fun k _ hk => setRow_other w g k _ (fun e => hk (by simp [e]))⟩ (by unfold Hid; simp [World.setRow])
end
section
variable {o : Oper} {a : Act} {w : World} {ops : Array Oper} {rest : List Oper} {Q : Exit → Act → World → Prop}
theorem at_alloc_sec (ho : o.op = .alloc 70) (hw : Region.wanted o (yielded ops a.tmps) = true) (h : ∀ w', Blk w' w.heap.size 70 (sc zero) → Below w.heap.size w w' → Hid (w'.heap.size = w.heap.size + 1) → wpList Try.prog ops Q rest (a.put o.dst (.pointer (some ⟨w.heap.size, 0, none⟩))) w') : wpList Try.prog ops Q (o :: rest) a w :=
  BigFrame.wpList_want hw fun _ hK => wp_alloc_sec ho (fun w2 h1 h2 h3 => hK _ _ (h w2 h1 h2 h3))
theorem at_box_sec (x : Operand) (s : Sec) (ho : o.op = .box 70 x) (hx : a.eval x = secv s) (hw : Region.wanted o (yielded ops a.tmps) = true) (h : ∀ w', Blk w' w.heap.size 70 (sc s) → Below w.heap.size w w' → Hid (w'.heap.size = w.heap.size + 1) → wpList Try.prog ops Q rest (a.put o.dst (.pointer (some ⟨w.heap.size, 0, none⟩))) w') : wpList Try.prog ops Q (o :: rest) a w :=
  BigFrame.wpList_want hw fun _ hK => wp_box_sec x s ho hx (fun w2 h1 h2 h3 => hK _ _ (h w2 h1 h2 h3))
theorem at_build0 (ho : o.op = .build 70 #[]) (hw : Region.wanted o (yielded ops a.tmps) = true) (h : wpList Try.prog ops Q rest (a.put o.dst (secv zero)) w) : wpList Try.prog ops Q (o :: rest) a w :=
  BigFrame.wpList_want hw fun _ hK => wp_build0 ho (hK _ _ h)
theorem at_lits (x : Operand) (s : Sec) (ho : o.op = .buildSlice 36 1 #[(0, x)]) (hx : a.eval x = secv s) (hw : Region.wanted o (yielded ops a.tmps) = true) (h : ∀ w', Blk w' w.heap.size 70 (sc s) → Below w.heap.size w w' → Hid (w'.heap.size = w.heap.size + 1) → wpList Try.prog ops Q rest (a.put o.dst (.slice (some ⟨w.heap.size, 0, none⟩) 1 1)) w') : wpList Try.prog ops Q (o :: rest) a w :=
  BigFrame.wpList_want hw fun _ hK => wp_lits x s ho hx (fun w2 h1 h2 h3 => hK _ _ (h w2 h1 h2 h3))
theorem at_load_sec (x : Operand) (b p : Nat) (s : Sec) (ho : o.op = .load 70 x) (hx : a.eval x = .pointer (some ⟨b, p, none⟩)) (hc : w.rangeAt b p (sc s)) (hw : Region.wanted o (yielded ops a.tmps) = true) (h : wpList Try.prog ops Q rest (a.put o.dst (secv s)) w) : wpList Try.prog ops Q (o :: rest) a w :=
  BigFrame.wpList_want hw fun _ hK => wp_load_sec x b p s ho hx hc (hK _ _ h)
theorem at_store_sec (x y : Operand) (g : Nat) (s0 s : Sec) (ho : o.op = .store 70 x y) (hx : a.eval x = .pointer (some ⟨g, 0, none⟩)) (hy : a.eval y = secv s) (hb : Blk w g 70 (sc s0)) (hw : Region.wanted o (yielded ops a.tmps) = true) (h : ∀ w', Blk w' g 70 (sc s) → w.grownBy w' (some g) → Hid (w'.heap.size = w.heap.size) → wpList Try.prog ops Q rest (a.put o.dst undef) w') : wpList Try.prog ops Q (o :: rest) a w :=
  BigFrame.wpList_want hw fun _ hK => wp_store_sec x y g s0 s ho hx hy hb (fun w2 h1 h2 h3 => hK _ _ (h w2 h1 h2 h3))
end
/-- A sector's range in its block, a write's, and the sector within a write. -/
theorem blk_sec {w : World} {g : Nat} {t : TypeId} {s : Sec} (h : Blk w g t (sc s)) : w.rangeAt g 0 (sc s) := fun j v hv => by rw [Nat.zero_add, h.cell]; exact hv
theorem made_zero : ∀ n : Nat, (madeCells (secv zero).cells (n * 64)).toList = (List.replicate n zero).flatMap sc := by
  intro n
  refine List.ext_getElem? fun j => ?_
  have e1 : (secv zero).cells = (sc zero).toArray := rfl
  have hz : ∀ k, k < 64 → (sc zero)[k]? = some (.int .u8 0) := fun k hk => by simp only [sc, zero, List.getElem?_map, List.getElem?_replicate, hk, if_true, Option.map_some]
  rcases Nat.lt_or_ge j (n * 64) with hj | hj
  · have hq : j / 64 < n := by omega
    have e2 := get_flat sc_len (List.replicate n zero) (j / 64) (j % 64) zero (by simp [hq]) (by omega)
    rw [show j / 64 * 64 + j % 64 = j by omega, hz _ (by omega)] at e2
    rw [e2, e1]
    simp [madeCells, hj, sc_len, hz (j % 64) (by omega)]
  · rw [List.getElem?_eq_none (by simp [madeCells]; exact hj), List.getElem?_eq_none (by rw [len_flat sc_len]; simpa using hj)]
theorem info_sec : ∃ i, Try.prog.info? 70 = some i ∧ i.zero = some (secv zero) ∧ i.size = 64 ∧ i.bytes = 64 := by
  have h : (Try.prog.info? 70).map (fun i => (i.zero, i.size, i.bytes)) = some (some (secv zero), 64, 64) := by kernel_rfl
  obtain ⟨i, h1, h2⟩ := Option.map_eq_some_iff.1 h
  simp only [Prod.mk.injEq] at h2
  exact ⟨i, h1, h2⟩
theorem run_make_secs (w : World) (n : Nat) (k : Int) (hk : k = n) (hn : n ≤ 1000) : ∃ w', (Instr.makeSlice 36 (.int .i64 k) (.int .i64 k)).run Try.prog w = .ok (.slice (some ⟨w.heap.size, 0, none⟩) n n) w' ∧
    w'.ownsRow w.heap.size 70 64 (.slice (some ⟨w.heap.size, 0, none⟩) n n) n ((List.replicate n zero).flatMap sc) ∧ w.grownBy w' none := by
  subst hk
  obtain ⟨i, h1, h2, h3, h4⟩ := info_sec
  obtain ⟨w', hr, ho, hg⟩ := run_make_full (P := Try.prog) w w.heap.size 36 70 i (secv zero) 64 Try.underlying36 h1 h2 h3 .i64 .i64 n (by rw [h4]; omega) (by unfold maxLen; omega) (Nat.le_refl _)
  rw [made_zero] at ho
  exact ⟨w', hr, ho, hg⟩
end Go.Proofs.Ythgafnommcodcaa.Sect
