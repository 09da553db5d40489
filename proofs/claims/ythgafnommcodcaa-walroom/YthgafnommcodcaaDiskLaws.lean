/-
  What an operation on a sector or a write does, as a walk meets it: no cell of theirs is looked at.
-/
import Derived.Test.YthgafnommcodcaaDiskSmall
namespace Go.Proofs.Ythgafnommcodcaa.Disk
open Go.RowKit Go.Proofs.Ythgafnommcodcaa.Mem Go.Proofs.Ythgafnommcodcaa.Sect
open Go.Proofs.Ythgafnommcodcaa.Frame (Sec zero)
set_option maxRecDepth 100000

section
variable {o : Oper} {a : Act} {w : World} {K : Act → World → Prop} {Q : Exit → Act → World → Prop}
theorem wp_alloc_wr (ho : o.op = .alloc 119) (h : ∀ w', Blk w' w.heap.size 119 (wc (0, zero)) → Below w.heap.size w w' → Hid (w'.heap.size = w.heap.size + 1) → K (a.put o.dst (.pointer (some ⟨w.heap.size, 0, none⟩))) w') : o.wp Try.prog a w K Q :=
  wp_alloc_z _ (wc (0, zero)) ho zero_wr (h _ (new_blk _ _ _) (bnew _ _) (by unfold Hid; simp))
theorem zero_rf : (Try.prog.info? 117).map (fun i => i.zero) = some (some (wrv (0, zero))) := by kernel_rfl
theorem wp_alloc_rf (ho : o.op = .alloc 117) (h : ∀ w', Blk w' w.heap.size 117 (wc (0, zero)) → Below w.heap.size w w' → Hid (w'.heap.size = w.heap.size + 1) → K (a.put o.dst (.pointer (some ⟨w.heap.size, 0, none⟩))) w') : o.wp Try.prog a w K Q :=
  wp_alloc_z _ (wc (0, zero)) ho zero_rf (h _ (new_blk _ _ _) (bnew _ _) (by unfold Hid; simp))
theorem wp_build1 (x : Operand) (b : Int) (ho : o.op = .build 70 #[(0, x)]) (hx : a.eval x = .int .u8 b) (h : K (a.put o.dst (secv (one b))) w) : o.wp Try.prog a w K Q :=
  wp_run (Instr.build 70 #[(0, .int .u8 b)]) (by simp [execOp, ho, hx]) (run_build1 b w) h
theorem wp_build2 (x y : Operand) (b c : Int) (ho : o.op = .build 70 #[(0, x), (1, y)]) (hx : a.eval x = .int .u8 b) (hy : a.eval y = .int .u8 c) (h : K (a.put o.dst (secv (two b c))) w) : o.wp Try.prog a w K Q :=
  wp_run (Instr.build 70 #[(0, .int .u8 b), (1, .int .u8 c)]) (by simp [execOp, ho, hx, hy]) (run_build2 b c w) h
theorem wp_buildw (x y : Operand) (i : Int) (s : Sec) (ho : o.op = .build 119 #[(0, x), (1, y)]) (hx : a.eval x = .int .i64 i) (hy : a.eval y = secv s) (h : K (a.put o.dst (wrv (i, s))) w) : o.wp Try.prog a w K Q :=
  wp_run (Instr.build 119 #[(0, .int .i64 i), (1, secv s)]) (by simp [execOp, ho, hx, hy]) (run_buildw i s w) h
theorem wp_buildr (x y : Operand) (i : Int) (s : Sec) (ho : o.op = .build 117 #[(0, x), (1, y)]) (hx : a.eval x = .int .i64 i) (hy : a.eval y = secv s) (h : K (a.put o.dst (wrv (i, s))) w) : o.wp Try.prog a w K Q :=
  wp_run (Instr.build 117 #[(0, .int .i64 i), (1, secv s)]) (by simp [execOp, ho, hx, hy]) (run_buildr i s w) h
theorem wp_litw (x : Operand) (y : Wr) (ho : o.op = .buildSlice 81 1 #[(0, x)]) (hx : a.eval x = wrv y) (h : ∀ w', Blk w' w.heap.size 119 (wc y) → Below w.heap.size w w' → Hid (w'.heap.size = w.heap.size + 1) → K (a.put o.dst (.slice (some ⟨w.heap.size, 0, none⟩) 1 1)) w') : o.wp Try.prog a w K Q :=
  wp_run (Instr.buildSlice 81 1 #[(0, wrv y)]) (by simp [execOp, ho, hx]) (run_litw y w) (h _ (new_blk _ _ _) (bnew _ _) (by unfold Hid; simp))
theorem wp_litr (x : Operand) (y : Wr) (ho : o.op = .buildSlice 37 1 #[(0, x)]) (hx : a.eval x = wrv y) (h : ∀ w', Blk w' w.heap.size 117 (wc y) → Below w.heap.size w w' → Hid (w'.heap.size = w.heap.size + 1) → K (a.put o.dst (.slice (some ⟨w.heap.size, 0, none⟩) 1 1)) w') : o.wp Try.prog a w K Q :=
  wp_run (Instr.buildSlice 37 1 #[(0, wrv y)]) (by simp [execOp, ho, hx]) (run_litr y w) (h _ (new_blk _ _ _) (bnew _ _) (by unfold Hid; simp))
theorem wp_load_wr (x : Operand) (b p : Nat) (y : Wr) (ho : o.op = .load 119 x) (hx : a.eval x = .pointer (some ⟨b, p, none⟩)) (hc : w.rangeAt b p (wc y)) (h : K (a.put o.dst (wrv y)) w) : o.wp Try.prog a w K Q :=
  wp_load_mid _ x ho b p hx (wc y) _ hc (by rfl) rfl (size_wr y) h
theorem size_rf (x : Wr) : (Try.prog.info? 117).map (·.size) = some (wc x).length := by rw [wc_len]; kernel_rfl
theorem wp_load_rf (x : Operand) (b p : Nat) (y : Wr) (ho : o.op = .load 117 x) (hx : a.eval x = .pointer (some ⟨b, p, none⟩)) (hc : w.rangeAt b p (wc y)) (h : K (a.put o.dst (wrv y)) w) : o.wp Try.prog a w K Q :=
  wp_load_mid _ x ho b p hx (wc y) _ hc (by rfl) rfl (size_rf y) h
theorem wp_store_wv (t : TypeId) (x y : Operand) (g : Nat) (s0 s : Wr) (hi : (Try.prog.info? t).map (·.size) = some (wc s).length) (ho : o.op = .store t x y) (hx : a.eval x = .pointer (some ⟨g, 0, none⟩)) (hy : a.eval y = wrv s) (hb : Blk w g t (wc s0))
    (h : ∀ w', Blk w' g t (wc s) → w.grownBy w' (some g) → Hid (w'.heap.size = w.heap.size) → K (a.put o.dst undef) w') : o.wp Try.prog a w K Q := by
  unfold Oper.wp execOp
  have e := run_storeVar_row (P := Try.prog) w g t t (wc s0).toArray (wc s).toArray hb (by simpa using hi) (by simp [wc_len]) (all_oneCell_toArray (wc_one s))
  simp only [ho, hx, hy, wrv, Instr.storeAt, Instr.sureAddr, Sem.run_bind, Sem.run_pure, Result.andThen_ok, e]
  exact h _ (setRow_heap w g _ _ _ _ hb) ⟨rfl, rfl, rfl, by simp [World.setRow], fun k _ hk => setRow_other w g k _ (fun e => hk (by simp [e]))⟩ (by unfold Hid; simp [World.setRow])
end
section
variable {o : Oper} {a : Act} {w : World} {ops : Array Oper} {rest : List Oper} {Q : Exit → Act → World → Prop}
theorem at_alloc_wr (ho : o.op = .alloc 119) (hw : Region.wanted o (yielded ops a.tmps) = true) (h : ∀ w', Blk w' w.heap.size 119 (wc (0, zero)) → Below w.heap.size w w' → Hid (w'.heap.size = w.heap.size + 1) → wpList Try.prog ops Q rest (a.put o.dst (.pointer (some ⟨w.heap.size, 0, none⟩))) w') : wpList Try.prog ops Q (o :: rest) a w :=
  BigFrame.wpList_want hw fun _ hK => wp_alloc_wr ho (fun w2 h1 h2 h3 => hK _ _ (h w2 h1 h2 h3))
theorem at_alloc_rf (ho : o.op = .alloc 117) (hw : Region.wanted o (yielded ops a.tmps) = true) (h : ∀ w', Blk w' w.heap.size 117 (wc (0, zero)) → Below w.heap.size w w' → Hid (w'.heap.size = w.heap.size + 1) → wpList Try.prog ops Q rest (a.put o.dst (.pointer (some ⟨w.heap.size, 0, none⟩))) w') : wpList Try.prog ops Q (o :: rest) a w :=
  BigFrame.wpList_want hw fun _ hK => wp_alloc_rf ho (fun w2 h1 h2 h3 => hK _ _ (h w2 h1 h2 h3))
theorem at_build1 (x : Operand) (b : Int) (ho : o.op = .build 70 #[(0, x)]) (hx : a.eval x = .int .u8 b) (hw : Region.wanted o (yielded ops a.tmps) = true) (h : wpList Try.prog ops Q rest (a.put o.dst (secv (one b))) w) : wpList Try.prog ops Q (o :: rest) a w :=
  BigFrame.wpList_want hw fun _ hK => wp_build1 x b ho hx (hK _ _ h)
theorem at_build2 (x y : Operand) (b c : Int) (ho : o.op = .build 70 #[(0, x), (1, y)]) (hx : a.eval x = .int .u8 b) (hy : a.eval y = .int .u8 c) (hw : Region.wanted o (yielded ops a.tmps) = true) (h : wpList Try.prog ops Q rest (a.put o.dst (secv (two b c))) w) : wpList Try.prog ops Q (o :: rest) a w :=
  BigFrame.wpList_want hw fun _ hK => wp_build2 x y b c ho hx hy (hK _ _ h)
theorem at_buildw (x y : Operand) (i : Int) (s : Sec) (ho : o.op = .build 119 #[(0, x), (1, y)]) (hx : a.eval x = .int .i64 i) (hy : a.eval y = secv s) (hw : Region.wanted o (yielded ops a.tmps) = true) (h : wpList Try.prog ops Q rest (a.put o.dst (wrv (i, s))) w) : wpList Try.prog ops Q (o :: rest) a w :=
  BigFrame.wpList_want hw fun _ hK => wp_buildw x y i s ho hx hy (hK _ _ h)
theorem at_buildr (x y : Operand) (i : Int) (s : Sec) (ho : o.op = .build 117 #[(0, x), (1, y)]) (hx : a.eval x = .int .i64 i) (hy : a.eval y = secv s) (hw : Region.wanted o (yielded ops a.tmps) = true) (h : wpList Try.prog ops Q rest (a.put o.dst (wrv (i, s))) w) : wpList Try.prog ops Q (o :: rest) a w :=
  BigFrame.wpList_want hw fun _ hK => wp_buildr x y i s ho hx hy (hK _ _ h)
theorem at_litw (x : Operand) (y : Wr) (ho : o.op = .buildSlice 81 1 #[(0, x)]) (hx : a.eval x = wrv y) (hw : Region.wanted o (yielded ops a.tmps) = true) (h : ∀ w', Blk w' w.heap.size 119 (wc y) → Below w.heap.size w w' → Hid (w'.heap.size = w.heap.size + 1) → wpList Try.prog ops Q rest (a.put o.dst (.slice (some ⟨w.heap.size, 0, none⟩) 1 1)) w') : wpList Try.prog ops Q (o :: rest) a w :=
  BigFrame.wpList_want hw fun _ hK => wp_litw x y ho hx (fun w2 h1 h2 h3 => hK _ _ (h w2 h1 h2 h3))
theorem at_litr (x : Operand) (y : Wr) (ho : o.op = .buildSlice 37 1 #[(0, x)]) (hx : a.eval x = wrv y) (hw : Region.wanted o (yielded ops a.tmps) = true) (h : ∀ w', Blk w' w.heap.size 117 (wc y) → Below w.heap.size w w' → Hid (w'.heap.size = w.heap.size + 1) → wpList Try.prog ops Q rest (a.put o.dst (.slice (some ⟨w.heap.size, 0, none⟩) 1 1)) w') : wpList Try.prog ops Q (o :: rest) a w :=
  BigFrame.wpList_want hw fun _ hK => wp_litr x y ho hx (fun w2 h1 h2 h3 => hK _ _ (h w2 h1 h2 h3))
theorem at_load_wr (x : Operand) (b p : Nat) (y : Wr) (ho : o.op = .load 119 x) (hx : a.eval x = .pointer (some ⟨b, p, none⟩)) (hc : w.rangeAt b p (wc y)) (hw : Region.wanted o (yielded ops a.tmps) = true) (h : wpList Try.prog ops Q rest (a.put o.dst (wrv y)) w) : wpList Try.prog ops Q (o :: rest) a w :=
  BigFrame.wpList_want hw fun _ hK => wp_load_wr x b p y ho hx hc (hK _ _ h)
theorem at_load_rf (x : Operand) (b p : Nat) (y : Wr) (ho : o.op = .load 117 x) (hx : a.eval x = .pointer (some ⟨b, p, none⟩)) (hc : w.rangeAt b p (wc y)) (hw : Region.wanted o (yielded ops a.tmps) = true) (h : wpList Try.prog ops Q rest (a.put o.dst (wrv y)) w) : wpList Try.prog ops Q (o :: rest) a w :=
  BigFrame.wpList_want hw fun _ hK => wp_load_rf x b p y ho hx hc (hK _ _ h)
theorem at_store_wv (t : TypeId) (x y : Operand) (g : Nat) (s0 s : Wr) (hi : (Try.prog.info? t).map (·.size) = some (wc s).length) (ho : o.op = .store t x y) (hx : a.eval x = .pointer (some ⟨g, 0, none⟩)) (hy : a.eval y = wrv s) (hb : Blk w g t (wc s0)) (hw : Region.wanted o (yielded ops a.tmps) = true) (h : ∀ w', Blk w' g t (wc s) → w.grownBy w' (some g) → Hid (w'.heap.size = w.heap.size) → wpList Try.prog ops Q rest (a.put o.dst undef) w') : wpList Try.prog ops Q (o :: rest) a w :=
  BigFrame.wpList_want hw fun _ hK => wp_store_wv t x y g s0 s hi ho hx hy hb (fun w2 h1 h2 h3 => hK _ _ (h w2 h1 h2 h3))

end
theorem blk_wr {w : World} {g : Nat} {t : TypeId} {x : Wr} (h : Blk w g t (wc x)) : w.rangeAt g 0 (wc x) := fun j v hv => by rw [Nat.zero_add, h.cell]; exact hv
theorem blk_wsec {w : World} {g : Nat} {t : TypeId} {x : Wr} (h : Blk w g t (wc x)) : w.rangeAt g 1 (sc x.2) := fun j v hv => by
  rw [h.cell, Nat.add_comm]
  exact hv
theorem blk_wat {w : World} {g : Nat} {t : TypeId} {x : Wr} (h : Blk w g t (wc x)) : w.cell? ⟨g, 0, none⟩ = some (.int .i64 x.1) := by
  rw [h.cell]; rfl
end Go.Proofs.Ythgafnommcodcaa.Disk
