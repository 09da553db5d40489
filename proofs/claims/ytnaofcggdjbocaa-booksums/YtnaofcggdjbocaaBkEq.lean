/-
  Entries held against one another.
-/
import Derived.Test.YtnaofcggdjbocaaBkPlain
import Derived.Test.YtnaofcggdjbocaaPolSat
/-
  Entries and books in memory: what an operation on one does, as a walk meets it. (Written by gen_bkmem.py.)
-/
namespace Go.Proofs.Ytnaofcggdjbocaa.Book
open Go.RowKit Go.Proofs.Ytnaofcggdjbocaa.Mem Go.Proofs.Ytnaofcggdjbocaa.Policy Go.Proofs.Ytnaofcggdjbocaa.Event
set_option maxRecDepth 100000

/-- An entry's cells: its policy's, and what is granted. -/
def nl (e : En) : List Value := pl e.p ++ [Value.int .u64 e.g]
def nv (e : En) : Value := .agg (nl e).toArray
theorem len_en (e : En) : (nl e).length = 14 := rfl
theorem one_en (e : En) : ∀ v ∈ nl e, v.oneCell' = true := by
  intro v hv
  rcases List.mem_append.1 hv with hv | hv
  · exact pl_one e.p v hv
  · rw [List.mem_singleton.1 hv]; rfl
theorem size_en : (Try.prog.info? 49).map (·.size) = some 14 := by kernel_rfl
theorem zero_en : (Try.prog.info? 49).map (fun i => i.zero) = some (some (nv zeroN)) := by kernel_rfl
section
variable {o : Oper} {a : Act} {w : World} {K : Act → World → Prop} {ops : Array Oper} {rest : List Oper} {Q : Exit → Act → World → Prop}
theorem wp_box_en (x : Operand) (p : En) (ho : o.op = .box 49 x) (hx : a.eval x = nv p) (h : ∀ w', Blk w' w.heap.size 49 (nl p) → Below w.heap.size w w' → Hid (w'.heap.size = w.heap.size + 1) → K (a.put o.dst (.pointer (some ⟨w.heap.size, 0, none⟩))) w') : o.wp Try.prog a w K Q :=
  wp_box_v _ x (nl p) ho hx (h _ (new_blk _ _ _) (bnew _ _) (by unfold Hid; simp))
theorem wp_alloc_en (ho : o.op = .alloc 49) (h : ∀ w', Blk w' w.heap.size 49 (nl zeroN) → Below w.heap.size w w' → Hid (w'.heap.size = w.heap.size + 1) → K (a.put o.dst (.pointer (some ⟨w.heap.size, 0, none⟩))) w') : o.wp Try.prog a w K Q :=
  wp_alloc_z _ _ ho zero_en (h _ (new_blk _ _ _) (bnew _ _) (by unfold Hid; simp))
theorem wp_load_en (x : Operand) (g : Nat) (p : En) (ho : o.op = .load 49 x) (hx : a.eval x = .pointer (some ⟨g, 0, none⟩)) (hb : Blk w g 49 (nl p)) (h : K (a.put o.dst (nv p)) w) : o.wp Try.prog a w K Q :=
  wp_load_mid _ x ho g 0 hx (nl p) _ (fun j v hv => by rw [Nat.zero_add, hb.cell]; exact hv) (by rfl) rfl size_en h
theorem wp_load_ren (x : Operand) (b k : Nat) (p : En) (ho : o.op = .load 49 x) (hx : a.eval x = .pointer (some ⟨b, k, none⟩)) (hc : ∀ j v, (nl p)[j]? = some v → w.cell? ⟨b, k + j, none⟩ = some v) (h : K (a.put o.dst (nv p)) w) : o.wp Try.prog a w K Q :=
  wp_load_mid _ x ho b k hx (nl p) _ hc (by rfl) rfl size_en h
theorem wp_store_en (x y : Operand) (g : Nat) (cs : List Value) (p : En) (ho : o.op = .store 49 x y) (hx : a.eval x = .pointer (some ⟨g, 0, none⟩)) (hy : a.eval y = nv p) (hb : Blk w g 49 cs) (hl : cs.length = 14)
    (h : ∀ w', Blk w' g 49 (nl p) → w.grownBy w' (some g) → Hid (w'.heap.size = w.heap.size) → K (a.put o.dst undef) w') : o.wp Try.prog a w K Q := by
  unfold Oper.wp execOp
  have e := run_storeVar_row (P := Try.prog) w g 49 49 cs.toArray (nl p).toArray hb (by simpa [len_en] using size_en) (by simp [hl, len_en]) (all_oneCell_toArray (one_en p))
  simp only [ho, hx, hy, nv, Instr.storeAt, Instr.sureAddr, Sem.run_bind, Sem.run_pure, Result.andThen_ok, e]
  exact h _ (setRow_heap w g _ _ _ _ hb) ⟨rfl, rfl, rfl, by simp [World.setRow], fun k _ hk => setRow_other w g k _ (fun e => hk (by simp [e]))⟩ (by unfold Hid; simp [World.setRow])
theorem at_box_en (x : Operand) (p : En) (ho : o.op = .box 49 x) (hx : a.eval x = nv p) (hw : Region.wanted o (yielded ops a.tmps) = true) (h : ∀ w', Blk w' w.heap.size 49 (nl p) → Below w.heap.size w w' → Hid (w'.heap.size = w.heap.size + 1) → wpList Try.prog ops Q rest (a.put o.dst (.pointer (some ⟨w.heap.size, 0, none⟩))) w') : wpList Try.prog ops Q (o :: rest) a w :=
  BigFrame.wpList_want hw fun _ hK => wp_box_en x p ho hx (fun w2 h1 h2 h3 => hK _ _ (h w2 h1 h2 h3))
theorem at_alloc_en (ho : o.op = .alloc 49) (hw : Region.wanted o (yielded ops a.tmps) = true) (h : ∀ w', Blk w' w.heap.size 49 (nl zeroN) → Below w.heap.size w w' → Hid (w'.heap.size = w.heap.size + 1) → wpList Try.prog ops Q rest (a.put o.dst (.pointer (some ⟨w.heap.size, 0, none⟩))) w') : wpList Try.prog ops Q (o :: rest) a w :=
  BigFrame.wpList_want hw fun _ hK => wp_alloc_en ho (fun w2 h1 h2 h3 => hK _ _ (h w2 h1 h2 h3))
theorem at_load_en (x : Operand) (g : Nat) (p : En) (ho : o.op = .load 49 x) (hx : a.eval x = .pointer (some ⟨g, 0, none⟩)) (hb : Blk w g 49 (nl p)) (hw : Region.wanted o (yielded ops a.tmps) = true) (h : wpList Try.prog ops Q rest (a.put o.dst (nv p)) w) : wpList Try.prog ops Q (o :: rest) a w :=
  BigFrame.wpList_want hw fun _ hK => wp_load_en x g p ho hx hb (hK _ _ h)
theorem at_load_ren (x : Operand) (b k : Nat) (p : En) (ho : o.op = .load 49 x) (hx : a.eval x = .pointer (some ⟨b, k, none⟩)) (hc : ∀ j v, (nl p)[j]? = some v → w.cell? ⟨b, k + j, none⟩ = some v) (hw : Region.wanted o (yielded ops a.tmps) = true) (h : wpList Try.prog ops Q rest (a.put o.dst (nv p)) w) : wpList Try.prog ops Q (o :: rest) a w :=
  BigFrame.wpList_want hw fun _ hK => wp_load_ren x b k p ho hx hc (hK _ _ h)
theorem at_store_en (x y : Operand) (g : Nat) (cs : List Value) (p : En) (ho : o.op = .store 49 x y) (hx : a.eval x = .pointer (some ⟨g, 0, none⟩)) (hy : a.eval y = nv p) (hb : Blk w g 49 cs) (hl : cs.length = 14) (hw : Region.wanted o (yielded ops a.tmps) = true) (h : ∀ w', Blk w' g 49 (nl p) → w.grownBy w' (some g) → Hid (w'.heap.size = w.heap.size) → wpList Try.prog ops Q rest (a.put o.dst undef) w') : wpList Try.prog ops Q (o :: rest) a w :=
  BigFrame.wpList_want hw fun _ hK => wp_store_en x y g cs p ho hx hy hb hl (fun w2 h1 h2 h3 => hK _ _ (h w2 h1 h2 h3))
end
theorem ret_en2 {fn : Func} {x u : Tmp} {R : Ending → World → Prop} {a : Act} {w : World} (h : fn.results = #[.cell x 49, .tmp u]) (hd : a.defers = []) (g : Nat) (p : En) (hp : a.tmps.getD x undef = .pointer (some ⟨g, 0, none⟩))
    (hb : Blk w g 49 (nl p)) (hR : R (.returned (.tuple #[nv p, a.tmps.getD u undef])) w) : bodyPost Try.prog fn R .ret a w :=
  ret_cell h hd g _ (nl p) _ hp hb (by rfl) rfl size_en hR
theorem ret_en {fn : Func} {x : Tmp} {R : Ending → World → Prop} {a : Act} {w : World} (h : fn.results = #[.cell x 49]) (hd : a.defers = []) (g : Nat) (p : En) (hp : a.tmps.getD x undef = .pointer (some ⟨g, 0, none⟩))
    (hb : Blk w g 49 (nl p)) (hR : R (.returned (nv p)) w) : bodyPost Try.prog fn R .ret a w :=
  ret_cell1 h hd g _ (nl p) _ hp hb (by rfl) rfl size_en hR
/-- What a book's cells hold. -/
structure Bh where
  t : Int
  q : Option Addr
  n : Nat
  c : Nat
def zeroH : Bh := ⟨0, none, 0, 0⟩
def bl (h : Bh) : List Value := [Value.int .u64 h.t, .slice h.q h.n h.c]
def bv (h : Bh) : Value := .agg (bl h).toArray
theorem len_bk (h : Bh) : (bl h).length = 2 := rfl
theorem one_bk (h : Bh) : ∀ v ∈ bl h, v.oneCell' = true := by
  intro v hv
  simp only [bl, List.mem_cons, List.not_mem_nil, or_false] at hv
  rcases hv with rfl | rfl <;> rfl
theorem size_bk : (Try.prog.info? 25).map (·.size) = some 2 := by kernel_rfl
theorem zero_bk : (Try.prog.info? 25).map (fun i => i.zero) = some (some (bv zeroH)) := by kernel_rfl
section
variable {o : Oper} {a : Act} {w : World} {K : Act → World → Prop} {ops : Array Oper} {rest : List Oper} {Q : Exit → Act → World → Prop}
theorem wp_box_bk (x : Operand) (p : Bh) (ho : o.op = .box 25 x) (hx : a.eval x = bv p) (h : ∀ w', Blk w' w.heap.size 25 (bl p) → Below w.heap.size w w' → Hid (w'.heap.size = w.heap.size + 1) → K (a.put o.dst (.pointer (some ⟨w.heap.size, 0, none⟩))) w') : o.wp Try.prog a w K Q :=
  wp_box_v _ x (bl p) ho hx (h _ (new_blk _ _ _) (bnew _ _) (by unfold Hid; simp))
theorem wp_alloc_bk (ho : o.op = .alloc 25) (h : ∀ w', Blk w' w.heap.size 25 (bl zeroH) → Below w.heap.size w w' → Hid (w'.heap.size = w.heap.size + 1) → K (a.put o.dst (.pointer (some ⟨w.heap.size, 0, none⟩))) w') : o.wp Try.prog a w K Q :=
  wp_alloc_z _ _ ho zero_bk (h _ (new_blk _ _ _) (bnew _ _) (by unfold Hid; simp))
theorem wp_load_bk (x : Operand) (g : Nat) (p : Bh) (ho : o.op = .load 25 x) (hx : a.eval x = .pointer (some ⟨g, 0, none⟩)) (hb : Blk w g 25 (bl p)) (h : K (a.put o.dst (bv p)) w) : o.wp Try.prog a w K Q :=
  wp_load_mid _ x ho g 0 hx (bl p) _ (fun j v hv => by rw [Nat.zero_add, hb.cell]; exact hv) (by rfl) rfl size_bk h
theorem wp_load_rbk (x : Operand) (b k : Nat) (p : Bh) (ho : o.op = .load 25 x) (hx : a.eval x = .pointer (some ⟨b, k, none⟩)) (hc : ∀ j v, (bl p)[j]? = some v → w.cell? ⟨b, k + j, none⟩ = some v) (h : K (a.put o.dst (bv p)) w) : o.wp Try.prog a w K Q :=
  wp_load_mid _ x ho b k hx (bl p) _ hc (by rfl) rfl size_bk h
theorem wp_store_bk (x y : Operand) (g : Nat) (cs : List Value) (p : Bh) (ho : o.op = .store 25 x y) (hx : a.eval x = .pointer (some ⟨g, 0, none⟩)) (hy : a.eval y = bv p) (hb : Blk w g 25 cs) (hl : cs.length = 2)
    (h : ∀ w', Blk w' g 25 (bl p) → w.grownBy w' (some g) → Hid (w'.heap.size = w.heap.size) → K (a.put o.dst undef) w') : o.wp Try.prog a w K Q := by
  unfold Oper.wp execOp
  have e := run_storeVar_row (P := Try.prog) w g 25 25 cs.toArray (bl p).toArray hb (by simpa [len_bk] using size_bk) (by simp [hl, len_bk]) (all_oneCell_toArray (one_bk p))
  simp only [ho, hx, hy, bv, Instr.storeAt, Instr.sureAddr, Sem.run_bind, Sem.run_pure, Result.andThen_ok, e]
  exact h _ (setRow_heap w g _ _ _ _ hb) ⟨rfl, rfl, rfl, by simp [World.setRow], fun k _ hk => setRow_other w g k _ (fun e => hk (by simp [e]))⟩ (by unfold Hid; simp [World.setRow])
theorem at_box_bk (x : Operand) (p : Bh) (ho : o.op = .box 25 x) (hx : a.eval x = bv p) (hw : Region.wanted o (yielded ops a.tmps) = true) (h : ∀ w', Blk w' w.heap.size 25 (bl p) → Below w.heap.size w w' → Hid (w'.heap.size = w.heap.size + 1) → wpList Try.prog ops Q rest (a.put o.dst (.pointer (some ⟨w.heap.size, 0, none⟩))) w') : wpList Try.prog ops Q (o :: rest) a w :=
  BigFrame.wpList_want hw fun _ hK => wp_box_bk x p ho hx (fun w2 h1 h2 h3 => hK _ _ (h w2 h1 h2 h3))
theorem at_alloc_bk (ho : o.op = .alloc 25) (hw : Region.wanted o (yielded ops a.tmps) = true) (h : ∀ w', Blk w' w.heap.size 25 (bl zeroH) → Below w.heap.size w w' → Hid (w'.heap.size = w.heap.size + 1) → wpList Try.prog ops Q rest (a.put o.dst (.pointer (some ⟨w.heap.size, 0, none⟩))) w') : wpList Try.prog ops Q (o :: rest) a w :=
  BigFrame.wpList_want hw fun _ hK => wp_alloc_bk ho (fun w2 h1 h2 h3 => hK _ _ (h w2 h1 h2 h3))
theorem at_load_bk (x : Operand) (g : Nat) (p : Bh) (ho : o.op = .load 25 x) (hx : a.eval x = .pointer (some ⟨g, 0, none⟩)) (hb : Blk w g 25 (bl p)) (hw : Region.wanted o (yielded ops a.tmps) = true) (h : wpList Try.prog ops Q rest (a.put o.dst (bv p)) w) : wpList Try.prog ops Q (o :: rest) a w :=
  BigFrame.wpList_want hw fun _ hK => wp_load_bk x g p ho hx hb (hK _ _ h)
theorem at_load_rbk (x : Operand) (b k : Nat) (p : Bh) (ho : o.op = .load 25 x) (hx : a.eval x = .pointer (some ⟨b, k, none⟩)) (hc : ∀ j v, (bl p)[j]? = some v → w.cell? ⟨b, k + j, none⟩ = some v) (hw : Region.wanted o (yielded ops a.tmps) = true) (h : wpList Try.prog ops Q rest (a.put o.dst (bv p)) w) : wpList Try.prog ops Q (o :: rest) a w :=
  BigFrame.wpList_want hw fun _ hK => wp_load_rbk x b k p ho hx hc (hK _ _ h)
theorem at_store_bk (x y : Operand) (g : Nat) (cs : List Value) (p : Bh) (ho : o.op = .store 25 x y) (hx : a.eval x = .pointer (some ⟨g, 0, none⟩)) (hy : a.eval y = bv p) (hb : Blk w g 25 cs) (hl : cs.length = 2) (hw : Region.wanted o (yielded ops a.tmps) = true) (h : ∀ w', Blk w' g 25 (bl p) → w.grownBy w' (some g) → Hid (w'.heap.size = w.heap.size) → wpList Try.prog ops Q rest (a.put o.dst undef) w') : wpList Try.prog ops Q (o :: rest) a w :=
  BigFrame.wpList_want hw fun _ hK => wp_store_bk x y g cs p ho hx hy hb hl (fun w2 h1 h2 h3 => hK _ _ (h w2 h1 h2 h3))
end
theorem ret_bk2 {fn : Func} {x u : Tmp} {R : Ending → World → Prop} {a : Act} {w : World} (h : fn.results = #[.cell x 25, .tmp u]) (hd : a.defers = []) (g : Nat) (p : Bh) (hp : a.tmps.getD x undef = .pointer (some ⟨g, 0, none⟩))
    (hb : Blk w g 25 (bl p)) (hR : R (.returned (.tuple #[bv p, a.tmps.getD u undef])) w) : bodyPost Try.prog fn R .ret a w :=
  ret_cell h hd g _ (bl p) _ hp hb (by rfl) rfl size_bk hR
theorem ret_bk {fn : Func} {x : Tmp} {R : Ending → World → Prop} {a : Act} {w : World} (h : fn.results = #[.cell x 25]) (hd : a.defers = []) (g : Nat) (p : Bh) (hp : a.tmps.getD x undef = .pointer (some ⟨g, 0, none⟩))
    (hb : Blk w g 25 (bl p)) (hR : R (.returned (bv p)) w) : bodyPost Try.prog fn R .ret a w :=
  ret_cell1 h hd g _ (bl p) _ hp hb (by rfl) rfl size_bk hR
theorem cells_bk {w : World} {g : Nat} {h : Bh} (hb : Blk w g 25 (bl h)) : ∀ i, w.cell? ⟨g, i, none⟩ = [Value.int .u64 h.t, .slice h.q h.n h.c][i]? := hb.cell
/-- It is this book. -/
def IsB (w : World) (h : Bh) (b : Bk) : Prop := h.t = b.t ∧ b.es.length = h.n ∧ RK nl w h.q h.c b.es
theorem IsB.below {w w' : World} {h : Bh} {b : Bk} (hi : IsB w h b) (hb : Below w.heap.size w w') : IsB w' h b := ⟨hi.1, hi.2.1, hi.2.2.below hb⟩
theorem IsB.zero (w : World) : IsB w zeroH zeroB := ⟨rfl, rfl, RK.nil _ _⟩
theorem run_build_bzero  (w : World) : (Instr.build 25 #[]).run Try.prog w = .ok (bv zeroH) w := by kernel_rfl
theorem wp_build_bzero {o : Oper} {a : Act} {w : World} {K : Act → World → Prop} {Q : Exit → Act → World → Prop}  (ho : o.op = .build 25 #[])  (h : K (a.put o.dst (bv zeroH)) w) : o.wp Try.prog a w K Q :=
  wp_run (Instr.build 25 #[]) (by simp [execOp, ho]) (run_build_bzero  w) h
theorem at_build_bzero {o : Oper} {a : Act} {w : World} {ops : Array Oper} {rest : List Oper} {Q : Exit → Act → World → Prop}  (ho : o.op = .build 25 #[])  (hw : Region.wanted o (yielded ops a.tmps) = true) (h : wpList Try.prog ops Q rest (a.put o.dst (bv zeroH)) w) : wpList Try.prog ops Q (o :: rest) a w :=
  BigFrame.wpList_want hw fun _ hK => wp_run (Instr.build 25 #[]) (by simp [execOp, ho]) (run_build_bzero  w) (hK _ _ h)
theorem run_build_bperiod (t : Int) (w : World) : (Instr.build 25 #[(0, .int .u64 t)]).run Try.prog w = .ok (bv ⟨t, none, 0, 0⟩) w := by kernel_rfl
theorem wp_build_bperiod {o : Oper} {a : Act} {w : World} {K : Act → World → Prop} {Q : Exit → Act → World → Prop} (x0 : Operand) (t : Int) (ho : o.op = .build 25 #[(0, x0)]) (h0 : a.eval x0 = .int .u64 t) (h : K (a.put o.dst (bv ⟨t, none, 0, 0⟩)) w) : o.wp Try.prog a w K Q :=
  wp_run (Instr.build 25 #[(0, .int .u64 t)]) (by simp [execOp, ho, h0]) (run_build_bperiod t w) h
theorem at_build_bperiod {o : Oper} {a : Act} {w : World} {ops : Array Oper} {rest : List Oper} {Q : Exit → Act → World → Prop} (x0 : Operand) (t : Int) (ho : o.op = .build 25 #[(0, x0)]) (h0 : a.eval x0 = .int .u64 t) (hw : Region.wanted o (yielded ops a.tmps) = true) (h : wpList Try.prog ops Q rest (a.put o.dst (bv ⟨t, none, 0, 0⟩)) w) : wpList Try.prog ops Q (o :: rest) a w :=
  BigFrame.wpList_want hw fun _ hK => wp_run (Instr.build 25 #[(0, .int .u64 t)]) (by simp [execOp, ho, h0]) (run_build_bperiod t w) (hK _ _ h)
theorem run_build_bboth (t : Int) (q : Option Addr) (n c : Nat) (w : World) : (Instr.build 25 #[(0, .int .u64 t), (1, .slice q n c)]).run Try.prog w = .ok (bv ⟨t, q, n, c⟩) w := by kernel_rfl
theorem wp_build_bboth {o : Oper} {a : Act} {w : World} {K : Act → World → Prop} {Q : Exit → Act → World → Prop} (x0 x1 : Operand) (t : Int) (q : Option Addr) (n c : Nat) (ho : o.op = .build 25 #[(0, x0), (1, x1)]) (h0 : a.eval x0 = .int .u64 t) (h1 : a.eval x1 = .slice q n c) (h : K (a.put o.dst (bv ⟨t, q, n, c⟩)) w) : o.wp Try.prog a w K Q :=
  wp_run (Instr.build 25 #[(0, .int .u64 t), (1, .slice q n c)]) (by simp [execOp, ho, h0, h1]) (run_build_bboth t q n c w) h
theorem at_build_bboth {o : Oper} {a : Act} {w : World} {ops : Array Oper} {rest : List Oper} {Q : Exit → Act → World → Prop} (x0 x1 : Operand) (t : Int) (q : Option Addr) (n c : Nat) (ho : o.op = .build 25 #[(0, x0), (1, x1)]) (h0 : a.eval x0 = .int .u64 t) (h1 : a.eval x1 = .slice q n c) (hw : Region.wanted o (yielded ops a.tmps) = true) (h : wpList Try.prog ops Q rest (a.put o.dst (bv ⟨t, q, n, c⟩)) w) : wpList Try.prog ops Q (o :: rest) a w :=
  BigFrame.wpList_want hw fun _ hK => wp_run (Instr.build 25 #[(0, .int .u64 t), (1, .slice q n c)]) (by simp [execOp, ho, h0, h1]) (run_build_bboth t q n c w) (hK _ _ h)
theorem run_build_nzero  (w : World) : (Instr.build 49 #[]).run Try.prog w = .ok (nv zeroN) w := by kernel_rfl
theorem wp_build_nzero {o : Oper} {a : Act} {w : World} {K : Act → World → Prop} {Q : Exit → Act → World → Prop}  (ho : o.op = .build 49 #[])  (h : K (a.put o.dst (nv zeroN)) w) : o.wp Try.prog a w K Q :=
  wp_run (Instr.build 49 #[]) (by simp [execOp, ho]) (run_build_nzero  w) h
theorem at_build_nzero {o : Oper} {a : Act} {w : World} {ops : Array Oper} {rest : List Oper} {Q : Exit → Act → World → Prop}  (ho : o.op = .build 49 #[])  (hw : Region.wanted o (yielded ops a.tmps) = true) (h : wpList Try.prog ops Q rest (a.put o.dst (nv zeroN)) w) : wpList Try.prog ops Q (o :: rest) a w :=
  BigFrame.wpList_want hw fun _ hK => wp_run (Instr.build 49 #[]) (by simp [execOp, ho]) (run_build_nzero  w) (hK _ _ h)
theorem run_build_npol (p : Po) (w : World) : (Instr.build 49 #[(0, pv p)]).run Try.prog w = .ok (nv ⟨p, 0⟩) w := by kernel_rfl
theorem wp_build_npol {o : Oper} {a : Act} {w : World} {K : Act → World → Prop} {Q : Exit → Act → World → Prop} (x0 : Operand) (p : Po) (ho : o.op = .build 49 #[(0, x0)]) (h0 : a.eval x0 = pv p) (h : K (a.put o.dst (nv ⟨p, 0⟩)) w) : o.wp Try.prog a w K Q :=
  wp_run (Instr.build 49 #[(0, pv p)]) (by simp [execOp, ho, h0]) (run_build_npol p w) h
theorem at_build_npol {o : Oper} {a : Act} {w : World} {ops : Array Oper} {rest : List Oper} {Q : Exit → Act → World → Prop} (x0 : Operand) (p : Po) (ho : o.op = .build 49 #[(0, x0)]) (h0 : a.eval x0 = pv p) (hw : Region.wanted o (yielded ops a.tmps) = true) (h : wpList Try.prog ops Q rest (a.put o.dst (nv ⟨p, 0⟩)) w) : wpList Try.prog ops Q (o :: rest) a w :=
  BigFrame.wpList_want hw fun _ hK => wp_run (Instr.build 49 #[(0, pv p)]) (by simp [execOp, ho, h0]) (run_build_npol p w) (hK _ _ h)
theorem run_build_nboth (p : Po) (g : Int) (w : World) : (Instr.build 49 #[(0, pv p), (1, .int .u64 g)]).run Try.prog w = .ok (nv ⟨p, g⟩) w := by kernel_rfl
theorem wp_build_nboth {o : Oper} {a : Act} {w : World} {K : Act → World → Prop} {Q : Exit → Act → World → Prop} (x0 x1 : Operand) (p : Po) (g : Int) (ho : o.op = .build 49 #[(0, x0), (1, x1)]) (h0 : a.eval x0 = pv p) (h1 : a.eval x1 = .int .u64 g) (h : K (a.put o.dst (nv ⟨p, g⟩)) w) : o.wp Try.prog a w K Q :=
  wp_run (Instr.build 49 #[(0, pv p), (1, .int .u64 g)]) (by simp [execOp, ho, h0, h1]) (run_build_nboth p g w) h
theorem at_build_nboth {o : Oper} {a : Act} {w : World} {ops : Array Oper} {rest : List Oper} {Q : Exit → Act → World → Prop} (x0 x1 : Operand) (p : Po) (g : Int) (ho : o.op = .build 49 #[(0, x0), (1, x1)]) (h0 : a.eval x0 = pv p) (h1 : a.eval x1 = .int .u64 g) (hw : Region.wanted o (yielded ops a.tmps) = true) (h : wpList Try.prog ops Q rest (a.put o.dst (nv ⟨p, g⟩)) w) : wpList Try.prog ops Q (o :: rest) a w :=
  BigFrame.wpList_want hw fun _ hK => wp_run (Instr.build 49 #[(0, pv p), (1, .int .u64 g)]) (by simp [execOp, ho, h0, h1]) (run_build_nboth p g w) (hK _ _ h)
end Go.Proofs.Ytnaofcggdjbocaa.Book
namespace Go.Proofs.Ytnaofcggdjbocaa.Book
open Go.RowKit Go.Proofs.Ytnaofcggdjbocaa.Mem Go.Proofs.Ytnaofcggdjbocaa.Policy Go.Proofs.Ytnaofcggdjbocaa.Event
set_option maxRecDepth 100000
theorem stood_en : Try.prog.stoodInHeld 49 = false := by kernel_rfl
set_option maxHeartbeats 2000000 in
theorem eq_en {p q : En} (hp : EnOk p) (hq : EnOk q) (w : World) : (Op.equalIn 10000 49 (nv p) (nv q)).run Try.prog w = .ok (eqE p q) w := by
  obtain ⟨⟨s, N, b, x0, x1, x2, x3, x4, x5, x6⟩, g⟩ := p
  obtain ⟨⟨s', N', b', y0, y1, y2, y3, y4, y5, y6⟩, g'⟩ := q
  have hN := hp.1.2.1
  have hN' := hq.1.2.1
  simp only at hN hN'
  have hf : Try.prog.underlying 49 = some (.struct (Try.prog.fieldsOf 49)) := by simp [Program.fieldsOf, Try.underlying49]
  have e := Addr.eq_bytes hN hN'
  have e4 := Addr.eq4 9995 (Addr.b0 N) (Addr.b1 N) (Addr.b2 N) (Addr.b3 N) (Addr.b0 N') (Addr.b1 N') (Addr.b2 N') (Addr.b3 N') w
  rw [e] at e4
  unfold nv nl pl eqE eqB
  rw [run_equalIn_struct w 9999 _ _ _ hf stood_en]
  clear hp hq
  simp [Program.fieldsOf, Try.underlying49, Op.eqFields, part, Try.isAgg47, Try.sizeOf47, Try.isAgg45, Try.sizeOf45, Try.isAgg3, Try.isAgg22, go_sem, e4]
  by_cases k1 : s = s'
  · by_cases k2 : N = N'
    · by_cases k3 : b = b'
      · by_cases k4 : x0 = y0
        · by_cases k5 : x1 = y1
          · by_cases k6 : x2 = y2
            · by_cases k7 : x3 = y3
              · by_cases k8 : x4 = y4
                · by_cases k9 : x5 = y5
                  · by_cases k10 : x6 = y6 <;> by_cases k11 : g = g' <;> simp [Int.natCast_inj, k1, k2, k3, k4, k5, k6, k7, k8, k9, k10, k11]
                  · simp [Int.natCast_inj, k1, k2, k3, k4, k5, k6, k7, k8, k9]
                · simp [Int.natCast_inj, k1, k2, k3, k4, k5, k6, k7, k8]
              · simp [Int.natCast_inj, k1, k2, k3, k4, k5, k6, k7]
            · simp [Int.natCast_inj, k1, k2, k3, k4, k5, k6]
          · simp [Int.natCast_inj, k1, k2, k3, k4, k5]
        · simp [Int.natCast_inj, k1, k2, k3, k4]
      · simp [k1, k2, k3]
    · simp [k1, k2]
  · simp [k1]
theorem neg_en (x y : Operand) (p q : En) (w : World) : (eqGuard .neq 49 x y (nv p) (nv q)).run Try.prog w = .ok () w := by
  unfold nv
  simp [eqGuard, go_sem]
theorem eqg_en (x y : Operand) (p q : En) (w : World) : (eqGuard .eql 49 x y (nv p) (nv q)).run Try.prog w = .ok () w := by
  unfold nv
  simp [eqGuard, go_sem]
theorem nes_en {p q : En} (hp : EnOk p) (hq : EnOk q) (w : World) : (binOp .neq 49 (nv p) (nv q)).run Try.prog w = .ok (.bool (!eqE p q)) w := by
  have h := eq_en hp hq w
  unfold nv at h ⊢
  simp [binOp, Op.equal, Op.maxDepth, h]
theorem eqs_en {p q : En} (hp : EnOk p) (hq : EnOk q) (w : World) : (binOp .eql 49 (nv p) (nv q)).run Try.prog w = .ok (.bool (eqE p q)) w := by
  have h := eq_en hp hq w
  unfold nv at h ⊢
  simp [binOp, Op.equal, Op.maxDepth, h]
section
variable {o : Oper} {a : Act} {w : World} {K : Act → World → Prop} {ops : Array Oper} {rest : List Oper} {Q : Exit → Act → World → Prop}
theorem wp_ne_en {p q : En} (hp : EnOk p) (hq : EnOk q) (x y : Operand) (ho : o.op = .binOp .neq 49 x y 49) (hx : a.eval x = nv p) (hy : a.eval y = nv q) (h : K (a.put o.dst (.bool (!eqE p q))) w) : o.wp Try.prog a w K Q := by
  unfold Oper.wp execOp
  simp only [ho, hx, hy, Sem.run_bind, neg_en, nes_en hp hq, Sem.run_pure, Result.andThen_ok]
  exact h
theorem wp_eq_en {p q : En} (hp : EnOk p) (hq : EnOk q) (x y : Operand) (ho : o.op = .binOp .eql 49 x y 49) (hx : a.eval x = nv p) (hy : a.eval y = nv q) (h : K (a.put o.dst (.bool (eqE p q))) w) : o.wp Try.prog a w K Q := by
  unfold Oper.wp execOp
  simp only [ho, hx, hy, Sem.run_bind, eqg_en, eqs_en hp hq, Sem.run_pure, Result.andThen_ok]
  exact h
theorem at_ne_en {p q : En} (hp : EnOk p) (hq : EnOk q) (x y : Operand) (ho : o.op = .binOp .neq 49 x y 49) (hx : a.eval x = nv p) (hy : a.eval y = nv q) (hw : Region.wanted o (yielded ops a.tmps) = true) (h : wpList Try.prog ops Q rest (a.put o.dst (.bool (!eqE p q))) w) : wpList Try.prog ops Q (o :: rest) a w :=
  BigFrame.wpList_want hw fun _ hK => wp_ne_en hp hq x y ho hx hy (hK _ _ h)
end
end Go.Proofs.Ytnaofcggdjbocaa.Book
