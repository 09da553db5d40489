/-
  Events in memory: what an operation on one does, as a walk meets it.
-/
import Derived.Test.YtfgndecnakfhnaaEvPlain
import Derived.Test.YtfgndecnakfhnaaPolMem
namespace Go.Proofs.Ytfgndecnakfhnaa.Event
open Go.RowKit Go.Proofs.Ytfgndecnakfhnaa.Mem Go.Proofs.Ytfgndecnakfhnaa.Policy
set_option maxRecDepth 100000

/-- What an event's cells hold: numbers, and where its lists are. -/
structure Eh where
  k : Int
  s : Int
  pp : Option Addr
  pn : Nat
  pc : Nat
  dp : Option Addr
  dn : Nat
  dc : Nat
  g : Int
  t : Int
def zeroH : Eh := ⟨0, 0, none, 0, 0, none, 0, 0, 0, 0⟩
def el (h : Eh) : List Value := [Value.int .i64 h.k, .int .i64 h.s, .slice h.pp h.pn h.pc, .slice h.dp h.dn h.dc, .int .u64 h.g, .int .u64 h.t]
def ev (h : Eh) : Value := .agg (el h).toArray
theorem el_len (h : Eh) : (el h).length = 6 := rfl
theorem el_one (h : Eh) : ∀ v ∈ el h, v.oneCell' = true := by
  intro v hv
  simp only [el, List.mem_cons, List.not_mem_nil, or_false] at hv
  rcases hv with rfl | rfl | rfl | rfl | rfl | rfl <;> rfl
theorem size_ev : (Try.prog.info? 30).map (·.size) = some 6 := by kernel_rfl
theorem zero_ev : (Try.prog.info? 30).map (fun i => i.zero) = some (some (ev zeroH)) := by kernel_rfl
/-- It is this event. -/
def Is (w : World) (h : Eh) (e : Ev) : Prop := (h.k = e.k ∧ h.s = e.s ∧ h.g = e.g ∧ h.t = e.t) ∧ (e.ps.length = h.pn ∧ RK pl w h.pp h.pc e.ps) ∧ (e.ds.length = h.dn ∧ Reads .i64 w h.dp h.dc e.ds)
theorem Is.below {w w' : World} {h : Eh} {e : Ev} (hi : Is w h e) (hb : Below w.heap.size w w') : Is w' h e := ⟨hi.1, ⟨hi.2.1.1, hi.2.1.2.below hb⟩, hi.2.2.1, hi.2.2.2.below hb⟩
theorem Is.zero (w : World) : Is w zeroH zeroE := ⟨⟨rfl, rfl, rfl, rfl⟩, ⟨rfl, RK.nil _ _⟩, rfl, Reads.nil _ _⟩
section
variable {o : Oper} {a : Act} {w : World} {K : Act → World → Prop} {ops : Array Oper} {rest : List Oper} {Q : Exit → Act → World → Prop}
theorem wp_box_ev (x : Operand) (p : Eh) (ho : o.op = .box 30 x) (hx : a.eval x = ev p) (h : ∀ w', Blk w' w.heap.size 30 (el p) → Below w.heap.size w w' → Hid (w'.heap.size = w.heap.size + 1) → K (a.put o.dst (.pointer (some ⟨w.heap.size, 0, none⟩))) w') : o.wp Try.prog a w K Q :=
  wp_box_v _ x (el p) ho hx (h _ (new_blk _ _ _) (bnew _ _) (by unfold Hid; simp))
theorem wp_alloc_ev (ho : o.op = .alloc 30) (h : ∀ w', Blk w' w.heap.size 30 (el zeroH) → Below w.heap.size w w' → Hid (w'.heap.size = w.heap.size + 1) → K (a.put o.dst (.pointer (some ⟨w.heap.size, 0, none⟩))) w') : o.wp Try.prog a w K Q :=
  wp_alloc_z _ _ ho zero_ev (h _ (new_blk _ _ _) (bnew _ _) (by unfold Hid; simp))
theorem wp_load_ev (x : Operand) (g : Nat) (p : Eh) (ho : o.op = .load 30 x) (hx : a.eval x = .pointer (some ⟨g, 0, none⟩)) (hb : Blk w g 30 (el p)) (h : K (a.put o.dst (ev p)) w) : o.wp Try.prog a w K Q :=
  wp_load_mid _ x ho g 0 hx (el p) _ (fun j v hv => by rw [Nat.zero_add, hb.cell]; exact hv) (by rfl) rfl size_ev h
theorem wp_store_ev (x y : Operand) (g : Nat) (cs : List Value) (p : Eh) (ho : o.op = .store 30 x y) (hx : a.eval x = .pointer (some ⟨g, 0, none⟩)) (hy : a.eval y = ev p) (hb : Blk w g 30 cs) (hl : cs.length = 6)
    (h : ∀ w', Blk w' g 30 (el p) → w.grownBy w' (some g) → Hid (w'.heap.size = w.heap.size) → K (a.put o.dst undef) w') : o.wp Try.prog a w K Q := by
  unfold Oper.wp execOp
  have e := run_storeVar_row (P := Try.prog) w g 30 30 cs.toArray (el p).toArray hb (by simpa [el_len] using size_ev) (by simp [hl, el_len]) (all_oneCell_toArray (el_one p))
  simp only [ho, hx, hy, ev, Instr.storeAt, Instr.sureAddr, Sem.run_bind, Sem.run_pure, Result.andThen_ok, e]
  exact h _ (setRow_heap w g _ _ _ _ hb) ⟨rfl, rfl, rfl, by simp [World.setRow], fun k _ hk => setRow_other w g k _ (fun e => hk (by simp [e]))⟩ (by unfold Hid; simp [World.setRow])
theorem at_box_ev (x : Operand) (p : Eh) (ho : o.op = .box 30 x) (hx : a.eval x = ev p) (hw : Region.wanted o (yielded ops a.tmps) = true) (h : ∀ w', Blk w' w.heap.size 30 (el p) → Below w.heap.size w w' → Hid (w'.heap.size = w.heap.size + 1) → wpList Try.prog ops Q rest (a.put o.dst (.pointer (some ⟨w.heap.size, 0, none⟩))) w') : wpList Try.prog ops Q (o :: rest) a w :=
  BigFrame.wpList_want hw fun _ hK => wp_box_ev x p ho hx (fun w2 h1 h2 h3 => hK _ _ (h w2 h1 h2 h3))
theorem at_alloc_ev (ho : o.op = .alloc 30) (hw : Region.wanted o (yielded ops a.tmps) = true) (h : ∀ w', Blk w' w.heap.size 30 (el zeroH) → Below w.heap.size w w' → Hid (w'.heap.size = w.heap.size + 1) → wpList Try.prog ops Q rest (a.put o.dst (.pointer (some ⟨w.heap.size, 0, none⟩))) w') : wpList Try.prog ops Q (o :: rest) a w :=
  BigFrame.wpList_want hw fun _ hK => wp_alloc_ev ho (fun w2 h1 h2 h3 => hK _ _ (h w2 h1 h2 h3))
theorem at_load_ev (x : Operand) (g : Nat) (p : Eh) (ho : o.op = .load 30 x) (hx : a.eval x = .pointer (some ⟨g, 0, none⟩)) (hb : Blk w g 30 (el p)) (hw : Region.wanted o (yielded ops a.tmps) = true) (h : wpList Try.prog ops Q rest (a.put o.dst (ev p)) w) : wpList Try.prog ops Q (o :: rest) a w :=
  BigFrame.wpList_want hw fun _ hK => wp_load_ev x g p ho hx hb (hK _ _ h)
theorem at_store_ev (x y : Operand) (g : Nat) (cs : List Value) (p : Eh) (ho : o.op = .store 30 x y) (hx : a.eval x = .pointer (some ⟨g, 0, none⟩)) (hy : a.eval y = ev p) (hb : Blk w g 30 cs) (hl : cs.length = 6) (hw : Region.wanted o (yielded ops a.tmps) = true) (h : ∀ w', Blk w' g 30 (el p) → w.grownBy w' (some g) → Hid (w'.heap.size = w.heap.size) → wpList Try.prog ops Q rest (a.put o.dst undef) w') : wpList Try.prog ops Q (o :: rest) a w :=
  BigFrame.wpList_want hw fun _ hK => wp_store_ev x y g cs p ho hx hy hb hl (fun w2 h1 h2 h3 => hK _ _ (h w2 h1 h2 h3))
end
theorem run_build_zero (w : World) : (Instr.build 30 #[]).run Try.prog w = .ok (ev zeroH) w := by kernel_rfl
theorem run_build_commit (p q : Option Addr) (n c m d : Nat) (w : World) : (Instr.build 30 #[(0, .int .i64 1), (2, .slice p n c), (3, .slice q m d)]).run Try.prog w = .ok (ev ⟨1, 0, p, n, c, q, m, d, 0, 0⟩) w := by kernel_rfl
theorem run_build_lease (s g : Int) (w : World) : (Instr.build 30 #[(0, .int .i64 2), (1, .int .i64 s), (4, .int .u64 g)]).run Try.prog w = .ok (ev ⟨2, s, none, 0, 0, none, 0, 0, g, 0⟩) w := by kernel_rfl
theorem run_build_period (t : Int) (w : World) : (Instr.build 30 #[(0, .int .i64 3), (5, .int .u64 t)]).run Try.prog w = .ok (ev ⟨3, 0, none, 0, 0, none, 0, 0, 0, t⟩) w := by kernel_rfl
theorem run_build_kind (k : Int) (w : World) : (Instr.build 30 #[(0, .int .i64 k)]).run Try.prog w = .ok (ev ⟨k, 0, none, 0, 0, none, 0, 0, 0, 0⟩) w := by kernel_rfl
section
variable {o : Oper} {a : Act} {w : World} {ops : Array Oper} {rest : List Oper} {Q : Exit → Act → World → Prop}
theorem at_build_zero (ho : o.op = .build 30 #[]) (hw : Region.wanted o (yielded ops a.tmps) = true) (h : wpList Try.prog ops Q rest (a.put o.dst (ev zeroH)) w) : wpList Try.prog ops Q (o :: rest) a w :=
  BigFrame.wpList_want hw fun _ hK => wp_run (Instr.build 30 #[]) (by simp [execOp, ho]) (run_build_zero w) (hK _ _ h)
theorem at_build_commit (x y : Operand) (p q : Option Addr) (n c m d : Nat) (ho : o.op = .build 30 #[(0, .const (.int .i64 1)), (2, x), (3, y)]) (hx : a.eval x = .slice p n c) (hy : a.eval y = .slice q m d) (hw : Region.wanted o (yielded ops a.tmps) = true) (h : wpList Try.prog ops Q rest (a.put o.dst (ev ⟨1, 0, p, n, c, q, m, d, 0, 0⟩)) w) : wpList Try.prog ops Q (o :: rest) a w :=
  BigFrame.wpList_want hw fun _ hK => wp_run (Instr.build 30 #[(0, .int .i64 1), (2, .slice p n c), (3, .slice q m d)]) (by simp [execOp, ho, hx, hy]; rfl) (run_build_commit p q n c m d w) (hK _ _ h)
theorem at_build_lease (x y : Operand) (s g : Int) (ho : o.op = .build 30 #[(0, .const (.int .i64 2)), (1, x), (4, y)]) (hx : a.eval x = .int .i64 s) (hy : a.eval y = .int .u64 g) (hw : Region.wanted o (yielded ops a.tmps) = true) (h : wpList Try.prog ops Q rest (a.put o.dst (ev ⟨2, s, none, 0, 0, none, 0, 0, g, 0⟩)) w) : wpList Try.prog ops Q (o :: rest) a w :=
  BigFrame.wpList_want hw fun _ hK => wp_run (Instr.build 30 #[(0, .int .i64 2), (1, .int .i64 s), (4, .int .u64 g)]) (by simp [execOp, ho, hx, hy]; rfl) (run_build_lease s g w) (hK _ _ h)
theorem at_build_period (x : Operand) (t : Int) (ho : o.op = .build 30 #[(0, .const (.int .i64 3)), (5, x)]) (hx : a.eval x = .int .u64 t) (hw : Region.wanted o (yielded ops a.tmps) = true) (h : wpList Try.prog ops Q rest (a.put o.dst (ev ⟨3, 0, none, 0, 0, none, 0, 0, 0, t⟩)) w) : wpList Try.prog ops Q (o :: rest) a w :=
  BigFrame.wpList_want hw fun _ hK => wp_run (Instr.build 30 #[(0, .int .i64 3), (5, .int .u64 t)]) (by simp [execOp, ho, hx]; rfl) (run_build_period t w) (hK _ _ h)
theorem at_build_kind (x : Operand) (k : Int) (ho : o.op = .build 30 #[(0, x)]) (hx : a.eval x = .int .i64 k) (hw : Region.wanted o (yielded ops a.tmps) = true) (h : wpList Try.prog ops Q rest (a.put o.dst (ev ⟨k, 0, none, 0, 0, none, 0, 0, 0, 0⟩)) w) : wpList Try.prog ops Q (o :: rest) a w :=
  BigFrame.wpList_want hw fun _ hK => wp_run (Instr.build 30 #[(0, .int .i64 k)]) (by simp [execOp, ho, hx]) (run_build_kind k w) (hK _ _ h)
end
/-- An event is handed back, with a value beside it or alone. -/
theorem ret_ev2 {fn : Func} {x u : Tmp} {R : Ending → World → Prop} {a : Act} {w : World} (h : fn.results = #[.cell x 30, .tmp u]) (hd : a.defers = []) (g : Nat) (p : Eh) (hp : a.tmps.getD x undef = .pointer (some ⟨g, 0, none⟩))
    (hb : Blk w g 30 (el p)) (hR : R (.returned (.tuple #[ev p, a.tmps.getD u undef])) w) : bodyPost Try.prog fn R .ret a w :=
  ret_cell h hd g _ (el p) _ hp hb (by rfl) rfl size_ev hR
theorem ret_ev {fn : Func} {x : Tmp} {R : Ending → World → Prop} {a : Act} {w : World} (h : fn.results = #[.cell x 30]) (hd : a.defers = []) (g : Nat) (p : Eh) (hp : a.tmps.getD x undef = .pointer (some ⟨g, 0, none⟩))
    (hb : Blk w g 30 (el p)) (hR : R (.returned (ev p)) w) : bodyPost Try.prog fn R .ret a w :=
  ret_cell1 h hd g _ (el p) _ hp hb (by rfl) rfl size_ev hR
/-- Its cells as they lie. -/
theorem cells6 {w : World} {g : Nat} {p : Eh} (h : Blk w g 30 (el p)) : ∀ i, w.cell? ⟨g, i, none⟩ = [Value.int .i64 p.k, .int .i64 p.s, .slice p.pp p.pn p.pc, .slice p.dp p.dn p.dc, .int .u64 p.g, .int .u64 p.t][i]? := h.cell

/-- commit, lease, period. -/
theorem event_commit (p q : Option Addr) (n c m d : Nat) (w : World) :
    Calls Try.prog 25 #[.slice p n c, .slice q m d] w fun e w' => e = .returned (ev ⟨1, 0, p, n, c, q, m, d, 0, 0⟩) ∧ Below w.heap.size w w' := by
  go_enter Try.func25, Try.ntmps25
  go_wp2_with (first
    | ((fail_if_success (have _ := hX1)); (refine at_alloc_ev (by rfl) (by rfl) ?_); intro V1 hX1 hB1 hz1)
    | ((fail_if_success (have _ := hX2)); (refine at_build_commit _ _ p q n c m d (by rfl) (by rfl) (by rfl) (by rfl) ?_))
    | ((fail_if_success (have _ := hX2)); (refine at_store_ev _ _ _ _ _ (by rfl) (by rfl) (by rfl) hX1 rfl (by rfl) ?_); intro V2 hX2 hg2 hz2))
  refine ret_ev (by rfl) rfl _ _ rfl hX2 ⟨rfl, ?_⟩
  exact hB1.grown hg2 hB1.size (by simp)
theorem event_lease (s g : Int) (w : World) :
    Calls Try.prog 27 #[.int .i64 s, .int .u64 g] w fun e w' => e = .returned (ev ⟨2, s, none, 0, 0, none, 0, 0, g, 0⟩) ∧ Below w.heap.size w w' := by
  go_enter Try.func27, Try.ntmps27
  go_wp2_with (first
    | ((fail_if_success (have _ := hX1)); (refine at_alloc_ev (by rfl) (by rfl) ?_); intro V1 hX1 hB1 hz1)
    | ((fail_if_success (have _ := hX2)); (refine at_build_lease _ _ s g (by rfl) (by rfl) (by rfl) (by rfl) ?_))
    | ((fail_if_success (have _ := hX2)); (refine at_store_ev _ _ _ _ _ (by rfl) (by rfl) (by rfl) hX1 rfl (by rfl) ?_); intro V2 hX2 hg2 hz2))
  refine ret_ev (by rfl) rfl _ _ rfl hX2 ⟨rfl, ?_⟩
  exact hB1.grown hg2 hB1.size (by simp)
theorem event_period (t : Int) (w : World) :
    Calls Try.prog 30 #[.int .u64 t] w fun e w' => e = .returned (ev ⟨3, 0, none, 0, 0, none, 0, 0, 0, t⟩) ∧ Below w.heap.size w w' := by
  go_enter Try.func30, Try.ntmps30
  go_wp2_with (first
    | ((fail_if_success (have _ := hX1)); (refine at_alloc_ev (by rfl) (by rfl) ?_); intro V1 hX1 hB1 hz1)
    | ((fail_if_success (have _ := hX2)); (refine at_build_period _ t (by rfl) (by rfl) (by rfl) ?_))
    | ((fail_if_success (have _ := hX2)); (refine at_store_ev _ _ _ _ _ (by rfl) (by rfl) (by rfl) hX1 rfl (by rfl) ?_); intro V2 hX2 hg2 hz2))
  refine ret_ev (by rfl) rfl _ _ rfl hX2 ⟨rfl, ?_⟩
  exact hB1.grown hg2 hB1.size (by simp)
end Go.Proofs.Ytfgndecnakfhnaa.Event
