/-
  The book's predicates, and the library's IndexFunc and ContainsFunc over entries, whatever the predicate is; book.place.
-/
import Derived.Test.YtnaofcggdjbocaaBkPlain
import Derived.Test.YtnaofcggdjbocaaPolSat
import Derived.Test.YtnaofcggdjbocaaBkEq
import Derived.Shelf.Abstract
/-
  Events in memory: what an operation on one does, as a walk meets it.
-/
namespace Go.Proofs.Ytnaofcggdjbocaa.Event
open Go.RowKit Go.Proofs.Ytnaofcggdjbocaa.Mem Go.Proofs.Ytnaofcggdjbocaa.Policy
set_option maxRecDepth 100000

/-- What an event's cells hold: numbers, and where its lists are. -/
structure Eh where
  k : Int
  s : Int
  pp : Option Addr
  pn : Nat
  pc : Nat
  dp : Option Addr
  dn : Nat
  dc : Nat
  g : Int
  t : Int
def zeroH : Eh := ⟨0, 0, none, 0, 0, none, 0, 0, 0, 0⟩
def el (h : Eh) : List Value := [Value.int .i64 h.k, .int .i64 h.s, .slice h.pp h.pn h.pc, .slice h.dp h.dn h.dc, .int .u64 h.g, .int .u64 h.t]
def ev (h : Eh) : Value := .agg (el h).toArray
theorem el_len (h : Eh) : (el h).length = 6 := rfl
theorem el_one (h : Eh) : ∀ v ∈ el h, v.oneCell' = true := by
  intro v hv
  simp only [el, List.mem_cons, List.not_mem_nil, or_false] at hv
  rcases hv with rfl | rfl | rfl | rfl | rfl | rfl <;> rfl
theorem size_ev : (Try.prog.info? 32).map (·.size) = some 6 := by kernel_rfl
theorem zero_ev : (Try.prog.info? 32).map (fun i => i.zero) = some (some (ev zeroH)) := by kernel_rfl
/-- It is this event. -/
def Is (w : World) (h : Eh) (e : Ev) : Prop := (h.k = e.k ∧ h.s = e.s ∧ h.g = e.g ∧ h.t = e.t) ∧ (e.ps.length = h.pn ∧ RK pl w h.pp h.pc e.ps) ∧ (e.ds.length = h.dn ∧ Reads .i64 w h.dp h.dc e.ds)
theorem Is.below {w w' : World} {h : Eh} {e : Ev} (hi : Is w h e) (hb : Below w.heap.size w w') : Is w' h e := ⟨hi.1, ⟨hi.2.1.1, hi.2.1.2.below hb⟩, hi.2.2.1, hi.2.2.2.below hb⟩
theorem Is.zero (w : World) : Is w zeroH zeroE := ⟨⟨rfl, rfl, rfl, rfl⟩, ⟨rfl, RK.nil _ _⟩, rfl, Reads.nil _ _⟩
section
variable {o : Oper} {a : Act} {w : World} {K : Act → World → Prop} {ops : Array Oper} {rest : List Oper} {Q : Exit → Act → World → Prop}
theorem wp_box_ev (x : Operand) (p : Eh) (ho : o.op = .box 32 x) (hx : a.eval x = ev p) (h : ∀ w', Blk w' w.heap.size 32 (el p) → Below w.heap.size w w' → Hid (w'.heap.size = w.heap.size + 1) → K (a.put o.dst (.pointer (some ⟨w.heap.size, 0, none⟩))) w') : o.wp Try.prog a w K Q :=
  wp_box_v _ x (el p) ho hx (h _ (new_blk _ _ _) (bnew _ _) (by unfold Hid; simp))
theorem wp_alloc_ev (ho : o.op = .alloc 32) (h : ∀ w', Blk w' w.heap.size 32 (el zeroH) → Below w.heap.size w w' → Hid (w'.heap.size = w.heap.size + 1) → K (a.put o.dst (.pointer (some ⟨w.heap.size, 0, none⟩))) w') : o.wp Try.prog a w K Q :=
  wp_alloc_z _ _ ho zero_ev (h _ (new_blk _ _ _) (bnew _ _) (by unfold Hid; simp))
theorem wp_load_ev (x : Operand) (g : Nat) (p : Eh) (ho : o.op = .load 32 x) (hx : a.eval x = .pointer (some ⟨g, 0, none⟩)) (hb : Blk w g 32 (el p)) (h : K (a.put o.dst (ev p)) w) : o.wp Try.prog a w K Q :=
  wp_load_mid _ x ho g 0 hx (el p) _ (fun j v hv => by rw [Nat.zero_add, hb.cell]; exact hv) (by rfl) rfl size_ev h
theorem wp_store_ev (x y : Operand) (g : Nat) (cs : List Value) (p : Eh) (ho : o.op = .store 32 x y) (hx : a.eval x = .pointer (some ⟨g, 0, none⟩)) (hy : a.eval y = ev p) (hb : Blk w g 32 cs) (hl : cs.length = 6)
    (h : ∀ w', Blk w' g 32 (el p) → w.grownBy w' (some g) → Hid (w'.heap.size = w.heap.size) → K (a.put o.dst undef) w') : o.wp Try.prog a w K Q := by
  unfold Oper.wp execOp
  have e := run_storeVar_row (P := Try.prog) w g 32 32 cs.toArray (el p).toArray hb (by simpa [el_len] using size_ev) (by simp [hl, el_len]) (all_oneCell_toArray (el_one p))
  simp only [ho, hx, hy, ev, Instr.storeAt, Instr.sureAddr, Sem.run_bind, Sem.run_pure, Result.andThen_ok, e]
  exact h _ (setRow_heap w g _ _ _ _ hb) ⟨rfl, rfl, rfl, by simp [World.setRow], fun k _ hk => setRow_other w g k _ (fun e => hk (by simp [e]))⟩ (by unfold Hid; simp [World.setRow])
theorem at_box_ev (x : Operand) (p : Eh) (ho : o.op = .box 32 x) (hx : a.eval x = ev p) (hw : Region.wanted o (yielded ops a.tmps) = true) (h : ∀ w', Blk w' w.heap.size 32 (el p) → Below w.heap.size w w' → Hid (w'.heap.size = w.heap.size + 1) → wpList Try.prog ops Q rest (a.put o.dst (.pointer (some ⟨w.heap.size, 0, none⟩))) w') : wpList Try.prog ops Q (o :: rest) a w :=
  BigFrame.wpList_want hw fun _ hK => wp_box_ev x p ho hx (fun w2 h1 h2 h3 => hK _ _ (h w2 h1 h2 h3))
theorem at_alloc_ev (ho : o.op = .alloc 32) (hw : Region.wanted o (yielded ops a.tmps) = true) (h : ∀ w', Blk w' w.heap.size 32 (el zeroH) → Below w.heap.size w w' → Hid (w'.heap.size = w.heap.size + 1) → wpList Try.prog ops Q rest (a.put o.dst (.pointer (some ⟨w.heap.size, 0, none⟩))) w') : wpList Try.prog ops Q (o :: rest) a w :=
  BigFrame.wpList_want hw fun _ hK => wp_alloc_ev ho (fun w2 h1 h2 h3 => hK _ _ (h w2 h1 h2 h3))
theorem at_load_ev (x : Operand) (g : Nat) (p : Eh) (ho : o.op = .load 32 x) (hx : a.eval x = .pointer (some ⟨g, 0, none⟩)) (hb : Blk w g 32 (el p)) (hw : Region.wanted o (yielded ops a.tmps) = true) (h : wpList Try.prog ops Q rest (a.put o.dst (ev p)) w) : wpList Try.prog ops Q (o :: rest) a w :=
  BigFrame.wpList_want hw fun _ hK => wp_load_ev x g p ho hx hb (hK _ _ h)
theorem at_store_ev (x y : Operand) (g : Nat) (cs : List Value) (p : Eh) (ho : o.op = .store 32 x y) (hx : a.eval x = .pointer (some ⟨g, 0, none⟩)) (hy : a.eval y = ev p) (hb : Blk w g 32 cs) (hl : cs.length = 6) (hw : Region.wanted o (yielded ops a.tmps) = true) (h : ∀ w', Blk w' g 32 (el p) → w.grownBy w' (some g) → Hid (w'.heap.size = w.heap.size) → wpList Try.prog ops Q rest (a.put o.dst undef) w') : wpList Try.prog ops Q (o :: rest) a w :=
  BigFrame.wpList_want hw fun _ hK => wp_store_ev x y g cs p ho hx hy hb hl (fun w2 h1 h2 h3 => hK _ _ (h w2 h1 h2 h3))
end
theorem run_build_zero (w : World) : (Instr.build 32 #[]).run Try.prog w = .ok (ev zeroH) w := by kernel_rfl
theorem run_build_commit (p q : Option Addr) (n c m d : Nat) (w : World) : (Instr.build 32 #[(0, .int .i64 1), (2, .slice p n c), (3, .slice q m d)]).run Try.prog w = .ok (ev ⟨1, 0, p, n, c, q, m, d, 0, 0⟩) w := by kernel_rfl
theorem run_build_lease (s g : Int) (w : World) : (Instr.build 32 #[(0, .int .i64 2), (1, .int .i64 s), (4, .int .u64 g)]).run Try.prog w = .ok (ev ⟨2, s, none, 0, 0, none, 0, 0, g, 0⟩) w := by kernel_rfl
theorem run_build_period (t : Int) (w : World) : (Instr.build 32 #[(0, .int .i64 3), (5, .int .u64 t)]).run Try.prog w = .ok (ev ⟨3, 0, none, 0, 0, none, 0, 0, 0, t⟩) w := by kernel_rfl
theorem run_build_kind (k : Int) (w : World) : (Instr.build 32 #[(0, .int .i64 k)]).run Try.prog w = .ok (ev ⟨k, 0, none, 0, 0, none, 0, 0, 0, 0⟩) w := by kernel_rfl
section
variable {o : Oper} {a : Act} {w : World} {ops : Array Oper} {rest : List Oper} {Q : Exit → Act → World → Prop}
theorem at_build_zero (ho : o.op = .build 32 #[]) (hw : Region.wanted o (yielded ops a.tmps) = true) (h : wpList Try.prog ops Q rest (a.put o.dst (ev zeroH)) w) : wpList Try.prog ops Q (o :: rest) a w :=
  BigFrame.wpList_want hw fun _ hK => wp_run (Instr.build 32 #[]) (by simp [execOp, ho]) (run_build_zero w) (hK _ _ h)
theorem at_build_commit (x y : Operand) (p q : Option Addr) (n c m d : Nat) (ho : o.op = .build 32 #[(0, .const (.int .i64 1)), (2, x), (3, y)]) (hx : a.eval x = .slice p n c) (hy : a.eval y = .slice q m d) (hw : Region.wanted o (yielded ops a.tmps) = true) (h : wpList Try.prog ops Q rest (a.put o.dst (ev ⟨1, 0, p, n, c, q, m, d, 0, 0⟩)) w) : wpList Try.prog ops Q (o :: rest) a w :=
  BigFrame.wpList_want hw fun _ hK => wp_run (Instr.build 32 #[(0, .int .i64 1), (2, .slice p n c), (3, .slice q m d)]) (by simp [execOp, ho, hx, hy]; rfl) (run_build_commit p q n c m d w) (hK _ _ h)
theorem at_build_lease (x y : Operand) (s g : Int) (ho : o.op = .build 32 #[(0, .const (.int .i64 2)), (1, x), (4, y)]) (hx : a.eval x = .int .i64 s) (hy : a.eval y = .int .u64 g) (hw : Region.wanted o (yielded ops a.tmps) = true) (h : wpList Try.prog ops Q rest (a.put o.dst (ev ⟨2, s, none, 0, 0, none, 0, 0, g, 0⟩)) w) : wpList Try.prog ops Q (o :: rest) a w :=
  BigFrame.wpList_want hw fun _ hK => wp_run (Instr.build 32 #[(0, .int .i64 2), (1, .int .i64 s), (4, .int .u64 g)]) (by simp [execOp, ho, hx, hy]; rfl) (run_build_lease s g w) (hK _ _ h)
theorem at_build_period (x : Operand) (t : Int) (ho : o.op = .build 32 #[(0, .const (.int .i64 3)), (5, x)]) (hx : a.eval x = .int .u64 t) (hw : Region.wanted o (yielded ops a.tmps) = true) (h : wpList Try.prog ops Q rest (a.put o.dst (ev ⟨3, 0, none, 0, 0, none, 0, 0, 0, t⟩)) w) : wpList Try.prog ops Q (o :: rest) a w :=
  BigFrame.wpList_want hw fun _ hK => wp_run (Instr.build 32 #[(0, .int .i64 3), (5, .int .u64 t)]) (by simp [execOp, ho, hx]; rfl) (run_build_period t w) (hK _ _ h)
theorem at_build_kind (x : Operand) (k : Int) (ho : o.op = .build 32 #[(0, x)]) (hx : a.eval x = .int .i64 k) (hw : Region.wanted o (yielded ops a.tmps) = true) (h : wpList Try.prog ops Q rest (a.put o.dst (ev ⟨k, 0, none, 0, 0, none, 0, 0, 0, 0⟩)) w) : wpList Try.prog ops Q (o :: rest) a w :=
  BigFrame.wpList_want hw fun _ hK => wp_run (Instr.build 32 #[(0, .int .i64 k)]) (by simp [execOp, ho, hx]) (run_build_kind k w) (hK _ _ h)
end
/-- An event is handed back, with a value beside it or alone. -/
theorem ret_ev2 {fn : Func} {x u : Tmp} {R : Ending → World → Prop} {a : Act} {w : World} (h : fn.results = #[.cell x 32, .tmp u]) (hd : a.defers = []) (g : Nat) (p : Eh) (hp : a.tmps.getD x undef = .pointer (some ⟨g, 0, none⟩))
    (hb : Blk w g 32 (el p)) (hR : R (.returned (.tuple #[ev p, a.tmps.getD u undef])) w) : bodyPost Try.prog fn R .ret a w :=
  ret_cell h hd g _ (el p) _ hp hb (by rfl) rfl size_ev hR
theorem ret_ev {fn : Func} {x : Tmp} {R : Ending → World → Prop} {a : Act} {w : World} (h : fn.results = #[.cell x 32]) (hd : a.defers = []) (g : Nat) (p : Eh) (hp : a.tmps.getD x undef = .pointer (some ⟨g, 0, none⟩))
    (hb : Blk w g 32 (el p)) (hR : R (.returned (ev p)) w) : bodyPost Try.prog fn R .ret a w :=
  ret_cell1 h hd g _ (el p) _ hp hb (by rfl) rfl size_ev hR
/-- Its cells as they lie. -/
theorem cells6 {w : World} {g : Nat} {p : Eh} (h : Blk w g 32 (el p)) : ∀ i, w.cell? ⟨g, i, none⟩ = [Value.int .i64 p.k, .int .i64 p.s, .slice p.pp p.pn p.pc, .slice p.dp p.dn p.dc, .int .u64 p.g, .int .u64 p.t][i]? := h.cell

/-- commit, lease, period. -/
theorem event_commit (p q : Option Addr) (n c m d : Nat) (w : World) :
    Calls Try.prog 45 #[.slice p n c, .slice q m d] w fun e w' => e = .returned (ev ⟨1, 0, p, n, c, q, m, d, 0, 0⟩) ∧ Below w.heap.size w w' := by
  go_enter Try.func45, Try.ntmps45
  go_wp2_with (first
    | ((fail_if_success (have _ := hX1)); (refine at_alloc_ev (by rfl) (by rfl) ?_); intro V1 hX1 hB1 hz1)
    | ((fail_if_success (have _ := hX2)); (refine at_build_commit _ _ p q n c m d (by rfl) (by rfl) (by rfl) (by rfl) ?_))
    | ((fail_if_success (have _ := hX2)); (refine at_store_ev _ _ _ _ _ (by rfl) (by rfl) (by rfl) hX1 rfl (by rfl) ?_); intro V2 hX2 hg2 hz2))
  refine ret_ev (by rfl) rfl _ _ rfl hX2 ⟨rfl, ?_⟩
  exact hB1.grown hg2 hB1.size (by simp)
theorem event_lease (s g : Int) (w : World) :
    Calls Try.prog 47 #[.int .i64 s, .int .u64 g] w fun e w' => e = .returned (ev ⟨2, s, none, 0, 0, none, 0, 0, g, 0⟩) ∧ Below w.heap.size w w' := by
  go_enter Try.func47, Try.ntmps47
  go_wp2_with (first
    | ((fail_if_success (have _ := hX1)); (refine at_alloc_ev (by rfl) (by rfl) ?_); intro V1 hX1 hB1 hz1)
    | ((fail_if_success (have _ := hX2)); (refine at_build_lease _ _ s g (by rfl) (by rfl) (by rfl) (by rfl) ?_))
    | ((fail_if_success (have _ := hX2)); (refine at_store_ev _ _ _ _ _ (by rfl) (by rfl) (by rfl) hX1 rfl (by rfl) ?_); intro V2 hX2 hg2 hz2))
  refine ret_ev (by rfl) rfl _ _ rfl hX2 ⟨rfl, ?_⟩
  exact hB1.grown hg2 hB1.size (by simp)
theorem event_period (t : Int) (w : World) :
    Calls Try.prog 50 #[.int .u64 t] w fun e w' => e = .returned (ev ⟨3, 0, none, 0, 0, none, 0, 0, 0, t⟩) ∧ Below w.heap.size w w' := by
  go_enter Try.func50, Try.ntmps50
  go_wp2_with (first
    | ((fail_if_success (have _ := hX1)); (refine at_alloc_ev (by rfl) (by rfl) ?_); intro V1 hX1 hB1 hz1)
    | ((fail_if_success (have _ := hX2)); (refine at_build_period _ t (by rfl) (by rfl) (by rfl) ?_))
    | ((fail_if_success (have _ := hX2)); (refine at_store_ev _ _ _ _ _ (by rfl) (by rfl) (by rfl) hX1 rfl (by rfl) ?_); intro V2 hX2 hg2 hz2))
  refine ret_ev (by rfl) rfl _ _ rfl hX2 ⟨rfl, ?_⟩
  exact hB1.grown hg2 hB1.size (by simp)
end Go.Proofs.Ytnaofcggdjbocaa.Event
namespace Go.Proofs.Ytnaofcggdjbocaa.Book
open Go.RowKit Go.Proofs.Ytnaofcggdjbocaa.Mem Go.Proofs.Ytnaofcggdjbocaa.Policy Go.Proofs.Ytnaofcggdjbocaa.Event Go.Proofs.Ytnaofcggdjbocaa.Addr
set_option maxRecDepth 100000

theorem cells14 {w : World} {g : Nat} {e : En} (h : Blk w g 49 (nl e)) : ∀ i, w.cell? ⟨g, i, none⟩ = [Value.int .i64 e.p.s, .int .u8 (b0 e.p.N), .int .u8 (b1 e.p.N), .int .u8 (b2 e.p.N), .int .u8 (b3 e.p.N), .int .i64 e.p.b, .int .u64 (e.p.x0 : Int), .int .u64 (e.p.x1 : Int), .int .u64 (e.p.x2 : Int), .int .u64 (e.p.x3 : Int), .int .u64 (e.p.x4 : Int), .int .u64 (e.p.x5 : Int), .int .u64 (e.p.x6 : Int), .int .u64 e.g][i]? := h.cell
theorem ent_at {w : World} {q : Option Addr} {c k : Nat} {xs : List En} {x : En} (r : RK nl w q c xs) (hx : xs[k]? = some x) : ∃ b o, q = some ⟨b, o, none⟩ ∧ b < w.heap.size ∧ ∀ j v, (nl x)[j]? = some v → w.cell? ⟨b, o + k * 14 + j, none⟩ = some v := r.at len_en hx

/-- book.tooMuch. -/
theorem too_much (e : En) (w : World) : Calls Try.prog 32 #[nv e] w fun x w' => x = .returned (.bool (decide (281474976710656 < e.g))) ∧ Below w.heap.size w w' := by
  go_enter Try.func32, Try.ntmps32
  go_wp2_with (first
    | ((fail_if_success (have _ := hX1)); (refine at_box_en _ _ (by rfl) (by rfl) (by rfl) ?_); intro V1 hX1 hB1 hz1; have c1 := cells14 hX1))
  go_ret
  exact ⟨by simp, hB1⟩
/-- book.place's own. -/
theorem place_is (e : En) (gs : Nat) (s : Int) (w : World) (hs : w.cell? ⟨gs, 0, none⟩ = some (.int .i64 s)) : Calls Try.prog 66 #[nv e, .pointer (some ⟨gs, 0, none⟩)] w fun x w' => x = .returned (.bool (decide (e.p.s = s))) ∧ Below w.heap.size w w' := by
  have hlt := World.block_lt_of_cell? w _ hs
  simp only at hlt
  go_enter Try.func66, Try.ntmps66
  go_wp2_with (first
    | ((fail_if_success (have _ := hX1)); (refine at_box_en _ _ (by rfl) (by rfl) (by rfl) ?_); intro V1 hX1 hB1 hz1; have c1 := cells14 hX1; have c2 := (hB1.cell (p := ⟨gs, 0, none⟩) hlt).trans hs))
  go_ret
  refine ⟨?_, hB1⟩
  by_cases h : e.p.s = s <;> simp [h]

/-- What a predicate is told to answer. -/
def Tells (w : World) (F : FuncId) (caps : Array Value) (f : En → Bool) : Prop :=
  (∀ args w', (callFunc F args).run Try.prog w' = .ok (.enter F args) w') ∧ ∀ (e : En) (w' : World), Below w.heap.size w w' → Calls Try.prog F (#[nv e] ++ caps) w' fun x w'' => x = .returned (.bool (f e)) ∧ Below w'.heap.size w' w''
def idxE (f : En → Bool) (es : List En) : Int := match es.findIdx? f with
  | some i => (i : Int)
  | none => -1
theorem idx_none {f : En → Bool} {es : List En} (h : ∀ e ∈ es, f e = false) : idxE f es = -1 := by
  unfold idxE; rw [List.findIdx?_eq_none_iff.2 h]
theorem idx_some {f : En → Bool} {es : List En} {i : Nat} {e : En} (hi : es[i]? = some e) (he : f e = true) (h : ∀ x ∈ es.take i, f x = false) : idxE f es = i := by
  have hl := (List.getElem?_eq_some_iff.1 hi).1
  have hx : es[i] = e := (List.getElem?_eq_some_iff.1 hi).2
  unfold idxE
  have : es.findIdx? f = some i := by
    rw [List.findIdx?_eq_some_iff_getElem]
    refine ⟨hl, by rw [hx]; exact he, fun j hj => ?_⟩
    have := h es[j] (List.mem_take_iff_getElem.2 ⟨j, by omega, rfl⟩)
    simpa using this
  rw [this]
theorem idx_any (f : En → Bool) (es : List En) : decide (0 ≤ idxE f es) = es.any f := by
  unfold idxE
  cases h : es.findIdx? f with
  | none =>
    rw [List.findIdx?_eq_none_iff] at h
    have : es.any f = false := by simpa using h
    rw [this]; rfl
  | some i =>
    rw [List.findIdx?_eq_some_iff_getElem] at h
    obtain ⟨h1, h2, _⟩ := h
    have : es.any f = true := List.any_eq_true.2 ⟨es[i], List.getElem_mem h1, h2⟩
    rw [this]
    simp
theorem idx_is (f : En → Bool) (es : List En) : (idxE f es = -1 ∧ ∀ e ∈ es, f e = false) ∨ ∃ (i : Nat) (e : En), idxE f es = i ∧ es[i]? = some e ∧ f e = true ∧ ∀ x ∈ es.take i, f x = false := by
  unfold idxE
  cases h : es.findIdx? f with
  | none => exact .inl ⟨rfl, List.findIdx?_eq_none_iff.1 h⟩
  | some i =>
    rw [List.findIdx?_eq_some_iff_getElem] at h
    obtain ⟨h1, h2, h3⟩ := h
    refine .inr ⟨i, es[i], rfl, List.getElem?_eq_getElem h1, h2, fun x hx => ?_⟩
    obtain ⟨j, hj, rfl⟩ := List.mem_take_iff_getElem.1 hx
    have := h3 j (by omega)
    simpa using this
set_option maxHeartbeats 2000000 in
/-- slices.IndexFunc. -/
theorem index_func (q : Option Addr) (n c : Nat) (es : List En) (hl : es.length = n) (hn : n ≤ 1000) (F : FuncId) (caps : Array Value) (f : En → Bool) (w : World) (hf : Tells w F caps f) (r : RK nl w q c es) :
    Calls Try.prog 59 #[.slice q n c, .func (.func F) #[] caps] w fun x w' => x = .returned (.int .i64 (idxE f es)) ∧ Below w.heap.size w w' := by
  obtain ⟨eF, hf⟩ := hf
  go_enter Try.func59, Try.ntmps59
  go_wp2
  go_loopw [8] (fun i wr => ∃ k : Nat, k ≤ n ∧ i = .int .i64 k ∧ Below w.heap.size w wr ∧ Hid (∀ x ∈ es.take k, f x = false)) (fun i _ => n - (intOf i).toNat)
  case atStart => exact ⟨0, by omega, rfl, Below.refl _ _, by unfold Hid; simp⟩
  case round =>
    obtain ⟨k, hk, rfl, hB, HK⟩ := hrel
    by_cases hlt : k < n
    · have hlt3 : (k : Int) < (n : Int) := by omega
      obtain ⟨x, hx⟩ : ∃ x, es[k]? = some x := ⟨_, List.getElem?_eq_getElem (by omega)⟩
      obtain ⟨b, o, rfl, hb, hc⟩ := ent_at (r.below hB) hx
      have HX : Hid (es[k]? = some x) := hx
      clear hx
      have hcall := fun {W : World} (hb : Below w.heap.size w W) => hf x W hb
      cases hT : f x with
      | true =>
        rw [hT] at hcall
        have HR : Hid (idxE f es = (k : Int)) := idx_some HX.out hT HK.out
        go_wp2_with (first
          | (refine at_load_ren _ _ _ _ (by rfl) (by rfl) hc (by rfl) ?_)
          | ((with_reducible refine (hcall hB).mono ?_); rintro e w5 ⟨rfl, hB5⟩))
        go_ret
        exact ⟨by rw [HR.out]; rfl, bnext hB hB5⟩
      | false =>
        rw [hT] at hcall
        have HN : Hid (∀ y ∈ es.take (k + 1), f y = false) := by
          intro y hy
          rw [List.take_succ_eq_append_getElem (by omega), List.mem_append, List.mem_singleton] at hy
          rcases hy with hy | rfl
          · exact HK.out y hy
          · have := HX.out
            rw [List.getElem?_eq_getElem (by omega)] at this
            rw [Option.some.inj this]; exact hT
        clear HK HX hT
        go_wp2_with (first
          | (refine at_load_ren _ _ _ _ (by rfl) (by rfl) hc (by rfl) ?_)
          | ((with_reducible refine (hcall hB).mono ?_); rintro e w5 ⟨rfl, hB5⟩))
        go_roundw
        case rel => exact ⟨k + 1, by omega, by go_num, bnext hB hB5, HN⟩
        case measure => simp [intOf]; omega
    · obtain rfl : k = n := by omega
      have hd : es.take k = es := List.take_of_length_le (by omega)
      have HR : Hid (idxE f es = -1) := idx_none (by rw [← hd]; exact HK.out)
      go_wp2
      go_ret
      exact ⟨by rw [HR.out]; rfl, hB⟩
/-- slices.ContainsFunc. -/
theorem contains_func (q : Option Addr) (n c : Nat) (es : List En) (hl : es.length = n) (hn : n ≤ 1000) (F : FuncId) (caps : Array Value) (f : En → Bool) (w : World) (hf : Tells w F caps f) (r : RK nl w q c es) :
    Calls Try.prog 31 #[.slice q n c, .func (.func F) #[] caps] w fun x w' => x = .returned (.bool (es.any f)) ∧ Below w.heap.size w w' := by
  have hI := index_func q n c es hl hn F caps f w hf r
  have hA := idx_any f es
  obtain ⟨X, hX⟩ : ∃ X, idxE f es = X := ⟨_, rfl⟩
  rw [hX] at hI hA
  rw [← hA]
  clear hA hX
  go_enter Try.func31, Try.ntmps31
  go_wp2_with (with_reducible refine hI.mono ?_; rintro e w5 ⟨rfl, hB5⟩)
  go_ret
  exact ⟨by simp, hB5⟩
def placeI (es : List En) (s : Int) : Int := idxE (fun e => decide (e.p.s = s)) es
/-- book.place. -/
theorem book_place (q : Option Addr) (n c : Nat) (es : List En) (s : Int) (hl : es.length = n) (hn : n ≤ 1000) (w : World) (r : RK nl w q c es) :
    Calls Try.prog 37 #[.slice q n c, .int .i64 s] w fun x w' => x = .returned (.int .i64 (placeI es s)) ∧ Below w.heap.size w w' := by
  have hB1 : Below w.heap.size w (w.alloc (.cells #[.int .i64 s] 3)) := bnew _ _
  have hc : (w.alloc (.cells #[.int .i64 s] 3)).cell? ⟨w.heap.size, 0, none⟩ = some (.int .i64 s) := (Blk.new w #[.int .i64 s] 3).cell 0
  have hT : Tells (w.alloc (.cells #[.int .i64 s] 3)) 66 #[.pointer (some ⟨w.heap.size, 0, none⟩)] (fun e => decide (e.p.s = s)) :=
    ⟨enters_of Try.func66 (by kernel_rfl) rfl, fun e w' hb => place_is e w.heap.size s w' ((hb.cell (p := ⟨w.heap.size, 0, none⟩) (World.block_lt_of_cell? _ _ hc)).trans hc)⟩
  have hI : Calls Try.prog 59 #[.slice q n c, .func (.func 66) #[] #[.pointer (some ⟨w.heap.size, 0, none⟩)]] (w.alloc (.cells #[.int .i64 s] 3)) fun x w' => x = .returned (.int .i64 (placeI es s)) ∧ Below (w.alloc (.cells #[.int .i64 s] 3)).heap.size (w.alloc (.cells #[.int .i64 s] 3)) w' :=
    index_func q n c es hl hn 66 #[.pointer (some ⟨w.heap.size, 0, none⟩)] _ _ hT (r.below hB1)
  obtain ⟨X, hX⟩ : ∃ X, placeI es s = X := ⟨_, rfl⟩
  rw [hX] at hI ⊢
  clear hX hT hc
  go_enter Try.func37, Try.ntmps37
  go_wp2_with (with_reducible refine hI.mono ?_; rintro e w5 ⟨rfl, hB5⟩)
  go_ret
  exact ⟨rfl, bnext hB1 hB5⟩
end Go.Proofs.Ytnaofcggdjbocaa.Book
