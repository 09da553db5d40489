/-
  The document's log: a value of five cells; Start, Left, place.
-/
import Derived.Test.YthgafnommcodcaaWalScan
import Derived.Test.YthgafnommcodcaaAreaRef
import Derived.Test.YthgafnommcodcaaDiskRef4
import Derived.Test.YthgafnommcodcaaFrameRefOpen
namespace Go.Proofs.Ythgafnommcodcaa.Wal
open Go.RowKit Go.Proofs.Ythgafnommcodcaa.Mem Go.Proofs.Ythgafnommcodcaa.Sect Go.Proofs.Ythgafnommcodcaa.Frame Go.Proofs.Ythgafnommcodcaa.Disk Go.Proofs.Ythgafnommcodcaa.Area
set_option maxRecDepth 100000

/-- A log as the document has it: epoch, next number, the segment begun with, the one in which it is, how many sectors are taken. -/
structure RLg where
  ep : Nat
  nx : Nat
  st : Nat
  nw : Nat
  tk : Nat
def ll (l : RLg) : List Value := [.int .u32 (l.ep : Int), .int .u64 (l.nx : Int), .int .i64 (l.st : Int), .int .i64 (l.nw : Int), .int .i64 (l.tk : Int)]
def lv (l : RLg) : Value := .agg (ll l).toArray
theorem size_ll : (Try.prog.info? 42).map (·.size) = some 5 := by kernel_rfl
theorem ll_one (l : RLg) : ∀ v ∈ ll l, v.oneCell' = true := by
  intro v hv
  simp only [ll, List.mem_cons, List.not_mem_nil, or_false] at hv
  rcases hv with rfl | rfl | rfl | rfl | rfl <;> rfl
section
variable {o : Oper} {a : Act} {w : World} {K : Act → World → Prop} {Q : Exit → Act → World → Prop}
theorem zero_ll : (Try.prog.info? 42).map (fun i => i.zero) = some (some (lv ⟨0, 0, 0, 0, 0⟩)) := by kernel_rfl
theorem wp_box_ll (x : Operand) (l : RLg) (ho : o.op = .box 42 x) (hx : a.eval x = lv l) (h : ∀ w', Blk w' w.heap.size 42 (ll l) → Below w.heap.size w w' → Hid (w'.heap.size = w.heap.size + 1) → K (a.put o.dst (.pointer (some ⟨w.heap.size, 0, none⟩))) w') : o.wp Try.prog a w K Q :=
  wp_box_v _ x (ll l) ho hx (h _ (new_blk _ _ _) (bnew _ _) (by unfold Hid; simp))
theorem wp_alloc_ll (ho : o.op = .alloc 42) (h : ∀ w', Blk w' w.heap.size 42 (ll ⟨0, 0, 0, 0, 0⟩) → Below w.heap.size w w' → Hid (w'.heap.size = w.heap.size + 1) → K (a.put o.dst (.pointer (some ⟨w.heap.size, 0, none⟩))) w') : o.wp Try.prog a w K Q :=
  wp_alloc_z _ _ ho zero_ll (h _ (new_blk _ _ _) (bnew _ _) (by unfold Hid; simp))
theorem wp_load_ll (x : Operand) (g : Nat) (l : RLg) (ho : o.op = .load 42 x) (hx : a.eval x = .pointer (some ⟨g, 0, none⟩)) (hb : Blk w g 42 (ll l)) (h : K (a.put o.dst (lv l)) w) : o.wp Try.prog a w K Q :=
  wp_load_mid _ x ho g 0 hx (ll l) _ (fun j v hv => by rw [Nat.zero_add, hb.cell]; exact hv) (by rfl) rfl size_ll h
theorem wp_store_ll (x y : Operand) (g : Nat) (cs : List Value) (l : RLg) (ho : o.op = .store 42 x y) (hx : a.eval x = .pointer (some ⟨g, 0, none⟩)) (hy : a.eval y = lv l) (hb : Blk w g 42 cs) (hl : cs.length = 5)
    (h : ∀ w', Blk w' g 42 (ll l) → w.grownBy w' (some g) → Hid (w'.heap.size = w.heap.size) → K (a.put o.dst undef) w') : o.wp Try.prog a w K Q := by
  unfold Oper.wp execOp
  have e := run_storeVar_row (P := Try.prog) w g 42 42 cs.toArray (ll l).toArray hb (by simpa [ll] using size_ll) (by simp [hl, ll]) (all_oneCell_toArray (ll_one l))
  simp only [ho, hx, hy, lv, Instr.storeAt, Instr.sureAddr, Sem.run_bind, Sem.run_pure, Result.andThen_ok, e]
  exact h _ (setRow_heap w g _ _ _ _ hb) ⟨rfl, rfl, rfl, by simp [World.setRow], fun k _ hk => setRow_other w g k _ (fun e => hk (by simp [e]))⟩ (by unfold Hid; simp [World.setRow])
end
section
variable {o : Oper} {a : Act} {w : World} {ops : Array Oper} {rest : List Oper} {Q : Exit → Act → World → Prop}
theorem at_box_ll (x : Operand) (l : RLg) (ho : o.op = .box 42 x) (hx : a.eval x = lv l) (hw : Region.wanted o (yielded ops a.tmps) = true) (h : ∀ w', Blk w' w.heap.size 42 (ll l) → Below w.heap.size w w' → Hid (w'.heap.size = w.heap.size + 1) → wpList Try.prog ops Q rest (a.put o.dst (.pointer (some ⟨w.heap.size, 0, none⟩))) w') : wpList Try.prog ops Q (o :: rest) a w :=
  BigFrame.wpList_want hw fun _ hK => wp_box_ll x l ho hx (fun w2 h1 h2 h3 => hK _ _ (h w2 h1 h2 h3))
theorem at_alloc_ll (ho : o.op = .alloc 42) (hw : Region.wanted o (yielded ops a.tmps) = true) (h : ∀ w', Blk w' w.heap.size 42 (ll ⟨0, 0, 0, 0, 0⟩) → Below w.heap.size w w' → Hid (w'.heap.size = w.heap.size + 1) → wpList Try.prog ops Q rest (a.put o.dst (.pointer (some ⟨w.heap.size, 0, none⟩))) w') : wpList Try.prog ops Q (o :: rest) a w :=
  BigFrame.wpList_want hw fun _ hK => wp_alloc_ll ho (fun w2 h1 h2 h3 => hK _ _ (h w2 h1 h2 h3))
theorem at_load_ll (x : Operand) (g : Nat) (l : RLg) (ho : o.op = .load 42 x) (hx : a.eval x = .pointer (some ⟨g, 0, none⟩)) (hb : Blk w g 42 (ll l)) (hw : Region.wanted o (yielded ops a.tmps) = true) (h : wpList Try.prog ops Q rest (a.put o.dst (lv l)) w) : wpList Try.prog ops Q (o :: rest) a w :=
  BigFrame.wpList_want hw fun _ hK => wp_load_ll x g l ho hx hb (hK _ _ h)
theorem at_store_ll (x y : Operand) (g : Nat) (cs : List Value) (l : RLg) (ho : o.op = .store 42 x y) (hx : a.eval x = .pointer (some ⟨g, 0, none⟩)) (hy : a.eval y = lv l) (hb : Blk w g 42 cs) (hl : cs.length = 5) (hw : Region.wanted o (yielded ops a.tmps) = true) (h : ∀ w', Blk w' g 42 (ll l) → w.grownBy w' (some g) → Hid (w'.heap.size = w.heap.size) → wpList Try.prog ops Q rest (a.put o.dst undef) w') : wpList Try.prog ops Q (o :: rest) a w :=
  BigFrame.wpList_want hw fun _ hK => wp_store_ll x y g cs l ho hx hy hb hl (fun w2 h1 h2 h3 => hK _ _ (h w2 h1 h2 h3))
end
/-- A disk is handed back, with a number beside it or alone. -/
theorem ret_ll2 {fn : Func} {x u : Tmp} {R : Ending → World → Prop} {a : Act} {w : World} (h : fn.results = #[.cell x 42, .tmp u]) (hd : a.defers = []) (g : Nat) (l : RLg) (hp : a.tmps.getD x undef = .pointer (some ⟨g, 0, none⟩))
    (hb : Blk w g 42 (ll l)) (hR : R (.returned (.tuple #[lv l, a.tmps.getD u undef])) w) : bodyPost Try.prog fn R .ret a w :=
  ret_cell h hd g _ (ll l) _ hp hb (by rfl) rfl size_ll hR
theorem ret_ll {fn : Func} {x : Tmp} {R : Ending → World → Prop} {a : Act} {w : World} (h : fn.results = #[.cell x 42]) (hd : a.defers = []) (g : Nat) (l : RLg) (hp : a.tmps.getD x undef = .pointer (some ⟨g, 0, none⟩))
    (hb : Blk w g 42 (ll l)) (hR : R (.returned (lv l)) w) : bodyPost Try.prog fn R .ret a w :=
  ret_cell1 h hd g _ (ll l) _ hp hb (by rfl) rfl size_ll hR
theorem ref_Start_no (n k : Int) (ep s : Nat) {E : Int} (hE : chk n k s = E) (hE0 : E ≠ 0) (w : World) :
    Calls Try.prog 13 #[.int .i64 n, .int .u32 (ep : Int), .int .u64 (s : Int), .int .i64 k] w fun e w' => e = .returned (.tuple #[lv ⟨0, 0, 0, 0, 0⟩, .int .i64 E]) ∧ Below w.heap.size w w' := by
  have hs := fun W => ref_Seg n k W
  unfold chk at hE
  cases ht : there n k with
  | false =>
    rw [ht, if_neg (by simp)] at hE
    subst hE
    simp only [plc_no ht, plE_no ht] at hs
    clear ht
    go_enter Try.func13, Try.ntmps13
    go_wp2_with (first
      | ((refine at_alloc_ll (by rfl) (by rfl) ?_); intro W1 hY1 hB1 hz1)
      | ((with_reducible refine (hs _).mono ?_); rintro e w1 ⟨rfl, hw⟩; rw [hw]; clear hw)
      | ((refine at_store_ll _ _ _ _ ⟨0, 0, 0, 0, 0⟩ (by rfl) (by rfl) (by rfl) hY1 rfl (by rfl) ?_); intro W2 hY2 hg2 hz2))
    exact ret_ll2 rfl rfl _ _ rfl hY2 ⟨rfl, hB1.grown hg2 hB1.size (by simp)⟩
  | true =>
    rw [ht, if_pos rfl] at hE
    have h0 : s = 0 := by
      by_cases h0 : s = 0
      · exact h0
      · rw [if_neg h0] at hE; omega
    rw [if_pos h0] at hE
    subst hE h0
    simp only [plE_ok ht] at hs
    generalize plc n k = P at hs
    clear ht
    go_enter Try.func13, Try.ntmps13
    go_wp2_with (first
      | ((refine at_alloc_ll (by rfl) (by rfl) ?_); intro W1 hY1 hB1 hz1)
      | ((with_reducible refine (hs _).mono ?_); rintro e w1 ⟨rfl, hw⟩; rw [hw]; clear hw)
      | ((refine at_store_ll _ _ _ _ ⟨0, 0, 0, 0, 0⟩ (by rfl) (by rfl) (by rfl) hY1 rfl (by rfl) ?_); intro W2 hY2 hg2 hz2))
    exact ret_ll2 rfl rfl _ _ rfl hY2 ⟨rfl, hB1.grown hg2 hB1.size (by simp)⟩
theorem ref_Start (n : Int) (k ep s : Nat) (hE : chk n (k : Int) s = 0) (w : World) :
    Calls Try.prog 13 #[.int .i64 n, .int .u32 (ep : Int), .int .u64 (s : Int), .int .i64 (k : Int)] w fun e w' => e = .returned (.tuple #[lv ⟨ep, s, k, k, 0⟩, .int .i64 0]) ∧ Below w.heap.size w w' := by
  have hs := fun W => ref_Seg n (k : Int) W
  unfold chk at hE
  have ht : there n (k : Int) = true := by
    cases ht : there n (k : Int) with
    | true => rfl
    | false => rw [ht, if_neg (by simp)] at hE; omega
  rw [ht, if_pos rfl] at hE
  have h0 : s ≠ 0 := fun h0 => by rw [if_pos h0] at hE; omega
  have hb : ((s : Int) == 0) = false := by simp; omega
  simp only [plE_ok ht] at hs
  generalize plc n (k : Int) = P at hs
  clear ht hE h0
  go_enter Try.func13, Try.ntmps13
  go_wp2_with (first
    | ((refine at_alloc_ll (by rfl) (by rfl) ?_); intro W1 hY1 hB1 hz1)
    | ((with_reducible refine (hs _).mono ?_); rintro e w1 ⟨rfl, hw⟩; rw [hw]; clear hw)
    | ((refine at_store_ll _ _ _ _ ⟨ep, s, k, k, 0⟩ (by rfl) (by rfl) (by rfl) hY1 rfl (by rfl) ?_); intro W2 hY2 hg2 hz2))
  exact ret_ll2 rfl rfl _ _ rfl hY2 ⟨rfl, hB1.grown hg2 hB1.size (by simp)⟩
end Go.Proofs.Ythgafnommcodcaa.Wal
