/-
  An act's value: no cell of it is looked at.
-/
import Derived.Test.YthpkmkknipkcbaaDiskOpen
namespace Go.Proofs.Ythpkmkknipkcbaa.Disk
open Go.RowKit Go.Proofs.Ythpkmkknipkcbaa.Mem
set_option maxRecDepth 100000

/-- An act's value. -/
def acv (a : Ac) : Value := .agg (ac a).toArray
theorem size_ac : (Try.prog.info? 41).map (·.size) = some 4 := by kernel_rfl
theorem zero_ac : (Try.prog.info? 41).map (fun i => i.zero) = some (some (acv (0, 0, 0, none, 0, 0))) := by kernel_rfl
theorem ac_one (a : Ac) : ∀ v ∈ ac a, v.oneCell' = true := by
  intro v hv
  simp only [ac, List.mem_cons, List.not_mem_nil, or_false] at hv
  rcases hv with rfl | rfl | rfl | rfl <;> rfl
section
variable {o : Oper} {a : Act} {w : World} {K : Act → World → Prop} {Q : Exit → Act → World → Prop}
theorem wp_alloc_ac (ho : o.op = .alloc 41) (h : ∀ w', Blk w' w.heap.size 41 (ac (0, 0, 0, none, 0, 0)) → Below w.heap.size w w' → Hid (w'.heap.size = w.heap.size + 1) → K (a.put o.dst (.pointer (some ⟨w.heap.size, 0, none⟩))) w') : o.wp Try.prog a w K Q :=
  wp_alloc_z _ _ ho zero_ac (h _ (new_blk _ _ _) (bnew _ _) (by unfold Hid; simp))
theorem wp_load_ac (x : Operand) (b p : Nat) (y : Ac) (ho : o.op = .load 41 x) (hx : a.eval x = .pointer (some ⟨b, p, none⟩)) (hc : w.rangeAt b p (ac y)) (h : K (a.put o.dst (acv y)) w) : o.wp Try.prog a w K Q :=
  wp_load_mid _ x ho b p hx (ac y) _ hc (by rfl) rfl size_ac h
theorem wp_store_ac (x y : Operand) (g : Nat) (s0 s : Ac) (ho : o.op = .store 41 x y) (hx : a.eval x = .pointer (some ⟨g, 0, none⟩)) (hy : a.eval y = acv s) (hb : Blk w g 41 (ac s0))
    (h : ∀ w', Blk w' g 41 (ac s) → w.grownBy w' (some g) → Hid (w'.heap.size = w.heap.size) → K (a.put o.dst undef) w') : o.wp Try.prog a w K Q := by
  unfold Oper.wp execOp
  have e := run_storeVar_row (P := Try.prog) w g 41 41 (ac s0).toArray (ac s).toArray hb (by simpa [ac] using size_ac) (by simp [ac]) (all_oneCell_toArray (ac_one s))
  simp only [ho, hx, hy, acv, Instr.storeAt, Instr.sureAddr, Sem.run_bind, Sem.run_pure, Result.andThen_ok, e]
  exact h _ (setRow_heap w g _ _ _ _ hb) ⟨rfl, rfl, rfl, by simp [World.setRow], fun k _ hk => setRow_other w g k _ (fun e => hk (by simp [e]))⟩ (by unfold Hid; simp [World.setRow])
end
section
variable {o : Oper} {a : Act} {w : World} {ops : Array Oper} {rest : List Oper} {Q : Exit → Act → World → Prop}
theorem at_alloc_ac (ho : o.op = .alloc 41) (hw : Region.wanted o (yielded ops a.tmps) = true) (h : ∀ w', Blk w' w.heap.size 41 (ac (0, 0, 0, none, 0, 0)) → Below w.heap.size w w' → Hid (w'.heap.size = w.heap.size + 1) → wpList Try.prog ops Q rest (a.put o.dst (.pointer (some ⟨w.heap.size, 0, none⟩))) w') : wpList Try.prog ops Q (o :: rest) a w :=
  BigFrame.wpList_want hw fun _ hK => wp_alloc_ac ho (fun w2 h1 h2 h3 => hK _ _ (h w2 h1 h2 h3))
theorem at_load_ac (x : Operand) (b p : Nat) (y : Ac) (ho : o.op = .load 41 x) (hx : a.eval x = .pointer (some ⟨b, p, none⟩)) (hc : w.rangeAt b p (ac y)) (hw : Region.wanted o (yielded ops a.tmps) = true) (h : wpList Try.prog ops Q rest (a.put o.dst (acv y)) w) : wpList Try.prog ops Q (o :: rest) a w :=
  BigFrame.wpList_want hw fun _ hK => wp_load_ac x b p y ho hx hc (hK _ _ h)
theorem at_store_ac (x y : Operand) (g : Nat) (s0 s : Ac) (ho : o.op = .store 41 x y) (hx : a.eval x = .pointer (some ⟨g, 0, none⟩)) (hy : a.eval y = acv s) (hb : Blk w g 41 (ac s0)) (hw : Region.wanted o (yielded ops a.tmps) = true) (h : ∀ w', Blk w' g 41 (ac s) → w.grownBy w' (some g) → Hid (w'.heap.size = w.heap.size) → wpList Try.prog ops Q rest (a.put o.dst undef) w') : wpList Try.prog ops Q (o :: rest) a w :=
  BigFrame.wpList_want hw fun _ hK => wp_store_ac x y g s0 s ho hx hy hb (fun w2 h1 h2 h3 => hK _ _ (h w2 h1 h2 h3))
end
end Go.Proofs.Ythpkmkknipkcbaa.Disk
