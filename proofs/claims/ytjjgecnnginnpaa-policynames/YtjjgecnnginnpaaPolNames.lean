/-
  The walk of PolicyNames.
-/
import Derived.Test.YtjjgecnnginnpaaPolAlive
import Derived.Test.YtjjgecnnginnpaaPolAll
import Derived.Test.YtjjgecnnginnpaaPolRefOf
namespace Go.Proofs.Ytjjgecnnginnpaa.Policy
open Go.RowKit Go.Proofs.Ytjjgecnnginnpaa.Mem Go.Proofs.Ytjjgecnnginnpaa.Addr
set_option maxRecDepth 100000

theorem lit_pols (w : World) (l : List Po) (n : Nat) (hl : l.length = n) (hn : n ≤ 1000) : RK pl (w.alloc (.cells (l.flatMap pl).toArray 28)) (some ⟨w.heap.size, 0, none⟩) n l :=
  ⟨by omega, by unfold maxLen; omega, by simp, fun _ => ⟨w.heap.size, 0, rfl, by simp, fun j v hv => by rw [Nat.zero_add, (new_blk w _ _).cell j]; exact hv⟩⟩
theorem run_lit1 (p : Po) (w : World) : (Instr.buildSlice 34 1 #[(0, pv p)]).run Try.prog w = .ok (.slice (some ⟨w.heap.size, 0, none⟩) 1 1) (w.alloc (.cells ([p].flatMap pl).toArray 28)) := by kernel_rfl
theorem run_lit2 (p q : Po) (w : World) : (Instr.buildSlice 34 2 #[(0, pv p), (1, pv q)]).run Try.prog w = .ok (.slice (some ⟨w.heap.size, 0, none⟩) 2 2) (w.alloc (.cells ([p, q].flatMap pl).toArray 28)) := by kernel_rfl
section
variable {o : Oper} {a : Act} {w : World} {ops : Array Oper} {rest : List Oper} {Q : Exit → Act → World → Prop}
theorem at_lit1 (x : Operand) (p : Po) (ho : o.op = .buildSlice 34 1 #[(0, x)]) (hx : a.eval x = pv p) (hw : Region.wanted o (yielded ops a.tmps) = true)
    (h : ∀ w', RK pl w' (some ⟨w.heap.size, 0, none⟩) 1 [p] → Below w.heap.size w w' → wpList Try.prog ops Q rest (a.put o.dst (.slice (some ⟨w.heap.size, 0, none⟩) 1 1)) w') : wpList Try.prog ops Q (o :: rest) a w :=
  BigFrame.wpList_want hw fun _ hK => wp_run (Instr.buildSlice 34 1 #[(0, pv p)]) (by simp [execOp, ho, hx]) (run_lit1 p w) (hK _ _ (h _ (lit_pols w [p] 1 rfl (by decide)) (bnew _ _)))
theorem at_lit2 (x y : Operand) (p q : Po) (ho : o.op = .buildSlice 34 2 #[(0, x), (1, y)]) (hx : a.eval x = pv p) (hy : a.eval y = pv q) (hw : Region.wanted o (yielded ops a.tmps) = true)
    (h : ∀ w', RK pl w' (some ⟨w.heap.size, 0, none⟩) 2 [p, q] → Below w.heap.size w w' → wpList Try.prog ops Q rest (a.put o.dst (.slice (some ⟨w.heap.size, 0, none⟩) 2 2)) w') : wpList Try.prog ops Q (o :: rest) a w :=
  BigFrame.wpList_want hw fun _ hK => wp_run (Instr.buildSlice 34 2 #[(0, pv p), (1, pv q)]) (by simp [execOp, ho, hx, hy]) (run_lit2 p q w) (hK _ _ (h _ (lit_pols w [p, q] 2 rfl (by decide)) (bnew _ _)))
end
def badP : Po := { oneP 3 with x5 := 1499 }
theorem bad_ok : PoOk badP := by unfold PoOk badP oneP Inty; simp only; omega
theorem names_facts : rightP badP = false ∧ allE [badP] = 111 ∧ allE [oneP 1, oneP 2] = 0 ∧ allE [oneP 2, oneP 1] = 111 := by decide +kernel
theorem names_any (w : World) : Calls Try.prog 3 #[] w fun e w' => e = .returned (.bool true) ∧ Below w.heap.size w w' := by
  have h3 : ∀ W, Calls Try.prog 8 #[.int .i64 3] W fun e w' => e = .returned (pv (oneP 3)) ∧ Below W.heap.size W w' := fun W => law_one 3 (by decide) W
  have h1 : ∀ W, Calls Try.prog 8 #[.int .i64 1] W fun e w' => e = .returned (pv (oneP 1)) ∧ Below W.heap.size W w' := fun W => law_one 1 (by decide) W
  have h2 : ∀ W, Calls Try.prog 8 #[.int .i64 2] W fun e w' => e = .returned (pv (oneP 2)) ∧ Below W.heap.size W w' := fun W => law_one 2 (by decide) W
  have ha := fun W => alive_any W
  have hr := fun W => policy_Right badP bad_ok W
  rw [names_facts.1] at hr
  have A1 := fun {W : World} {q : Option Addr} (r : RK pl W q 1 [badP]) => policy_All q 1 1 [badP] rfl (by decide) W r (by simp [bad_ok])
  have A2 := fun {W : World} {q : Option Addr} (r : RK pl W q 2 [oneP 1, oneP 2]) => policy_All q 2 2 [oneP 1, oneP 2] rfl (by decide) W r (by simp; exact ⟨one_ok (by decide), one_ok (by decide)⟩)
  have A3 := fun {W : World} {q : Option Addr} (r : RK pl W q 2 [oneP 2, oneP 1]) => policy_All q 2 2 [oneP 2, oneP 1] rfl (by decide) W r (by simp; exact ⟨one_ok (by decide), one_ok (by decide)⟩)
  simp only [names_facts.2.1] at A1
  simp only [names_facts.2.2.1] at A2
  simp only [names_facts.2.2.2] at A3
  go_enter Try.func3, Try.ntmps3
  go_wp2_with (first
    | ((fail_if_success (have _ := hB1)); (with_reducible refine (h3 _).mono ?_); rintro e w1 ⟨rfl, hB1⟩)
    | ((fail_if_success (have _ := hX2)); (have _ := hB1); (refine at_alloc_po (by rfl) (by rfl) ?_); intro V2 hX2 hB2 hz2)
    | ((fail_if_success (have _ := hX3)); (have _ := hX2); (refine at_store_po _ _ _ _ _ (by rfl) (by rfl) (by rfl) hX2 rfl (by rfl) ?_); intro V3 hX3 hg3 hz3; have hB3 := bnext hB1 (hB2.grown hg3 hB2.size (by simp)))
    | ((fail_if_success (have _ := hX4)); (have _ := hX3); (refine at_store_u64 _ _ _ 11 _ _ 1499 (by rfl) (by rfl) (by rfl) hX3 (by decide) (by rfl) ?_); intro V4 hY4 hg4 hz4; have hX4 : Blk _ _ _ (pl badP) := hY4; have hB4 := hB3.grown hg4 hB3.size (by have := hB1.size; simp; omega))
    | ((with_reducible refine (ha _).mono ?_); rintro e w5 ⟨rfl, hB5⟩; have hX5 := hX4.below hB5; have hB15 := bnext hB4 hB5)
    | ((fail_if_success (have _ := hB6)); (have _ := hX5); (refine at_load_po _ _ badP (by rfl) (by rfl) hX5 (by rfl) ?_))
    | ((with_reducible refine (hr _).mono ?_); rintro e w6 ⟨rfl, hB6⟩; have hX6 := hX5.below hB6; have hB16 := bnext hB15 hB6)
    | ((fail_if_success (have _ := hB7)); (have _ := hX6); (refine at_load_po _ _ badP (by rfl) (by rfl) hX6 (by rfl) ?_))
    | ((fail_if_success (have _ := hB7)); (have _ := hX6); (refine at_lit1 _ badP (by rfl) (by rfl) (by rfl) ?_); intro V7 r7 hB7; have hB17 := bnext hB16 hB7)
    | ((fail_if_success (have _ := hB8)); (have _ := hB7); (with_reducible refine (A1 r7).mono ?_); rintro e w8 ⟨rfl, hB8⟩; have hB18 := bnext hB17 hB8)
    | ((fail_if_success (have _ := hB9)); (have _ := hB8); (with_reducible refine (h1 _).mono ?_); rintro e w9 ⟨rfl, hB9⟩; have hB19 := bnext hB18 hB9)
    | ((fail_if_success (have _ := hB10)); (have _ := hB9); (with_reducible refine (h2 _).mono ?_); rintro e w10 ⟨rfl, hB10⟩; have hB20 := bnext hB19 hB10)
    | ((fail_if_success (have _ := hB11)); (have _ := hB10); (refine at_lit2 _ _ (oneP 1) (oneP 2) (by rfl) (by rfl) (by rfl) (by rfl) ?_); intro V11 r11 hB11; have hB21 := bnext hB20 hB11)
    | ((fail_if_success (have _ := hB12)); (have _ := hB11); (with_reducible refine (A2 r11).mono ?_); rintro e w12 ⟨rfl, hB12⟩; have hB22 := bnext hB21 hB12)
    | ((fail_if_success (have _ := hB13)); (have _ := hB12); (with_reducible refine (h2 _).mono ?_); rintro e w13 ⟨rfl, hB13⟩; have hB23 := bnext hB22 hB13)
    | ((fail_if_success (have _ := hB14)); (have _ := hB13); (with_reducible refine (h1 _).mono ?_); rintro e w14 ⟨rfl, hB14⟩; have hB24 := bnext hB23 hB14)
    | ((fail_if_success (have _ := hB25)); (have _ := hB14); (refine at_lit2 _ _ (oneP 2) (oneP 1) (by rfl) (by rfl) (by rfl) (by rfl) ?_); intro V25 r25 hB25; have hB26 := bnext hB24 hB25)
    | ((fail_if_success (have _ := hB27)); (have _ := hB25); (with_reducible refine (A3 r25).mono ?_); rintro e w27 ⟨rfl, hB27⟩; have hB28 := bnext hB26 hB27))
  go_ret
  exact ⟨rfl, hB28⟩
end Go.Proofs.Ytjjgecnnginnpaa.Policy
