/-
  Small facts on memory that books want; taken over from the texts on events.
-/
import Derived.Test.YtnaofcggdjbocabPolRight
import Derived.Test.YtnaofcggdjbocabPolSat
import Derived.Test.YtnaofcggdjbocabInvB
import Derived.Test.YtnaofcggdjbocabPolRefRight
import Derived.Test.YtnaofcggdjbocabBkSmall
/-
  The policy of numbers: Of. (Written by gen_pof.py.)
-/
namespace Go.Proofs.Ytnaofcggdjbocab.Policy
open Go.RowKit Go.Proofs.Ytnaofcggdjbocab.Mem Go.Proofs.Ytnaofcggdjbocab.Addr
set_option maxRecDepth 100000

theorem wrap_u32 {c : Int} (h0 : 0 ≤ c) (h : c ≤ 4294967295) : IntKind.u32.wrap c = ((c.toNat : Nat) : Int) := by rw [IntKind.wrap_u32]; omega
theorem at10 {w : World} {b o c i : Nat} {l : List Int} (h : Reads .u64 w (some ⟨b, o, none⟩) c l) (hi : i < l.length) : w.cell? ⟨b, o + i, none⟩ = some (.int .u64 (l.getD i 0)) := by
  obtain ⟨b', o', e, _, hc⟩ := h.2.2.2 (by omega)
  simp only [Option.some.injEq, Addr.mk.injEq, and_true] at e
  obtain ⟨rfl, rfl⟩ := e
  exact hc i hi
/-- Ten numbers that are read. -/
theorem cells10 {w : World} {q : Option Addr} {c : Nat} {c0 c1 c2 c3 c4 c5 c6 c7 c8 c9 : Int} (h : Reads .u64 w q c [c0, c1, c2, c3, c4, c5, c6, c7, c8, c9]) : ∃ b o, q = some ⟨b, o, none⟩ ∧ b < w.heap.size ∧
    w.cell? ⟨b, o, none⟩ = some (.int .u64 c0) ∧ w.cell? ⟨b, o + 1, none⟩ = some (.int .u64 c1) ∧ w.cell? ⟨b, o + 2, none⟩ = some (.int .u64 c2) ∧ w.cell? ⟨b, o + 3, none⟩ = some (.int .u64 c3) ∧ w.cell? ⟨b, o + 4, none⟩ = some (.int .u64 c4) ∧ w.cell? ⟨b, o + 5, none⟩ = some (.int .u64 c5) ∧ w.cell? ⟨b, o + 6, none⟩ = some (.int .u64 c6) ∧ w.cell? ⟨b, o + 7, none⟩ = some (.int .u64 c7) ∧ w.cell? ⟨b, o + 8, none⟩ = some (.int .u64 c8) ∧ w.cell? ⟨b, o + 9, none⟩ = some (.int .u64 c9) := by
  obtain ⟨b, o, e, hb, hc⟩ := h.2.2.2 (by simp)
  have k := fun i (hi : i < 10) => hc i (by simpa using hi)
  exact ⟨b, o, e, hb, k 0 (by omega), k 1 (by omega), k 2 (by omega), k 3 (by omega), k 4 (by omega), k 5 (by omega), k 6 (by omega), k 7 (by omega), k 8 (by omega), k 9 (by omega)⟩
end Go.Proofs.Ytnaofcggdjbocab.Policy
/-
  The policy of numbers: the document's Of. (Written by gen_prefof.py.)
-/
namespace Go.Proofs.Ytnaofcggdjbocab.Policy
open Go.RowKit Go.Proofs.Ytnaofcggdjbocab.Mem Go.Proofs.Ytnaofcggdjbocab.Addr
set_option maxRecDepth 100000

section
variable {o : Oper} {a : Act} {w : World} {ops : Array Oper} {rest : List Oper} {Q : Exit → Act → World → Prop}
/-- A number into one cell of a block that is known whole. -/
theorem wp_store_u64 {K : Act → World → Prop} (x y : Operand) (g k : Nat) (t : TypeId) (cs : List Value) (v : Int) (ho : o.op = .store 22 x y) (hx : a.eval x = .pointer (some ⟨g, k, none⟩)) (hy : a.eval y = .int .u64 v) (hb : Blk w g t cs) (hk : k < cs.length)
    (h : ∀ w', Blk w' g t (cs.set k (.int .u64 v)) → w.grownBy w' (some g) → Hid (w'.heap.size = w.heap.size) → K (a.put o.dst undef) w') : o.wp Try.prog a w K Q := by
  have c := hb.cell k
  have f := hb.frozen k
  rw [List.getElem?_eq_getElem hk] at c
  have hh := h _ (hb.put k (.int .u64 v)) (only_put w ⟨g, k, none⟩ _) (by unfold Hid; simp)
  unfold Oper.wp execOp
  simp only [ho, hx, hy, Instr.storeAt, Instr.sureAddr, Sem.run_bind, Sem.run_pure, Result.andThen_ok]
  simp [go_sem, c, f]
  exact hh
/-- A network into a policy that is known whole. -/
theorem wp_store_net {K : Act → World → Prop} (x y : Operand) (g : Nat) (p : Po) (N : Nat) (b : Int) (ho : o.op = .store 42 x y) (hx : a.eval x = .pointer (some ⟨g, 1, none⟩)) (hy : a.eval y = .agg #[.int .u8 (b0 N), .int .u8 (b1 N), .int .u8 (b2 N), .int .u8 (b3 N), .int .i64 b]) (hb : Blk w g 44 (pl p))
    (h : ∀ w', Blk w' g 44 (pl { p with N := N, b := b }) → w.grownBy w' (some g) → Hid (w'.heap.size = w.heap.size) → K (a.put o.dst undef) w') : o.wp Try.prog a w K Q := by
  have c := hb.cell
  have f := hb.frozen
  unfold pl at c
  have hh := h _ (((((hb.put 1 (.int .u8 (b0 N))).put 2 (.int .u8 (b1 N))).put 3 (.int .u8 (b2 N))).put 4 (.int .u8 (b3 N))).put 5 (.int .i64 b)) (((((only_put w ⟨g, 1, none⟩ _).trans (only_put _ ⟨g, 2, none⟩ _)).trans (only_put _ ⟨g, 3, none⟩ _)).trans (only_put _ ⟨g, 4, none⟩ _)).trans (only_put _ ⟨g, 5, none⟩ _)) (by unfold Hid; simp)
  unfold Oper.wp execOp
  simp only [ho, hx, hy, Instr.storeAt, Instr.sureAddr, Sem.run_bind, Sem.run_pure, Result.andThen_ok]
  simp [go_sem, c, f]
  exact hh
theorem at_store_u64 (x y : Operand) (g k : Nat) (t : TypeId) (cs : List Value) (v : Int) (ho : o.op = .store 22 x y) (hx : a.eval x = .pointer (some ⟨g, k, none⟩)) (hy : a.eval y = .int .u64 v) (hb : Blk w g t cs) (hk : k < cs.length) (hw : Region.wanted o (yielded ops a.tmps) = true)
    (h : ∀ w', Blk w' g t (cs.set k (.int .u64 v)) → w.grownBy w' (some g) → Hid (w'.heap.size = w.heap.size) → wpList Try.prog ops Q rest (a.put o.dst undef) w') : wpList Try.prog ops Q (o :: rest) a w :=
  BigFrame.wpList_want hw fun _ hK => wp_store_u64 x y g k t cs v ho hx hy hb hk (fun w2 h1 h2 h3 => hK _ _ (h w2 h1 h2 h3))
end
theorem run_build1 (c : Int) (w : World) : (Instr.build 44 #[(0, .int .i64 c)]).run Try.prog w = .ok (pv ⟨c, 0, 0, 0, 0, 0, 0, 0, 0, 0⟩) w := by kernel_rfl
theorem at_build1 {o : Oper} {a : Act} {w : World} {ops : Array Oper} {rest : List Oper} {Q : Exit → Act → World → Prop} (x : Operand) (c : Int) (ho : o.op = .build 44 #[(0, x)]) (hx : a.eval x = .int .i64 c) (hw : Region.wanted o (yielded ops a.tmps) = true) (h : wpList Try.prog ops Q rest (a.put o.dst (pv ⟨c, 0, 0, 0, 0, 0, 0, 0, 0, 0⟩)) w) : wpList Try.prog ops Q (o :: rest) a w :=
  BigFrame.wpList_want hw fun _ hK => wp_run (Instr.build 44 #[(0, .int .i64 c)]) (by simp [execOp, ho, hx]) (run_build1 c w) (hK _ _ h)
end Go.Proofs.Ytnaofcggdjbocab.Policy
namespace Go.Proofs.Ytnaofcggdjbocab.Event
open Go.RowKit Go.Proofs.Ytnaofcggdjbocab.Mem Go.Proofs.Ytnaofcggdjbocab.Policy
set_option maxRecDepth 100000

theorem lit_own {k : IntKind} {w : World} {B : Nat} {e : TypeId} (cs : Array Value) (zs : List Int) (n : Nat) (hcs : cs = (zs.map (Value.int k)).toArray) (hn : n = zs.length) (hl : zs.length ≤ 1000) (hB : B ≤ w.heap.size) :
    (w.alloc (.cells cs e)).ownsRow B e 1 (.slice (some ⟨w.heap.size, 0, none⟩) n n) zs.length (zs.map (Value.int k)) := by
  subst hcs hn
  have h := World.ownsRow_lit (base := B) (e := e) (size := 1) w (zs.map (Value.int k)).toArray zs.length hB (by unfold maxLen; omega) (by simp)
  simpa using h
theorem run_from_u (w : World) (p : Option Addr) (n cap l : Nat) (hl : l ≤ n) :
    (Instr.slice 63 (.slice p n cap) (some (.int .i64 (l : Int))) none none).run Try.prog w = .ok (.slice (cutP p cap l) (n - l) (cap - l)) w := by
  have ht : Try.prog.underlying 63 = some (.slice (Try.prog.elem 63)) := by simp [Program.elem, Try.underlying63]
  have he : Try.prog.elem 63 = 22 := by simp [Program.elem, Try.underlying63]
  rw [run_slice_l w 63 p n cap ht .i64 (l : Int) (by omega) (by omega), he, Try.sizeOf22]
  simp [Result.andThen, sliced, cutP]
theorem run_upto_u (w : World) (p : Option Addr) (n cap l : Nat) (hl : l ≤ cap) :
    (Instr.slice 63 (.slice p n cap) none (some (.int .i64 (l : Int))) none).run Try.prog w = .ok (.slice p l cap) w := by
  have ht : Try.prog.underlying 63 = some (.slice (Try.prog.elem 63)) := by simp [Program.elem, Try.underlying63]
  have he : Try.prog.elem 63 = 22 := by simp [Program.elem, Try.underlying63]
  rw [run_slice_h w 63 p n cap ht .i64 (l : Int) (by omega) (by omega), he, Try.sizeOf22]
  cases p <;> simp [Result.andThen, sliced, Addr.add]
theorem info_i64 : ∃ i, Try.prog.info? 3 = some i ∧ i.zero = some (.int .i64 0) ∧ i.size = 1 ∧ i.bytes = 8 := by
  have h : (Try.prog.info? 3).map (fun i => (i.zero, i.size, i.bytes)) = some (some (.int .i64 0), 1, 8) := by kernel_rfl
  obtain ⟨i, hi, he⟩ := Option.map_eq_some_iff.1 h
  simp only [Prod.mk.injEq] at he
  exact ⟨i, hi, he⟩
theorem lit_pols (w : World) (l : List Po) (n : Nat) (hl : l.length = n) (hn : n ≤ 1000) : RK pl (w.alloc (.cells (l.flatMap pl).toArray 44)) (some ⟨w.heap.size, 0, none⟩) n l :=
  ⟨by omega, by unfold maxLen; omega, by simp, fun _ => ⟨w.heap.size, 0, rfl, by simp, fun j v hv => by rw [Nat.zero_add, (new_blk w _ _).cell j]; exact hv⟩⟩
theorem run_pol1 (p : Po) (w : World) : (Instr.buildSlice 26 1 #[(0, pv p)]).run Try.prog w = .ok (.slice (some ⟨w.heap.size, 0, none⟩) 1 1) (w.alloc (.cells ([p].flatMap pl).toArray 44)) := by kernel_rfl
theorem at_pol1 {o : Oper} {a : Act} {w : World} {ops : Array Oper} {rest : List Oper} {Q : Exit → Act → World → Prop} (x : Operand) (p : Po) (ho : o.op = .buildSlice 26 1 #[(0, x)]) (hx : a.eval x = pv p) (hw : Region.wanted o (yielded ops a.tmps) = true)
    (h : ∀ w', RK pl w' (some ⟨w.heap.size, 0, none⟩) 1 [p] → Below w.heap.size w w' → wpList Try.prog ops Q rest (a.put o.dst (.slice (some ⟨w.heap.size, 0, none⟩) 1 1)) w') : wpList Try.prog ops Q (o :: rest) a w :=
  BigFrame.wpList_want hw fun _ hK => wp_run (Instr.buildSlice 26 1 #[(0, pv p)]) (by simp [execOp, ho, hx]) (run_pol1 p w) (hK _ _ (h _ (lit_pols w [p] 1 rfl (by decide)) (bnew _ _)))
theorem rk_kept {α : Type} {enc : α → List Value} {w w' : World} {p : Option Addr} {cap g : Nat} {xs : List α} (h : RK enc w p cap xs) (hg : w.grownBy w' (some g)) (hne : 0 < xs.length → ∀ a, p = some a → a.block ≠ g) : RK enc w' p cap xs := by
  obtain ⟨h1, h2, h3, h4⟩ := h
  refine ⟨h1, h2, h3, fun hz => ?_⟩
  obtain ⟨b, o, e, hlt, hc⟩ := h4 hz
  exact ⟨b, o, e, Nat.lt_of_lt_of_le hlt hg.size, fun j v hv => hg.cell (hc j v hv) (by have := hne hz _ e; simpa using this)⟩
theorem own_from {w : World} {B n : Nat} {e : TypeId} {v : Value} {k : IntKind} {xs : List Int} (h : w.ownsRow B e 1 v n (xs.map (Value.int k))) :
    ∃ p cap, v = .slice p xs.length cap ∧ Reads k w p cap xs ∧ ∀ a, p = some a → B ≤ a.block := by
  obtain ⟨_, p, cap, hv, hr⟩ := own_reads h
  refine ⟨p, cap, hv, hr, fun a ha => ?_⟩
  rcases h.2 with ⟨h1, -⟩ | ⟨g, cap', cur, h1, hb, -⟩
  · rw [hv, ha] at h1; simp at h1
  · rw [hv, ha] at h1
    simp only [Value.slice.injEq, Option.some.injEq] at h1
    rw [h1.1]
    exact hb
theorem run_part_u (w : World) (p : Option Addr) (n cap l h : Nat) (hl : l ≤ h) (hh : h ≤ cap) :
    (Instr.slice 63 (.slice p n cap) (some (.int .i64 (l : Int))) (some (.int .i64 (h : Int))) none).run Try.prog w = .ok (.slice (cutP p cap l) (h - l) (cap - l)) w := by
  have ht : Try.prog.underlying 63 = some (.slice (Try.prog.elem 63)) := by simp [Program.elem, Try.underlying63]
  have he : Try.prog.elem 63 = 22 := by simp [Program.elem, Try.underlying63]
  rw [run_slice_lh w 63 p n cap ht .i64 .i64 (l : Int) (h : Int) (by omega) (by omega) (by omega), he, Try.sizeOf22]
  simp [Result.andThen, sliced, cutP]
theorem own_kept {w w' : World} {B n s g : Nat} {e : TypeId} {v : Value} {xs : List Value} (h : w.ownsRow B e s v n xs) (hg : w.grownBy w' (some g)) (hB : g < B) : w'.ownsRow B e s v n xs := by
  refine ⟨h.1, ?_⟩
  rcases h.2 with h0 | ⟨b, cap, cur, hv, hb, hh, r⟩
  · exact .inl h0
  · exact .inr ⟨b, cap, cur, hv, hb, (hg.block b (Array.getElem?_eq_some_iff.1 hh).1 (by simp; omega)).trans hh, r⟩
theorem reads_kept {k : IntKind} {w w' : World} {p : Option Addr} {cap : Nat} {zs : List Int} {row : Option Nat} (h : Reads k w p cap zs) (hg : w.grownBy w' row) (hne : 0 < zs.length → ∀ a, p = some a → some a.block ≠ row) : Reads k w' p cap zs := by
  obtain ⟨h1, h2, h3, h4⟩ := h
  refine ⟨h1, h2, h3, fun hz => ?_⟩
  obtain ⟨b, o, e, hlt, hc⟩ := h4 hz
  exact ⟨b, o, e, Nat.lt_of_lt_of_le hlt hg.size, fun i hi => hg.cell (hc i hi) (show some b ≠ row from hne hz ⟨b, o, none⟩ e)⟩
end Go.Proofs.Ytnaofcggdjbocab.Event
