/-
  The document's answer: an act, Break, Read.
-/
import Derived.Test.YthgafnommcodcaaDiskAlive
namespace Go.Proofs.Ythgafnommcodcaa.Disk
open Go.RowKit Go.Proofs.Ythgafnommcodcaa.Mem Go.Proofs.Ythgafnommcodcaa.Sect
open Go.Proofs.Ythgafnommcodcaa.Frame (Sec zero)
set_option maxRecDepth 100000

/-- A disk as the document's answer has it. -/
structure Rfd where
  st : List Sec
  pe : List Wr
  ct : Bool
  lf : Int
  dn : Bool
def Rfd.ok (r : Rfd) : Prop := r.st.length ≤ 512 ∧ r.pe.length ≤ 1000 ∧ (∀ x ∈ r.pe, 0 ≤ x.1 ∧ x.1 < r.st.length) ∧ Inty r.lf ∧ (r.ct = true → 0 ≤ r.lf)
def Rfd.no (r : Rfd) : Bool := r.dn || (r.ct && decide (r.lf = 0))
def Rfd.acted (r : Rfd) : Rfd := if r.no then { r with dn := true } else { r with lf := if r.ct then r.lf - 1 else r.lf }
def Rfd.err (r : Rfd) : Int := if r.no then 72 else 0
def Rfd.read (r : Rfd) (i : Int) : Sec × Int := if has r.st.length i then (match last r.pe i with | some s => (s, 0) | none => (r.st.getD i.toNat zero, 0)) else (zero, 71)
/-- Its cells, the two slices as they lie. -/
def rl (r : Rfd) (p : Option Addr) (c : Nat) (q : Option Addr) (e : Nat) : List Value := [.slice p r.st.length c, .slice q r.pe.length e, .bool r.ct, .int .i64 r.lf, .bool r.dn]
def rv (r : Rfd) (p : Option Addr) (c : Nat) (q : Option Addr) (e : Nat) : Value := .agg (rl r p c q e).toArray
theorem size_rd : (Try.prog.info? 39).map (·.size) = some 5 := by kernel_rfl
theorem rl_one (r : Rfd) (p : Option Addr) (c : Nat) (q : Option Addr) (e : Nat) : ∀ v ∈ rl r p c q e, v.oneCell' = true := by
  intro v hv
  simp only [rl, List.mem_cons, List.not_mem_nil, or_false] at hv
  rcases hv with rfl | rfl | rfl | rfl | rfl <;> rfl
section
variable {o : Oper} {a : Act} {w : World} {K : Act → World → Prop} {Q : Exit → Act → World → Prop}
theorem zero_rd : (Try.prog.info? 39).map (fun i => i.zero) = some (some (.agg [.slice none 0 0, .slice none 0 0, .bool false, .int .i64 0, .bool false].toArray)) := by kernel_rfl
theorem wp_box_rd (x : Operand) (r : Rfd) (p : Option Addr) (c : Nat) (q : Option Addr) (e : Nat) (ho : o.op = .box 39 x) (hx : a.eval x = rv r p c q e) (h : ∀ w', Blk w' w.heap.size 39 (rl r p c q e) → Below w.heap.size w w' → Hid (w'.heap.size = w.heap.size + 1) → K (a.put o.dst (.pointer (some ⟨w.heap.size, 0, none⟩))) w') : o.wp Try.prog a w K Q :=
  wp_box_v _ x (rl r p c q e) ho hx (h _ (new_blk _ _ _) (bnew _ _) (by unfold Hid; simp))
theorem wp_alloc_rd (ho : o.op = .alloc 39) (h : ∀ w', Blk w' w.heap.size 39 (rl ⟨[], [], false, 0, false⟩ none 0 none 0) → Below w.heap.size w w' → Hid (w'.heap.size = w.heap.size + 1) → K (a.put o.dst (.pointer (some ⟨w.heap.size, 0, none⟩))) w') : o.wp Try.prog a w K Q :=
  wp_alloc_z _ _ ho zero_rd (h _ (new_blk _ _ _) (bnew _ _) (by unfold Hid; simp))
theorem wp_load_rd (x : Operand) (g : Nat) (r : Rfd) (p : Option Addr) (c : Nat) (q : Option Addr) (e : Nat) (ho : o.op = .load 39 x) (hx : a.eval x = .pointer (some ⟨g, 0, none⟩)) (hb : Blk w g 39 (rl r p c q e)) (h : K (a.put o.dst (rv r p c q e)) w) : o.wp Try.prog a w K Q :=
  wp_load_mid _ x ho g 0 hx (rl r p c q e) _ (fun j v hv => by rw [Nat.zero_add, hb.cell]; exact hv) (by rfl) rfl size_rd h
theorem wp_store_rd (x y : Operand) (g : Nat) (cs : List Value) (r : Rfd) (p : Option Addr) (c : Nat) (q : Option Addr) (e : Nat) (ho : o.op = .store 39 x y) (hx : a.eval x = .pointer (some ⟨g, 0, none⟩)) (hy : a.eval y = rv r p c q e) (hb : Blk w g 39 cs) (hl : cs.length = 5)
    (h : ∀ w', Blk w' g 39 (rl r p c q e) → w.grownBy w' (some g) → Hid (w'.heap.size = w.heap.size) → K (a.put o.dst undef) w') : o.wp Try.prog a w K Q := by
  unfold Oper.wp execOp
  have e := run_storeVar_row (P := Try.prog) w g 39 39 cs.toArray (rl r p c q e).toArray hb (by simpa [rl] using size_rd) (by simp [hl, rl]) (all_oneCell_toArray (rl_one r p c q e))
  simp only [ho, hx, hy, rv, Instr.storeAt, Instr.sureAddr, Sem.run_bind, Sem.run_pure, Result.andThen_ok, e]
  exact h _ (setRow_heap w g _ _ _ _ hb) ⟨rfl, rfl, rfl, by simp [World.setRow], fun k _ hk => setRow_other w g k _ (fun e => hk (by simp [e]))⟩ (by unfold Hid; simp [World.setRow])
end
section
variable {o : Oper} {a : Act} {w : World} {ops : Array Oper} {rest : List Oper} {Q : Exit → Act → World → Prop}
theorem at_box_rd (x : Operand) (r : Rfd) (p : Option Addr) (c : Nat) (q : Option Addr) (e : Nat) (ho : o.op = .box 39 x) (hx : a.eval x = rv r p c q e) (hw : Region.wanted o (yielded ops a.tmps) = true) (h : ∀ w', Blk w' w.heap.size 39 (rl r p c q e) → Below w.heap.size w w' → Hid (w'.heap.size = w.heap.size + 1) → wpList Try.prog ops Q rest (a.put o.dst (.pointer (some ⟨w.heap.size, 0, none⟩))) w') : wpList Try.prog ops Q (o :: rest) a w :=
  BigFrame.wpList_want hw fun _ hK => wp_box_rd x r p c q e ho hx (fun w2 h1 h2 h3 => hK _ _ (h w2 h1 h2 h3))
theorem at_alloc_rd (ho : o.op = .alloc 39) (hw : Region.wanted o (yielded ops a.tmps) = true) (h : ∀ w', Blk w' w.heap.size 39 (rl ⟨[], [], false, 0, false⟩ none 0 none 0) → Below w.heap.size w w' → Hid (w'.heap.size = w.heap.size + 1) → wpList Try.prog ops Q rest (a.put o.dst (.pointer (some ⟨w.heap.size, 0, none⟩))) w') : wpList Try.prog ops Q (o :: rest) a w :=
  BigFrame.wpList_want hw fun _ hK => wp_alloc_rd ho (fun w2 h1 h2 h3 => hK _ _ (h w2 h1 h2 h3))
theorem at_load_rd (x : Operand) (g : Nat) (r : Rfd) (p : Option Addr) (c : Nat) (q : Option Addr) (e : Nat) (ho : o.op = .load 39 x) (hx : a.eval x = .pointer (some ⟨g, 0, none⟩)) (hb : Blk w g 39 (rl r p c q e)) (hw : Region.wanted o (yielded ops a.tmps) = true) (h : wpList Try.prog ops Q rest (a.put o.dst (rv r p c q e)) w) : wpList Try.prog ops Q (o :: rest) a w :=
  BigFrame.wpList_want hw fun _ hK => wp_load_rd x g r p c q e ho hx hb (hK _ _ h)
theorem at_store_rd (x y : Operand) (g : Nat) (cs : List Value) (r : Rfd) (p : Option Addr) (c : Nat) (q : Option Addr) (e : Nat) (ho : o.op = .store 39 x y) (hx : a.eval x = .pointer (some ⟨g, 0, none⟩)) (hy : a.eval y = rv r p c q e) (hb : Blk w g 39 cs) (hl : cs.length = 5) (hw : Region.wanted o (yielded ops a.tmps) = true) (h : ∀ w', Blk w' g 39 (rl r p c q e) → w.grownBy w' (some g) → Hid (w'.heap.size = w.heap.size) → wpList Try.prog ops Q rest (a.put o.dst undef) w') : wpList Try.prog ops Q (o :: rest) a w :=
  BigFrame.wpList_want hw fun _ hK => wp_store_rd x y g cs r p c q e ho hx hy hb hl (fun w2 h1 h2 h3 => hK _ _ (h w2 h1 h2 h3))
end
/-- A disk is handed back, with a number beside it or alone. -/
theorem ret_rd2 {fn : Func} {x u : Tmp} {R : Ending → World → Prop} {a : Act} {w : World} (h : fn.results = #[.cell x 39, .tmp u]) (hd : a.defers = []) (g : Nat) (r : Rfd) (p : Option Addr) (c : Nat) (q : Option Addr) (e : Nat) (hp : a.tmps.getD x undef = .pointer (some ⟨g, 0, none⟩))
    (hb : Blk w g 39 (rl r p c q e)) (hR : R (.returned (.tuple #[rv r p c q e, a.tmps.getD u undef])) w) : bodyPost Try.prog fn R .ret a w :=
  ret_cell h hd g _ (rl r p c q e) _ hp hb (by rfl) rfl size_rd hR
theorem ret_rd {fn : Func} {x : Tmp} {R : Ending → World → Prop} {a : Act} {w : World} (h : fn.results = #[.cell x 39]) (hd : a.defers = []) (g : Nat) (r : Rfd) (p : Option Addr) (c : Nat) (q : Option Addr) (e : Nat) (hp : a.tmps.getD x undef = .pointer (some ⟨g, 0, none⟩))
    (hb : Blk w g 39 (rl r p c q e)) (hR : R (.returned (rv r p c q e)) w) : bodyPost Try.prog fn R .ret a w :=
  ret_cell1 h hd g _ (rl r p c q e) _ hp hb (by rfl) rfl size_rd hR
theorem ract_any (r : Rfd) (p : Option Addr) (c : Nat) (q : Option Addr) (e : Nat) (h : Inty r.lf) (hc : r.ct = true → 0 ≤ r.lf) (w : World) :
    Calls Try.prog 50 #[rv r p c q e] w fun e' w' => e' = .returned (.tuple #[rv r.acted p c q e, .int .i64 r.err]) ∧ Below w.heap.size w w' := by
  obtain ⟨st, pe, ct, lf, dn⟩ := r
  simp only at h hc
  cases dn with
  | true =>
    have e1 : Rfd.acted ⟨st, pe, ct, lf, true⟩ = ⟨st, pe, ct, lf, true⟩ := by simp [Rfd.acted, Rfd.no]
    have e2 : Rfd.err ⟨st, pe, ct, lf, true⟩ = 72 := by simp [Rfd.err, Rfd.no]
    rw [e1, e2]
    unfold rv rl
    go_enter Try.func50, Try.ntmps50
    go_wp2
    exact bodyPost_ret (v := .tuple #[.agg #[.slice p st.length c, .slice q pe.length e, .bool ct, .int .i64 lf, .bool true], .int .i64 72]) (by simp [results, Try.results50, go_sem]) rfl ⟨rfl, bnext (bnew _ _) (bnew _ _)⟩
  | false =>
    cases ct with
    | false =>
      have e1 : Rfd.acted ⟨st, pe, false, lf, false⟩ = ⟨st, pe, false, lf, false⟩ := by simp [Rfd.acted, Rfd.no]
      have e2 : Rfd.err ⟨st, pe, false, lf, false⟩ = 0 := by simp [Rfd.err, Rfd.no]
      rw [e1, e2]
      unfold rv rl
      go_enter Try.func50, Try.ntmps50
      go_wp2
      exact bodyPost_ret (v := .tuple #[.agg #[.slice p st.length c, .slice q pe.length e, .bool false, .int .i64 lf, .bool false], .int .i64 0]) (by simp [results, Try.results50, go_sem]) rfl ⟨rfl, bnext (bnew _ _) (bnew _ _)⟩
    | true =>
      by_cases h0 : lf = 0
      · subst h0
        have e1 : Rfd.acted ⟨st, pe, true, 0, false⟩ = ⟨st, pe, true, 0, true⟩ := by simp [Rfd.acted, Rfd.no]
        have e2 : Rfd.err ⟨st, pe, true, 0, false⟩ = 72 := by simp [Rfd.err, Rfd.no]
        rw [e1, e2]
        unfold rv rl
        go_enter Try.func50, Try.ntmps50
        go_wp2
        exact bodyPost_ret (v := .tuple #[.agg #[.slice p st.length c, .slice q pe.length e, .bool true, .int .i64 0, .bool true], .int .i64 72]) (by simp [results, Try.results50, go_sem]) rfl ⟨rfl, bnext (bnew _ _) (bnew _ _)⟩
      · have e1 : Rfd.acted ⟨st, pe, true, lf, false⟩ = ⟨st, pe, true, lf - 1, false⟩ := by simp [Rfd.acted, Rfd.no, h0]
        have e2 : Rfd.err ⟨st, pe, true, lf, false⟩ = 0 := by simp [Rfd.err, Rfd.no, h0]
        have b0 : (lf == 0) = false := by simp [h0]
        have hp := hc rfl
        obtain ⟨k1, k2⟩ := h
        have hw : IntKind.i64.wrap (lf - 1) = lf - 1 := wrap_int ⟨by omega, by omega⟩
        rw [e1, e2]
        unfold rv rl
        go_enter Try.func50, Try.ntmps50
        go_wp2
        exact bodyPost_ret (v := .tuple #[.agg #[.slice p st.length c, .slice q pe.length e, .bool true, .int .i64 (lf - 1), .bool false], .int .i64 0]) (by simp [results, Try.results50, go_sem]) rfl ⟨rfl, bnext (bnew _ _) (bnew _ _)⟩
def Rfd.breaks (r : Rfd) (n : Int) : Rfd := { r with ct := decide (0 ≤ n), lf := n }
theorem rbreak_any (r : Rfd) (p : Option Addr) (c : Nat) (q : Option Addr) (e : Nat) (n : Int) (w : World) :
    Calls Try.prog 22 #[rv r p c q e, .int .i64 n] w fun e' w' => e' = .returned (rv (r.breaks n) p c q e) ∧ Below w.heap.size w w' := by
  obtain ⟨st, pe, ct, lf, dn⟩ := r
  unfold rv rl Rfd.breaks
  go_enter Try.func22, Try.ntmps22
  go_wp2
  exact bodyPost_ret (v := .agg #[.slice p st.length c, .slice q pe.length e, .bool (decide (0 ≤ n)), .int .i64 n, .bool dn]) (by simp [results, Try.results22, go_sem]) rfl ⟨rfl, bnext (bnew _ _) (bnew _ _)⟩
theorem rread_any (r : Rfd) (p : Option Addr) (c : Nat) (q : Option Addr) (e : Nat) (i : Int) (w : World) (hl : r.pe.length ≤ 1000) (r1 : RK sc w p c r.st) (r2 : RK wc w q e r.pe) :
    Calls Try.prog 70 #[rv r p c q e, .int .i64 i] w fun e' w' => e' = .returned (.tuple #[secv (r.read i).1, .int .i64 (r.read i).2]) ∧ Below w.heap.size w w' := by
  obtain ⟨n, hn⟩ : ∃ n, r.st.length = n := ⟨_, rfl⟩
  obtain ⟨L, hL⟩ : ∃ L, r.pe.length = L := ⟨_, rfl⟩
  rw [hL] at hl
  have hrl : rl r p c q e = [.slice p n c, .slice q L e, .bool r.ct, .int .i64 r.lf, .bool r.dn] := by simp [rl, hn, hL]
  cases hh : has n i with
  | false =>
    have e1 : r.read i = (zero, 71) := by simp [Rfd.read, hn, hh]
    rw [e1]
    by_cases h0 : i < 0
    · have f0 : decide (i < 0) = true := decide_eq_true h0
      go_enter Try.func70, Try.ntmps70
      go_wp2_with (first
        | ((refine at_box_rd _ r p c q e (by rfl) (by rfl) (by rfl) ?_); intro W0 hX0 hB0 hz0)
        | ((refine at_alloc_sec (by rfl) (by rfl) ?_); intro W hW hB hz)
        | ((refine at_build0 (by rfl) (by rfl) ?_))
        | ((refine at_store_sec _ _ _ _ _ (by rfl) (by rfl) (by rfl) hW (by rfl) ?_); intro W2 hW2 hg2 hz2))
      exact ret_sec rfl rfl _ _ rfl hW2 ⟨rfl, (bnext hB0 hB).grown hg2 (by have := hB.size; have := hB0.size; omega) (by have := hB0.size; simp; omega)⟩
    · have f0 : decide (i < 0) = false := decide_eq_false h0
      have f1 : decide ((n : Int) ≤ i) = true := decide_eq_true (by simp [has] at hh; exact hh (by omega))
      go_enter Try.func70, Try.ntmps70
      go_wp2_with (first
        | ((refine at_box_rd _ r p c q e (by rfl) (by rfl) (by rfl) ?_); intro W0 hX0 hB0 hz0; rw [hrl] at hX0)
        | ((refine at_alloc_sec (by rfl) (by rfl) ?_); intro W hW hB hz; have hc := (hX0.below hB).cell)
        | ((refine at_build0 (by rfl) (by rfl) ?_))
        | ((refine at_store_sec _ _ _ _ _ (by rfl) (by rfl) (by rfl) hW (by rfl) ?_); intro W2 hW2 hg2 hz2))
      exact ret_sec rfl rfl _ _ rfl hW2 ⟨rfl, (bnext hB0 hB).grown hg2 (by have := hB.size; have := hB0.size; omega) (by have := hB0.size; simp; omega)⟩
  | true =>
    have hi : 0 ≤ i ∧ i < n := by simpa [has] using hh
    obtain ⟨k, rfl⟩ := Int.eq_ofNat_of_zero_le hi.1
    have hk : k < r.st.length := by omega
    have hkn : (k : Int) < (n : Int) := by omega
    have f0 : decide ((k : Int) < 0) = false := decide_eq_false (by omega)
    have f1 : decide ((n : Int) ≤ (k : Int)) = false := decide_eq_false (by omega)
    have f2 : decide (n ≤ k) = false := decide_eq_false (by omega)
    have hwl : IntKind.i64.wrap ((L : Int) - 1) = (L : Int) - 1 := wrap_int ⟨by omega, by omega⟩
    go_enter Try.func70, Try.ntmps70
    go_wp2_with (first
      | ((refine at_box_rd _ r p c q e (by rfl) (by rfl) (by rfl) ?_); intro W0 hX0 hB0 hz0; rw [hrl] at hX0)
      | ((refine at_alloc_sec (by rfl) (by rfl) ?_); intro W hW hB hz; have hc := (hX0.below hB).cell))
    have hXW := hX0.below hB
    have hBW := bnext hB0 hB
    have HI : Hid (0 ≤ (k : Int) ∧ (k : Int) < n) := hi
    clear hc hi
    go_loopw [6] (fun t wr => ∃ m : Nat, m ≤ L ∧ t = .int .i64 ((m : Int) - 1) ∧ Hid (last (r.pe.drop m) k = none) ∧ Blk wr W0.heap.size 70 (sc zero) ∧ wr = W) (fun t _ => (intOf t + 1).toNat)
    case atStart => exact ⟨L, Nat.le_refl _, by simp, by unfold Hid; rw [List.drop_of_length_le (by omega)]; rfl, hW, rfl⟩
    case round =>
      obtain ⟨m, hm, rfl, HN, hR, rfl⟩ := hrel
      have hc := hXW.cell
      cases m with
      | zero =>
        have e1 : r.read k = (r.st[k], 0) := by
          have := HN.out
          simp only [List.drop_zero] at this
          simp [Rfd.read, hn, hh, this, List.getElem?_eq_getElem hk]
        obtain ⟨b, o, rfl, hr⟩ := rk_range sc_len (r1.below hBW) (List.getElem?_eq_getElem hk)
        go_wp2_with (first
          | ((refine at_load_sec _ _ _ _ (by rfl) (by rfl) hr (by rfl) ?_))
          | ((refine at_store_sec _ _ _ _ _ (by rfl) (by rfl) (by rfl) hR (by rfl) ?_); intro W2 hW2 hg2 hz2))
        rw [e1]
        exact ret_sec rfl rfl _ _ rfl hW2 ⟨rfl, hBW.grown hg2 hBW.size (by have := hB0.size; simp; omega)⟩
      | succ j =>
        have hj : j < r.pe.length := by omega
        obtain ⟨x, hx⟩ : ∃ x, r.pe[j]? = some x := ⟨_, List.getElem?_eq_getElem hj⟩
        obtain ⟨b, o, rfl, hr⟩ := rk_range wc_len (r2.below hBW) hx
        have hn' : (((j + 1 : Nat) : Int) - 1) = (j : Int) := by omega
        have hjL : (j : Int) < (L : Int) := by omega
        have hwj : IntKind.i64.wrap ((j : Int) - 1) = (j : Int) - 1 := wrap_int ⟨by omega, by omega⟩
        have hat : wr.cell? ⟨b, o + j * 65, none⟩ = some (.int .i64 x.1) := hr 0 _ rfl
        have hrs : wr.rangeAt b (o + j * 65 + 1) (sc x.2) := fun i v hv => by
          rw [Nat.add_assoc, Nat.add_comm 1 i]
          exact hr (i + 1) v hv
        rw [hn']
        clear hn'
        go_wp2_with (first
          | ((refine at_load_sec _ _ _ _ (by rfl) (by rfl) hrs (by rfl) ?_))
          | ((refine at_store_sec _ _ _ _ _ (by rfl) (by rfl) (by rfl) hR (by rfl) ?_); intro W2 hW2 hg2 hz2))
        · have hxi : x.1 = k := by first | assumption | exact eq_of_beq ‹_›
          have e1 : r.read k = (x.2, 0) := by
            have := last_here hj HN.out
            rw [(List.getElem?_eq_some_iff.1 hx).2, if_pos hxi] at this
            simp [Rfd.read, hn, hh, last_found this]
          rw [e1]
          exact ret_sec rfl rfl _ _ rfl hW2 ⟨rfl, hBW.grown hg2 hBW.size (by have := hB0.size; simp; omega)⟩
        · have hxi : ¬ x.1 = k := by first | assumption | exact ne_of_beq_false ‹_›
          refine ⟨⟨j, by omega, rfl, ?_, hR, trivial⟩, by simp [intOf]⟩
          have := last_here hj HN.out
          rw [(List.getElem?_eq_some_iff.1 hx).2, if_neg hxi] at this
          exact this
end Go.Proofs.Ythgafnommcodcaa.Disk
