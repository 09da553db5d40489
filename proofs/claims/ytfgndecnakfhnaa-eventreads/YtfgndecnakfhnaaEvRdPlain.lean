/-
  What the document's Read does to its event, and what that may be. (Written by gen_evrread0.py.)
-/
import Derived.Test.YtfgndecnakfhnaaEvRead
import Derived.Test.YtfgndecnakfhnaaEvRefBytes
import Derived.Test.YtfgndecnakfhnaaPolRefOf
namespace Go.Proofs.Ytfgndecnakfhnaa.Event
open Go.RowKit Go.Proofs.Ytfgndecnakfhnaa.Mem Go.Proofs.Ytfgndecnakfhnaa.Policy
set_option maxRecDepth 100000

section
variable {o : Oper} {a : Act} {w : World} {K : Act → World → Prop} {ops : Array Oper} {rest : List Oper} {Q : Exit → Act → World → Prop}
theorem wp_put_int (x y : Operand) (g k : Nat) (t : TypeId) (cs : List Value) (v : Int) (ho : o.op = .store 3 x y) (hx : a.eval x = .pointer (some ⟨g, k, none⟩)) (hy : a.eval y = .int .i64 v) (hb : Blk w g t cs) (hk : k < cs.length)
    (h : ∀ w', Blk w' g t (cs.set k (.int .i64 v)) → w.grownBy w' (some g) → Hid (w'.heap.size = w.heap.size) → K (a.put o.dst undef) w') : o.wp Try.prog a w K Q := by
  have c := hb.cell k
  have f := hb.frozen k
  rw [List.getElem?_eq_getElem hk] at c
  have hh := h _ (hb.put k (.int .i64 v)) (only_put w ⟨g, k, none⟩ _) (by unfold Hid; simp)
  unfold Oper.wp execOp
  simp only [ho, hx, hy, Instr.storeAt, Instr.sureAddr, Sem.run_bind, Sem.run_pure, Result.andThen_ok]
  simp [go_sem, c, f]
  exact hh
theorem at_put_int (x y : Operand) (g k : Nat) (t : TypeId) (cs : List Value) (v : Int) (ho : o.op = .store 3 x y) (hx : a.eval x = .pointer (some ⟨g, k, none⟩)) (hy : a.eval y = .int .i64 v) (hb : Blk w g t cs) (hk : k < cs.length) (hw : Region.wanted o (yielded ops a.tmps) = true)
    (h : ∀ w', Blk w' g t (cs.set k (.int .i64 v)) → w.grownBy w' (some g) → Hid (w'.heap.size = w.heap.size) → wpList Try.prog ops Q rest (a.put o.dst undef) w') : wpList Try.prog ops Q (o :: rest) a w :=
  BigFrame.wpList_want hw fun _ hK => wp_put_int x y g k t cs v ho hx hy hb hk (fun w2 h1 h2 h3 => hK _ _ (h w2 h1 h2 h3))
theorem wp_put_ints (x y : Operand) (g k : Nat) (t : TypeId) (cs : List Value) (q : Option Addr) (m d : Nat) (ho : o.op = .store 27 x y) (hx : a.eval x = .pointer (some ⟨g, k, none⟩)) (hy : a.eval y = .slice q m d) (hb : Blk w g t cs) (hk : k < cs.length)
    (h : ∀ w', Blk w' g t (cs.set k (.slice q m d)) → w.grownBy w' (some g) → Hid (w'.heap.size = w.heap.size) → K (a.put o.dst undef) w') : o.wp Try.prog a w K Q := by
  have c := hb.cell k
  have f := hb.frozen k
  rw [List.getElem?_eq_getElem hk] at c
  have hh := h _ (hb.put k (.slice q m d)) (only_put w ⟨g, k, none⟩ _) (by unfold Hid; simp)
  unfold Oper.wp execOp
  simp only [ho, hx, hy, Instr.storeAt, Instr.sureAddr, Sem.run_bind, Sem.run_pure, Result.andThen_ok]
  simp [go_sem, c, f]
  exact hh
theorem at_put_ints (x y : Operand) (g k : Nat) (t : TypeId) (cs : List Value) (q : Option Addr) (m d : Nat) (ho : o.op = .store 27 x y) (hx : a.eval x = .pointer (some ⟨g, k, none⟩)) (hy : a.eval y = .slice q m d) (hb : Blk w g t cs) (hk : k < cs.length) (hw : Region.wanted o (yielded ops a.tmps) = true)
    (h : ∀ w', Blk w' g t (cs.set k (.slice q m d)) → w.grownBy w' (some g) → Hid (w'.heap.size = w.heap.size) → wpList Try.prog ops Q rest (a.put o.dst undef) w') : wpList Try.prog ops Q (o :: rest) a w :=
  BigFrame.wpList_want hw fun _ hK => wp_put_ints x y g k t cs q m d ho hx hy hb hk (fun w2 h1 h2 h3 => hK _ _ (h w2 h1 h2 h3))
theorem wp_put_pols (x y : Operand) (g k : Nat) (t : TypeId) (cs : List Value) (q : Option Addr) (m d : Nat) (ho : o.op = .store 26 x y) (hx : a.eval x = .pointer (some ⟨g, k, none⟩)) (hy : a.eval y = .slice q m d) (hb : Blk w g t cs) (hk : k < cs.length)
    (h : ∀ w', Blk w' g t (cs.set k (.slice q m d)) → w.grownBy w' (some g) → Hid (w'.heap.size = w.heap.size) → K (a.put o.dst undef) w') : o.wp Try.prog a w K Q := by
  have c := hb.cell k
  have f := hb.frozen k
  rw [List.getElem?_eq_getElem hk] at c
  have hh := h _ (hb.put k (.slice q m d)) (only_put w ⟨g, k, none⟩ _) (by unfold Hid; simp)
  unfold Oper.wp execOp
  simp only [ho, hx, hy, Instr.storeAt, Instr.sureAddr, Sem.run_bind, Sem.run_pure, Result.andThen_ok]
  simp [go_sem, c, f]
  exact hh
theorem at_put_pols (x y : Operand) (g k : Nat) (t : TypeId) (cs : List Value) (q : Option Addr) (m d : Nat) (ho : o.op = .store 26 x y) (hx : a.eval x = .pointer (some ⟨g, k, none⟩)) (hy : a.eval y = .slice q m d) (hb : Blk w g t cs) (hk : k < cs.length) (hw : Region.wanted o (yielded ops a.tmps) = true)
    (h : ∀ w', Blk w' g t (cs.set k (.slice q m d)) → w.grownBy w' (some g) → Hid (w'.heap.size = w.heap.size) → wpList Try.prog ops Q rest (a.put o.dst undef) w') : wpList Try.prog ops Q (o :: rest) a w :=
  BigFrame.wpList_want hw fun _ hK => wp_put_pols x y g k t cs q m d ho hx hy hb hk (fun w2 h1 h2 h3 => hK _ _ (h w2 h1 h2 h3))
theorem run_app_ints (w : World) (ty : TypeId) (base : Nat) (v : Value) (n : Nat) (xs : List Value) (hown : w.ownsRow base 3 1 v n xs) (p : Option Addr) (m c : Nat) (zs : List Int) (hm : zs.length = m) (hr : Reads .i64 w p c zs) (h63 : n + m ≤ 100000) (hbase : base ≤ w.heap.size) :
    ∃ v' w', (Builtin.append_ #[27, 27] ty #[v, .slice p m c]).run Try.prog w = .ok v' w' ∧ w'.ownsRow base 3 1 v' (n + m) (xs ++ zs.map (Value.int .i64)) ∧ w.grownBy w' v.ownBlock := by
  obtain ⟨i, hi, hz, hsize, hby⟩ := info_i64
  cases p with
  | none =>
    have hc := hr.2.2.1 rfl
    have h1 := hr.1
    subst hc
    obtain rfl : zs = [] := List.eq_nil_of_length_eq_zero (by omega)
    obtain rfl : m = 0 := by simpa using hm.symm
    exact ⟨v, w, run_append_owned_none w base 27 ty 3 i 1 Try.underlying27 hi v n xs hown, by simpa using hown, World.grownBy.refl _ _⟩
  | some ad =>
    obtain ⟨v', w', h1, h2, h3, _⟩ := run_append_own (P := Try.prog) w base 27 ty 3 i (.int .i64 0) 1 8 Try.underlying27 hi hz hsize hby rfl (by decide) v n xs hown ad m c (zs.map (Value.int .i64)) (by simp [hm]) (fun j u hu => by
      have hj : j < zs.length := by
        have := (List.getElem?_eq_some_iff.1 hu).1
        simpa using this
      obtain ⟨b', o', e', _, hc⟩ := hr.2.2.2 (by omega)
      simp only [Option.some.injEq] at e'
      subst e'
      rw [Addr.add_lit, hc j hj, ← hu]
      simp [hj]) (ints_oneCell _ _) (by unfold maxLen; omega) (by omega) hbase
    exact ⟨v', w', h1, h2, h3⟩
theorem wp_app_ints (x y : Operand) (ho : o.op = .call { callee := .builtin .append, args := #[x, y], argTypes := #[27, 27] }) (base : Nat) (v : Value) (n : Nat) (xs : List Value) (hx : a.eval x = v) (hown : w.ownsRow base 3 1 v n xs) (p : Option Addr) (m c : Nat) (zs : List Int) (hy : a.eval y = .slice p m c) (hm : zs.length = m) (hr : Reads .i64 w p c zs) (h63 : n + m ≤ 100000) (hbase : base ≤ w.heap.size)
    (h : ∀ v' w', w'.ownsRow base 3 1 v' (n + m) (xs ++ zs.map (Value.int .i64)) → w.grownBy w' v.ownBlock → K (a.put o.dst v') w') : o.wp Try.prog a w K Q := by
  obtain ⟨v', w', hrun, h1, h2⟩ := run_app_ints w o.type base v n xs hown p m c zs hm hr h63 hbase
  unfold Oper.wp
  simp [execOp, ho, resolve, invoke, builtin, hx, hy, hrun, Result.andThen]
  exact h v' w' h1 h2
end

/-! ### What it may be -/
theorem polsF_snoc : ∀ (j : Nat) (l : List Int), polsF (j + 1) l = polsF j l ++ [asP ((l.drop (10 * j)).take 10)]
  | 0, l => by simp [polsF]
  | j + 1, l => by
    rw [polsF, polsF_snoc j (l.drop 10), polsF, List.drop_drop, show 10 + 10 * j = 10 * (j + 1) by omega]
    rfl
theorem polsF_len : ∀ (j : Nat) (l : List Int), (polsF j l).length = j
  | 0, _ => rfl
  | j + 1, l => by rw [polsF, List.length_cons, polsF_len j]
theorem flat_drop : ∀ (ps : List Po) (j : Nat), (ps.flatMap numsL).drop (10 * j) = (ps.drop j).flatMap numsL
  | [], j => by simp
  | p :: r, 0 => by simp
  | p :: r, j + 1 => by
    rw [List.flatMap_cons, List.drop_append, Policy.nums_len, List.drop_of_length_le (by rw [Policy.nums_len]; omega), List.nil_append, show 10 * (j + 1) - 10 = 10 * j by omega, flat_drop r j, List.drop_succ_cons]
theorem wrote_nums {bs l : List Int} {e : Ev} (hl : Leb.lall bs = (l, 0)) (h : Wrote bs e) : numsE e = l := by
  have := wrote_all h
  rw [hl] at this
  exact (Prod.mk.inj this).1.symm
theorem none_kind {bs rest : List Int} {x0 x1 : Int} (hl : Leb.lall bs = (x0 :: x1 :: rest, 0)) (h : x0 < 1 ∨ 3 < x0) : readO bs = none := none_read fun e he => by
  have h1 := wrote_nums hl he
  rcases right_iff.1 he.2.1 with ⟨ps, ds, rfl, _⟩ | ⟨s, g, rfl, _⟩ | ⟨t, rfl, _⟩
  · rw [nums_commit] at h1; simp at h1; omega
  · rw [nums_lease] at h1; simp at h1; omega
  · rw [nums_period] at h1; simp at h1; omega
theorem wrote3 {bs rest : List Int} {x1 : Int} (hl : Leb.lall bs = (3 :: x1 :: rest, 0)) {e : Ev} (he : Wrote bs e) : e = periodE x1 := by
  have h1 := wrote_nums hl he
  rcases right_iff.1 he.2.1 with ⟨ps, ds, rfl, _⟩ | ⟨s, g, rfl, _⟩ | ⟨t, rfl, _⟩
  · rw [nums_commit] at h1; simp at h1
  · rw [nums_lease] at h1; simp at h1
  · rw [nums_period] at h1; simp at h1; rw [h1.1]
theorem wrote2 {bs rest : List Int} {x1 : Int} (hl : Leb.lall bs = (2 :: x1 :: rest, 0)) {e : Ev} (he : Wrote bs e) : ∃ x2, rest = [x2] ∧ e = leaseE x1 x2 ∧ x1 ≤ 255 := by
  have h1 := wrote_nums hl he
  rcases right_iff.1 he.2.1 with ⟨ps, ds, rfl, _⟩ | ⟨s, g, rfl, hs, _⟩ | ⟨t, rfl, _⟩
  · rw [nums_commit] at h1; simp at h1
  · rw [nums_lease] at h1; simp at h1
    obtain ⟨rfl, rfl⟩ := h1
    exact ⟨g, rfl, rfl, (subB_iff.1 hs).2⟩
  · rw [nums_period] at h1; simp at h1
theorem wrote1 {bs rest : List Int} {x1 : Int} (hl : Leb.lall bs = (1 :: x1 :: rest, 0)) {e : Ev} (he : Wrote bs e) : ∃ ps ds, e = commitE ps ds ∧ x1 = (ds.length : Int) ∧ rest = ds ++ ps.flatMap numsL ∧ comB ps ds = true ∧ ∀ p ∈ ps, PoOk p := by
  have h1 := wrote_nums hl he
  rcases right_iff.1 he.2.1 with ⟨ps, ds, rfl, hc⟩ | ⟨s, g, rfl, _⟩ | ⟨t, rfl, _⟩
  · rw [nums_commit] at h1
    simp only [List.cons.injEq, true_and] at h1
    exact ⟨ps, ds, rfl, h1.1.symm, h1.2.symm, hc, he.1⟩
  · rw [nums_lease] at h1; simp at h1
  · rw [nums_period] at h1; simp at h1
/-- A Drop that is too great. -/
theorem none_drop {bs rest : List Int} {x1 x : Int} {k : Nat} (hl : Leb.lall bs = (1 :: x1 :: rest, 0)) (hk : (k : Int) < x1) (hx : rest[k]? = some x) (h : 255 < x) : readO bs = none := none_read fun e he => by
  obtain ⟨ps, ds, -, h1, h2, hc, -⟩ := wrote1 hl he
  have hkd : k < ds.length := by omega
  rw [h2, List.getElem?_append_left hkd] at hx
  have := subB_iff.1 (dropF_sub (com_iff.1 hc).2.2.2.1 x (List.mem_of_getElem? hx))
  omega
theorem drops_all {bs rest : List Int} {x1 : Int} {k : Nat} (hl : Leb.lall bs = (1 :: x1 :: rest, 0)) (hk : (k : Int) ≤ x1) (hkl : k ≤ rest.length) (hend : ¬ ((k : Int) < x1 ∧ k < rest.length)) {e : Ev} (he : Wrote bs e) :
    ∃ ps, e = commitE ps (rest.take k) ∧ rest.drop k = ps.flatMap numsL ∧ (∀ p ∈ ps, rightP p = true ∧ PoOk p) ∧ rest.length = k + 10 * ps.length := by
  obtain ⟨ps, ds, rfl, h1, h2, hc, ho⟩ := wrote1 hl he
  have hlen := congrArg List.length h2
  rw [List.length_append, flat_len] at hlen
  obtain rfl : k = ds.length := by omega
  exact ⟨ps, by rw [h2, List.take_left], by rw [h2, List.drop_left], fun p hp => ⟨(com_iff.1 hc).2.1.2.1 p hp, ho p hp⟩, hlen⟩
/-- Ten numbers that are no policy's. -/
theorem none_put {bs rest : List Int} {x1 : Int} {k j : Nat} (hl : Leb.lall bs = (1 :: x1 :: rest, 0)) (hk : (k : Int) ≤ x1) (hkl : k ≤ rest.length) (hend : ¬ ((k : Int) < x1 ∧ k < rest.length)) (hj : k + 10 * j + 10 ≤ rest.length)
    (h : isP ((rest.drop (k + 10 * j)).take 10) = false) : readO bs = none := none_read fun e he => by
  obtain ⟨ps, -, h2, h3, h4⟩ := drops_all hl hk hkl hend he
  rw [← List.drop_drop, h2, flat_drop] at h
  obtain ⟨p, r, hp⟩ : ∃ p r, ps.drop j = p :: r := by
    cases hd : ps.drop j with
    | nil => have := congrArg List.length hd; rw [List.length_drop] at this; simp at this; omega
    | cons p r => exact ⟨p, r, rfl⟩
  have hm : p ∈ ps := List.mem_of_mem_drop (by rw [hp]; simp)
  rw [hp, List.flatMap_cons, List.take_left' (Policy.nums_len p), isP_nums (h3 p hm).1 (h3 p hm).2.2.1] at h
  cases h
theorem cand1 {bs rest : List Int} {x1 : Int} {k j : Nat} (hl : Leb.lall bs = (1 :: x1 :: rest, 0)) (hk : (k : Int) ≤ x1) (hkl : k ≤ rest.length) (hend : ¬ ((k : Int) < x1 ∧ k < rest.length)) (hj : k + 10 * j ≤ rest.length) (hj2 : rest.length < k + 10 * j + 10)
    {e : Ev} (he : Wrote bs e) : e = commitE (polsF j (rest.drop k)) (rest.take k) := by
  obtain ⟨ps, h1, h2, -, h4⟩ := drops_all hl hk hkl hend he
  obtain rfl : j = ps.length := by omega
  rw [h1, h2, polsF_flat]
/-- How it ends. -/
theorem ends {bs : List Int} {e : Ev} (ho : ∀ p ∈ e.ps, PoOk p) (hc : ∀ e', Wrote bs e' → e' = e) : readO bs = if rightE e = true ∧ Leb.nums (numsE e) = bs then some e else none := by
  by_cases h : rightE e = true ∧ Leb.nums (numsE e) = bs
  · rw [if_pos h]; exact some_read ⟨ho, h.1, h.2⟩
  · rw [if_neg h]
    exact none_read fun e' he => by
      obtain rfl := hc e' he
      exact h ⟨he.2.1, he.2.2⟩
end Go.Proofs.Ytfgndecnakfhnaa.Event
