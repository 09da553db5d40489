/-
  Entries that are the call's own: append, changes in place, one of them taken out.
-/
import Derived.Test.YtnaofcggdjbocaaPolSat
import Derived.Test.YtnaofcggdjbocaaBkSmall
import Derived.Test.YtnaofcggdjbocaaBkCarry
import Derived.Laws.CopyRow
import Derived.Maps.AppendAt
/-
  Policies behind policies: append, of what is read to what is the call's own; a row of none.
-/
namespace Go.Proofs.Ytnaofcggdjbocaa.Policy
open Go.RowKit Go.Proofs.Ytnaofcggdjbocaa.Mem Go.Proofs.Ytnaofcggdjbocaa.Addr
set_option maxRecDepth 100000

theorem info_pol : ∃ i, Try.prog.info? 47 = some i ∧ i.zero = some (pv zeroP) ∧ i.size = 13 ∧ i.bytes = 80 := by
  have h : (Try.prog.info? 47).map (fun i => (i.zero, i.size, i.bytes)) = some (some (pv zeroP), 13, 80) := by kernel_rfl
  obtain ⟨i, hi, he⟩ := Option.map_eq_some_iff.1 h
  simp only [Prod.mk.injEq] at he
  exact ⟨i, hi, he⟩
theorem run_append_pol (w : World) (ty : TypeId) (base : Nat) (v : Value) (n : Nat) (xs : List Po) (hown : w.ownsRow base 47 13 v n (xs.flatMap pl)) (p : Option Addr) (m c : Nat) (zs : List Po) (hm : zs.length = m) (hr : RK pl w p c zs) (h63 : n + m ≤ 100000) (hbase : base ≤ w.heap.size) :
    ∃ v' w', (Builtin.append_ #[29, 29] ty #[v, .slice p m c]).run Try.prog w = .ok v' w' ∧ w'.ownsRow base 47 13 v' (n + m) ((xs ++ zs).flatMap pl) ∧ w.grownBy w' v.ownBlock := by
  obtain ⟨i, hi, hz, hs, hb⟩ := info_pol
  cases p with
  | none =>
    have hc := hr.2.2.1 rfl
    have h1 := hr.1
    subst hc
    obtain rfl : zs = [] := List.eq_nil_of_length_eq_zero (by omega)
    obtain rfl : m = 0 := by simpa using hm.symm
    exact ⟨v, w, run_append_owned_none w base 29 ty _ i 13 Try.underlying29 hi v n _ hown, by simpa using hown, World.grownBy.refl _ _⟩
  | some ad =>
    obtain ⟨v', w', h1, h2, h3, _⟩ := run_append_own (P := Try.prog) w base 29 ty _ i (pv zeroP) 13 80 Try.underlying29 hi hz hs hb rfl (by decide) v n _ hown ad m c (zs.flatMap pl) (by rw [len_flat pl_len, hm]) (fun j u hu => by
      have hl : 0 < zs.length := by
        rcases Nat.eq_zero_or_pos zs.length with q | q
        · obtain rfl := List.eq_nil_of_length_eq_zero q; simp at hu
        · exact q
      obtain ⟨b', o', e', _, hc⟩ := hr.2.2.2 hl
      simp only [Option.some.injEq] at e'
      subst e'
      rw [Addr.add_lit]
      exact hc j u hu) (fun u hu => by
      obtain ⟨y, _, hy⟩ := List.mem_flatMap.1 hu
      exact pl_one y u hy) (by unfold maxLen; omega) (by omega) hbase
    exact ⟨v', w', h1, by rw [List.flatMap_append]; exact h2, h3⟩
section
variable {o : Oper} {a : Act} {w : World} {K : Act → World → Prop} {ops : Array Oper} {rest : List Oper} {Q : Exit → Act → World → Prop}
theorem wp_append_pol (x y : Operand) (ho : o.op = .call { callee := .builtin .append, args := #[x, y], argTypes := #[29, 29] }) (base : Nat) (v : Value) (n : Nat) (xs : List Po) (hx : a.eval x = v) (hown : w.ownsRow base 47 13 v n (xs.flatMap pl)) (p : Option Addr) (m c : Nat) (zs : List Po) (hy : a.eval y = .slice p m c) (hm : zs.length = m) (hr : RK pl w p c zs) (h63 : n + m ≤ 100000) (hbase : base ≤ w.heap.size)
    (h : ∀ v' w', w'.ownsRow base 47 13 v' (n + m) ((xs ++ zs).flatMap pl) → w.grownBy w' v.ownBlock → K (a.put o.dst v') w') : o.wp Try.prog a w K Q := by
  obtain ⟨v', w', hrun, h1, h2⟩ := run_append_pol w o.type base v n xs hown p m c zs hm hr h63 hbase
  unfold Oper.wp
  simp [execOp, ho, resolve, invoke, builtin, hx, hy, hrun, Result.andThen]
  exact h v' w' h1 h2
theorem at_append_pol (x y : Operand) (ho : o.op = .call { callee := .builtin .append, args := #[x, y], argTypes := #[29, 29] }) (base : Nat) (v : Value) (n : Nat) (xs : List Po) (hx : a.eval x = v) (hown : w.ownsRow base 47 13 v n (xs.flatMap pl)) (p : Option Addr) (m c : Nat) (zs : List Po) (hy : a.eval y = .slice p m c) (hm : zs.length = m) (hr : RK pl w p c zs) (h63 : n + m ≤ 100000) (hbase : base ≤ w.heap.size) (hw : Region.wanted o (yielded ops a.tmps) = true)
    (h : ∀ v' w', w'.ownsRow base 47 13 v' (n + m) ((xs ++ zs).flatMap pl) → w.grownBy w' v.ownBlock → wpList Try.prog ops Q rest (a.put o.dst v') w') : wpList Try.prog ops Q (o :: rest) a w :=
  BigFrame.wpList_want hw fun _ hK => wp_append_pol x y ho base v n xs hx hown p m c zs hy hm hr h63 hbase (fun v2 w2 h1 h2 => hK _ _ (h v2 w2 h1 h2))
end
/-- From a lower block on. -/
theorem own_lower {w : World} {B B' : Nat} {e : TypeId} {k n : Nat} {v : Value} {xs : List Value} (h : w.ownsRow B e k v n xs) (hB : B' ≤ B) : w.ownsRow B' e k v n xs := by
  refine ⟨h.1, ?_⟩
  rcases h.2 with h | ⟨g, cap, cur, h1, h2, h3⟩
  · exact .inl h
  · exact .inr ⟨g, cap, cur, h1, by omega, h3⟩
/-- A row of none. -/
theorem none_own (w : World) : (w.alloc (.cells #[] 47)).ownsRow w.heap.size 47 13 (.slice (some ⟨w.heap.size, 0, none⟩) 0 0) 0 (([] : List Po).flatMap pl) := lit_none_k w
end Go.Proofs.Ytnaofcggdjbocaa.Policy
namespace Go.Proofs.Ytnaofcggdjbocaa.Book
open Go.RowKit Go.Proofs.Ytnaofcggdjbocaa.Mem Go.Proofs.Ytnaofcggdjbocaa.Policy Go.Proofs.Ytnaofcggdjbocaa.Event Go.Proofs.Ytnaofcggdjbocaa.Addr
set_option maxRecDepth 100000

/-- Entries that are the call's own. -/
def EO (B : Nat) (w : World) (v : Value) (es : List En) : Prop := w.ownsRow B 49 14 v es.length (es.flatMap nl)
theorem EO.nil (B : Nat) (w : World) : EO B w (.slice none 0 0) [] := World.ownsRow_nil _ _ _ _
theorem EO.shape {B : Nat} {w : World} {v : Value} {es : List En} (h : EO B w v es) : ∃ q c, v = .slice q es.length c ∧ RK nl w q c es ∧ ∀ a, q = some a → B ≤ a.block := own_rk len_en (by decide) h
theorem EO.is {B n c : Nat} {w : World} {q : Option Addr} {es : List En} (h : EO B w (.slice q n c) es) : es.length = n ∧ RK nl w q c es ∧ ∀ a, q = some a → B ≤ a.block := by
  obtain ⟨q', c', hv, hr, hf⟩ := h.shape
  simp only [Value.slice.injEq] at hv
  obtain ⟨rfl, rfl, rfl⟩ := hv
  exact ⟨rfl, hr, hf⟩
theorem EO.below {B : Nat} {w w' : World} {v : Value} {es : List En} (h : EO B w v es) (hb : Below w.heap.size w w') : EO B w' v es := own_below h hb
theorem EO.lower {B C : Nat} {w : World} {v : Value} {es : List En} (h : EO B w v es) (hc : C ≤ B) : EO C w v es := own_lower h hc
/-- A block that holds something else is another one. -/
theorem EO.ne {B : Nat} {w : World} {v : Value} {es : List En} {g : Nat} {t : TypeId} {cs : List Value} (h : EO B w v es) (hX : Blk w g t cs) (ht : t ≠ 49) : some g ≠ v.ownBlock := by
  intro q
  rcases h.2 with ⟨rfl, _⟩ | ⟨g', cap, cur, rfl, _, hg, _⟩
  · cases q
  · simp only [Value.ownBlock, Option.some.injEq] at q
    subst q
    unfold Blk at hX
    rw [hg] at hX
    simp only [Option.some.injEq, Obj.cells.injEq] at hX
    exact ht hX.2.1.symm
theorem EO.off {B : Nat} {w w' : World} {v : Value} {es : List En} {g : Nat} {t : TypeId} {cs : List Value} (h : EO B w v es) (hX : Blk w g t cs) (ht : t ≠ 49) (hg : w.grownBy w' (some g)) : EO B w' v es := by
  have hne := h.ne hX ht
  refine ⟨h.1, ?_⟩
  rcases h.2 with h0 | ⟨g', cap, cur, hv, hb, hh, r⟩
  · exact .inl h0
  · refine .inr ⟨g', cap, cur, hv, hb, (hg.block g' (Array.getElem?_eq_some_iff.1 hh).1 (fun e => hne ?_)).trans hh, r⟩
    rw [hv, ← e]; rfl
/-- As a block that is known whole. -/
theorem EO.blk {B g n c : Nat} {w : World} {es : List En} (h : EO B w (.slice (some ⟨g, 0, none⟩) n c) es) : ∃ rest, Blk w g 49 (es.flatMap nl ++ rest) ∧ es.length = n ∧ B ≤ g ∧ n ≤ c ∧ c ≤ maxLen ∧ (es.flatMap nl ++ rest).length = c * 14 := by
  have hn := h.is.1
  rcases h.2 with ⟨h0, _⟩ | ⟨g', cap, cur, hv, hb, hg, hc, hm, hs, ht⟩
  · simp at h0
  · simp only [Value.slice.injEq, Option.some.injEq, Addr.mk.injEq, and_true] at hv
    obtain ⟨rfl, hn', rfl⟩ := hv
    refine ⟨cur.toList.drop (es.length * 14), ?_, hn, hb, by omega, hm, ?_⟩
    · rw [← ht, List.take_append_drop]
      unfold Blk
      simpa using hg
    · rw [← ht, List.take_append_drop]; simpa using hs
theorem eo_of {B g n c : Nat} {w : World} {es : List En} {rest : List Value} (hX : Blk w g 49 (es.flatMap nl ++ rest)) (hn : es.length = n) (hB : B ≤ g) (hc : n ≤ c) (hm : c ≤ maxLen) (hl : (es.flatMap nl ++ rest).length = c * 14) : EO B w (.slice (some ⟨g, 0, none⟩) n c) es := by
  subst hn
  refine ⟨len_flat len_en es, .inr ⟨g, c, (es.flatMap nl ++ rest).toArray, rfl, hB, hX, hc, hm, by simpa using hl, ?_⟩⟩
  rw [List.toList_toArray, List.take_left' (len_flat len_en es)]
theorem flat_at {es : List En} {k : Nat} {e : En} (h : es[k]? = some e) : es.flatMap nl = (es.take k).flatMap nl ++ (pl e.p ++ [Value.int .u64 e.g]) ++ (es.drop (k + 1)).flatMap nl := by
  have hl := (List.getElem?_eq_some_iff.1 h).1
  have he : es[k] = e := (List.getElem?_eq_some_iff.1 h).2
  have e1 : es = es.take k ++ e :: es.drop (k + 1) := by
    conv => lhs; rw [← List.take_append_drop k es, List.drop_eq_getElem_cons hl, he]
  conv => lhs; rw [e1]
  rw [List.flatMap_append, List.flatMap_cons, List.append_assoc]
  rfl
theorem flat_put {es : List En} {k : Nat} {e f : En} (h : es[k]? = some e) : (es.set k f).flatMap nl = (es.take k).flatMap nl ++ (pl f.p ++ [Value.int .u64 f.g]) ++ (es.drop (k + 1)).flatMap nl := by
  have hl := (List.getElem?_eq_some_iff.1 h).1
  rw [List.set_eq_take_append_cons_drop, if_pos hl, List.flatMap_append, List.flatMap_cons, List.append_assoc]
  rfl
theorem take_len {es : List En} {k : Nat} {e : En} (h : es[k]? = some e) : ((es.take k).flatMap nl).length = k * 14 := by
  have hl := (List.getElem?_eq_some_iff.1 h).1
  rw [len_flat len_en, List.length_take, Nat.min_eq_left (by omega)]
/-- What is granted, of one of them. -/
theorem set_g {es : List En} {k : Nat} {e : En} (h : es[k]? = some e) (v : Int) (rest : List Value) : (es.flatMap nl ++ rest).set (k * 14 + 13) (.int .u64 v) = (es.set k ⟨e.p, v⟩).flatMap nl ++ rest := by
  rw [flat_at h, flat_put (f := ⟨e.p, v⟩) h]
  have hl := take_len h
  simp only [List.append_assoc]
  rw [List.set_append_right _ _ (by omega), hl, show k * 14 + 13 - k * 14 = 13 by omega]
  congr 1
/-- The policy, of one of them. -/
theorem set_p {es : List En} {k : Nat} {e : En} (h : es[k]? = some e) (p : Po) (rest : List Value) : (es.flatMap nl ++ rest).take (k * 14) ++ pl p ++ (es.flatMap nl ++ rest).drop (k * 14 + 13) = (es.set k ⟨p, e.g⟩).flatMap nl ++ rest := by
  rw [flat_at h, flat_put (f := ⟨p, e.g⟩) h]
  have hl := take_len h
  have h13 : (pl e.p).length = 13 := rfl
  obtain ⟨A, hA⟩ : ∃ A, (es.take k).flatMap nl = A := ⟨_, rfl⟩
  obtain ⟨C, hC⟩ : ∃ C, (es.drop (k + 1)).flatMap nl = C := ⟨_, rfl⟩
  rw [hA] at hl ⊢
  rw [hC]
  simp only [List.append_assoc]
  rw [List.take_left' hl, ← hl, ← h13, ← List.length_append, ← List.append_assoc A (pl e.p), List.drop_left]
theorem len_set {es : List En} {k : Nat} {e f : En} (_h : es[k]? = some e) (rest : List Value) : ((es.set k f).flatMap nl ++ rest).length = (es.flatMap nl ++ rest).length := by
  simp [len_flat len_en]
theorem info_en : ∃ i, Try.prog.info? 49 = some i ∧ i.zero = some (nv zeroN) ∧ i.size = 14 ∧ i.bytes = 88 := by
  have h : (Try.prog.info? 49).map (fun i => (i.zero, i.size, i.bytes)) = some (some (nv zeroN), 14, 88) := by kernel_rfl
  obtain ⟨i, hi, he⟩ := Option.map_eq_some_iff.1 h
  simp only [Prod.mk.injEq] at he
  exact ⟨i, hi, he⟩
theorem info_po : ∃ i, Try.prog.info? 47 = some i ∧ i.size = 13 := by
  have h : (Try.prog.info? 47).map (·.size) = some 13 := by kernel_rfl
  exact Option.map_eq_some_iff.1 h
theorem grown_row {w : World} {g : Nat} {t : TypeId} {cs : List Value} (hb : Blk w g t cs) (ds : List Value) : Blk (w.setRow g ds.toArray) g t ds ∧ w.grownBy (w.setRow g ds.toArray) (some g) ∧ Hid ((w.setRow g ds.toArray).heap.size = w.heap.size) :=
  ⟨setRow_heap w g _ _ t _ hb, ⟨rfl, rfl, rfl, by simp [World.setRow], fun k _ hk => setRow_other w g k _ (fun e => hk (by simp [e]))⟩, by unfold Hid; simp [World.setRow]⟩
section
variable {o : Oper} {a : Act} {w : World} {K : Act → World → Prop} {ops : Array Oper} {rest : List Oper} {Q : Exit → Act → World → Prop}
/-- A policy into one of them. -/
theorem wp_own_pol (x y : Operand) (B g k n c : Nat) (es : List En) (e : En) (p : Po) (ho : o.op = .store 47 x y) (hx : a.eval x = .pointer (some ⟨g, k * 14, none⟩)) (hy : a.eval y = pv p) (h : EO B w (.slice (some ⟨g, 0, none⟩) n c) es) (hk : es[k]? = some e)
    (hK : ∀ w', EO B w' (.slice (some ⟨g, 0, none⟩) n c) (es.set k ⟨p, e.g⟩) → w.grownBy w' (some g) → Hid (w'.heap.size = w.heap.size) → K (a.put o.dst undef) w') : o.wp Try.prog a w K Q := by
  obtain ⟨rest, hX, hn, hB, hc, hm, hl⟩ := h.blk
  have hkl := (List.getElem?_eq_some_iff.1 hk).1
  have hle : k * 14 + 14 ≤ c * 14 := by omega
  have hst := run_storeCells_at Try.prog g (k * 14) 49 (pl p) 0 _ w hX (by rw [List.size_toArray, hl, pl_len]; omega) (pl_one p)
  simp only [Nat.add_zero, pl_len] at hst
  rw [set_p hk p rest] at hst
  obtain ⟨i, hi, hsz⟩ := info_po
  have hs : (storeVar 47 ⟨g, k * 14, none⟩ (pv p)).run Try.prog w = .ok () (w.setRow g ((es.set k ⟨p, e.g⟩).flatMap nl ++ rest).toArray) := by
    simp [storeVar, Go.sizeOf, typeInfo, hi, hsz, pv, Value.cells, pl_len, hst]
  obtain ⟨k1, k2, k3⟩ := grown_row hX ((es.set k ⟨p, e.g⟩).flatMap nl ++ rest)
  have hh := hK _ (eo_of k1 (by rw [List.length_set]; exact hn) hB hc hm (by rw [len_set hk]; exact hl)) k2 k3
  unfold Oper.wp execOp
  simp only [ho, hx, hy, Instr.storeAt, Instr.sureAddr, Sem.run_bind, Sem.run_pure, Result.andThen_ok, hs]
  exact hh
theorem at_own_pol (x y : Operand) (B g k n c : Nat) (es : List En) (e : En) (p : Po) (ho : o.op = .store 47 x y) (hx : a.eval x = .pointer (some ⟨g, k * 14, none⟩)) (hy : a.eval y = pv p) (h : EO B w (.slice (some ⟨g, 0, none⟩) n c) es) (hk : es[k]? = some e) (hw : Region.wanted o (yielded ops a.tmps) = true)
    (hK : ∀ w', EO B w' (.slice (some ⟨g, 0, none⟩) n c) (es.set k ⟨p, e.g⟩) → w.grownBy w' (some g) → Hid (w'.heap.size = w.heap.size) → wpList Try.prog ops Q rest (a.put o.dst undef) w') : wpList Try.prog ops Q (o :: rest) a w :=
  BigFrame.wpList_want hw fun _ hk2 => wp_own_pol x y B g k n c es e p ho hx hy h hk (fun w2 h1 h2 h3 => hk2 _ _ (hK w2 h1 h2 h3))
/-- What is granted, into one of them. -/
theorem at_own_g (x y : Operand) (B g k n c : Nat) (es : List En) (e : En) (v : Int) (ho : o.op = .store 22 x y) (hx : a.eval x = .pointer (some ⟨g, k * 14 + 13, none⟩)) (hy : a.eval y = .int .u64 v) (h : EO B w (.slice (some ⟨g, 0, none⟩) n c) es) (hk : es[k]? = some e) (hw : Region.wanted o (yielded ops a.tmps) = true)
    (hK : ∀ w', EO B w' (.slice (some ⟨g, 0, none⟩) n c) (es.set k ⟨e.p, v⟩) → w.grownBy w' (some g) → Hid (w'.heap.size = w.heap.size) → wpList Try.prog ops Q rest (a.put o.dst undef) w') : wpList Try.prog ops Q (o :: rest) a w := by
  obtain ⟨rs, hX, hn, hB, hc, hm, hl⟩ := h.blk
  have hkl := (List.getElem?_eq_some_iff.1 hk).1
  refine at_store_u64 x y g (k * 14 + 13) _ _ v ho hx hy hX (by rw [hl]; omega) hw fun w2 h1 h2 h3 => ?_
  rw [set_g hk v rs] at h1
  exact hK w2 (eo_of h1 (by rw [List.length_set]; exact hn) hB hc hm (by rw [len_set hk]; exact hl)) h2 h3
/-- Where what was the call's own lies now. -/
def Lies (w : World) (v v' : Value) : Prop := ∀ g, v'.ownBlock = some g → v.ownBlock = some g ∨ w.heap.size ≤ g
theorem Lies.refl (w : World) (v : Value) : Lies w v v := fun _ h => .inl h
theorem Lies.next {w w2 : World} {v v' v2 : Value} (h : Lies w v v') (k : Lies w2 v' v2) (hs : w.heap.size ≤ w2.heap.size) : Lies w v v2 := fun g hg => by
  rcases k g hg with q | q
  · exact h g q
  · exact .inr (Nat.le_trans hs q)
/-- Entries behind entries. -/
theorem run_append_en (w : World) (ty : TypeId) (base : Nat) (v : Value) (xs : List En) (hown : EO base w v xs) (p : Option Addr) (m c : Nat) (zs : List En) (hm : zs.length = m) (hr : RK nl w p c zs) (h63 : xs.length + m ≤ 100000) (hbase : base ≤ w.heap.size) :
    ∃ v' w', (Builtin.append_ #[23, 23] ty #[v, .slice p m c]).run Try.prog w = .ok v' w' ∧ EO base w' v' (xs ++ zs) ∧ w.grownBy w' v.ownBlock ∧ Lies w v v' := by
  obtain ⟨i, hi, hz, hs, hb⟩ := info_en
  unfold EO at hown ⊢
  rw [List.length_append, hm]
  cases p with
  | none =>
    have hc := hr.2.2.1 rfl
    have h1 := hr.1
    subst hc
    obtain rfl : zs = [] := List.eq_nil_of_length_eq_zero (by omega)
    obtain rfl : m = 0 := by simpa using hm.symm
    exact ⟨v, w, run_append_owned_none w base 23 ty _ i 14 Try.underlying23 hi v _ _ hown, by simpa using hown, World.grownBy.refl _ _, Lies.refl _ _⟩
  | some ad =>
    obtain ⟨v', w', h1, h2, h3, _, h5⟩ := run_append_own_at (P := Try.prog) w base 23 ty _ i (nv zeroN) 14 88 Try.underlying23 hi hz hs hb rfl (by decide) v _ _ hown ad m c (zs.flatMap nl) (by rw [len_flat len_en, hm]) (fun j u hu => by
      have hl : 0 < zs.length := by
        rcases Nat.eq_zero_or_pos zs.length with q | q
        · obtain rfl := List.eq_nil_of_length_eq_zero q; simp at hu
        · exact q
      obtain ⟨b', o', e', _, hc⟩ := hr.2.2.2 hl
      simp only [Option.some.injEq] at e'
      subst e'
      rw [Addr.add_lit]
      exact hc j u hu) (fun u hu => by
      obtain ⟨y, _, hy⟩ := List.mem_flatMap.1 hu
      exact one_en y u hy) (by unfold maxLen; omega) (by omega) hbase
    refine ⟨v', w', h1, by rw [List.flatMap_append]; exact h2, h3, fun g hg => ?_⟩
    rcases h5 with h5 | h5
    · exact .inl (h5 ▸ hg)
    · rw [h5] at hg; exact .inr (by have := Option.some.inj hg; omega)
theorem wp_append_en (x y : Operand) (ho : o.op = .call { callee := .builtin .append, args := #[x, y], argTypes := #[23, 23] }) (base : Nat) (v : Value) (xs : List En) (hx : a.eval x = v) (hown : EO base w v xs) (p : Option Addr) (m c : Nat) (zs : List En) (hy : a.eval y = .slice p m c) (hm : zs.length = m) (hr : RK nl w p c zs) (h63 : xs.length + m ≤ 100000) (hbase : base ≤ w.heap.size)
    (h : ∀ v' w', EO base w' v' (xs ++ zs) → w.grownBy w' v.ownBlock → Lies w v v' → K (a.put o.dst v') w') : o.wp Try.prog a w K Q := by
  obtain ⟨v', w', hrun, h1, h2, h3⟩ := run_append_en w o.type base v xs hown p m c zs hm hr h63 hbase
  unfold Oper.wp
  simp [execOp, ho, resolve, invoke, builtin, hx, hy, hrun, Result.andThen]
  exact h v' w' h1 h2 h3
theorem at_append_en (x y : Operand) (ho : o.op = .call { callee := .builtin .append, args := #[x, y], argTypes := #[23, 23] }) (base : Nat) (v : Value) (xs : List En) (hx : a.eval x = v) (hown : EO base w v xs) (p : Option Addr) (m c : Nat) (zs : List En) (hy : a.eval y = .slice p m c) (hm : zs.length = m) (hr : RK nl w p c zs) (h63 : xs.length + m ≤ 100000) (hbase : base ≤ w.heap.size) (hw : Region.wanted o (yielded ops a.tmps) = true)
    (h : ∀ v' w', EO base w' v' (xs ++ zs) → w.grownBy w' v.ownBlock → Lies w v v' → wpList Try.prog ops Q rest (a.put o.dst v') w') : wpList Try.prog ops Q (o :: rest) a w :=
  BigFrame.wpList_want hw fun _ hK => wp_append_en x y ho base v xs hx hown p m c zs hy hm hr h63 hbase (fun v2 w2 h1 h2 h3 => hK _ _ (h v2 w2 h1 h2 h3))
end
theorem none_ent (w : World) : EO w.heap.size (w.alloc (.cells #[] 49)) (.slice (some ⟨w.heap.size, 0, none⟩) 0 0) [] := lit_none_k w
theorem lit_ents (w : World) (e : En) : RK nl (w.alloc (.cells ([e].flatMap nl).toArray 49)) (some ⟨w.heap.size, 0, none⟩) 1 [e] := lit_rk (by simp)
theorem run_ent1 (e : En) (w : World) : (Instr.buildSlice 23 1 #[(0, nv e)]).run Try.prog w = .ok (.slice (some ⟨w.heap.size, 0, none⟩) 1 1) (w.alloc (.cells ([e].flatMap nl).toArray 49)) := by kernel_rfl
theorem at_ent1 {o : Oper} {a : Act} {w : World} {ops : Array Oper} {rest : List Oper} {Q : Exit → Act → World → Prop} (x : Operand) (e : En) (ho : o.op = .buildSlice 23 1 #[(0, x)]) (hx : a.eval x = nv e) (hw : Region.wanted o (yielded ops a.tmps) = true)
    (h : ∀ w', RK nl w' (some ⟨w.heap.size, 0, none⟩) 1 [e] → Below w.heap.size w w' → Hid (w'.heap.size = w.heap.size + 1) → wpList Try.prog ops Q rest (a.put o.dst (.slice (some ⟨w.heap.size, 0, none⟩) 1 1)) w') : wpList Try.prog ops Q (o :: rest) a w :=
  BigFrame.wpList_want hw fun _ hK => wp_run (Instr.buildSlice 23 1 #[(0, nv e)]) (by simp [execOp, ho, hx]) (run_ent1 e w) (hK _ _ (h _ (lit_ents w e) (bnew _ _) (by unfold Hid; simp)))
end Go.Proofs.Ytnaofcggdjbocaa.Book
