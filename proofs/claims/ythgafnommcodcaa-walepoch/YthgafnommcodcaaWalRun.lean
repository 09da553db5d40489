/-
  Records in memory; the records that a segment's sectors begin with.
-/
import Derived.Test.YthgafnommcodcaaWalSeg
namespace Go.Proofs.Ythgafnommcodcaa.Wal
open Go.RowKit Go.Proofs.Ythgafnommcodcaa.Mem Go.Proofs.Ythgafnommcodcaa.Sect Go.Proofs.Ythgafnommcodcaa.Frame Go.Proofs.Ythgafnommcodcaa.Disk Go.Proofs.Ythgafnommcodcaa.Area
set_option maxRecDepth 100000

/-- A record in memory: what is told of it, and where its payload lies. -/
structure Rv where
  g : Got
  q : Option Addr
  d : Nat
def rc (r : Rv) : List Value := [.int .u64 (r.g.s : Int), .int .u32 (r.g.e : Int), .slice r.q r.g.p.length r.d]
theorem rc_len (r : Rv) : (rc r).length = 3 := rfl
theorem rc_one (r : Rv) : ∀ v ∈ rc r, v.oneCell' = true := by
  intro v hv
  simp only [rc, List.mem_cons, List.not_mem_nil, or_false] at hv
  rcases hv with rfl | rfl | rfl <;> rfl
/-- Their payloads lie there, outside of the blocks of T. -/
def Pays (T : Nat → Prop) (w : World) (rs : List Rv) : Prop := ∀ r ∈ rs, Reads .u8 w r.q r.d r.g.p ∧ (∀ c ∈ r.g.p, Byte c) ∧ Off T r.q r.g.p.length ∧ r.g.p.length ≤ 700
section
variable {T T' : Nat → Prop} {w w' : World} {rs : List Rv}
theorem Pays.nil (T : Nat → Prop) (w : World) : Pays T w [] := fun _ h => by cases h
theorem Pays.below (h : Pays T w rs) (hb : Below w.heap.size w w') : Pays T w' rs := fun r hr => ⟨(h r hr).1.below hb, (h r hr).2⟩
theorem Pays.drew (h : Pays T w rs) : Pays T w.drew rs := h.below (Below.refl _ _).drew
theorem reads_fr {k : IntKind} {p : Option Addr} {cap : Nat} {zs : List Int} (h : Reads k w p cap zs) (ho : Off T p zs.length) (hF : Fr T w w') : Reads k w' p cap zs := by
  obtain ⟨h1, h2, h3, h4⟩ := h
  refine ⟨h1, h2, h3, fun hz => ?_⟩
  obtain ⟨b, o, e, hlt, hc⟩ := h4 hz
  exact ⟨b, o, e, Nat.lt_of_lt_of_le hlt hF.size, fun j hj => (World.cell?_of_block (w := w) (hF.2.2.2.2 b hlt (ho hz _ e))).trans (hc j hj)⟩
theorem Pays.fr (h : Pays T w rs) (hF : Fr T w w') : Pays T w' rs := fun r hr => ⟨reads_fr (h r hr).1 (h r hr).2.2.1 hF, (h r hr).2⟩
theorem reads_off {k : IntKind} {p : Option Addr} {cap : Nat} {zs : List Int} (h : Reads k w p cap zs) (ho : Off T p zs.length) (hT : ∀ k, T' k → T k ∨ w.heap.size ≤ k) : Off T' p zs.length := fun hz a ha q => by
  obtain ⟨b, o, e, hlt, _⟩ := h.2.2.2 hz
  rw [ha] at e
  obtain rfl := Option.some.inj e
  rcases hT _ q with q | q
  · exact ho hz _ ha q
  · exact absurd hlt (Nat.not_lt.2 q)
theorem Pays.more (h : Pays T w rs) (hT : ∀ k, T' k → T k ∨ w.heap.size ≤ k) : Pays T' w rs := fun r hr => ⟨(h r hr).1, (h r hr).2.1, reads_off (h r hr).1 (h r hr).2.2.1 hT, (h r hr).2.2.2⟩
theorem Pays.snoc (h : Pays T w rs) {r : Rv} (h1 : Reads .u8 w r.q r.d r.g.p) (h2 : ∀ c ∈ r.g.p, Byte c) (h3 : Off T r.q r.g.p.length) (h4 : r.g.p.length ≤ 700) : Pays T w (rs ++ [r]) := fun x hx => by
  rcases List.mem_append.1 hx with hx | hx
  · exact h x hx
  · rw [List.mem_singleton] at hx
    subst hx
    exact ⟨h1, h2, h3, h4⟩
theorem Pays.app {rs' : List Rv} (h : Pays T w rs) (h' : Pays T w rs') : Pays T w (rs ++ rs') := fun x hx => by
  rcases List.mem_append.1 hx with hx | hx
  · exact h x hx
  · exact h' x hx
end
/-- The block of a row that one has built. -/
def ownOf (v : Value) (k : Nat) : Prop := v.ownBlock = some k
theorem info_rec : ∃ i, Try.prog.info? 75 = some i ∧ i.zero = some (.agg #[.int .u64 0, .int .u32 0, .slice none 0 0]) ∧ i.size = 3 ∧ i.bytes = 40 := by
  have h : (Try.prog.info? 75).map (fun i => (i.zero, i.size, i.bytes)) = some (some (.agg #[.int .u64 0, .int .u32 0, .slice none 0 0]), 3, 40) := by kernel_rfl
  obtain ⟨i, h1, h2⟩ := Option.map_eq_some_iff.1 h
  simp only [Prod.mk.injEq] at h2
  exact ⟨i, h1, h2⟩
section
variable {o : Oper} {a : Act} {w : World} {ops : Array Oper} {rest : List Oper} {Q : Exit → Act → World → Prop}
/-- An append of records to what one has built. -/
theorem at_append_rec (hgd : o.guard = none) (x y : Operand) (ho : o.op = .call { callee := .builtin .append, args := #[x, y], argTypes := #[30, 30] })
    (base : Nat) (v : Value) (n : Nat) (ys : List Rv) (hx : a.eval x = v) (hown : w.ownsRow base 75 3 v n (ys.flatMap rc)) (p : Option Addr) (m c : Nat) (zs : List Rv) (hy : a.eval y = .slice p m c) (hm : zs.length = m) (hr : RK rc w p c zs) (hl : n + m ≤ 100000) (hB : base ≤ w.heap.size)
    (h : ∀ v' w', w'.ownsRow base 75 3 v' (n + m) ((ys ++ zs).flatMap rc) → w.grownBy w' v.ownBlock → (∀ k, v'.ownBlock = some k → v.ownBlock = some k ∨ w.heap.size ≤ k) → wpList Try.prog ops Q rest (a.put o.dst v') w') : wpList Try.prog ops Q (o :: rest) a w := by
  obtain ⟨i, h1, h2, h3, h4⟩ := info_rec
  cases p with
  | none =>
    have hc := hr.2.2.1 rfl
    have h5 := hr.1
    subst hc
    have hz0 : zs = [] := List.eq_nil_of_length_eq_zero (by omega)
    subst hz0
    have hm0 : m = 0 := by simpa using hm.symm
    subst hm0
    exact wpList_append_own_none hgd x y _ ho base _ i 3 Try.underlying30 h1 v n _ hx hown hy (h v w (by simpa using hown) (World.grownBy.refl _ _) (fun _ hk => .inl hk))
  | some ad =>
    refine wpList_plain hgd fun K hK => ?_
    obtain ⟨v', w', hrun, k2, k3, k4⟩ := run_append_where (P := Try.prog) w base 30 o.type 75 i _ 3 40 Try.underlying30 h1 h2 h3 h4 (by rfl) (by decide) v n _ hown ad m c (zs.flatMap rc) (by rw [len_flat rc_len, hm]) (fun j u hu => by
        have hl : 0 < zs.length := by
          rcases Nat.eq_zero_or_pos zs.length with q | q
          · obtain rfl := List.eq_nil_of_length_eq_zero q; simp at hu
          · exact q
        obtain ⟨b', o', e', _, hc⟩ := hr.2.2.2 hl
        simp only [Option.some.injEq] at e'
        subst e'
        rw [Addr.add_lit]
        exact hc j u hu) (fun u hu => by
        obtain ⟨y, _, hy⟩ := List.mem_flatMap.1 hu
        exact rc_one y u hy) (by unfold maxLen; omega) (by omega) hB
    unfold Oper.wp execOp
    simp only [ho, resolve, invoke, builtin, Sem.run_bind, Sem.run_pure, Result.andThen_ok, List.map_toArray, List.map_cons, List.map_nil, hx, hy, hrun]
    exact hK _ _ (h v' w' (by rw [List.flatMap_append]; exact k2) k3 k4)
end
/-- How long a slice is. -/
def lenV : Value → Nat
  | .slice _ n _ => n
  | _ => 0
theorem run_bytes {ep : Nat} : ∀ (f nx : Nat) (l : List Sec), (∀ s ∈ l, BS s) → ∀ g ∈ run ep f nx l, (∀ c ∈ g.p, Byte c) ∧ g.p.length ≤ 700
  | 0, _, _, _, g, h => by cases h
  | f + 1, nx, l, hl, g, h => by
    unfold run at h
    split at h
    · rename_i hr
      rcases List.mem_cons.1 h with rfl | h
      · refine ⟨?_, (rights_fits hr).2.2.2.2.2.2⟩
        unfold got
        split
        · exact (fields_lt (flat_bytes hl)).2.2.2
        · intro c hc; cases hc
      · exact run_bytes f _ _ (fun s hs => hl s (List.mem_of_mem_drop hs)) g h
    · cases h
theorem got_bytes {l : List Sec} (hl : ∀ s ∈ l, BS s) : ∀ c ∈ (got l).p, Byte c := by
  unfold got
  split
  · exact (fields_lt (flat_bytes hl)).2.2.2
  · intro c hc; cases hc
theorem got_nums {l : List Sec} (hl : ∀ s ∈ l, BS s) : (got l).s < 18446744073709551616 ∧ (got l).e < 4294967296 := by
  have h := fields_lt (flat_bytes hl)
  unfold got
  split
  · exact ⟨h.2.1, h.2.2.1⟩
  · exact ⟨by decide, by decide⟩
theorem Pays.mono {T T' : Nat → Prop} {w : World} {rs : List Rv} (h : Pays T w rs) (hT : ∀ k, T' k → T k) : Pays T' w rs := fun r hr => ⟨(h r hr).1, (h r hr).2.1, fun hz a ha q => (h r hr).2.2.1 hz a ha (hT _ q), (h r hr).2.2.2⟩
theorem off_fresh {T : Nat → Prop} {q : Option Addr} {n b : Nat} (h : ∀ a, q = some a → b ≤ a.block) (hT : ∀ k, T k → k < b) : Off T q n := fun _ a ha hk => Nat.lt_irrefl _ (Nat.lt_of_lt_of_le (hT _ hk) (h a ha))
/-- Their payloads lie in no older block. -/
def Fresh (B : Nat) (rs : List Rv) : Prop := ∀ r ∈ rs, ∀ a, r.q = some a → B ≤ a.block
theorem Fresh.lower {B B' : Nat} {rs : List Rv} (h : Fresh B rs) (hB : B' ≤ B) : Fresh B' rs := fun r hr a ha => Nat.le_trans hB (h r hr a ha)
theorem Fresh.app {B : Nat} {rs zs : List Rv} (h : Fresh B rs) (h' : Fresh B zs) : Fresh B (rs ++ zs) := fun r hr => by
  rcases List.mem_append.1 hr with hr | hr
  · exact h r hr
  · exact h' r hr
/-- Of such records: their cells in a row, and their payloads. -/
def Rows (w : World) (B : Nat) (v : Value) (rs : List Rv) : Prop := w.ownsRow B 75 3 v rs.length (rs.flatMap rc) ∧ Pays (ownOf v) w rs ∧ Fresh B rs
theorem rows_nil (w : World) (B : Nat) : Rows w B (.slice none 0 0) [] := ⟨⟨rfl, .inl ⟨rfl, rfl⟩⟩, Pays.nil _ _, fun _ h => by cases h⟩
theorem Rows.below {w w' : World} {B : Nat} {v : Value} {rs : List Rv} (h : Rows w B v rs) (hb : Below w.heap.size w w') : Rows w' B v rs := ⟨Disk.own_below h.1 hb, h.2.1.below hb, h.2.2⟩
theorem Rows.lt {w : World} {B : Nat} {v : Value} {rs : List Rv} (h : Rows w B v rs) : ∀ k, ownOf v k → B ≤ k ∧ k < w.heap.size := fun k hk => h.1.lt k hk
/-- Some more of them. -/
theorem Rows.more {w w0 w' : World} {B m : Nat} {v v' : Value} {rs zs : List Rv} (h : Rows w B v rs) (hb : Below w.heap.size w w0) (hz : Pays (ownOf v) w0 zs) (hf : Fresh B zs) (hm : zs.length = m) (ho : w'.ownsRow B 75 3 v' (rs.length + m) ((rs ++ zs).flatMap rc)) (hg : w0.grownBy w' v.ownBlock) (hl : ∀ k, v'.ownBlock = some k → v.ownBlock = some k ∨ w0.heap.size ≤ k) : Rows w' B v' (rs ++ zs) := by
  have hF : Fr (ownOf v) w0 w' := Fr.of_grown hg fun k hk => hk
  refine ⟨by rw [List.length_append, hm]; exact ho, ?_, h.2.2.app hf⟩
  have hp := (h.2.1.below hb).app hz
  have hp2 := hp.fr hF
  exact fun r hr => ⟨(hp2 r hr).1, (hp2 r hr).2.1, reads_off (hp r hr).1 (hp r hr).2.2.1 hl, (hp2 r hr).2.2.2⟩
end Go.Proofs.Ythgafnommcodcaa.Wal
