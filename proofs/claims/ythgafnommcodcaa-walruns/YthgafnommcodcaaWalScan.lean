/-
  Scan: the records of a log, segment by segment.
-/
import Derived.Test.YthgafnommcodcaaWalSeg
/-
  Records in memory; the records that a segment's sectors begin with.
-/
namespace Go.Proofs.Ythgafnommcodcaa.Wal
open Go.RowKit Go.Proofs.Ythgafnommcodcaa.Mem Go.Proofs.Ythgafnommcodcaa.Sect Go.Proofs.Ythgafnommcodcaa.Frame Go.Proofs.Ythgafnommcodcaa.Disk Go.Proofs.Ythgafnommcodcaa.Area
set_option maxRecDepth 100000

/-- A record in memory: what is told of it, and where its payload lies. -/
structure Rv where
  g : Got
  q : Option Addr
  d : Nat
def rc (r : Rv) : List Value := [.int .u64 (r.g.s : Int), .int .u32 (r.g.e : Int), .slice r.q r.g.p.length r.d]
theorem rc_len (r : Rv) : (rc r).length = 3 := rfl
theorem rc_one (r : Rv) : ∀ v ∈ rc r, v.oneCell' = true := by
  intro v hv
  simp only [rc, List.mem_cons, List.not_mem_nil, or_false] at hv
  rcases hv with rfl | rfl | rfl <;> rfl
/-- Their payloads lie there, outside of the blocks of T. -/
def Pays (T : Nat → Prop) (w : World) (rs : List Rv) : Prop := ∀ r ∈ rs, Reads .u8 w r.q r.d r.g.p ∧ (∀ c ∈ r.g.p, Byte c) ∧ Off T r.q r.g.p.length ∧ r.g.p.length ≤ 700
section
variable {T T' : Nat → Prop} {w w' : World} {rs : List Rv}
theorem Pays.nil (T : Nat → Prop) (w : World) : Pays T w [] := fun _ h => by cases h
theorem Pays.below (h : Pays T w rs) (hb : Below w.heap.size w w') : Pays T w' rs := fun r hr => ⟨(h r hr).1.below hb, (h r hr).2⟩
theorem Pays.drew (h : Pays T w rs) : Pays T w.drew rs := h.below (Below.refl _ _).drew
theorem reads_fr {k : IntKind} {p : Option Addr} {cap : Nat} {zs : List Int} (h : Reads k w p cap zs) (ho : Off T p zs.length) (hF : Fr T w w') : Reads k w' p cap zs := by
  obtain ⟨h1, h2, h3, h4⟩ := h
  refine ⟨h1, h2, h3, fun hz => ?_⟩
  obtain ⟨b, o, e, hlt, hc⟩ := h4 hz
  exact ⟨b, o, e, Nat.lt_of_lt_of_le hlt hF.size, fun j hj => (World.cell?_of_block (w := w) (hF.2.2.2.2 b hlt (ho hz _ e))).trans (hc j hj)⟩
theorem Pays.fr (h : Pays T w rs) (hF : Fr T w w') : Pays T w' rs := fun r hr => ⟨reads_fr (h r hr).1 (h r hr).2.2.1 hF, (h r hr).2⟩
theorem reads_off {k : IntKind} {p : Option Addr} {cap : Nat} {zs : List Int} (h : Reads k w p cap zs) (ho : Off T p zs.length) (hT : ∀ k, T' k → T k ∨ w.heap.size ≤ k) : Off T' p zs.length := fun hz a ha q => by
  obtain ⟨b, o, e, hlt, _⟩ := h.2.2.2 hz
  rw [ha] at e
  obtain rfl := Option.some.inj e
  rcases hT _ q with q | q
  · exact ho hz _ ha q
  · exact absurd hlt (Nat.not_lt.2 q)
theorem Pays.more (h : Pays T w rs) (hT : ∀ k, T' k → T k ∨ w.heap.size ≤ k) : Pays T' w rs := fun r hr => ⟨(h r hr).1, (h r hr).2.1, reads_off (h r hr).1 (h r hr).2.2.1 hT, (h r hr).2.2.2⟩
theorem Pays.snoc (h : Pays T w rs) {r : Rv} (h1 : Reads .u8 w r.q r.d r.g.p) (h2 : ∀ c ∈ r.g.p, Byte c) (h3 : Off T r.q r.g.p.length) (h4 : r.g.p.length ≤ 700) : Pays T w (rs ++ [r]) := fun x hx => by
  rcases List.mem_append.1 hx with hx | hx
  · exact h x hx
  · rw [List.mem_singleton] at hx
    subst hx
    exact ⟨h1, h2, h3, h4⟩
theorem Pays.app {rs' : List Rv} (h : Pays T w rs) (h' : Pays T w rs') : Pays T w (rs ++ rs') := fun x hx => by
  rcases List.mem_append.1 hx with hx | hx
  · exact h x hx
  · exact h' x hx
end
/-- The block of a row that one has built. -/
def ownOf (v : Value) (k : Nat) : Prop := v.ownBlock = some k
theorem info_rec : ∃ i, Try.prog.info? 75 = some i ∧ i.zero = some (.agg #[.int .u64 0, .int .u32 0, .slice none 0 0]) ∧ i.size = 3 ∧ i.bytes = 40 := by
  have h : (Try.prog.info? 75).map (fun i => (i.zero, i.size, i.bytes)) = some (some (.agg #[.int .u64 0, .int .u32 0, .slice none 0 0]), 3, 40) := by kernel_rfl
  obtain ⟨i, h1, h2⟩ := Option.map_eq_some_iff.1 h
  simp only [Prod.mk.injEq] at h2
  exact ⟨i, h1, h2⟩
section
variable {o : Oper} {a : Act} {w : World} {ops : Array Oper} {rest : List Oper} {Q : Exit → Act → World → Prop}
/-- An append of records to what one has built. -/
theorem at_append_rec (hgd : o.guard = none) (x y : Operand) (ho : o.op = .call { callee := .builtin .append, args := #[x, y], argTypes := #[30, 30] })
    (base : Nat) (v : Value) (n : Nat) (ys : List Rv) (hx : a.eval x = v) (hown : w.ownsRow base 75 3 v n (ys.flatMap rc)) (p : Option Addr) (m c : Nat) (zs : List Rv) (hy : a.eval y = .slice p m c) (hm : zs.length = m) (hr : RK rc w p c zs) (hl : n + m ≤ 100000) (hB : base ≤ w.heap.size)
    (h : ∀ v' w', w'.ownsRow base 75 3 v' (n + m) ((ys ++ zs).flatMap rc) → w.grownBy w' v.ownBlock → (∀ k, v'.ownBlock = some k → v.ownBlock = some k ∨ w.heap.size ≤ k) → wpList Try.prog ops Q rest (a.put o.dst v') w') : wpList Try.prog ops Q (o :: rest) a w := by
  obtain ⟨i, h1, h2, h3, h4⟩ := info_rec
  cases p with
  | none =>
    have hc := hr.2.2.1 rfl
    have h5 := hr.1
    subst hc
    have hz0 : zs = [] := List.eq_nil_of_length_eq_zero (by omega)
    subst hz0
    have hm0 : m = 0 := by simpa using hm.symm
    subst hm0
    exact wpList_append_own_none hgd x y _ ho base _ i 3 Try.underlying30 h1 v n _ hx hown hy (h v w (by simpa using hown) (World.grownBy.refl _ _) (fun _ hk => .inl hk))
  | some ad =>
    refine wpList_plain hgd fun K hK => ?_
    obtain ⟨v', w', hrun, k2, k3, k4⟩ := run_append_where (P := Try.prog) w base 30 o.type 75 i _ 3 40 Try.underlying30 h1 h2 h3 h4 (by rfl) (by decide) v n _ hown ad m c (zs.flatMap rc) (by rw [len_flat rc_len, hm]) (fun j u hu => by
        have hl : 0 < zs.length := by
          rcases Nat.eq_zero_or_pos zs.length with q | q
          · obtain rfl := List.eq_nil_of_length_eq_zero q; simp at hu
          · exact q
        obtain ⟨b', o', e', _, hc⟩ := hr.2.2.2 hl
        simp only [Option.some.injEq] at e'
        subst e'
        rw [Addr.add_lit]
        exact hc j u hu) (fun u hu => by
        obtain ⟨y, _, hy⟩ := List.mem_flatMap.1 hu
        exact rc_one y u hy) (by unfold maxLen; omega) (by omega) hB
    unfold Oper.wp execOp
    simp only [ho, resolve, invoke, builtin, Sem.run_bind, Sem.run_pure, Result.andThen_ok, List.map_toArray, List.map_cons, List.map_nil, hx, hy, hrun]
    exact hK _ _ (h v' w' (by rw [List.flatMap_append]; exact k2) k3 k4)
end
/-- How long a slice is. -/
def lenV : Value → Nat
  | .slice _ n _ => n
  | _ => 0
theorem run_bytes {ep : Nat} : ∀ (f nx : Nat) (l : List Sec), (∀ s ∈ l, BS s) → ∀ g ∈ run ep f nx l, (∀ c ∈ g.p, Byte c) ∧ g.p.length ≤ 700
  | 0, _, _, _, g, h => by cases h
  | f + 1, nx, l, hl, g, h => by
    unfold run at h
    split at h
    · rename_i hr
      rcases List.mem_cons.1 h with rfl | h
      · refine ⟨?_, (rights_fits hr).2.2.2.2.2.2⟩
        unfold got
        split
        · exact (fields_lt (flat_bytes hl)).2.2.2
        · intro c hc; cases hc
      · exact run_bytes f _ _ (fun s hs => hl s (List.mem_of_mem_drop hs)) g h
    · cases h
theorem got_bytes {l : List Sec} (hl : ∀ s ∈ l, BS s) : ∀ c ∈ (got l).p, Byte c := by
  unfold got
  split
  · exact (fields_lt (flat_bytes hl)).2.2.2
  · intro c hc; cases hc
theorem got_nums {l : List Sec} (hl : ∀ s ∈ l, BS s) : (got l).s < 18446744073709551616 ∧ (got l).e < 4294967296 := by
  have h := fields_lt (flat_bytes hl)
  unfold got
  split
  · exact ⟨h.2.1, h.2.2.1⟩
  · exact ⟨by decide, by decide⟩
theorem Pays.mono {T T' : Nat → Prop} {w : World} {rs : List Rv} (h : Pays T w rs) (hT : ∀ k, T' k → T k) : Pays T' w rs := fun r hr => ⟨(h r hr).1, (h r hr).2.1, fun hz a ha q => (h r hr).2.2.1 hz a ha (hT _ q), (h r hr).2.2.2⟩
theorem off_fresh {T : Nat → Prop} {q : Option Addr} {n b : Nat} (h : ∀ a, q = some a → b ≤ a.block) (hT : ∀ k, T k → k < b) : Off T q n := fun _ a ha hk => Nat.lt_irrefl _ (Nat.lt_of_lt_of_le (hT _ hk) (h a ha))
/-- Their payloads lie in no older block. -/
def Fresh (B : Nat) (rs : List Rv) : Prop := ∀ r ∈ rs, ∀ a, r.q = some a → B ≤ a.block
theorem Fresh.lower {B B' : Nat} {rs : List Rv} (h : Fresh B rs) (hB : B' ≤ B) : Fresh B' rs := fun r hr a ha => Nat.le_trans hB (h r hr a ha)
theorem Fresh.app {B : Nat} {rs zs : List Rv} (h : Fresh B rs) (h' : Fresh B zs) : Fresh B (rs ++ zs) := fun r hr => by
  rcases List.mem_append.1 hr with hr | hr
  · exact h r hr
  · exact h' r hr
/-- Of such records: their cells in a row, and their payloads. -/
def Rows (w : World) (B : Nat) (v : Value) (rs : List Rv) : Prop := w.ownsRow B 75 3 v rs.length (rs.flatMap rc) ∧ Pays (ownOf v) w rs ∧ Fresh B rs
theorem rows_nil (w : World) (B : Nat) : Rows w B (.slice none 0 0) [] := ⟨⟨rfl, .inl ⟨rfl, rfl⟩⟩, Pays.nil _ _, fun _ h => by cases h⟩
theorem Rows.below {w w' : World} {B : Nat} {v : Value} {rs : List Rv} (h : Rows w B v rs) (hb : Below w.heap.size w w') : Rows w' B v rs := ⟨Disk.own_below h.1 hb, h.2.1.below hb, h.2.2⟩
theorem Rows.lt {w : World} {B : Nat} {v : Value} {rs : List Rv} (h : Rows w B v rs) : ∀ k, ownOf v k → B ≤ k ∧ k < w.heap.size := fun k hk => h.1.lt k hk
/-- Some more of them. -/
theorem Rows.more {w w0 w' : World} {B m : Nat} {v v' : Value} {rs zs : List Rv} (h : Rows w B v rs) (hb : Below w.heap.size w w0) (hz : Pays (ownOf v) w0 zs) (hf : Fresh B zs) (hm : zs.length = m) (ho : w'.ownsRow B 75 3 v' (rs.length + m) ((rs ++ zs).flatMap rc)) (hg : w0.grownBy w' v.ownBlock) (hl : ∀ k, v'.ownBlock = some k → v.ownBlock = some k ∨ w0.heap.size ≤ k) : Rows w' B v' (rs ++ zs) := by
  have hF : Fr (ownOf v) w0 w' := Fr.of_grown hg fun k hk => hk
  refine ⟨by rw [List.length_append, hm]; exact ho, ?_, h.2.2.app hf⟩
  have hp := (h.2.1.below hb).app hz
  have hp2 := hp.fr hF
  exact fun r hr => ⟨(hp2 r hr).1, (hp2 r hr).2.1, reads_off (hp r hr).1 (hp r hr).2.2.1 hl, (hp2 r hr).2.2.2⟩
end Go.Proofs.Ythgafnommcodcaa.Wal
/-
  The records that a segment's sectors begin with.
-/
namespace Go.Proofs.Ythgafnommcodcaa.Wal
open Go.RowKit Go.Proofs.Ythgafnommcodcaa.Mem Go.Proofs.Ythgafnommcodcaa.Sect Go.Proofs.Ythgafnommcodcaa.Frame Go.Proofs.Ythgafnommcodcaa.Disk Go.Proofs.Ythgafnommcodcaa.Area
set_option maxRecDepth 100000

theorem run_from_s (w : World) (p : Option Addr) (n cap l : Nat) (hl : l ≤ n) :
    (Instr.slice 36 (.slice p n cap) (some (.int .i64 (l : Int))) none none).run Try.prog w = .ok (.slice (cutK 64 p cap l) (n - l) (cap - l)) w := by
  have ht : Try.prog.underlying 36 = some (.slice (Try.prog.elem 36)) := by simp [Program.elem, Try.underlying36]
  have he : Try.prog.elem 36 = 70 := by simp [Program.elem, Try.underlying36]
  rw [run_slice_l w 36 p n cap ht .i64 (l : Int) (by omega) (by omega), he, Try.sizeOf70]
  simp [Result.andThen, sliced, cutK]
set_option maxHeartbeats 2000000 in
theorem wal_run (q : Option Addr) (c m : Nat) (l : List Sec) (hm : l.length = m) (hm16 : m ≤ 16) (hb : ∀ s ∈ l, BS s) (ep nx : Nat) (hep : ep < 4294967296) (hnx : nx < 18446744073709551616) (w : World) (r : RK sc w q c l) :
    Calls Try.prog 37 #[.slice q m c, .int .u32 (ep : Int), .int .u64 (nx : Int)] w fun e w' => ∃ v rs, e = .returned v ∧ Rows w' w.heap.size v rs ∧ rs.map (·.g) = run ep 17 nx l ∧ Below w.heap.size w w' := by
  go_enter Try.func37, Try.ntmps37
  go_wp2
  go_loopw [0, 2, 7] (fun s0 s2 s7 wr => ∃ (p : Option Addr) (k c : Nat) (ys : List Sec) (nx' f : Nat) (rs : List Rv) (p7 : Option Addr) (c7 : Nat), s0 = .slice p k c ∧ s2 = .int .u64 (nx' : Int) ∧ s7 = .slice p7 rs.length c7 ∧ ys.length = k ∧ Hid (k < f ∧ rs.length + k ≤ 16) ∧ nx' < 18446744073709551616 ∧ (∀ s ∈ ys, BS s) ∧ RK sc w p c ys ∧ Rows wr w.heap.size (.slice p7 rs.length c7) rs ∧ Hid (run ep 17 nx l = rs.map (·.g) ++ run ep f nx' ys) ∧ Below w.heap.size w wr) (fun s0 _ _ _ => lenV s0)
  case atStart => exact ⟨q, m, c, l, nx, 17, [], none, 0, rfl, rfl, rfl, hm, ⟨by omega, by simpa using hm16⟩, hnx, hb, r, rows_nil _ _, rfl, Below.refl _ _⟩
  case round =>
    obtain ⟨p, k, c, ys, nx', f, rs, p7, c7, rfl, rfl, rfl, hk, hkf, hnx', hbs, rr, hR, HW, hB⟩ := hrel
    have hkf1 := hkf.out
    have hO := frame_Open p k c ys hk (by omega) hbs wr (rr.below hB)
    have hgb := got_bytes hbs
    have hgf := fun h => rights_fits (l := ys) (ep := ep) (nx := nx') h
    cases hr : rights ys ep nx' with
    | false =>
      have hend := run_none hr f
      obtain ⟨⟨ok, N, s, e, P⟩, hG⟩ : ∃ G, got ys = G := ⟨_, rfl⟩
      unfold rights at hr
      rw [hG] at hO hr
      simp only at hr
      unfold told at hO
      simp only at hO
      have HW2 : Hid (run ep 17 nx l = rs.map (·.g)) := by
        unfold Hid
        rw [HW.out, hend, List.append_nil]
      clear hG hgb hgf hend HW hkf hkf1
      have hcs : ok = false ∨ (ok = true ∧ ((e : Int) != (ep : Int)) = true) ∨ (ok = true ∧ ((e : Int) != (ep : Int)) = false ∧ ((s : Int) != (nx' : Int)) = true) := by
        cases ok with
        | false => exact .inl rfl
        | true =>
          by_cases h1 : e = ep
          · refine .inr (.inr ⟨rfl, by simp [h1], ?_⟩)
            simp only [Bool.true_and, Bool.and_eq_false_iff, decide_eq_false_iff_not] at hr
            rw [bne_iff_ne]
            intro h2
            rcases hr with hr | hr <;> omega
          · exact .inr (.inl ⟨rfl, by rw [bne_iff_ne]; omega⟩)
      clear hr
      rcases hcs with rfl | ⟨rfl, h1⟩ | ⟨rfl, h1, h2⟩
      all_goals
        go_wp2_with (first
          | ((with_reducible refine hO.mono ?_); rintro e w2 ⟨q2, d2, rfl, rP, hB2, hn2⟩; have Y2 := Blk.new w2 #[.int .u64 0, .int .u32 0, .slice none 0 0] 75)
          | (refine at_store_rec _ _ _ _ _ _ _ (by rfl) (by rfl) (by rfl) Y2 rfl ⟨rfl, rfl, rfl⟩ (by rfl) ?_; intro W3 Y3 G3; have k3 := Y3.cell))
        have hBB : Below wr.heap.size wr W3 := (bnext hB2 (bnew w2 (.cells #[.int .u64 0, .int .u32 0, .slice none 0 0] 75))).grown G3 (by have := hB2.size; simp; omega) (by have := hB2.size; simp; omega)
        go_ret
        exact ⟨_, rs, rfl, hR.below hBB, HW2.out.symm, bnext hB hBB⟩
    | true =>
      obtain ⟨f, rfl⟩ : ∃ g, f = g + 1 := ⟨f - 1, by omega⟩
      have hmore := run_some hr f
      obtain ⟨f1, f2, f3, f4, f5, f6, f7⟩ := hgf hr
      obtain ⟨⟨ok, N, s, e, P⟩, hG⟩ : ∃ G, got ys = G := ⟨_, rfl⟩
      rw [hG] at hO hmore f1 f2 f3 f4 f5 f7 hgb
      simp only at f1 f2 f3 f4 f5 f7 hgb hmore
      subst f3 f4 f5
      rw [hk] at f2
      unfold told at hO
      simp only at hO
      have hcut := fun w => run_from_s w p k c N f2
      have hdl : (ys.drop N).length = k - N := by rw [List.length_drop, hk]
      have hrd := RK.cut sc_len rr N (by omega)
      have hmw := wrap_more s
      have HW2 : Hid (∀ (q : Option Addr) (d : Nat), run e 17 nx l = (rs ++ [(⟨⟨true, N, s, e, P⟩, q, d⟩ : Rv)]).map (·.g) ++ run e f (more s) (ys.drop N)) := by
        intro q d
        rw [HW.out, hmore]
        simp
      have hmw2 := more_lt s
      have HF : Hid (k - N < f ∧ rs.length + 1 + (k - N) ≤ 16) := ⟨by omega, by omega⟩
      have hbs2 : ∀ x ∈ ys.drop N, BS x := fun x hx => hbs x (List.mem_of_mem_drop hx)
      have hrl : rs.length ≤ 16 := by omega
      clear hG hgf hmore HW hkf hkf1 hr f6
      go_wp2_with (first
        | ((with_reducible refine hO.mono ?_); rintro e w2 ⟨q2, d2, rfl, rP, hB2, hn2⟩; have Y2 := Blk.new w2 #[.int .u64 0, .int .u32 0, .slice none 0 0] 75; have hB2a := bnext hB2 (bnew w2 (.cells #[.int .u64 0, .int .u32 0, .slice none 0 0] 75)); have hsz := hB2.size)
        | (refine at_store_rec _ _ _ _ _ _ _ (by rfl) (by rfl) (by rfl) Y2 rfl ⟨rfl, rfl, rfl⟩ (by rfl) ?_; intro W3 Y3 G3; have k3 := Y3.cell; have hB3 : Below wr.heap.size wr W3 := hB2a.grown G3 hB2a.size (by simp; omega); have rP3 := (rP.alloc (.cells #[.int .u64 0, .int .u32 0, .slice none 0 0] 75)).kept G3 (fun h0 => rP.apart (Nat.le_refl _) h0))
        | (at_builtin; refine at_append_rec rfl _ _ rfl w.heap.size (.slice p7 rs.length c7) rs.length rs rfl ((hR.below hB3).below (bnew W3 (.cells #[.int .u64 (s : Int), .int .u32 (e : Int), .slice q2 P.length d2] 75))).1 (some ⟨W3.heap.size, 0, none⟩) 1 1 [⟨⟨true, N, s, e, P⟩, q2, d2⟩] rfl rfl (lit_rk rfl) (by omega) (by have := hB.size; have := hB3.size; simp; omega) ?_; intro v5 w5 ho5 hg5 hl5))
      have hB4 : Below wr.heap.size wr (W3.alloc (.cells #[.int .u64 (s : Int), .int .u32 (e : Int), .slice q2 P.length d2] 75)) := bnext hB3 (bnew W3 _)
      have hPz : Pays (ownOf (.slice p7 rs.length c7)) (W3.alloc (.cells #[.int .u64 (s : Int), .int .u32 (e : Int), .slice q2 P.length d2] 75)) [⟨⟨true, N, s, e, P⟩, q2, d2⟩] := (Pays.nil _ _).snoc (rs := []) (rP3.alloc _) hgb (off_fresh hn2 fun k hk => (hR.lt k hk).2) f7
      have hR5 := hR.more hB4 hPz (fun r hr a ha => by rw [List.mem_singleton] at hr; subst hr; exact Nat.le_trans hB.size (hn2 a ha)) rfl ho5 hg5 hl5
      obtain ⟨p9, c9, rfl, -, -⟩ := own_rk rc_len (by decide) hR5.1
      refine ⟨⟨cutK 64 p c N, k - N, c - N, ys.drop N, more s, f, rs ++ [⟨⟨true, N, s, e, P⟩, q2, d2⟩], p9, c9, rfl, rfl, rfl, hdl, ⟨HF.1, by simpa using HF.2⟩, hmw2, hbs2, hrd, hR5, by unfold Hid; exact HW2.out q2 d2, ?_⟩, by show k - N < k; omega⟩
      refine (bnext hB hB4).grown hg5 (bnext hB hB4).size fun j hj => ?_
      exact (hR.lt j hj).1
end Go.Proofs.Ythgafnommcodcaa.Wal
namespace Go.Proofs.Ythgafnommcodcaa.Wal
open Go.RowKit Go.Proofs.Ythgafnommcodcaa.Mem Go.Proofs.Ythgafnommcodcaa.Sect Go.Proofs.Ythgafnommcodcaa.Frame Go.Proofs.Ythgafnommcodcaa.Disk Go.Proofs.Ythgafnommcodcaa.Area
set_option maxRecDepth 100000

theorem can_of_chk {n k s : Nat} (h : chk (n : Int) (k : Int) s = 0) : Can n (segsN n) k 0 0 ∧ s ≠ 0 := by
  unfold chk at h
  split at h
  · rename_i ht
    obtain ⟨⟨h1, h2⟩, h3, h4⟩ := there_iff.1 ht
    refine ⟨⟨by omega, by omega, rfl, by unfold segsN; omega, by unfold segsN; omega, by omega⟩, ?_⟩
    intro h0
    rw [if_pos h0] at h
    omega
  · omega
theorem chk_nat {n s : Nat} {k : Int} (h : chk (n : Int) k s = 0) : ∃ m : Nat, k = (m : Int) := by
  unfold chk at h
  split at h
  · rename_i ht
    obtain ⟨_, h3, _⟩ := there_iff.1 ht
    exact ⟨k.toNat, by omega⟩
  · omega
/-- What a scan gives back: the records, and a segment. -/
def Found (w w' : World) (e : Ending) (gs : List Got) (k : Nat) : Prop := ∃ v rs, e = .returned (.tuple #[v, .int .i64 (k : Int), .int .i64 0]) ∧ Rows w' w.heap.size v rs ∧ rs.map (·.g) = gs ∧ Below w.heap.size w w'
section
variable {S0 : Nat → Prop} {B g : Nat} {w : World} {d : Dsk}
theorem wal_Scan_no (h : Dk B S0 w g d) (ep s : Nat) (k : Int) {E : Int} (hE : chk d.st.length k s = E) (hE0 : E ≠ 0) :
    Calls Try.prog 10 #[.pointer (some ⟨g, 0, none⟩), .int .u32 (ep : Int), .int .u64 (s : Int), .int .i64 k] w fun e w' => e = .returned (.tuple #[.slice none 0 0, .int .i64 0, .int .i64 E]) ∧ w' = w := by
  have hc := wal_check h s k
  rw [hE] at hc
  have hb : (E != 0) = true := by simp [hE0]
  clear hE hE0
  go_enter Try.func10, Try.ntmps10
  go_wp2_with (first
    | ((with_reducible refine hc.mono ?_); rintro e w1 ⟨rfl, hw⟩; rw [hw]; clear hw))
  go_ret3
  exact ⟨rfl, rfl⟩
set_option maxHeartbeats 2000000 in
theorem wal_Scan (h : Dk B S0 w g d) (hd : d.ok) (hby : Byt d) (ep s st : Nat) (hep : ep < 4294967296) (hs : s < 18446744073709551616) (hE : chk d.st.length st s = 0) {S : Nat} (hS : S = segsN d.st.length) :
    Calls Try.prog 10 #[.pointer (some ⟨g, 0, none⟩), .int .u32 (ep : Int), .int .u64 (s : Int), .int .i64 (st : Int)] w fun e w' => Found w w' e (pscan (vis d S st) S ep s).1 (segOf S st (pscan (vis d S st) S ep s).2) := by
  have hck := wal_check h s st
  rw [hE] at hck
  obtain ⟨hc, -⟩ := can_of_chk hE
  rw [← hS] at hc
  have hS2 := hc.two
  have hst := hc.2.2.2.1
  have hl := fun {W : World} (hW : Below w.heap.size w W) => len_any (h.below hW)
  obtain ⟨hn1, hE1⟩ := hc.segs
  have hsg := fun W => area_Segs (d.st.length : Int) W
  simp only [hn1, hE1] at hsg
  have hnx := fun (i : Nat) W => area_Next (d.st.length : Int) (segOf S st i : Int) W
  simp only [(hc.next _).1, (hc.next _).2] at hnx
  have hseg := fun {W : World} (hW : Below w.heap.size w W) (i : Nat) => wal_segment (h.below hW) hd hc i
  have hvb := byt_view hby S st
  have hvl := fun i => view_len (vis d S st) i 0
  have hfst := seg_first hst
  have HP : Hid (pscan (vis d S st) S ep s = (([] : List Rv).map (·.g) ++ (cont (vis d S st) S ep (16 * S + 17) s 0).1, (cont (vis d S st) S ep (16 * S + 17) s 0).2)) := rfl
  generalize hV : vis d S st = V at *
  generalize pscan V S ep s = T at *
  obtain ⟨T1, T2⟩ := T
  clear hn1 hE1 hE hc hby hS hV
  go_enter Try.func10, Try.ntmps10
  go_wp2_with (first
    | ((with_reducible refine hck.mono ?_); rintro e w1 ⟨rfl, hw⟩; rw [hw]; clear hw)
    | ((with_reducible refine (hl (Below.refl _ _)).mono ?_); rintro e w1 ⟨rfl, hw⟩; rw [hw]; clear hw)
    | ((with_reducible refine (hsg _).mono ?_); rintro e w1 ⟨rfl, hw⟩; rw [hw]; clear hw))
  clear hck hsg
  go_loopw [2, 12, 15, 16, 34] (fun s2 s12 s15 s16 s34 wr => ∃ (i nx f : Nat) (rs : List Rv) (p7 : Option Addr) (c7 : Nat), i ≤ S ∧ s2 = .int .u64 (nx : Int) ∧ s12 = .slice p7 rs.length c7 ∧ s15 = .int .i64 (segOf S st (i - 1) : Int) ∧ s16 = .int .i64 (segOf S st i : Int) ∧ s34 = .int .i64 (i : Int) ∧ nx < 18446744073709551616 ∧ Hid (16 * (S - i) + 17 ≤ f) ∧ Hid (rs.length ≤ 16 * i) ∧ Rows wr w.heap.size (.slice p7 rs.length c7) rs ∧ Hid ((T1, T2) = (rs.map (·.g) ++ (cont V S ep f nx i).1, (cont V S ep f nx i).2)) ∧ Below w.heap.size w wr) (fun _ _ _ _ s34 _ => S - (intOf s34).toNat)
  case atStart => exact ⟨0, s, 16 * S + 17, [], none, 0, by omega, rfl, rfl, by rw [hfst], by rw [hfst], rfl, hs, by unfold Hid; omega, by unfold Hid; simp, rows_nil _ _, HP, Below.refl _ _⟩
  case round =>
    obtain ⟨i, nx, f, rs, p7, c7, hi, rfl, rfl, rfl, rfl, rfl, hnx2, HF, HL, hR, HW, hB⟩ := hrel
    by_cases hlt : i < S
    · have hlt2 : decide ((i : Int) < (S : Int)) = true := by simp; omega
      have hrun := fun q c W r => wal_run q c 16 (view V i 0) (hvl i) (by omega) (hvb i 0) ep nx hep hnx2 W r
      have hl16 := run_len (rd := V) (ep := ep) (j := i) hnx2
      have hcn := fun h => cont_none (rd := V) (S := S) (ep := ep) (nx := nx) (j := i) (run_empty.1 h) f
      have hcs := fun h => cont_step (rd := V) (S := S) (ep := ep) (j := i) hnx2 hlt h (show 17 ≤ f by have := HF.out; omega)
      generalize run ep 17 nx (view V i 0) = R at *
      have hRl : Hid (R.length ≤ 16) := hl16
      have hlim := HL.out
      by_cases hemp : R = []
      · have HW2 := HW.out
        rw [hcn hemp, List.append_nil] at HW2
        simp only [Prod.mk.injEq] at HW2
        obtain ⟨e1, e2⟩ := HW2
        subst e1 e2 hemp
        clear HW hcn hcs hl16 hlim
        go_wp2_with (first
          | ((with_reducible refine (hseg hB i).mono ?_); rintro e w2 ⟨G2, rfl, rk2, hB2⟩)
          | ((with_reducible refine (hrun _ _ _ rk2).mono ?_); rintro e w3 ⟨v3, rs3, rfl, hR3, hm3, hB3⟩; obtain ⟨p9, c9, rfl, r9, f9⟩ := own_rk rc_len (by decide) hR3.1; have hz3 : rs3.length = 0 := (by simpa using congrArg List.length hm3); have hb3 : ((rs3.length : Int) == 0) = true := (by simp [hz3])))
        go_ret3
        exact ⟨_, rs, rfl, hR.below (bnext hB2 hB3), rfl, bnext hB (bnext hB2 hB3)⟩
      · have HW2 := HW.out
        rw [hcs hemp] at HW2
        have h0 : 0 < R.length := by
          cases R with
          | nil => exact absurd rfl hemp
          | cons _ _ => simp
        have hwr : ∀ k : Nat, k = R.length → IntKind.u64.wrap ((nx : Int) + (k : Int)) = ((adv nx R.length : Nat) : Int) := fun k hk => by rw [IntKind.wrap_u64]; unfold adv; omega
        have hav := adv_lt nx R.length
        have hw3 := hwr _ rfl
        have hb3 : ((R.length : Int) == 0) = false := beq_eq_false_iff_ne.2 (by omega)
        replace HW2 : Hid ((T1, T2) = (rs.map (·.g) ++ R ++ (cont V S ep (f - R.length) (adv nx R.length) (i + 1)).1, (cont V S ep (f - R.length) (adv nx R.length) (i + 1)).2)) := by
          unfold Hid
          rw [HW2, List.append_assoc]
        clear HW hcn hcs
        go_wp2_with (first
          | ((with_reducible refine (hseg hB i).mono ?_); rintro e w2 ⟨G2, rfl, rk2, hB2⟩)
          | ((with_reducible refine (hrun _ _ _ rk2).mono ?_); rintro e w3 ⟨v3, rs3, rfl, hR3, hm3, hB3⟩; obtain ⟨p9, c9, rfl, r9, f9⟩ := own_rk rc_len (by decide) hR3.1; have hz3 : rs3.length = R.length := (by simpa using congrArg List.length hm3); have hBB := bnext hB2 hB3)
          | (at_builtin; refine at_append_rec rfl _ _ rfl w.heap.size (.slice p7 rs.length c7) rs.length rs rfl (hR.below hBB).1 p9 R.length c9 rs3 rfl hz3 r9 (by omega) (by have := hB.size; have := hBB.size; omega) ?_; intro v5 w5 ho5 hg5 hl5; have hB5 : Below w.heap.size w w5 := (bnext hB hBB).grown hg5 (bnext hB hBB).size (fun j hj => (hR.lt j hj).1))
          | ((with_reducible refine (hl hB5).mono ?_); rintro e w6 ⟨rfl, hw⟩; rw [hw]; clear hw)
          | ((with_reducible refine (hnx i _).mono ?_); rintro e w7 ⟨rfl, hw⟩; rw [hw]; clear hw))
        have hPz : Pays (ownOf (.slice p7 rs.length c7)) w3 rs3 := fun r hr => ⟨(hR3.2.1 r hr).1, (hR3.2.1 r hr).2.1, off_fresh (hR3.2.2 r hr) (fun k hk => by have := (hR.lt k hk).2; have := hB2.size; omega), (hR3.2.1 r hr).2.2.2⟩
        have hR5 := hR.more hBB hPz (hR3.2.2.lower (by have := hB.size; have := hB2.size; omega)) hz3 ho5 hg5 hl5
        obtain ⟨p8, c8, rfl, -, -⟩ := own_rk rc_len (by decide) hR5.1
        refine ⟨⟨i + 1, adv nx R.length, f - R.length, rs ++ rs3, p8, c8, by omega, rfl, rfl, rfl, rfl, by go_num, hav, ?_, ?_, hR5, ?_, hB5⟩, by simp [intOf]; omega⟩
        · have := HF.out
          have := hRl.out
          unfold Hid
          omega
        · have := hRl.out
          unfold Hid
          rw [List.length_append, hz3]
          omega
        · unfold Hid
          rw [List.map_append, hm3, HW2.out]
    · obtain rfl : i = S := by omega
      have HW2 := HW.out
      rw [cont_last, List.append_nil] at HW2
      simp only [Prod.mk.injEq] at HW2
      obtain ⟨e1, e2⟩ := HW2
      subst e1 e2
      clear HW
      go_wp2
      go_ret3
      exact ⟨_, rs, rfl, hR, rfl, hB⟩
end
end Go.Proofs.Ythgafnommcodcaa.Wal
