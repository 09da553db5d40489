/-
  The document's answer: a new disk, Put.
-/
import Derived.Test.YthgafnommcodcaaDiskRef1
namespace Go.Proofs.Ythgafnommcodcaa.Disk
open Go.RowKit Go.Proofs.Ythgafnommcodcaa.Mem Go.Proofs.Ythgafnommcodcaa.Sect
open Go.Proofs.Ythgafnommcodcaa.Frame (Sec zero)
set_option maxRecDepth 100000

theorem info_rf : ∃ i, Try.prog.info? 117 = some i ∧ i.zero = some (wrv (0, zero)) ∧ i.size = 65 ∧ i.bytes = 72 := by
  have h : (Try.prog.info? 117).map (fun i => (i.zero, i.size, i.bytes)) = some (some (wrv (0, zero)), 65, 72) := by kernel_rfl
  obtain ⟨i, h1, h2⟩ := Option.map_eq_some_iff.1 h
  simp only [Prod.mk.injEq] at h2
  exact ⟨i, h1, h2⟩
theorem blk_rk {α : Type} {enc : α → List Value} {w : World} {G : Nat} {t : TypeId} {x : α} (h : Blk w G t (enc x)) : RK enc w (some ⟨G, 0, none⟩) 1 [x] := by
  refine ⟨by simp, by unfold maxLen; omega, fun h => by simp at h, fun _ => ⟨G, 0, rfl, h.lt, fun j v hv => ?_⟩⟩
  simp only [List.flatMap_cons, List.flatMap_nil, List.append_nil] at hv
  rw [Nat.zero_add, h.cell]
  exact hv
section
variable {ops : Array Oper} {rest : List Oper} {o : Oper} {a : Act} {Q : Exit → Act → World → Prop}
/-- Appends of what is read to what is the call's own: sectors, writes. -/
theorem at_app_secs (w : World) (hgd : o.guard = none) (s x : Operand) (ho : o.op = .call { callee := .builtin .append, args := #[s, x], argTypes := #[36, 36] }) (base : Nat) (v : Value) (n : Nat) (ys : List Sec) (hs : a.eval s = v) (hown : w.ownsRow base 70 64 v n (ys.flatMap sc))
    (p : Option Addr) (m c : Nat) (zs : List Sec) (hx : a.eval x = .slice p m c) (hm : zs.length = m) (hr : RK sc w p c zs) (h63 : n + m ≤ 100000) (hbase : base ≤ w.heap.size)
    (h : ∀ v' w', w'.ownsRow base 70 64 v' (n + m) ((ys ++ zs).flatMap sc) → w.grownBy w' v.ownBlock → wpList Try.prog ops Q rest (a.put o.dst v') w') : wpList Try.prog ops Q (o :: rest) a w := by
  obtain ⟨i, h1, h2, h3, h4⟩ := info_sec
  exact wpList_append_rk sc_len (by decide) sc_one w hgd s x _ ho base _ i _ 64 Try.underlying36 h1 h2 h3 h4 (by simp [secv, Value.cells, sc_len]) v n ys hs hown p m c zs hx hm hr h63 (by omega) hbase h
theorem at_app_rfs (w : World) (hgd : o.guard = none) (s x : Operand) (ho : o.op = .call { callee := .builtin .append, args := #[s, x], argTypes := #[37, 37] }) (base : Nat) (v : Value) (n : Nat) (ys : List Wr) (hs : a.eval s = v) (hown : w.ownsRow base 117 65 v n (ys.flatMap wc))
    (p : Option Addr) (m c : Nat) (zs : List Wr) (hx : a.eval x = .slice p m c) (hm : zs.length = m) (hr : RK wc w p c zs) (h63 : n + m ≤ 100000) (hbase : base ≤ w.heap.size)
    (h : ∀ v' w', w'.ownsRow base 117 65 v' (n + m) ((ys ++ zs).flatMap wc) → w.grownBy w' v.ownBlock → wpList Try.prog ops Q rest (a.put o.dst v') w') : wpList Try.prog ops Q (o :: rest) a w := by
  obtain ⟨i, h1, h2, h3, h4⟩ := info_rf
  exact wpList_append_rk wc_len (by decide) wc_one w hgd s x _ ho base _ i _ 72 Try.underlying37 h1 h2 h3 h4 (by simp [wrv, Value.cells, wc_len]) v n ys hs hown p m c zs hx hm hr h63 (by omega) hbase h
end
theorem RK_kept {α : Type} {enc : α → List Value} {w w' : World} {p : Option Addr} {cap g : Nat} {xs : List α} (h : RK enc w p cap xs) (hg : w.grownBy w' (some g)) (hne : ∀ a, p = some a → a.block ≠ g) : RK enc w' p cap xs := by
  obtain ⟨h1, h2, h3, h4⟩ := h
  refine ⟨h1, h2, h3, fun hz => ?_⟩
  obtain ⟨b, o, e, hlt, hc⟩ := h4 hz
  exact ⟨b, o, e, Nat.lt_of_lt_of_le hlt hg.size, fun j v hv => (World.cell?_of_block (w := w) (a := ⟨b, o + j, none⟩) (hg.block b hlt (by have := hne _ e; simpa using this))).trans (hc j v hv)⟩
def rfresh (n : Nat) : Rfd := ⟨List.replicate n zero, [], false, 0, false⟩
theorem rnew_any (x : Int) (w : World) :
    Calls Try.prog 12 #[.int .i64 x] w fun e w' => ∃ p c, e = .returned (rv (rfresh (clamp x)) p c none 0) ∧ RK sc w' p c (rfresh (clamp x)).st ∧ (∀ a, p = some a → w.heap.size ≤ a.block) ∧ Below w.heap.size w w' := by
  obtain ⟨N, hN⟩ : ∃ N, clamp x = N := ⟨_, rfl⟩
  have hN5 : N ≤ 512 := by unfold clamp at hN; omega
  rw [hN]
  go_enter Try.func12, Try.ntmps12
  go_wp2_with (first
    | (have _ := hX2; (refine at_alloc_rd (by rfl) (by rfl) ?_); intro W3 hX3 hB3 hz3)
    | ((refine at_alloc_rd (by rfl) (by rfl) ?_); intro W2 hX2 hB2 hz2)
    | ((refine at_store_rd _ _ _ _ ⟨[], [], false, 0, false⟩ none 0 none 0 (by rfl) (by rfl) (by rfl) hX3 rfl (by rfl) ?_); intro W4 hX4 hg4 hz4))
  have hb4 : Below W2.heap.size W2 W4 := hB3.grown hg4 hB3.size (by simp)
  have hX24 := hX2.below hb4
  have hbw4 := bnext hB2 hb4
  have hlt : w.heap.size < W2.heap.size := by have := hz2.out; omega
  have hlt3 : W2.heap.size < W4.heap.size := hX4.lt
  unfold rl at hX4
  simp only [List.length_nil] at hX4
  go_loopw [4] (fun t wr => ∃ (k : Nat) (v : Value), k ≤ N ∧ t = .int .i64 k ∧ wr.ownsRow W4.heap.size 70 64 v k ((List.replicate k zero).flatMap sc) ∧ Blk wr W2.heap.size 39 [v, .slice none 0 0, .bool false, .int .i64 0, .bool false] ∧ Blk wr w.heap.size 39 (rl ⟨[], [], false, 0, false⟩ none 0 none 0) ∧ Below w.heap.size w wr ∧ W4.heap.size ≤ wr.heap.size) (fun t _ => N - (intOf t).toNat)
  case atStart => exact ⟨0, _, Nat.zero_le _, rfl, ⟨by simp, .inl ⟨rfl, rfl⟩⟩, hX4, hX24, hbw4, Nat.le_refl _⟩
  case round =>
    obtain ⟨k, v, hk, rfl, hown, hX, hR, hbel, hsz⟩ := hrel
    obtain ⟨p, c, hv, hrk, hpb⟩ := own_rk sc_len (by decide) hown
    simp only [List.length_replicate] at hv
    subst hv
    have hc := hX.cell
    have hz := hX.frozen
    by_cases hlt1 : k < N
    · have f1 : decide ((k : Int) < x) = true := decide_eq_true (by unfold clamp at hN; omega)
      have f2 : decide ((k : Int) < 512) = true := decide_eq_true (by omega)
      have f3 : decide (k < 512) = true := decide_eq_true (by omega)
      have hrep : List.replicate k zero ++ [zero] = List.replicate (k + 1) zero := by rw [List.replicate_succ']
      go_wp2_with (first
        | ((refine at_build0 (by rfl) (by rfl) ?_))
        | ((refine at_lits _ _ (by rfl) (by rfl) (by rfl) ?_); intro W5 hX5 hB5 hz5; have hsz5 := hB5.size)
        | (at_builtin; refine at_app_secs _ (by rfl) _ _ (by rfl) W4.heap.size (.slice p k c) k (List.replicate k zero) (by rfl) (own_below hown hB5) (some ⟨wr.heap.size, 0, none⟩) 1 1 [zero] (by rfl) rfl (blk_rk hX5) (by omega) (by omega) ?_; intro v6 W6 hown6 hg6; rw [hrep] at hown6; obtain ⟨p6, c6, hv6, hrk6, hpb6⟩ := own_rk sc_len (by decide) hown6; have hX6 := (hX.below hB5).kept hg6 (fun q => by have := (hown.lt _ q.symm).1; omega); have hR6 := (hR.below hB5).kept hg6 (fun q => by have := (hown.lt _ q.symm).1; omega); have hc6 := hX6.cell; have hz6 := hX6.frozen; rw [List.length_replicate] at hv6; rw [hv6] at hown6 ⊢))
      have hb6 : Below w.heap.size w W6 := (bnext hbel hB5).grown hg6 (by omega) (fun b hb => by have := (hown.lt b hb).1; omega)
      refine ⟨⟨k + 1, .slice p6 (k + 1) c6, by omega, rfl, hown6.kept (only_put W6 ⟨W2.heap.size, 0, none⟩ _) (.inr fun q => ?_), hX6.put 0 _, hR6.other (by simp; omega) _, hb6.setCell (p := ⟨W2.heap.size, 0, none⟩) (by simp; omega) _, ?_⟩, ?_⟩
      · have := (hown6.lt _ q).1
        simp at this
        omega
      · have := hg6.size
        simp
        omega
      · simp [intOf]
        omega
    · have hkN : k = N := by omega
      subst hkN
      have hrl : [.slice p k c, .slice none 0 0, .bool false, .int .i64 0, .bool false] = rl (rfresh k) p c none 0 := by simp [rl, rfresh]
      rw [hrl] at hX
      clear hc hz
      by_cases hx1 : (k : Int) < x
      · have f1 : decide ((k : Int) < x) = true := decide_eq_true hx1
        have f2 : decide ((k : Int) < 512) = false := decide_eq_false (by unfold clamp at hN; omega)
        have f3 : decide (k < 512) = false := decide_eq_false (by unfold clamp at hN; omega)
        go_wp2_with (first
          | ((refine at_load_rd _ _ _ _ _ _ _ (by rfl) (by rfl) hX (by rfl) ?_))
          | ((refine at_store_rd _ _ _ _ (rfresh k) p c none 0 (by rfl) (by rfl) (by rfl) hR rfl (by rfl) ?_); intro W7 hX7 hg7 hz7))
        exact ret_rd rfl rfl _ _ _ _ _ _ rfl hX7 ⟨p, c, rfl, RK_kept hrk hg7 (fun a ha => by have := hpb a ha; omega), fun a ha => by have := hpb a ha; omega, hbel.grown hg7 hbel.size (by simp)⟩
      · have f1 : decide ((k : Int) < x) = false := decide_eq_false hx1
        go_wp2_with (first
          | ((refine at_load_rd _ _ _ _ _ _ _ (by rfl) (by rfl) hX (by rfl) ?_))
          | ((refine at_store_rd _ _ _ _ (rfresh k) p c none 0 (by rfl) (by rfl) (by rfl) hR rfl (by rfl) ?_); intro W7 hX7 hg7 hz7))
        exact ret_rd rfl rfl _ _ _ _ _ _ rfl hX7 ⟨p, c, rfl, RK_kept hrk hg7 (fun a ha => by have := hpb a ha; omega), fun a ha => by have := hpb a ha; omega, hbel.grown hg7 hbel.size (by simp)⟩
theorem put1_rl {w : World} {g : Nat} {t : TypeId} {a b c' d' e' v : Value} {r : Rfd} {p : Option Addr} {c : Nat} {q : Option Addr} {e : Nat} (h : Blk w g t [a, b, c', d', e']) (hr : rl r p c q e = [a, v, c', d', e']) : Blk (w.setCell ⟨g, 1, none⟩ v) g t (rl r p c q e) := by
  rw [hr]
  exact h.put 1 v
def Rfd.put (r : Rfd) (i : Int) (s : Sec) : Rfd := if has r.st.length i then (if r.no then r.acted else { r.acted with pe := r.pe ++ [(i, s)] }) else r
def Rfd.putE (r : Rfd) (i : Int) : Int := if has r.st.length i then r.err else 71
theorem racted_st (r : Rfd) : r.acted.st = r.st ∧ r.acted.pe = r.pe := by unfold Rfd.acted; split <;> exact ⟨rfl, rfl⟩
set_option maxHeartbeats 2000000 in
theorem rput_any (r : Rfd) (p : Option Addr) (c : Nat) (q : Option Addr) (e : Nat) (i : Int) (s : Sec) (w : World) (hok : r.ok) (r2 : RK wc w q e r.pe) :
    Calls Try.prog 48 #[rv r p c q e, .int .i64 i, secv s] w fun e' w' => ∃ q' c', e' = .returned (.tuple #[rv (r.put i s) p c q' c', .int .i64 (r.putE i)]) ∧ RK wc w' q' c' (r.put i s).pe ∧ ((q' = q ∧ (r.put i s).pe.length = r.pe.length) ∨ ∀ a, q' = some a → w.heap.size ≤ a.block) ∧ Below w.heap.size w w' := by
  obtain ⟨n, hn⟩ : ∃ n, r.st.length = n := ⟨_, rfl⟩
  obtain ⟨L, hL⟩ : ∃ L, r.pe.length = L := ⟨_, rfl⟩
  have hl := hok.2.1
  rw [hL] at hl
  have hrl : rl r p c q e = [.slice p n c, .slice q L e, .bool r.ct, .int .i64 r.lf, .bool r.dn] := by simp [rl, hn, hL]
  cases hh : has n i with
  | false =>
    have e1 : r.put i s = r := by simp [Rfd.put, hn, hh]
    have e2 : r.putE i = 71 := by simp [Rfd.putE, hn, hh]
    rw [e1, e2]
    by_cases h0 : i < 0
    · have f0 : decide (i < 0) = true := decide_eq_true h0
      go_enter Try.func48, Try.ntmps48
      go_wp2_with (first
        | ((refine at_box_rd _ r p c q e (by rfl) (by rfl) (by rfl) ?_); intro W0 hX0 hB0 hz0)
        | ((refine at_box_sec _ _ (by rfl) (by rfl) (by rfl) ?_); intro W1 hX1 hB1 hz1)
        | ((refine at_alloc_rd (by rfl) (by rfl) ?_); intro W2 hX2 hB2 hz2; have hX02 := (hX0.below hB1).below hB2)
        | ((refine at_load_rd _ _ _ _ _ _ _ (by rfl) (by rfl) hX02 (by rfl) ?_))
        | ((refine at_store_rd _ _ _ _ r p c q e (by rfl) (by rfl) (by rfl) hX2 rfl (by rfl) ?_); intro W7 hX7 hg7 hz7))
      have hbw := bnext (bnext hB0 hB1) hB2
      have hb7 := hbw.grown hg7 hbw.size (by have := hB0.size; have := hB1.size; simp; omega)
      exact ret_rd2 rfl rfl _ _ _ _ _ _ rfl hX7 ⟨q, e, rfl, r2.below hb7, .inl (by simp), hb7⟩
    · have f0 : decide (i < 0) = false := decide_eq_false h0
      have f1 : decide ((n : Int) ≤ i) = true := decide_eq_true (by simp [has] at hh; exact hh (by omega))
      go_enter Try.func48, Try.ntmps48
      go_wp2_with (first
        | ((refine at_box_rd _ r p c q e (by rfl) (by rfl) (by rfl) ?_); intro W0 hX0 hB0 hz0)
        | ((refine at_box_sec _ _ (by rfl) (by rfl) (by rfl) ?_); intro W1 hX1 hB1 hz1)
        | ((refine at_alloc_rd (by rfl) (by rfl) ?_); intro W2 hX2 hB2 hz2; have hX02 := (hX0.below hB1).below hB2; have hc := hX02.cell; rw [hrl] at hc)
        | ((refine at_load_rd _ _ _ _ _ _ _ (by rfl) (by rfl) hX02 (by rfl) ?_))
        | ((refine at_store_rd _ _ _ _ r p c q e (by rfl) (by rfl) (by rfl) hX2 rfl (by rfl) ?_); intro W7 hX7 hg7 hz7))
      have hbw := bnext (bnext hB0 hB1) hB2
      have hb7 := hbw.grown hg7 hbw.size (by have := hB0.size; have := hB1.size; simp; omega)
      exact ret_rd2 rfl rfl _ _ _ _ _ _ rfl hX7 ⟨q, e, rfl, r2.below hb7, .inl (by simp), hb7⟩
  | true =>
    have hi : 0 ≤ i ∧ i < n := by simpa [has] using hh
    have f0 : decide (i < 0) = false := decide_eq_false (by omega)
    have f1 : decide ((n : Int) ≤ i) = false := decide_eq_false (by omega)
    have hact := fun w => ract_any r p c q e hok.2.2.2.1 hok.2.2.2.2 w
    cases hno : r.no with
    | true =>
      have e1 : r.put i s = r.acted := by simp [Rfd.put, hn, hh, hno]
      have e2 : r.putE i = 72 := by simp [Rfd.putE, Rfd.err, hn, hh, hno]
      have e3 : r.err = 72 := by simp [Rfd.err, hno]
      rw [e1, e2]
      rw [e3] at hact
      go_enter Try.func48, Try.ntmps48
      go_wp2_with (first
        | ((refine at_box_rd _ r p c q e (by rfl) (by rfl) (by rfl) ?_); intro W0 hX0 hB0 hz0)
        | ((refine at_box_sec _ _ (by rfl) (by rfl) (by rfl) ?_); intro W1 hX1 hB1 hz1)
        | ((refine at_alloc_rd (by rfl) (by rfl) ?_); intro W2 hX2 hB2 hz2; have hX02 := (hX0.below hB1).below hB2; have hc := hX02.cell; rw [hrl] at hc)
        | ((with_reducible refine (hact _).mono ?_); rintro e' W3 ⟨rfl, hB3⟩; have hX03 := hX02.below hB3; have hX23 := hX2.below hB3)
        | ((refine at_store_rd _ _ _ _ r.acted p c q e (by rfl) (by rfl) (by rfl) hX03 (by simp [rl]) (by rfl) ?_); intro W4 hX4 hg4 hz4; have hX24 := hX23.kept hg4 (by have := hB1.size; have := hX0.lt; simp; omega))
        | ((refine at_load_rd _ _ _ _ _ _ _ (by rfl) (by rfl) hX4 (by rfl) ?_))
        | ((refine at_load_rd _ _ _ _ _ _ _ (by rfl) (by rfl) hX02 (by rfl) ?_))
        | ((refine at_store_rd _ _ _ _ r.acted p c q e (by rfl) (by rfl) (by rfl) hX24 rfl (by rfl) ?_); intro W7 hX7 hg7 hz7))
      have hbw := bnext (bnext (bnext hB0 hB1) hB2) hB3
      have hb4 := hbw.grown hg4 hbw.size (by simp)
      have hb7 := hb4.grown hg7 hb4.size (by have := hB0.size; have := hB1.size; simp; omega)
      exact ret_rd2 rfl rfl _ _ _ _ _ _ rfl hX7 ⟨q, e, rfl, by rw [(racted_st r).2]; exact r2.below hb7, .inl ⟨rfl, by rw [(racted_st r).2]⟩, hb7⟩
    | false =>
      obtain ⟨r1, hr1⟩ : ∃ r1, r1 = r.acted := ⟨_, rfl⟩
      have hs1 := racted_st r
      have e1 : r.put i s = { r1 with pe := r.pe ++ [(i, s)] } := by simp [Rfd.put, hn, hh, hno, hr1]
      have e2 : r.putE i = 0 := by simp [Rfd.putE, Rfd.err, hn, hh, hno]
      have e3 : r.err = 0 := by simp [Rfd.err, hno]
      rw [e1, e2]
      rw [e3, ← hr1] at hact
      rw [← hr1] at hs1
      have hrl1 : rl r1 p c q e = [.slice p n c, .slice q L e, .bool r1.ct, .int .i64 r1.lf, .bool r1.dn] := by simp [rl, hs1.1, hs1.2, hn, hL]
      have hrl2 : ∀ p7 c7, rl { r1 with pe := r.pe ++ [(i, s)] } p c p7 c7 = [.slice p n c, .slice p7 (L + 1) c7, .bool r1.ct, .int .i64 r1.lf, .bool r1.dn] := fun p7 c7 => by simp [rl, hs1.1, hn, hL]
      have hLx : (r.pe ++ [(i, s)]).length = L + 1 := by simp [hL]
      clear e1 e2 e3 hr1 hs1
      go_enter Try.func48, Try.ntmps48
      go_wp2_with (first
        | ((refine at_box_rd _ r p c q e (by rfl) (by rfl) (by rfl) ?_); intro W0 hX0 hB0 hz0)
        | ((refine at_box_sec _ _ (by rfl) (by rfl) (by rfl) ?_); intro W1 hX1 hB1 hz1)
        | ((refine at_alloc_rd (by rfl) (by rfl) ?_); intro W2 hX2 hB2 hz2; have hX02 := (hX0.below hB1).below hB2; have hc := hX02.cell; rw [hrl] at hc)
        | ((with_reducible refine (hact _).mono ?_); rintro e' W3 ⟨rfl, hB3⟩; have hX03 := hX02.below hB3; have hX23 := hX2.below hB3)
        | ((refine at_store_rd _ _ _ _ r1 p c q e (by rfl) (by rfl) (by rfl) hX03 (by simp [rl]) (by rfl) ?_); intro W4 hX4 hg4 hz4; rw [hrl1] at hX4; have hX24 := hX23.kept hg4 (by have := hB1.size; have := hX0.lt; simp; omega); have hX14 := ((hX1.below hB2).below hB3).kept hg4 (by have := hX0.lt; simp; omega); have hc4 := fun o => (hX4.alloc o).cell; have hw4 := bnext (bnext (bnext hB0 hB1) hB2) hB3; replace hw4 := hw4.grown hg4 hw4.size (by simp); clear hc)
        | (have _ := hX8; refine at_load_rd _ _ _ _ _ _ _ (by rfl) (by rfl) hX8 (by rfl) ?_)
        | ((refine at_load_rd _ _ _ _ _ _ _ (by rfl) (by rfl) hX02 (by rfl) ?_))
        | (at_builtin; refine at_app_rfs _ (by rfl) _ _ (by rfl) W4.heap.size (.slice (some ⟨W4.heap.size, 0, none⟩) 0 0) 0 [] (by rfl) (lit_none_k (k := 65) (enc := wc) W4) q L e r.pe (by rfl) hL ((r2.below hw4).alloc _) (by omega) (by simp) ?_; intro v5 W5 hown5 hg5; rw [List.nil_append, Nat.zero_add] at hown5; have hb5 : Below W4.heap.size W4 W5 := (bnew W4 _).grown hg5 (by simp) (fun b hb => by simp [Value.ownBlock] at hb; omega); have hX15 := hX14.below hb5)
        | ((refine at_load_sec _ _ _ _ (by rfl) (by rfl) (blk_sec hX15) (by rfl) ?_))
        | ((refine at_buildr _ _ _ _ (by rfl) (by rfl) (by rfl) (by rfl) ?_))
        | ((refine at_litr _ _ (by rfl) (by rfl) (by rfl) ?_); intro W6 hX6 hB6 hz6)
        | (at_builtin; refine at_app_rfs _ (by rfl) _ _ (by rfl) W4.heap.size v5 L r.pe (by rfl) (own_below hown5 hB6) (some ⟨W5.heap.size, 0, none⟩) 1 1 [(i, s)] (by rfl) rfl (blk_rk hX6) (by omega) (by have := hb5.size; have := hB6.size; omega) ?_; intro v7 W7 hown7 hg7; obtain ⟨p7, c7, hv7, hr7, hp7⟩ := own_rk wc_len (by decide) hown7; rw [hLx] at hv7; subst hv7; have hb6 := bnext hb5 hB6; have hb7 := hb6.grown hg7 hb6.size (fun b hb => (hown5.lt b hb).1); have hX47 := hX4.below hb7; have hc7 := hX47.cell; have hz7 := hX47.frozen; have hX8 := put1_rl hX47 (hrl2 p7 c7); have hX28 := (hX24.below hb7).other (p := ⟨w.heap.size, 1, none⟩) (by have := hB1.size; have := hX0.lt; simp; omega) (.slice p7 (L + 1) c7))
        | ((refine at_store_rd _ _ _ _ { r1 with pe := r.pe ++ [(i, s)] } p c p7 c7 (by rfl) (by rfl) (by rfl) hX28 (by simp [rl]) (by rfl) ?_); intro W9 hX9 hg9 hz9))
      have hbw7 := bnext hw4 hb7
      have hn0 : w.heap.size < W1.heap.size := by have := hB1.size; have := hX0.lt; omega
      have hn1 : W1.heap.size < W4.heap.size := by have := hX24.lt; omega
      have hb8 := hbw7.setCell (p := ⟨w.heap.size, 1, none⟩) (Nat.le_refl _) (.slice p7 (L + 1) c7)
      have hb9 := hb8.grown hg9 hb8.size (by simp; omega)
      refine ret_rd2 rfl rfl _ _ _ _ _ _ rfl hX9 ⟨p7, c7, rfl, RK_kept (RK_kept hr7 (only_put W7 ⟨w.heap.size, 1, none⟩ _) (fun a ha => ?_)) hg9 (fun a ha => ?_), .inr fun a ha => ?_, hb9⟩
      · have := hp7 a ha
        simp
        omega
      · have := hp7 a ha
        omega
      · have := hp7 a ha
        omega
end Go.Proofs.Ythgafnommcodcaa.Disk
