/-
  The document's answer: Sync, Crash; are pending writes to the same sectors?
-/
import Derived.Test.YthgafnommcodcaaDiskRef3
import Derived.BigQuiet
import Derived.Deep.QuietTactic
namespace Go.Proofs.Ythgafnommcodcaa.Disk
open Go.RowKit Go.Proofs.Ythgafnommcodcaa.Mem Go.Proofs.Ythgafnommcodcaa.Sect
open Go.Proofs.Ythgafnommcodcaa.Frame (Sec zero)
set_option maxRecDepth 100000

theorem settle_congr {f g : Nat → Bool} : ∀ (n : Nat) (l : List Wr) (st : List Sec), (∀ k, n ≤ k → k < n + l.length → f k = g k) → settle f n l st = settle g n l st
  | _, [], _, _ => rfl
  | n, x :: r, st, h => by
    unfold settle
    rw [h n (Nat.le_refl _) (by simp)]
    exact settle_congr (n + 1) r _ (fun k h1 h2 => h k (by omega) (by simp; omega))
theorem keeps_all {L k : Nat} (h : k < L) : keeps (List.replicate L true) k = true := by simp [keeps, h]
theorem info_bool : ∃ i, Try.prog.info? 4 = some i ∧ i.zero = some (.bool false) ∧ i.size = 1 ∧ i.bytes = 1 := by
  have h : (Try.prog.info? 4).map (fun i => (i.zero, i.size, i.bytes)) = some (some (.bool false), 1, 1) := by kernel_rfl
  obtain ⟨i, h1, h2⟩ := Option.map_eq_some_iff.1 h
  simp only [Prod.mk.injEq] at h2
  exact ⟨i, h1, h2⟩
theorem bc_one (b : Bool) : ∀ v ∈ bc b, v.oneCell' = true := by
  intro v hv
  simp only [bc, List.mem_singleton] at hv
  subst hv
  rfl
theorem at_app_bools {ops : Array Oper} {rest : List Oper} {o : Oper} {a : Act} {Q : Exit → Act → World → Prop} (w : World) (hgd : o.guard = none) (s x : Operand) (ho : o.op = .call { callee := .builtin .append, args := #[s, x], argTypes := #[45, 45] }) (base : Nat) (v : Value) (n : Nat) (ys : List Bool) (hs : a.eval s = v) (hown : w.ownsRow base 4 1 v n (ys.flatMap bc))
    (p : Option Addr) (m c : Nat) (zs : List Bool) (hx : a.eval x = .slice p m c) (hm : zs.length = m) (hr : RK bc w p c zs) (h63 : n + m ≤ 140737488355328) (hbase : base ≤ w.heap.size)
    (h : ∀ v' w', w'.ownsRow base 4 1 v' (n + m) ((ys ++ zs).flatMap bc) → w.grownBy w' v.ownBlock → wpList Try.prog ops Q rest (a.put o.dst v') w') : wpList Try.prog ops Q (o :: rest) a w := by
  obtain ⟨i, h1, h2, h3, h4⟩ := info_bool
  cases p with
  | none =>
    obtain rfl := hr.2.2.1 rfl
    have h5 := hr.1
    obtain rfl : zs = [] := List.eq_nil_of_length_eq_zero (by omega)
    obtain rfl : m = 0 := by simpa using hm.symm
    exact wpList_append_own_none hgd s x _ ho base _ i 1 Try.underlying45 h1 v n _ hs hown hx (h v w (by simpa using hown) (World.grownBy.refl _ _))
  | some ad =>
    refine wpList_append_own w hgd s x _ ho base _ i _ 1 1 Try.underlying45 h1 h2 h3 h4 rfl (by decide) v n _ hs hown ad m c (zs.flatMap bc) hx (by rw [len_flat bc_len, hm]) (fun j u hu => ?_) (fun u hu => ?_) (by unfold maxLen; omega) (by omega) hbase fun v' w' k1 k2 _ => h v' w' (by rw [List.flatMap_append]; exact k1) k2
    · have hl : 0 < zs.length := by
        rcases Nat.eq_zero_or_pos zs.length with q | q
        · obtain rfl := List.eq_nil_of_length_eq_zero q; simp at hu
        · exact q
      obtain ⟨b', o', e', _, hc⟩ := hr.2.2.2 hl
      simp only [Option.some.injEq] at e'
      subst e'
      rw [Addr.add_lit]
      exact hc j u hu
    · obtain ⟨y, _, hy⟩ := List.mem_flatMap.1 hu
      exact bc_one y u hy
def Rfd.sync (r : Rfd) : Rfd := if r.no then r.acted else r.acted.settled fun _ => true
theorem racted_ok {r : Rfd} (h : r.ok) : r.acted.ok := by
  obtain ⟨h1, h2, h3, h4, h5⟩ := h
  unfold Rfd.acted
  split
  · exact ⟨h1, h2, h3, h4, h5⟩
  · rename_i hno
    obtain ⟨k1, k2⟩ := h4
    refine ⟨h1, h2, h3, ?_, ?_⟩
    · simp only
      split
      · rename_i hc
        have := h5 hc
        exact ⟨by omega, by omega⟩
      · exact ⟨k1, k2⟩
    · intro hc
      simp only at hc
      have := h5 hc
      have hne : r.lf ≠ 0 := by
        intro q
        simp [Rfd.no, hc, q] at hno
      simp only [hc, if_true]
      omega
def Rfd.crash (r : Rfd) (ks : List Bool) : Rfd := ⟨(r.settled (keeps ks)).st, [], false, 0, false⟩
theorem rcrash_any (r : Rfd) (p : Option Addr) (c : Nat) (q : Option Addr) (e : Nat) (kq : Option Addr) (kn kc : Nat) (ks : List Bool) (w : World) (hok : r.ok) (r1 : RK sc w p c r.st) (r2 : RK wc w q e r.pe) (hkn : ks.length = kn) (r3 : RK bc w kq kc ks) :
    Calls Try.prog 24 #[rv r p c q e, .slice kq kn kc] w fun e' w' => ∃ p' c', e' = .returned (rv (r.crash ks) p' c' none 0) ∧ RK sc w' p' c' (r.crash ks).st ∧ (∀ a, p' = some a → w.heap.size ≤ a.block) ∧ Below w.heap.size w w' := by
  have hrl : ∀ p5 c5, rl (r.settled (keeps ks)) p5 c5 none 0 = [.slice p5 (r.settled (keeps ks)).st.length c5, .slice none 0 0, .bool r.ct, .int .i64 r.lf, .bool r.dn] := fun _ _ => rfl
  go_enter Try.func24, Try.ntmps24
  go_wp2_with (first
    | ((refine at_box_rd _ r p c q e (by rfl) (by rfl) (by rfl) ?_); intro W0 hX0 hB0 hz0)
    | ((refine at_alloc_rd (by rfl) (by rfl) ?_); intro W2 hX2 hB2 hz2; have hX02 := hX0.below hB2; have hw2 := bnext hB0 hB2)
    | ((refine at_load_rd _ _ _ _ _ _ _ (by rfl) (by rfl) hX02 (by rfl) ?_))
    | ((with_reducible refine (rsettle_any r p c q e kq kn kc ks _ hok (r1.below hw2) (r2.below hw2) hkn (r3.below hw2)).mono ?_); rintro e' W3 ⟨p5, c5, rfl, hr5, hp5, hB3⟩; have hX03 := hX02.below hB3; have hX23 := hX2.below hB3)
    | ((refine at_store_rd _ _ _ _ (r.settled (keeps ks)) p5 c5 none 0 (by rfl) (by rfl) (by rfl) hX03 (by simp [rl]) (by rfl) ?_); intro W4 hX4 hg4 hz4; have hc4 := hX4.cell; rw [hrl] at hc4; have hX24 := hX23.kept hg4 (by have := hX0.lt; simp; omega))
    | ((refine at_store_rd _ _ _ _ (r.crash ks) p5 c5 none 0 (by rfl) (by rfl) (by rfl) hX24 (by simp [rl]) (by rfl) ?_); intro W7 hX7 hg7 hz7))
  have hbw := bnext hw2 hB3
  have hb4 := hbw.grown hg4 hbw.size (by simp)
  have hb7 := hb4.grown hg7 hb4.size (by have := hB0.size; simp; omega)
  have hn0 : w.heap.size < W2.heap.size := by have := hX02.lt; omega
  have hn1 : W0.heap.size < W2.heap.size := hX2.lt
  refine ret_rd rfl rfl _ _ _ _ _ _ rfl hX7 ⟨p5, c5, rfl, RK_kept (RK_kept hr5 hg4 (fun a ha => ?_)) hg7 (fun a ha => ?_), fun a ha => ?_, hb7⟩
  all_goals (have := hp5 a ha; omega)
set_option maxHeartbeats 2000000 in
theorem rsync_any (r : Rfd) (p : Option Addr) (c : Nat) (q : Option Addr) (e : Nat) (w : World) (hok : r.ok) (r1 : RK sc w p c r.st) (r2 : RK wc w q e r.pe) :
    Calls Try.prog 18 #[rv r p c q e] w fun e' w' => ∃ p' c' q' e2, e' = .returned (.tuple #[rv r.sync p' c' q' e2, .int .i64 r.err]) ∧ RK sc w' p' c' r.sync.st ∧ RK wc w' q' e2 r.sync.pe ∧ ((p' = p ∧ r.sync.st.length = r.st.length) ∨ ∀ a, p' = some a → w.heap.size ≤ a.block) ∧ ((q' = q ∧ r.sync.pe.length = r.pe.length) ∨ ∀ a, q' = some a → w.heap.size ≤ a.block) ∧ Below w.heap.size w w' := by
  obtain ⟨ra, hra⟩ : ∃ ra, ra = r.acted := ⟨_, rfl⟩
  have hact := fun w => ract_any r p c q e hok.2.2.2.1 hok.2.2.2.2 w
  have hs1 := racted_st r
  have oka := racted_ok hok
  rw [← hra] at hact hs1 oka
  cases hno : r.no with
  | true =>
    have e1 : r.sync = ra := by simp [Rfd.sync, hno, hra]
    have e3 : r.err = 72 := by simp [Rfd.err, hno]
    rw [e1, e3]
    rw [e3] at hact
    clear e1 e3 hra
    go_enter Try.func18, Try.ntmps18
    go_wp2_with (first
      | ((refine at_box_rd _ r p c q e (by rfl) (by rfl) (by rfl) ?_); intro W0 hX0 hB0 hz0)
      | ((refine at_alloc_rd (by rfl) (by rfl) ?_); intro W2 hX2 hB2 hz2; have hX02 := hX0.below hB2)
      | ((with_reducible refine (hact _).mono ?_); rintro e' W3 ⟨rfl, hB3⟩; have hX03 := hX02.below hB3; have hX23 := hX2.below hB3)
      | ((refine at_store_rd _ _ _ _ ra p c q e (by rfl) (by rfl) (by rfl) hX03 (by simp [rl]) (by rfl) ?_); intro W4 hX4 hg4 hz4; have hX24 := hX23.kept hg4 (by have := hX0.lt; simp; omega))
      | ((refine at_load_rd _ _ _ _ _ _ _ (by rfl) (by rfl) hX4 (by rfl) ?_))
      | ((refine at_load_rd _ _ _ _ _ _ _ (by rfl) (by rfl) hX02 (by rfl) ?_))
      | ((refine at_store_rd _ _ _ _ ra p c q e (by rfl) (by rfl) (by rfl) hX24 rfl (by rfl) ?_); intro W7 hX7 hg7 hz7))
    have hbw := bnext (bnext hB0 hB2) hB3
    have hb4 := hbw.grown hg4 hbw.size (by simp)
    have hb7 := hb4.grown hg7 hb4.size (by have := hB0.size; simp; omega)
    exact ret_rd2 rfl rfl _ _ _ _ _ _ rfl hX7 ⟨p, c, q, e, rfl, by rw [hs1.1]; exact r1.below hb7, by rw [hs1.2]; exact r2.below hb7, .inl ⟨rfl, by rw [hs1.1]⟩, .inl ⟨rfl, by rw [hs1.2]⟩, hb7⟩
  | false =>
    obtain ⟨L, hL⟩ : ∃ L, ra.pe.length = L := ⟨_, rfl⟩
    have hl := oka.2.1
    rw [hL] at hl
    have e1 : r.sync = ra.settled (keeps (List.replicate L true)) := by
      simp only [Rfd.sync, hno, ← hra, Rfd.settled]
      rw [settle_congr (g := keeps (List.replicate L true)) 0 ra.pe ra.st (fun k _ h => (keeps_all (by omega)).symm)]
      rfl
    have e3 : r.err = 0 := by simp [Rfd.err, hno]
    rw [e1, e3]
    rw [e3] at hact
    have hrl1 : rl ra p c q e = [.slice p ra.st.length c, .slice q L e, .bool ra.ct, .int .i64 ra.lf, .bool ra.dn] := by simp [rl, hL]
    rw [← hs1.1] at r1
    rw [← hs1.2] at r2
    clear e1 e3 hra hs1
    go_enter Try.func18, Try.ntmps18
    go_wp2_with (first
      | ((refine at_box_rd _ r p c q e (by rfl) (by rfl) (by rfl) ?_); intro W0 hX0 hB0 hz0)
      | ((refine at_alloc_rd (by rfl) (by rfl) ?_); intro W2 hX2 hB2 hz2; have hX02 := hX0.below hB2)
      | ((with_reducible refine (hact _).mono ?_); rintro e' W3 ⟨rfl, hB3⟩; have hX03 := hX02.below hB3; have hX23 := hX2.below hB3)
      | ((refine at_store_rd _ _ _ _ ra p c q e (by rfl) (by rfl) (by rfl) hX03 (by simp [rl]) (by rfl) ?_); intro W4 hX4 hg4 hz4; have hX24 := hX23.kept hg4 (by have := hX0.lt; simp; omega); rw [hrl1] at hX4; have hc4 := fun o => (hX4.alloc o).cell)
      | ((refine at_load_rd _ _ _ _ _ _ _ (by rfl) (by rfl) hX02 (by rfl) ?_)))
    have hbw := bnext (bnext hB0 hB2) hB3
    have hb4 := hbw.grown hg4 hbw.size (by simp)
    have hb5 := bnew W4 (.cells #[] 4)
    have hn0 : w.heap.size < W0.heap.size := by have := hX0.lt; omega
    have hn1 : W0.heap.size < W4.heap.size := hX24.lt
    clear hc4
    go_loopw [5, 19] (fun v t wr => ∃ k : Nat, k ≤ L ∧ t = .int .i64 k ∧ wr.ownsRow W4.heap.size 4 1 v k ((List.replicate k true).flatMap bc) ∧ Below W4.heap.size W4 wr) (fun _ t _ => L - (intOf t).toNat)
    case atStart => exact ⟨0, Nat.zero_le _, rfl, lit_none_k (k := 1) (enc := bc) W4, hb5⟩
    case round =>
      obtain ⟨k, hk, rfl, hown, hbel⟩ := hrel
      by_cases hlt : k < L
      · have hrep : List.replicate k true ++ [true] = List.replicate (k + 1) true := by rw [List.replicate_succ']
        go_wp2_with (at_builtin; refine at_app_bools _ (by rfl) _ _ (by rfl) W4.heap.size u5 k (List.replicate k true) (by rfl) (hown.alloc _) (some ⟨wr.heap.size, 0, none⟩) 1 1 [true] (by rfl) rfl (lit_rk (enc := bc) (x := true) rfl) (by omega) (by have := hbel.size; simp; omega) ?_; intro v6 W6 hown6 hg6; rw [hrep] at hown6)
        go_roundw
        case rel => exact ⟨k + 1, by omega, by go_num, hown6, (bnext hbel (bnew _ _)).grown hg6 (by have := hbel.size; simp; omega) (fun b hb => (hown.lt b hb).1)⟩
        case measure => simp [intOf]; omega
      · have hkL : k = L := by omega
        subst hkL
        obtain ⟨p6, c6, hv6, hr6, hp6⟩ := own_rk bc_len (by decide) hown
        rw [List.length_replicate] at hv6
        subst hv6
        have hX4r := hX4.below hbel
        rw [← hrl1] at hX4r
        have hX24r := hX24.below hbel
        have hw6 := bnext hb4 hbel
        go_wp2_with (first
          | ((refine at_load_rd _ _ _ _ _ _ _ (by rfl) (by rfl) hX4r (by rfl) ?_))
          | ((with_reducible refine (rsettle_any ra p c q e p6 k c6 (List.replicate k true) _ oka (r1.below hw6) (r2.below hw6) (by simp) hr6).mono ?_); rintro e' W8 ⟨p8, c8, rfl, hr8, hp8, hB8⟩; have hX28 := hX24r.below hB8)
          | ((refine at_store_rd _ _ _ _ (ra.settled (keeps (List.replicate k true))) p8 c8 none 0 (by rfl) (by rfl) (by rfl) hX28 (by simp [rl]) (by rfl) ?_); intro W9 hX9 hg9 hz9))
        have hb8 := bnext hw6 hB8
        have hb9 := hb8.grown hg9 hb8.size (by simp; omega)
        have hs4 := hbel.size
        exact ret_rd2 rfl rfl _ _ _ _ _ _ rfl hX9 ⟨p8, c8, none, 0, rfl, RK_kept hr8 hg9 (fun a ha => by have := hp8 a ha; omega), RK.nil _ _, .inr (fun a ha => by have := hp8 a ha; have := hw6.size; omega), .inr (by simp), hb9⟩
end Go.Proofs.Ythgafnommcodcaa.Disk
