/-
  The document's answer: pending writes that are made stable, Sync, Crash.
-/
import Derived.Test.YthgafnommcodcaaDiskRef2
namespace Go.Proofs.Ythgafnommcodcaa.Disk
open Go.RowKit Go.Proofs.Ythgafnommcodcaa.Mem Go.Proofs.Ythgafnommcodcaa.Sect
open Go.Proofs.Ythgafnommcodcaa.Frame (Sec zero)
set_option maxRecDepth 100000

section
variable {o : Oper} {a : Act} {w : World} {ops : Array Oper} {rest : List Oper} {Q : Exit → Act → World → Prop}
theorem at_store_row (x y : Operand) (B b k n c : Nat) (s : Sec) (st : List Sec) (hn : st.length = n) (ho : o.op = .store 70 x y) (hx : a.eval x = .pointer (some ⟨b, k * 64, none⟩)) (hy : a.eval y = secv s)
    (hown : w.ownsRow B 70 64 (.slice (some ⟨b, 0, none⟩) n c) n (st.flatMap sc)) (hk : k < st.length) (hw : Region.wanted o (yielded ops a.tmps) = true)
    (h : ∀ w', w'.ownsRow B 70 64 (.slice (some ⟨b, 0, none⟩) n c) n ((st.set k s).flatMap sc) → w.grownBy w' (some b) → Hid (w'.heap.size = w.heap.size) → wpList Try.prog ops Q rest (a.put o.dst undef) w') : wpList Try.prog ops Q (o :: rest) a w :=
  BigFrame.wpList_want hw fun _ hK => wp_store_row x y B b k n c s st hn ho hx hy hown hk (fun w2 h1 h2 h3 => hK _ _ (h w2 h1 h2 h3))
end
def Rfd.settled (r : Rfd) (f : Nat → Bool) : Rfd := { r with st := settle f 0 r.pe r.st, pe := [] }
set_option maxHeartbeats 2000000 in
theorem rsettle_any (r : Rfd) (p : Option Addr) (c : Nat) (q : Option Addr) (e : Nat) (kq : Option Addr) (kn kc : Nat) (ks : List Bool) (w : World) (hok : r.ok) (r1 : RK sc w p c r.st) (r2 : RK wc w q e r.pe) (hkn : ks.length = kn) (r3 : RK bc w kq kc ks) :
    Calls Try.prog 51 #[rv r p c q e, .slice kq kn kc] w fun e' w' => ∃ p' c', e' = .returned (rv (r.settled (keeps ks)) p' c' none 0) ∧ RK sc w' p' c' (r.settled (keeps ks)).st ∧ (∀ a, p' = some a → w.heap.size ≤ a.block) ∧ Below w.heap.size w w' := by
  obtain ⟨n, hn⟩ : ∃ n, r.st.length = n := ⟨_, rfl⟩
  obtain ⟨L, hL⟩ : ∃ L, r.pe.length = L := ⟨_, rfl⟩
  have hnl := hok.1
  have hl := hok.2.1
  have hpl := hok.2.2.1
  rw [hn] at hnl
  rw [hL] at hl
  have hrl : rl r p c q e = [.slice p n c, .slice q L e, .bool r.ct, .int .i64 r.lf, .bool r.dn] := by simp [rl, hn, hL]
  go_enter Try.func51, Try.ntmps51
  go_wp2_with (first
    | ((refine at_box_rd _ r p c q e (by rfl) (by rfl) (by rfl) ?_); intro W0 hX0 hB0 hz0)
    | ((refine at_alloc_rd (by rfl) (by rfl) ?_); intro W2 hX2 hB2 hz2; have hX02 := hX0.below hB2; rw [hrl] at hX02; have hc2 := fun o => (hX02.alloc o).cell; have hw2 := bnext hB0 hB2)
    | (at_builtin; refine at_app_secs _ (by rfl) _ _ (by rfl) W2.heap.size (.slice (some ⟨W2.heap.size, 0, none⟩) 0 0) 0 [] (by rfl) (lit_none_k (k := 64) (enc := sc) W2) p n c r.st (by rfl) hn ((r1.below hw2).alloc _) (by omega) (by simp) ?_; intro v5 W5 hown5 hg5; rw [List.nil_append, Nat.zero_add] at hown5; have hb5 : Below W2.heap.size W2 W5 := (bnew W2 _).grown hg5 (by simp) (fun b hb => by simp [Value.ownBlock] at hb; omega); have hX05 := hX02.below hb5; have hc5 := hX05.cell; clear hc2))
  have hX25 := hX2.below hb5
  have hw5 := bnext hw2 hb5
  have hn0 : w.heap.size < W0.heap.size := by have := hX0.lt; omega
  have hn1 : W0.heap.size < W2.heap.size := by have := hX2.lt; omega
  clear hc5
  go_loopw [15] (fun t wr => ∃ k : Nat, k ≤ L ∧ t = .int .i64 k ∧ wr.ownsRow W2.heap.size 70 64 v5 n ((settle (keeps ks) 0 (r.pe.take k) r.st).flatMap sc) ∧ Blk wr w.heap.size 39 [.slice p n c, .slice q L e, .bool r.ct, .int .i64 r.lf, .bool r.dn] ∧ Blk wr W0.heap.size 39 (rl ⟨[], [], false, 0, false⟩ none 0 none 0) ∧ Below W2.heap.size W2 wr) (fun t _ => L - (intOf t).toNat)
  case atStart => exact ⟨0, Nat.zero_le _, rfl, hown5, hX05, hX25, hb5⟩
  case round =>
    obtain ⟨k, hk, rfl, hown, hX, hR, hbel⟩ := hrel
    have hbw := bnext hw2 hbel
    by_cases hlt : k < L
    · obtain ⟨x, hx⟩ : ∃ x, r.pe[k]? = some x := ⟨_, List.getElem?_eq_getElem (by omega)⟩
      obtain ⟨b, o, rfl, hr⟩ := rk_range wc_len (r2.below hbw) hx
      have hlt' : (k : Int) < (L : Int) := by omega
      have hst := settle_app (keeps ks) 0 (r.pe.take k) x r.st
      rw [show r.pe.take k ++ [x] = r.pe.take (k + 1) by rw [List.take_add_one, hx]; rfl, show 0 + (r.pe.take k).length = k by simp; omega] at hst
      have hxm := hpl x (List.mem_of_getElem? hx)
      obtain ⟨xi, sx⟩ := x
      simp only at hxm hst
      obtain ⟨m, rfl⟩ := Int.eq_ofNat_of_zero_le hxm.1
      simp only [Int.toNat_natCast] at hst
      obtain ⟨st2, hst2⟩ : ∃ st2, st2 = settle (keeps ks) 0 (r.pe.take k) r.st := ⟨_, rfl⟩
      have hlen : st2.length = n := by rw [hst2, settle_len, hn]
      rw [← hst2] at hst hown
      have Hst : Hid (settle (keeps ks) 0 (r.pe.take (k + 1)) r.st = if keeps ks k = true then st2.set m sx else st2) := hst
      clear hst hst2
      by_cases hkk : k < kn
      · have g1 : decide ((k : Int) < (kn : Int)) = true := decide_eq_true (by omega)
        have g2 : decide (k < kn) = true := decide_eq_true hkk
        have g3 : (k : Int) < (kn : Int) := by omega
        obtain ⟨kb, hkb⟩ : ∃ kb, ks[k]? = some kb := ⟨_, List.getElem?_eq_getElem (by omega)⟩
        obtain ⟨b3, o3, rfl, hr3⟩ := rk_range bc_len (r3.below hbw) hkb
        have hv : keeps ks k = kb := by simp [keeps, hkb]
        have hck : ∀ {W : World}, Below wr.heap.size wr W → W.cell? ⟨b3, o3 + k, none⟩ = some (.bool kb) := fun {W} hW => by
          have := hr3 0 (.bool kb) rfl
          simp only [Nat.mul_one, Nat.add_zero] at this
          rw [hW.cell (p := ⟨b3, o3 + k, none⟩) (block_lt_of_cell this)]
          exact this
        cases kb with
        | false =>
          go_wp2_with (first
            | ((refine at_load_rf _ _ _ _ (by rfl) (by rfl) hr (by rfl) ?_))
            | ((refine at_alloc_rf (by rfl) (by rfl) ?_); intro W7 hX7 hB7 hz7)
            | ((refine at_store_wv _ _ _ _ _ _ (size_rf _) (by rfl) (by rfl) (by rfl) hX7 (by rfl) ?_); intro W8 hX8 hg8 hz8; have hb8 := hB7.grown hg8 hB7.size (by simp); have hck8 := hck hb8))
          go_roundw
          case rel => exact ⟨k + 1, by omega, by go_num, by rw [Hst.out, hv]; exact own_below hown hb8, hX.below hb8, hR.below hb8, bnext hbel hb8⟩
          case measure => simp [intOf]; omega
        | true =>
          obtain ⟨b2, c2, hvs⟩ : ∃ b2 c2, v5 = .slice (some ⟨b2, 0, none⟩) n c2 := by
            rcases hown.2 with ⟨_, h0⟩ | ⟨g', cap, cur, hv, _⟩
            · omega
            · exact ⟨g', cap, hv⟩
          subst hvs
          have hmn : (m : Int) < (n : Int) := by omega
          have hb2 := (hown.lt b2 rfl)
          go_wp2_with (first
            | ((refine at_load_rf _ _ _ _ (by rfl) (by rfl) hr (by rfl) ?_))
            | ((refine at_alloc_rf (by rfl) (by rfl) ?_); intro W7 hX7 hB7 hz7)
            | ((refine at_store_wv _ _ _ _ _ _ (size_rf _) (by rfl) (by rfl) (by rfl) hX7 (by rfl) ?_); intro W8 hX8 hg8 hz8; have hb8 := hB7.grown hg8 hB7.size (by simp); have hck8 := hck hb8; have hat8 := blk_wat hX8)
            | ((refine at_load_sec _ _ _ _ (by rfl) (by rfl) (blk_wsec hX8) (by rfl) ?_))
            | ((refine at_store_row _ _ W2.heap.size b2 m n c2 sx st2 hlen (by rfl) (by rfl) (by rfl) (own_below hown hb8) (by omega) (by rfl) ?_); intro W9 hown9 hg9 hz9))
          go_roundw
          case rel => exact ⟨k + 1, by omega, by go_num, by rw [Hst.out, hv]; exact hown9, (hX.below hb8).kept hg9 (by simp; omega), (hR.below hb8).kept hg9 (by simp; omega), (bnext hbel hb8).grown hg9 (bnext hbel hb8).size (by intro j hj; simp at hj; omega)⟩
          case measure => simp [intOf]; omega
      · have g1 : decide ((k : Int) < (kn : Int)) = false := decide_eq_false (by omega)
        have g2 : decide (k < kn) = false := decide_eq_false hkk
        have hv : keeps ks k = false := by simp [keeps, List.getElem?_eq_none (show ks.length ≤ k by omega)]
        go_wp2_with (first
          | ((refine at_load_rf _ _ _ _ (by rfl) (by rfl) hr (by rfl) ?_))
          | ((refine at_alloc_rf (by rfl) (by rfl) ?_); intro W7 hX7 hB7 hz7)
          | ((refine at_store_wv _ _ _ _ _ _ (size_rf _) (by rfl) (by rfl) (by rfl) hX7 (by rfl) ?_); intro W8 hX8 hg8 hz8; have hb8 := hB7.grown hg8 hB7.size (by simp)))
        go_roundw
        case rel => exact ⟨k + 1, by omega, by go_num, by rw [Hst.out, hv]; exact own_below hown hb8, hX.below hb8, hR.below hb8, bnext hbel hb8⟩
        case measure => simp [intOf]; omega
    · have hk' : r.pe.take k = r.pe := List.take_of_length_le (by omega)
      rw [hk'] at hown
      obtain ⟨p5, c5, hv5, hr5, hp5⟩ := own_rk sc_len (by decide) hown
      rw [settle_len, hn] at hv5
      subst hv5
      have hc := hX.cell
      have hz := hX.frozen
      have hX9 : Blk ((wr.setCell ⟨w.heap.size, 0, none⟩ (.slice p5 n c5)).setCell ⟨w.heap.size, 1, none⟩ (.slice none 0 0)) w.heap.size 39 (rl (r.settled (keeps ks)) p5 c5 none 0) := by
        rw [show rl (r.settled (keeps ks)) p5 c5 none 0 = [.slice p5 n c5, .slice none 0 0, .bool r.ct, .int .i64 r.lf, .bool r.dn] by simp [rl, Rfd.settled, settle_len, hn]]
        exact (hX.put 0 _).put 1 _
      have hR9 := (hR.other (p := ⟨w.heap.size, 0, none⟩) (by simp; omega) (.slice p5 n c5)).other (p := ⟨w.heap.size, 1, none⟩) (by simp; omega) (.slice none 0 0)
      go_wp2_with (first
        | ((refine at_load_rd _ _ _ _ _ _ _ (by rfl) (by rfl) hX9 (by rfl) ?_))
        | ((refine at_store_rd _ _ _ _ (r.settled (keeps ks)) p5 c5 none 0 (by rfl) (by rfl) (by rfl) hR9 (by simp [rl]) (by rfl) ?_); intro W10 hX10 hg10 hz10))
      have hb8 := (hbw.setCell (p := ⟨w.heap.size, 0, none⟩) (Nat.le_refl _) (.slice p5 n c5)).setCell (p := ⟨w.heap.size, 1, none⟩) (Nat.le_refl _) (.slice none 0 0)
      have hb10 := hb8.grown hg10 hb8.size (by simp; omega)
      refine ret_rd rfl rfl _ _ _ _ _ _ rfl hX10 ⟨p5, c5, rfl, RK_kept (RK_kept (RK_kept hr5 (only_put wr ⟨w.heap.size, 0, none⟩ _) (fun a ha => ?_)) (only_put _ ⟨w.heap.size, 1, none⟩ _) (fun a ha => ?_)) hg10 (fun a ha => ?_), fun a ha => ?_, hb10⟩
      all_goals (have := hp5 a ha; simp; omega)
end Go.Proofs.Ythgafnommcodcaa.Disk
