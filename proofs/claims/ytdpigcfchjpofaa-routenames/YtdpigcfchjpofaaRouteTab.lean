/-
  What is done with a table: New, Len, Set, Delete.
-/
import Derived.Test.YtdpigcfchjpofaaRouteKeys
import Derived.Test.YtdpigcfchjpofaaAddrNet
namespace Go.Proofs.Ytdpigcfchjpofaa.Route
open Go.RowKit Go.Maps Go.Proofs.Ytdpigcfchjpofaa.Mem Go.Proofs.Ytdpigcfchjpofaa.Addr

theorem route_New (w : World) :
    Calls Try.prog 8 #[] w fun e w' => ∃ g b, e = .returned (.pointer (some ⟨g, 0, none⟩)) ∧ TabAt w' g b [] ∧ w.heap.size ≤ g ∧ w.heap.size ≤ b ∧ Below w.heap.size w w' := by
  have hmm := @run_makeMap Try.prog
  have ho := tab_mk good_nil (World.ownsMap_made w Try.prog 29 (plainElem Try.prog 3)) ag_nil
  go_enter Try.func8, Try.ntmps8
  go_wp2
  go_ret
  exact ⟨_, _, rfl, ⟨by simp, ho.below (bnew _ _)⟩, by simp, Nat.le_refl _, bnext (bnew _ _) (bnew _ _)⟩
theorem route_Len {w : World} {g b : Nat} {M : List Rt} (h : TabAt w g b M) :
    Calls Try.prog 11 #[.pointer (some ⟨g, 0, none⟩)] w fun e w' => e = .returned (.int .i64 M.length) ∧ w' = w := by
  have c0 := h.1
  have hl := fun ty => tab_len h.2 ty
  go_enter Try.func11, Try.ntmps11
  go_wp2
  go_ret
  exact ⟨rfl, rfl⟩
/-- The look-up, whatever is drawn. -/
theorem look_drewN {w : World} {b : Nat} {M : List Rt} (h : Tab w b M) {k : Nt} (hk : NOk k) :
    ∃ c, ∀ n, (Instr.lookup 54 (.map (some b)) (net k.1 k.2) true).run Try.prog (w.drewN n) = .ok (.tuple #[.int .i64 c, .bool (hasM M k)]) (w.drewN n) := by
  obtain ⟨hM, D, ho, ha⟩ := h
  obtain ⟨v, ps, _, hv⟩ := ho.look_ok law Try.underlying54 (zeroInt w) (plainElem_int Try.underlying3 (by decide)) (keyOf_net hk)
  obtain ⟨c, _, hc, _⟩ := plainElem_int_inv Try.underlying3 hv
  refine ⟨c, fun n => ?_⟩
  have ho' : (w.drewN n).ownsMap Try.prog 29 (plainElem Try.prog 3) b M.length D := ho
  obtain ⟨v', ps', hrun, hv'⟩ := ho'.look_ok law Try.underlying54 (zeroInt _) (plainElem_int Try.underlying3 (by decide)) (keyOf_net hk)
  obtain ⟨c', rfl, hc', _⟩ := plainElem_int_inv Try.underlying3 hv'
  simp only [Prod.mk.injEq] at hc hc'
  have e : (DataW.lit (Lit.int .i64 c) : DataW Unit) = .lit (Lit.int .i64 c') := hc.1.symm.trans hc'.1
  simp only [DataW.lit.injEq, Lit.int.injEq, true_and] at e
  rw [hrun, ha.1 k hk, e]
theorem route_Delete {w : World} {g b : Nat} {M : List Rt} (h : TabAt w g b M) {k : Nt} (hk : NOk k) :
    Calls Try.prog 14 #[.pointer (some ⟨g, 0, none⟩), net k.1 k.2] w fun e w' => e = .returned (.bool (hasM M k)) ∧ TabAt w' g b (delM M k) ∧ w.grownBy w' (some b) := by
  have hT1 : TabAt (w.alloc (.cells #[.int .u8 (b0 k.1), .int .u8 (b1 k.1), .int .u8 (b2 k.1), .int .u8 (b3 k.1), .int .i64 k.2] 29)) g b M := h.below (bnew _ _)
  obtain ⟨c, hl⟩ := look_drewN hT1.2 hk
  have hbx := new5 w (.int .u8 (b0 k.1)) (.int .u8 (b1 k.1)) (.int .u8 (b2 k.1)) (.int .u8 (b3 k.1)) (.int .i64 k.2) 29
  have hg1 := grown_of_below (bnew w (.cells #[.int .u8 (b0 k.1), .int .u8 (b1 k.1), .int .u8 (b2 k.1), .int .u8 (b3 k.1), .int .i64 k.2] 29))
  unfold net at hl ⊢
  obtain ⟨⟨k0, k1, k2, k3, -, -, -, -, -⟩, k4, -⟩ := hbx
  have c0 := hT1.1
  go_enter Try.func14, Try.ntmps14
  go_wp2
  generalize hW : w.alloc (.cells #[.int .u8 (b0 k.1), .int .u8 (b1 k.1), .int .u8 (b2 k.1), .int .u8 (b3 k.1), .int .i64 k.2] 29) = W at hT1 hl k0 k1 k2 k3 k4 c0 hg1 ⊢
  clear hW
  go_quiet (fail)
  go_wp2
  have hT2 : TabAt (W.drewN nq) g b M := hT1.below (bdrewN _ _)
  have hg2 : w.grownBy (W.drewN nq) none := hg1.trans (grown_of_below (bdrewN _ _))
  have k0 : (W.drewN nq).cell? ⟨w.heap.size, 0, none⟩ = _ := k0
  have k1 : (W.drewN nq).cell? ⟨w.heap.size, 1, none⟩ = _ := k1
  have k2 : (W.drewN nq).cell? ⟨w.heap.size, 2, none⟩ = _ := k2
  have k3 : (W.drewN nq).cell? ⟨w.heap.size, 3, none⟩ = _ := k3
  have k4 : (W.drewN nq).cell? ⟨w.heap.size, 4, none⟩ = _ := k4
  generalize W.drewN nq = V at hT2 hg2 k0 k1 k2 k3 k4 ⊢
  clear c0 hT1 hg1 hl
  have c0 := hT2.1
  obtain ⟨w3, hdr, hT3, hg3⟩ := tab_drop (w := V.drew) (hT2.2.below (Below.refl _ _).drew) hk 0
  unfold net at hdr
  go_region
  go_wp2
  go_ret
  have hg4 : V.grownBy w3 (some b) := ((grown_of_below (Below.refl _ V).drew).but _).trans hg3
  exact ⟨rfl, hT2.turned hg4 hT3, (hg2.but _).trans hg4⟩
theorem route_Set {w : World} {g b : Nat} {M : List Rt} (h : TabAt w g b M) {r : Rt} (hr : ROk r) (hM : M.length ≤ 64) :
    Calls Try.prog 9 #[.pointer (some ⟨g, 0, none⟩), net r.1 r.2.1, .int .i64 r.2.2] w fun e w' => e = .returned (.int .i64 (setE M r)) ∧ TabAt w' g b (setM M r) ∧ w.grownBy w' (some b) := by
  have hT1 : TabAt (w.alloc (.cells #[.int .u8 (b0 r.1), .int .u8 (b1 r.1), .int .u8 (b2 r.1), .int .u8 (b3 r.1), .int .i64 r.2.1] 29)) g b M := h.below (bnew _ _)
  have hbx := new5 w (.int .u8 (b0 r.1)) (.int .u8 (b1 r.1)) (.int .u8 (b2 r.1)) (.int .u8 (b3 r.1)) (.int .i64 r.2.1) 29
  have hg1 := grown_of_below (bnew w (.cells #[.int .u8 (b0 r.1), .int .u8 (b1 r.1), .int .u8 (b2 r.1), .int .u8 (b3 r.1), .int .i64 r.2.1] 29))
  have hR := fun w => addr_Right r.1 hr.1.1 r.2.1 w
  cases hri : rightN r.1 r.2.1 with
  | false =>
    have e : setOk M r = false := by simp [setOk, hri]
    simp only [setE, setM, e, Bool.false_eq_true, if_false]
    simp only [hri] at hR
    unfold net at hR ⊢
    go_enter Try.func9, Try.ntmps9
    go_wp2_with (go_at_call 22; refine (hR _).mono ?_; rintro e w1 ⟨rfl, hb1⟩)
    go_ret
    exact ⟨rfl, hT1.below hb1, (hg1.trans (grown_of_below hb1)).but _⟩
  | true =>
    simp only [hri] at hR
    by_cases hw : r.2.2 < 0
    · have e : setOk M r = false := by
        have : ¬ 0 ≤ r.2.2 := by omega
        simp [setOk, hri, this]
      simp only [setE, setM, e, Bool.false_eq_true, if_false]
      unfold net at hR ⊢
      go_enter Try.func9, Try.ntmps9
      go_wp2_with (go_at_call 22; refine (hR _).mono ?_; rintro e w1 ⟨rfl, hb1⟩)
      go_ret
      exact ⟨rfl, hT1.below hb1, (hg1.trans (grown_of_below hb1)).but _⟩
    · unfold net at hR ⊢
      go_enter Try.func9, Try.ntmps9
      go_wp2_with (go_at_call 22; refine (hR _).mono ?_; rintro e w1 ⟨rfl, hb1⟩)
      have hT2 := hT1.below hb1
      have hg2 := hg1.trans (grown_of_below hb1)
      have hbx2 := hbx.below hb1
      obtain ⟨c, hl⟩ := look_drewN hT2.2 hr.1
      simp only [kof] at hl
      unfold net at hl
      obtain ⟨⟨k0, k1, k2, k3, -, -, -, -, -⟩, k4, -⟩ := hbx2
      have c0 := hT2.1
      clear hb1 hT1 hg1 hbx
      have hlen := fun n ty => tab_len (w := w1.drewN n) (hT2.2.below (bdrewN _ n)) ty
      cases hh : hasM M (kof r) with
      | true =>
        have e : setOk M r = true := by
          have : 0 ≤ r.2.2 := by omega
          simp [setOk, hri, this, hh]
        simp only [kof] at hh
        rw [hh] at hl
        go_quiet (fail)
        go_wp2
        have hT3 : TabAt (w1.drewN nq) g b M := hT2.below (bdrewN _ _)
        have hg3 : w.grownBy (w1.drewN nq) none := hg2.trans (grown_of_below (bdrewN _ _))
        have k0 : (w1.drewN nq).cell? ⟨w.heap.size, 0, none⟩ = _ := k0
        have k1 : (w1.drewN nq).cell? ⟨w.heap.size, 1, none⟩ = _ := k1
        have k2 : (w1.drewN nq).cell? ⟨w.heap.size, 2, none⟩ = _ := k2
        have k3 : (w1.drewN nq).cell? ⟨w.heap.size, 3, none⟩ = _ := k3
        have k4 : (w1.drewN nq).cell? ⟨w.heap.size, 4, none⟩ = _ := k4
        generalize w1.drewN nq = V at hT3 hg3 k0 k1 k2 k3 k4 ⊢
        clear c0 hT2 hg2 hl hlen hR
        have c0 := hT3.1
        obtain ⟨w4, hst, hT4, hg4⟩ := tab_store (w := V.drew) (hT3.2.below (Below.refl _ _).drew) hr (by omega)
        unfold net at hst
        go_region
        go_wp2
        go_ret
        have hg5 : V.grownBy w4 (some b) := ((grown_of_below (Below.refl _ V).drew).but _).trans hg4
        simp only [setE, setM, e, if_true]
        exact ⟨rfl, hT3.turned hg5 hT4, (hg3.but _).trans hg5⟩
      | false =>
        simp only [kof] at hh
        rw [hh] at hl
        by_cases hf : M.length < 64
        · have e : setOk M r = true := by
            have : 0 ≤ r.2.2 := by omega
            simp [setOk, hri, this, hf]
          have hf2 : ¬ (64 : Int) ≤ (M.length : Int) := by omega
          go_quiet (fail)
          go_wp2
          all_goals first
            | (exfalso; omega)
            | skip
          have hT3 : TabAt (w1.drewN nq) g b M := hT2.below (bdrewN _ _)
          have hg3 : w.grownBy (w1.drewN nq) none := hg2.trans (grown_of_below (bdrewN _ _))
          have k0 : (w1.drewN nq).cell? ⟨w.heap.size, 0, none⟩ = _ := k0
          have k1 : (w1.drewN nq).cell? ⟨w.heap.size, 1, none⟩ = _ := k1
          have k2 : (w1.drewN nq).cell? ⟨w.heap.size, 2, none⟩ = _ := k2
          have k3 : (w1.drewN nq).cell? ⟨w.heap.size, 3, none⟩ = _ := k3
          have k4 : (w1.drewN nq).cell? ⟨w.heap.size, 4, none⟩ = _ := k4
          generalize w1.drewN nq = V at hT3 hg3 k0 k1 k2 k3 k4 ⊢
          clear c0 hT2 hg2 hl hlen hR
          have c0 := hT3.1
          obtain ⟨w4, hst, hT4, hg4⟩ := tab_store (w := V.drew) (hT3.2.below (Below.refl _ _).drew) hr (by omega)
          unfold net at hst
          go_region
          go_wp2
          go_ret
          have hg5 : V.grownBy w4 (some b) := ((grown_of_below (Below.refl _ V).drew).but _).trans hg4
          simp only [setE, setM, e, if_true]
          exact ⟨rfl, hT3.turned hg5 hT4, (hg3.but _).trans hg5⟩
        · have e : setOk M r = false := by
            simp [setOk, hri, hf, kof, hh]
          have hf2 : (64 : Int) ≤ (M.length : Int) := by omega
          go_quiet (fail)
          go_wp2
          go_ret
          simp only [setE, setM, e, Bool.false_eq_true, if_false]
          exact ⟨rfl, hT2.below (bdrewN _ _), (hg2.trans (grown_of_below (bdrewN _ _))).but _⟩
end Go.Proofs.Ytdpigcfchjpofaa.Route
