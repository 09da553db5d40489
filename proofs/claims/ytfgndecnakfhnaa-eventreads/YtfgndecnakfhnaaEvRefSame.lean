/-
  The same events, in the document's words: floodgateref12.Same. (Written by gen_evrsame.py.)
-/
import Derived.Test.YtfgndecnakfhnaaEvCommit
namespace Go.Proofs.Ytfgndecnakfhnaa.Event
open Go.RowKit Go.Proofs.Ytfgndecnakfhnaa.Mem Go.Proofs.Ytfgndecnakfhnaa.Policy
set_option maxRecDepth 100000

set_option maxHeartbeats 2000000 in
theorem ref_SameE (h1 h2 : Eh) (a b : Ev) (w : World) (i1 : Is w h1 a) (i2 : Is w h2 b) (oa : ∀ p ∈ a.ps, PoOk p) (ob : ∀ p ∈ b.ps, PoOk p) (np : h1.pn ≤ 1000) (nd : h1.dn ≤ 1000) :
    Calls Try.prog 17 #[ev h1, ev h2] w fun e w' => e = .returned (.bool (sameE a b)) ∧ Below w.heap.size w w' := by
  obtain ⟨k, s, ps, ds, g, t⟩ := a
  obtain ⟨k2, s2, ps2, ds2, g2, t2⟩ := b
  obtain ⟨k', s', pp, pn, pc, dp, dn, dc, g', t'⟩ := h1
  obtain ⟨k2', s2', pp2, pn2, pc2, dp2, dn2, dc2, g2', t2'⟩ := h2
  obtain ⟨⟨e1, e2, e3, e4⟩, ⟨l1, r1⟩, m1, d1⟩ := i1
  obtain ⟨⟨f1, f2, f3, f4⟩, ⟨l2, r2⟩, m2, d2⟩ := i2
  simp only at e1 e2 e3 e4 f1 f2 f3 f4 l1 r1 m1 d1 l2 r2 m2 d2 oa ob np nd
  subst e1 e2 e3 e4 f1 f2 f3 f4
  obtain ⟨R, hR⟩ : ∃ R, R = sameE ⟨k', s', ps, ds, g', t'⟩ ⟨k2', s2', ps2, ds2, g2', t2'⟩ := ⟨_, rfl⟩
  rw [← hR]
  have HR : Hid (R = sameE ⟨k', s', ps, ds, g', t'⟩ ⟨k2', s2', ps2, ds2, g2', t2'⟩) := hR
  clear hR
  by_cases q0 : k' = k2'
  · subst q0
    have b0 : (k' != k') = false := by simp
    by_cases q1 : s' = s2'
    · subst q1
      have b1 : (s' != s') = false := by simp
      by_cases q2 : g' = g2'
      · subst q2
        have b2 : (g' != g') = false := by simp
        by_cases q3 : t' = t2'
        · subst q3
          have b3 : (t' != t') = false := by simp
          by_cases q4 : pn = pn2
          · subst q4
            have b4 : ((pn : Int) != (pn : Int)) = false := by simp
            by_cases q5 : dn = dn2
            · subst q5
              have b5 : ((dn : Int) != (dn : Int)) = false := by simp
              replace HR : Hid (R = (eqL ps ps2 && decide (ds = ds2))) := by unfold Hid; rw [HR.out]; simp [sameE]
              go_enter Try.func17, Try.ntmps17
              go_wp2_with (first
                | ((fail_if_success (have _ := hX1)); (refine at_box_ev _ _ (by rfl) (by rfl) (by rfl) ?_); intro V1 hX1 hB1 hz1)
                | ((fail_if_success (have _ := hX2)); (have _ := hX1); (refine at_box_ev _ _ (by rfl) (by rfl) (by rfl) ?_); intro V2 hX2 hB2 hz2; have hX1' := hX1.below hB2; have hB := bnext hB1 hB2; have c1 := cells6 hX1'; have c2 := cells6 hX2; simp only at c1 c2))
              have hr1 := fun {W : World} (hb : Below V2.heap.size V2 W) => r1.below (bnext hB hb)
              have hr2 := fun {W : World} (hb : Below V2.heap.size V2 W) => r2.below (bnext hB hb)
              have hd1 := fun {W : World} (hb : Below V2.heap.size V2 W) => d1.below (bnext hB hb)
              have hd2 := fun {W : World} (hb : Below V2.heap.size V2 W) => d2.below (bnext hB hb)
              clear r1 r2 d1 d2 c1 c2 hX1 hB1 hB2 hz1 hz2
              go_loopw [54] (fun i wr => ∃ k : Nat, k ≤ pn ∧ i = .int .i64 k ∧ Hid (ps.take k = ps2.take k) ∧ Below V2.heap.size V2 wr) (fun i _ => pn - (intOf i).toNat)
              case atStart => exact ⟨0, by omega, rfl, by unfold Hid; simp, Below.refl _ _⟩
              case round =>
                obtain ⟨k, hk, rfl, HK, hBr⟩ := hrel
                by_cases hlt : k < pn
                · obtain ⟨x, hx⟩ : ∃ x, ps[k]? = some x := ⟨_, List.getElem?_eq_getElem (by omega)⟩
                  obtain ⟨y, hy⟩ : ∃ y, ps2[k]? = some y := ⟨_, List.getElem?_eq_getElem (by omega)⟩
                  have HS : Hid (ps.take (k + 1) = ps2.take (k + 1) ↔ x = y) := same_next hx hy HK.out
                  have ox := oa x (List.mem_of_getElem? hx)
                  have oy := ob y (List.mem_of_getElem? hy)
                  obtain ⟨b1, o1, rfl, hlt1, hc1⟩ := (hr1 (Below.refl _ _)).at pl_len hx
                  obtain ⟨b2, o2, rfl, hlt2, hc2⟩ := (hr2 (Below.refl _ _)).at pl_len hy
                  have hw1 : ∀ {W : World}, Below V2.heap.size V2 W → ∀ j v, (pl x)[j]? = some v → W.cell? ⟨b1, o1 + k * 13 + j, none⟩ = some v := fun hB j v hv => (hB.cell (p := ⟨b1, o1 + k * 13 + j, none⟩) hlt1).trans (hc1 j v hv)
                  have hw2 : ∀ {W : World}, Below V2.heap.size V2 W → ∀ j v, (pl y)[j]? = some v → W.cell? ⟨b2, o2 + k * 13 + j, none⟩ = some v := fun hB j v hv => (hB.cell (p := ⟨b2, o2 + k * 13 + j, none⟩) hlt2).trans (hc2 j v hv)
                  clear hx hy hc1 hc2
                  have hlt' : (k : Int) < (pn : Int) := by omega
                  go_wp2
                  refine Inv.region_inv (fun L a w' => a = { tmps := #[(ev { k := k', s := s', pp := some { block := b1, off := o1 }, pn := pn, pc := pc, dp := dp, dn := dn, dc := dc, g := g', t := t' }), (ev { k := k', s := s', pp := some { block := b2, off := o2 }, pn := pn, pc := pc2, dp := dp2, dn := dn, dc := dc2, g := g', t := t' }), (Value.pointer (some { block := w.heap.size, off := 0 })), (Value.pointer (some { block := V1.heap.size, off := 0 })), (u4), (Value.int IntKind.i64 ↑k), undef, (Value.pointer (some { block := w.heap.size, off := 0 })), (Value.int IntKind.i64 k'), (Value.pointer (some { block := V1.heap.size, off := 0 })), (Value.int IntKind.i64 k'), (Value.bool false), (Value.bool false), (Value.pointer (some { block := w.heap.size, off := 1 })), (Value.int IntKind.i64 s'), (Value.pointer (some { block := V1.heap.size, off := 1 })), (Value.int IntKind.i64 s'), (Value.bool false), (Value.bool false), (Value.bool false), (Value.pointer (some { block := w.heap.size, off := 4 })), (Value.int IntKind.u64 g'), (Value.pointer (some { block := V1.heap.size, off := 4 })), (Value.int IntKind.u64 g'), (Value.bool false), (Value.bool false), (Value.bool false), (Value.pointer (some { block := w.heap.size, off := 5 })), (Value.int IntKind.u64 t'), (Value.pointer (some { block := V1.heap.size, off := 5 })), (Value.int IntKind.u64 t'), (Value.bool false), (Value.bool false), (Value.bool false), (Value.pointer (some { block := w.heap.size, off := 2 })), (Value.slice (some { block := b1, off := o1 }) pn pc), (Value.int IntKind.i64 ↑pn), (Value.pointer (some { block := V1.heap.size, off := 2 })), (Value.slice (some { block := b2, off := o2 }) pn pc2), (Value.int IntKind.i64 ↑pn), (Value.bool false), (Value.bool false), (Value.bool false), (Value.pointer (some { block := w.heap.size, off := 3 })), (Value.slice dp dn dc), (Value.int IntKind.i64 ↑dn), (Value.pointer (some { block := V1.heap.size, off := 3 })), (Value.slice dp2 dn dc2), (Value.int IntKind.i64 ↑dn), (Value.bool false), (Value.bool false), (Value.pointer (some { block := w.heap.size, off := 2 })), (Value.slice (some { block := b1, off := o1 }) pn pc), (Value.int IntKind.i64 ↑pn), (Value.int IntKind.i64 ↑k), (Value.bool true), (Value.int IntKind.i64 ↑k), (if L 0 = true then (.pointer (some ⟨w.heap.size, 2, none⟩)) else (u57)), (if L 1 = true then (.slice (some ⟨b1, o1, none⟩) pn pc) else (u58)), (if L 2 = true then (.int .i64 (k : Int)) else (u59)), (if L 3 = true then (.pointer (some ⟨b1, o1 + k * 13, none⟩)) else (u60)), (if L 4 = true then (pv x) else (u61)), (if L 5 = true then (.pointer (some ⟨V1.heap.size, 2, none⟩)) else (u62)), (if L 6 = true then (.slice (some ⟨b2, o2, none⟩) pn pc2) else (u63)), (if L 7 = true then (.int .i64 (k : Int)) else (u64)), (if L 8 = true then (.pointer (some ⟨b2, o2 + k * 13, none⟩)) else (u65)), (if L 9 = true then (pv y) else (u66)), (if L 10 = true then (.bool (!eqB x y)) else (u67)), (u68), undef, undef, undef, undef, undef, undef, undef, undef, undef, undef, undef, undef, undef, undef, undef, undef, undef, undef], defers := [] } ∧ (Below V2.heap.size V2 w')) (by kernel_rfl) (by kernel_rfl) ?h0 ?step ?done
                  case h0 => exact ⟨by simp, hBr.drew⟩
                  case step =>
                    refine Inv.Steps.cons rfl ?_ ?_
                    · intro L a w' hI hL hd K hK
                      obtain ⟨rfl, hI⟩ := hI
                      clear hd
                      rw [if_pos (by rfl)]
                      go_simp
                      exact hK.out _ _ ⟨by simp, hI⟩
                    refine Inv.Steps.cons rfl ?_ ?_
                    · intro L a w' hI hL hd K hK
                      obtain ⟨rfl, hI⟩ := hI
                      simp [Region.binds] at hd
                      simp only [hd, if_true]
                      rw [if_pos (by rfl)]
                      have hc := cells6 (hX1'.below hI)
                      simp only at hc
                      go_simp
                      exact hK.out _ _ ⟨by simp [hd], hI⟩
                    refine Inv.Steps.cons rfl ?_ ?_
                    · intro L a w' hI hL hd K hK
                      obtain ⟨rfl, hI⟩ := hI
                      clear hd
                      rw [if_pos (by rfl)]
                      go_simp
                      exact hK.out _ _ ⟨by simp, hI⟩
                    refine Inv.Steps.cons rfl ?_ ?_
                    · intro L a w' hI hL hd K hK
                      obtain ⟨rfl, hI⟩ := hI
                      simp [Region.binds] at hd
                      simp only [hd, if_true]
                      rw [if_pos (by rfl)]
                      go_simp
                      exact hK.out _ _ ⟨by simp [hd], hI⟩
                    refine Inv.Steps.cons rfl ?_ ?_
                    · intro L a w' hI hL hd K hK
                      obtain ⟨rfl, hI⟩ := hI
                      simp [Region.binds] at hd
                      simp only [hd, if_true]
                      rw [if_pos (by rfl)]
                      refine wp_load_pr _ _ _ _ (by rfl) (by rfl) (hw1 hI) ?_
                      exact hK.out _ _ ⟨by simp [hd, Act.put], hI⟩
                    refine Inv.Steps.cons rfl ?_ ?_
                    · intro L a w' hI hL hd K hK
                      obtain ⟨rfl, hI⟩ := hI
                      clear hd
                      rw [if_pos (by rfl)]
                      go_simp
                      exact hK.out _ _ ⟨by simp, hI⟩
                    refine Inv.Steps.cons rfl ?_ ?_
                    · intro L a w' hI hL hd K hK
                      obtain ⟨rfl, hI⟩ := hI
                      simp [Region.binds] at hd
                      simp only [hd, if_true]
                      rw [if_pos (by rfl)]
                      have hc := cells6 (hX2.below hI)
                      simp only at hc
                      go_simp
                      exact hK.out _ _ ⟨by simp [hd], hI⟩
                    refine Inv.Steps.cons rfl ?_ ?_
                    · intro L a w' hI hL hd K hK
                      obtain ⟨rfl, hI⟩ := hI
                      clear hd
                      rw [if_pos (by rfl)]
                      go_simp
                      exact hK.out _ _ ⟨by simp, hI⟩
                    refine Inv.Steps.cons rfl ?_ ?_
                    · intro L a w' hI hL hd K hK
                      obtain ⟨rfl, hI⟩ := hI
                      simp [Region.binds] at hd
                      simp only [hd, if_true]
                      rw [if_pos (by rfl)]
                      go_simp
                      exact hK.out _ _ ⟨by simp [hd], hI⟩
                    refine Inv.Steps.cons rfl ?_ ?_
                    · intro L a w' hI hL hd K hK
                      obtain ⟨rfl, hI⟩ := hI
                      simp [Region.binds] at hd
                      simp only [hd, if_true]
                      rw [if_pos (by rfl)]
                      refine wp_load_pr _ _ _ _ (by rfl) (by rfl) (hw2 hI) ?_
                      exact hK.out _ _ ⟨by simp [hd, Act.put], hI⟩
                    refine Inv.Steps.cons rfl ?_ ?_
                    · intro L a w' hI hL hd K hK
                      obtain ⟨rfl, hI⟩ := hI
                      simp [Region.binds] at hd
                      simp only [hd, if_true]
                      rw [if_pos (by rfl)]
                      refine wp_neq_po ox oy _ _ (by rfl) (by rfl) (by rfl) ?_
                      exact hK.out _ _ ⟨by simp [hd, Act.put], hI⟩
                    exact Inv.Steps.nil (by decide)
                  case done =>
                    intro L a w' hI hall
                    obtain ⟨rfl, hI⟩ := hI
                    simp only [hall, if_true] at hI ⊢
                    cases hd : eqB x y with
                    | false =>
                      have HNE : Hid (ps ≠ ps2) := fun q => by
                        rw [eqB_iff.2 (HS.out.1 (by rw [q]))] at hd
                        cases hd
                      obtain rfl : R = false := by rw [HR.out, eqL_not HNE.out]; rfl
                      clear hd
                      go_wp2
                      go_ret
                      exact ⟨rfl, bnext hB hI⟩
                    | true =>
                      have HN : Hid (ps.take (k + 1) = ps2.take (k + 1)) := HS.out.2 (eqB_iff.1 hd)
                      clear hd
                      go_wp2
                      go_roundw
                      case rel => exact ⟨k + 1, by omega, by go_num, HN, hI⟩
                      case measure => simp [intOf]; omega
                · have hkn : k = pn := by omega
                  have HE : Hid (ps = ps2) := by
                    have := HK.out
                    rw [List.take_of_length_le (by omega), List.take_of_length_le (by omega)] at this
                    exact this
                  obtain rfl : R = decide (ds = ds2) := by rw [HR.out, eqL_iff.2 HE.out, Bool.true_and]
                  have c3 := cells6 (hX1'.below hBr)
                  simp only at c3
                  clear hkn HK
                  go_wp2
                  go_loopw [72] (fun i ws => ∃ m : Nat, m ≤ dn ∧ i = .int .i64 m ∧ Below V2.heap.size V2 ws ∧ Hid (ds.take m = ds2.take m)) (fun i _ => dn - (intOf i).toNat)
                  case atStart => exact ⟨0, Nat.zero_le _, rfl, hBr, by unfold Hid; simp⟩
                  case round =>
                    obtain ⟨m, hm, rfl, hnx, HK⟩ := hrel
                    clear c3
                    by_cases hlt : m < dn
                    · obtain ⟨x, hx⟩ : ∃ x, ds[m]? = some x := ⟨_, List.getElem?_eq_getElem (by omega)⟩
                      obtain ⟨y, hy⟩ : ∃ y, ds2[m]? = some y := ⟨_, List.getElem?_eq_getElem (by omega)⟩
                      have HS : Hid (ds.take (m + 1) = ds2.take (m + 1) ↔ x = y) := same_next hx hy HK.out
                      obtain ⟨b, o, rfl, _, hk1⟩ := cell_at (hd1 hnx) hx
                      obtain ⟨b', o', rfl, _, hk2⟩ := cell_at (hd2 hnx) hy
                      have hi1 : (m : Int) < (dn : Int) := by omega
                      have c1 := cells6 (hX1'.below hnx)
                      have c2 := cells6 (hX2.below hnx)
                      simp only at c1 c2
                      clear hx hy
                      by_cases hxy : x = y
                      · have HN : Hid (ds.take (m + 1) = ds2.take (m + 1)) := HS.out.2 hxy
                        subst hxy
                        have hbb : (x != x) = false := by simp
                        go_wp2_with fail
                        go_quiet (fail)
                        go_wp2_with fail
                        go_roundw
                        case rel => exact ⟨m + 1, by omega, by go_num, bnext hnx (bdrewN _ _), HN⟩
                        case measure => simp [intOf]; omega
                      · have HNE : Hid (ds ≠ ds2) := fun q => hxy (HS.out.1 (by rw [q]))
                        have hbb : (x != y) = true := by simpa using hxy
                        go_wp2_with fail
                        go_quiet (fail)
                        go_wp2_with fail
                        go_ret
                        exact ⟨by rw [decide_eq_false HNE.out]; rfl, bnext hB (bnext hnx (bdrewN _ _))⟩
                    · have HE2 : Hid (ds = ds2) := by
                        have := HK.out
                        rw [List.take_of_length_le (by omega), List.take_of_length_le (by omega)] at this
                        exact this
                      go_wp2_with fail
                      go_ret
                      exact ⟨by rw [decide_eq_true HE2.out]; rfl, bnext hB hnx⟩
            · have b5 : ((dn : Int) != (dn2 : Int)) = true := by simp; omega
              obtain rfl : R = false := by
                rw [HR.out]
                cases hq : sameE ⟨k', s', ps, ds, g', t'⟩ ⟨k', s', ps2, ds2, g', t'⟩ with
                | false => rfl
                | true =>
                  have hee := sameE_iff.1 hq
                  simp only [Ev.mk.injEq, true_and, and_true] at hee
                  exact absurd (by rw [← m1, ← m2, hee.2]) q5
              clear HR
              go_enter Try.func17, Try.ntmps17
              go_wp2_with (first
                | ((fail_if_success (have _ := hX1)); (refine at_box_ev _ _ (by rfl) (by rfl) (by rfl) ?_); intro V1 hX1 hB1 hz1)
                | ((fail_if_success (have _ := hX2)); (have _ := hX1); (refine at_box_ev _ _ (by rfl) (by rfl) (by rfl) ?_); intro V2 hX2 hB2 hz2; have hX1' := hX1.below hB2; have hB := bnext hB1 hB2; have c1 := cells6 hX1'; have c2 := cells6 hX2; simp only at c1 c2))
              go_ret
              exact ⟨rfl, hB⟩
          · have b4 : ((pn : Int) != (pn2 : Int)) = true := by simp; omega
            obtain rfl : R = false := by
              rw [HR.out]
              cases hq : sameE ⟨k', s', ps, ds, g', t'⟩ ⟨k', s', ps2, ds2, g', t'⟩ with
              | false => rfl
              | true =>
                have hee := sameE_iff.1 hq
                simp only [Ev.mk.injEq, true_and, and_true] at hee
                exact absurd (by rw [← l1, ← l2, hee.1]) q4
            clear HR
            go_enter Try.func17, Try.ntmps17
            go_wp2_with (first
              | ((fail_if_success (have _ := hX1)); (refine at_box_ev _ _ (by rfl) (by rfl) (by rfl) ?_); intro V1 hX1 hB1 hz1)
              | ((fail_if_success (have _ := hX2)); (have _ := hX1); (refine at_box_ev _ _ (by rfl) (by rfl) (by rfl) ?_); intro V2 hX2 hB2 hz2; have hX1' := hX1.below hB2; have hB := bnext hB1 hB2; have c1 := cells6 hX1'; have c2 := cells6 hX2; simp only at c1 c2))
            go_ret
            exact ⟨rfl, hB⟩
        · have b3 : (t' != t2') = true := by simpa using q3
          obtain rfl : R = false := by rw [HR.out]; simp [sameE, q3]
          clear HR
          go_enter Try.func17, Try.ntmps17
          go_wp2_with (first
            | ((fail_if_success (have _ := hX1)); (refine at_box_ev _ _ (by rfl) (by rfl) (by rfl) ?_); intro V1 hX1 hB1 hz1)
            | ((fail_if_success (have _ := hX2)); (have _ := hX1); (refine at_box_ev _ _ (by rfl) (by rfl) (by rfl) ?_); intro V2 hX2 hB2 hz2; have hX1' := hX1.below hB2; have hB := bnext hB1 hB2; have c1 := cells6 hX1'; have c2 := cells6 hX2; simp only at c1 c2))
          go_ret
          exact ⟨rfl, hB⟩
      · have b2 : (g' != g2') = true := by simpa using q2
        obtain rfl : R = false := by rw [HR.out]; simp [sameE, q2]
        clear HR
        go_enter Try.func17, Try.ntmps17
        go_wp2_with (first
          | ((fail_if_success (have _ := hX1)); (refine at_box_ev _ _ (by rfl) (by rfl) (by rfl) ?_); intro V1 hX1 hB1 hz1)
          | ((fail_if_success (have _ := hX2)); (have _ := hX1); (refine at_box_ev _ _ (by rfl) (by rfl) (by rfl) ?_); intro V2 hX2 hB2 hz2; have hX1' := hX1.below hB2; have hB := bnext hB1 hB2; have c1 := cells6 hX1'; have c2 := cells6 hX2; simp only at c1 c2))
        go_ret
        exact ⟨rfl, hB⟩
    · have b1 : (s' != s2') = true := by simpa using q1
      obtain rfl : R = false := by rw [HR.out]; simp [sameE, q1]
      clear HR
      go_enter Try.func17, Try.ntmps17
      go_wp2_with (first
        | ((fail_if_success (have _ := hX1)); (refine at_box_ev _ _ (by rfl) (by rfl) (by rfl) ?_); intro V1 hX1 hB1 hz1)
        | ((fail_if_success (have _ := hX2)); (have _ := hX1); (refine at_box_ev _ _ (by rfl) (by rfl) (by rfl) ?_); intro V2 hX2 hB2 hz2; have hX1' := hX1.below hB2; have hB := bnext hB1 hB2; have c1 := cells6 hX1'; have c2 := cells6 hX2; simp only at c1 c2))
      go_ret
      exact ⟨rfl, hB⟩
  · have b0 : (k' != k2') = true := by simpa using q0
    obtain rfl : R = false := by rw [HR.out]; simp [sameE, q0]
    clear HR
    go_enter Try.func17, Try.ntmps17
    go_wp2_with (first
      | ((fail_if_success (have _ := hX1)); (refine at_box_ev _ _ (by rfl) (by rfl) (by rfl) ?_); intro V1 hX1 hB1 hz1)
      | ((fail_if_success (have _ := hX2)); (have _ := hX1); (refine at_box_ev _ _ (by rfl) (by rfl) (by rfl) ?_); intro V2 hX2 hB2 hz2; have hX1' := hX1.below hB2; have hB := bnext hB1 hB2; have c1 := cells6 hX1'; have c2 := cells6 hX2; simp only at c1 c2))
    go_ret
    exact ⟨rfl, hB⟩
end Go.Proofs.Ytfgndecnakfhnaa.Event
