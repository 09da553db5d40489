/-
  Which events can be: event.Right. (Written by gen_evright.py.)
-/
import Derived.Test.YtnaofcggdjbocaaEvCommit
namespace Go.Proofs.Ytnaofcggdjbocaa.Event
open Go.RowKit Go.Proofs.Ytnaofcggdjbocaa.Mem Go.Proofs.Ytnaofcggdjbocaa.Policy
set_option maxRecDepth 100000

set_option maxHeartbeats 2000000 in
theorem event_Right (h : Eh) (e : Ev) (w : World) (i : Is w h e) (oe : ∀ p ∈ e.ps, PoOk p) (np : h.pn ≤ 1000) (nd : h.dn ≤ 1000) :
    Calls Try.prog 23 #[ev h] w fun x w' => x = .returned (.bool (rightE e)) ∧ Below w.heap.size w w' := by
  have hS := fun {W : World} (hb : Below w.heap.size w W) (h2 : Eh) (b : Ev) (i2 : Is W h2 b) (ob : ∀ p ∈ b.ps, PoOk p) => event_Same h h2 e b W (i.below hb) i2 oe ob np nd
  have hS1 := fun {W : World} (hb : Below w.heap.size w W) => hS hb ⟨1, 0, h.pp, h.pn, h.pc, h.dp, h.dn, h.dc, 0, 0⟩ (commitE e.ps e.ds) ⟨⟨rfl, rfl, rfl, rfl⟩, (i.below hb).2.1, (i.below hb).2.2⟩ oe
  have hS2 := fun {W : World} (hb : Below w.heap.size w W) => hS hb ⟨2, h.s, none, 0, 0, none, 0, 0, h.g, 0⟩ (leaseE e.s e.g) ⟨⟨rfl, i.1.2.1, i.1.2.2.1, rfl⟩, ⟨rfl, RK.nil _ _⟩, rfl, Reads.nil _ _⟩ (by simp [leaseE])
  have hS3 := fun {W : World} (hb : Below w.heap.size w W) => hS hb ⟨3, 0, none, 0, 0, none, 0, 0, 0, h.t⟩ (periodE e.t) ⟨⟨rfl, rfl, rfl, i.1.2.2.2⟩, ⟨rfl, RK.nil _ _⟩, rfl, Reads.nil _ _⟩ (by simp [periodE])
  have hC := fun {W : World} (hb : Below w.heap.size w W) => event_rightCommit h.pp h.pn h.pc e.ps i.2.1.1 np h.dp h.dn h.dc e.ds i.2.2.1 nd W (i.below hb).2.1.2 (i.below hb).2.2.2 oe
  clear hS
  obtain ⟨R, hR⟩ : ∃ R, R = rightE e := ⟨_, rfl⟩
  rw [← hR]
  have HR : Hid (R = rightE e) := hR
  clear hR
  obtain ⟨k, s, ps, ds, g, t⟩ := e
  obtain ⟨k', s', pp, pn, pc, dp, dn, dc, g', t'⟩ := h
  obtain ⟨⟨e1, e2, e3, e4⟩, -, -⟩ := i
  simp only at e1 e2 e3 e4 hS1 hS2 hS3 hC HR np nd
  subst e1 e2 e3 e4
  clear oe np nd
  have hsub := event_rightSub s'
  have hg := event_rightValue g'
  have ht := event_rightValue t'
  obtain ⟨B1, hB1⟩ : ∃ B, sameE ⟨k', s', ps, ds, g', t'⟩ (commitE ps ds) = B := ⟨_, rfl⟩
  obtain ⟨B2, hB2⟩ : ∃ B, sameE ⟨k', s', ps, ds, g', t'⟩ (leaseE s' g') = B := ⟨_, rfl⟩
  obtain ⟨B3, hB3⟩ : ∃ B, sameE ⟨k', s', ps, ds, g', t'⟩ (periodE t') = B := ⟨_, rfl⟩
  obtain ⟨C, hCC⟩ : ∃ C, comB ps ds = C := ⟨_, rfl⟩
  obtain ⟨S, hSS⟩ : ∃ S, subB s' = S := ⟨_, rfl⟩
  obtain ⟨G, hGG⟩ : ∃ G, valB g' = G := ⟨_, rfl⟩
  obtain ⟨T, hTT⟩ : ∃ T, valB t' = T := ⟨_, rfl⟩
  have HR2 : Hid (R = if k' = 1 then B1 && C else if k' = 2 then B2 && S && G else if k' = 3 then B3 && T else false) := by
    unfold Hid
    rw [HR.out]
    unfold rightE
    rw [hB1, hB2, hB3, hCC, hSS, hGG, hTT]
  rw [hB1] at hS1
  rw [hB2] at hS2
  rw [hB3] at hS3
  rw [hCC] at hC
  rw [hSS] at hsub
  rw [hGG] at hg
  rw [hTT] at ht
  clear HR hB1 hB2 hB3 hCC hSS hGG hTT
  by_cases q1 : k' = 1
  · subst q1
    cases B1 with
    | true =>
      obtain rfl : R = C := by rw [HR2.out]; rfl
      go_enter Try.func23, Try.ntmps23
      go_wp2_with (first | ((fail_if_success (have _ := hX1)); (refine at_box_ev _ _ (by rfl) (by rfl) (by rfl) ?_); intro V1 hX1 hB1 hz1; have c1 := cells6 hX1; simp only at c1))
      refine Inv.region_inv (fun L a w' => a = { tmps := #[(ev { k := 1, s := s', pp := pp, pn := pn, pc := pc, dp := dp, dn := dn, dc := dc, g := g', t := t' }), (Value.pointer (some { block := w.heap.size, off := 0 })), (if L 14 = true then (.bool R) else (Value.bool false)), (Value.pointer (some { block := w.heap.size, off := 0 })), (Value.int IntKind.i64 1), (Value.bool true), (Value.bool true), (if L 0 = true then (ev ⟨1, s', pp, pn, pc, dp, dn, dc, g', t'⟩) else undef), (if L 1 = true then (.pointer (some ⟨w.heap.size, 2, none⟩)) else undef), (if L 2 = true then (.slice pp pn pc) else undef), (if L 3 = true then (.pointer (some ⟨w.heap.size, 3, none⟩)) else undef), (if L 4 = true then (.slice dp dn dc) else undef), (if L 5 = true then (ev ⟨1, 0, pp, pn, pc, dp, dn, dc, 0, 0⟩) else undef), (if L 6 = true then (.bool true) else undef), (if L 7 = true then (.bool true) else undef), (if L 8 = true then (.pointer (some ⟨w.heap.size, 2, none⟩)) else undef), (if L 9 = true then (.slice pp pn pc) else undef), (if L 10 = true then (.pointer (some ⟨w.heap.size, 3, none⟩)) else undef), (if L 11 = true then (.slice dp dn dc) else undef), (if L 12 = true then (.bool R) else undef), (if L 13 = true then (.bool R) else undef), undef, undef, undef, undef, undef, undef, undef, undef, undef, undef, undef, undef, undef, undef, undef, undef, undef, undef, undef, undef, undef, undef, undef, undef, undef, undef, undef, undef, undef, undef, undef], defers := [] } ∧ (Blk w' w.heap.size 32 (el ⟨1, s', pp, pn, pc, dp, dn, dc, g', t'⟩) ∧ Below w.heap.size w w')) (by kernel_rfl) (by kernel_rfl) ?h0 ?step ?done
      case h0 => exact ⟨by simp, hX1.drew, hB1.drew⟩
      case step =>
        refine Inv.Steps.cons rfl ?_ ?_
        · intro L a w' hI hL hd K hK
          obtain ⟨rfl, hI⟩ := hI
          clear hd
          rw [if_pos (by rfl)]
          refine wp_load_ev _ _ _ (by rfl) (by rfl) hI.1 ?_
          exact hK.out _ _ ⟨by simp [Act.put], hI⟩
        refine Inv.Steps.cons rfl ?_ ?_
        · intro L a w' hI hL hd K hK
          obtain ⟨rfl, hI⟩ := hI
          clear hd
          rw [if_pos (by rfl)]
          go_simp
          exact hK.out _ _ ⟨by simp, hI⟩
        refine Inv.Steps.cons rfl ?_ ?_
        · intro L a w' hI hL hd K hK
          obtain ⟨rfl, hI⟩ := hI
          simp [Region.binds] at hd
          simp only [hd, if_true]
          rw [if_pos (by rfl)]
          have hc := cells6 hI.1
          simp only at hc
          go_simp
          exact hK.out _ _ ⟨by simp [hd], hI⟩
        refine Inv.Steps.cons rfl ?_ ?_
        · intro L a w' hI hL hd K hK
          obtain ⟨rfl, hI⟩ := hI
          clear hd
          rw [if_pos (by rfl)]
          go_simp
          exact hK.out _ _ ⟨by simp, hI⟩
        refine Inv.Steps.cons rfl ?_ ?_
        · intro L a w' hI hL hd K hK
          obtain ⟨rfl, hI⟩ := hI
          simp [Region.binds] at hd
          simp only [hd, if_true]
          rw [if_pos (by rfl)]
          have hc := cells6 hI.1
          simp only at hc
          go_simp
          exact hK.out _ _ ⟨by simp [hd], hI⟩
        refine Inv.Steps.cons rfl ?_ ?_
        · intro L a w' hI hL hd K hK
          obtain ⟨rfl, hI⟩ := hI
          simp [Region.binds] at hd
          simp only [hd, if_true]
          rw [if_pos (by rfl)]
          go_simp
          refine (event_commit _ _ _ _ _ _ _).mono ?_
          rintro e w6 ⟨rfl, hB6⟩
          exact hK.out _ _ ⟨by simp [hd], hI.1.below hB6, bnext hI.2 hB6⟩
        refine Inv.Steps.cons rfl ?_ ?_
        · intro L a w' hI hL hd K hK
          obtain ⟨rfl, hI⟩ := hI
          simp [Region.binds] at hd
          simp only [hd, if_true]
          rw [if_pos (by rfl)]
          go_simp
          refine (hS1 hI.2).mono ?_
          rintro e w6 ⟨rfl, hB6⟩
          exact hK.out _ _ ⟨by simp [hd], hI.1.below hB6, bnext hI.2 hB6⟩
        refine Inv.Steps.cons rfl ?_ ?_
        · intro L a w' hI hL hd K hK
          obtain ⟨rfl, hI⟩ := hI
          simp [Region.binds] at hd
          simp only [hd, if_true]
          rw [if_pos (by rfl)]
          go_simp
          exact hK.out _ _ ⟨by simp [hd], hI⟩
        refine Inv.Steps.cons rfl ?_ ?_
        · intro L a w' hI hL hd K hK
          obtain ⟨rfl, hI⟩ := hI
          simp [Region.binds] at hd
          simp only [hd, if_true]
          rw [if_pos (by rfl)]
          go_simp
          exact hK.out _ _ ⟨by simp [hd], hI⟩
        refine Inv.Steps.cons rfl ?_ ?_
        · intro L a w' hI hL hd K hK
          obtain ⟨rfl, hI⟩ := hI
          simp [Region.binds] at hd
          simp only [hd, if_true]
          rw [if_pos (by rfl)]
          have hc := cells6 hI.1
          simp only at hc
          go_simp
          exact hK.out _ _ ⟨by simp [hd], hI⟩
        refine Inv.Steps.cons rfl ?_ ?_
        · intro L a w' hI hL hd K hK
          obtain ⟨rfl, hI⟩ := hI
          simp [Region.binds] at hd
          simp only [hd, if_true]
          rw [if_pos (by rfl)]
          go_simp
          exact hK.out _ _ ⟨by simp [hd], hI⟩
        refine Inv.Steps.cons rfl ?_ ?_
        · intro L a w' hI hL hd K hK
          obtain ⟨rfl, hI⟩ := hI
          simp [Region.binds] at hd
          simp only [hd, if_true]
          rw [if_pos (by rfl)]
          have hc := cells6 hI.1
          simp only at hc
          go_simp
          exact hK.out _ _ ⟨by simp [hd], hI⟩
        refine Inv.Steps.cons rfl ?_ ?_
        · intro L a w' hI hL hd K hK
          obtain ⟨rfl, hI⟩ := hI
          simp [Region.binds] at hd
          simp only [hd, if_true]
          rw [if_pos (by rfl)]
          go_simp
          refine (hC hI.2).mono ?_
          rintro e w6 ⟨rfl, hB6⟩
          exact hK.out _ _ ⟨by simp [hd], hI.1.below hB6, bnext hI.2 hB6⟩
        refine Inv.Steps.cons rfl ?_ ?_
        · intro L a w' hI hL hd K hK
          obtain ⟨rfl, hI⟩ := hI
          simp [Region.binds] at hd
          simp only [hd, if_true]
          rw [if_pos (by rfl)]
          go_simp
          exact hK.out _ _ ⟨by simp [hd], hI⟩
        refine Inv.Steps.cons rfl ?_ ?_
        · intro L a w' hI hL hd K hK
          obtain ⟨rfl, hI⟩ := hI
          simp [Region.binds] at hd
          simp only [hd, if_true]
          rw [if_pos (by rfl)]
          go_simp
          exact hK.out _ _ ⟨by simp [hd], hI⟩
        exact Inv.Steps.nil (by decide)
      case done =>
        intro L a w' hI hall
        obtain ⟨rfl, hI⟩ := hI
        simp only [hall, if_true] at hI ⊢
        go_wp2
        go_ret
        exact ⟨rfl, hI.2⟩
    | false =>
      obtain rfl : R = false := by rw [HR2.out]; rfl
      go_enter Try.func23, Try.ntmps23
      go_wp2_with (first | ((fail_if_success (have _ := hX1)); (refine at_box_ev _ _ (by rfl) (by rfl) (by rfl) ?_); intro V1 hX1 hB1 hz1; have c1 := cells6 hX1; simp only at c1))
      refine Inv.region_inv (fun L a w' => a = { tmps := #[(ev { k := 1, s := s', pp := pp, pn := pn, pc := pc, dp := dp, dn := dn, dc := dc, g := g', t := t' }), (Value.pointer (some { block := w.heap.size, off := 0 })), (if L 14 = true then (.bool false) else (Value.bool false)), (Value.pointer (some { block := w.heap.size, off := 0 })), (Value.int IntKind.i64 1), (Value.bool true), (Value.bool true), (if L 0 = true then (ev ⟨1, s', pp, pn, pc, dp, dn, dc, g', t'⟩) else undef), (if L 1 = true then (.pointer (some ⟨w.heap.size, 2, none⟩)) else undef), (if L 2 = true then (.slice pp pn pc) else undef), (if L 3 = true then (.pointer (some ⟨w.heap.size, 3, none⟩)) else undef), (if L 4 = true then (.slice dp dn dc) else undef), (if L 5 = true then (ev ⟨1, 0, pp, pn, pc, dp, dn, dc, 0, 0⟩) else undef), (if L 6 = true then (.bool false) else undef), (if L 7 = true then (.bool false) else undef), undef, undef, undef, undef, undef, (if L 13 = true then (.bool false) else undef), undef, undef, undef, undef, undef, undef, undef, undef, undef, undef, undef, undef, undef, undef, undef, undef, undef, undef, undef, undef, undef, undef, undef, undef, undef, undef, undef, undef, undef, undef, undef], defers := [] } ∧ (Blk w' w.heap.size 32 (el ⟨1, s', pp, pn, pc, dp, dn, dc, g', t'⟩) ∧ Below w.heap.size w w')) (by kernel_rfl) (by kernel_rfl) ?h0 ?step ?done
      case h0 => exact ⟨by simp, hX1.drew, hB1.drew⟩
      case step =>
        refine Inv.Steps.cons rfl ?_ ?_
        · intro L a w' hI hL hd K hK
          obtain ⟨rfl, hI⟩ := hI
          clear hd
          rw [if_pos (by rfl)]
          refine wp_load_ev _ _ _ (by rfl) (by rfl) hI.1 ?_
          exact hK.out _ _ ⟨by simp [Act.put], hI⟩
        refine Inv.Steps.cons rfl ?_ ?_
        · intro L a w' hI hL hd K hK
          obtain ⟨rfl, hI⟩ := hI
          clear hd
          rw [if_pos (by rfl)]
          go_simp
          exact hK.out _ _ ⟨by simp, hI⟩
        refine Inv.Steps.cons rfl ?_ ?_
        · intro L a w' hI hL hd K hK
          obtain ⟨rfl, hI⟩ := hI
          simp [Region.binds] at hd
          simp only [hd, if_true]
          rw [if_pos (by rfl)]
          have hc := cells6 hI.1
          simp only at hc
          go_simp
          exact hK.out _ _ ⟨by simp [hd], hI⟩
        refine Inv.Steps.cons rfl ?_ ?_
        · intro L a w' hI hL hd K hK
          obtain ⟨rfl, hI⟩ := hI
          clear hd
          rw [if_pos (by rfl)]
          go_simp
          exact hK.out _ _ ⟨by simp, hI⟩
        refine Inv.Steps.cons rfl ?_ ?_
        · intro L a w' hI hL hd K hK
          obtain ⟨rfl, hI⟩ := hI
          simp [Region.binds] at hd
          simp only [hd, if_true]
          rw [if_pos (by rfl)]
          have hc := cells6 hI.1
          simp only at hc
          go_simp
          exact hK.out _ _ ⟨by simp [hd], hI⟩
        refine Inv.Steps.cons rfl ?_ ?_
        · intro L a w' hI hL hd K hK
          obtain ⟨rfl, hI⟩ := hI
          simp [Region.binds] at hd
          simp only [hd, if_true]
          rw [if_pos (by rfl)]
          go_simp
          refine (event_commit _ _ _ _ _ _ _).mono ?_
          rintro e w6 ⟨rfl, hB6⟩
          exact hK.out _ _ ⟨by simp [hd], hI.1.below hB6, bnext hI.2 hB6⟩
        refine Inv.Steps.cons rfl ?_ ?_
        · intro L a w' hI hL hd K hK
          obtain ⟨rfl, hI⟩ := hI
          simp [Region.binds] at hd
          simp only [hd, if_true]
          rw [if_pos (by rfl)]
          go_simp
          refine (hS1 hI.2).mono ?_
          rintro e w6 ⟨rfl, hB6⟩
          exact hK.out _ _ ⟨by simp [hd], hI.1.below hB6, bnext hI.2 hB6⟩
        refine Inv.Steps.cons rfl ?_ ?_
        · intro L a w' hI hL hd K hK
          obtain ⟨rfl, hI⟩ := hI
          simp [Region.binds] at hd
          simp only [hd, if_true]
          rw [if_pos (by rfl)]
          go_simp
          exact hK.out _ _ ⟨by simp [hd], hI⟩
        refine Inv.Steps.cons rfl ?_ ?_
        · intro L a w' hI hL hd K hK
          obtain ⟨rfl, hI⟩ := hI
          simp [Region.binds] at hd
          simp only [hd, if_true]
          rw [if_neg (Bool.eq_false_iff.1 (by rfl))]
          exact hK.out _ _ ⟨by simp [hd, Act.put], hI⟩
        refine Inv.Steps.cons rfl ?_ ?_
        · intro L a w' hI hL hd K hK
          obtain ⟨rfl, hI⟩ := hI
          simp [Region.binds] at hd
          simp only [hd, if_true]
          rw [if_neg (Bool.eq_false_iff.1 (by rfl))]
          exact hK.out _ _ ⟨by simp [hd, Act.put], hI⟩
        refine Inv.Steps.cons rfl ?_ ?_
        · intro L a w' hI hL hd K hK
          obtain ⟨rfl, hI⟩ := hI
          simp [Region.binds] at hd
          simp only [hd, if_true]
          rw [if_neg (Bool.eq_false_iff.1 (by rfl))]
          exact hK.out _ _ ⟨by simp [hd, Act.put], hI⟩
        refine Inv.Steps.cons rfl ?_ ?_
        · intro L a w' hI hL hd K hK
          obtain ⟨rfl, hI⟩ := hI
          simp [Region.binds] at hd
          simp only [hd, if_true]
          rw [if_neg (Bool.eq_false_iff.1 (by rfl))]
          exact hK.out _ _ ⟨by simp [hd, Act.put], hI⟩
        refine Inv.Steps.cons rfl ?_ ?_
        · intro L a w' hI hL hd K hK
          obtain ⟨rfl, hI⟩ := hI
          simp [Region.binds] at hd
          simp only [hd, if_true]
          rw [if_neg (Bool.eq_false_iff.1 (by rfl))]
          exact hK.out _ _ ⟨by simp [hd, Act.put], hI⟩
        refine Inv.Steps.cons rfl ?_ ?_
        · intro L a w' hI hL hd K hK
          obtain ⟨rfl, hI⟩ := hI
          simp [Region.binds] at hd
          simp only [hd, if_true]
          rw [if_pos (by rfl)]
          go_simp
          exact hK.out _ _ ⟨by simp [hd], hI⟩
        refine Inv.Steps.cons rfl ?_ ?_
        · intro L a w' hI hL hd K hK
          obtain ⟨rfl, hI⟩ := hI
          simp [Region.binds] at hd
          simp only [hd, if_true]
          rw [if_pos (by rfl)]
          go_simp
          exact hK.out _ _ ⟨by simp [hd], hI⟩
        exact Inv.Steps.nil (by decide)
      case done =>
        intro L a w' hI hall
        obtain ⟨rfl, hI⟩ := hI
        simp only [hall, if_true] at hI ⊢
        go_wp2
        go_ret
        exact ⟨rfl, hI.2⟩
  · have b1 : (k' == 1) = false := by simpa using q1
    by_cases q2 : k' = 2
    · subst q2
      cases B2 with
      | true =>
        cases S with
        | true =>
          obtain rfl : R = G := by rw [HR2.out]; rfl
          go_enter Try.func23, Try.ntmps23
          go_wp2_with (first | ((fail_if_success (have _ := hX1)); (refine at_box_ev _ _ (by rfl) (by rfl) (by rfl) ?_); intro V1 hX1 hB1 hz1; have c1 := cells6 hX1; simp only at c1))
          refine Inv.region_inv (fun L a w' => a = { tmps := #[(ev { k := 2, s := s', pp := pp, pn := pn, pc := pc, dp := dp, dn := dn, dc := dc, g := g', t := t' }), (Value.pointer (some { block := w.heap.size, off := 0 })), (if L 17 = true then (.bool R) else (Value.bool false)), (Value.pointer (some { block := w.heap.size, off := 0 })), (Value.int IntKind.i64 2), (Value.bool false), (Value.bool false), undef, undef, undef, undef, undef, undef, undef, undef, undef, undef, undef, undef, undef, undef, (Value.bool true), (Value.bool true), (if L 0 = true then (ev ⟨2, s', pp, pn, pc, dp, dn, dc, g', t'⟩) else undef), (if L 1 = true then (.pointer (some ⟨w.heap.size, 1, none⟩)) else undef), (if L 2 = true then (.int .i64 s') else undef), (if L 3 = true then (.pointer (some ⟨w.heap.size, 4, none⟩)) else undef), (if L 4 = true then (.int .u64 g') else undef), (if L 5 = true then (ev ⟨2, s', none, 0, 0, none, 0, 0, g', 0⟩) else undef), (if L 6 = true then (.bool true) else undef), (if L 7 = true then (.bool true) else undef), (if L 8 = true then (.pointer (some ⟨w.heap.size, 1, none⟩)) else undef), (if L 9 = true then (.int .i64 s') else undef), (if L 10 = true then (.bool true) else undef), (if L 11 = true then (.bool true) else undef), (if L 12 = true then (.bool true) else undef), (if L 13 = true then (.pointer (some ⟨w.heap.size, 4, none⟩)) else undef), (if L 14 = true then (.int .u64 g') else undef), (if L 15 = true then (.bool R) else undef), (if L 16 = true then (.bool R) else undef), undef, undef, undef, undef, undef, undef, undef, undef, undef, undef, undef, undef], defers := [] } ∧ (Blk w' w.heap.size 32 (el ⟨2, s', pp, pn, pc, dp, dn, dc, g', t'⟩) ∧ Below w.heap.size w w')) (by kernel_rfl) (by kernel_rfl) ?h0 ?step ?done
          case h0 => exact ⟨by simp, hX1.drew, hB1.drew⟩
          case step =>
            refine Inv.Steps.cons rfl ?_ ?_
            · intro L a w' hI hL hd K hK
              obtain ⟨rfl, hI⟩ := hI
              clear hd
              rw [if_pos (by rfl)]
              refine wp_load_ev _ _ _ (by rfl) (by rfl) hI.1 ?_
              exact hK.out _ _ ⟨by simp [Act.put], hI⟩
            refine Inv.Steps.cons rfl ?_ ?_
            · intro L a w' hI hL hd K hK
              obtain ⟨rfl, hI⟩ := hI
              clear hd
              rw [if_pos (by rfl)]
              go_simp
              exact hK.out _ _ ⟨by simp, hI⟩
            refine Inv.Steps.cons rfl ?_ ?_
            · intro L a w' hI hL hd K hK
              obtain ⟨rfl, hI⟩ := hI
              simp [Region.binds] at hd
              simp only [hd, if_true]
              rw [if_pos (by rfl)]
              have hc := cells6 hI.1
              simp only at hc
              go_simp
              exact hK.out _ _ ⟨by simp [hd], hI⟩
            refine Inv.Steps.cons rfl ?_ ?_
            · intro L a w' hI hL hd K hK
              obtain ⟨rfl, hI⟩ := hI
              clear hd
              rw [if_pos (by rfl)]
              go_simp
              exact hK.out _ _ ⟨by simp, hI⟩
            refine Inv.Steps.cons rfl ?_ ?_
            · intro L a w' hI hL hd K hK
              obtain ⟨rfl, hI⟩ := hI
              simp [Region.binds] at hd
              simp only [hd, if_true]
              rw [if_pos (by rfl)]
              have hc := cells6 hI.1
              simp only at hc
              go_simp
              exact hK.out _ _ ⟨by simp [hd], hI⟩
            refine Inv.Steps.cons rfl ?_ ?_
            · intro L a w' hI hL hd K hK
              obtain ⟨rfl, hI⟩ := hI
              simp [Region.binds] at hd
              simp only [hd, if_true]
              rw [if_pos (by rfl)]
              go_simp
              refine (event_lease _ _ _).mono ?_
              rintro e w6 ⟨rfl, hB6⟩
              exact hK.out _ _ ⟨by simp [hd], hI.1.below hB6, bnext hI.2 hB6⟩
            refine Inv.Steps.cons rfl ?_ ?_
            · intro L a w' hI hL hd K hK
              obtain ⟨rfl, hI⟩ := hI
              simp [Region.binds] at hd
              simp only [hd, if_true]
              rw [if_pos (by rfl)]
              go_simp
              refine (hS2 hI.2).mono ?_
              rintro e w6 ⟨rfl, hB6⟩
              exact hK.out _ _ ⟨by simp [hd], hI.1.below hB6, bnext hI.2 hB6⟩
            refine Inv.Steps.cons rfl ?_ ?_
            · intro L a w' hI hL hd K hK
              obtain ⟨rfl, hI⟩ := hI
              simp [Region.binds] at hd
              simp only [hd, if_true]
              rw [if_pos (by rfl)]
              go_simp
              exact hK.out _ _ ⟨by simp [hd], hI⟩
            refine Inv.Steps.cons rfl ?_ ?_
            · intro L a w' hI hL hd K hK
              obtain ⟨rfl, hI⟩ := hI
              simp [Region.binds] at hd
              simp only [hd, if_true]
              rw [if_pos (by rfl)]
              go_simp
              exact hK.out _ _ ⟨by simp [hd], hI⟩
            refine Inv.Steps.cons rfl ?_ ?_
            · intro L a w' hI hL hd K hK
              obtain ⟨rfl, hI⟩ := hI
              simp [Region.binds] at hd
              simp only [hd, if_true]
              rw [if_pos (by rfl)]
              have hc := cells6 hI.1
              simp only at hc
              go_simp
              exact hK.out _ _ ⟨by simp [hd], hI⟩
            refine Inv.Steps.cons rfl ?_ ?_
            · intro L a w' hI hL hd K hK
              obtain ⟨rfl, hI⟩ := hI
              simp [Region.binds] at hd
              simp only [hd, if_true]
              rw [if_pos (by rfl)]
              go_simp
              refine (hsub _).mono ?_
              rintro e w6 ⟨rfl, hw⟩
              rw [hw]
              exact hK.out _ _ ⟨by simp [hd], hI⟩
            refine Inv.Steps.cons rfl ?_ ?_
            · intro L a w' hI hL hd K hK
              obtain ⟨rfl, hI⟩ := hI
              simp [Region.binds] at hd
              simp only [hd, if_true]
              rw [if_pos (by rfl)]
              go_simp
              exact hK.out _ _ ⟨by simp [hd], hI⟩
            refine Inv.Steps.cons rfl ?_ ?_
            · intro L a w' hI hL hd K hK
              obtain ⟨rfl, hI⟩ := hI
              simp [Region.binds] at hd
              simp only [hd, if_true]
              rw [if_pos (by rfl)]
              go_simp
              exact hK.out _ _ ⟨by simp [hd], hI⟩
            refine Inv.Steps.cons rfl ?_ ?_
            · intro L a w' hI hL hd K hK
              obtain ⟨rfl, hI⟩ := hI
              simp [Region.binds] at hd
              simp only [hd, if_true]
              rw [if_pos (by rfl)]
              go_simp
              exact hK.out _ _ ⟨by simp [hd], hI⟩
            refine Inv.Steps.cons rfl ?_ ?_
            · intro L a w' hI hL hd K hK
              obtain ⟨rfl, hI⟩ := hI
              simp [Region.binds] at hd
              simp only [hd, if_true]
              rw [if_pos (by rfl)]
              have hc := cells6 hI.1
              simp only at hc
              go_simp
              exact hK.out _ _ ⟨by simp [hd], hI⟩
            refine Inv.Steps.cons rfl ?_ ?_
            · intro L a w' hI hL hd K hK
              obtain ⟨rfl, hI⟩ := hI
              simp [Region.binds] at hd
              simp only [hd, if_true]
              rw [if_pos (by rfl)]
              go_simp
              refine (hg _).mono ?_
              rintro e w6 ⟨rfl, hw⟩
              rw [hw]
              exact hK.out _ _ ⟨by simp [hd], hI⟩
            refine Inv.Steps.cons rfl ?_ ?_
            · intro L a w' hI hL hd K hK
              obtain ⟨rfl, hI⟩ := hI
              simp [Region.binds] at hd
              simp only [hd, if_true]
              rw [if_pos (by rfl)]
              go_simp
              exact hK.out _ _ ⟨by simp [hd], hI⟩
            refine Inv.Steps.cons rfl ?_ ?_
            · intro L a w' hI hL hd K hK
              obtain ⟨rfl, hI⟩ := hI
              simp [Region.binds] at hd
              simp only [hd, if_true]
              rw [if_pos (by rfl)]
              go_simp
              exact hK.out _ _ ⟨by simp [hd], hI⟩
            exact Inv.Steps.nil (by decide)
          case done =>
            intro L a w' hI hall
            obtain ⟨rfl, hI⟩ := hI
            simp only [hall, if_true] at hI ⊢
            go_wp2
            go_ret
            exact ⟨rfl, hI.2⟩
        | false =>
          obtain rfl : R = false := by rw [HR2.out]; rfl
          go_enter Try.func23, Try.ntmps23
          go_wp2_with (first | ((fail_if_success (have _ := hX1)); (refine at_box_ev _ _ (by rfl) (by rfl) (by rfl) ?_); intro V1 hX1 hB1 hz1; have c1 := cells6 hX1; simp only at c1))
          refine Inv.region_inv (fun L a w' => a = { tmps := #[(ev { k := 2, s := s', pp := pp, pn := pn, pc := pc, dp := dp, dn := dn, dc := dc, g := g', t := t' }), (Value.pointer (some { block := w.heap.size, off := 0 })), (if L 17 = true then (.bool false) else (Value.bool false)), (Value.pointer (some { block := w.heap.size, off := 0 })), (Value.int IntKind.i64 2), (Value.bool false), (Value.bool false), undef, undef, undef, undef, undef, undef, undef, undef, undef, undef, undef, undef, undef, undef, (Value.bool true), (Value.bool true), (if L 0 = true then (ev ⟨2, s', pp, pn, pc, dp, dn, dc, g', t'⟩) else undef), (if L 1 = true then (.pointer (some ⟨w.heap.size, 1, none⟩)) else undef), (if L 2 = true then (.int .i64 s') else undef), (if L 3 = true then (.pointer (some ⟨w.heap.size, 4, none⟩)) else undef), (if L 4 = true then (.int .u64 g') else undef), (if L 5 = true then (ev ⟨2, s', none, 0, 0, none, 0, 0, g', 0⟩) else undef), (if L 6 = true then (.bool true) else undef), (if L 7 = true then (.bool true) else undef), (if L 8 = true then (.pointer (some ⟨w.heap.size, 1, none⟩)) else undef), (if L 9 = true then (.int .i64 s') else undef), (if L 10 = true then (.bool false) else undef), (if L 11 = true then (.bool false) else undef), (if L 12 = true then (.bool false) else undef), undef, undef, undef, (if L 16 = true then (.bool false) else undef), undef, undef, undef, undef, undef, undef, undef, undef, undef, undef, undef, undef], defers := [] } ∧ (Blk w' w.heap.size 32 (el ⟨2, s', pp, pn, pc, dp, dn, dc, g', t'⟩) ∧ Below w.heap.size w w')) (by kernel_rfl) (by kernel_rfl) ?h0 ?step ?done
          case h0 => exact ⟨by simp, hX1.drew, hB1.drew⟩
          case step =>
            refine Inv.Steps.cons rfl ?_ ?_
            · intro L a w' hI hL hd K hK
              obtain ⟨rfl, hI⟩ := hI
              clear hd
              rw [if_pos (by rfl)]
              refine wp_load_ev _ _ _ (by rfl) (by rfl) hI.1 ?_
              exact hK.out _ _ ⟨by simp [Act.put], hI⟩
            refine Inv.Steps.cons rfl ?_ ?_
            · intro L a w' hI hL hd K hK
              obtain ⟨rfl, hI⟩ := hI
              clear hd
              rw [if_pos (by rfl)]
              go_simp
              exact hK.out _ _ ⟨by simp, hI⟩
            refine Inv.Steps.cons rfl ?_ ?_
            · intro L a w' hI hL hd K hK
              obtain ⟨rfl, hI⟩ := hI
              simp [Region.binds] at hd
              simp only [hd, if_true]
              rw [if_pos (by rfl)]
              have hc := cells6 hI.1
              simp only at hc
              go_simp
              exact hK.out _ _ ⟨by simp [hd], hI⟩
            refine Inv.Steps.cons rfl ?_ ?_
            · intro L a w' hI hL hd K hK
              obtain ⟨rfl, hI⟩ := hI
              clear hd
              rw [if_pos (by rfl)]
              go_simp
              exact hK.out _ _ ⟨by simp, hI⟩
            refine Inv.Steps.cons rfl ?_ ?_
            · intro L a w' hI hL hd K hK
              obtain ⟨rfl, hI⟩ := hI
              simp [Region.binds] at hd
              simp only [hd, if_true]
              rw [if_pos (by rfl)]
              have hc := cells6 hI.1
              simp only at hc
              go_simp
              exact hK.out _ _ ⟨by simp [hd], hI⟩
            refine Inv.Steps.cons rfl ?_ ?_
            · intro L a w' hI hL hd K hK
              obtain ⟨rfl, hI⟩ := hI
              simp [Region.binds] at hd
              simp only [hd, if_true]
              rw [if_pos (by rfl)]
              go_simp
              refine (event_lease _ _ _).mono ?_
              rintro e w6 ⟨rfl, hB6⟩
              exact hK.out _ _ ⟨by simp [hd], hI.1.below hB6, bnext hI.2 hB6⟩
            refine Inv.Steps.cons rfl ?_ ?_
            · intro L a w' hI hL hd K hK
              obtain ⟨rfl, hI⟩ := hI
              simp [Region.binds] at hd
              simp only [hd, if_true]
              rw [if_pos (by rfl)]
              go_simp
              refine (hS2 hI.2).mono ?_
              rintro e w6 ⟨rfl, hB6⟩
              exact hK.out _ _ ⟨by simp [hd], hI.1.below hB6, bnext hI.2 hB6⟩
            refine Inv.Steps.cons rfl ?_ ?_
            · intro L a w' hI hL hd K hK
              obtain ⟨rfl, hI⟩ := hI
              simp [Region.binds] at hd
              simp only [hd, if_true]
              rw [if_pos (by rfl)]
              go_simp
              exact hK.out _ _ ⟨by simp [hd], hI⟩
            refine Inv.Steps.cons rfl ?_ ?_
            · intro L a w' hI hL hd K hK
              obtain ⟨rfl, hI⟩ := hI
              simp [Region.binds] at hd
              simp only [hd, if_true]
              rw [if_pos (by rfl)]
              go_simp
              exact hK.out _ _ ⟨by simp [hd], hI⟩
            refine Inv.Steps.cons rfl ?_ ?_
            · intro L a w' hI hL hd K hK
              obtain ⟨rfl, hI⟩ := hI
              simp [Region.binds] at hd
              simp only [hd, if_true]
              rw [if_pos (by rfl)]
              have hc := cells6 hI.1
              simp only at hc
              go_simp
              exact hK.out _ _ ⟨by simp [hd], hI⟩
            refine Inv.Steps.cons rfl ?_ ?_
            · intro L a w' hI hL hd K hK
              obtain ⟨rfl, hI⟩ := hI
              simp [Region.binds] at hd
              simp only [hd, if_true]
              rw [if_pos (by rfl)]
              go_simp
              refine (hsub _).mono ?_
              rintro e w6 ⟨rfl, hw⟩
              rw [hw]
              exact hK.out _ _ ⟨by simp [hd], hI⟩
            refine Inv.Steps.cons rfl ?_ ?_
            · intro L a w' hI hL hd K hK
              obtain ⟨rfl, hI⟩ := hI
              simp [Region.binds] at hd
              simp only [hd, if_true]
              rw [if_pos (by rfl)]
              go_simp
              exact hK.out _ _ ⟨by simp [hd], hI⟩
            refine Inv.Steps.cons rfl ?_ ?_
            · intro L a w' hI hL hd K hK
              obtain ⟨rfl, hI⟩ := hI
              simp [Region.binds] at hd
              simp only [hd, if_true]
              rw [if_pos (by rfl)]
              go_simp
              exact hK.out _ _ ⟨by simp [hd], hI⟩
            refine Inv.Steps.cons rfl ?_ ?_
            · intro L a w' hI hL hd K hK
              obtain ⟨rfl, hI⟩ := hI
              simp [Region.binds] at hd
              simp only [hd, if_true]
              rw [if_neg (Bool.eq_false_iff.1 (by rfl))]
              exact hK.out _ _ ⟨by simp [hd, Act.put], hI⟩
            refine Inv.Steps.cons rfl ?_ ?_
            · intro L a w' hI hL hd K hK
              obtain ⟨rfl, hI⟩ := hI
              simp [Region.binds] at hd
              simp only [hd, if_true]
              rw [if_neg (Bool.eq_false_iff.1 (by rfl))]
              exact hK.out _ _ ⟨by simp [hd, Act.put], hI⟩
            refine Inv.Steps.cons rfl ?_ ?_
            · intro L a w' hI hL hd K hK
              obtain ⟨rfl, hI⟩ := hI
              simp [Region.binds] at hd
              simp only [hd, if_true]
              rw [if_neg (Bool.eq_false_iff.1 (by rfl))]
              exact hK.out _ _ ⟨by simp [hd, Act.put], hI⟩
            refine Inv.Steps.cons rfl ?_ ?_
            · intro L a w' hI hL hd K hK
              obtain ⟨rfl, hI⟩ := hI
              simp [Region.binds] at hd
              simp only [hd, if_true]
              rw [if_pos (by rfl)]
              go_simp
              exact hK.out _ _ ⟨by simp [hd], hI⟩
            refine Inv.Steps.cons rfl ?_ ?_
            · intro L a w' hI hL hd K hK
              obtain ⟨rfl, hI⟩ := hI
              simp [Region.binds] at hd
              simp only [hd, if_true]
              rw [if_pos (by rfl)]
              go_simp
              exact hK.out _ _ ⟨by simp [hd], hI⟩
            exact Inv.Steps.nil (by decide)
          case done =>
            intro L a w' hI hall
            obtain ⟨rfl, hI⟩ := hI
            simp only [hall, if_true] at hI ⊢
            go_wp2
            go_ret
            exact ⟨rfl, hI.2⟩
      | false =>
        obtain rfl : R = false := by rw [HR2.out]; rfl
        go_enter Try.func23, Try.ntmps23
        go_wp2_with (first | ((fail_if_success (have _ := hX1)); (refine at_box_ev _ _ (by rfl) (by rfl) (by rfl) ?_); intro V1 hX1 hB1 hz1; have c1 := cells6 hX1; simp only at c1))
        refine Inv.region_inv (fun L a w' => a = { tmps := #[(ev { k := 2, s := s', pp := pp, pn := pn, pc := pc, dp := dp, dn := dn, dc := dc, g := g', t := t' }), (Value.pointer (some { block := w.heap.size, off := 0 })), (if L 17 = true then (.bool false) else (Value.bool false)), (Value.pointer (some { block := w.heap.size, off := 0 })), (Value.int IntKind.i64 2), (Value.bool false), (Value.bool false), undef, undef, undef, undef, undef, undef, undef, undef, undef, undef, undef, undef, undef, undef, (Value.bool true), (Value.bool true), (if L 0 = true then (ev ⟨2, s', pp, pn, pc, dp, dn, dc, g', t'⟩) else undef), (if L 1 = true then (.pointer (some ⟨w.heap.size, 1, none⟩)) else undef), (if L 2 = true then (.int .i64 s') else undef), (if L 3 = true then (.pointer (some ⟨w.heap.size, 4, none⟩)) else undef), (if L 4 = true then (.int .u64 g') else undef), (if L 5 = true then (ev ⟨2, s', none, 0, 0, none, 0, 0, g', 0⟩) else undef), (if L 6 = true then (.bool false) else undef), (if L 7 = true then (.bool false) else undef), undef, undef, undef, (if L 11 = true then (.bool false) else undef), (if L 12 = true then (.bool false) else undef), undef, undef, undef, (if L 16 = true then (.bool false) else undef), undef, undef, undef, undef, undef, undef, undef, undef, undef, undef, undef, undef], defers := [] } ∧ (Blk w' w.heap.size 32 (el ⟨2, s', pp, pn, pc, dp, dn, dc, g', t'⟩) ∧ Below w.heap.size w w')) (by kernel_rfl) (by kernel_rfl) ?h0 ?step ?done
        case h0 => exact ⟨by simp, hX1.drew, hB1.drew⟩
        case step =>
          refine Inv.Steps.cons rfl ?_ ?_
          · intro L a w' hI hL hd K hK
            obtain ⟨rfl, hI⟩ := hI
            clear hd
            rw [if_pos (by rfl)]
            refine wp_load_ev _ _ _ (by rfl) (by rfl) hI.1 ?_
            exact hK.out _ _ ⟨by simp [Act.put], hI⟩
          refine Inv.Steps.cons rfl ?_ ?_
          · intro L a w' hI hL hd K hK
            obtain ⟨rfl, hI⟩ := hI
            clear hd
            rw [if_pos (by rfl)]
            go_simp
            exact hK.out _ _ ⟨by simp, hI⟩
          refine Inv.Steps.cons rfl ?_ ?_
          · intro L a w' hI hL hd K hK
            obtain ⟨rfl, hI⟩ := hI
            simp [Region.binds] at hd
            simp only [hd, if_true]
            rw [if_pos (by rfl)]
            have hc := cells6 hI.1
            simp only at hc
            go_simp
            exact hK.out _ _ ⟨by simp [hd], hI⟩
          refine Inv.Steps.cons rfl ?_ ?_
          · intro L a w' hI hL hd K hK
            obtain ⟨rfl, hI⟩ := hI
            clear hd
            rw [if_pos (by rfl)]
            go_simp
            exact hK.out _ _ ⟨by simp, hI⟩
          refine Inv.Steps.cons rfl ?_ ?_
          · intro L a w' hI hL hd K hK
            obtain ⟨rfl, hI⟩ := hI
            simp [Region.binds] at hd
            simp only [hd, if_true]
            rw [if_pos (by rfl)]
            have hc := cells6 hI.1
            simp only at hc
            go_simp
            exact hK.out _ _ ⟨by simp [hd], hI⟩
          refine Inv.Steps.cons rfl ?_ ?_
          · intro L a w' hI hL hd K hK
            obtain ⟨rfl, hI⟩ := hI
            simp [Region.binds] at hd
            simp only [hd, if_true]
            rw [if_pos (by rfl)]
            go_simp
            refine (event_lease _ _ _).mono ?_
            rintro e w6 ⟨rfl, hB6⟩
            exact hK.out _ _ ⟨by simp [hd], hI.1.below hB6, bnext hI.2 hB6⟩
          refine Inv.Steps.cons rfl ?_ ?_
          · intro L a w' hI hL hd K hK
            obtain ⟨rfl, hI⟩ := hI
            simp [Region.binds] at hd
            simp only [hd, if_true]
            rw [if_pos (by rfl)]
            go_simp
            refine (hS2 hI.2).mono ?_
            rintro e w6 ⟨rfl, hB6⟩
            exact hK.out _ _ ⟨by simp [hd], hI.1.below hB6, bnext hI.2 hB6⟩
          refine Inv.Steps.cons rfl ?_ ?_
          · intro L a w' hI hL hd K hK
            obtain ⟨rfl, hI⟩ := hI
            simp [Region.binds] at hd
            simp only [hd, if_true]
            rw [if_pos (by rfl)]
            go_simp
            exact hK.out _ _ ⟨by simp [hd], hI⟩
          refine Inv.Steps.cons rfl ?_ ?_
          · intro L a w' hI hL hd K hK
            obtain ⟨rfl, hI⟩ := hI
            simp [Region.binds] at hd
            simp only [hd, if_true]
            rw [if_neg (Bool.eq_false_iff.1 (by rfl))]
            exact hK.out _ _ ⟨by simp [hd, Act.put], hI⟩
          refine Inv.Steps.cons rfl ?_ ?_
          · intro L a w' hI hL hd K hK
            obtain ⟨rfl, hI⟩ := hI
            simp [Region.binds] at hd
            simp only [hd, if_true]
            rw [if_neg (Bool.eq_false_iff.1 (by rfl))]
            exact hK.out _ _ ⟨by simp [hd, Act.put], hI⟩
          refine Inv.Steps.cons rfl ?_ ?_
          · intro L a w' hI hL hd K hK
            obtain ⟨rfl, hI⟩ := hI
            simp [Region.binds] at hd
            simp only [hd, if_true]
            rw [if_neg (Bool.eq_false_iff.1 (by rfl))]
            exact hK.out _ _ ⟨by simp [hd, Act.put], hI⟩
          refine Inv.Steps.cons rfl ?_ ?_
          · intro L a w' hI hL hd K hK
            obtain ⟨rfl, hI⟩ := hI
            simp [Region.binds] at hd
            simp only [hd, if_true]
            rw [if_pos (by rfl)]
            go_simp
            exact hK.out _ _ ⟨by simp [hd], hI⟩
          refine Inv.Steps.cons rfl ?_ ?_
          · intro L a w' hI hL hd K hK
            obtain ⟨rfl, hI⟩ := hI
            simp [Region.binds] at hd
            simp only [hd, if_true]
            rw [if_pos (by rfl)]
            go_simp
            exact hK.out _ _ ⟨by simp [hd], hI⟩
          refine Inv.Steps.cons rfl ?_ ?_
          · intro L a w' hI hL hd K hK
            obtain ⟨rfl, hI⟩ := hI
            simp [Region.binds] at hd
            simp only [hd, if_true]
            rw [if_neg (Bool.eq_false_iff.1 (by rfl))]
            exact hK.out _ _ ⟨by simp [hd, Act.put], hI⟩
          refine Inv.Steps.cons rfl ?_ ?_
          · intro L a w' hI hL hd K hK
            obtain ⟨rfl, hI⟩ := hI
            simp [Region.binds] at hd
            simp only [hd, if_true]
            rw [if_neg (Bool.eq_false_iff.1 (by rfl))]
            exact hK.out _ _ ⟨by simp [hd, Act.put], hI⟩
          refine Inv.Steps.cons rfl ?_ ?_
          · intro L a w' hI hL hd K hK
            obtain ⟨rfl, hI⟩ := hI
            simp [Region.binds] at hd
            simp only [hd, if_true]
            rw [if_neg (Bool.eq_false_iff.1 (by rfl))]
            exact hK.out _ _ ⟨by simp [hd, Act.put], hI⟩
          refine Inv.Steps.cons rfl ?_ ?_
          · intro L a w' hI hL hd K hK
            obtain ⟨rfl, hI⟩ := hI
            simp [Region.binds] at hd
            simp only [hd, if_true]
            rw [if_pos (by rfl)]
            go_simp
            exact hK.out _ _ ⟨by simp [hd], hI⟩
          refine Inv.Steps.cons rfl ?_ ?_
          · intro L a w' hI hL hd K hK
            obtain ⟨rfl, hI⟩ := hI
            simp [Region.binds] at hd
            simp only [hd, if_true]
            rw [if_pos (by rfl)]
            go_simp
            exact hK.out _ _ ⟨by simp [hd], hI⟩
          exact Inv.Steps.nil (by decide)
        case done =>
          intro L a w' hI hall
          obtain ⟨rfl, hI⟩ := hI
          simp only [hall, if_true] at hI ⊢
          go_wp2
          go_ret
          exact ⟨rfl, hI.2⟩
    · have b2 : (k' == 2) = false := by simpa using q2
      by_cases q3 : k' = 3
      · subst q3
        cases B3 with
        | true =>
          obtain rfl : R = T := by rw [HR2.out]; rfl
          go_enter Try.func23, Try.ntmps23
          go_wp2_with (first | ((fail_if_success (have _ := hX1)); (refine at_box_ev _ _ (by rfl) (by rfl) (by rfl) ?_); intro V1 hX1 hB1 hz1; have c1 := cells6 hX1; simp only at c1))
          refine Inv.region_inv (fun L a w' => a = { tmps := #[(ev { k := 3, s := s', pp := pp, pn := pn, pc := pc, dp := dp, dn := dn, dc := dc, g := g', t := t' }), (Value.pointer (some { block := w.heap.size, off := 0 })), (if L 10 = true then (.bool R) else (Value.bool false)), (Value.pointer (some { block := w.heap.size, off := 0 })), (Value.int IntKind.i64 3), (Value.bool false), (Value.bool false), undef, undef, undef, undef, undef, undef, undef, undef, undef, undef, undef, undef, undef, undef, (Value.bool false), (Value.bool false), undef, undef, undef, undef, undef, undef, undef, undef, undef, undef, undef, undef, undef, undef, undef, undef, undef, (Value.bool true), (Value.bool true), (if L 0 = true then (ev ⟨3, s', pp, pn, pc, dp, dn, dc, g', t'⟩) else undef), (if L 1 = true then (.pointer (some ⟨w.heap.size, 5, none⟩)) else undef), (if L 2 = true then (.int .u64 t') else undef), (if L 3 = true then (ev ⟨3, 0, none, 0, 0, none, 0, 0, 0, t'⟩) else undef), (if L 4 = true then (.bool true) else undef), (if L 5 = true then (.bool true) else undef), (if L 6 = true then (.pointer (some ⟨w.heap.size, 5, none⟩)) else undef), (if L 7 = true then (.int .u64 t') else undef), (if L 8 = true then (.bool R) else undef), (if L 9 = true then (.bool R) else undef)], defers := [] } ∧ (Blk w' w.heap.size 32 (el ⟨3, s', pp, pn, pc, dp, dn, dc, g', t'⟩) ∧ Below w.heap.size w w')) (by kernel_rfl) (by kernel_rfl) ?h0 ?step ?done
          case h0 => exact ⟨by simp, hX1.drew, hB1.drew⟩
          case step =>
            refine Inv.Steps.cons rfl ?_ ?_
            · intro L a w' hI hL hd K hK
              obtain ⟨rfl, hI⟩ := hI
              clear hd
              rw [if_pos (by rfl)]
              refine wp_load_ev _ _ _ (by rfl) (by rfl) hI.1 ?_
              exact hK.out _ _ ⟨by simp [Act.put], hI⟩
            refine Inv.Steps.cons rfl ?_ ?_
            · intro L a w' hI hL hd K hK
              obtain ⟨rfl, hI⟩ := hI
              clear hd
              rw [if_pos (by rfl)]
              go_simp
              exact hK.out _ _ ⟨by simp, hI⟩
            refine Inv.Steps.cons rfl ?_ ?_
            · intro L a w' hI hL hd K hK
              obtain ⟨rfl, hI⟩ := hI
              simp [Region.binds] at hd
              simp only [hd, if_true]
              rw [if_pos (by rfl)]
              have hc := cells6 hI.1
              simp only at hc
              go_simp
              exact hK.out _ _ ⟨by simp [hd], hI⟩
            refine Inv.Steps.cons rfl ?_ ?_
            · intro L a w' hI hL hd K hK
              obtain ⟨rfl, hI⟩ := hI
              simp [Region.binds] at hd
              simp only [hd, if_true]
              rw [if_pos (by rfl)]
              go_simp
              refine (event_period _ _).mono ?_
              rintro e w6 ⟨rfl, hB6⟩
              exact hK.out _ _ ⟨by simp [hd], hI.1.below hB6, bnext hI.2 hB6⟩
            refine Inv.Steps.cons rfl ?_ ?_
            · intro L a w' hI hL hd K hK
              obtain ⟨rfl, hI⟩ := hI
              simp [Region.binds] at hd
              simp only [hd, if_true]
              rw [if_pos (by rfl)]
              go_simp
              refine (hS3 hI.2).mono ?_
              rintro e w6 ⟨rfl, hB6⟩
              exact hK.out _ _ ⟨by simp [hd], hI.1.below hB6, bnext hI.2 hB6⟩
            refine Inv.Steps.cons rfl ?_ ?_
            · intro L a w' hI hL hd K hK
              obtain ⟨rfl, hI⟩ := hI
              simp [Region.binds] at hd
              simp only [hd, if_true]
              rw [if_pos (by rfl)]
              go_simp
              exact hK.out _ _ ⟨by simp [hd], hI⟩
            refine Inv.Steps.cons rfl ?_ ?_
            · intro L a w' hI hL hd K hK
              obtain ⟨rfl, hI⟩ := hI
              simp [Region.binds] at hd
              simp only [hd, if_true]
              rw [if_pos (by rfl)]
              go_simp
              exact hK.out _ _ ⟨by simp [hd], hI⟩
            refine Inv.Steps.cons rfl ?_ ?_
            · intro L a w' hI hL hd K hK
              obtain ⟨rfl, hI⟩ := hI
              simp [Region.binds] at hd
              simp only [hd, if_true]
              rw [if_pos (by rfl)]
              have hc := cells6 hI.1
              simp only at hc
              go_simp
              exact hK.out _ _ ⟨by simp [hd], hI⟩
            refine Inv.Steps.cons rfl ?_ ?_
            · intro L a w' hI hL hd K hK
              obtain ⟨rfl, hI⟩ := hI
              simp [Region.binds] at hd
              simp only [hd, if_true]
              rw [if_pos (by rfl)]
              go_simp
              refine (ht _).mono ?_
              rintro e w6 ⟨rfl, hw⟩
              rw [hw]
              exact hK.out _ _ ⟨by simp [hd], hI⟩
            refine Inv.Steps.cons rfl ?_ ?_
            · intro L a w' hI hL hd K hK
              obtain ⟨rfl, hI⟩ := hI
              simp [Region.binds] at hd
              simp only [hd, if_true]
              rw [if_pos (by rfl)]
              go_simp
              exact hK.out _ _ ⟨by simp [hd], hI⟩
            refine Inv.Steps.cons rfl ?_ ?_
            · intro L a w' hI hL hd K hK
              obtain ⟨rfl, hI⟩ := hI
              simp [Region.binds] at hd
              simp only [hd, if_true]
              rw [if_pos (by rfl)]
              go_simp
              exact hK.out _ _ ⟨by simp [hd], hI⟩
            exact Inv.Steps.nil (by decide)
          case done =>
            intro L a w' hI hall
            obtain ⟨rfl, hI⟩ := hI
            simp only [hall, if_true] at hI ⊢
            go_wp2
            go_ret
            exact ⟨rfl, hI.2⟩
        | false =>
          obtain rfl : R = false := by rw [HR2.out]; rfl
          go_enter Try.func23, Try.ntmps23
          go_wp2_with (first | ((fail_if_success (have _ := hX1)); (refine at_box_ev _ _ (by rfl) (by rfl) (by rfl) ?_); intro V1 hX1 hB1 hz1; have c1 := cells6 hX1; simp only at c1))
          refine Inv.region_inv (fun L a w' => a = { tmps := #[(ev { k := 3, s := s', pp := pp, pn := pn, pc := pc, dp := dp, dn := dn, dc := dc, g := g', t := t' }), (Value.pointer (some { block := w.heap.size, off := 0 })), (if L 10 = true then (.bool false) else (Value.bool false)), (Value.pointer (some { block := w.heap.size, off := 0 })), (Value.int IntKind.i64 3), (Value.bool false), (Value.bool false), undef, undef, undef, undef, undef, undef, undef, undef, undef, undef, undef, undef, undef, undef, (Value.bool false), (Value.bool false), undef, undef, undef, undef, undef, undef, undef, undef, undef, undef, undef, undef, undef, undef, undef, undef, undef, (Value.bool true), (Value.bool true), (if L 0 = true then (ev ⟨3, s', pp, pn, pc, dp, dn, dc, g', t'⟩) else undef), (if L 1 = true then (.pointer (some ⟨w.heap.size, 5, none⟩)) else undef), (if L 2 = true then (.int .u64 t') else undef), (if L 3 = true then (ev ⟨3, 0, none, 0, 0, none, 0, 0, 0, t'⟩) else undef), (if L 4 = true then (.bool false) else undef), (if L 5 = true then (.bool false) else undef), undef, undef, undef, (if L 9 = true then (.bool false) else undef)], defers := [] } ∧ (Blk w' w.heap.size 32 (el ⟨3, s', pp, pn, pc, dp, dn, dc, g', t'⟩) ∧ Below w.heap.size w w')) (by kernel_rfl) (by kernel_rfl) ?h0 ?step ?done
          case h0 => exact ⟨by simp, hX1.drew, hB1.drew⟩
          case step =>
            refine Inv.Steps.cons rfl ?_ ?_
            · intro L a w' hI hL hd K hK
              obtain ⟨rfl, hI⟩ := hI
              clear hd
              rw [if_pos (by rfl)]
              refine wp_load_ev _ _ _ (by rfl) (by rfl) hI.1 ?_
              exact hK.out _ _ ⟨by simp [Act.put], hI⟩
            refine Inv.Steps.cons rfl ?_ ?_
            · intro L a w' hI hL hd K hK
              obtain ⟨rfl, hI⟩ := hI
              clear hd
              rw [if_pos (by rfl)]
              go_simp
              exact hK.out _ _ ⟨by simp, hI⟩
            refine Inv.Steps.cons rfl ?_ ?_
            · intro L a w' hI hL hd K hK
              obtain ⟨rfl, hI⟩ := hI
              simp [Region.binds] at hd
              simp only [hd, if_true]
              rw [if_pos (by rfl)]
              have hc := cells6 hI.1
              simp only at hc
              go_simp
              exact hK.out _ _ ⟨by simp [hd], hI⟩
            refine Inv.Steps.cons rfl ?_ ?_
            · intro L a w' hI hL hd K hK
              obtain ⟨rfl, hI⟩ := hI
              simp [Region.binds] at hd
              simp only [hd, if_true]
              rw [if_pos (by rfl)]
              go_simp
              refine (event_period _ _).mono ?_
              rintro e w6 ⟨rfl, hB6⟩
              exact hK.out _ _ ⟨by simp [hd], hI.1.below hB6, bnext hI.2 hB6⟩
            refine Inv.Steps.cons rfl ?_ ?_
            · intro L a w' hI hL hd K hK
              obtain ⟨rfl, hI⟩ := hI
              simp [Region.binds] at hd
              simp only [hd, if_true]
              rw [if_pos (by rfl)]
              go_simp
              refine (hS3 hI.2).mono ?_
              rintro e w6 ⟨rfl, hB6⟩
              exact hK.out _ _ ⟨by simp [hd], hI.1.below hB6, bnext hI.2 hB6⟩
            refine Inv.Steps.cons rfl ?_ ?_
            · intro L a w' hI hL hd K hK
              obtain ⟨rfl, hI⟩ := hI
              simp [Region.binds] at hd
              simp only [hd, if_true]
              rw [if_pos (by rfl)]
              go_simp
              exact hK.out _ _ ⟨by simp [hd], hI⟩
            refine Inv.Steps.cons rfl ?_ ?_
            · intro L a w' hI hL hd K hK
              obtain ⟨rfl, hI⟩ := hI
              simp [Region.binds] at hd
              simp only [hd, if_true]
              rw [if_neg (Bool.eq_false_iff.1 (by rfl))]
              exact hK.out _ _ ⟨by simp [hd, Act.put], hI⟩
            refine Inv.Steps.cons rfl ?_ ?_
            · intro L a w' hI hL hd K hK
              obtain ⟨rfl, hI⟩ := hI
              simp [Region.binds] at hd
              simp only [hd, if_true]
              rw [if_neg (Bool.eq_false_iff.1 (by rfl))]
              exact hK.out _ _ ⟨by simp [hd, Act.put], hI⟩
            refine Inv.Steps.cons rfl ?_ ?_
            · intro L a w' hI hL hd K hK
              obtain ⟨rfl, hI⟩ := hI
              simp [Region.binds] at hd
              simp only [hd, if_true]
              rw [if_neg (Bool.eq_false_iff.1 (by rfl))]
              exact hK.out _ _ ⟨by simp [hd, Act.put], hI⟩
            refine Inv.Steps.cons rfl ?_ ?_
            · intro L a w' hI hL hd K hK
              obtain ⟨rfl, hI⟩ := hI
              simp [Region.binds] at hd
              simp only [hd, if_true]
              rw [if_pos (by rfl)]
              go_simp
              exact hK.out _ _ ⟨by simp [hd], hI⟩
            refine Inv.Steps.cons rfl ?_ ?_
            · intro L a w' hI hL hd K hK
              obtain ⟨rfl, hI⟩ := hI
              simp [Region.binds] at hd
              simp only [hd, if_true]
              rw [if_pos (by rfl)]
              go_simp
              exact hK.out _ _ ⟨by simp [hd], hI⟩
            exact Inv.Steps.nil (by decide)
          case done =>
            intro L a w' hI hall
            obtain ⟨rfl, hI⟩ := hI
            simp only [hall, if_true] at hI ⊢
            go_wp2
            go_ret
            exact ⟨rfl, hI.2⟩
      · have b3 : (k' == 3) = false := by simpa using q3
        obtain rfl : R = false := by rw [HR2.out, if_neg q1, if_neg q2, if_neg q3]
        go_enter Try.func23, Try.ntmps23
        go_wp2_with (first | ((fail_if_success (have _ := hX1)); (refine at_box_ev _ _ (by rfl) (by rfl) (by rfl) ?_); intro V1 hX1 hB1 hz1; have c1 := cells6 hX1; simp only at c1))
        go_ret
        exact ⟨rfl, hB1⟩
end Go.Proofs.Ytnaofcggdjbocaa.Event
