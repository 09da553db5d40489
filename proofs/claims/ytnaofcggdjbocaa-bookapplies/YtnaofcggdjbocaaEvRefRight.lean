/-
  Which events can be, in the document's words: floodgateref12.Right. (Written by gen_evrright.py.)
-/
import Derived.Test.YtnaofcggdjbocaaEvRefSame
import Derived.Test.YtnaofcggdjbocaaPolRefAll
namespace Go.Proofs.Ytnaofcggdjbocaa.Event
open Go.RowKit Go.Proofs.Ytnaofcggdjbocaa.Mem Go.Proofs.Ytnaofcggdjbocaa.Policy
set_option maxRecDepth 100000

theorem right3_iff {s g t : Int} {ps : List Po} {ds : List Int} : rightE ⟨3, s, ps, ds, g, t⟩ = true ↔ 1 ≤ t ∧ t ≤ 281474976710656 ∧ s = 0 ∧ g = 0 ∧ ps.length = 0 ∧ ds.length = 0 := by
  rw [right_iff]
  constructor
  · rintro (⟨ps', ds', he, _⟩ | ⟨s', g', he, _⟩ | ⟨t', he, ht⟩)
    · simp [commitE] at he
    · simp [leaseE] at he
    · simp only [periodE, Ev.mk.injEq, true_and] at he
      obtain ⟨rfl, rfl, rfl, rfl, rfl⟩ := he
      exact ⟨(valB_iff.1 ht).1, (valB_iff.1 ht).2, rfl, rfl, rfl, rfl⟩
  · rintro ⟨h1, h2, rfl, rfl, h3, h4⟩
    obtain rfl := List.eq_nil_of_length_eq_zero h3
    obtain rfl := List.eq_nil_of_length_eq_zero h4
    exact .inr (.inr ⟨t, rfl, valB_iff.2 ⟨h1, h2⟩⟩)
theorem right2_iff {s g t : Int} {ps : List Po} {ds : List Int} : rightE ⟨2, s, ps, ds, g, t⟩ = true ↔ 1 ≤ s ∧ s ≤ 255 ∧ 1 ≤ g ∧ g ≤ 281474976710656 ∧ t = 0 ∧ ps.length = 0 ∧ ds.length = 0 := by
  rw [right_iff]
  constructor
  · rintro (⟨ps', ds', he, _⟩ | ⟨s', g', he, hs, hg⟩ | ⟨t', he, ht⟩)
    · simp [commitE] at he
    · simp only [leaseE, Ev.mk.injEq, true_and] at he
      obtain ⟨rfl, rfl, rfl, rfl, rfl⟩ := he
      exact ⟨(subB_iff.1 hs).1, (subB_iff.1 hs).2, (valB_iff.1 hg).1, (valB_iff.1 hg).2, rfl, rfl, rfl⟩
    · simp [periodE] at he
  · rintro ⟨h1, h2, h3, h4, rfl, h5, h6⟩
    obtain rfl := List.eq_nil_of_length_eq_zero h5
    obtain rfl := List.eq_nil_of_length_eq_zero h6
    exact .inr (.inl ⟨s, g, rfl, subB_iff.2 ⟨h1, h2⟩, valB_iff.2 ⟨h3, h4⟩⟩)
/-- The document's loop over the Drops. -/
def loopB (ps : List Po) : Int → List Int → Bool
  | _, [] => true
  | last, d :: r => !decide (d ≤ last) && !decide (255 < d) && decide (∀ p ∈ ps, p.s ≠ d) && loopB ps d r
theorem loop_iff {ps : List Po} : ∀ {ds : List Int} {last : Int}, 0 ≤ last → (loopB ps last ds = true ↔ dropF last ds = true ∧ apartB ps ds = true)
  | [], last, _ => by simp [loopB, dropF, apartB]
  | d :: r, last, h0 => by
    unfold loopB dropF
    by_cases hd : d ≤ last
    · simp [hd]
    · have ih := loop_iff (ps := ps) (ds := r) (last := d) (by omega)
      simp only [Bool.and_eq_true, Bool.not_eq_true', decide_eq_false_iff_not, decide_eq_true_eq, ih, subB_iff, apartB, List.all_eq_true, List.mem_cons, not_or]
      constructor
      · rintro ⟨⟨⟨_, h2⟩, h3⟩, h4, h5⟩
        exact ⟨⟨⟨⟨by omega, by omega⟩, hd⟩, h4⟩, fun p hp => ⟨h3 p hp, h5 p hp⟩⟩
      · rintro ⟨⟨⟨⟨h1, h2⟩, _⟩, h4⟩, h5⟩
        exact ⟨⟨⟨hd, by omega⟩, fun p hp => (h5 p hp).1⟩, h4, fun p hp => (h5 p hp).2⟩
theorem right1_iff {k s g t : Int} {ps : List Po} {ds : List Int} (h2 : k ≠ 2) (h3 : k ≠ 3) : rightE ⟨k, s, ps, ds, g, t⟩ = true ↔ k = 1 ∧ s = 0 ∧ g = 0 ∧ t = 0 ∧ ds.length ≤ 8 ∧ allE ps = 0 ∧ loopB ps 0 ds = true ∧ 0 < ps.length + ds.length := by
  rw [right_iff, loop_iff (by omega)]
  constructor
  · rintro (⟨ps', ds', he, hc⟩ | ⟨s', g', he, _⟩ | ⟨t', he, _⟩)
    · simp only [commitE, Ev.mk.injEq] at he
      obtain ⟨rfl, rfl, rfl, rfl, rfl, rfl⟩ := he
      obtain ⟨c1, c2, c3, c4, c5⟩ := com_iff.1 hc
      exact ⟨rfl, rfl, rfl, rfl, c3, all_yes c2, ⟨c4, c5⟩, c1⟩
    · simp only [leaseE, Ev.mk.injEq] at he; exact absurd he.1 h2
    · simp only [periodE, Ev.mk.injEq] at he; exact absurd he.1 h3
  · rintro ⟨rfl, rfl, rfl, rfl, c3, c2, ⟨c4, c5⟩, c1⟩
    refine .inl ⟨ps, ds, rfl, com_iff.2 ⟨c1, ?_, c3, c4, c5⟩⟩
    refine all_iff.1 ?_
    cases ha : allB ps with
    | true => rfl
    | false => unfold allE at c2; rw [ha] at c2; cases c2
set_option maxHeartbeats 2000000 in
theorem ref_RightE (h : Eh) (e : Ev) (w : World) (i : Is w h e) (oe : ∀ p ∈ e.ps, PoOk p) (np : h.pn ≤ 1000) (nd : h.dn ≤ 1000) :
    Calls Try.prog 40 #[ev h] w fun x w' => x = .returned (.bool (rightE e)) ∧ Below w.heap.size w w' := by
  have hC := fun {W : World} (hb : Below w.heap.size w W) => ref_AllP h.pp h.pn h.pc e.ps i.2.1.1 np W (i.below hb).2.1.2 oe
  obtain ⟨R, hR⟩ : ∃ R, R = rightE e := ⟨_, rfl⟩
  rw [← hR]
  have HR : Hid (R = rightE e) := hR
  clear hR
  obtain ⟨k, s, ps, ds, g, t⟩ := e
  obtain ⟨k', s', pp, pn, pc, dp, dn, dc, g', t'⟩ := h
  obtain ⟨⟨e1, e2, e3, e4⟩, ⟨l1, r1⟩, m1, d1⟩ := i
  simp only at e1 e2 e3 e4 l1 r1 m1 d1 hC HR np nd
  subst e1 e2 e3 e4
  by_cases k3 : k' = 3
  · subst k3
    by_cases q0 : 1 ≤ t'
    · skip
      by_cases q1 : t' ≤ 281474976710656
      · skip
        by_cases q2 : s' = 0
        · subst q2
          by_cases q3 : g' = 0
          · subst q3
            by_cases qa : pn = 0
            · subst qa
              by_cases qb : dn = 0
              · subst qb
                obtain rfl : R = true := by rw [HR.out]; exact right3_iff.2 ⟨q0, q1, rfl, rfl, l1, m1⟩
                clear HR hC
                go_enter Try.func40, Try.ntmps40
                go_wp2_with (first
                  | ((fail_if_success (have _ := hX1)); (refine at_box_ev _ _ (by rfl) (by rfl) (by rfl) ?_); intro V1 hX1 hB1 hz1; have c1 := cells6 hX1; simp only at c1))
                go_ret
                exact ⟨rfl, hB1⟩
              · obtain rfl : R = false := by rw [HR.out]; exact Bool.eq_false_iff.2 fun h => qb (m1.symm.trans (right3_iff.1 h).2.2.2.2.2)
                have qbb : ((dn : Int) == 0) = false := by simpa using qb
                clear HR hC
                go_enter Try.func40, Try.ntmps40
                go_wp2_with (first
                  | ((fail_if_success (have _ := hX1)); (refine at_box_ev _ _ (by rfl) (by rfl) (by rfl) ?_); intro V1 hX1 hB1 hz1; have c1 := cells6 hX1; simp only at c1))
                go_ret
                exact ⟨rfl, hB1⟩
            · obtain rfl : R = false := by rw [HR.out]; exact Bool.eq_false_iff.2 fun h => qa (l1.symm.trans (right3_iff.1 h).2.2.2.2.1)
              have qab : ((pn : Int) == 0) = false := by simpa using qa
              clear HR hC
              go_enter Try.func40, Try.ntmps40
              go_wp2_with (first
                | ((fail_if_success (have _ := hX1)); (refine at_box_ev _ _ (by rfl) (by rfl) (by rfl) ?_); intro V1 hX1 hB1 hz1; have c1 := cells6 hX1; simp only at c1))
              go_ret
              exact ⟨rfl, hB1⟩
          · obtain rfl : R = false := by rw [HR.out]; exact Bool.eq_false_iff.2 fun h => q3 (right3_iff.1 h).2.2.2.1
            have q3b : (g' == 0) = false := by simpa using q3
            clear HR hC
            go_enter Try.func40, Try.ntmps40
            go_wp2_with (first
              | ((fail_if_success (have _ := hX1)); (refine at_box_ev _ _ (by rfl) (by rfl) (by rfl) ?_); intro V1 hX1 hB1 hz1; have c1 := cells6 hX1; simp only at c1))
            go_ret
            exact ⟨rfl, hB1⟩
        · obtain rfl : R = false := by rw [HR.out]; exact Bool.eq_false_iff.2 fun h => q2 (right3_iff.1 h).2.2.1
          have q2b : (s' == 0) = false := by simpa using q2
          clear HR hC
          go_enter Try.func40, Try.ntmps40
          go_wp2_with (first
            | ((fail_if_success (have _ := hX1)); (refine at_box_ev _ _ (by rfl) (by rfl) (by rfl) ?_); intro V1 hX1 hB1 hz1; have c1 := cells6 hX1; simp only at c1))
          go_ret
          exact ⟨rfl, hB1⟩
      · obtain rfl : R = false := by rw [HR.out]; exact Bool.eq_false_iff.2 fun h => q1 (right3_iff.1 h).2.1
        clear HR hC
        go_enter Try.func40, Try.ntmps40
        go_wp2_with (first
          | ((fail_if_success (have _ := hX1)); (refine at_box_ev _ _ (by rfl) (by rfl) (by rfl) ?_); intro V1 hX1 hB1 hz1; have c1 := cells6 hX1; simp only at c1))
        go_ret
        exact ⟨rfl, hB1⟩
    · obtain rfl : R = false := by rw [HR.out]; exact Bool.eq_false_iff.2 fun h => q0 (right3_iff.1 h).1
      clear HR hC
      go_enter Try.func40, Try.ntmps40
      go_wp2_with (first
        | ((fail_if_success (have _ := hX1)); (refine at_box_ev _ _ (by rfl) (by rfl) (by rfl) ?_); intro V1 hX1 hB1 hz1; have c1 := cells6 hX1; simp only at c1))
      go_ret
      exact ⟨rfl, hB1⟩
  · have k3b : (k' == 3) = false := by simpa using k3
    by_cases k2 : k' = 2
    · subst k2
      by_cases q0 : 1 ≤ s'
      · skip
        by_cases q1 : s' ≤ 255
        · skip
          by_cases q2 : 1 ≤ g'
          · skip
            by_cases q3 : g' ≤ 281474976710656
            · skip
              by_cases q4 : t' = 0
              · subst q4
                by_cases qa : pn = 0
                · subst qa
                  by_cases qb : dn = 0
                  · subst qb
                    obtain rfl : R = true := by rw [HR.out]; exact right2_iff.2 ⟨q0, q1, q2, q3, rfl, l1, m1⟩
                    clear HR hC
                    go_enter Try.func40, Try.ntmps40
                    go_wp2_with (first
                      | ((fail_if_success (have _ := hX1)); (refine at_box_ev _ _ (by rfl) (by rfl) (by rfl) ?_); intro V1 hX1 hB1 hz1; have c1 := cells6 hX1; simp only at c1))
                    go_ret
                    exact ⟨rfl, hB1⟩
                  · obtain rfl : R = false := by rw [HR.out]; exact Bool.eq_false_iff.2 fun h => qb (m1.symm.trans (right2_iff.1 h).2.2.2.2.2.2)
                    have qbb : ((dn : Int) == 0) = false := by simpa using qb
                    clear HR hC
                    go_enter Try.func40, Try.ntmps40
                    go_wp2_with (first
                      | ((fail_if_success (have _ := hX1)); (refine at_box_ev _ _ (by rfl) (by rfl) (by rfl) ?_); intro V1 hX1 hB1 hz1; have c1 := cells6 hX1; simp only at c1))
                    go_ret
                    exact ⟨rfl, hB1⟩
                · obtain rfl : R = false := by rw [HR.out]; exact Bool.eq_false_iff.2 fun h => qa (l1.symm.trans (right2_iff.1 h).2.2.2.2.2.1)
                  have qab : ((pn : Int) == 0) = false := by simpa using qa
                  clear HR hC
                  go_enter Try.func40, Try.ntmps40
                  go_wp2_with (first
                    | ((fail_if_success (have _ := hX1)); (refine at_box_ev _ _ (by rfl) (by rfl) (by rfl) ?_); intro V1 hX1 hB1 hz1; have c1 := cells6 hX1; simp only at c1))
                  go_ret
                  exact ⟨rfl, hB1⟩
              · obtain rfl : R = false := by rw [HR.out]; exact Bool.eq_false_iff.2 fun h => q4 (right2_iff.1 h).2.2.2.2.1
                have q4b : (t' == 0) = false := by simpa using q4
                clear HR hC
                go_enter Try.func40, Try.ntmps40
                go_wp2_with (first
                  | ((fail_if_success (have _ := hX1)); (refine at_box_ev _ _ (by rfl) (by rfl) (by rfl) ?_); intro V1 hX1 hB1 hz1; have c1 := cells6 hX1; simp only at c1))
                go_ret
                exact ⟨rfl, hB1⟩
            · obtain rfl : R = false := by rw [HR.out]; exact Bool.eq_false_iff.2 fun h => q3 (right2_iff.1 h).2.2.2.1
              clear HR hC
              go_enter Try.func40, Try.ntmps40
              go_wp2_with (first
                | ((fail_if_success (have _ := hX1)); (refine at_box_ev _ _ (by rfl) (by rfl) (by rfl) ?_); intro V1 hX1 hB1 hz1; have c1 := cells6 hX1; simp only at c1))
              go_ret
              exact ⟨rfl, hB1⟩
          · obtain rfl : R = false := by rw [HR.out]; exact Bool.eq_false_iff.2 fun h => q2 (right2_iff.1 h).2.2.1
            clear HR hC
            go_enter Try.func40, Try.ntmps40
            go_wp2_with (first
              | ((fail_if_success (have _ := hX1)); (refine at_box_ev _ _ (by rfl) (by rfl) (by rfl) ?_); intro V1 hX1 hB1 hz1; have c1 := cells6 hX1; simp only at c1))
            go_ret
            exact ⟨rfl, hB1⟩
        · obtain rfl : R = false := by rw [HR.out]; exact Bool.eq_false_iff.2 fun h => q1 (right2_iff.1 h).2.1
          clear HR hC
          go_enter Try.func40, Try.ntmps40
          go_wp2_with (first
            | ((fail_if_success (have _ := hX1)); (refine at_box_ev _ _ (by rfl) (by rfl) (by rfl) ?_); intro V1 hX1 hB1 hz1; have c1 := cells6 hX1; simp only at c1))
          go_ret
          exact ⟨rfl, hB1⟩
      · obtain rfl : R = false := by rw [HR.out]; exact Bool.eq_false_iff.2 fun h => q0 (right2_iff.1 h).1
        clear HR hC
        go_enter Try.func40, Try.ntmps40
        go_wp2_with (first
          | ((fail_if_success (have _ := hX1)); (refine at_box_ev _ _ (by rfl) (by rfl) (by rfl) ?_); intro V1 hX1 hB1 hz1; have c1 := cells6 hX1; simp only at c1))
        go_ret
        exact ⟨rfl, hB1⟩
    · have k2b : (k' == 2) = false := by simpa using k2
      have HI := right1_iff (s := s') (g := g') (t := t') (ps := ps) (ds := ds) k2 k3
      by_cases q0 : k' = 1
      · have q0b : (k' != 1) = false := by simpa using q0
        by_cases q1 : s' = 0
        · have q1b : (s' != 0) = false := by simpa using q1
          by_cases q2 : g' = 0
          · have q2b : (g' != 0) = false := by simpa using q2
            by_cases q3 : t' = 0
            · have q3b : (t' != 0) = false := by simpa using q3
              by_cases q4 : dn ≤ 8
              · have q4b : decide ((8 : Int) < (dn : Int)) = false := decide_eq_false (by omega)
                by_cases q5 : allE ps = 0
                · rw [q5] at hC
                  obtain ⟨B, hBB⟩ : ∃ B, loopB ps 0 ds = B := ⟨_, rfl⟩
                  have HR2 : Hid (R = (B && decide (0 < pn + dn))) := by
                    unfold Hid
                    rw [HR.out]
                    cases hq : rightE ⟨k', s', ps, ds, g', t'⟩ with
                    | true =>
                      obtain ⟨-, -, -, -, -, -, z1, z2⟩ := HI.1 hq
                      rw [hBB] at z1
                      rw [z1, decide_eq_true (by omega)]
                      rfl
                    | false =>
                      cases B with
                      | false => rfl
                      | true =>
                        refine (decide_eq_false fun z => ?_).symm
                        have := HI.2 ⟨q0, q1, q2, q3, by omega, q5, hBB, by omega⟩
                        rw [hq] at this
                        cases this
                  have HB0 : Hid (loopB ps 0 (ds.drop 0) = B) := by unfold Hid; simpa using hBB
                  clear HR HI hBB q5
                  go_enter Try.func40, Try.ntmps40
                  go_wp2_with (first
                    | ((fail_if_success (have _ := hX1)); (refine at_box_ev _ _ (by rfl) (by rfl) (by rfl) ?_); intro V1 hX1 hB1 hz1; have c1 := cells6 hX1; simp only at c1)
                    | ((fail_if_success (have _ := hB2)); (have _ := hX1); (with_reducible refine (hC hB1).mono ?_); rintro e w2 ⟨rfl, hB2⟩; have hX2 := hX1.below hB2; have hB12 := bnext hB1 hB2; have c2 := cells6 hX2; simp only at c2))
                  have hr1 := fun {W : World} (hb : Below w2.heap.size w2 W) => r1.below (bnext hB12 hb)
                  have hd1 := fun {W : World} (hb : Below w2.heap.size w2 W) => d1.below (bnext hB12 hb)
                  clear r1 d1 c1 c2 hX1 hB1 hB2 hz1 hC q0 q1 q2 q3
                  go_loopw [3, 112] (fun v3 j wr => ∃ (k : Nat) (last : Int), k ≤ dn ∧ v3 = .int .i64 last ∧ 0 ≤ last ∧ j = .int .i64 k ∧ Below w2.heap.size w2 wr ∧ Hid (loopB ps last (ds.drop k) = B)) (fun _ j _ => dn - (intOf j).toNat)
                  case atStart => exact ⟨0, 0, Nat.zero_le _, rfl, by omega, rfl, Below.refl _ _, HB0⟩
                  case round =>
                    obtain ⟨k, last, hk, rfl, hl0, rfl, hBr, HW⟩ := hrel
                    clear HB0
                    by_cases hlt : k < dn
                    · have hlt3 : (k : Int) < (dn : Int) := by omega
                      obtain ⟨x, hx⟩ : ∃ x, ds[k]? = some x := ⟨_, List.getElem?_eq_getElem (by omega)⟩
                      obtain ⟨b, o, rfl, hb, hc⟩ := cell_at (hd1 hBr) hx
                      have hstep : Hid ((!decide (x ≤ last) && !decide (255 < x) && decide (∀ p ∈ ps, p.s ≠ x) && loopB ps x (ds.drop (k + 1))) = B) := by
                        have := HW.out
                        rw [List.drop_eq_getElem_cons (by omega), show ds[k] = x from by rw [List.getElem?_eq_getElem (by omega)] at hx; exact Option.some.inj hx] at this
                        unfold Hid
                        simpa only [loopB] using this
                      clear HW hx
                      by_cases hle : x ≤ last
                      · obtain rfl : B = false := by rw [← hstep.out, decide_eq_true hle]; rfl
                        go_wp2
                        go_ret
                        exact ⟨by rw [HR2.out]; rfl, bnext hB12 hBr⟩
                      · by_cases hgt : 255 < x
                        · obtain rfl : B = false := by rw [← hstep.out, decide_eq_false hle, decide_eq_true hgt]; rfl
                          go_wp2
                          go_ret
                          exact ⟨by rw [HR2.out]; rfl, bnext hB12 hBr⟩
                        · have c3 := cells6 (hX2.below hBr)
                          simp only at c3
                          go_wp2
                          go_loopw [127] (fun j ws => ∃ m : Nat, m ≤ pn ∧ j = .int .i64 m ∧ Below w2.heap.size w2 ws ∧ Hid (∀ p ∈ ps.take m, p.s ≠ x)) (fun j _ => pn - (intOf j).toNat)
                          case atStart => exact ⟨0, Nat.zero_le _, rfl, hBr, by unfold Hid; simp⟩
                          case round =>
                            obtain ⟨m, hm, rfl, hBs, HK⟩ := hrel
                            clear c3
                            by_cases hlt : m < pn
                            · have hlt3 : (m : Int) < (pn : Int) := by omega
                              obtain ⟨y, hy⟩ : ∃ y, ps[m]? = some y := ⟨_, List.getElem?_eq_getElem (by omega)⟩
                              obtain ⟨b2, o2, rfl, hb2, hc2⟩ := row_at (hr1 hBs) hy
                              have hmem : Hid (y ∈ ps) := List.mem_of_getElem? hy
                              have htk : Hid (ps.take (m + 1) = ps.take m ++ [y]) := by
                                unfold Hid
                                rw [List.take_succ_eq_append_getElem (by omega), show ps[m] = y from by rw [List.getElem?_eq_getElem (by omega)] at hy; exact Option.some.inj hy]
                              clear hy
                              by_cases hyx : y.s = x
                              · obtain rfl : B = false := by
                                  have : decide (∀ p ∈ ps, p.s ≠ x) = false := decide_eq_false fun q => q y hmem.out hyx
                                  rw [← hstep.out, this]
                                  simp
                                have hbb : (y.s == x) = true := by simpa using hyx
                                go_wp2_with (first
                                  | ((fail_if_success (have _ := hZ1)); (refine at_load_pr _ _ _ _ (by rfl) (by rfl) hc2 (by rfl) ?_))
                                  | ((fail_if_success (have _ := hZ1)); (refine at_alloc_po (by rfl) (by rfl) ?_); intro U1 hZ1 hC1 hy1)
                                  | ((fail_if_success (have _ := hZ2)); (have _ := hZ1); (refine at_store_po _ _ _ _ _ (by rfl) (by rfl) (by rfl) hZ1 rfl (by rfl) ?_); intro U2 hZ2 hg2 hy2; have hC2 := hC1.grown hg2 hC1.size (by simp); have hkk2 := cells13 hZ2))
                                go_ret
                                exact ⟨by rw [HR2.out]; rfl, bnext hB12 (bnext hBs hC2)⟩
                              · have HN : Hid (∀ p ∈ ps.take (m + 1), p.s ≠ x) := by
                                  unfold Hid
                                  rw [htk.out]
                                  intro p hp
                                  rcases List.mem_append.1 hp with hp | hp
                                  · exact HK.out p hp
                                  · rw [List.mem_singleton.1 hp]; exact hyx
                                have hbb : (y.s == x) = false := by simpa using hyx
                                go_wp2_with (first
                                  | ((fail_if_success (have _ := hZ1)); (refine at_load_pr _ _ _ _ (by rfl) (by rfl) hc2 (by rfl) ?_))
                                  | ((fail_if_success (have _ := hZ1)); (refine at_alloc_po (by rfl) (by rfl) ?_); intro U1 hZ1 hC1 hy1)
                                  | ((fail_if_success (have _ := hZ2)); (have _ := hZ1); (refine at_store_po _ _ _ _ _ (by rfl) (by rfl) (by rfl) hZ1 rfl (by rfl) ?_); intro U2 hZ2 hg2 hy2; have hC2 := hC1.grown hg2 hC1.size (by simp); have hkk2 := cells13 hZ2))
                                go_roundw
                                case rel => exact ⟨m + 1, by omega, by go_num, bnext hBs hC2, HN⟩
                                case measure => simp [intOf]; omega
                            · have HN : Hid (loopB ps x (ds.drop (k + 1)) = B) := by
                                have h1 : decide (∀ p ∈ ps, p.s ≠ x) = true := by
                                  have := HK.out
                                  rw [List.take_of_length_le (by omega)] at this
                                  exact decide_eq_true this
                                have := hstep.out
                                rw [decide_eq_false (show ¬ x ≤ last by omega), decide_eq_false (show ¬ 255 < x by omega), h1] at this
                                unfold Hid
                                simpa using this
                              have hx0 : 0 ≤ x := by omega
                              clear hstep HK
                              go_wp2
                              go_roundw
                              case rel => exact ⟨k + 1, x, by omega, rfl, hx0, by go_num, hBs, HN⟩
                              case measure => simp [intOf]; omega
                    · have hd : ds.drop k = [] := List.drop_eq_nil_of_le (by omega)
                      obtain rfl : B = true := by rw [← HW.out, hd]; rfl
                      have c3 := cells6 (hX2.below hBr)
                      simp only at c3
                      clear HW hd
                      by_cases hp0 : pn = 0
                      · subst hp0
                        by_cases hd0 : dn = 0
                        · subst hd0
                          go_wp2
                          go_ret
                          exact ⟨by rw [HR2.out]; rfl, bnext hB12 hBr⟩
                        · have hdi : (0 : Int) < (dn : Int) := by omega
                          have hdn : 0 < dn := by omega
                          go_wp2
                          go_ret
                          exact ⟨by rw [HR2.out, decide_eq_true (by omega)]; rfl, bnext hB12 hBr⟩
                      · have hpi : (0 : Int) < (pn : Int) := by omega
                        have hpn : 0 < pn := by omega
                        go_wp2
                        go_ret
                        exact ⟨by rw [HR2.out, decide_eq_true (by omega)]; rfl, bnext hB12 hBr⟩
                · have hE : allE ps = 111 := by unfold allE at q5 ⊢; split at q5 <;> simp_all
                  obtain rfl : R = false := by rw [HR.out]; exact Bool.eq_false_iff.2 fun h => q5 (HI.1 h).2.2.2.2.2.1
                  rw [hE] at hC
                  clear HR HI
                  go_enter Try.func40, Try.ntmps40
                  go_wp2_with (first
                    | ((fail_if_success (have _ := hX1)); (refine at_box_ev _ _ (by rfl) (by rfl) (by rfl) ?_); intro V1 hX1 hB1 hz1; have c1 := cells6 hX1; simp only at c1)
                    | ((fail_if_success (have _ := hB2)); (have _ := hX1); (with_reducible refine (hC hB1).mono ?_); rintro e w2 ⟨rfl, hB2⟩; have hB12 := bnext hB1 hB2))
                  go_ret
                  exact ⟨rfl, hB12⟩
              · have q4b : (8 : Int) < (dn : Int) := by omega
                obtain rfl : R = false := by rw [HR.out]; exact Bool.eq_false_iff.2 fun h => q4 (by have := (HI.1 h).2.2.2.2.1; omega)
                clear HR HI hC
                go_enter Try.func40, Try.ntmps40
                go_wp2_with (first
                  | ((fail_if_success (have _ := hX1)); (refine at_box_ev _ _ (by rfl) (by rfl) (by rfl) ?_); intro V1 hX1 hB1 hz1; have c1 := cells6 hX1; simp only at c1))
                go_ret
                exact ⟨rfl, hB1⟩
            · obtain rfl : R = false := by rw [HR.out]; exact Bool.eq_false_iff.2 fun h => q3 (HI.1 h).2.2.2.1
              have q3b : (t' != 0) = true := by simpa using q3
              clear HR hC
              go_enter Try.func40, Try.ntmps40
              go_wp2_with (first
                | ((fail_if_success (have _ := hX1)); (refine at_box_ev _ _ (by rfl) (by rfl) (by rfl) ?_); intro V1 hX1 hB1 hz1; have c1 := cells6 hX1; simp only at c1))
              go_ret
              exact ⟨rfl, hB1⟩
          · obtain rfl : R = false := by rw [HR.out]; exact Bool.eq_false_iff.2 fun h => q2 (HI.1 h).2.2.1
            have q2b : (g' != 0) = true := by simpa using q2
            clear HR hC
            go_enter Try.func40, Try.ntmps40
            go_wp2_with (first
              | ((fail_if_success (have _ := hX1)); (refine at_box_ev _ _ (by rfl) (by rfl) (by rfl) ?_); intro V1 hX1 hB1 hz1; have c1 := cells6 hX1; simp only at c1))
            go_ret
            exact ⟨rfl, hB1⟩
        · obtain rfl : R = false := by rw [HR.out]; exact Bool.eq_false_iff.2 fun h => q1 (HI.1 h).2.1
          have q1b : (s' != 0) = true := by simpa using q1
          clear HR hC
          go_enter Try.func40, Try.ntmps40
          go_wp2_with (first
            | ((fail_if_success (have _ := hX1)); (refine at_box_ev _ _ (by rfl) (by rfl) (by rfl) ?_); intro V1 hX1 hB1 hz1; have c1 := cells6 hX1; simp only at c1))
          go_ret
          exact ⟨rfl, hB1⟩
      · obtain rfl : R = false := by rw [HR.out]; exact Bool.eq_false_iff.2 fun h => q0 (HI.1 h).1
        have q0b : (k' != 1) = true := by simpa using q0
        clear HR hC
        go_enter Try.func40, Try.ntmps40
        go_wp2_with (first
          | ((fail_if_success (have _ := hX1)); (refine at_box_ev _ _ (by rfl) (by rfl) (by rfl) ?_); intro V1 hX1 hB1 hz1; have c1 := cells6 hX1; simp only at c1))
        go_ret
        exact ⟨rfl, hB1⟩
end Go.Proofs.Ytnaofcggdjbocaa.Event
