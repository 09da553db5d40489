/-
  The same events: event.Same. (Written by gen_evsame.py.)
-/
import Derived.Test.YtfgndecnakfhnaaEvEqual
namespace Go.Proofs.Ytfgndecnakfhnaa.Event
open Go.RowKit Go.Proofs.Ytfgndecnakfhnaa.Mem Go.Proofs.Ytfgndecnakfhnaa.Policy
set_option maxRecDepth 100000

theorem event_Same (h1 h2 : Eh) (a b : Ev) (w : World) (i1 : Is w h1 a) (i2 : Is w h2 b) (oa : ∀ p ∈ a.ps, PoOk p) (ob : ∀ p ∈ b.ps, PoOk p) (np : h1.pn ≤ 1000) (nd : h1.dn ≤ 1000) :
    Calls Try.prog 16 #[ev h1, ev h2] w fun e w' => e = .returned (.bool (sameE a b)) ∧ Below w.heap.size w w' := by
  obtain ⟨k, s, ps, ds, g, t⟩ := a
  obtain ⟨k2, s2, ps2, ds2, g2, t2⟩ := b
  obtain ⟨k', s', pp, pn, pc, dp, dn, dc, g', t'⟩ := h1
  obtain ⟨k2', s2', pp2, pn2, pc2, dp2, dn2, dc2, g2', t2'⟩ := h2
  obtain ⟨⟨e1, e2, e3, e4⟩, ⟨l1, r1⟩, m1, d1⟩ := i1
  obtain ⟨⟨f1, f2, f3, f4⟩, ⟨l2, r2⟩, m2, d2⟩ := i2
  simp only at e1 e2 e3 e4 f1 f2 f3 f4 l1 r1 m1 d1 l2 r2 m2 d2 oa ob np nd
  subst e1 e2 e3 e4 f1 f2 f3 f4
  obtain ⟨R, hR⟩ : ∃ R, R = sameE ⟨k', s', ps, ds, g', t'⟩ ⟨k2', s2', ps2, ds2, g2', t2'⟩ := ⟨_, rfl⟩
  rw [← hR]
  have HR : Hid (R = sameE ⟨k', s', ps, ds, g', t'⟩ ⟨k2', s2', ps2, ds2, g2', t2'⟩) := hR
  clear hR
  have hP := fun {W : World} (hb : Below w.heap.size w W) => equal_pols pp pp2 pn pn2 pc pc2 ps ps2 l1 l2 np W (r1.below hb) (r2.below hb) oa ob
  have hD := fun {W : World} (hb : Below w.heap.size w W) => equal_ints dp dp2 dn dn2 dc dc2 ds ds2 m1 m2 nd W (d1.below hb) (d2.below hb)
  clear l1 l2 r1 r2 oa ob m1 m2 d1 d2
  by_cases q0 : k' = k2'
  · subst q0
    have b0 : (k' == k') = true := by simp
    by_cases q1 : s' = s2'
    · subst q1
      have b1 : (s' == s') = true := by simp
      by_cases q2 : g' = g2'
      · subst q2
        have b2 : (g' == g') = true := by simp
        by_cases q3 : t' = t2'
        · subst q3
          have b3 : (t' == t') = true := by simp
          cases hE : eqL ps ps2 with
          | false =>
            obtain rfl : R = false := by rw [HR.out]; simp [sameE, hE]
            rw [hE] at hP
            clear hE HR
            go_enter Try.func16, Try.ntmps16
            go_wp2_with (first
              | ((fail_if_success (have _ := hX1)); (refine at_box_ev _ _ (by rfl) (by rfl) (by rfl) ?_); intro V1 hX1 hB1 hz1)
              | ((fail_if_success (have _ := hX2)); (have _ := hX1); (refine at_box_ev _ _ (by rfl) (by rfl) (by rfl) ?_); intro V2 hX2 hB2 hz2; have hX1' := hX1.below hB2; have hB := bnext hB1 hB2; have c1 := cells6 hX1'; have c2 := cells6 hX2; simp only at c1 c2)
              | ((have _ := hX2); (with_reducible refine (hP hB).mono ?_); rintro e w3 ⟨rfl, hB3⟩; have hB4 := bnext hB hB3; have c3 := cells6 (hX1'.below hB3); have c4 := cells6 (hX2.below hB3); simp only at c3 c4)
              | ((have _ := hX2); (with_reducible refine (hD hB4).mono ?_); rintro e w5 ⟨rfl, hB5⟩; have hB6 := bnext hB4 hB5))
            go_ret
            exact ⟨rfl, hB4⟩
          | true =>
            obtain rfl : R = decide (ds = ds2) := by rw [HR.out]; simp [sameE, hE]
            rw [hE] at hP
            clear hE HR
            go_enter Try.func16, Try.ntmps16
            go_wp2_with (first
              | ((fail_if_success (have _ := hX1)); (refine at_box_ev _ _ (by rfl) (by rfl) (by rfl) ?_); intro V1 hX1 hB1 hz1)
              | ((fail_if_success (have _ := hX2)); (have _ := hX1); (refine at_box_ev _ _ (by rfl) (by rfl) (by rfl) ?_); intro V2 hX2 hB2 hz2; have hX1' := hX1.below hB2; have hB := bnext hB1 hB2; have c1 := cells6 hX1'; have c2 := cells6 hX2; simp only at c1 c2)
              | ((have _ := hX2); (with_reducible refine (hP hB).mono ?_); rintro e w3 ⟨rfl, hB3⟩; have hB4 := bnext hB hB3; have c3 := cells6 (hX1'.below hB3); have c4 := cells6 (hX2.below hB3); simp only at c3 c4)
              | ((have _ := hX2); (with_reducible refine (hD hB4).mono ?_); rintro e w5 ⟨rfl, hB5⟩; have hB6 := bnext hB4 hB5))
            go_ret
            exact ⟨rfl, hB6⟩
        · have b3 : (t' == t2') = false := by simpa using q3
          obtain rfl : R = false := by rw [HR.out]; simp [sameE, q3]
          clear HR
          go_enter Try.func16, Try.ntmps16
          go_wp2_with (first
            | ((fail_if_success (have _ := hX1)); (refine at_box_ev _ _ (by rfl) (by rfl) (by rfl) ?_); intro V1 hX1 hB1 hz1)
            | ((fail_if_success (have _ := hX2)); (have _ := hX1); (refine at_box_ev _ _ (by rfl) (by rfl) (by rfl) ?_); intro V2 hX2 hB2 hz2; have hX1' := hX1.below hB2; have hB := bnext hB1 hB2; have c1 := cells6 hX1'; have c2 := cells6 hX2; simp only at c1 c2)
            | ((have _ := hX2); (with_reducible refine (hP hB).mono ?_); rintro e w3 ⟨rfl, hB3⟩; have hB4 := bnext hB hB3; have c3 := cells6 (hX1'.below hB3); have c4 := cells6 (hX2.below hB3); simp only at c3 c4)
            | ((have _ := hX2); (with_reducible refine (hD hB4).mono ?_); rintro e w5 ⟨rfl, hB5⟩; have hB6 := bnext hB4 hB5))
          go_ret
          exact ⟨rfl, hB⟩
      · have b2 : (g' == g2') = false := by simpa using q2
        obtain rfl : R = false := by rw [HR.out]; simp [sameE, q2]
        clear HR
        go_enter Try.func16, Try.ntmps16
        go_wp2_with (first
          | ((fail_if_success (have _ := hX1)); (refine at_box_ev _ _ (by rfl) (by rfl) (by rfl) ?_); intro V1 hX1 hB1 hz1)
          | ((fail_if_success (have _ := hX2)); (have _ := hX1); (refine at_box_ev _ _ (by rfl) (by rfl) (by rfl) ?_); intro V2 hX2 hB2 hz2; have hX1' := hX1.below hB2; have hB := bnext hB1 hB2; have c1 := cells6 hX1'; have c2 := cells6 hX2; simp only at c1 c2)
          | ((have _ := hX2); (with_reducible refine (hP hB).mono ?_); rintro e w3 ⟨rfl, hB3⟩; have hB4 := bnext hB hB3; have c3 := cells6 (hX1'.below hB3); have c4 := cells6 (hX2.below hB3); simp only at c3 c4)
          | ((have _ := hX2); (with_reducible refine (hD hB4).mono ?_); rintro e w5 ⟨rfl, hB5⟩; have hB6 := bnext hB4 hB5))
        go_ret
        exact ⟨rfl, hB⟩
    · have b1 : (s' == s2') = false := by simpa using q1
      obtain rfl : R = false := by rw [HR.out]; simp [sameE, q1]
      clear HR
      go_enter Try.func16, Try.ntmps16
      go_wp2_with (first
        | ((fail_if_success (have _ := hX1)); (refine at_box_ev _ _ (by rfl) (by rfl) (by rfl) ?_); intro V1 hX1 hB1 hz1)
        | ((fail_if_success (have _ := hX2)); (have _ := hX1); (refine at_box_ev _ _ (by rfl) (by rfl) (by rfl) ?_); intro V2 hX2 hB2 hz2; have hX1' := hX1.below hB2; have hB := bnext hB1 hB2; have c1 := cells6 hX1'; have c2 := cells6 hX2; simp only at c1 c2)
        | ((have _ := hX2); (with_reducible refine (hP hB).mono ?_); rintro e w3 ⟨rfl, hB3⟩; have hB4 := bnext hB hB3; have c3 := cells6 (hX1'.below hB3); have c4 := cells6 (hX2.below hB3); simp only at c3 c4)
        | ((have _ := hX2); (with_reducible refine (hD hB4).mono ?_); rintro e w5 ⟨rfl, hB5⟩; have hB6 := bnext hB4 hB5))
      go_ret
      exact ⟨rfl, hB⟩
  · have b0 : (k' == k2') = false := by simpa using q0
    obtain rfl : R = false := by rw [HR.out]; simp [sameE, q0]
    clear HR
    go_enter Try.func16, Try.ntmps16
    go_wp2_with (first
      | ((fail_if_success (have _ := hX1)); (refine at_box_ev _ _ (by rfl) (by rfl) (by rfl) ?_); intro V1 hX1 hB1 hz1)
      | ((fail_if_success (have _ := hX2)); (have _ := hX1); (refine at_box_ev _ _ (by rfl) (by rfl) (by rfl) ?_); intro V2 hX2 hB2 hz2; have hX1' := hX1.below hB2; have hB := bnext hB1 hB2; have c1 := cells6 hX1'; have c2 := cells6 hX2; simp only at c1 c2)
      | ((have _ := hX2); (with_reducible refine (hP hB).mono ?_); rintro e w3 ⟨rfl, hB3⟩; have hB4 := bnext hB hB3; have c3 := cells6 (hX1'.below hB3); have c4 := cells6 (hX2.below hB3); simp only at c3 c4)
      | ((have _ := hX2); (with_reducible refine (hD hB4).mono ?_); rintro e w5 ⟨rfl, hB5⟩; have hB6 := bnext hB4 hB5))
    go_ret
    exact ⟨rfl, hB⟩
end Go.Proofs.Ytfgndecnakfhnaa.Event
