/-
  Which commits can be: apart, rightCommit.
-/
import Derived.Test.YtnaofcggdjbocaaEvSmall
import Derived.Test.YtnaofcggdjbocaaInvB
/-
  The library's Equal over ints and over policies.
-/
namespace Go.Proofs.Ytnaofcggdjbocaa.Event
open Go.RowKit Go.Proofs.Ytnaofcggdjbocaa.Mem Go.Proofs.Ytnaofcggdjbocaa.Policy
set_option maxRecDepth 100000

section
variable {o : Oper} {a : Act} {w : World} {K : Act → World → Prop} {ops : Array Oper} {rest : List Oper} {Q : Exit → Act → World → Prop}
theorem wp_neq_po {p q : Po} (hp : PoOk p) (hq : PoOk q) (x y : Operand) (ho : o.op = .binOp .neq 47 x y 47) (hx : a.eval x = pv p) (hy : a.eval y = pv q) (h : K (a.put o.dst (.bool (!eqB p q))) w) : o.wp Try.prog a w K Q := by
  unfold Oper.wp execOp
  simp only [ho, hx, hy, Sem.run_bind, neg_po, nes_po hp hq, Sem.run_pure, Result.andThen_ok]
  exact h
end
theorem take_next {α : Type} {xs : List α} {k : Nat} (h : k < xs.length) : xs.take (k + 1) = xs.take k ++ [xs[k]] := List.take_succ_eq_append_getElem h
theorem same_next {α : Type} {xs ys : List α} {k : Nat} {x y : α} (hx : xs[k]? = some x) (hy : ys[k]? = some y) (h : xs.take k = ys.take k) : xs.take (k + 1) = ys.take (k + 1) ↔ x = y := by
  have lx := (List.getElem?_eq_some_iff.1 hx).1
  have ly := (List.getElem?_eq_some_iff.1 hy).1
  rw [List.getElem?_eq_getElem lx] at hx
  rw [List.getElem?_eq_getElem ly] at hy
  rw [take_next lx, take_next ly, h, List.append_cancel_left_eq, Option.some.inj hx, Option.some.inj hy]
  simp
theorem eqL_not {a b : List Po} (h : a ≠ b) : eqL a b = false := by
  cases hd : eqL a b with
  | false => rfl
  | true => exact absurd (eqL_iff.1 hd) h
/-- Ints. -/
theorem equal_ints (p q : Option Addr) (m n c d : Nat) (zs ys : List Int) (hm : zs.length = m) (hn : ys.length = n) (hbig : m ≤ 1000) (w : World) (h1 : Reads .i64 w p c zs) (h2 : Reads .i64 w q d ys) :
    Calls Try.prog 72 #[.slice p m c, .slice q n d] w fun e w' => e = .returned (.bool (decide (zs = ys))) ∧ Below w.heap.size w w' := by
  by_cases hmn : m = n
  · subst hmn
    have heq : ((m : Int) != (m : Int)) = false := by simp
    go_enter Try.func72, Try.ntmps72
    go_wp2_with fail
    go_loopw [13] (fun i wr => ∃ k : Nat, k ≤ m ∧ i = .int .i64 k ∧ Below w.heap.size w wr ∧ Hid (zs.take k = ys.take k)) (fun i _ => m - (intOf i).toNat)
    case atStart => exact ⟨0, Nat.zero_le _, rfl, Below.refl _ _, by unfold Hid; simp⟩
    case round =>
      obtain ⟨k, hk, rfl, hnx, HK⟩ := hrel
      by_cases hlt : k < m
      · obtain ⟨x, hx⟩ : ∃ x, zs[k]? = some x := ⟨_, List.getElem?_eq_getElem (by omega)⟩
        obtain ⟨y, hy⟩ : ∃ y, ys[k]? = some y := ⟨_, List.getElem?_eq_getElem (by omega)⟩
        have HS : Hid (zs.take (k + 1) = ys.take (k + 1) ↔ x = y) := same_next hx hy HK.out
        obtain ⟨b, o, rfl, _, hk1⟩ := cell_at (h1.below hnx) hx
        obtain ⟨b', o', rfl, _, hk2⟩ := cell_at (h2.below hnx) hy
        have hi0 : (0 : Int) ≤ (k : Int) := by omega
        have hi1 : (k : Int) < (m : Int) := by omega
        clear hx hy
        by_cases hxy : x = y
        · have HN : Hid (zs.take (k + 1) = ys.take (k + 1)) := HS.out.2 hxy
          subst hxy
          have hbb : (x != x) = false := by simp
          go_wp2_with fail
          go_quiet (fail)
          go_wp2_with fail
          go_roundw
          case rel => exact ⟨k + 1, by omega, by go_num, bnext hnx (bdrewN _ _), HN⟩
          case measure => simp [intOf]; omega
        · have HNE : Hid (zs ≠ ys) := fun q => hxy (HS.out.1 (by rw [q]))
          have hbb : (x != y) = true := by simpa using hxy
          go_wp2_with fail
          go_quiet (fail)
          go_wp2_with fail
          go_ret
          exact ⟨by rw [decide_eq_false HNE.out]; rfl, bnext hnx (bdrewN _ _)⟩
      · have HE : Hid (zs = ys) := by
          have := HK.out
          rw [List.take_of_length_le (by omega), List.take_of_length_le (by omega)] at this
          exact this
        go_wp2_with fail
        go_ret
        exact ⟨by rw [decide_eq_true HE.out]; rfl, hnx⟩
  · have hne : ((m : Int) != (n : Int)) = true := by simp; omega
    have e : decide (zs = ys) = false := decide_eq_false fun e => hmn (by rw [← hm, ← hn, e])
    rw [e]
    go_enter Try.func72, Try.ntmps72
    go_wp2_with fail
    go_ret
    exact ⟨rfl, Below.refl _ _⟩
/-- Policies. -/
theorem equal_pols (p1 p2 : Option Addr) (n1 n2 c1 c2 : Nat) (xs ys : List Po) (l1 : xs.length = n1) (l2 : ys.length = n2) (hn : n1 ≤ 1000) (w : World) (r1 : RK pl w p1 c1 xs) (r2 : RK pl w p2 c2 ys) (k1 : ∀ p ∈ xs, PoOk p) (k2 : ∀ p ∈ ys, PoOk p) :
    Calls Try.prog 71 #[.slice p1 n1 c1, .slice p2 n2 c2] w fun e w' => e = .returned (.bool (eqL xs ys)) ∧ Below w.heap.size w w' := by
  by_cases hl : n1 = n2
  · subst hl
    go_enter Try.func71, Try.ntmps71
    go_wp2
    go_loopw [13] (fun i wr => ∃ k : Nat, k ≤ n1 ∧ i = .int .i64 k ∧ Hid (xs.take k = ys.take k) ∧ Below w.heap.size w wr) (fun i _ => n1 - (intOf i).toNat)
    case atStart => exact ⟨0, by omega, rfl, by unfold Hid; simp, Below.refl _ _⟩
    case round =>
      obtain ⟨k, hk, rfl, HK, hB⟩ := hrel
      by_cases hlt : k < n1
      · obtain ⟨x, hx⟩ : ∃ x, xs[k]? = some x := ⟨_, List.getElem?_eq_getElem (by omega)⟩
        obtain ⟨y, hy⟩ : ∃ y, ys[k]? = some y := ⟨_, List.getElem?_eq_getElem (by omega)⟩
        have HS : Hid (xs.take (k + 1) = ys.take (k + 1) ↔ x = y) := same_next hx hy HK.out
        have ox := k1 x (List.mem_of_getElem? hx)
        have oy := k2 y (List.mem_of_getElem? hy)
        obtain ⟨b1, o1, rfl, hlt1, hc1⟩ := r1.at pl_len hx
        obtain ⟨b2, o2, rfl, hlt2, hc2⟩ := r2.at pl_len hy
        have hr1 : ∀ {W : World}, Below w.heap.size w W → ∀ j v, (pl x)[j]? = some v → W.cell? ⟨b1, o1 + k * 13 + j, none⟩ = some v := fun hB j v hv => (hB.cell (p := ⟨b1, o1 + k * 13 + j, none⟩) hlt1).trans (hc1 j v hv)
        have hr2 : ∀ {W : World}, Below w.heap.size w W → ∀ j v, (pl y)[j]? = some v → W.cell? ⟨b2, o2 + k * 13 + j, none⟩ = some v := fun hB j v hv => (hB.cell (p := ⟨b2, o2 + k * 13 + j, none⟩) hlt2).trans (hc2 j v hv)
        clear hx hy hc1 hc2
        have hlt' : (k : Int) < (n1 : Int) := by omega
        go_wp2
        refine Inv.region_inv (fun L a w' => a = { tmps := #[(.slice (some ⟨b1, o1, none⟩) n1 c1), (.slice (some ⟨b2, o2, none⟩) n1 c2), undef, undef, u4, (.int .i64 (k : Int)), (.slice (some ⟨b1, o1, none⟩) n1 c1), (.int .i64 (n1 : Int)), (.slice (some ⟨b2, o2, none⟩) n1 c2), (.int .i64 (n1 : Int)), (.bool false), (.slice (some ⟨b1, o1, none⟩) n1 c1), (.int .i64 (n1 : Int)), (.int .i64 (k : Int)), (.bool true), (.int .i64 (k : Int)), (if L 0 = true then (.slice (some ⟨b1, o1, none⟩) n1 c1) else u16), (if L 1 = true then (.int .i64 (k : Int)) else u17), (if L 2 = true then (.pointer (some ⟨b1, o1 + k * 13, none⟩)) else u18), (if L 3 = true then (pv x) else u19), (if L 4 = true then (.slice (some ⟨b2, o2, none⟩) n1 c2) else u20), (if L 5 = true then (.int .i64 (k : Int)) else u21), (if L 6 = true then (.pointer (some ⟨b2, o2 + k * 13, none⟩)) else u22), (if L 7 = true then (pv y) else u23), (if L 8 = true then (.bool (!eqB x y)) else u24), u25], defers := [] } ∧ (Below w.heap.size w w')) (by kernel_rfl) (by kernel_rfl) ?h0 ?step ?done
        case h0 => exact ⟨by simp, hB.drew⟩
        case step =>
          refine Inv.Steps.cons rfl ?_ ?_
          · intro L a w' hI hL hd K hK
            obtain ⟨rfl, hI⟩ := hI
            clear hd
            rw [if_pos (by rfl)]
            go_simp
            exact hK.out _ _ ⟨by simp, hI⟩
          refine Inv.Steps.cons rfl ?_ ?_
          · intro L a w' hI hL hd K hK
            obtain ⟨rfl, hI⟩ := hI
            clear hd
            rw [if_pos (by rfl)]
            go_simp
            exact hK.out _ _ ⟨by simp, hI⟩
          refine Inv.Steps.cons rfl ?_ ?_
          · intro L a w' hI hL hd K hK
            obtain ⟨rfl, hI⟩ := hI
            simp [Region.binds] at hd
            simp only [hd, if_true]
            rw [if_pos (by rfl)]
            go_simp
            exact hK.out _ _ ⟨by simp [hd], hI⟩
          refine Inv.Steps.cons rfl ?_ ?_
          · intro L a w' hI hL hd K hK
            obtain ⟨rfl, hI⟩ := hI
            simp [Region.binds] at hd
            simp only [hd, if_true]
            rw [if_pos (by rfl)]
            refine wp_load_pr _ _ _ _ (by rfl) (by rfl) (hr1 hI) ?_
            exact hK.out _ _ ⟨by simp [hd, Act.put], hI⟩
          refine Inv.Steps.cons rfl ?_ ?_
          · intro L a w' hI hL hd K hK
            obtain ⟨rfl, hI⟩ := hI
            clear hd
            rw [if_pos (by rfl)]
            go_simp
            exact hK.out _ _ ⟨by simp, hI⟩
          refine Inv.Steps.cons rfl ?_ ?_
          · intro L a w' hI hL hd K hK
            obtain ⟨rfl, hI⟩ := hI
            clear hd
            rw [if_pos (by rfl)]
            go_simp
            exact hK.out _ _ ⟨by simp, hI⟩
          refine Inv.Steps.cons rfl ?_ ?_
          · intro L a w' hI hL hd K hK
            obtain ⟨rfl, hI⟩ := hI
            simp [Region.binds] at hd
            simp only [hd, if_true]
            rw [if_pos (by rfl)]
            go_simp
            exact hK.out _ _ ⟨by simp [hd], hI⟩
          refine Inv.Steps.cons rfl ?_ ?_
          · intro L a w' hI hL hd K hK
            obtain ⟨rfl, hI⟩ := hI
            simp [Region.binds] at hd
            simp only [hd, if_true]
            rw [if_pos (by rfl)]
            refine wp_load_pr _ _ _ _ (by rfl) (by rfl) (hr2 hI) ?_
            exact hK.out _ _ ⟨by simp [hd, Act.put], hI⟩
          refine Inv.Steps.cons rfl ?_ ?_
          · intro L a w' hI hL hd K hK
            obtain ⟨rfl, hI⟩ := hI
            simp [Region.binds] at hd
            simp only [hd, if_true]
            rw [if_pos (by rfl)]
            refine wp_neq_po ox oy _ _ (by rfl) (by rfl) (by rfl) ?_
            exact hK.out _ _ ⟨by simp [hd, Act.put], hI⟩
          exact Inv.Steps.nil (by decide)
        case done =>
          intro L a w' hI hall
          obtain ⟨rfl, hI⟩ := hI
          simp only [hall, if_true] at hI ⊢
          cases hd : eqB x y with
          | false =>
            have HNE : Hid (xs ≠ ys) := fun q => by
              rw [eqB_iff.2 (HS.out.1 (by rw [q]))] at hd
              cases hd
            clear hd
            go_wp2
            go_ret
            exact ⟨by rw [eqL_not HNE.out]; rfl, hI⟩
          | true =>
            have HN : Hid (xs.take (k + 1) = ys.take (k + 1)) := HS.out.2 (eqB_iff.1 hd)
            clear hd
            go_wp2
            go_roundw
            case rel => exact ⟨k + 1, by omega, by go_num, HN, hI⟩
            case measure => simp [intOf]; omega
      · have hkn : k = n1 := by omega
        have HE : Hid (xs = ys) := by
          have := HK.out
          rw [List.take_of_length_le (by omega), List.take_of_length_le (by omega)] at this
          exact this
        clear hkn
        go_wp2
        go_ret
        exact ⟨by rw [eqL_iff.2 HE.out]; rfl, hB⟩
  · have hne : xs ≠ ys := fun q => hl (by rw [← l1, ← l2, q])
    rw [eqL_not hne]
    have hb : ((n1 : Int) == (n2 : Int)) = false := by simp; omega
    have hb' : ((n1 : Int) != (n2 : Int)) = true := by simp; omega
    go_enter Try.func71, Try.ntmps71
    go_wp2
    go_ret
    exact ⟨rfl, Below.refl _ _⟩
end Go.Proofs.Ytnaofcggdjbocaa.Event
/-
  The same events: event.Same. (Written by gen_evsame.py.)
-/
namespace Go.Proofs.Ytnaofcggdjbocaa.Event
open Go.RowKit Go.Proofs.Ytnaofcggdjbocaa.Mem Go.Proofs.Ytnaofcggdjbocaa.Policy
set_option maxRecDepth 100000

theorem event_Same (h1 h2 : Eh) (a b : Ev) (w : World) (i1 : Is w h1 a) (i2 : Is w h2 b) (oa : ∀ p ∈ a.ps, PoOk p) (ob : ∀ p ∈ b.ps, PoOk p) (np : h1.pn ≤ 1000) (nd : h1.dn ≤ 1000) :
    Calls Try.prog 44 #[ev h1, ev h2] w fun e w' => e = .returned (.bool (sameE a b)) ∧ Below w.heap.size w w' := by
  obtain ⟨k, s, ps, ds, g, t⟩ := a
  obtain ⟨k2, s2, ps2, ds2, g2, t2⟩ := b
  obtain ⟨k', s', pp, pn, pc, dp, dn, dc, g', t'⟩ := h1
  obtain ⟨k2', s2', pp2, pn2, pc2, dp2, dn2, dc2, g2', t2'⟩ := h2
  obtain ⟨⟨e1, e2, e3, e4⟩, ⟨l1, r1⟩, m1, d1⟩ := i1
  obtain ⟨⟨f1, f2, f3, f4⟩, ⟨l2, r2⟩, m2, d2⟩ := i2
  simp only at e1 e2 e3 e4 f1 f2 f3 f4 l1 r1 m1 d1 l2 r2 m2 d2 oa ob np nd
  subst e1 e2 e3 e4 f1 f2 f3 f4
  obtain ⟨R, hR⟩ : ∃ R, R = sameE ⟨k', s', ps, ds, g', t'⟩ ⟨k2', s2', ps2, ds2, g2', t2'⟩ := ⟨_, rfl⟩
  rw [← hR]
  have HR : Hid (R = sameE ⟨k', s', ps, ds, g', t'⟩ ⟨k2', s2', ps2, ds2, g2', t2'⟩) := hR
  clear hR
  have hP := fun {W : World} (hb : Below w.heap.size w W) => equal_pols pp pp2 pn pn2 pc pc2 ps ps2 l1 l2 np W (r1.below hb) (r2.below hb) oa ob
  have hD := fun {W : World} (hb : Below w.heap.size w W) => equal_ints dp dp2 dn dn2 dc dc2 ds ds2 m1 m2 nd W (d1.below hb) (d2.below hb)
  clear l1 l2 r1 r2 oa ob m1 m2 d1 d2
  by_cases q0 : k' = k2'
  · subst q0
    have b0 : (k' == k') = true := by simp
    by_cases q1 : s' = s2'
    · subst q1
      have b1 : (s' == s') = true := by simp
      by_cases q2 : g' = g2'
      · subst q2
        have b2 : (g' == g') = true := by simp
        by_cases q3 : t' = t2'
        · subst q3
          have b3 : (t' == t') = true := by simp
          cases hE : eqL ps ps2 with
          | false =>
            obtain rfl : R = false := by rw [HR.out]; simp [sameE, hE]
            rw [hE] at hP
            clear hE HR
            go_enter Try.func44, Try.ntmps44
            go_wp2_with (first
              | ((fail_if_success (have _ := hX1)); (refine at_box_ev _ _ (by rfl) (by rfl) (by rfl) ?_); intro V1 hX1 hB1 hz1)
              | ((fail_if_success (have _ := hX2)); (have _ := hX1); (refine at_box_ev _ _ (by rfl) (by rfl) (by rfl) ?_); intro V2 hX2 hB2 hz2; have hX1' := hX1.below hB2; have hB := bnext hB1 hB2; have c1 := cells6 hX1'; have c2 := cells6 hX2; simp only at c1 c2)
              | ((have _ := hX2); (with_reducible refine (hP hB).mono ?_); rintro e w3 ⟨rfl, hB3⟩; have hB4 := bnext hB hB3; have c3 := cells6 (hX1'.below hB3); have c4 := cells6 (hX2.below hB3); simp only at c3 c4)
              | ((have _ := hX2); (with_reducible refine (hD hB4).mono ?_); rintro e w5 ⟨rfl, hB5⟩; have hB6 := bnext hB4 hB5))
            go_ret
            exact ⟨rfl, hB4⟩
          | true =>
            obtain rfl : R = decide (ds = ds2) := by rw [HR.out]; simp [sameE, hE]
            rw [hE] at hP
            clear hE HR
            go_enter Try.func44, Try.ntmps44
            go_wp2_with (first
              | ((fail_if_success (have _ := hX1)); (refine at_box_ev _ _ (by rfl) (by rfl) (by rfl) ?_); intro V1 hX1 hB1 hz1)
              | ((fail_if_success (have _ := hX2)); (have _ := hX1); (refine at_box_ev _ _ (by rfl) (by rfl) (by rfl) ?_); intro V2 hX2 hB2 hz2; have hX1' := hX1.below hB2; have hB := bnext hB1 hB2; have c1 := cells6 hX1'; have c2 := cells6 hX2; simp only at c1 c2)
              | ((have _ := hX2); (with_reducible refine (hP hB).mono ?_); rintro e w3 ⟨rfl, hB3⟩; have hB4 := bnext hB hB3; have c3 := cells6 (hX1'.below hB3); have c4 := cells6 (hX2.below hB3); simp only at c3 c4)
              | ((have _ := hX2); (with_reducible refine (hD hB4).mono ?_); rintro e w5 ⟨rfl, hB5⟩; have hB6 := bnext hB4 hB5))
            go_ret
            exact ⟨rfl, hB6⟩
        · have b3 : (t' == t2') = false := by simpa using q3
          obtain rfl : R = false := by rw [HR.out]; simp [sameE, q3]
          clear HR
          go_enter Try.func44, Try.ntmps44
          go_wp2_with (first
            | ((fail_if_success (have _ := hX1)); (refine at_box_ev _ _ (by rfl) (by rfl) (by rfl) ?_); intro V1 hX1 hB1 hz1)
            | ((fail_if_success (have _ := hX2)); (have _ := hX1); (refine at_box_ev _ _ (by rfl) (by rfl) (by rfl) ?_); intro V2 hX2 hB2 hz2; have hX1' := hX1.below hB2; have hB := bnext hB1 hB2; have c1 := cells6 hX1'; have c2 := cells6 hX2; simp only at c1 c2)
            | ((have _ := hX2); (with_reducible refine (hP hB).mono ?_); rintro e w3 ⟨rfl, hB3⟩; have hB4 := bnext hB hB3; have c3 := cells6 (hX1'.below hB3); have c4 := cells6 (hX2.below hB3); simp only at c3 c4)
            | ((have _ := hX2); (with_reducible refine (hD hB4).mono ?_); rintro e w5 ⟨rfl, hB5⟩; have hB6 := bnext hB4 hB5))
          go_ret
          exact ⟨rfl, hB⟩
      · have b2 : (g' == g2') = false := by simpa using q2
        obtain rfl : R = false := by rw [HR.out]; simp [sameE, q2]
        clear HR
        go_enter Try.func44, Try.ntmps44
        go_wp2_with (first
          | ((fail_if_success (have _ := hX1)); (refine at_box_ev _ _ (by rfl) (by rfl) (by rfl) ?_); intro V1 hX1 hB1 hz1)
          | ((fail_if_success (have _ := hX2)); (have _ := hX1); (refine at_box_ev _ _ (by rfl) (by rfl) (by rfl) ?_); intro V2 hX2 hB2 hz2; have hX1' := hX1.below hB2; have hB := bnext hB1 hB2; have c1 := cells6 hX1'; have c2 := cells6 hX2; simp only at c1 c2)
          | ((have _ := hX2); (with_reducible refine (hP hB).mono ?_); rintro e w3 ⟨rfl, hB3⟩; have hB4 := bnext hB hB3; have c3 := cells6 (hX1'.below hB3); have c4 := cells6 (hX2.below hB3); simp only at c3 c4)
          | ((have _ := hX2); (with_reducible refine (hD hB4).mono ?_); rintro e w5 ⟨rfl, hB5⟩; have hB6 := bnext hB4 hB5))
        go_ret
        exact ⟨rfl, hB⟩
    · have b1 : (s' == s2') = false := by simpa using q1
      obtain rfl : R = false := by rw [HR.out]; simp [sameE, q1]
      clear HR
      go_enter Try.func44, Try.ntmps44
      go_wp2_with (first
        | ((fail_if_success (have _ := hX1)); (refine at_box_ev _ _ (by rfl) (by rfl) (by rfl) ?_); intro V1 hX1 hB1 hz1)
        | ((fail_if_success (have _ := hX2)); (have _ := hX1); (refine at_box_ev _ _ (by rfl) (by rfl) (by rfl) ?_); intro V2 hX2 hB2 hz2; have hX1' := hX1.below hB2; have hB := bnext hB1 hB2; have c1 := cells6 hX1'; have c2 := cells6 hX2; simp only at c1 c2)
        | ((have _ := hX2); (with_reducible refine (hP hB).mono ?_); rintro e w3 ⟨rfl, hB3⟩; have hB4 := bnext hB hB3; have c3 := cells6 (hX1'.below hB3); have c4 := cells6 (hX2.below hB3); simp only at c3 c4)
        | ((have _ := hX2); (with_reducible refine (hD hB4).mono ?_); rintro e w5 ⟨rfl, hB5⟩; have hB6 := bnext hB4 hB5))
      go_ret
      exact ⟨rfl, hB⟩
  · have b0 : (k' == k2') = false := by simpa using q0
    obtain rfl : R = false := by rw [HR.out]; simp [sameE, q0]
    clear HR
    go_enter Try.func44, Try.ntmps44
    go_wp2_with (first
      | ((fail_if_success (have _ := hX1)); (refine at_box_ev _ _ (by rfl) (by rfl) (by rfl) ?_); intro V1 hX1 hB1 hz1)
      | ((fail_if_success (have _ := hX2)); (have _ := hX1); (refine at_box_ev _ _ (by rfl) (by rfl) (by rfl) ?_); intro V2 hX2 hB2 hz2; have hX1' := hX1.below hB2; have hB := bnext hB1 hB2; have c1 := cells6 hX1'; have c2 := cells6 hX2; simp only at c1 c2)
      | ((have _ := hX2); (with_reducible refine (hP hB).mono ?_); rintro e w3 ⟨rfl, hB3⟩; have hB4 := bnext hB hB3; have c3 := cells6 (hX1'.below hB3); have c4 := cells6 (hX2.below hB3); simp only at c3 c4)
      | ((have _ := hX2); (with_reducible refine (hD hB4).mono ?_); rintro e w5 ⟨rfl, hB5⟩; have hB6 := bnext hB4 hB5))
    go_ret
    exact ⟨rfl, hB⟩
end Go.Proofs.Ytnaofcggdjbocaa.Event
namespace Go.Proofs.Ytnaofcggdjbocaa.Event
open Go.RowKit Go.Proofs.Ytnaofcggdjbocaa.Mem Go.Proofs.Ytnaofcggdjbocaa.Policy
set_option maxRecDepth 100000

theorem event_apart (p : Option Addr) (n c : Nat) (ps : List Po) (hl : ps.length = n) (hn : n ≤ 1000) (q : Option Addr) (m d : Nat) (ds : List Int) (hm : ds.length = m) (hmn : m ≤ 1000) (w : World) (r1 : RK pl w p c ps) (r2 : Reads .i64 w q d ds) :
    Calls Try.prog 74 #[.slice p n c, .slice q m d] w fun e w' => e = .returned (.bool (apartB ps ds)) ∧ Below w.heap.size w w' := by
  obtain ⟨B, hB⟩ : ∃ B, apartB ps ds = B := ⟨_, rfl⟩
  rw [hB]
  replace hB : Hid (apartB (ps.drop 0) ds = B) := by unfold Hid; simpa using hB
  have hcon := fun {W : World} (x : Int) (hb : Below w.heap.size w W) => slices_Contains q m d ds hm hmn x W (r2.below hb)
  have hr := fun {W : World} (hb : Below w.heap.size w W) => r1.below hb
  clear r1 r2
  go_enter Try.func74, Try.ntmps74
  go_wp2
  go_loopw [9] (fun i wr => ∃ (k : Nat), k ≤ n ∧ i = .int .i64 k ∧ Below w.heap.size w wr ∧ Hid (apartB (ps.drop k) ds = B)) (fun i _ => n - (intOf i).toNat)
  case atStart => exact ⟨0, by omega, rfl, Below.refl _ _, hB⟩
  case round =>
    obtain ⟨k, hk, rfl, hBr, HW⟩ := hrel
    by_cases hlt : k < n
    · have hlt3 : (k : Int) < (n : Int) := by omega
      obtain ⟨x, hx⟩ : ∃ x, ps[k]? = some x := ⟨_, List.getElem?_eq_getElem (by omega)⟩
      obtain ⟨b, o, rfl, hb, hc⟩ := row_at (hr hBr) hx
      have hstep : Hid ((!decide (x.s ∈ ds) && apartB (ps.drop (k + 1)) ds) = B) := by
        have := HW.out
        rw [List.drop_eq_getElem_cons (by omega), show ps[k] = x from by rw [List.getElem?_eq_getElem (by omega)] at hx; exact Option.some.inj hx] at this
        unfold Hid
        simpa [apartB] using this
      have hco := fun {W : World} (hb : Below w.heap.size w W) => hcon x.s hb
      clear HW hx hB hcon
      cases hF : decide (x.s ∈ ds) with
      | true =>
        rw [hF] at hco hstep
        obtain rfl : B = false := by rw [← hstep.out]; rfl
        clear hF
        go_wp2_with (first
          | ((fail_if_success (have _ := hX1)); (refine at_load_pr _ _ _ _ (by rfl) (by rfl) hc (by rfl) ?_))
          | ((fail_if_success (have _ := hX1)); (refine at_alloc_po (by rfl) (by rfl) ?_); intro V1 hX1 hB1 hz1)
          | ((fail_if_success (have _ := hX2)); (have _ := hX1); (refine at_store_po _ _ _ _ _ (by rfl) (by rfl) (by rfl) hX1 rfl (by rfl) ?_); intro V2 hX2 hg2 hz2; have hB2 := bnext hBr (hB1.grown hg2 hB1.size (by simp)); have hkk2 := cells13 hX2)
          | ((have _ := hX2); (with_reducible refine (hco hB2).mono ?_); rintro e w5 ⟨rfl, hw⟩; rw [hw]; clear hw))
        go_ret
        exact ⟨rfl, hB2⟩
      | false =>
        rw [hF] at hco hstep
        have HN : Hid (apartB (ps.drop (k + 1)) ds = B) := by
          have := hstep.out
          unfold Hid
          simpa using this
        clear hF hstep
        go_wp2_with (first
          | ((fail_if_success (have _ := hX1)); (refine at_load_pr _ _ _ _ (by rfl) (by rfl) hc (by rfl) ?_))
          | ((fail_if_success (have _ := hX1)); (refine at_alloc_po (by rfl) (by rfl) ?_); intro V1 hX1 hB1 hz1)
          | ((fail_if_success (have _ := hX2)); (have _ := hX1); (refine at_store_po _ _ _ _ _ (by rfl) (by rfl) (by rfl) hX1 rfl (by rfl) ?_); intro V2 hX2 hg2 hz2; have hB2 := bnext hBr (hB1.grown hg2 hB1.size (by simp)); have hkk2 := cells13 hX2)
          | ((have _ := hX2); (with_reducible refine (hco hB2).mono ?_); rintro e w5 ⟨rfl, hw⟩; rw [hw]; clear hw))
        go_roundw
        case rel => exact ⟨k + 1, by omega, by go_num, hB2, HN⟩
        case measure => simp [intOf]; omega
    · obtain rfl : k = n := by omega
      have hd : ps.drop k = [] := List.drop_eq_nil_of_le (by omega)
      obtain rfl : B = true := by rw [← HW.out, hd]; rfl
      go_wp2
      go_ret
      exact ⟨rfl, hBr⟩

theorem event_rightCommit (p : Option Addr) (n c : Nat) (ps : List Po) (hl : ps.length = n) (hn : n ≤ 1000) (q : Option Addr) (m d : Nat) (ds : List Int) (hm : ds.length = m) (hmn : m ≤ 1000) (w : World) (r1 : RK pl w p c ps) (r2 : Reads .i64 w q d ds) (ho : ∀ p ∈ ps, PoOk p) :
    Calls Try.prog 46 #[.slice p n c, .slice q m d] w fun e w' => e = .returned (.bool (comB ps ds)) ∧ Below w.heap.size w w' := by
  obtain ⟨R, hR⟩ : ∃ R, R = comB ps ds := ⟨_, rfl⟩
  rw [← hR]
  have HR : Hid (R = comB ps ds) := hR
  clear hR
  have h1 := fun {W : World} (hb : Below w.heap.size w W) => policy_All p n c ps hl hn W (r1.below hb) ho
  have h2 := fun {W : World} (hb : Below w.heap.size w W) => event_rightDrops q m d ds hm W (r2.below hb)
  have h3 := fun {W : World} (hb : Below w.heap.size w W) => event_apart p n c ps hl hn q m d ds hm hmn W (r1.below hb) (r2.below hb)
  have h0 := Below.refl w.heap.size w
  by_cases hz : n + m = 0
  · obtain rfl : R = false := by rw [HR.out]; unfold comB; rw [decide_eq_false (by omega)]; rfl
    obtain rfl : n = 0 := by omega
    obtain rfl : m = 0 := by omega
    clear HR h1 h2 h3 hz
    go_enter Try.func46, Try.ntmps46
    go_wp2
    go_ret
    exact ⟨rfl, h0⟩
  · have hsum : (0 : Int) < (n : Int) + (m : Int) := by omega
    have hR2 : Hid (R = (allB ps && dropB ds && apartB ps ds)) := by unfold Hid; rw [HR.out]; unfold comB; rw [decide_eq_true (by omega), Bool.true_and]
    clear HR hl hm r1 r2 ho hz
    cases hA : allB ps with
    | false =>
      obtain rfl : R = false := by rw [hR2.out, hA]; rfl
      have hE : allE ps = 111 := by unfold allE; rw [hA]; rfl
      rw [hE] at h1
      clear hE hA hR2
      go_enter Try.func46, Try.ntmps46
      go_wp2_with (first
        | ((with_reducible refine (h1 h0).mono ?_); rintro e w5 ⟨rfl, hB5⟩))
      go_ret
      exact ⟨rfl, hB5⟩
    | true =>
      have hE : allE ps = 0 := by unfold allE; rw [hA]; rfl
      rw [hE] at h1
      cases hD : dropB ds with
      | false =>
        obtain rfl : R = false := by rw [hR2.out, hA, hD]; rfl
        rw [hD] at h2
        clear hE hA hD hR2
        go_enter Try.func46, Try.ntmps46
        go_wp2_with (first
          | ((with_reducible refine (h1 h0).mono ?_); rintro e w5 ⟨rfl, hB5⟩)
          | ((have _ := hB5); (with_reducible refine (h2 hB5).mono ?_); rintro e w6 ⟨rfl, hw⟩; rw [hw]; clear hw))
        go_ret
        exact ⟨rfl, hB5⟩
      | true =>
        obtain rfl : R = apartB ps ds := by rw [hR2.out, hA, hD]; rfl
        rw [hD] at h2
        clear hE hA hD hR2
        go_enter Try.func46, Try.ntmps46
        go_wp2_with (first
          | ((fail_if_success (have _ := hB5)); (with_reducible refine (h1 h0).mono ?_); rintro e w5 ⟨rfl, hB5⟩)
          | ((have _ := hB5); (with_reducible refine (h2 hB5).mono ?_); rintro e w6 ⟨rfl, hw⟩; rw [hw]; clear hw)
          | ((have _ := hB5); (with_reducible refine (h3 hB5).mono ?_); rintro e w7 ⟨rfl, hB7⟩))
        go_ret
        exact ⟨rfl, bnext hB5 hB7⟩
end Go.Proofs.Ytnaofcggdjbocaa.Event
