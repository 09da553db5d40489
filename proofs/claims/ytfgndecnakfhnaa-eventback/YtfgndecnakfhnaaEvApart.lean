/-
  The walks of EventApart and EventKinds. (Written by gen_evapart.py.)
-/
import Derived.Test.YtfgndecnakfhnaaEvAlive
namespace Go.Proofs.Ytfgndecnakfhnaa.Event
open Go.RowKit Go.Proofs.Ytfgndecnakfhnaa.Mem Go.Proofs.Ytfgndecnakfhnaa.Policy
set_option maxRecDepth 100000

theorem bytes_right {e : Ev} (h : rightE e = true) : bytesE e = Leb.nums (numsE e) ∧ errE e = 0 := by unfold bytesE errE; rw [h]; exact ⟨rfl, rfl⟩
theorem byte_nums {e : Ev} (h : rightE e = true) (ho : ∀ p ∈ e.ps, PoOk p) : ∀ c ∈ Leb.nums (numsE e), Byte c := Leb.nums_bytes _ (right_words h ho)
theorem same_bytes {a b : Ev} (ha : rightE a = true) (hb : rightE b = true) (oa : ∀ p ∈ a.ps, PoOk p) (ob : ∀ p ∈ b.ps, PoOk p) : sameE a b = decide (Leb.nums (numsE a) = Leb.nums (numsE b)) := by
  by_cases h : a = b
  · subst h; rw [sameE_iff.2 rfl]; simp
  · rw [decide_eq_false fun q => h (bytes_inj ha hb oa ob q)]
    cases hs : sameE a b with
    | false => rfl
    | true => exact absurd (sameE_iff.1 hs) h
/-- The first byte is the kind. -/
theorem first_kind {e : Ev} (h : rightE e = true) : ∃ r, numsE e = e.k :: r ∧ 1 ≤ e.k ∧ e.k ≤ 3 := by
  rcases right_iff.1 h with ⟨ps, ds, rfl, _⟩ | ⟨s, g, rfl, _, _⟩ | ⟨t, rfl, _⟩
  · exact ⟨_, nums_commit _ _, by simp [commitE], by simp [commitE]⟩
  · exact ⟨_, nums_lease _ _, by simp [leaseE], by simp [leaseE]⟩
  · exact ⟨_, nums_period _, by simp [periodE], by simp [periodE]⟩
theorem first_byte {e : Ev} (h : rightE e = true) : (Leb.nums (numsE e))[0]? = some e.k ∧ 2 ≤ (Leb.nums (numsE e)).length ∧ 1 ≤ e.k ∧ e.k ≤ 3 := by
  obtain ⟨r, hr, h1, h3⟩ := first_kind h
  have h2 := (right_len h).1
  rw [hr] at h2 ⊢
  obtain ⟨x, s, rfl⟩ : ∃ x s, r = x :: s := by
    cases r with
    | nil => simp at h2
    | cons x s => exact ⟨x, s, rfl⟩
  have hx := Leb.put_pos x
  simp only [Leb.nums, Leb.put_small (show e.k < 128 by omega), List.cons_append, List.nil_append, List.getElem?_cons_zero, List.length_cons, List.length_append]
  exact ⟨trivial, by omega, h1, h3⟩
/-- Numbers whose bytes begin with others'. -/
theorem nums_begin : ∀ (l m z : List Int), (∀ n ∈ l, Word n) → (∀ n ∈ m, Word n) → Leb.nums m = Leb.nums l ++ z → ∃ r, m = l ++ r ∧ Leb.nums r = z
  | [], m, z, _, _, h => ⟨m, rfl, by simpa [Leb.nums] using h⟩
  | n :: l, [], z, _, _, h => by
    have hp := Leb.put_pos n
    have := congrArg List.length h
    simp [Leb.nums] at this
    omega
  | n :: l, k :: m, z, hl, hm, h => by
    simp only [Leb.nums, List.append_assoc] at h
    have h1 := Leb.lget_put (hl n (by simp)) (Leb.nums l ++ z)
    have h2 := Leb.lget_put (hm k (by simp)) (Leb.nums m)
    rw [h, h1] at h2
    obtain rfl : n = k := (Prod.mk.inj h2).1
    obtain ⟨r, hr, hz⟩ := nums_begin l m z (fun x hx => hl x (by simp [hx])) (fun x hx => hm x (by simp [hx])) (List.append_cancel_left h)
    exact ⟨r, by rw [hr]; rfl, hz⟩
theorem kinds_facts {a b : Ev} (ha : rightE a = true) (hb : rightE b = true) (oa : ∀ p ∈ a.ps, PoOk p) (ob : ∀ p ∈ b.ps, PoOk p) (hl : (Leb.nums (numsE a)).length < (Leb.nums (numsE b)).length)
    (ht : (Leb.nums (numsE b)).take (Leb.nums (numsE a)).length = Leb.nums (numsE a)) : a.k = 1 ∧ b.k = 1 ∧ a.ps.length < b.ps.length := by
  have hspl := (List.take_append_drop (Leb.nums (numsE a)).length (Leb.nums (numsE b))).symm
  rw [ht] at hspl
  obtain ⟨r, hr, hz⟩ := nums_begin (numsE a) (numsE b) _ (right_words ha oa) (right_words hb ob) hspl
  have hrn : r ≠ [] := fun q => by
    rw [q] at hz
    have := congrArg List.length hz
    rw [List.length_drop] at this
    simp [Leb.nums] at this
    omega
  have hrl : 0 < r.length := List.length_pos_iff.2 hrn
  have hlen := congrArg List.length hr
  rw [List.length_append] at hlen
  rcases right_iff.1 ha with ⟨ps, ds, rfl, _⟩ | ⟨s, g, rfl, _, _⟩ | ⟨t, rfl, _⟩ <;> rcases right_iff.1 hb with ⟨ps', ds', rfl, _⟩ | ⟨s', g', rfl, _, _⟩ | ⟨t', rfl, _⟩
  · rw [nums_commit, nums_commit] at hr
    simp only [List.cons_append, List.cons.injEq, true_and] at hr
    have h1 := hr.1
    simp only [nums_commit, List.length_cons, List.length_append, flat_len] at hlen
    exact ⟨rfl, rfl, by simp only [commitE]; omega⟩
  · simp [nums_commit, nums_lease] at hr
  · simp [nums_commit, nums_period] at hr
  · simp [nums_commit, nums_lease] at hr
  · rw [nums_lease, nums_lease] at hlen; simp only [List.length_cons, List.length_nil] at hlen; omega
  · simp [nums_period, nums_lease] at hr
  · simp [nums_commit, nums_period] at hr
  · simp [nums_period, nums_lease] at hr
  · rw [nums_period, nums_period] at hlen; simp only [List.length_cons, List.length_nil] at hlen; omega
set_option maxHeartbeats 2000000 in
theorem apart_any (h1 h2 : Eh) (a b : Ev) (w : World) (i1 : Is w h1 a) (i2 : Is w h2 b) (oa : ∀ p ∈ a.ps, PoOk p) (ob : ∀ p ∈ b.ps, PoOk p) :
    Calls Try.prog 7 #[ev h1, ev h2] w fun e w' => e = .returned (.bool true) ∧ Below w.heap.size w w' := by
  have ha := fun W => alive_any W
  have hg1 := fun W => great_any h1 W
  have hg2 := fun W => great_any h2 W
  cases hG1 : (decide (30 < h1.pn) || decide (30 < h1.dn)) with
  | true =>
    rw [hG1] at hg1
    go_enter Try.func7, Try.ntmps7
    go_wp2_with (first
      | ((fail_if_success (have _ := hB1)); (refine at_box_ev _ _ (by rfl) (by rfl) (by rfl) ?_); intro V1 hXa1 hB1 hz1; have hC1 := hB1)
      | ((fail_if_success (have _ := hB2)); (have _ := hB1); (refine at_box_ev _ _ (by rfl) (by rfl) (by rfl) ?_); intro V2 hXb2 hB2 hz2; have hXa2 := hXa1.below hB2; have hC2 := bnext hC1 hB2)
      | ((fail_if_success (have _ := hB3)); (have _ := hB2); (refine at_load_ev _ _ _ (by rfl) (by rfl) hXa2 (by rfl) ?_))
      | ((fail_if_success (have _ := hB3)); (have _ := hB2); (refine at_load_ev _ _ _ (by rfl) (by rfl) hXb2 (by rfl) ?_))
      | ((fail_if_success (have _ := hB3)); (have _ := hB2); (with_reducible refine (ha _).mono ?_); rintro e w3 ⟨rfl, hB3⟩; have hXa3 := hXa2.below hB3; have hXb3 := hXb2.below hB3; have hC3 := bnext hC2 hB3)
      | ((fail_if_success (have _ := hB4)); (have _ := hB3); (refine at_load_ev _ _ _ (by rfl) (by rfl) hXa3 (by rfl) ?_))
      | ((fail_if_success (have _ := hB4)); (have _ := hB3); (refine at_load_ev _ _ _ (by rfl) (by rfl) hXb3 (by rfl) ?_))
      | ((fail_if_success (have _ := hB4)); (have _ := hB3); (with_reducible refine (hg1 _).mono ?_); rintro e w4 ⟨rfl, hB4⟩; have hXa4 := hXa3.below hB4; have hXb4 := hXb3.below hB4; have hC4 := bnext hC3 hB4))
    go_ret
    exact ⟨rfl, hC4⟩
  | false =>
    rw [hG1] at hg1
    cases hG2 : (decide (30 < h2.pn) || decide (30 < h2.dn)) with
    | true =>
      rw [hG2] at hg2
      go_enter Try.func7, Try.ntmps7
      go_wp2_with (first
        | ((fail_if_success (have _ := hB1)); (refine at_box_ev _ _ (by rfl) (by rfl) (by rfl) ?_); intro V1 hXa1 hB1 hz1; have hC1 := hB1)
        | ((fail_if_success (have _ := hB2)); (have _ := hB1); (refine at_box_ev _ _ (by rfl) (by rfl) (by rfl) ?_); intro V2 hXb2 hB2 hz2; have hXa2 := hXa1.below hB2; have hC2 := bnext hC1 hB2)
        | ((fail_if_success (have _ := hB3)); (have _ := hB2); (refine at_load_ev _ _ _ (by rfl) (by rfl) hXa2 (by rfl) ?_))
        | ((fail_if_success (have _ := hB3)); (have _ := hB2); (refine at_load_ev _ _ _ (by rfl) (by rfl) hXb2 (by rfl) ?_))
        | ((fail_if_success (have _ := hB3)); (have _ := hB2); (with_reducible refine (ha _).mono ?_); rintro e w3 ⟨rfl, hB3⟩; have hXa3 := hXa2.below hB3; have hXb3 := hXb2.below hB3; have hC3 := bnext hC2 hB3)
        | ((fail_if_success (have _ := hB4)); (have _ := hB3); (refine at_load_ev _ _ _ (by rfl) (by rfl) hXa3 (by rfl) ?_))
        | ((fail_if_success (have _ := hB4)); (have _ := hB3); (refine at_load_ev _ _ _ (by rfl) (by rfl) hXb3 (by rfl) ?_))
        | ((fail_if_success (have _ := hB4)); (have _ := hB3); (with_reducible refine (hg1 _).mono ?_); rintro e w4 ⟨rfl, hB4⟩; have hXa4 := hXa3.below hB4; have hXb4 := hXb3.below hB4; have hC4 := bnext hC3 hB4)
        | ((fail_if_success (have _ := hB5)); (have _ := hB4); (refine at_load_ev _ _ _ (by rfl) (by rfl) hXa4 (by rfl) ?_))
        | ((fail_if_success (have _ := hB5)); (have _ := hB4); (refine at_load_ev _ _ _ (by rfl) (by rfl) hXb4 (by rfl) ?_))
        | ((fail_if_success (have _ := hB5)); (have _ := hB4); (with_reducible refine (hg2 _).mono ?_); rintro e w5 ⟨rfl, hB5⟩; have hXa5 := hXa4.below hB5; have hXb5 := hXb4.below hB5; have hC5 := bnext hC4 hB5))
      go_ret
      exact ⟨rfl, hC5⟩
    | false =>
      rw [hG2] at hg2
      obtain ⟨n1, n2⟩ : h1.pn ≤ 30 ∧ h1.dn ≤ 30 := by simp at hG1; omega
      obtain ⟨n3, n4⟩ : h2.pn ≤ 30 ∧ h2.dn ≤ 30 := by simp at hG2; omega
      have hR1 := fun {W : World} (hb : Below w.heap.size w W) => event_Right h1 a W (i1.below hb) oa (by omega) (by omega)
      have hR2 := fun {W : World} (hb : Below w.heap.size w W) => event_Right h2 b W (i2.below hb) ob (by omega) (by omega)
      have hBy1 := fun {W : World} (hb : Below w.heap.size w W) => event_Bytes h1 a W (i1.below hb) oa (by omega) (by omega)
      have hBy2 := fun {W : World} (hb : Below w.heap.size w W) => event_Bytes h2 b W (i2.below hb) ob (by omega) (by omega)
      have hSm := fun {W : World} (hb : Below w.heap.size w W) => event_Same h1 h2 a b W (i1.below hb) (i2.below hb) oa ob (by omega) (by omega)
      clear hG1 hG2 n1 n2 n3 n4
      cases e1 : rightE a with
      | false =>
        rw [e1] at hR1
        clear hBy1 hBy2 hSm
        go_enter Try.func7, Try.ntmps7
        go_wp2_with (first
          | ((fail_if_success (have _ := hB1)); (refine at_box_ev _ _ (by rfl) (by rfl) (by rfl) ?_); intro V1 hXa1 hB1 hz1; have hC1 := hB1)
          | ((fail_if_success (have _ := hB2)); (have _ := hB1); (refine at_box_ev _ _ (by rfl) (by rfl) (by rfl) ?_); intro V2 hXb2 hB2 hz2; have hXa2 := hXa1.below hB2; have hC2 := bnext hC1 hB2)
          | ((fail_if_success (have _ := hB3)); (have _ := hB2); (refine at_load_ev _ _ _ (by rfl) (by rfl) hXa2 (by rfl) ?_))
          | ((fail_if_success (have _ := hB3)); (have _ := hB2); (refine at_load_ev _ _ _ (by rfl) (by rfl) hXb2 (by rfl) ?_))
          | ((fail_if_success (have _ := hB3)); (have _ := hB2); (with_reducible refine (ha _).mono ?_); rintro e w3 ⟨rfl, hB3⟩; have hXa3 := hXa2.below hB3; have hXb3 := hXb2.below hB3; have hC3 := bnext hC2 hB3)
          | ((fail_if_success (have _ := hB4)); (have _ := hB3); (refine at_load_ev _ _ _ (by rfl) (by rfl) hXa3 (by rfl) ?_))
          | ((fail_if_success (have _ := hB4)); (have _ := hB3); (refine at_load_ev _ _ _ (by rfl) (by rfl) hXb3 (by rfl) ?_))
          | ((fail_if_success (have _ := hB4)); (have _ := hB3); (with_reducible refine (hg1 _).mono ?_); rintro e w4 ⟨rfl, hB4⟩; have hXa4 := hXa3.below hB4; have hXb4 := hXb3.below hB4; have hC4 := bnext hC3 hB4)
          | ((fail_if_success (have _ := hB5)); (have _ := hB4); (refine at_load_ev _ _ _ (by rfl) (by rfl) hXa4 (by rfl) ?_))
          | ((fail_if_success (have _ := hB5)); (have _ := hB4); (refine at_load_ev _ _ _ (by rfl) (by rfl) hXb4 (by rfl) ?_))
          | ((fail_if_success (have _ := hB5)); (have _ := hB4); (with_reducible refine (hg2 _).mono ?_); rintro e w5 ⟨rfl, hB5⟩; have hXa5 := hXa4.below hB5; have hXb5 := hXb4.below hB5; have hC5 := bnext hC4 hB5)
          | ((fail_if_success (have _ := hB6)); (have _ := hB5); (refine at_load_ev _ _ _ (by rfl) (by rfl) hXa5 (by rfl) ?_))
          | ((fail_if_success (have _ := hB6)); (have _ := hB5); (refine at_load_ev _ _ _ (by rfl) (by rfl) hXb5 (by rfl) ?_))
          | ((fail_if_success (have _ := hB6)); (have _ := hB5); (with_reducible refine (hR1 hC5).mono ?_); rintro e w6 ⟨rfl, hB6⟩; have hXa6 := hXa5.below hB6; have hXb6 := hXb5.below hB6; have hC6 := bnext hC5 hB6))
        go_ret
        exact ⟨rfl, hC6⟩
      | true =>
        rw [e1] at hR1
        cases e2 : rightE b with
        | false =>
          rw [e2] at hR2
          clear hBy1 hBy2 hSm
          go_enter Try.func7, Try.ntmps7
          go_wp2_with (first
            | ((fail_if_success (have _ := hB1)); (refine at_box_ev _ _ (by rfl) (by rfl) (by rfl) ?_); intro V1 hXa1 hB1 hz1; have hC1 := hB1)
            | ((fail_if_success (have _ := hB2)); (have _ := hB1); (refine at_box_ev _ _ (by rfl) (by rfl) (by rfl) ?_); intro V2 hXb2 hB2 hz2; have hXa2 := hXa1.below hB2; have hC2 := bnext hC1 hB2)
            | ((fail_if_success (have _ := hB3)); (have _ := hB2); (refine at_load_ev _ _ _ (by rfl) (by rfl) hXa2 (by rfl) ?_))
            | ((fail_if_success (have _ := hB3)); (have _ := hB2); (refine at_load_ev _ _ _ (by rfl) (by rfl) hXb2 (by rfl) ?_))
            | ((fail_if_success (have _ := hB3)); (have _ := hB2); (with_reducible refine (ha _).mono ?_); rintro e w3 ⟨rfl, hB3⟩; have hXa3 := hXa2.below hB3; have hXb3 := hXb2.below hB3; have hC3 := bnext hC2 hB3)
            | ((fail_if_success (have _ := hB4)); (have _ := hB3); (refine at_load_ev _ _ _ (by rfl) (by rfl) hXa3 (by rfl) ?_))
            | ((fail_if_success (have _ := hB4)); (have _ := hB3); (refine at_load_ev _ _ _ (by rfl) (by rfl) hXb3 (by rfl) ?_))
            | ((fail_if_success (have _ := hB4)); (have _ := hB3); (with_reducible refine (hg1 _).mono ?_); rintro e w4 ⟨rfl, hB4⟩; have hXa4 := hXa3.below hB4; have hXb4 := hXb3.below hB4; have hC4 := bnext hC3 hB4)
            | ((fail_if_success (have _ := hB5)); (have _ := hB4); (refine at_load_ev _ _ _ (by rfl) (by rfl) hXa4 (by rfl) ?_))
            | ((fail_if_success (have _ := hB5)); (have _ := hB4); (refine at_load_ev _ _ _ (by rfl) (by rfl) hXb4 (by rfl) ?_))
            | ((fail_if_success (have _ := hB5)); (have _ := hB4); (with_reducible refine (hg2 _).mono ?_); rintro e w5 ⟨rfl, hB5⟩; have hXa5 := hXa4.below hB5; have hXb5 := hXb4.below hB5; have hC5 := bnext hC4 hB5)
            | ((fail_if_success (have _ := hB6)); (have _ := hB5); (refine at_load_ev _ _ _ (by rfl) (by rfl) hXa5 (by rfl) ?_))
            | ((fail_if_success (have _ := hB6)); (have _ := hB5); (refine at_load_ev _ _ _ (by rfl) (by rfl) hXb5 (by rfl) ?_))
            | ((fail_if_success (have _ := hB6)); (have _ := hB5); (with_reducible refine (hR1 hC5).mono ?_); rintro e w6 ⟨rfl, hB6⟩; have hXa6 := hXa5.below hB6; have hXb6 := hXb5.below hB6; have hC6 := bnext hC5 hB6)
            | ((fail_if_success (have _ := hB7)); (have _ := hB6); (refine at_load_ev _ _ _ (by rfl) (by rfl) hXa6 (by rfl) ?_))
            | ((fail_if_success (have _ := hB7)); (have _ := hB6); (refine at_load_ev _ _ _ (by rfl) (by rfl) hXb6 (by rfl) ?_))
            | ((fail_if_success (have _ := hB7)); (have _ := hB6); (with_reducible refine (hR2 hC6).mono ?_); rintro e w7 ⟨rfl, hB7⟩; have hXa7 := hXa6.below hB7; have hXb7 := hXb6.below hB7; have hC7 := bnext hC6 hB7))
          go_ret
          exact ⟨rfl, hC7⟩
        | true =>
          rw [e2] at hR2
          rw [(bytes_right e1).1, (bytes_right e1).2] at hBy1
          rw [(bytes_right e2).1, (bytes_right e2).2] at hBy2
          have hse := str_eq (byte_nums e1 oa) (byte_nums e2 ob)
          rw [same_bytes e1 e2 oa ob] at hSm
          obtain ⟨T, hT⟩ : ∃ T, T = decide (Leb.nums (numsE a) = Leb.nums (numsE b)) := ⟨_, rfl⟩
          rw [← hT] at hSm hse
          obtain ⟨xs, hxs⟩ : ∃ xs, xs = Leb.nums (numsE a) := ⟨_, rfl⟩
          obtain ⟨ys, hys⟩ : ∃ ys, ys = Leb.nums (numsE b) := ⟨_, rfl⟩
          rw [← hxs] at hBy1 hse
          rw [← hys] at hBy2 hse
          have hTT : (T == T) = true := by simp
          clear hT hxs hys e1 e2 oa ob i1 i2
          go_enter Try.func7, Try.ntmps7
          go_wp2_with (first
            | ((fail_if_success (have _ := hB1)); (refine at_box_ev _ _ (by rfl) (by rfl) (by rfl) ?_); intro V1 hXa1 hB1 hz1; have hC1 := hB1)
            | ((fail_if_success (have _ := hB2)); (have _ := hB1); (refine at_box_ev _ _ (by rfl) (by rfl) (by rfl) ?_); intro V2 hXb2 hB2 hz2; have hXa2 := hXa1.below hB2; have hC2 := bnext hC1 hB2)
            | ((fail_if_success (have _ := hB3)); (have _ := hB2); (refine at_load_ev _ _ _ (by rfl) (by rfl) hXa2 (by rfl) ?_))
            | ((fail_if_success (have _ := hB3)); (have _ := hB2); (refine at_load_ev _ _ _ (by rfl) (by rfl) hXb2 (by rfl) ?_))
            | ((fail_if_success (have _ := hB3)); (have _ := hB2); (with_reducible refine (ha _).mono ?_); rintro e w3 ⟨rfl, hB3⟩; have hXa3 := hXa2.below hB3; have hXb3 := hXb2.below hB3; have hC3 := bnext hC2 hB3)
            | ((fail_if_success (have _ := hB4)); (have _ := hB3); (refine at_load_ev _ _ _ (by rfl) (by rfl) hXa3 (by rfl) ?_))
            | ((fail_if_success (have _ := hB4)); (have _ := hB3); (refine at_load_ev _ _ _ (by rfl) (by rfl) hXb3 (by rfl) ?_))
            | ((fail_if_success (have _ := hB4)); (have _ := hB3); (with_reducible refine (hg1 _).mono ?_); rintro e w4 ⟨rfl, hB4⟩; have hXa4 := hXa3.below hB4; have hXb4 := hXb3.below hB4; have hC4 := bnext hC3 hB4)
            | ((fail_if_success (have _ := hB5)); (have _ := hB4); (refine at_load_ev _ _ _ (by rfl) (by rfl) hXa4 (by rfl) ?_))
            | ((fail_if_success (have _ := hB5)); (have _ := hB4); (refine at_load_ev _ _ _ (by rfl) (by rfl) hXb4 (by rfl) ?_))
            | ((fail_if_success (have _ := hB5)); (have _ := hB4); (with_reducible refine (hg2 _).mono ?_); rintro e w5 ⟨rfl, hB5⟩; have hXa5 := hXa4.below hB5; have hXb5 := hXb4.below hB5; have hC5 := bnext hC4 hB5)
            | ((fail_if_success (have _ := hB6)); (have _ := hB5); (refine at_load_ev _ _ _ (by rfl) (by rfl) hXa5 (by rfl) ?_))
            | ((fail_if_success (have _ := hB6)); (have _ := hB5); (refine at_load_ev _ _ _ (by rfl) (by rfl) hXb5 (by rfl) ?_))
            | ((fail_if_success (have _ := hB6)); (have _ := hB5); (with_reducible refine (hR1 hC5).mono ?_); rintro e w6 ⟨rfl, hB6⟩; have hXa6 := hXa5.below hB6; have hXb6 := hXb5.below hB6; have hC6 := bnext hC5 hB6)
            | ((fail_if_success (have _ := hB7)); (have _ := hB6); (refine at_load_ev _ _ _ (by rfl) (by rfl) hXa6 (by rfl) ?_))
            | ((fail_if_success (have _ := hB7)); (have _ := hB6); (refine at_load_ev _ _ _ (by rfl) (by rfl) hXb6 (by rfl) ?_))
            | ((fail_if_success (have _ := hB7)); (have _ := hB6); (with_reducible refine (hR2 hC6).mono ?_); rintro e w7 ⟨rfl, hB7⟩; have hXa7 := hXa6.below hB7; have hXb7 := hXb6.below hB7; have hC7 := bnext hC6 hB7)
            | ((fail_if_success (have _ := hB8)); (have _ := hB7); (refine at_load_ev _ _ _ (by rfl) (by rfl) hXa7 (by rfl) ?_))
            | ((fail_if_success (have _ := hB8)); (have _ := hB7); (refine at_load_ev _ _ _ (by rfl) (by rfl) hXb7 (by rfl) ?_))
            | ((fail_if_success (have _ := hB8)); (have _ := hB7); (with_reducible refine (hBy1 hC7).mono ?_); rintro e w8 ⟨q8, c8, rfl, r8, hB8⟩; have hXa8 := hXa7.below hB8; have hXb8 := hXb7.below hB8; have hC8 := bnext hC7 hB8)
            | ((fail_if_success (have _ := hB9)); (have _ := hB8); (refine at_load_ev _ _ _ (by rfl) (by rfl) hXa8 (by rfl) ?_))
            | ((fail_if_success (have _ := hB9)); (have _ := hB8); (refine at_load_ev _ _ _ (by rfl) (by rfl) hXb8 (by rfl) ?_))
            | ((fail_if_success (have _ := hB9)); (have _ := hB8); (with_reducible refine (hBy2 hC8).mono ?_); rintro e w9 ⟨q9, c9, rfl, r9, hB9⟩; have hXa9 := hXa8.below hB9; have hXb9 := hXb8.below hB9; have hC9 := bnext hC8 hB9))
          refine Inv.region_inv (fun L a w' => a = { tmps := #[(ev h1), (ev h2), (Value.pointer (some { block := w.heap.size, off := 0 })), (Value.pointer (some { block := V1.heap.size, off := 0 })), (if L 17 = true then (.bool true) else (Value.bool false)), (Value.slice q8 xs.length c8), (Value.int IntKind.i64 0), (Value.slice q9 ys.length c9), (Value.int IntKind.i64 0), (Value.bool true), (Value.bool false), (ev h1), (Value.bool false), (Value.bool false), (ev h2), (Value.bool false), (Value.bool false), (Value.bool false), (ev h1), (Value.bool true), (Value.bool false), (Value.bool false), (Value.bool false), (ev h2), (Value.bool true), (Value.bool false), (Value.bool false), (Value.tuple #[Value.slice q8 xs.length c8, Value.int IntKind.i64 0]), (ev h1), (Value.tuple #[Value.slice q8 xs.length c8, Value.int IntKind.i64 0]), (Value.slice q8 xs.length c8), (Value.int IntKind.i64 0), (Value.tuple #[Value.slice q9 ys.length c9, Value.int IntKind.i64 0]), (ev h2), (Value.tuple #[Value.slice q9 ys.length c9, Value.int IntKind.i64 0]), (Value.slice q9 ys.length c9), (Value.int IntKind.i64 0), (if L 0 = true then (.int .i64 0) else undef), (if L 1 = true then (.bool true) else undef), (if L 2 = true then (.bool true) else undef), (if L 3 = true then (.int .i64 0) else undef), (if L 4 = true then (.bool true) else undef), (if L 5 = true then (.bool true) else undef), (if L 6 = true then (.bool true) else undef), (if L 7 = true then (.slice q8 xs.length c8) else undef), (if L 8 = true then (.string (str xs)) else undef), (if L 9 = true then (.slice q9 ys.length c9) else undef), (if L 10 = true then (.string (str ys)) else undef), (if L 11 = true then (.bool T) else undef), (if L 12 = true then (ev h1) else undef), (if L 13 = true then (ev h2) else undef), (if L 14 = true then (.bool T) else undef), (if L 15 = true then (.bool true) else undef), (if L 16 = true then (.bool true) else undef)], defers := [] } ∧ (Below w9.heap.size w9 w' ∧ Blk w' w.heap.size 30 (el h1) ∧ Blk w' V1.heap.size 30 (el h2))) (by kernel_rfl) (by kernel_rfl) ?h0 ?step ?done
          case h0 => exact ⟨by simp, (Below.refl _ _).drew, hXa9.drew, hXb9.drew⟩
          case step =>
            refine Inv.Steps.cons rfl ?_ ?_
            · intro L a w' hI hL hd K hK
              obtain ⟨rfl, hI⟩ := hI
              clear hd
              rw [if_pos (by rfl)]
              go_simp
              exact hK.out _ _ ⟨by simp, hI⟩
            refine Inv.Steps.cons rfl ?_ ?_
            · intro L a w' hI hL hd K hK
              obtain ⟨rfl, hI⟩ := hI
              simp [Region.binds] at hd
              simp only [hd, if_true]
              rw [if_pos (by rfl)]
              go_simp
              exact hK.out _ _ ⟨by simp [hd], hI⟩
            refine Inv.Steps.cons rfl ?_ ?_
            · intro L a w' hI hL hd K hK
              obtain ⟨rfl, hI⟩ := hI
              simp [Region.binds] at hd
              simp only [hd, if_true]
              rw [if_pos (by rfl)]
              go_simp
              exact hK.out _ _ ⟨by simp [hd], hI⟩
            refine Inv.Steps.cons rfl ?_ ?_
            · intro L a w' hI hL hd K hK
              obtain ⟨rfl, hI⟩ := hI
              simp [Region.binds] at hd
              simp only [hd, if_true]
              rw [if_pos (by rfl)]
              go_simp
              exact hK.out _ _ ⟨by simp [hd], hI⟩
            refine Inv.Steps.cons rfl ?_ ?_
            · intro L a w' hI hL hd K hK
              obtain ⟨rfl, hI⟩ := hI
              simp [Region.binds] at hd
              simp only [hd, if_true]
              rw [if_pos (by rfl)]
              go_simp
              exact hK.out _ _ ⟨by simp [hd], hI⟩
            refine Inv.Steps.cons rfl ?_ ?_
            · intro L a w' hI hL hd K hK
              obtain ⟨rfl, hI⟩ := hI
              simp [Region.binds] at hd
              simp only [hd, if_true]
              rw [if_pos (by rfl)]
              go_simp
              exact hK.out _ _ ⟨by simp [hd], hI⟩
            refine Inv.Steps.cons rfl ?_ ?_
            · intro L a w' hI hL hd K hK
              obtain ⟨rfl, hI⟩ := hI
              simp [Region.binds] at hd
              simp only [hd, if_true]
              rw [if_pos (by rfl)]
              go_simp
              exact hK.out _ _ ⟨by simp [hd], hI⟩
            refine Inv.Steps.cons rfl ?_ ?_
            · intro L a w' hI hL hd K hK
              obtain ⟨rfl, hI⟩ := hI
              simp [Region.binds] at hd
              simp only [hd, if_true]
              rw [if_pos (by rfl)]
              go_simp
              exact hK.out _ _ ⟨by simp [hd], hI⟩
            refine Inv.Steps.cons rfl ?_ ?_
            · intro L a w' hI hL hd K hK
              obtain ⟨rfl, hI⟩ := hI
              simp [Region.binds] at hd
              simp only [hd, if_true]
              rw [if_pos (by rfl)]
              have hcv := conv ((r8.below hB9).below hI.1) rfl
              go_simp
              exact hK.out _ _ ⟨by simp [hd], hI⟩
            refine Inv.Steps.cons rfl ?_ ?_
            · intro L a w' hI hL hd K hK
              obtain ⟨rfl, hI⟩ := hI
              simp [Region.binds] at hd
              simp only [hd, if_true]
              rw [if_pos (by rfl)]
              go_simp
              exact hK.out _ _ ⟨by simp [hd], hI⟩
            refine Inv.Steps.cons rfl ?_ ?_
            · intro L a w' hI hL hd K hK
              obtain ⟨rfl, hI⟩ := hI
              simp [Region.binds] at hd
              simp only [hd, if_true]
              rw [if_pos (by rfl)]
              have hcv := conv (r9.below hI.1) rfl
              go_simp
              exact hK.out _ _ ⟨by simp [hd], hI⟩
            refine Inv.Steps.cons rfl ?_ ?_
            · intro L a w' hI hL hd K hK
              obtain ⟨rfl, hI⟩ := hI
              simp [Region.binds] at hd
              simp only [hd, if_true]
              rw [if_pos (by rfl)]
              go_simp
              exact hK.out _ _ ⟨by simp [hd], hI⟩
            refine Inv.Steps.cons rfl ?_ ?_
            · intro L a w' hI hL hd K hK
              obtain ⟨rfl, hI⟩ := hI
              simp [Region.binds] at hd
              simp only [hd, if_true]
              rw [if_pos (by rfl)]
              refine wp_load_ev _ _ _ (by rfl) (by rfl) hI.2.1 ?_
              exact hK.out _ _ ⟨by simp [hd, Act.put], hI⟩
            refine Inv.Steps.cons rfl ?_ ?_
            · intro L a w' hI hL hd K hK
              obtain ⟨rfl, hI⟩ := hI
              simp [Region.binds] at hd
              simp only [hd, if_true]
              rw [if_pos (by rfl)]
              refine wp_load_ev _ _ _ (by rfl) (by rfl) hI.2.2 ?_
              exact hK.out _ _ ⟨by simp [hd, Act.put], hI⟩
            refine Inv.Steps.cons rfl ?_ ?_
            · intro L a w' hI hL hd K hK
              obtain ⟨rfl, hI⟩ := hI
              simp [Region.binds] at hd
              simp only [hd, if_true]
              rw [if_pos (by rfl)]
              go_simp
              refine (hSm (bnext hC9 hI.1)).mono ?_
              rintro e w6 ⟨rfl, hB6⟩
              exact hK.out _ _ ⟨by simp [hd], bnext hI.1 hB6, hI.2.1.below hB6, hI.2.2.below hB6⟩
            refine Inv.Steps.cons rfl ?_ ?_
            · intro L a w' hI hL hd K hK
              obtain ⟨rfl, hI⟩ := hI
              simp [Region.binds] at hd
              simp only [hd, if_true]
              rw [if_pos (by rfl)]
              go_simp
              exact hK.out _ _ ⟨by simp [hd], hI⟩
            refine Inv.Steps.cons rfl ?_ ?_
            · intro L a w' hI hL hd K hK
              obtain ⟨rfl, hI⟩ := hI
              simp [Region.binds] at hd
              simp only [hd, if_true]
              rw [if_pos (by rfl)]
              go_simp
              exact hK.out _ _ ⟨by simp [hd], hI⟩
            refine Inv.Steps.cons rfl ?_ ?_
            · intro L a w' hI hL hd K hK
              obtain ⟨rfl, hI⟩ := hI
              simp [Region.binds] at hd
              simp only [hd, if_true]
              rw [if_pos (by rfl)]
              go_simp
              exact hK.out _ _ ⟨by simp [hd], hI⟩
            exact Inv.Steps.nil (by decide)
          case done =>
            intro L a w' hI hall
            obtain ⟨rfl, hI⟩ := hI
            simp only [hall, if_true] at hI ⊢
            go_wp2
            go_ret
            exact ⟨rfl, bnext hC9 hI.1⟩
set_option maxHeartbeats 2000000 in
theorem kinds_any (h1 h2 : Eh) (a b : Ev) (w : World) (i1 : Is w h1 a) (i2 : Is w h2 b) (oa : ∀ p ∈ a.ps, PoOk p) (ob : ∀ p ∈ b.ps, PoOk p) :
    Calls Try.prog 8 #[ev h1, ev h2] w fun e w' => e = .returned (.bool true) ∧ Below w.heap.size w w' := by
  have ha := fun W => alive_any W
  have hg1 := fun W => great_any h1 W
  have hg2 := fun W => great_any h2 W
  cases hG1 : (decide (30 < h1.pn) || decide (30 < h1.dn)) with
  | true =>
    rw [hG1] at hg1
    go_enter Try.func8, Try.ntmps8
    go_wp2_with (first
      | ((fail_if_success (have _ := hB1)); (refine at_box_ev _ _ (by rfl) (by rfl) (by rfl) ?_); intro V1 hXa1 hB1 hz1; have hC1 := hB1)
      | ((fail_if_success (have _ := hB2)); (have _ := hB1); (refine at_box_ev _ _ (by rfl) (by rfl) (by rfl) ?_); intro V2 hXb2 hB2 hz2; have hXa2 := hXa1.below hB2; have hC2 := bnext hC1 hB2)
      | ((fail_if_success (have _ := hB3)); (have _ := hB2); (refine at_load_ev _ _ _ (by rfl) (by rfl) hXa2 (by rfl) ?_))
      | ((fail_if_success (have _ := hB3)); (have _ := hB2); (refine at_load_ev _ _ _ (by rfl) (by rfl) hXb2 (by rfl) ?_))
      | ((fail_if_success (have _ := hB3)); (have _ := hB2); (with_reducible refine (ha _).mono ?_); rintro e w3 ⟨rfl, hB3⟩; have hXa3 := hXa2.below hB3; have hXb3 := hXb2.below hB3; have hC3 := bnext hC2 hB3)
      | ((fail_if_success (have _ := hB4)); (have _ := hB3); (refine at_load_ev _ _ _ (by rfl) (by rfl) hXa3 (by rfl) ?_))
      | ((fail_if_success (have _ := hB4)); (have _ := hB3); (refine at_load_ev _ _ _ (by rfl) (by rfl) hXb3 (by rfl) ?_))
      | ((fail_if_success (have _ := hB4)); (have _ := hB3); (with_reducible refine (hg1 _).mono ?_); rintro e w4 ⟨rfl, hB4⟩; have hXa4 := hXa3.below hB4; have hXb4 := hXb3.below hB4; have hC4 := bnext hC3 hB4))
    go_ret
    exact ⟨rfl, hC4⟩
  | false =>
    rw [hG1] at hg1
    cases hG2 : (decide (30 < h2.pn) || decide (30 < h2.dn)) with
    | true =>
      rw [hG2] at hg2
      go_enter Try.func8, Try.ntmps8
      go_wp2_with (first
        | ((fail_if_success (have _ := hB1)); (refine at_box_ev _ _ (by rfl) (by rfl) (by rfl) ?_); intro V1 hXa1 hB1 hz1; have hC1 := hB1)
        | ((fail_if_success (have _ := hB2)); (have _ := hB1); (refine at_box_ev _ _ (by rfl) (by rfl) (by rfl) ?_); intro V2 hXb2 hB2 hz2; have hXa2 := hXa1.below hB2; have hC2 := bnext hC1 hB2)
        | ((fail_if_success (have _ := hB3)); (have _ := hB2); (refine at_load_ev _ _ _ (by rfl) (by rfl) hXa2 (by rfl) ?_))
        | ((fail_if_success (have _ := hB3)); (have _ := hB2); (refine at_load_ev _ _ _ (by rfl) (by rfl) hXb2 (by rfl) ?_))
        | ((fail_if_success (have _ := hB3)); (have _ := hB2); (with_reducible refine (ha _).mono ?_); rintro e w3 ⟨rfl, hB3⟩; have hXa3 := hXa2.below hB3; have hXb3 := hXb2.below hB3; have hC3 := bnext hC2 hB3)
        | ((fail_if_success (have _ := hB4)); (have _ := hB3); (refine at_load_ev _ _ _ (by rfl) (by rfl) hXa3 (by rfl) ?_))
        | ((fail_if_success (have _ := hB4)); (have _ := hB3); (refine at_load_ev _ _ _ (by rfl) (by rfl) hXb3 (by rfl) ?_))
        | ((fail_if_success (have _ := hB4)); (have _ := hB3); (with_reducible refine (hg1 _).mono ?_); rintro e w4 ⟨rfl, hB4⟩; have hXa4 := hXa3.below hB4; have hXb4 := hXb3.below hB4; have hC4 := bnext hC3 hB4)
        | ((fail_if_success (have _ := hB5)); (have _ := hB4); (refine at_load_ev _ _ _ (by rfl) (by rfl) hXa4 (by rfl) ?_))
        | ((fail_if_success (have _ := hB5)); (have _ := hB4); (refine at_load_ev _ _ _ (by rfl) (by rfl) hXb4 (by rfl) ?_))
        | ((fail_if_success (have _ := hB5)); (have _ := hB4); (with_reducible refine (hg2 _).mono ?_); rintro e w5 ⟨rfl, hB5⟩; have hXa5 := hXa4.below hB5; have hXb5 := hXb4.below hB5; have hC5 := bnext hC4 hB5))
      go_ret
      exact ⟨rfl, hC5⟩
    | false =>
      rw [hG2] at hg2
      obtain ⟨n1, n2⟩ : h1.pn ≤ 30 ∧ h1.dn ≤ 30 := by simp at hG1; omega
      obtain ⟨n3, n4⟩ : h2.pn ≤ 30 ∧ h2.dn ≤ 30 := by simp at hG2; omega
      have hR1 := fun {W : World} (hb : Below w.heap.size w W) => event_Right h1 a W (i1.below hb) oa (by omega) (by omega)
      have hR2 := fun {W : World} (hb : Below w.heap.size w W) => event_Right h2 b W (i2.below hb) ob (by omega) (by omega)
      have hBy1 := fun {W : World} (hb : Below w.heap.size w W) => event_Bytes h1 a W (i1.below hb) oa (by omega) (by omega)
      have hBy2 := fun {W : World} (hb : Below w.heap.size w W) => event_Bytes h2 b W (i2.below hb) ob (by omega) (by omega)
      have hSm := fun {W : World} (hb : Below w.heap.size w W) => event_Same h1 h2 a b W (i1.below hb) (i2.below hb) oa ob (by omega) (by omega)
      clear hG1 hG2 n1 n2 n3 n4
      cases e1 : rightE a with
      | false =>
        rw [e1] at hR1
        clear hBy1 hBy2 hSm
        go_enter Try.func8, Try.ntmps8
        go_wp2_with (first
          | ((fail_if_success (have _ := hB1)); (refine at_box_ev _ _ (by rfl) (by rfl) (by rfl) ?_); intro V1 hXa1 hB1 hz1; have hC1 := hB1)
          | ((fail_if_success (have _ := hB2)); (have _ := hB1); (refine at_box_ev _ _ (by rfl) (by rfl) (by rfl) ?_); intro V2 hXb2 hB2 hz2; have hXa2 := hXa1.below hB2; have hC2 := bnext hC1 hB2)
          | ((fail_if_success (have _ := hB3)); (have _ := hB2); (refine at_load_ev _ _ _ (by rfl) (by rfl) hXa2 (by rfl) ?_))
          | ((fail_if_success (have _ := hB3)); (have _ := hB2); (refine at_load_ev _ _ _ (by rfl) (by rfl) hXb2 (by rfl) ?_))
          | ((fail_if_success (have _ := hB3)); (have _ := hB2); (with_reducible refine (ha _).mono ?_); rintro e w3 ⟨rfl, hB3⟩; have hXa3 := hXa2.below hB3; have hXb3 := hXb2.below hB3; have hC3 := bnext hC2 hB3)
          | ((fail_if_success (have _ := hB4)); (have _ := hB3); (refine at_load_ev _ _ _ (by rfl) (by rfl) hXa3 (by rfl) ?_))
          | ((fail_if_success (have _ := hB4)); (have _ := hB3); (refine at_load_ev _ _ _ (by rfl) (by rfl) hXb3 (by rfl) ?_))
          | ((fail_if_success (have _ := hB4)); (have _ := hB3); (with_reducible refine (hg1 _).mono ?_); rintro e w4 ⟨rfl, hB4⟩; have hXa4 := hXa3.below hB4; have hXb4 := hXb3.below hB4; have hC4 := bnext hC3 hB4)
          | ((fail_if_success (have _ := hB5)); (have _ := hB4); (refine at_load_ev _ _ _ (by rfl) (by rfl) hXa4 (by rfl) ?_))
          | ((fail_if_success (have _ := hB5)); (have _ := hB4); (refine at_load_ev _ _ _ (by rfl) (by rfl) hXb4 (by rfl) ?_))
          | ((fail_if_success (have _ := hB5)); (have _ := hB4); (with_reducible refine (hg2 _).mono ?_); rintro e w5 ⟨rfl, hB5⟩; have hXa5 := hXa4.below hB5; have hXb5 := hXb4.below hB5; have hC5 := bnext hC4 hB5)
          | ((fail_if_success (have _ := hB6)); (have _ := hB5); (refine at_load_ev _ _ _ (by rfl) (by rfl) hXa5 (by rfl) ?_))
          | ((fail_if_success (have _ := hB6)); (have _ := hB5); (refine at_load_ev _ _ _ (by rfl) (by rfl) hXb5 (by rfl) ?_))
          | ((fail_if_success (have _ := hB6)); (have _ := hB5); (with_reducible refine (hR1 hC5).mono ?_); rintro e w6 ⟨rfl, hB6⟩; have hXa6 := hXa5.below hB6; have hXb6 := hXb5.below hB6; have hC6 := bnext hC5 hB6))
        go_ret
        exact ⟨rfl, hC6⟩
      | true =>
        rw [e1] at hR1
        cases e2 : rightE b with
        | false =>
          rw [e2] at hR2
          clear hBy1 hBy2 hSm
          go_enter Try.func8, Try.ntmps8
          go_wp2_with (first
            | ((fail_if_success (have _ := hB1)); (refine at_box_ev _ _ (by rfl) (by rfl) (by rfl) ?_); intro V1 hXa1 hB1 hz1; have hC1 := hB1)
            | ((fail_if_success (have _ := hB2)); (have _ := hB1); (refine at_box_ev _ _ (by rfl) (by rfl) (by rfl) ?_); intro V2 hXb2 hB2 hz2; have hXa2 := hXa1.below hB2; have hC2 := bnext hC1 hB2)
            | ((fail_if_success (have _ := hB3)); (have _ := hB2); (refine at_load_ev _ _ _ (by rfl) (by rfl) hXa2 (by rfl) ?_))
            | ((fail_if_success (have _ := hB3)); (have _ := hB2); (refine at_load_ev _ _ _ (by rfl) (by rfl) hXb2 (by rfl) ?_))
            | ((fail_if_success (have _ := hB3)); (have _ := hB2); (with_reducible refine (ha _).mono ?_); rintro e w3 ⟨rfl, hB3⟩; have hXa3 := hXa2.below hB3; have hXb3 := hXb2.below hB3; have hC3 := bnext hC2 hB3)
            | ((fail_if_success (have _ := hB4)); (have _ := hB3); (refine at_load_ev _ _ _ (by rfl) (by rfl) hXa3 (by rfl) ?_))
            | ((fail_if_success (have _ := hB4)); (have _ := hB3); (refine at_load_ev _ _ _ (by rfl) (by rfl) hXb3 (by rfl) ?_))
            | ((fail_if_success (have _ := hB4)); (have _ := hB3); (with_reducible refine (hg1 _).mono ?_); rintro e w4 ⟨rfl, hB4⟩; have hXa4 := hXa3.below hB4; have hXb4 := hXb3.below hB4; have hC4 := bnext hC3 hB4)
            | ((fail_if_success (have _ := hB5)); (have _ := hB4); (refine at_load_ev _ _ _ (by rfl) (by rfl) hXa4 (by rfl) ?_))
            | ((fail_if_success (have _ := hB5)); (have _ := hB4); (refine at_load_ev _ _ _ (by rfl) (by rfl) hXb4 (by rfl) ?_))
            | ((fail_if_success (have _ := hB5)); (have _ := hB4); (with_reducible refine (hg2 _).mono ?_); rintro e w5 ⟨rfl, hB5⟩; have hXa5 := hXa4.below hB5; have hXb5 := hXb4.below hB5; have hC5 := bnext hC4 hB5)
            | ((fail_if_success (have _ := hB6)); (have _ := hB5); (refine at_load_ev _ _ _ (by rfl) (by rfl) hXa5 (by rfl) ?_))
            | ((fail_if_success (have _ := hB6)); (have _ := hB5); (refine at_load_ev _ _ _ (by rfl) (by rfl) hXb5 (by rfl) ?_))
            | ((fail_if_success (have _ := hB6)); (have _ := hB5); (with_reducible refine (hR1 hC5).mono ?_); rintro e w6 ⟨rfl, hB6⟩; have hXa6 := hXa5.below hB6; have hXb6 := hXb5.below hB6; have hC6 := bnext hC5 hB6)
            | ((fail_if_success (have _ := hB7)); (have _ := hB6); (refine at_load_ev _ _ _ (by rfl) (by rfl) hXa6 (by rfl) ?_))
            | ((fail_if_success (have _ := hB7)); (have _ := hB6); (refine at_load_ev _ _ _ (by rfl) (by rfl) hXb6 (by rfl) ?_))
            | ((fail_if_success (have _ := hB7)); (have _ := hB6); (with_reducible refine (hR2 hC6).mono ?_); rintro e w7 ⟨rfl, hB7⟩; have hXa7 := hXa6.below hB7; have hXb7 := hXb6.below hB7; have hC7 := bnext hC6 hB7))
          go_ret
          exact ⟨rfl, hC7⟩
        | true =>
          rw [e2] at hR2
          rw [(bytes_right e1).1, (bytes_right e1).2] at hBy1
          rw [(bytes_right e2).1, (bytes_right e2).2] at hBy2
          obtain ⟨f1, f2, f3, f4⟩ := first_byte e1
          obtain ⟨g1, g2, g3, g4⟩ := first_byte e2
          have hse := str_eq (xs := (Leb.nums (numsE b)).take (Leb.nums (numsE a)).length) (fun c hc => byte_nums e2 ob c (List.mem_of_mem_take hc)) (byte_nums e1 oa)
          have hfin := kinds_facts e1 e2 oa ob
          have hFin : Hid ((Leb.nums (numsE a)).length < (Leb.nums (numsE b)).length → (Leb.nums (numsE b)).take (Leb.nums (numsE a)).length = Leb.nums (numsE a) → a.k = 1 ∧ b.k = 1 ∧ a.ps.length < b.ps.length) := hfin
          obtain ⟨xs, hxs⟩ : ∃ xs, xs = Leb.nums (numsE a) := ⟨_, rfl⟩
          obtain ⟨ys, hys⟩ : ∃ ys, ys = Leb.nums (numsE b) := ⟨_, rfl⟩
          rw [← hxs] at hBy1 hse f1 f2 hFin
          rw [← hys] at hBy2 hse g1 g2 hFin
          obtain ⟨nx, hnx⟩ : ∃ n, xs.length = n := ⟨_, rfl⟩
          obtain ⟨ny, hny⟩ : ∃ n, ys.length = n := ⟨_, rfl⟩
          simp only [hnx] at hBy1
          simp only [hny] at hBy2
          rw [hnx] at f2 hse hFin
          rw [hny] at g2 hFin
          have HNX : Hid (xs.length = nx) := hnx
          have HNY : Hid (ys.length = ny) := hny
          have hwa : IntKind.i64.wrap a.k = a.k := by rw [IntKind.wrap_i64]; omega
          have hwb : IntKind.i64.wrap b.k = b.k := by rw [IntKind.wrap_i64]; omega
          obtain ⟨k1, s1, pp1, pn1, pc1, dp1, dn1, dc1, gr1, t1⟩ := h1
          obtain ⟨k2, s2, pp2, pn2, pc2, dp2, dn2, dc2, gr2, t2⟩ := h2
          have j1 := i1.1.1
          have j2 := i2.1.1
          have j3 := i1.2.1.1
          have j4 := i2.2.1.1
          simp only at j1 j2 j3 j4
          rw [← j1] at f1 hwa hFin
          rw [← j2] at g1 hwb hFin
          rw [j3, j4] at hFin
          clear hnx hny hxs hys e1 e2 oa ob i1 i2 hfin f3 f4 g3 g4 hSm j1 j2 j3 j4
          go_enter Try.func8, Try.ntmps8
          go_wp2_with (first
            | ((fail_if_success (have _ := hB1)); (refine at_box_ev _ _ (by rfl) (by rfl) (by rfl) ?_); intro V1 hXa1 hB1 hz1; have hC1 := hB1)
            | ((fail_if_success (have _ := hB2)); (have _ := hB1); (refine at_box_ev _ _ (by rfl) (by rfl) (by rfl) ?_); intro V2 hXb2 hB2 hz2; have hXa2 := hXa1.below hB2; have hC2 := bnext hC1 hB2)
            | ((fail_if_success (have _ := hB3)); (have _ := hB2); (refine at_load_ev _ _ _ (by rfl) (by rfl) hXa2 (by rfl) ?_))
            | ((fail_if_success (have _ := hB3)); (have _ := hB2); (refine at_load_ev _ _ _ (by rfl) (by rfl) hXb2 (by rfl) ?_))
            | ((fail_if_success (have _ := hB3)); (have _ := hB2); (with_reducible refine (ha _).mono ?_); rintro e w3 ⟨rfl, hB3⟩; have hXa3 := hXa2.below hB3; have hXb3 := hXb2.below hB3; have hC3 := bnext hC2 hB3)
            | ((fail_if_success (have _ := hB4)); (have _ := hB3); (refine at_load_ev _ _ _ (by rfl) (by rfl) hXa3 (by rfl) ?_))
            | ((fail_if_success (have _ := hB4)); (have _ := hB3); (refine at_load_ev _ _ _ (by rfl) (by rfl) hXb3 (by rfl) ?_))
            | ((fail_if_success (have _ := hB4)); (have _ := hB3); (with_reducible refine (hg1 _).mono ?_); rintro e w4 ⟨rfl, hB4⟩; have hXa4 := hXa3.below hB4; have hXb4 := hXb3.below hB4; have hC4 := bnext hC3 hB4)
            | ((fail_if_success (have _ := hB5)); (have _ := hB4); (refine at_load_ev _ _ _ (by rfl) (by rfl) hXa4 (by rfl) ?_))
            | ((fail_if_success (have _ := hB5)); (have _ := hB4); (refine at_load_ev _ _ _ (by rfl) (by rfl) hXb4 (by rfl) ?_))
            | ((fail_if_success (have _ := hB5)); (have _ := hB4); (with_reducible refine (hg2 _).mono ?_); rintro e w5 ⟨rfl, hB5⟩; have hXa5 := hXa4.below hB5; have hXb5 := hXb4.below hB5; have hC5 := bnext hC4 hB5)
            | ((fail_if_success (have _ := hB6)); (have _ := hB5); (refine at_load_ev _ _ _ (by rfl) (by rfl) hXa5 (by rfl) ?_))
            | ((fail_if_success (have _ := hB6)); (have _ := hB5); (refine at_load_ev _ _ _ (by rfl) (by rfl) hXb5 (by rfl) ?_))
            | ((fail_if_success (have _ := hB6)); (have _ := hB5); (with_reducible refine (hR1 hC5).mono ?_); rintro e w6 ⟨rfl, hB6⟩; have hXa6 := hXa5.below hB6; have hXb6 := hXb5.below hB6; have hC6 := bnext hC5 hB6)
            | ((fail_if_success (have _ := hB7)); (have _ := hB6); (refine at_load_ev _ _ _ (by rfl) (by rfl) hXa6 (by rfl) ?_))
            | ((fail_if_success (have _ := hB7)); (have _ := hB6); (refine at_load_ev _ _ _ (by rfl) (by rfl) hXb6 (by rfl) ?_))
            | ((fail_if_success (have _ := hB7)); (have _ := hB6); (with_reducible refine (hR2 hC6).mono ?_); rintro e w7 ⟨rfl, hB7⟩; have hXa7 := hXa6.below hB7; have hXb7 := hXb6.below hB7; have hC7 := bnext hC6 hB7)
            | ((fail_if_success (have _ := hB8)); (have _ := hB7); (refine at_load_ev _ _ _ (by rfl) (by rfl) hXa7 (by rfl) ?_))
            | ((fail_if_success (have _ := hB8)); (have _ := hB7); (refine at_load_ev _ _ _ (by rfl) (by rfl) hXb7 (by rfl) ?_))
            | ((fail_if_success (have _ := hB8)); (have _ := hB7); (with_reducible refine (hBy1 hC7).mono ?_); rintro e w8 ⟨q8, c8, rfl, r8, hB8⟩; have hXa8 := hXa7.below hB8; have hXb8 := hXb7.below hB8; have hC8 := bnext hC7 hB8)
            | ((fail_if_success (have _ := hB9)); (have _ := hB8); (refine at_load_ev _ _ _ (by rfl) (by rfl) hXa8 (by rfl) ?_))
            | ((fail_if_success (have _ := hB9)); (have _ := hB8); (refine at_load_ev _ _ _ (by rfl) (by rfl) hXb8 (by rfl) ?_))
            | ((fail_if_success (have _ := hB9)); (have _ := hB8); (with_reducible refine (hBy2 hC8).mono ?_); rintro e w9 ⟨q9, c9, rfl, r9, hB9⟩; have hXa9 := hXa8.below hB9; have hXb9 := hXb8.below hB9; have hC9 := bnext hC8 hB9))
          obtain ⟨bx, ox, rfl, hbx, hcx⟩ := cell_at (r8.below hB9) f1
          obtain ⟨by', oy, rfl, hby, hcy⟩ := cell_at r9 g1
          simp only [Nat.add_zero] at hcx hcy
          have hx2 : decide ((nx : Int) < 2) = false := decide_eq_false (by omega)
          have hy2 : decide ((ny : Int) < 2) = false := decide_eq_false (by omega)
          have hx0 : (0 : Int) < (nx : Int) := by omega
          have hy0 : (0 : Int) < (ny : Int) := by omega
          have hxn : 0 < nx := by omega
          have hyn : 0 < ny := by omega
          have rx := r8.below hB9
          have ry := r9
          have hyc := ry.1
          refine Inv.region_inv (fun L a w' => a = { tmps := #[(ev { k := k1, s := s1, pp := pp1, pn := pn1, pc := pc1, dp := dp1, dn := dn1, dc := dc1, g := gr1, t := t1 }), (ev { k := k2, s := s2, pp := pp2, pn := pn2, pc := pc2, dp := dp2, dn := dn2, dc := dc2, g := gr2, t := t2 }), (Value.pointer (some { block := w.heap.size, off := 0 })), (Value.pointer (some { block := V1.heap.size, off := 0 })), (Value.bool false), (Value.slice (some { block := bx, off := ox }) nx c8), (Value.int IntKind.i64 0), (Value.slice (some { block := by', off := oy }) ny c9), (Value.int IntKind.i64 0), (Value.bool true), (Value.bool false), (ev { k := k1, s := s1, pp := pp1, pn := pn1, pc := pc1, dp := dp1, dn := dn1, dc := dc1, g := gr1, t := t1 }), (Value.bool false), (Value.bool false), (ev { k := k2, s := s2, pp := pp2, pn := pn2, pc := pc2, dp := dp2, dn := dn2, dc := dc2, g := gr2, t := t2 }), (Value.bool false), (Value.bool false), (Value.bool false), (ev { k := k1, s := s1, pp := pp1, pn := pn1, pc := pc1, dp := dp1, dn := dn1, dc := dc1, g := gr1, t := t1 }), (Value.bool true), (Value.bool false), (Value.bool false), (Value.bool false), (ev { k := k2, s := s2, pp := pp2, pn := pn2, pc := pc2, dp := dp2, dn := dn2, dc := dc2, g := gr2, t := t2 }), (Value.bool true), (Value.bool false), (Value.bool false), (Value.tuple #[Value.slice (some { block := bx, off := ox }) nx c8, Value.int IntKind.i64 0]), (ev { k := k1, s := s1, pp := pp1, pn := pn1, pc := pc1, dp := dp1, dn := dn1, dc := dc1, g := gr1, t := t1 }), (Value.tuple #[Value.slice (some { block := bx, off := ox }) nx c8, Value.int IntKind.i64 0]), (Value.slice (some { block := bx, off := ox }) nx c8), (Value.int IntKind.i64 0), (Value.tuple #[Value.slice (some { block := by', off := oy }) ny c9, Value.int IntKind.i64 0]), (ev { k := k2, s := s2, pp := pp2, pn := pn2, pc := pc2, dp := dp2, dn := dn2, dc := dc2, g := gr2, t := t2 }), (Value.tuple #[Value.slice (some { block := by', off := oy }) ny c9, Value.int IntKind.i64 0]), (Value.slice (some { block := by', off := oy }) ny c9), (Value.int IntKind.i64 0), (if L 0 = true then (.int .i64 0) else undef), (if L 1 = true then (.bool false) else undef), (if L 2 = true then (.bool false) else undef), (if L 3 = true then (.int .i64 0) else undef), (if L 4 = true then (.bool false) else undef), (if L 5 = true then (.bool false) else undef), (if L 6 = true then (.bool false) else undef), (if L 7 = true then (.slice (some ⟨bx, ox, none⟩) nx c8) else undef), (if L 8 = true then (.int .i64 (nx : Int)) else undef), (if L 9 = true then (.bool false) else undef), (if L 10 = true then (.bool false) else undef), (if L 11 = true then (.bool false) else undef), (if L 12 = true then (.slice (some ⟨by', oy, none⟩) ny c9) else undef), (if L 13 = true then (.int .i64 (ny : Int)) else undef), (if L 14 = true then (.bool false) else undef), (if L 15 = true then (.bool false) else undef), (if L 16 = true then (.bool false) else undef), (if L 17 = true then (.slice (some ⟨bx, ox, none⟩) nx c8) else undef), (if L 18 = true then (.pointer (some ⟨bx, ox, none⟩)) else undef), (if L 19 = true then (.int .u8 k1) else undef), (if L 20 = true then (.int .i64 k1) else undef), (if L 21 = true then (.pointer (some ⟨w.heap.size, 0, none⟩)) else undef), (if L 22 = true then (.int .i64 k1) else undef), (if L 23 = true then (.bool false) else undef), (if L 24 = true then (.bool false) else undef), (if L 25 = true then (.bool false) else undef), (if L 26 = true then (.slice (some ⟨by', oy, none⟩) ny c9) else undef), (if L 27 = true then (.pointer (some ⟨by', oy, none⟩)) else undef), (if L 28 = true then (.int .u8 k2) else undef), (if L 29 = true then (.int .i64 k2) else undef), (if L 30 = true then (.pointer (some ⟨V1.heap.size, 0, none⟩)) else undef), (if L 31 = true then (.int .i64 k2) else undef), (if L 32 = true then (.bool false) else undef), (if L 33 = true then (.bool false) else undef), undef, undef, undef, undef, undef, undef, undef, undef, undef, undef, undef, undef, undef, undef, undef, undef, undef, undef, undef, undef, undef, undef, undef, undef, undef, undef, undef, undef, undef, undef, undef, undef], defers := [] } ∧ (Below w9.heap.size w9 w' ∧ Blk w' w.heap.size 30 (el ⟨k1, s1, pp1, pn1, pc1, dp1, dn1, dc1, gr1, t1⟩) ∧ Blk w' V1.heap.size 30 (el ⟨k2, s2, pp2, pn2, pc2, dp2, dn2, dc2, gr2, t2⟩))) (by kernel_rfl) (by kernel_rfl) ?h0 ?step ?done
          case h0 => exact ⟨by simp, (Below.refl _ _).drew, hXa9.drew, hXb9.drew⟩
          case step =>
            refine Inv.Steps.cons rfl ?_ ?_
            · intro L a w' hI hL hd K hK
              obtain ⟨rfl, hI⟩ := hI
              clear hd
              rw [if_pos (by rfl)]
              go_simp
              exact hK.out _ _ ⟨by simp, hI⟩
            refine Inv.Steps.cons rfl ?_ ?_
            · intro L a w' hI hL hd K hK
              obtain ⟨rfl, hI⟩ := hI
              simp [Region.binds] at hd
              simp only [hd, if_true]
              rw [if_pos (by rfl)]
              go_simp
              exact hK.out _ _ ⟨by simp [hd], hI⟩
            refine Inv.Steps.cons rfl ?_ ?_
            · intro L a w' hI hL hd K hK
              obtain ⟨rfl, hI⟩ := hI
              simp [Region.binds] at hd
              simp only [hd, if_true]
              rw [if_pos (by rfl)]
              go_simp
              exact hK.out _ _ ⟨by simp [hd], hI⟩
            refine Inv.Steps.cons rfl ?_ ?_
            · intro L a w' hI hL hd K hK
              obtain ⟨rfl, hI⟩ := hI
              simp [Region.binds] at hd
              simp only [hd, if_true]
              rw [if_pos (by rfl)]
              go_simp
              exact hK.out _ _ ⟨by simp [hd], hI⟩
            refine Inv.Steps.cons rfl ?_ ?_
            · intro L a w' hI hL hd K hK
              obtain ⟨rfl, hI⟩ := hI
              simp [Region.binds] at hd
              simp only [hd, if_true]
              rw [if_pos (by rfl)]
              go_simp
              exact hK.out _ _ ⟨by simp [hd], hI⟩
            refine Inv.Steps.cons rfl ?_ ?_
            · intro L a w' hI hL hd K hK
              obtain ⟨rfl, hI⟩ := hI
              simp [Region.binds] at hd
              simp only [hd, if_true]
              rw [if_pos (by rfl)]
              go_simp
              exact hK.out _ _ ⟨by simp [hd], hI⟩
            refine Inv.Steps.cons rfl ?_ ?_
            · intro L a w' hI hL hd K hK
              obtain ⟨rfl, hI⟩ := hI
              simp [Region.binds] at hd
              simp only [hd, if_true]
              rw [if_pos (by rfl)]
              go_simp
              exact hK.out _ _ ⟨by simp [hd], hI⟩
            refine Inv.Steps.cons rfl ?_ ?_
            · intro L a w' hI hL hd K hK
              obtain ⟨rfl, hI⟩ := hI
              simp [Region.binds] at hd
              simp only [hd, if_true]
              rw [if_pos (by rfl)]
              go_simp
              exact hK.out _ _ ⟨by simp [hd], hI⟩
            refine Inv.Steps.cons rfl ?_ ?_
            · intro L a w' hI hL hd K hK
              obtain ⟨rfl, hI⟩ := hI
              simp [Region.binds] at hd
              simp only [hd, if_true]
              rw [if_pos (by rfl)]
              go_simp
              exact hK.out _ _ ⟨by simp [hd], hI⟩
            refine Inv.Steps.cons rfl ?_ ?_
            · intro L a w' hI hL hd K hK
              obtain ⟨rfl, hI⟩ := hI
              simp [Region.binds] at hd
              simp only [hd, if_true]
              rw [if_pos (by rfl)]
              go_simp
              exact hK.out _ _ ⟨by simp [hd], hI⟩
            refine Inv.Steps.cons rfl ?_ ?_
            · intro L a w' hI hL hd K hK
              obtain ⟨rfl, hI⟩ := hI
              simp [Region.binds] at hd
              simp only [hd, if_true]
              rw [if_pos (by rfl)]
              go_simp
              exact hK.out _ _ ⟨by simp [hd], hI⟩
            refine Inv.Steps.cons rfl ?_ ?_
            · intro L a w' hI hL hd K hK
              obtain ⟨rfl, hI⟩ := hI
              simp [Region.binds] at hd
              simp only [hd, if_true]
              rw [if_pos (by rfl)]
              go_simp
              exact hK.out _ _ ⟨by simp [hd], hI⟩
            refine Inv.Steps.cons rfl ?_ ?_
            · intro L a w' hI hL hd K hK
              obtain ⟨rfl, hI⟩ := hI
              simp [Region.binds] at hd
              simp only [hd, if_true]
              rw [if_pos (by rfl)]
              go_simp
              exact hK.out _ _ ⟨by simp [hd], hI⟩
            refine Inv.Steps.cons rfl ?_ ?_
            · intro L a w' hI hL hd K hK
              obtain ⟨rfl, hI⟩ := hI
              simp [Region.binds] at hd
              simp only [hd, if_true]
              rw [if_pos (by rfl)]
              go_simp
              exact hK.out _ _ ⟨by simp [hd], hI⟩
            refine Inv.Steps.cons rfl ?_ ?_
            · intro L a w' hI hL hd K hK
              obtain ⟨rfl, hI⟩ := hI
              simp [Region.binds] at hd
              simp only [hd, if_true]
              rw [if_pos (by rfl)]
              go_simp
              exact hK.out _ _ ⟨by simp [hd], hI⟩
            refine Inv.Steps.cons rfl ?_ ?_
            · intro L a w' hI hL hd K hK
              obtain ⟨rfl, hI⟩ := hI
              simp [Region.binds] at hd
              simp only [hd, if_true]
              rw [if_pos (by rfl)]
              go_simp
              exact hK.out _ _ ⟨by simp [hd], hI⟩
            refine Inv.Steps.cons rfl ?_ ?_
            · intro L a w' hI hL hd K hK
              obtain ⟨rfl, hI⟩ := hI
              simp [Region.binds] at hd
              simp only [hd, if_true]
              rw [if_pos (by rfl)]
              go_simp
              exact hK.out _ _ ⟨by simp [hd], hI⟩
            refine Inv.Steps.cons rfl ?_ ?_
            · intro L a w' hI hL hd K hK
              obtain ⟨rfl, hI⟩ := hI
              simp [Region.binds] at hd
              simp only [hd, if_true]
              rw [if_pos (by rfl)]
              go_simp
              exact hK.out _ _ ⟨by simp [hd], hI⟩
            refine Inv.Steps.cons rfl ?_ ?_
            · intro L a w' hI hL hd K hK
              obtain ⟨rfl, hI⟩ := hI
              simp [Region.binds] at hd
              simp only [hd, if_true]
              rw [if_pos (by rfl)]
              go_simp
              exact hK.out _ _ ⟨by simp [hd], hI⟩
            refine Inv.Steps.cons rfl ?_ ?_
            · intro L a w' hI hL hd K hK
              obtain ⟨rfl, hI⟩ := hI
              simp [Region.binds] at hd
              simp only [hd, if_true]
              rw [if_pos (by rfl)]
              have hc := (hI.1.cell (p := ⟨bx, ox, none⟩) hbx).trans hcx
              go_simp
              exact hK.out _ _ ⟨by simp [hd], hI⟩
            refine Inv.Steps.cons rfl ?_ ?_
            · intro L a w' hI hL hd K hK
              obtain ⟨rfl, hI⟩ := hI
              simp [Region.binds] at hd
              simp only [hd, if_true]
              rw [if_pos (by rfl)]
              go_simp
              exact hK.out _ _ ⟨by simp [hd], hI⟩
            refine Inv.Steps.cons rfl ?_ ?_
            · intro L a w' hI hL hd K hK
              obtain ⟨rfl, hI⟩ := hI
              simp [Region.binds] at hd
              simp only [hd, if_true]
              rw [if_pos (by rfl)]
              go_simp
              exact hK.out _ _ ⟨by simp [hd], hI⟩
            refine Inv.Steps.cons rfl ?_ ?_
            · intro L a w' hI hL hd K hK
              obtain ⟨rfl, hI⟩ := hI
              simp [Region.binds] at hd
              simp only [hd, if_true]
              rw [if_pos (by rfl)]
              have hc := cells6 hI.2.1
              simp only at hc
              go_simp
              exact hK.out _ _ ⟨by simp [hd], hI⟩
            refine Inv.Steps.cons rfl ?_ ?_
            · intro L a w' hI hL hd K hK
              obtain ⟨rfl, hI⟩ := hI
              simp [Region.binds] at hd
              simp only [hd, if_true]
              rw [if_pos (by rfl)]
              go_simp
              exact hK.out _ _ ⟨by simp [hd], hI⟩
            refine Inv.Steps.cons rfl ?_ ?_
            · intro L a w' hI hL hd K hK
              obtain ⟨rfl, hI⟩ := hI
              simp [Region.binds] at hd
              simp only [hd, if_true]
              rw [if_pos (by rfl)]
              go_simp
              exact hK.out _ _ ⟨by simp [hd], hI⟩
            refine Inv.Steps.cons rfl ?_ ?_
            · intro L a w' hI hL hd K hK
              obtain ⟨rfl, hI⟩ := hI
              simp [Region.binds] at hd
              simp only [hd, if_true]
              rw [if_pos (by rfl)]
              go_simp
              exact hK.out _ _ ⟨by simp [hd], hI⟩
            refine Inv.Steps.cons rfl ?_ ?_
            · intro L a w' hI hL hd K hK
              obtain ⟨rfl, hI⟩ := hI
              simp [Region.binds] at hd
              simp only [hd, if_true]
              rw [if_pos (by rfl)]
              go_simp
              exact hK.out _ _ ⟨by simp [hd], hI⟩
            refine Inv.Steps.cons rfl ?_ ?_
            · intro L a w' hI hL hd K hK
              obtain ⟨rfl, hI⟩ := hI
              simp [Region.binds] at hd
              simp only [hd, if_true]
              rw [if_pos (by rfl)]
              go_simp
              exact hK.out _ _ ⟨by simp [hd], hI⟩
            refine Inv.Steps.cons rfl ?_ ?_
            · intro L a w' hI hL hd K hK
              obtain ⟨rfl, hI⟩ := hI
              simp [Region.binds] at hd
              simp only [hd, if_true]
              rw [if_pos (by rfl)]
              have hc := (hI.1.cell (p := ⟨by', oy, none⟩) hby).trans hcy
              go_simp
              exact hK.out _ _ ⟨by simp [hd], hI⟩
            refine Inv.Steps.cons rfl ?_ ?_
            · intro L a w' hI hL hd K hK
              obtain ⟨rfl, hI⟩ := hI
              simp [Region.binds] at hd
              simp only [hd, if_true]
              rw [if_pos (by rfl)]
              go_simp
              exact hK.out _ _ ⟨by simp [hd], hI⟩
            refine Inv.Steps.cons rfl ?_ ?_
            · intro L a w' hI hL hd K hK
              obtain ⟨rfl, hI⟩ := hI
              simp [Region.binds] at hd
              simp only [hd, if_true]
              rw [if_pos (by rfl)]
              go_simp
              exact hK.out _ _ ⟨by simp [hd], hI⟩
            refine Inv.Steps.cons rfl ?_ ?_
            · intro L a w' hI hL hd K hK
              obtain ⟨rfl, hI⟩ := hI
              simp [Region.binds] at hd
              simp only [hd, if_true]
              rw [if_pos (by rfl)]
              have hc := cells6 hI.2.2
              simp only at hc
              go_simp
              exact hK.out _ _ ⟨by simp [hd], hI⟩
            refine Inv.Steps.cons rfl ?_ ?_
            · intro L a w' hI hL hd K hK
              obtain ⟨rfl, hI⟩ := hI
              simp [Region.binds] at hd
              simp only [hd, if_true]
              rw [if_pos (by rfl)]
              go_simp
              exact hK.out _ _ ⟨by simp [hd], hI⟩
            refine Inv.Steps.cons rfl ?_ ?_
            · intro L a w' hI hL hd K hK
              obtain ⟨rfl, hI⟩ := hI
              simp [Region.binds] at hd
              simp only [hd, if_true]
              rw [if_pos (by rfl)]
              go_simp
              exact hK.out _ _ ⟨by simp [hd], hI⟩
            exact Inv.Steps.nil (by decide)
          case done =>
            intro L a w' hI hall
            obtain ⟨rfl, hI⟩ := hI
            simp only [hall, if_true] at hI ⊢
            have rx2 := rx.below hI.1
            have ry2 := ry.below hI.1
            have hXA := hI.2.1
            have hXB := hI.2.2
            have hCW := bnext hC9 hI.1
            clear hI hall
            by_cases hge : ny ≤ nx
            · have hgei : decide ((ny : Int) ≤ (nx : Int)) = true := decide_eq_true (by omega)
              go_wp2
              obtain ⟨wq, hwq⟩ : ∃ wq, wq = w' := ⟨_, rfl⟩
              rw [← hwq] at hXA hXB rx2 ry2 hCW ⊢
              clear hwq
              refine Inv.region_inv (fun L a w' => a = { tmps := #[(ev { k := k1, s := s1, pp := pp1, pn := pn1, pc := pc1, dp := dp1, dn := dn1, dc := dc1, g := gr1, t := t1 }), (ev { k := k2, s := s2, pp := pp2, pn := pn2, pc := pc2, dp := dp2, dn := dn2, dc := dc2, g := gr2, t := t2 }), (Value.pointer (some { block := w.heap.size, off := 0 })), (Value.pointer (some { block := V1.heap.size, off := 0 })), (Value.bool false), (Value.slice (some { block := bx, off := ox }) nx c8), (Value.int IntKind.i64 0), (Value.slice (some { block := by', off := oy }) ny c9), (Value.int IntKind.i64 0), (Value.bool true), (Value.bool false), (ev { k := k1, s := s1, pp := pp1, pn := pn1, pc := pc1, dp := dp1, dn := dn1, dc := dc1, g := gr1, t := t1 }), (Value.bool false), (Value.bool false), (ev { k := k2, s := s2, pp := pp2, pn := pn2, pc := pc2, dp := dp2, dn := dn2, dc := dc2, g := gr2, t := t2 }), (Value.bool false), (Value.bool false), (Value.bool false), (ev { k := k1, s := s1, pp := pp1, pn := pn1, pc := pc1, dp := dp1, dn := dn1, dc := dc1, g := gr1, t := t1 }), (Value.bool true), (Value.bool false), (Value.bool false), (Value.bool false), (ev { k := k2, s := s2, pp := pp2, pn := pn2, pc := pc2, dp := dp2, dn := dn2, dc := dc2, g := gr2, t := t2 }), (Value.bool true), (Value.bool false), (Value.bool false), (Value.tuple #[Value.slice (some { block := bx, off := ox }) nx c8, Value.int IntKind.i64 0]), (ev { k := k1, s := s1, pp := pp1, pn := pn1, pc := pc1, dp := dp1, dn := dn1, dc := dc1, g := gr1, t := t1 }), (Value.tuple #[Value.slice (some { block := bx, off := ox }) nx c8, Value.int IntKind.i64 0]), (Value.slice (some { block := bx, off := ox }) nx c8), (Value.int IntKind.i64 0), (Value.tuple #[Value.slice (some { block := by', off := oy }) ny c9, Value.int IntKind.i64 0]), (ev { k := k2, s := s2, pp := pp2, pn := pn2, pc := pc2, dp := dp2, dn := dn2, dc := dc2, g := gr2, t := t2 }), (Value.tuple #[Value.slice (some { block := by', off := oy }) ny c9, Value.int IntKind.i64 0]), (Value.slice (some { block := by', off := oy }) ny c9), (Value.int IntKind.i64 0), (Value.int IntKind.i64 0), (Value.bool false), (Value.bool false), (Value.int IntKind.i64 0), (Value.bool false), (Value.bool false), (Value.bool false), (Value.slice (some { block := bx, off := ox }) nx c8), (Value.int IntKind.i64 ↑nx), (Value.bool false), (Value.bool false), (Value.bool false), (Value.slice (some { block := by', off := oy }) ny c9), (Value.int IntKind.i64 ↑ny), (Value.bool false), (Value.bool false), (Value.bool false), (Value.slice (some { block := bx, off := ox }) nx c8), (Value.pointer (some { block := bx, off := ox })), (Value.int IntKind.u8 k1), (Value.int IntKind.i64 k1), (Value.pointer (some { block := w.heap.size, off := 0 })), (Value.int IntKind.i64 k1), (Value.bool false), (Value.bool false), (Value.bool false), (Value.slice (some { block := by', off := oy }) ny c9), (Value.pointer (some { block := by', off := oy })), (Value.int IntKind.u8 k2), (Value.int IntKind.i64 k2), (Value.pointer (some { block := V1.heap.size, off := 0 })), (Value.int IntKind.i64 k2), (Value.bool false), (Value.bool false), (if L 0 = true then (.slice (some ⟨bx, ox, none⟩) nx c8) else undef), (if L 1 = true then (.int .i64 (nx : Int)) else undef), (if L 2 = true then (.slice (some ⟨by', oy, none⟩) ny c9) else undef), (if L 3 = true then (.int .i64 (ny : Int)) else undef), (if L 4 = true then (.bool true) else undef), (if L 5 = true then (.bool true) else undef), undef, undef, undef, undef, undef, undef, undef, undef, (if L 14 = true then (.bool true) else undef), undef, undef, undef, undef, undef, undef, undef, undef, undef, undef, undef, undef, undef, undef, undef, undef, undef], defers := [] } ∧ (Below wq.heap.size wq w' ∧ Blk w' w.heap.size 30 (el ⟨k1, s1, pp1, pn1, pc1, dp1, dn1, dc1, gr1, t1⟩) ∧ Blk w' V1.heap.size 30 (el ⟨k2, s2, pp2, pn2, pc2, dp2, dn2, dc2, gr2, t2⟩))) (by kernel_rfl) (by kernel_rfl) ?h0 ?step ?done
              case h0 => exact ⟨by simp, (Below.refl _ _).drew, hXA.drew, hXB.drew⟩
              case step =>
                refine Inv.Steps.cons rfl ?_ ?_
                · intro L a w' hI hL hd K hK
                  obtain ⟨rfl, hI⟩ := hI
                  clear hd
                  rw [if_pos (by rfl)]
                  go_simp
                  exact hK.out _ _ ⟨by simp, hI⟩
                refine Inv.Steps.cons rfl ?_ ?_
                · intro L a w' hI hL hd K hK
                  obtain ⟨rfl, hI⟩ := hI
                  simp [Region.binds] at hd
                  simp only [hd, if_true]
                  rw [if_pos (by rfl)]
                  go_simp
                  exact hK.out _ _ ⟨by simp [hd], hI⟩
                refine Inv.Steps.cons rfl ?_ ?_
                · intro L a w' hI hL hd K hK
                  obtain ⟨rfl, hI⟩ := hI
                  clear hd
                  rw [if_pos (by rfl)]
                  go_simp
                  exact hK.out _ _ ⟨by simp, hI⟩
                refine Inv.Steps.cons rfl ?_ ?_
                · intro L a w' hI hL hd K hK
                  obtain ⟨rfl, hI⟩ := hI
                  simp [Region.binds] at hd
                  simp only [hd, if_true]
                  rw [if_pos (by rfl)]
                  go_simp
                  exact hK.out _ _ ⟨by simp [hd], hI⟩
                refine Inv.Steps.cons rfl ?_ ?_
                · intro L a w' hI hL hd K hK
                  obtain ⟨rfl, hI⟩ := hI
                  simp [Region.binds] at hd
                  simp only [hd, if_true]
                  rw [if_pos (by rfl)]
                  go_simp
                  exact hK.out _ _ ⟨by simp [hd], hI⟩
                refine Inv.Steps.cons rfl ?_ ?_
                · intro L a w' hI hL hd K hK
                  obtain ⟨rfl, hI⟩ := hI
                  simp [Region.binds] at hd
                  simp only [hd, if_true]
                  rw [if_pos (by rfl)]
                  go_simp
                  exact hK.out _ _ ⟨by simp [hd], hI⟩
                refine Inv.Steps.cons rfl ?_ ?_
                · intro L a w' hI hL hd K hK
                  obtain ⟨rfl, hI⟩ := hI
                  simp [Region.binds] at hd
                  simp only [hd, if_true]
                  rw [if_neg (Bool.eq_false_iff.1 (by rfl))]
                  exact hK.out _ _ ⟨by simp [hd, Act.put], hI⟩
                refine Inv.Steps.cons rfl ?_ ?_
                · intro L a w' hI hL hd K hK
                  obtain ⟨rfl, hI⟩ := hI
                  simp [Region.binds] at hd
                  simp only [hd, if_true]
                  rw [if_neg (Bool.eq_false_iff.1 (by rfl))]
                  exact hK.out _ _ ⟨by simp [hd, Act.put], hI⟩
                refine Inv.Steps.cons rfl ?_ ?_
                · intro L a w' hI hL hd K hK
                  obtain ⟨rfl, hI⟩ := hI
                  simp [Region.binds] at hd
                  simp only [hd, if_true]
                  rw [if_neg (Bool.eq_false_iff.1 (by rfl))]
                  exact hK.out _ _ ⟨by simp [hd, Act.put], hI⟩
                refine Inv.Steps.cons rfl ?_ ?_
                · intro L a w' hI hL hd K hK
                  obtain ⟨rfl, hI⟩ := hI
                  simp [Region.binds] at hd
                  simp only [hd, if_true]
                  rw [if_neg (Bool.eq_false_iff.1 (by rfl))]
                  exact hK.out _ _ ⟨by simp [hd, Act.put], hI⟩
                refine Inv.Steps.cons rfl ?_ ?_
                · intro L a w' hI hL hd K hK
                  obtain ⟨rfl, hI⟩ := hI
                  simp [Region.binds] at hd
                  simp only [hd, if_true]
                  rw [if_neg (Bool.eq_false_iff.1 (by rfl))]
                  exact hK.out _ _ ⟨by simp [hd, Act.put], hI⟩
                refine Inv.Steps.cons rfl ?_ ?_
                · intro L a w' hI hL hd K hK
                  obtain ⟨rfl, hI⟩ := hI
                  simp [Region.binds] at hd
                  simp only [hd, if_true]
                  rw [if_neg (Bool.eq_false_iff.1 (by rfl))]
                  exact hK.out _ _ ⟨by simp [hd, Act.put], hI⟩
                refine Inv.Steps.cons rfl ?_ ?_
                · intro L a w' hI hL hd K hK
                  obtain ⟨rfl, hI⟩ := hI
                  simp [Region.binds] at hd
                  simp only [hd, if_true]
                  rw [if_neg (Bool.eq_false_iff.1 (by rfl))]
                  exact hK.out _ _ ⟨by simp [hd, Act.put], hI⟩
                refine Inv.Steps.cons rfl ?_ ?_
                · intro L a w' hI hL hd K hK
                  obtain ⟨rfl, hI⟩ := hI
                  simp [Region.binds] at hd
                  simp only [hd, if_true]
                  rw [if_neg (Bool.eq_false_iff.1 (by rfl))]
                  exact hK.out _ _ ⟨by simp [hd, Act.put], hI⟩
                refine Inv.Steps.cons rfl ?_ ?_
                · intro L a w' hI hL hd K hK
                  obtain ⟨rfl, hI⟩ := hI
                  simp [Region.binds] at hd
                  simp only [hd, if_true]
                  rw [if_pos (by rfl)]
                  go_simp
                  exact hK.out _ _ ⟨by simp [hd], hI⟩
                exact Inv.Steps.nil (by decide)
              case done =>
                intro L a w' hI hall
                obtain ⟨rfl, hI⟩ := hI
                simp only [hall, if_true] at hI ⊢
                go_wp2
                go_ret
                exact ⟨rfl, bnext hCW hI.1⟩
            · have hgei : decide ((ny : Int) ≤ (nx : Int)) = false := decide_eq_false (by omega)
              have hup := fun W => run_upto W by' oy ny c9 nx (by have := HNY.out; omega)
              obtain ⟨T, hT⟩ : ∃ T, T = decide (ys.take nx = xs) := ⟨_, rfl⟩
              rw [← hT] at hse
              have hlt : Hid ((ys.take nx).length = nx) := by unfold Hid; rw [List.length_take, HNY.out]; omega
              have rt := ry2.upto nx
              have hHT : Hid (T = decide (ys.take nx = xs)) := hT
              clear hT
              go_wp2
              obtain ⟨wq, hwq⟩ : ∃ wq, wq = w' := ⟨_, rfl⟩
              rw [← hwq] at hXA hXB rx2 ry2 hCW rt ⊢
              clear hwq
              refine Inv.region_inv (fun L a w' => a = { tmps := #[(ev { k := k1, s := s1, pp := pp1, pn := pn1, pc := pc1, dp := dp1, dn := dn1, dc := dc1, g := gr1, t := t1 }), (ev { k := k2, s := s2, pp := pp2, pn := pn2, pc := pc2, dp := dp2, dn := dn2, dc := dc2, g := gr2, t := t2 }), (Value.pointer (some { block := w.heap.size, off := 0 })), (Value.pointer (some { block := V1.heap.size, off := 0 })), (Value.bool false), (Value.slice (some { block := bx, off := ox }) nx c8), (Value.int IntKind.i64 0), (Value.slice (some { block := by', off := oy }) ny c9), (Value.int IntKind.i64 0), (Value.bool true), (Value.bool false), (ev { k := k1, s := s1, pp := pp1, pn := pn1, pc := pc1, dp := dp1, dn := dn1, dc := dc1, g := gr1, t := t1 }), (Value.bool false), (Value.bool false), (ev { k := k2, s := s2, pp := pp2, pn := pn2, pc := pc2, dp := dp2, dn := dn2, dc := dc2, g := gr2, t := t2 }), (Value.bool false), (Value.bool false), (Value.bool false), (ev { k := k1, s := s1, pp := pp1, pn := pn1, pc := pc1, dp := dp1, dn := dn1, dc := dc1, g := gr1, t := t1 }), (Value.bool true), (Value.bool false), (Value.bool false), (Value.bool false), (ev { k := k2, s := s2, pp := pp2, pn := pn2, pc := pc2, dp := dp2, dn := dn2, dc := dc2, g := gr2, t := t2 }), (Value.bool true), (Value.bool false), (Value.bool false), (Value.tuple #[Value.slice (some { block := bx, off := ox }) nx c8, Value.int IntKind.i64 0]), (ev { k := k1, s := s1, pp := pp1, pn := pn1, pc := pc1, dp := dp1, dn := dn1, dc := dc1, g := gr1, t := t1 }), (Value.tuple #[Value.slice (some { block := bx, off := ox }) nx c8, Value.int IntKind.i64 0]), (Value.slice (some { block := bx, off := ox }) nx c8), (Value.int IntKind.i64 0), (Value.tuple #[Value.slice (some { block := by', off := oy }) ny c9, Value.int IntKind.i64 0]), (ev { k := k2, s := s2, pp := pp2, pn := pn2, pc := pc2, dp := dp2, dn := dn2, dc := dc2, g := gr2, t := t2 }), (Value.tuple #[Value.slice (some { block := by', off := oy }) ny c9, Value.int IntKind.i64 0]), (Value.slice (some { block := by', off := oy }) ny c9), (Value.int IntKind.i64 0), (Value.int IntKind.i64 0), (Value.bool false), (Value.bool false), (Value.int IntKind.i64 0), (Value.bool false), (Value.bool false), (Value.bool false), (Value.slice (some { block := bx, off := ox }) nx c8), (Value.int IntKind.i64 ↑nx), (Value.bool false), (Value.bool false), (Value.bool false), (Value.slice (some { block := by', off := oy }) ny c9), (Value.int IntKind.i64 ↑ny), (Value.bool false), (Value.bool false), (Value.bool false), (Value.slice (some { block := bx, off := ox }) nx c8), (Value.pointer (some { block := bx, off := ox })), (Value.int IntKind.u8 k1), (Value.int IntKind.i64 k1), (Value.pointer (some { block := w.heap.size, off := 0 })), (Value.int IntKind.i64 k1), (Value.bool false), (Value.bool false), (Value.bool false), (Value.slice (some { block := by', off := oy }) ny c9), (Value.pointer (some { block := by', off := oy })), (Value.int IntKind.u8 k2), (Value.int IntKind.i64 k2), (Value.pointer (some { block := V1.heap.size, off := 0 })), (Value.int IntKind.i64 k2), (Value.bool false), (Value.bool false), (if L 0 = true then (.slice (some ⟨bx, ox, none⟩) nx c8) else undef), (if L 1 = true then (.int .i64 (nx : Int)) else undef), (if L 2 = true then (.slice (some ⟨by', oy, none⟩) ny c9) else undef), (if L 3 = true then (.int .i64 (ny : Int)) else undef), (if L 4 = true then (.bool false) else undef), (if L 5 = true then (.bool false) else undef), (if L 6 = true then (.slice (some ⟨by', oy, none⟩) ny c9) else undef), (if L 7 = true then (.slice (some ⟨bx, ox, none⟩) nx c8) else undef), (if L 8 = true then (.int .i64 (nx : Int)) else undef), (if L 9 = true then (.slice (some ⟨by', oy, none⟩) nx c9) else undef), (if L 10 = true then (.string (str (ys.take nx))) else undef), (if L 11 = true then (.slice (some ⟨bx, ox, none⟩) nx c8) else undef), (if L 12 = true then (.string (str xs)) else undef), (if L 13 = true then (.bool (!T)) else undef), (if L 14 = true then (.bool (!T)) else undef), undef, undef, undef, undef, undef, undef, undef, undef, undef, undef, undef, undef, undef, undef, undef, undef, undef], defers := [] } ∧ (Below wq.heap.size wq w' ∧ Blk w' w.heap.size 30 (el ⟨k1, s1, pp1, pn1, pc1, dp1, dn1, dc1, gr1, t1⟩) ∧ Blk w' V1.heap.size 30 (el ⟨k2, s2, pp2, pn2, pc2, dp2, dn2, dc2, gr2, t2⟩))) (by kernel_rfl) (by kernel_rfl) ?h0 ?step ?done
              case h0 => exact ⟨by simp, (Below.refl _ _).drew, hXA.drew, hXB.drew⟩
              case step =>
                refine Inv.Steps.cons rfl ?_ ?_
                · intro L a w' hI hL hd K hK
                  obtain ⟨rfl, hI⟩ := hI
                  clear hd
                  rw [if_pos (by rfl)]
                  go_simp
                  exact hK.out _ _ ⟨by simp, hI⟩
                refine Inv.Steps.cons rfl ?_ ?_
                · intro L a w' hI hL hd K hK
                  obtain ⟨rfl, hI⟩ := hI
                  simp [Region.binds] at hd
                  simp only [hd, if_true]
                  rw [if_pos (by rfl)]
                  go_simp
                  exact hK.out _ _ ⟨by simp [hd], hI⟩
                refine Inv.Steps.cons rfl ?_ ?_
                · intro L a w' hI hL hd K hK
                  obtain ⟨rfl, hI⟩ := hI
                  clear hd
                  rw [if_pos (by rfl)]
                  go_simp
                  exact hK.out _ _ ⟨by simp, hI⟩
                refine Inv.Steps.cons rfl ?_ ?_
                · intro L a w' hI hL hd K hK
                  obtain ⟨rfl, hI⟩ := hI
                  simp [Region.binds] at hd
                  simp only [hd, if_true]
                  rw [if_pos (by rfl)]
                  go_simp
                  exact hK.out _ _ ⟨by simp [hd], hI⟩
                refine Inv.Steps.cons rfl ?_ ?_
                · intro L a w' hI hL hd K hK
                  obtain ⟨rfl, hI⟩ := hI
                  simp [Region.binds] at hd
                  simp only [hd, if_true]
                  rw [if_pos (by rfl)]
                  go_simp
                  exact hK.out _ _ ⟨by simp [hd], hI⟩
                refine Inv.Steps.cons rfl ?_ ?_
                · intro L a w' hI hL hd K hK
                  obtain ⟨rfl, hI⟩ := hI
                  simp [Region.binds] at hd
                  simp only [hd, if_true]
                  rw [if_pos (by rfl)]
                  go_simp
                  exact hK.out _ _ ⟨by simp [hd], hI⟩
                refine Inv.Steps.cons rfl ?_ ?_
                · intro L a w' hI hL hd K hK
                  obtain ⟨rfl, hI⟩ := hI
                  simp [Region.binds] at hd
                  simp only [hd, if_true]
                  rw [if_pos (by rfl)]
                  go_simp
                  exact hK.out _ _ ⟨by simp [hd], hI⟩
                refine Inv.Steps.cons rfl ?_ ?_
                · intro L a w' hI hL hd K hK
                  obtain ⟨rfl, hI⟩ := hI
                  simp [Region.binds] at hd
                  simp only [hd, if_true]
                  rw [if_pos (by rfl)]
                  go_simp
                  exact hK.out _ _ ⟨by simp [hd], hI⟩
                refine Inv.Steps.cons rfl ?_ ?_
                · intro L a w' hI hL hd K hK
                  obtain ⟨rfl, hI⟩ := hI
                  simp [Region.binds] at hd
                  simp only [hd, if_true]
                  rw [if_pos (by rfl)]
                  go_simp
                  exact hK.out _ _ ⟨by simp [hd], hI⟩
                refine Inv.Steps.cons rfl ?_ ?_
                · intro L a w' hI hL hd K hK
                  obtain ⟨rfl, hI⟩ := hI
                  simp [Region.binds] at hd
                  simp only [hd, if_true]
                  rw [if_pos (by rfl)]
                  go_simp
                  exact hK.out _ _ ⟨by simp [hd], hI⟩
                refine Inv.Steps.cons rfl ?_ ?_
                · intro L a w' hI hL hd K hK
                  obtain ⟨rfl, hI⟩ := hI
                  simp [Region.binds] at hd
                  simp only [hd, if_true]
                  rw [if_pos (by rfl)]
                  have hcv := conv (rt.below hI.1) hlt.out
                  go_simp
                  exact hK.out _ _ ⟨by simp [hd], hI⟩
                refine Inv.Steps.cons rfl ?_ ?_
                · intro L a w' hI hL hd K hK
                  obtain ⟨rfl, hI⟩ := hI
                  simp [Region.binds] at hd
                  simp only [hd, if_true]
                  rw [if_pos (by rfl)]
                  go_simp
                  exact hK.out _ _ ⟨by simp [hd], hI⟩
                refine Inv.Steps.cons rfl ?_ ?_
                · intro L a w' hI hL hd K hK
                  obtain ⟨rfl, hI⟩ := hI
                  simp [Region.binds] at hd
                  simp only [hd, if_true]
                  rw [if_pos (by rfl)]
                  have hcv := conv (rx2.below hI.1) HNX.out
                  go_simp
                  exact hK.out _ _ ⟨by simp [hd], hI⟩
                refine Inv.Steps.cons rfl ?_ ?_
                · intro L a w' hI hL hd K hK
                  obtain ⟨rfl, hI⟩ := hI
                  simp [Region.binds] at hd
                  simp only [hd, if_true]
                  rw [if_pos (by rfl)]
                  go_simp
                  exact hK.out _ _ ⟨by simp [hd], hI⟩
                refine Inv.Steps.cons rfl ?_ ?_
                · intro L a w' hI hL hd K hK
                  obtain ⟨rfl, hI⟩ := hI
                  simp [Region.binds] at hd
                  simp only [hd, if_true]
                  rw [if_pos (by rfl)]
                  go_simp
                  exact hK.out _ _ ⟨by simp [hd], hI⟩
                exact Inv.Steps.nil (by decide)
              case done =>
                intro L a w' hI hall
                obtain ⟨rfl, hI⟩ := hI
                simp only [hall, if_true] at hI ⊢
                cases hTv : T with
                | false =>
                  go_wp2
                  go_ret
                  exact ⟨rfl, bnext hCW hI.1⟩
                | true =>
                  obtain ⟨u1, u2, u3⟩ := hFin.out (by omega) (of_decide_eq_true (hHT.out.symm.trans hTv))
                  subst u1 u2
                  have u4 : (pn1 : Int) < (pn2 : Int) := by omega
                  have c1 := cells6 hI.2.1
                  have c2 := cells6 hI.2.2
                  simp only at c1 c2
                  go_wp2
                  go_ret
                  exact ⟨rfl, bnext hCW hI.1⟩
end Go.Proofs.Ytfgndecnakfhnaa.Event
