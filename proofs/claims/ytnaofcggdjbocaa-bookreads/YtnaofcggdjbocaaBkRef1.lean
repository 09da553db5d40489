/-
  The document's Right and Find of a book.
-/
import Derived.Test.YtnaofcggdjbocaaBkChange
import Derived.Test.YtnaofcggdjbocaaPolRefAll
namespace Go.Proofs.Ytnaofcggdjbocaa.Book
open Go.RowKit Go.Proofs.Ytnaofcggdjbocaa.Mem Go.Proofs.Ytnaofcggdjbocaa.Policy Go.Proofs.Ytnaofcggdjbocaa.Event Go.Proofs.Ytnaofcggdjbocaa.Addr
set_option maxRecDepth 100000

theorem right_no {b : Bk} (h : ¬ ((1 ≤ b.t ∧ b.t ≤ 281474976710656) ∧ Tog (pols b.es) ∧ ∀ e ∈ b.es, e.g ≤ 281474976710656)) : rightB b = false := by
  cases hr : rightB b with
  | false => rfl
  | true => exact absurd (rightB_iff.1 hr) h
theorem take_next {es : List En} {k : Nat} {x : En} (h : es[k]? = some x) : es.take (k + 1) = es.take k ++ [x] := by
  have hl := (List.getElem?_eq_some_iff.1 h).1
  rw [List.take_succ_eq_append_getElem hl, show es[k] = x from (List.getElem?_eq_some_iff.1 h).2]
set_option maxHeartbeats 2000000 in
theorem ref_RightB (h : Bh) (b : Bk) (w : World) (i : IsB w h b) (ob : ∀ e ∈ b.es, EnOk e) (hn : h.n ≤ 1000) :
    Calls Try.prog 18 #[bv h] w fun x w' => x = .returned (.bool (rightB b)) ∧ Below w.heap.size w w' := by
  obtain ⟨t, es⟩ := b
  obtain ⟨t', q, n, c⟩ := h
  obtain ⟨e1, l1, r1⟩ := i
  simp only at e1 l1 r1 ob hn
  subst e1
  have hops : ∀ p ∈ pols es, PoOk p := fun p hp => by
    obtain ⟨e, he, rfl⟩ := List.mem_map.1 hp
    exact (ob e he).1
  obtain ⟨R, hRB⟩ : ∃ R, rightB ⟨t', es⟩ = R := ⟨_, rfl⟩
  rw [hRB]
  replace hRB : Hid (rightB ⟨t', es⟩ = R) := hRB
  by_cases k1 : 1 ≤ t'
  · have d1 : decide (t' < 1) = false := decide_eq_false (by omega)
    by_cases k2 : t' ≤ 281474976710656
    · have d2 : decide (281474976710656 < t') = false := decide_eq_false (by omega)
      by_cases k8 : n ≤ 8
      · have d8 : decide ((8 : Int) < (n : Int)) = false := decide_eq_false (by omega)
        have hcap := r1.1
        go_enter Try.func18, Try.ntmps18
        go_wp2_with (first
          | ((fail_if_success (have _ := hX1)); (refine at_box_bk _ _ (by rfl) (by rfl) (by rfl) ?_); intro V1 hX1 hB1 hz1; have c1 := cells_bk hX1; simp only at c1; have c2 := fun row => cells_bk (hX1.below (bnew V1 row)); simp only at c2))
        go_loopw [3, 24] (fun u j wr => ∃ k : Nat, k ≤ n ∧ j = .int .i64 k ∧ wr.ownsRow w.heap.size 47 13 u (pols (es.take k)).length ((pols (es.take k)).flatMap pl) ∧ Below w.heap.size w wr ∧ Hid (∀ e ∈ es.take k, e.g ≤ 281474976710656)) (fun _ j _ => n - (intOf j).toNat)
        case atStart => exact ⟨0, Nat.zero_le _, rfl, own_lower (none_own _) hB1.size, bnext hB1 (bnew _ _), by unfold Hid; simp⟩
        case round =>
          obtain ⟨k, hk, rfl, hown, hnx, HG⟩ := hrel
          by_cases hlt : k < n
          · have hlt3 : (k : Int) < (n : Int) := by omega
            obtain ⟨x, hx⟩ : ∃ x, es[k]? = some x := ⟨_, List.getElem?_eq_getElem (by omega)⟩
            obtain ⟨b, o, rfl, hb, hc⟩ := ent_at (r1.below hnx) hx
            by_cases hg : x.g ≤ 281474976710656
            · have dg : decide (281474976710656 < x.g) = false := decide_eq_false (by omega)
              have HT : Hid (pols (es.take (k + 1)) = pols (es.take k) ++ [x.p]) := pols_next hx
              have HG2 : Hid (∀ e ∈ es.take (k + 1), e.g ≤ 281474976710656) := fun e he => by
                rw [take_next hx, List.mem_append, List.mem_singleton] at he
                rcases he with he | rfl
                · exact HG.out e he
                · exact hg
              have hlen : (pols (es.take k)).length ≤ 1000 := by rw [pols_len, List.length_take]; omega
              obtain ⟨ys, hys⟩ : ∃ ys, ys = pols (es.take k) := ⟨_, rfl⟩
              rw [← hys] at hown hlen HT
              clear hx hys HG hg
              go_wp2_with (first
                | ((fail_if_success (have _ := hY1)); (refine at_load_ren _ _ _ _ (by rfl) (by rfl) hc (by rfl) ?_))
                | ((fail_if_success (have _ := hY1)); (refine at_alloc_en (by rfl) (by rfl) ?_); intro W1 hY1 hB2 hz2)
                | ((fail_if_success (have _ := hY2)); (have _ := hY1); (refine at_store_en _ _ _ _ _ (by rfl) (by rfl) (by rfl) hY1 rfl (by rfl) ?_); intro W2 hY2 hg2 hz3; have hB3 := hB2.grown hg2 hB2.size (by simp); have hp2 := pol_in hY2; have cy := cells14 hY2)
                | ((fail_if_success (have _ := r3)); (have _ := hY2); (refine at_load_pr _ _ _ _ (by rfl) (by rfl) hp2 (by rfl) ?_))
                | ((fail_if_success (have _ := r3)); (have _ := hY2); (refine at_pol1 _ _ (by rfl) (by rfl) (by rfl) ?_); intro W3 r3 hB4; have hB23 := bnext hB3 hB4; have hnx3 := bnext hnx hB23; have hown3 := own_below hown hB23)
                | ((fail_if_success (have _ := ho4)); (have _ := r3); (refine at_append_pol _ _ (by rfl) w.heap.size u3 ys.length ys (by rfl) hown3 _ 1 1 [x.p] (by rfl) rfl r3 ?c1 ?c2 (by rfl) ?_)))
              case c1 => omega
              case c2 => exact hnx3.size
              · intro v4 w4 ho4 hg4
                have hB5 := hnx3.grown hg4 hnx3.size (fun g hg => (hown3.lt g hg).1)
                have ho5 : w4.ownsRow w.heap.size 47 13 v4 (pols (es.take (k + 1))).length ((pols (es.take (k + 1))).flatMap pl) := by
                  rw [HT.out]
                  simpa using ho4
                clear ho4 hown hown3 r3 hY2 hp2 hc
                go_wp2
                go_roundw
                case rel => exact ⟨k + 1, by omega, by go_num, ho5, hB5, HG2⟩
                case measure => simp [intOf]; omega
            · have dg : decide (281474976710656 < x.g) = true := decide_eq_true (by omega)
              obtain rfl : R = false := hRB.out.symm.trans (right_no fun h => hg (h.2.2 x (List.mem_of_getElem? hx)))
              clear hx hown HG
              go_wp2_with (first
                | ((fail_if_success (have _ := hY1)); (refine at_load_ren _ _ _ _ (by rfl) (by rfl) hc (by rfl) ?_))
                | ((fail_if_success (have _ := hY1)); (refine at_alloc_en (by rfl) (by rfl) ?_); intro W1 hY1 hB2 hz2)
                | ((fail_if_success (have _ := hY2)); (have _ := hY1); (refine at_store_en _ _ _ _ _ (by rfl) (by rfl) (by rfl) hY1 rfl (by rfl) ?_); intro W2 hY2 hg2 hz3; have hB3 := bnext hnx (hB2.grown hg2 hB2.size (by simp)); have cy := cells14 hY2))
              go_ret
              exact ⟨rfl, hB3⟩
          · obtain rfl : k = n := by omega
            have hdt : es.take k = es := List.take_of_length_le (by omega)
            rw [hdt] at hown HG
            obtain ⟨p, d, hv, hrd, -⟩ := own_rk pl_len (by decide) hown
            rw [pols_len, l1] at hv
            subst hv
            have hAl := fun {W : World} (rr : RK pl W p d (pols es)) => ref_AllP p k d (pols es) (by rw [pols_len, l1]) hn W rr hops
            have hR : rightB ⟨t', es⟩ = allB (pols es) := by
              have hlow : lowG es = true := by unfold lowG; simpa using HG.out
              have hv : valB t' = true := valB_iff.2 ⟨k1, k2⟩
              unfold rightB
              simp only [hlow, hv, Bool.true_and, Bool.and_true]
            obtain rfl : R = allB (pols es) := hRB.out.symm.trans hR
            rw [all_val] at hAl
            clear hown hdt hR HG
            cases hA : allB (pols es) with
            | true =>
              simp only [hA, if_true] at hAl
              go_wp2_with (first
                | ((fail_if_success (have _ := hB2)); (with_reducible refine (hAl hrd).mono ?_); rintro e w2 ⟨rfl, hB2⟩))
              go_ret
              exact ⟨by rw [hA]; rfl, bnext hnx hB2⟩
            | false =>
              simp only [hA, Bool.false_eq_true, if_false] at hAl
              go_wp2_with (first
                | ((fail_if_success (have _ := hB2)); (with_reducible refine (hAl hrd).mono ?_); rintro e w2 ⟨rfl, hB2⟩))
              go_ret
              exact ⟨by rw [hA]; rfl, bnext hnx hB2⟩
      · have d8 : (8 : Int) < (n : Int) := by omega
        obtain rfl : R = false := hRB.out.symm.trans (right_no fun h => by have := h.2.1.1; rw [pols_len] at this; simp only at this; omega)
        go_enter Try.func18, Try.ntmps18
        go_wp2_with (first
          | ((fail_if_success (have _ := hX1)); (refine at_box_bk _ _ (by rfl) (by rfl) (by rfl) ?_); intro V1 hX1 hB1 hz1; have c1 := cells_bk hX1; simp only at c1))
        go_ret
        exact ⟨rfl, hB1⟩
    · have d2 : decide (281474976710656 < t') = true := decide_eq_true (by omega)
      obtain rfl : R = false := hRB.out.symm.trans (right_no fun h => k2 h.1.2)
      go_enter Try.func18, Try.ntmps18
      go_wp2_with (first
        | ((fail_if_success (have _ := hX1)); (refine at_box_bk _ _ (by rfl) (by rfl) (by rfl) ?_); intro V1 hX1 hB1 hz1; have c1 := cells_bk hX1; simp only at c1))
      go_ret
      exact ⟨rfl, hB1⟩
  · have d1 : decide (t' < 1) = true := decide_eq_true (by omega)
    obtain rfl : R = false := hRB.out.symm.trans (right_no fun h => k1 h.1.1)
    go_enter Try.func18, Try.ntmps18
    go_wp2_with (first
      | ((fail_if_success (have _ := hX1)); (refine at_box_bk _ _ (by rfl) (by rfl) (by rfl) ?_); intro V1 hX1 hB1 hz1; have c1 := cells_bk hX1; simp only at c1))
    go_ret
    exact ⟨rfl, hB1⟩
set_option maxHeartbeats 2000000 in
theorem ref_FindB (h : Bh) (b : Bk) (s : Int) (w : World) (i : IsB w h b) (hn : h.n ≤ 1000) :
    Calls Try.prog 17 #[bv h, .int .i64 s] w fun x w' => x = .returned (.tuple #[nv (findE b.es s), .bool (foundB b.es s)]) ∧ Below w.heap.size w w' := by
  obtain ⟨t, es⟩ := b
  obtain ⟨t', q, n, c⟩ := h
  obtain ⟨e1, l1, r1⟩ := i
  simp only at e1 l1 r1 hn
  subst e1
  unfold findE foundB
  simp only
  obtain ⟨O, hLK⟩ : ∃ O, look es s = O := ⟨_, rfl⟩
  rw [hLK]
  replace hLK : Hid (look es s = O) := hLK
  have hcap := r1.1
  go_enter Try.func17, Try.ntmps17
  go_wp2_with (first
    | ((fail_if_success (have _ := hX1)); (refine at_box_bk _ _ (by rfl) (by rfl) (by rfl) ?_); intro V1 hX1 hB1 hz1)
    | ((fail_if_success (have _ := hX2)); (have _ := hX1); (refine at_alloc_en (by rfl) (by rfl) ?_); intro V2 hX2 hB2 hz2; have hC2 := bnext hB1 hB2; have c1 := cells_bk (hX1.below hB2); simp only at c1))
  go_loopw [11] (fun j wr => ∃ k : Nat, k ≤ n ∧ j = .int .i64 k ∧ Below w.heap.size w wr ∧ Blk wr V1.heap.size 49 (nl zeroN) ∧ Hid (∀ e ∈ es.take k, e.p.s ≠ s)) (fun j _ => n - (intOf j).toNat)
  case atStart => exact ⟨0, Nat.zero_le _, rfl, hC2, hX2, by unfold Hid; simp⟩
  case round =>
    obtain ⟨k, hk, rfl, hnx, hX3, HG⟩ := hrel
    have hV1 := hB1.size
    by_cases hlt : k < n
    · have hlt3 : (k : Int) < (n : Int) := by omega
      obtain ⟨x, hx⟩ : ∃ x, es[k]? = some x := ⟨_, List.getElem?_eq_getElem (by omega)⟩
      obtain ⟨b, o, rfl, hb, hc⟩ := ent_at (r1.below hnx) hx
      by_cases hs : x.p.s = s
      · have ds : decide (x.p.s = s) = true := decide_eq_true hs
        obtain rfl : O = some x := hLK.out.symm.trans (look_at hx hs HG.out)
        clear hx HG
        go_wp2_with (first
          | ((fail_if_success (have _ := hY1)); (refine at_load_ren _ _ _ _ (by rfl) (by rfl) hc (by rfl) ?_))
          | ((fail_if_success (have _ := hY1)); (refine at_alloc_en (by rfl) (by rfl) ?_); intro W1 hY1 hB4 hz4)
          | ((fail_if_success (have _ := hY2)); (have _ := hY1); (refine at_store_en _ _ _ _ _ (by rfl) (by rfl) (by rfl) hY1 rfl (by rfl) ?_); intro W2 hY2 hg2 hz5; have hB5 := hB4.grown hg2 hB4.size (by simp); have hX5 := hX3.below hB5; have hC5 := bnext hnx hB5; have cy := cells14 hY2)
          | ((fail_if_success (have _ := hX6)); (have _ := hY2); (refine at_load_en _ _ _ (by rfl) (by rfl) hY2 (by rfl) ?_))
          | ((fail_if_success (have _ := hX6)); (have _ := hY2); (refine at_store_en _ _ _ _ _ (by rfl) (by rfl) (by rfl) hX5 rfl (by rfl) ?_); intro W6 hX6 hg6 hz6; have hC6 := hC5.grown hg6 hC5.size (by simpa using hV1)))
        exact ret_en2 (by rfl) rfl _ _ rfl hX6 ⟨rfl, hC6⟩
      · have ds : decide (x.p.s = s) = false := decide_eq_false hs
        have HG2 : Hid (∀ e ∈ es.take (k + 1), e.p.s ≠ s) := fun e he => by
          rw [take_next hx, List.mem_append, List.mem_singleton] at he
          rcases he with he | rfl
          · exact HG.out e he
          · exact hs
        clear hx HG
        go_wp2_with (first
          | ((fail_if_success (have _ := hY1)); (refine at_load_ren _ _ _ _ (by rfl) (by rfl) hc (by rfl) ?_))
          | ((fail_if_success (have _ := hY1)); (refine at_alloc_en (by rfl) (by rfl) ?_); intro W1 hY1 hB4 hz4)
          | ((fail_if_success (have _ := hY2)); (have _ := hY1); (refine at_store_en _ _ _ _ _ (by rfl) (by rfl) (by rfl) hY1 rfl (by rfl) ?_); intro W2 hY2 hg2 hz5; have hB5 := hB4.grown hg2 hB4.size (by simp); have hX5 := hX3.below hB5; have hC5 := bnext hnx hB5; have cy := cells14 hY2))
        go_roundw
        case rel => exact ⟨k + 1, by omega, by go_num, hC5, hX5, HG2⟩
        case measure => simp [intOf]; omega
    · obtain rfl : k = n := by omega
      have hdt : es.take k = es := List.take_of_length_le (by omega)
      rw [hdt] at HG
      obtain rfl : O = none := hLK.out.symm.trans (look_none HG.out)
      clear HG
      go_wp2_with (first
        | ((fail_if_success (have _ := hX6)); (refine at_build_nzero (by rfl) (by rfl) ?_))
        | ((fail_if_success (have _ := hX6)); (refine at_store_en _ _ _ _ _ (by rfl) (by rfl) (by rfl) hX3 rfl (by rfl) ?_); intro W6 hX6 hg6 hz6; have hC6 := hnx.grown hg6 hnx.size (by simpa using hV1)))
      exact ret_en2 (by rfl) rfl _ _ rfl hX6 ⟨rfl, hC6⟩
end Go.Proofs.Ytnaofcggdjbocaa.Book
