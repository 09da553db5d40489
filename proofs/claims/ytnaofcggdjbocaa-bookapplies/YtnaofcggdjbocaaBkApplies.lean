/-
  The walk of BookApplies. (Written by gen_bkapplies.py.)
-/
import Derived.Test.YtnaofcggdjbocaaBkAlive
import Derived.Test.YtnaofcggdjbocaaBkRefSame
import Derived.Test.YtnaofcggdjbocaaBkRef3
namespace Go.Proofs.Ytnaofcggdjbocaa.Book
open Go.RowKit Go.Proofs.Ytnaofcggdjbocaa.Mem Go.Proofs.Ytnaofcggdjbocaa.Policy Go.Proofs.Ytnaofcggdjbocaa.Event Go.Proofs.Ytnaofcggdjbocaa.Addr
set_option maxRecDepth 100000

/-- What comes of it can be held against another one. -/
theorem apply_ok {b c : Bk} {e : Ev} (ob : ∀ x ∈ b.es, EnOk x) (op : ∀ p ∈ e.ps, PoOk p) (og : Word e.g) (h : applyO b e = some c) : (∀ x ∈ c.es, EnOk x) ∧ c.es.length ≤ b.es.length + 255 := by
  unfold applyO at h
  split at h
  case isFalse => cases h
  case isTrue hc =>
    split at h
    · split at h
      · simp only [Option.some.injEq] at h
        subst h
        refine ⟨comE_ok ob op, ?_⟩
        have h2 := comP_len b.es e.ps e.ds 255
        have h3 : comP b.es e.ps e.ds 255 = comE b.es e.ps e.ds := rfl
        rw [h3] at h2
        simp only
        omega
      · cases h
    · split at h
      · split at h
        · simp only [Option.some.injEq] at h
          subst h
          refine ⟨fun x hx => ?_, by simp [leaseE1]⟩
          obtain ⟨y, hy, rfl⟩ := List.mem_map.1 hx
          split
          · exact ⟨(ob y hy).1, og⟩
          · exact ob y hy
        · cases h
      · split at h
        · simp only [Option.some.injEq] at h
          subst h
          refine ⟨fun x hx => ?_, by simp [rollE]⟩
          obtain ⟨y, hy, rfl⟩ := List.mem_map.1 hx
          exact ⟨(ob y hy).1, show Word 0 from ⟨by decide, by decide⟩⟩
        · cases h
theorem app_ok {b : Bk} {e : Ev} (ob : ∀ x ∈ b.es, EnOk x) (op : ∀ p ∈ e.ps, PoOk p) (og : Word e.g) : (∀ x ∈ (appB b e).es, EnOk x) ∧ (appB b e).es.length ≤ b.es.length + 255 := by
  cases h : applyO b e with
  | none => rw [(app_none h).1]; exact ⟨ob, by omega⟩
  | some c => rw [(app_some h).1]; exact apply_ok ob op og h
theorem same_selfA (a : Bk) : sameB a a = true := sameB_iff.2 rfl
set_option maxHeartbeats 4000000 in
theorem applies_any (h : Bh) (b : Bk) (hh : Eh) (e : Ev) (w : World) (i : IsB w h b) (ie : Is w hh e) (ob : BkOk b) (oe : EvOk e) :
    Calls Try.prog 5 #[bv h, ev hh] w fun x w' => x = .returned (.bool true) ∧ Below w.heap.size w w' := by
  have ha := fun W => alive_any W
  have hg := fun W => great_any h hh W
  cases hG : greatN h.n hh.pn hh.dn with
  | true =>
    rw [hG] at hg
    go_enter Try.func5, Try.ntmps5
    go_wp2_with (first
      | ((fail_if_success (have _ := hB1)); (refine at_box_bk _ _ (by rfl) (by rfl) (by rfl) ?_); intro V1 hXb1 hB1 hz1; have hC1 := hB1)
      | ((fail_if_success (have _ := hB2)); (have _ := hB1); (refine at_box_ev _ _ (by rfl) (by rfl) (by rfl) ?_); intro V2 hXe2 hB2 hz2; have hXb2 := hXb1.below hB2; have hC2 := bnext hC1 hB2)
      | ((fail_if_success (have _ := hB3)); (have _ := hB2); (refine at_load_bk _ _ _ (by rfl) (by rfl) hXb2 (by rfl) ?_))
      | ((fail_if_success (have _ := hB3)); (have _ := hB2); (refine at_load_ev _ _ _ (by rfl) (by rfl) hXe2 (by rfl) ?_))
      | ((fail_if_success (have _ := hB3)); (have _ := hB2); (with_reducible refine (ha _).mono ?_); rintro e w3 ⟨rfl, hB3⟩; have hXb3 := hXb2.below hB3; have hXe3 := hXe2.below hB3; have hC3 := bnext hC2 hB3)
      | ((fail_if_success (have _ := hB4)); (have _ := hB3); (refine at_load_bk _ _ _ (by rfl) (by rfl) hXb3 (by rfl) ?_))
      | ((fail_if_success (have _ := hB4)); (have _ := hB3); (refine at_load_ev _ _ _ (by rfl) (by rfl) hXe3 (by rfl) ?_))
      | ((fail_if_success (have _ := hB4)); (have _ := hB3); (with_reducible refine (hg _).mono ?_); rintro e w4 ⟨rfl, hB4⟩; have hXb4 := hXb3.below hB4; have hXe4 := hXe3.below hB4; have hC4 := bnext hC3 hB4; have cb := cells_bk hXb4; (try simp only at cb))
      | ((fail_if_success (have _ := hB5)); (have _ := hB4); (refine at_load_bk _ _ _ (by rfl) (by rfl) hXb4 (by rfl) ?_))
      | ((fail_if_success (have _ := hB5)); (have _ := hB4); (refine at_load_ev _ _ _ (by rfl) (by rfl) hXe4 (by rfl) ?_)))
    go_ret
    exact ⟨rfl, hC4⟩
  | false =>
    rw [hG] at hg
    obtain ⟨n0, n1, n2⟩ := great_no hG
    obtain ⟨t, es⟩ := b
    obtain ⟨t', q, n, c⟩ := h
    have hA := fun {W : World} (hb : Below w.heap.size w W) => book_Apply ⟨t', q, n, c⟩ ⟨t, es⟩ hh e W (i.below hb) (ie.below hb) ob.2 oe.2.2.1 (by omega) (by omega) (by omega)
    have hI1 := fun {W : World} (hb : Below w.heap.size w W) => i.below hb
    obtain ⟨f1, l1, r1⟩ := i
    simp only at f1 l1 r1 n0
    subst f1
    have hD := fun {W : World} (hb : Below w.heap.size w W) {h2 : Bh} (i2 : IsB W h2 ⟨t', es⟩) => ref_ApplyB h2 ⟨t', es⟩ hh e W i2 (ie.below hb) ob.2 oe.2.2.1 (by have := i2.2.1; simp only at this; omega) (by omega) (by omega)
    obtain ⟨k1, k2⟩ := app_ok (b := ⟨t', es⟩) ob.2 oe.2.2.1 (by have := oe; unfold EvOk at this; exact this.2.2.2.2.1)
    obtain ⟨AB, hAB⟩ : ∃ x, appB ⟨t', es⟩ e = x := ⟨_, rfl⟩
    obtain ⟨AE, hAE⟩ : ∃ x, appE ⟨t', es⟩ e = x := ⟨_, rfl⟩
    rw [hAB] at k1 k2
    rw [hAB, hAE] at hA hD
    have hS := fun {W : World} {h1 h2 : Bh} (i1 : IsB W h1 AB) (i2 : IsB W h2 AB) => ref_SameB h1 h2 AB AB W i1 i2 k1 k1 (by have := i1.2.1; simp only at k2; omega)
    have hS2 := fun {W : World} {h1 h2 : Bh} (i1 : IsB W h1 ⟨t', es⟩) (i2 : IsB W h2 ⟨t', es⟩) => ref_SameB h1 h2 ⟨t', es⟩ ⟨t', es⟩ W i1 i2 ob.2 ob.2 (by have := i1.2.1; simp only at this; omega)
    simp only [same_selfA] at hS hS2
    have t1 : (AE == AE) = true := by simp
    have hRK := fun {W : World} (hb : Below w.heap.size w W) => r1.below hb
    clear hG hAB hAE k1 k2 ob oe ie r1
    go_enter Try.func5, Try.ntmps5
    go_wp2_with (first
      | ((fail_if_success (have _ := hB1)); (refine at_box_bk _ _ (by rfl) (by rfl) (by rfl) ?_); intro V1 hXb1 hB1 hz1; have hC1 := hB1)
      | ((fail_if_success (have _ := hB2)); (have _ := hB1); (refine at_box_ev _ _ (by rfl) (by rfl) (by rfl) ?_); intro V2 hXe2 hB2 hz2; have hXb2 := hXb1.below hB2; have hC2 := bnext hC1 hB2)
      | ((fail_if_success (have _ := hB3)); (have _ := hB2); (refine at_load_bk _ _ _ (by rfl) (by rfl) hXb2 (by rfl) ?_))
      | ((fail_if_success (have _ := hB3)); (have _ := hB2); (refine at_load_ev _ _ _ (by rfl) (by rfl) hXe2 (by rfl) ?_))
      | ((fail_if_success (have _ := hB3)); (have _ := hB2); (with_reducible refine (ha _).mono ?_); rintro e w3 ⟨rfl, hB3⟩; have hXb3 := hXb2.below hB3; have hXe3 := hXe2.below hB3; have hC3 := bnext hC2 hB3)
      | ((fail_if_success (have _ := hB4)); (have _ := hB3); (refine at_load_bk _ _ _ (by rfl) (by rfl) hXb3 (by rfl) ?_))
      | ((fail_if_success (have _ := hB4)); (have _ := hB3); (refine at_load_ev _ _ _ (by rfl) (by rfl) hXe3 (by rfl) ?_))
      | ((fail_if_success (have _ := hB4)); (have _ := hB3); (with_reducible refine (hg _).mono ?_); rintro e w4 ⟨rfl, hB4⟩; have hXb4 := hXb3.below hB4; have hXe4 := hXe3.below hB4; have hC4 := bnext hC3 hB4; have cb := cells_bk hXb4; (try simp only at cb))
      | ((fail_if_success (have _ := hB5)); (have _ := hB4); (refine at_load_bk _ _ _ (by rfl) (by rfl) hXb4 (by rfl) ?_))
      | ((fail_if_success (have _ := hB5)); (have _ := hB4); (refine at_load_ev _ _ _ (by rfl) (by rfl) hXe4 (by rfl) ?_)))
    refine Inv.region_invB (fun L a w' => ∃ (gS : Nat) (gO : Nat) (q5 : Option Addr) (c5 : Nat), a = { tmps := #[(bv { t := t', q := q, n := n, c := c }), (ev hh), (Value.pointer (some { block := w.heap.size, off := 0 })), (Value.pointer (some { block := V1.heap.size, off := 0 })), (Value.bool false), (if L 7 = true then (.pointer (some ⟨gO, 0, none⟩)) else undef), undef, undef, undef, undef, (Value.bool true), (Value.bool false), (bv { t := t', q := q, n := n, c := c }), (ev hh), (Value.bool false), (if L 0 = true then (.pointer (some ⟨w.heap.size, 0, none⟩)) else undef), (if L 1 = true then (.int .u64 t') else undef), (if L 2 = true then (.slice (some ⟨gS, 0, none⟩) 0 0) else undef), (if L 3 = true then (.pointer (some ⟨w.heap.size, 1, none⟩)) else undef), (if L 4 = true then (.slice q n c) else undef), (if L 5 = true then (.slice q5 n c5) else undef), (if L 6 = true then (bv ⟨t', q5, n, c5⟩) else undef), undef, undef, undef, undef, undef, undef, undef, undef, undef, undef, undef, undef, undef, undef, undef, undef, undef, undef, undef, undef, undef, undef, undef, undef, undef], defers := [] } ∧ (Below w4.heap.size w4 w' ∧ (L 2 = true → L 5 = false → EO w4.heap.size w' (.slice (some ⟨gS, 0, none⟩) 0 0) []) ∧ (L 5 = true → EO w4.heap.size w' (.slice q5 n c5) es) ∧ (L 7 = true → Blk w' gO 25 (bl (if L 8 = true then ⟨t', q5, n, c5⟩ else zeroH)) ∧ w4.heap.size ≤ gO) ∧ (L 5 = false → L 6 = false ∧ L 8 = false) ∧ (L 7 = false → L 8 = false) ∧ (L 2 = false → L 5 = false))) (by kernel_rfl) (by kernel_rfl) ?h0 ?step ?done
    case h0 => exact ⟨0, 0, none, 0, by simp, (Below.refl _ _).drew, by simp, by simp, by simp, by simp, by simp, by simp⟩
    case step =>
      refine Inv.Steps.cons rfl ?_ ?_
      · intro L a w' hI hL hd K hK
        obtain ⟨gS, gO, q5, c5, rfl, hI⟩ := hI
        clear hd
        rw [if_pos (by rfl)]
        go_simp
        exact hK.out _ _ ⟨gS, gO, q5, c5, by simp, by simpa using hI⟩
      refine Inv.Steps.cons rfl ?_ ?_
      · intro L a w' hI hL hd K hK
        obtain ⟨gS, gO, q5, c5, rfl, hI⟩ := hI
        simp [Region.binds] at hd
        simp only [hd, if_true]
        rw [if_pos (by rfl)]
        have cb := cells_bk (hXb4.below hI.1)
        simp only at cb
        go_simp
        exact hK.out _ _ ⟨gS, gO, q5, c5, by simp [hd], by simpa using hI⟩
      refine Inv.Steps.cons rfl ?_ ?_
      · intro L a w' hI hL hd K hK
        obtain ⟨gS, gO, q5, c5, rfl, hI⟩ := hI
        clear hd
        rw [if_pos (by rfl)]
        have e5 := hI.2.2.2.2.2.2 hL
        obtain ⟨e6, e8⟩ := hI.2.2.2.2.1 e5
        go_simp
        exact hK.out _ _ ⟨w'.heap.size, gO, q5, c5, by simp [e5, e6], hI.1.alloc hI.1.size _, fun _ _ => (none_ent _).lower hI.1.size, fun h => by simp [e5] at h, fun h => by have h2 := hI.2.2.2.1 (by simpa using h); exact ⟨by simpa using h2.1.alloc _, h2.2⟩, by simpa using hI.2.2.2.2.1, by simpa using hI.2.2.2.2.2.1, fun h => by simp at h⟩
      refine Inv.Steps.cons rfl ?_ ?_
      · intro L a w' hI hL hd K hK
        obtain ⟨gS, gO, q5, c5, rfl, hI⟩ := hI
        clear hd
        rw [if_pos (by rfl)]
        go_simp
        exact hK.out _ _ ⟨gS, gO, q5, c5, by simp, by simpa using hI⟩
      refine Inv.Steps.cons rfl ?_ ?_
      · intro L a w' hI hL hd K hK
        obtain ⟨gS, gO, q5, c5, rfl, hI⟩ := hI
        simp [Region.binds] at hd
        simp only [hd, if_true]
        rw [if_pos (by rfl)]
        have cb := cells_bk (hXb4.below hI.1)
        simp only at cb
        go_simp
        exact hK.out _ _ ⟨gS, gO, q5, c5, by simp [hd], by simpa using hI⟩
      refine Inv.Steps.cons rfl ?_ ?_
      · intro L a w' hI hL hd K hK
        obtain ⟨gS, gO, q5, c5, rfl, hI⟩ := hI
        simp [Region.binds] at hd
        simp only [hd, if_true]
        rw [if_pos (by rfl)]
        have e2 : L 2 = true := by simp [hd]
        obtain ⟨e6, e8⟩ := hI.2.2.2.2.1 hL
        have hO := hI.2.1 e2 hL
        refine wp_append_en _ _ (by rfl) w4.heap.size _ [] (by rfl) hO q n c es (by rfl) l1 ((hRK (bnext hC4 hI.1))) (by simp; omega) hI.1.size ?_
        intro v6 w6 ho6 hg6 hli6
        rw [List.nil_append] at ho6
        obtain ⟨q6, c6, hv6, -, -⟩ := ho6.shape
        rw [l1] at hv6
        subst hv6
        exact hK.out _ _ ⟨gS, gO, q6, c6, by simp [hd, e6, Act.put], hI.1.grown hg6 hI.1.size (fun j hj => own_from_base hO j hj), fun _ h => by simp at h, fun _ => ho6, fun h => by have h2 := hI.2.2.2.1 (by simpa using h); rw [e8] at h2; exact ⟨by simpa [e8] using h2.1.kept hg6 (hO.ne h2.1 (by decide)), h2.2⟩, fun h => by simp at h, by simpa using hI.2.2.2.2.2.1, fun h => by simp [e2] at h⟩
      refine Inv.Steps.cons rfl ?_ ?_
      · intro L a w' hI hL hd K hK
        obtain ⟨gS, gO, q5, c5, rfl, hI⟩ := hI
        simp [Region.binds] at hd
        simp only [hd, if_true]
        rw [if_pos (by rfl)]
        have e5 : L 5 = true := by simp [hd]
        refine wp_build_bboth _ _ t' q5 n c5 (by rfl) (by rfl) (by rfl) ?_
        exact hK.out _ _ ⟨gS, gO, q5, c5, by simp [hd, Act.put], hI.1, by simpa using hI.2.1, by simpa using hI.2.2.1, by simpa using hI.2.2.2.1, fun h => absurd h (by simp [e5]), by simpa using hI.2.2.2.2.2.1, by simpa using hI.2.2.2.2.2.2⟩
      refine Inv.Steps.cons rfl ?_ ?_
      · intro L a w' hI hL hd K hK
        obtain ⟨gS, gO, q5, c5, rfl, hI⟩ := hI
        clear hd
        rw [if_pos (by rfl)]
        have e8 := hI.2.2.2.2.2.1 hL
        refine wp_alloc_bk (by rfl) ?_
        intro w6 hX6 hB6 hz6
        exact hK.out _ _ ⟨gS, w'.heap.size, q5, c5, by simp [Act.put], bnext hI.1 hB6, fun a b => (hI.2.1 (by simpa using a) (by simpa using b)).below hB6, fun a => (hI.2.2.1 (by simpa using a)).below hB6, fun _ => ⟨by simpa [e8] using hX6, hI.1.size⟩, by simpa using hI.2.2.2.2.1, fun h => by simp at h, by simpa using hI.2.2.2.2.2.2⟩
      refine Inv.Steps.cons rfl ?_ ?_
      · intro L a w' hI hL hd K hK
        obtain ⟨gS, gO, q5, c5, rfl, hI⟩ := hI
        simp [Region.binds] at hd
        simp only [hd, if_true]
        rw [if_pos (by rfl)]
        have e6 : L 6 = true := by simp [hd]
        have e7 : L 7 = true := by simp [hd]
        have e5 : L 5 = true := Bool.of_not_eq_false fun h => by have := (hI.2.2.2.2.1 h).1; rw [e6] at this; cases this
        have hX := hI.2.2.2.1 e7
        have hX1 : Blk w' gO 25 (bl zeroH) := by simpa [hL] using hX.1
        have hO := hI.2.2.1 e5
        refine wp_store_bk _ _ _ _ _ (by rfl) (by rfl) (by rfl) hX1 rfl ?_
        intro w6 hX6 hg6 hz6
        exact hK.out _ _ ⟨gS, gO, q5, c5, by simp [hd, Act.put], hI.1.grown hg6 hI.1.size (fun j hj => by obtain rfl := Option.some.inj hj; exact hX.2), fun a b => absurd b (by simp [e5]), fun _ => hO.off hX1 (by decide) hg6, fun _ => ⟨by simpa using hX6, hX.2⟩, fun h => absurd h (by simp [e5]), fun h => absurd h (by simp [e7]), by simpa using hI.2.2.2.2.2.2⟩
      exact Inv.Steps.nil (by decide)
    case done =>
      intro L a w' hI hall
      obtain ⟨gS, gO, q5, c5, rfl, hI⟩ := hI
      simp only [hall, if_true] at hI ⊢
      have hIW := hI.1
      have hO5 := hI.2.2.1 trivial
      obtain ⟨hXo0, -⟩ := hI.2.2.2.1 trivial
      clear hI hall
      have hK0 := (isb_own (t := t') hO5).1
      have hXb0 := hXb4.below hIW
      have hXe0 := hXe4.below hIW
      have hX0 := bnext hC4 hIW
      have hJ0 := hI1 hX0
      clear hB1 hB2 hB3 hB4
      go_wp2_with (first
        | ((fail_if_success (have _ := hB1)); (refine at_load_bk _ _ _ (by rfl) (by rfl) hXb0 (by rfl) ?_))
        | ((fail_if_success (have _ := hB1)); (refine at_load_ev _ _ _ (by rfl) (by rfl) hXe0 (by rfl) ?_))
        | ((fail_if_success (have _ := hB1)); (refine at_load_bk _ _ _ (by rfl) (by rfl) hXo0 (by rfl) ?_))
        | ((fail_if_success (have _ := hB1)); (with_reducible refine (hA hX0).mono ?_); rintro e w1 ⟨hh1, rfl, i1, -, hB1⟩; have hXb1 := hXb0.below hB1; have hXe1 := hXe0.below hB1; have hXo1 := hXo0.below hB1; have hFK1 := hK0.below hB1; have hFJ1 := hJ0.below hB1; have hC1 := bnext hX0 hB1; have hFc1 := i1)
        | ((fail_if_success (have _ := hB2)); (have _ := hB1); (refine at_alloc_bk (by rfl) (by rfl) ?_); intro V2 hXc2 hB2 hz2)
        | ((fail_if_success (have _ := hB3)); (have _ := hB2); (refine at_store_bk _ _ _ _ _ (by rfl) (by rfl) (by rfl) hXc2 rfl (by rfl) ?_); intro V3 hXc3 hg3 hz3; have hB3 := hB2.grown hg3 hB2.size (by simp); have hXb3 := hXb1.below hB3; have hXe3 := hXe1.below hB3; have hXo3 := hXo1.below hB3; have hFK3 := hFK1.below hB3; have hFJ3 := hFJ1.below hB3; have hFc3 := hFc1.below hB3; have hC3 := bnext hC1 hB3)
        | ((fail_if_success (have _ := hB4)); (have _ := hB3); (refine at_load_bk _ _ _ (by rfl) (by rfl) hXb3 (by rfl) ?_))
        | ((fail_if_success (have _ := hB4)); (have _ := hB3); (refine at_load_ev _ _ _ (by rfl) (by rfl) hXe3 (by rfl) ?_))
        | ((fail_if_success (have _ := hB4)); (have _ := hB3); (refine at_load_bk _ _ _ (by rfl) (by rfl) hXo3 (by rfl) ?_))
        | ((fail_if_success (have _ := hB4)); (have _ := hB3); (refine at_load_bk _ _ _ (by rfl) (by rfl) hXc3 (by rfl) ?_))
        | ((fail_if_success (have _ := hB4)); (have _ := hB3); (with_reducible refine (hD hC3 hFK3).mono ?_); rintro e w4 ⟨hh4, rfl, i4, hB4⟩; have hXb4 := hXb3.below hB4; have hXe4 := hXe3.below hB4; have hXo4 := hXo3.below hB4; have hXc4 := hXc3.below hB4; have hFK4 := hFK3.below hB4; have hFJ4 := hFJ3.below hB4; have hFc4 := hFc3.below hB4; have hC4 := bnext hC3 hB4; have hFd4 := i4)
        | ((fail_if_success (have _ := hB5)); (have _ := hB4); (refine at_alloc_bk (by rfl) (by rfl) ?_); intro V5 hXd5 hB5 hz5)
        | ((fail_if_success (have _ := hB6)); (have _ := hB5); (refine at_store_bk _ _ _ _ _ (by rfl) (by rfl) (by rfl) hXd5 rfl (by rfl) ?_); intro V6 hXd6 hg6 hz6; have hB6 := hB5.grown hg6 hB5.size (by simp); have hXb6 := hXb4.below hB6; have hXe6 := hXe4.below hB6; have hXo6 := hXo4.below hB6; have hXc6 := hXc4.below hB6; have hFK6 := hFK4.below hB6; have hFJ6 := hFJ4.below hB6; have hFc6 := hFc4.below hB6; have hFd6 := hFd4.below hB6; have hC6 := bnext hC4 hB6)
        | ((fail_if_success (have _ := hB7)); (have _ := hB6); (refine at_load_bk _ _ _ (by rfl) (by rfl) hXb6 (by rfl) ?_))
        | ((fail_if_success (have _ := hB7)); (have _ := hB6); (refine at_load_ev _ _ _ (by rfl) (by rfl) hXe6 (by rfl) ?_))
        | ((fail_if_success (have _ := hB7)); (have _ := hB6); (refine at_load_bk _ _ _ (by rfl) (by rfl) hXo6 (by rfl) ?_))
        | ((fail_if_success (have _ := hB7)); (have _ := hB6); (refine at_load_bk _ _ _ (by rfl) (by rfl) hXc6 (by rfl) ?_))
        | ((fail_if_success (have _ := hB7)); (have _ := hB6); (refine at_load_bk _ _ _ (by rfl) (by rfl) hXd6 (by rfl) ?_))
        | ((fail_if_success (have _ := hB7)); (have _ := hB6); (with_reducible refine (hS hFc6 hFd6).mono ?_); rintro e w7 ⟨rfl, hB7⟩; have hXb7 := hXb6.below hB7; have hXe7 := hXe6.below hB7; have hXo7 := hXo6.below hB7; have hXc7 := hXc6.below hB7; have hXd7 := hXd6.below hB7; have hFK7 := hFK6.below hB7; have hFJ7 := hFJ6.below hB7; have hFc7 := hFc6.below hB7; have hFd7 := hFd6.below hB7; have hC7 := bnext hC6 hB7)
        | ((fail_if_success (have _ := hB8)); (have _ := hB7); (refine at_load_bk _ _ _ (by rfl) (by rfl) hXb7 (by rfl) ?_))
        | ((fail_if_success (have _ := hB8)); (have _ := hB7); (refine at_load_ev _ _ _ (by rfl) (by rfl) hXe7 (by rfl) ?_))
        | ((fail_if_success (have _ := hB8)); (have _ := hB7); (refine at_load_bk _ _ _ (by rfl) (by rfl) hXo7 (by rfl) ?_))
        | ((fail_if_success (have _ := hB8)); (have _ := hB7); (refine at_load_bk _ _ _ (by rfl) (by rfl) hXc7 (by rfl) ?_))
        | ((fail_if_success (have _ := hB8)); (have _ := hB7); (refine at_load_bk _ _ _ (by rfl) (by rfl) hXd7 (by rfl) ?_))
        | ((fail_if_success (have _ := hB8)); (have _ := hB7); (with_reducible refine (hS2 hFJ7 hFK7).mono ?_); rintro e w8 ⟨rfl, hB8⟩; have hXb8 := hXb7.below hB8; have hXe8 := hXe7.below hB8; have hXo8 := hXo7.below hB8; have hXc8 := hXc7.below hB8; have hXd8 := hXd7.below hB8; have hFK8 := hFK7.below hB8; have hFJ8 := hFJ7.below hB8; have hFc8 := hFc7.below hB8; have hFd8 := hFd7.below hB8; have hC8 := bnext hC7 hB8)
        | ((fail_if_success (have _ := hB9)); (have _ := hB8); (refine at_load_bk _ _ _ (by rfl) (by rfl) hXb8 (by rfl) ?_))
        | ((fail_if_success (have _ := hB9)); (have _ := hB8); (refine at_load_ev _ _ _ (by rfl) (by rfl) hXe8 (by rfl) ?_))
        | ((fail_if_success (have _ := hB9)); (have _ := hB8); (refine at_load_bk _ _ _ (by rfl) (by rfl) hXo8 (by rfl) ?_))
        | ((fail_if_success (have _ := hB9)); (have _ := hB8); (refine at_load_bk _ _ _ (by rfl) (by rfl) hXc8 (by rfl) ?_))
        | ((fail_if_success (have _ := hB9)); (have _ := hB8); (refine at_load_bk _ _ _ (by rfl) (by rfl) hXd8 (by rfl) ?_)))
      go_ret
      exact ⟨rfl, hC8⟩
end Go.Proofs.Ytnaofcggdjbocaa.Book
