/-
  The walk of EventTells. (Written by gen_evtells.py.)
-/
import Derived.Test.YtfgndecnakfhnaaEvAlive
import Derived.Test.YtfgndecnakfhnaaEvRefBytes
namespace Go.Proofs.Ytfgndecnakfhnaa.Event
open Go.RowKit Go.Proofs.Ytfgndecnakfhnaa.Mem Go.Proofs.Ytfgndecnakfhnaa.Policy
set_option maxRecDepth 100000

set_option maxHeartbeats 2000000 in
theorem tells_any (h1 h2 : Eh) (a b : Ev) (w : World) (i1 : Is w h1 a) (i2 : Is w h2 b) (oa : ∀ p ∈ a.ps, PoOk p) (ob : ∀ p ∈ b.ps, PoOk p) :
    Calls Try.prog 4 #[ev h1, ev h2] w fun e w' => e = .returned (.bool true) ∧ Below w.heap.size w w' := by
  have ha := fun W => alive_any W
  have hg1 := fun W => great_any h1 W
  have hg2 := fun W => great_any h2 W
  cases hG1 : (decide (30 < h1.pn) || decide (30 < h1.dn)) with
  | true =>
    rw [hG1] at hg1
    go_enter Try.func4, Try.ntmps4
    go_wp2_with (first
      | ((fail_if_success (have _ := hB1)); (refine at_box_ev _ _ (by rfl) (by rfl) (by rfl) ?_); intro V1 hXa1 hB1 hz1; have hC1 := hB1)
      | ((fail_if_success (have _ := hB2)); (have _ := hB1); (refine at_box_ev _ _ (by rfl) (by rfl) (by rfl) ?_); intro V2 hXb2 hB2 hz2; have hXa2 := hXa1.below hB2; have hC2 := bnext hC1 hB2)
      | ((fail_if_success (have _ := hB3)); (have _ := hB2); (refine at_load_ev _ _ _ (by rfl) (by rfl) hXa2 (by rfl) ?_))
      | ((fail_if_success (have _ := hB3)); (have _ := hB2); (refine at_load_ev _ _ _ (by rfl) (by rfl) hXb2 (by rfl) ?_))
      | ((fail_if_success (have _ := hB3)); (have _ := hB2); (with_reducible refine (ha _).mono ?_); rintro e w3 ⟨rfl, hB3⟩; have hXa3 := hXa2.below hB3; have hXb3 := hXb2.below hB3; have hC3 := bnext hC2 hB3)
      | ((fail_if_success (have _ := hB4)); (have _ := hB3); (refine at_load_ev _ _ _ (by rfl) (by rfl) hXa3 (by rfl) ?_))
      | ((fail_if_success (have _ := hB4)); (have _ := hB3); (refine at_load_ev _ _ _ (by rfl) (by rfl) hXb3 (by rfl) ?_))
      | ((fail_if_success (have _ := hB4)); (have _ := hB3); (with_reducible refine (hg1 _).mono ?_); rintro e w4 ⟨rfl, hB4⟩; have hXa4 := hXa3.below hB4; have hXb4 := hXb3.below hB4; have hC4 := bnext hC3 hB4))
    go_ret
    exact ⟨rfl, hC4⟩
  | false =>
    rw [hG1] at hg1
    cases hG2 : (decide (30 < h2.pn) || decide (30 < h2.dn)) with
    | true =>
      rw [hG2] at hg2
      go_enter Try.func4, Try.ntmps4
      go_wp2_with (first
        | ((fail_if_success (have _ := hB1)); (refine at_box_ev _ _ (by rfl) (by rfl) (by rfl) ?_); intro V1 hXa1 hB1 hz1; have hC1 := hB1)
        | ((fail_if_success (have _ := hB2)); (have _ := hB1); (refine at_box_ev _ _ (by rfl) (by rfl) (by rfl) ?_); intro V2 hXb2 hB2 hz2; have hXa2 := hXa1.below hB2; have hC2 := bnext hC1 hB2)
        | ((fail_if_success (have _ := hB3)); (have _ := hB2); (refine at_load_ev _ _ _ (by rfl) (by rfl) hXa2 (by rfl) ?_))
        | ((fail_if_success (have _ := hB3)); (have _ := hB2); (refine at_load_ev _ _ _ (by rfl) (by rfl) hXb2 (by rfl) ?_))
        | ((fail_if_success (have _ := hB3)); (have _ := hB2); (with_reducible refine (ha _).mono ?_); rintro e w3 ⟨rfl, hB3⟩; have hXa3 := hXa2.below hB3; have hXb3 := hXb2.below hB3; have hC3 := bnext hC2 hB3)
        | ((fail_if_success (have _ := hB4)); (have _ := hB3); (refine at_load_ev _ _ _ (by rfl) (by rfl) hXa3 (by rfl) ?_))
        | ((fail_if_success (have _ := hB4)); (have _ := hB3); (refine at_load_ev _ _ _ (by rfl) (by rfl) hXb3 (by rfl) ?_))
        | ((fail_if_success (have _ := hB4)); (have _ := hB3); (with_reducible refine (hg1 _).mono ?_); rintro e w4 ⟨rfl, hB4⟩; have hXa4 := hXa3.below hB4; have hXb4 := hXb3.below hB4; have hC4 := bnext hC3 hB4)
        | ((fail_if_success (have _ := hB5)); (have _ := hB4); (refine at_load_ev _ _ _ (by rfl) (by rfl) hXa4 (by rfl) ?_))
        | ((fail_if_success (have _ := hB5)); (have _ := hB4); (refine at_load_ev _ _ _ (by rfl) (by rfl) hXb4 (by rfl) ?_))
        | ((fail_if_success (have _ := hB5)); (have _ := hB4); (with_reducible refine (hg2 _).mono ?_); rintro e w5 ⟨rfl, hB5⟩; have hXa5 := hXa4.below hB5; have hXb5 := hXb4.below hB5; have hC5 := bnext hC4 hB5))
      go_ret
      exact ⟨rfl, hC5⟩
    | false =>
      rw [hG2] at hg2
      obtain ⟨n1, n2⟩ : h1.pn ≤ 30 ∧ h1.dn ≤ 30 := by simp at hG1; omega
      obtain ⟨n3, n4⟩ : h2.pn ≤ 30 ∧ h2.dn ≤ 30 := by simp at hG2; omega
      have hR1 := fun {W : World} (hb : Below w.heap.size w W) => event_Right h1 a W (i1.below hb) oa (by omega) (by omega)
      have hR2 := fun {W : World} (hb : Below w.heap.size w W) => ref_RightE h1 a W (i1.below hb) oa (by omega) (by omega)
      have hBy1 := fun {W : World} (hb : Below w.heap.size w W) => event_Bytes h1 a W (i1.below hb) oa (by omega) (by omega)
      have hBy2 := fun {W : World} (hb : Below w.heap.size w W) => ref_BytesE h1 a W (i1.below hb) oa (by omega) (by omega)
      have hS1 := fun {W : World} (hb : Below w.heap.size w W) => event_Same h1 h2 a b W (i1.below hb) (i2.below hb) oa ob (by omega) (by omega)
      have hS2 := fun {W : World} (hb : Below w.heap.size w W) => ref_SameE h1 h2 a b W (i1.below hb) (i2.below hb) oa ob (by omega) (by omega)
      obtain ⟨R, hR⟩ : ∃ R, rightE a = R := ⟨_, rfl⟩
      obtain ⟨S, hS⟩ : ∃ S, sameE a b = S := ⟨_, rfl⟩
      obtain ⟨xs, hx⟩ : ∃ xs, bytesE a = xs := ⟨_, rfl⟩
      obtain ⟨E, hE⟩ : ∃ E, errE a = E := ⟨_, rfl⟩
      rw [hR] at hR1 hR2
      rw [hS] at hS1 hS2
      rw [hx, hE] at hBy1 hBy2
      obtain ⟨nx, hnx⟩ : ∃ n, xs.length = n := ⟨_, rfl⟩
      simp only [hnx] at hBy1 hBy2
      have HNX : Hid (xs.length = nx) := hnx
      have t1 : (R == R) = true := by simp
      have t2 : (S == S) = true := by simp
      have t3 : (E == E) = true := by simp
      have t4 : ((str xs).toList == (str xs).toList) = true := by simp
      clear hG1 hG2 n1 n2 n3 n4 hR hS hx hE hnx i1 i2 oa ob
      go_enter Try.func4, Try.ntmps4
      go_wp2_with (first
        | ((fail_if_success (have _ := hB1)); (refine at_box_ev _ _ (by rfl) (by rfl) (by rfl) ?_); intro V1 hXa1 hB1 hz1; have hC1 := hB1)
        | ((fail_if_success (have _ := hB2)); (have _ := hB1); (refine at_box_ev _ _ (by rfl) (by rfl) (by rfl) ?_); intro V2 hXb2 hB2 hz2; have hXa2 := hXa1.below hB2; have hC2 := bnext hC1 hB2)
        | ((fail_if_success (have _ := hB3)); (have _ := hB2); (refine at_load_ev _ _ _ (by rfl) (by rfl) hXa2 (by rfl) ?_))
        | ((fail_if_success (have _ := hB3)); (have _ := hB2); (refine at_load_ev _ _ _ (by rfl) (by rfl) hXb2 (by rfl) ?_))
        | ((fail_if_success (have _ := hB3)); (have _ := hB2); (with_reducible refine (ha _).mono ?_); rintro e w3 ⟨rfl, hB3⟩; have hXa3 := hXa2.below hB3; have hXb3 := hXb2.below hB3; have hC3 := bnext hC2 hB3)
        | ((fail_if_success (have _ := hB4)); (have _ := hB3); (refine at_load_ev _ _ _ (by rfl) (by rfl) hXa3 (by rfl) ?_))
        | ((fail_if_success (have _ := hB4)); (have _ := hB3); (refine at_load_ev _ _ _ (by rfl) (by rfl) hXb3 (by rfl) ?_))
        | ((fail_if_success (have _ := hB4)); (have _ := hB3); (with_reducible refine (hg1 _).mono ?_); rintro e w4 ⟨rfl, hB4⟩; have hXa4 := hXa3.below hB4; have hXb4 := hXb3.below hB4; have hC4 := bnext hC3 hB4)
        | ((fail_if_success (have _ := hB5)); (have _ := hB4); (refine at_load_ev _ _ _ (by rfl) (by rfl) hXa4 (by rfl) ?_))
        | ((fail_if_success (have _ := hB5)); (have _ := hB4); (refine at_load_ev _ _ _ (by rfl) (by rfl) hXb4 (by rfl) ?_))
        | ((fail_if_success (have _ := hB5)); (have _ := hB4); (with_reducible refine (hg2 _).mono ?_); rintro e w5 ⟨rfl, hB5⟩; have hXa5 := hXa4.below hB5; have hXb5 := hXb4.below hB5; have hC5 := bnext hC4 hB5)
        | ((fail_if_success (have _ := hB6)); (have _ := hB5); (refine at_load_ev _ _ _ (by rfl) (by rfl) hXa5 (by rfl) ?_))
        | ((fail_if_success (have _ := hB6)); (have _ := hB5); (refine at_load_ev _ _ _ (by rfl) (by rfl) hXb5 (by rfl) ?_))
        | ((fail_if_success (have _ := hB6)); (have _ := hB5); (with_reducible refine (hBy1 hC5).mono ?_); rintro e w6 ⟨q6, c6, rfl, r6, hB6⟩; have hXa6 := hXa5.below hB6; have hXb6 := hXb5.below hB6; have hC6 := bnext hC5 hB6)
        | ((fail_if_success (have _ := hB7)); (have _ := hB6); (refine at_load_ev _ _ _ (by rfl) (by rfl) hXa6 (by rfl) ?_))
        | ((fail_if_success (have _ := hB7)); (have _ := hB6); (refine at_load_ev _ _ _ (by rfl) (by rfl) hXb6 (by rfl) ?_))
        | ((fail_if_success (have _ := hB7)); (have _ := hB6); (with_reducible refine (hBy2 hC6).mono ?_); rintro e w7 ⟨q7, c7, rfl, r7, hB7⟩; have hXa7 := hXa6.below hB7; have hXb7 := hXb6.below hB7; have hC7 := bnext hC6 hB7))
      refine Inv.region_inv (fun L a w' => a = { tmps := #[(ev h1), (ev h2), (Value.pointer (some { block := w.heap.size, off := 0 })), (Value.pointer (some { block := V1.heap.size, off := 0 })), (if L 26 = true then (.bool true) else (Value.bool false)), (Value.slice q6 nx c6), (Value.int IntKind.i64 E), (Value.slice q7 nx c7), (Value.int IntKind.i64 E), (Value.bool true), (Value.bool false), (ev h1), (Value.bool false), (Value.bool false), (ev h2), (Value.bool false), (Value.bool false), (Value.tuple #[Value.slice q6 nx c6, Value.int IntKind.i64 E]), (ev h1), (Value.tuple #[Value.slice q6 nx c6, Value.int IntKind.i64 E]), (Value.slice q6 nx c6), (Value.int IntKind.i64 E), (Value.tuple #[Value.slice q7 nx c7, Value.int IntKind.i64 E]), (ev h1), (Value.tuple #[Value.slice q7 nx c7, Value.int IntKind.i64 E]), (Value.slice q7 nx c7), (Value.int IntKind.i64 E), (if L 0 = true then (ev h1) else undef), (if L 1 = true then (.bool R) else undef), (if L 2 = true then (ev h1) else undef), (if L 3 = true then (.bool R) else undef), (if L 4 = true then (.bool true) else undef), (if L 5 = true then (.bool true) else undef), (if L 6 = true then (ev h1) else undef), (if L 7 = true then (ev h2) else undef), (if L 8 = true then (.bool S) else undef), (if L 9 = true then (ev h1) else undef), (if L 10 = true then (ev h2) else undef), (if L 11 = true then (.bool S) else undef), (if L 12 = true then (.bool true) else undef), (if L 13 = true then (.bool true) else undef), (if L 14 = true then (.bool true) else undef), (if L 15 = true then (.slice q6 nx c6) else undef), (if L 16 = true then (.string (str xs)) else undef), (if L 17 = true then (.slice q7 nx c7) else undef), (if L 18 = true then (.string (str xs)) else undef), (if L 19 = true then (.bool true) else undef), (if L 20 = true then (.bool true) else undef), (if L 21 = true then (.bool true) else undef), (if L 22 = true then (.int .i64 E) else undef), (if L 23 = true then (.int .i64 E) else undef), (if L 24 = true then (.bool true) else undef), (if L 25 = true then (.bool true) else undef)], defers := [] } ∧ (Below w7.heap.size w7 w' ∧ Blk w' w.heap.size 30 (el h1) ∧ Blk w' V1.heap.size 30 (el h2))) (by kernel_rfl) (by kernel_rfl) ?h0 ?step ?done
      case h0 => exact ⟨by simp, (Below.refl _ _).drew, hXa7.drew, hXb7.drew⟩
      case step =>
        refine Inv.Steps.cons rfl ?_ ?_
        · intro L a w' hI hL hd K hK
          obtain ⟨rfl, hI⟩ := hI
          clear hd
          rw [if_pos (by rfl)]
          refine wp_load_ev _ _ _ (by rfl) (by rfl) hI.2.1 ?_
          exact hK.out _ _ ⟨by simp [Act.put], hI⟩
        refine Inv.Steps.cons rfl ?_ ?_
        · intro L a w' hI hL hd K hK
          obtain ⟨rfl, hI⟩ := hI
          simp [Region.binds] at hd
          simp only [hd, if_true]
          rw [if_pos (by rfl)]
          go_simp
          refine (hR1 (bnext hC7 hI.1)).mono ?_
          rintro e w9 ⟨rfl, hB9⟩
          exact hK.out _ _ ⟨by simp [hd], bnext hI.1 hB9, hI.2.1.below hB9, hI.2.2.below hB9⟩
        refine Inv.Steps.cons rfl ?_ ?_
        · intro L a w' hI hL hd K hK
          obtain ⟨rfl, hI⟩ := hI
          clear hd
          rw [if_pos (by rfl)]
          refine wp_load_ev _ _ _ (by rfl) (by rfl) hI.2.1 ?_
          exact hK.out _ _ ⟨by simp [Act.put], hI⟩
        refine Inv.Steps.cons rfl ?_ ?_
        · intro L a w' hI hL hd K hK
          obtain ⟨rfl, hI⟩ := hI
          simp [Region.binds] at hd
          simp only [hd, if_true]
          rw [if_pos (by rfl)]
          go_simp
          refine (hR2 (bnext hC7 hI.1)).mono ?_
          rintro e w9 ⟨rfl, hB9⟩
          exact hK.out _ _ ⟨by simp [hd], bnext hI.1 hB9, hI.2.1.below hB9, hI.2.2.below hB9⟩
        refine Inv.Steps.cons rfl ?_ ?_
        · intro L a w' hI hL hd K hK
          obtain ⟨rfl, hI⟩ := hI
          simp [Region.binds] at hd
          simp only [hd, if_true]
          rw [if_pos (by rfl)]
          go_simp
          exact hK.out _ _ ⟨by simp [hd], hI⟩
        refine Inv.Steps.cons rfl ?_ ?_
        · intro L a w' hI hL hd K hK
          obtain ⟨rfl, hI⟩ := hI
          simp [Region.binds] at hd
          simp only [hd, if_true]
          rw [if_pos (by rfl)]
          go_simp
          exact hK.out _ _ ⟨by simp [hd], hI⟩
        refine Inv.Steps.cons rfl ?_ ?_
        · intro L a w' hI hL hd K hK
          obtain ⟨rfl, hI⟩ := hI
          simp [Region.binds] at hd
          simp only [hd, if_true]
          rw [if_pos (by rfl)]
          refine wp_load_ev _ _ _ (by rfl) (by rfl) hI.2.1 ?_
          exact hK.out _ _ ⟨by simp [hd, Act.put], hI⟩
        refine Inv.Steps.cons rfl ?_ ?_
        · intro L a w' hI hL hd K hK
          obtain ⟨rfl, hI⟩ := hI
          simp [Region.binds] at hd
          simp only [hd, if_true]
          rw [if_pos (by rfl)]
          refine wp_load_ev _ _ _ (by rfl) (by rfl) hI.2.2 ?_
          exact hK.out _ _ ⟨by simp [hd, Act.put], hI⟩
        refine Inv.Steps.cons rfl ?_ ?_
        · intro L a w' hI hL hd K hK
          obtain ⟨rfl, hI⟩ := hI
          simp [Region.binds] at hd
          simp only [hd, if_true]
          rw [if_pos (by rfl)]
          go_simp
          refine (hS1 (bnext hC7 hI.1)).mono ?_
          rintro e w9 ⟨rfl, hB9⟩
          exact hK.out _ _ ⟨by simp [hd], bnext hI.1 hB9, hI.2.1.below hB9, hI.2.2.below hB9⟩
        refine Inv.Steps.cons rfl ?_ ?_
        · intro L a w' hI hL hd K hK
          obtain ⟨rfl, hI⟩ := hI
          simp [Region.binds] at hd
          simp only [hd, if_true]
          rw [if_pos (by rfl)]
          refine wp_load_ev _ _ _ (by rfl) (by rfl) hI.2.1 ?_
          exact hK.out _ _ ⟨by simp [hd, Act.put], hI⟩
        refine Inv.Steps.cons rfl ?_ ?_
        · intro L a w' hI hL hd K hK
          obtain ⟨rfl, hI⟩ := hI
          simp [Region.binds] at hd
          simp only [hd, if_true]
          rw [if_pos (by rfl)]
          refine wp_load_ev _ _ _ (by rfl) (by rfl) hI.2.2 ?_
          exact hK.out _ _ ⟨by simp [hd, Act.put], hI⟩
        refine Inv.Steps.cons rfl ?_ ?_
        · intro L a w' hI hL hd K hK
          obtain ⟨rfl, hI⟩ := hI
          simp [Region.binds] at hd
          simp only [hd, if_true]
          rw [if_pos (by rfl)]
          go_simp
          refine (hS2 (bnext hC7 hI.1)).mono ?_
          rintro e w9 ⟨rfl, hB9⟩
          exact hK.out _ _ ⟨by simp [hd], bnext hI.1 hB9, hI.2.1.below hB9, hI.2.2.below hB9⟩
        refine Inv.Steps.cons rfl ?_ ?_
        · intro L a w' hI hL hd K hK
          obtain ⟨rfl, hI⟩ := hI
          simp [Region.binds] at hd
          simp only [hd, if_true]
          rw [if_pos (by rfl)]
          go_simp
          exact hK.out _ _ ⟨by simp [hd], hI⟩
        refine Inv.Steps.cons rfl ?_ ?_
        · intro L a w' hI hL hd K hK
          obtain ⟨rfl, hI⟩ := hI
          simp [Region.binds] at hd
          simp only [hd, if_true]
          rw [if_pos (by rfl)]
          go_simp
          exact hK.out _ _ ⟨by simp [hd], hI⟩
        refine Inv.Steps.cons rfl ?_ ?_
        · intro L a w' hI hL hd K hK
          obtain ⟨rfl, hI⟩ := hI
          simp [Region.binds] at hd
          simp only [hd, if_true]
          rw [if_pos (by rfl)]
          go_simp
          exact hK.out _ _ ⟨by simp [hd], hI⟩
        refine Inv.Steps.cons rfl ?_ ?_
        · intro L a w' hI hL hd K hK
          obtain ⟨rfl, hI⟩ := hI
          simp [Region.binds] at hd
          simp only [hd, if_true]
          rw [if_pos (by rfl)]
          go_simp
          exact hK.out _ _ ⟨by simp [hd], hI⟩
        refine Inv.Steps.cons rfl ?_ ?_
        · intro L a w' hI hL hd K hK
          obtain ⟨rfl, hI⟩ := hI
          simp [Region.binds] at hd
          simp only [hd, if_true]
          rw [if_pos (by rfl)]
          have hcv := conv ((r6.below hB7).below hI.1) HNX.out
          go_simp
          exact hK.out _ _ ⟨by simp [hd], hI⟩
        refine Inv.Steps.cons rfl ?_ ?_
        · intro L a w' hI hL hd K hK
          obtain ⟨rfl, hI⟩ := hI
          simp [Region.binds] at hd
          simp only [hd, if_true]
          rw [if_pos (by rfl)]
          go_simp
          exact hK.out _ _ ⟨by simp [hd], hI⟩
        refine Inv.Steps.cons rfl ?_ ?_
        · intro L a w' hI hL hd K hK
          obtain ⟨rfl, hI⟩ := hI
          simp [Region.binds] at hd
          simp only [hd, if_true]
          rw [if_pos (by rfl)]
          have hcv := conv (r7.below hI.1) HNX.out
          go_simp
          exact hK.out _ _ ⟨by simp [hd], hI⟩
        refine Inv.Steps.cons rfl ?_ ?_
        · intro L a w' hI hL hd K hK
          obtain ⟨rfl, hI⟩ := hI
          simp [Region.binds] at hd
          simp only [hd, if_true]
          rw [if_pos (by rfl)]
          go_simp
          exact hK.out _ _ ⟨by simp [hd], hI⟩
        refine Inv.Steps.cons rfl ?_ ?_
        · intro L a w' hI hL hd K hK
          obtain ⟨rfl, hI⟩ := hI
          simp [Region.binds] at hd
          simp only [hd, if_true]
          rw [if_pos (by rfl)]
          go_simp
          exact hK.out _ _ ⟨by simp [hd], hI⟩
        refine Inv.Steps.cons rfl ?_ ?_
        · intro L a w' hI hL hd K hK
          obtain ⟨rfl, hI⟩ := hI
          simp [Region.binds] at hd
          simp only [hd, if_true]
          rw [if_pos (by rfl)]
          go_simp
          exact hK.out _ _ ⟨by simp [hd], hI⟩
        refine Inv.Steps.cons rfl ?_ ?_
        · intro L a w' hI hL hd K hK
          obtain ⟨rfl, hI⟩ := hI
          simp [Region.binds] at hd
          simp only [hd, if_true]
          rw [if_pos (by rfl)]
          go_simp
          exact hK.out _ _ ⟨by simp [hd], hI⟩
        refine Inv.Steps.cons rfl ?_ ?_
        · intro L a w' hI hL hd K hK
          obtain ⟨rfl, hI⟩ := hI
          simp [Region.binds] at hd
          simp only [hd, if_true]
          rw [if_pos (by rfl)]
          go_simp
          exact hK.out _ _ ⟨by simp [hd], hI⟩
        refine Inv.Steps.cons rfl ?_ ?_
        · intro L a w' hI hL hd K hK
          obtain ⟨rfl, hI⟩ := hI
          simp [Region.binds] at hd
          simp only [hd, if_true]
          rw [if_pos (by rfl)]
          go_simp
          exact hK.out _ _ ⟨by simp [hd], hI⟩
        refine Inv.Steps.cons rfl ?_ ?_
        · intro L a w' hI hL hd K hK
          obtain ⟨rfl, hI⟩ := hI
          simp [Region.binds] at hd
          simp only [hd, if_true]
          rw [if_pos (by rfl)]
          go_simp
          exact hK.out _ _ ⟨by simp [hd], hI⟩
        refine Inv.Steps.cons rfl ?_ ?_
        · intro L a w' hI hL hd K hK
          obtain ⟨rfl, hI⟩ := hI
          simp [Region.binds] at hd
          simp only [hd, if_true]
          rw [if_pos (by rfl)]
          go_simp
          exact hK.out _ _ ⟨by simp [hd], hI⟩
        exact Inv.Steps.nil (by decide)
      case done =>
        intro L a w' hI hall
        obtain ⟨rfl, hI⟩ := hI
        simp only [hall, if_true] at hI ⊢
        go_wp2
        go_ret
        exact ⟨rfl, bnext hC7 hI.1⟩
end Go.Proofs.Ytfgndecnakfhnaa.Event
