/-
  The same books, in the document's words: floodgateref13.Same. (Written by gen_bkrsame.py.)
-/
import Derived.Test.YtnaofcggdjbocaaBkEq
import Derived.Test.YtnaofcggdjbocaaBkSmall
import Derived.Test.YtnaofcggdjbocaaEvCommit
namespace Go.Proofs.Ytnaofcggdjbocaa.Book
open Go.RowKit Go.Proofs.Ytnaofcggdjbocaa.Mem Go.Proofs.Ytnaofcggdjbocaa.Policy Go.Proofs.Ytnaofcggdjbocaa.Event Go.Proofs.Ytnaofcggdjbocaa.Addr
set_option maxRecDepth 100000

set_option maxHeartbeats 2000000 in
theorem ref_SameB (h1 h2 : Bh) (a b : Bk) (w : World) (i1 : IsB w h1 a) (i2 : IsB w h2 b) (oa : ∀ e ∈ a.es, EnOk e) (ob : ∀ e ∈ b.es, EnOk e) (hn : h1.n ≤ 1000) :
    Calls Try.prog 20 #[bv h1, bv h2] w fun e w' => e = .returned (.bool (sameB a b)) ∧ Below w.heap.size w w' := by
  obtain ⟨t, es⟩ := a
  obtain ⟨t2, fs⟩ := b
  obtain ⟨t', q, n, c⟩ := h1
  obtain ⟨t2', q2, n2, c2⟩ := h2
  obtain ⟨e1, l1, r1⟩ := i1
  obtain ⟨e2, l2, r2⟩ := i2
  simp only at e1 e2 l1 l2 r1 r2 oa ob hn
  subst e1 e2
  obtain ⟨R, hR⟩ : ∃ R, R = sameB ⟨t', es⟩ ⟨t2', fs⟩ := ⟨_, rfl⟩
  rw [← hR]
  have HR : Hid (R = sameB ⟨t', es⟩ ⟨t2', fs⟩) := hR
  clear hR
  by_cases q0 : t' = t2'
  · subst q0
    have b0 : (t' != t') = false := by simp
    by_cases q4 : n = n2
    · subst q4
      have b4 : ((n : Int) != (n : Int)) = false := by simp
      have hcap := r1.1
      replace HR : Hid (R = eqEs es fs) := by unfold Hid; rw [HR.out]; simp [sameB]
      go_enter Try.func20, Try.ntmps20
      go_wp2_with (first
        | ((fail_if_success (have _ := hX1)); (refine at_box_bk _ _ (by rfl) (by rfl) (by rfl) ?_); intro V1 hX1 hB1 hz1)
        | ((fail_if_success (have _ := hX2)); (have _ := hX1); (refine at_box_bk _ _ (by rfl) (by rfl) (by rfl) ?_); intro V2 hX2 hB2 hz2; have hX1' := hX1.below hB2; have hB := bnext hB1 hB2; have c1 := cells_bk hX1'; have c2 := cells_bk hX2; simp only at c1 c2))
      have hr1 := fun {W : World} (hb : Below V2.heap.size V2 W) => r1.below (bnext hB hb)
      have hr2 := fun {W : World} (hb : Below V2.heap.size V2 W) => r2.below (bnext hB hb)
      clear r1 r2 hX1 hB1 hB2 hz1 hz2
      go_loopw [23] (fun i wr => ∃ k : Nat, k ≤ n ∧ i = .int .i64 k ∧ Hid (es.take k = fs.take k) ∧ Below V2.heap.size V2 wr) (fun i _ => n - (intOf i).toNat)
      case atStart => exact ⟨0, by omega, rfl, by unfold Hid; simp, Below.refl _ _⟩
      case round =>
        obtain ⟨k, hk, rfl, HK, hBr⟩ := hrel
        clear c1 c2
        by_cases hlt : k < n
        · obtain ⟨x, hx⟩ : ∃ x, es[k]? = some x := ⟨_, List.getElem?_eq_getElem (by omega)⟩
          obtain ⟨y, hy⟩ : ∃ y, fs[k]? = some y := ⟨_, List.getElem?_eq_getElem (by omega)⟩
          have HS : Hid (es.take (k + 1) = fs.take (k + 1) ↔ x = y) := same_next hx hy HK.out
          have ox := oa x (List.mem_of_getElem? hx)
          have oy := ob y (List.mem_of_getElem? hy)
          obtain ⟨g1, o1, rfl, hlt1, hc1⟩ := ent_at (hr1 (Below.refl _ _)) hx
          obtain ⟨g2, o2, rfl, hlt2, hc2⟩ := ent_at (hr2 (Below.refl _ _)) hy
          have hw1 : ∀ {W : World}, Below V2.heap.size V2 W → ∀ j v, (nl x)[j]? = some v → W.cell? ⟨g1, o1 + k * 14 + j, none⟩ = some v := fun hB j v hv => (hB.cell (p := ⟨g1, o1 + k * 14 + j, none⟩) hlt1).trans (hc1 j v hv)
          have hw2 : ∀ {W : World}, Below V2.heap.size V2 W → ∀ j v, (nl y)[j]? = some v → W.cell? ⟨g2, o2 + k * 14 + j, none⟩ = some v := fun hB j v hv => (hB.cell (p := ⟨g2, o2 + k * 14 + j, none⟩) hlt2).trans (hc2 j v hv)
          clear hx hy hc1 hc2
          have hlt' : (k : Int) < (n : Int) := by omega
          go_wp2
          refine Inv.region_inv (fun L a w' => a = { tmps := #[(bv { t := t', q := some { block := g1, off := o1 }, n := n, c := c }), (bv { t := t', q := some { block := g2, off := o2 }, n := n, c := c2 }), (Value.pointer (some { block := w.heap.size, off := 0 })), (Value.pointer (some { block := V1.heap.size, off := 0 })), (u4), (Value.int IntKind.i64 ↑k), (Value.pointer (some { block := w.heap.size, off := 0 })), (Value.int IntKind.u64 t'), (Value.pointer (some { block := V1.heap.size, off := 0 })), (Value.int IntKind.u64 t'), (Value.bool false), (Value.bool false), (Value.pointer (some { block := w.heap.size, off := 1 })), (Value.slice (some { block := g1, off := o1 }) n c), (Value.int IntKind.i64 ↑n), (Value.pointer (some { block := V1.heap.size, off := 1 })), (Value.slice (some { block := g2, off := o2 }) n c2), (Value.int IntKind.i64 ↑n), (Value.bool false), (Value.bool false), (Value.pointer (some { block := w.heap.size, off := 1 })), (Value.slice (some { block := g1, off := o1 }) n c), (Value.int IntKind.i64 ↑n), (Value.int IntKind.i64 ↑k), (Value.bool true), (Value.int IntKind.i64 ↑k), (if L 0 = true then (.pointer (some ⟨w.heap.size, 1, none⟩)) else (u26)), (if L 1 = true then (.slice (some ⟨g1, o1, none⟩) n c) else (u27)), (if L 2 = true then (.int .i64 (k : Int)) else (u28)), (if L 3 = true then (.pointer (some ⟨g1, o1 + k * 14, none⟩)) else (u29)), (if L 4 = true then (nv x) else (u30)), (if L 5 = true then (.pointer (some ⟨V1.heap.size, 1, none⟩)) else (u31)), (if L 6 = true then (.slice (some ⟨g2, o2, none⟩) n c2) else (u32)), (if L 7 = true then (.int .i64 (k : Int)) else (u33)), (if L 8 = true then (.pointer (some ⟨g2, o2 + k * 14, none⟩)) else (u34)), (if L 9 = true then (nv y) else (u35)), (if L 10 = true then (.bool (!eqE x y)) else (u36)), (u37)], defers := [] } ∧ (Below V2.heap.size V2 w')) (by kernel_rfl) (by kernel_rfl) ?h0 ?step ?done
          case h0 => exact ⟨by simp, hBr.drew⟩
          case step =>
            refine Inv.Steps.cons rfl ?_ ?_
            · intro L a w' hI hL hd K hK
              obtain ⟨rfl, hI⟩ := hI
              clear hd
              rw [if_pos (by rfl)]
              go_simp
              exact hK.out _ _ ⟨by simp, hI⟩
            refine Inv.Steps.cons rfl ?_ ?_
            · intro L a w' hI hL hd K hK
              obtain ⟨rfl, hI⟩ := hI
              simp [Region.binds] at hd
              simp only [hd, if_true]
              rw [if_pos (by rfl)]
              have hc := cells_bk (hX1'.below hI)
              simp only at hc
              go_simp
              exact hK.out _ _ ⟨by simp [hd], hI⟩
            refine Inv.Steps.cons rfl ?_ ?_
            · intro L a w' hI hL hd K hK
              obtain ⟨rfl, hI⟩ := hI
              clear hd
              rw [if_pos (by rfl)]
              go_simp
              exact hK.out _ _ ⟨by simp, hI⟩
            refine Inv.Steps.cons rfl ?_ ?_
            · intro L a w' hI hL hd K hK
              obtain ⟨rfl, hI⟩ := hI
              simp [Region.binds] at hd
              simp only [hd, if_true]
              rw [if_pos (by rfl)]
              go_simp
              exact hK.out _ _ ⟨by simp [hd], hI⟩
            refine Inv.Steps.cons rfl ?_ ?_
            · intro L a w' hI hL hd K hK
              obtain ⟨rfl, hI⟩ := hI
              simp [Region.binds] at hd
              simp only [hd, if_true]
              rw [if_pos (by rfl)]
              refine wp_load_ren _ _ _ _ (by rfl) (by rfl) (hw1 hI) ?_
              exact hK.out _ _ ⟨by simp [hd, Act.put], hI⟩
            refine Inv.Steps.cons rfl ?_ ?_
            · intro L a w' hI hL hd K hK
              obtain ⟨rfl, hI⟩ := hI
              clear hd
              rw [if_pos (by rfl)]
              go_simp
              exact hK.out _ _ ⟨by simp, hI⟩
            refine Inv.Steps.cons rfl ?_ ?_
            · intro L a w' hI hL hd K hK
              obtain ⟨rfl, hI⟩ := hI
              simp [Region.binds] at hd
              simp only [hd, if_true]
              rw [if_pos (by rfl)]
              have hc := cells_bk (hX2.below hI)
              simp only at hc
              go_simp
              exact hK.out _ _ ⟨by simp [hd], hI⟩
            refine Inv.Steps.cons rfl ?_ ?_
            · intro L a w' hI hL hd K hK
              obtain ⟨rfl, hI⟩ := hI
              clear hd
              rw [if_pos (by rfl)]
              go_simp
              exact hK.out _ _ ⟨by simp, hI⟩
            refine Inv.Steps.cons rfl ?_ ?_
            · intro L a w' hI hL hd K hK
              obtain ⟨rfl, hI⟩ := hI
              simp [Region.binds] at hd
              simp only [hd, if_true]
              rw [if_pos (by rfl)]
              go_simp
              exact hK.out _ _ ⟨by simp [hd], hI⟩
            refine Inv.Steps.cons rfl ?_ ?_
            · intro L a w' hI hL hd K hK
              obtain ⟨rfl, hI⟩ := hI
              simp [Region.binds] at hd
              simp only [hd, if_true]
              rw [if_pos (by rfl)]
              refine wp_load_ren _ _ _ _ (by rfl) (by rfl) (hw2 hI) ?_
              exact hK.out _ _ ⟨by simp [hd, Act.put], hI⟩
            refine Inv.Steps.cons rfl ?_ ?_
            · intro L a w' hI hL hd K hK
              obtain ⟨rfl, hI⟩ := hI
              simp [Region.binds] at hd
              simp only [hd, if_true]
              rw [if_pos (by rfl)]
              refine wp_ne_en ox oy _ _ (by rfl) (by rfl) (by rfl) ?_
              exact hK.out _ _ ⟨by simp [hd, Act.put], hI⟩
            exact Inv.Steps.nil (by decide)
          case done =>
            intro L a w' hI hall
            obtain ⟨rfl, hI⟩ := hI
            simp only [hall, if_true] at hI ⊢
            cases hd : eqE x y with
            | false =>
              obtain rfl : R = false := by
                rw [HR.out]
                cases hq : eqEs es fs with
                | false => rfl
                | true =>
                  have hee := eqEs_iff.1 hq
                  have := HS.out.1 (by rw [hee])
                  rw [eqE_iff.2 this] at hd
                  cases hd
              go_wp2
              go_ret
              exact ⟨rfl, bnext hB hI⟩
            | true =>
              have HN : Hid (es.take (k + 1) = fs.take (k + 1)) := HS.out.2 (eqE_iff.1 hd)
              go_wp2
              go_roundw
              case rel => exact ⟨k + 1, by omega, by go_num, HN, hI⟩
              case measure => simp [intOf]; omega
        · have HE : Hid (es = fs) := by
            have := HK.out
            rw [List.take_of_length_le (by omega), List.take_of_length_le (by omega)] at this
            exact this
          obtain rfl : R = true := by rw [HR.out, eqEs_iff.2 HE.out]
          go_wp2_with fail
          go_ret
          exact ⟨rfl, bnext hB hBr⟩
    · have b4 : ((n : Int) != (n2 : Int)) = true := by simp; omega
      obtain rfl : R = false := by
        rw [HR.out]
        cases hq : sameB ⟨t', es⟩ ⟨t', fs⟩ with
        | false => rfl
        | true =>
          have hee := sameB_iff.1 hq
          simp only [Bk.mk.injEq, true_and] at hee
          exact absurd (by rw [← l1, ← l2, hee]) q4
      clear HR
      go_enter Try.func20, Try.ntmps20
      go_wp2_with (first
        | ((fail_if_success (have _ := hX1)); (refine at_box_bk _ _ (by rfl) (by rfl) (by rfl) ?_); intro V1 hX1 hB1 hz1)
        | ((fail_if_success (have _ := hX2)); (have _ := hX1); (refine at_box_bk _ _ (by rfl) (by rfl) (by rfl) ?_); intro V2 hX2 hB2 hz2; have hX1' := hX1.below hB2; have hB := bnext hB1 hB2; have c1 := cells_bk hX1'; have c2 := cells_bk hX2; simp only at c1 c2))
      go_ret
      exact ⟨rfl, hB⟩
  · have b0 : (t' != t2') = true := by simpa using q0
    obtain rfl : R = false := by rw [HR.out]; simp [sameB, q0]
    clear HR
    go_enter Try.func20, Try.ntmps20
    go_wp2_with (first
      | ((fail_if_success (have _ := hX1)); (refine at_box_bk _ _ (by rfl) (by rfl) (by rfl) ?_); intro V1 hX1 hB1 hz1)
      | ((fail_if_success (have _ := hX2)); (have _ := hX1); (refine at_box_bk _ _ (by rfl) (by rfl) (by rfl) ?_); intro V2 hX2 hB2 hz2; have hX1' := hX1.below hB2; have hB := bnext hB1 hB2; have c1 := cells_bk hX1'; have c2 := cells_bk hX2; simp only at c1 c2))
    go_ret
    exact ⟨rfl, hB⟩
end Go.Proofs.Ytnaofcggdjbocaa.Book
