/-
  The library's Equal over entries, and the same books: book.Same.
-/
import Derived.Test.YtnaofcggdjbocaaBkChange
import Derived.Test.YtnaofcggdjbocaaEvCommit
namespace Go.Proofs.Ytnaofcggdjbocaa.Book
open Go.RowKit Go.Proofs.Ytnaofcggdjbocaa.Mem Go.Proofs.Ytnaofcggdjbocaa.Policy Go.Proofs.Ytnaofcggdjbocaa.Event Go.Proofs.Ytnaofcggdjbocaa.Addr
set_option maxRecDepth 100000

theorem eqEs_not {a b : List En} (h : a ≠ b) : eqEs a b = false := by
  cases hd : eqEs a b with
  | false => rfl
  | true => exact absurd (eqEs_iff.1 hd) h
/-- Entries. -/
theorem equal_ents (p1 p2 : Option Addr) (n1 n2 c1 c2 : Nat) (xs ys : List En) (l1 : xs.length = n1) (l2 : ys.length = n2) (hn : n1 ≤ 1000) (w : World) (r1 : RK nl w p1 c1 xs) (r2 : RK nl w p2 c2 ys) (k1 : ∀ p ∈ xs, EnOk p) (k2 : ∀ p ∈ ys, EnOk p) :
    Calls Try.prog 39 #[.slice p1 n1 c1, .slice p2 n2 c2] w fun e w' => e = .returned (.bool (eqEs xs ys)) ∧ Below w.heap.size w w' := by
  by_cases hl : n1 = n2
  · subst hl
    go_enter Try.func39, Try.ntmps39
    go_wp2
    go_loopw [13] (fun i wr => ∃ k : Nat, k ≤ n1 ∧ i = .int .i64 k ∧ Hid (xs.take k = ys.take k) ∧ Below w.heap.size w wr) (fun i _ => n1 - (intOf i).toNat)
    case atStart => exact ⟨0, by omega, rfl, by unfold Hid; simp, Below.refl _ _⟩
    case round =>
      obtain ⟨k, hk, rfl, HK, hB⟩ := hrel
      by_cases hlt : k < n1
      · obtain ⟨x, hx⟩ : ∃ x, xs[k]? = some x := ⟨_, List.getElem?_eq_getElem (by omega)⟩
        obtain ⟨y, hy⟩ : ∃ y, ys[k]? = some y := ⟨_, List.getElem?_eq_getElem (by omega)⟩
        have HS : Hid (xs.take (k + 1) = ys.take (k + 1) ↔ x = y) := same_next hx hy HK.out
        have ox := k1 x (List.mem_of_getElem? hx)
        have oy := k2 y (List.mem_of_getElem? hy)
        obtain ⟨b1, o1, rfl, hlt1, hc1⟩ := r1.at len_en hx
        obtain ⟨b2, o2, rfl, hlt2, hc2⟩ := r2.at len_en hy
        have hr1 : ∀ {W : World}, Below w.heap.size w W → ∀ j v, (nl x)[j]? = some v → W.cell? ⟨b1, o1 + k * 14 + j, none⟩ = some v := fun hB j v hv => (hB.cell (p := ⟨b1, o1 + k * 14 + j, none⟩) hlt1).trans (hc1 j v hv)
        have hr2 : ∀ {W : World}, Below w.heap.size w W → ∀ j v, (nl y)[j]? = some v → W.cell? ⟨b2, o2 + k * 14 + j, none⟩ = some v := fun hB j v hv => (hB.cell (p := ⟨b2, o2 + k * 14 + j, none⟩) hlt2).trans (hc2 j v hv)
        clear hx hy hc1 hc2
        have hlt' : (k : Int) < (n1 : Int) := by omega
        go_wp2
        refine Inv.region_inv (fun L a w' => a = { tmps := #[(.slice (some ⟨b1, o1, none⟩) n1 c1), (.slice (some ⟨b2, o2, none⟩) n1 c2), undef, undef, u4, (.int .i64 (k : Int)), (.slice (some ⟨b1, o1, none⟩) n1 c1), (.int .i64 (n1 : Int)), (.slice (some ⟨b2, o2, none⟩) n1 c2), (.int .i64 (n1 : Int)), (.bool false), (.slice (some ⟨b1, o1, none⟩) n1 c1), (.int .i64 (n1 : Int)), (.int .i64 (k : Int)), (.bool true), (.int .i64 (k : Int)), (if L 0 = true then (.slice (some ⟨b1, o1, none⟩) n1 c1) else u16), (if L 1 = true then (.int .i64 (k : Int)) else u17), (if L 2 = true then (.pointer (some ⟨b1, o1 + k * 14, none⟩)) else u18), (if L 3 = true then (nv x) else u19), (if L 4 = true then (.slice (some ⟨b2, o2, none⟩) n1 c2) else u20), (if L 5 = true then (.int .i64 (k : Int)) else u21), (if L 6 = true then (.pointer (some ⟨b2, o2 + k * 14, none⟩)) else u22), (if L 7 = true then (nv y) else u23), (if L 8 = true then (.bool (!eqE x y)) else u24), u25], defers := [] } ∧ (Below w.heap.size w w')) (by kernel_rfl) (by kernel_rfl) ?h0 ?step ?done
        case h0 => exact ⟨by simp, hB.drew⟩
        case step =>
          refine Inv.Steps.cons rfl ?_ ?_
          · intro L a w' hI hL hd K hK
            obtain ⟨rfl, hI⟩ := hI
            clear hd
            rw [if_pos (by rfl)]
            go_simp
            exact hK.out _ _ ⟨by simp, hI⟩
          refine Inv.Steps.cons rfl ?_ ?_
          · intro L a w' hI hL hd K hK
            obtain ⟨rfl, hI⟩ := hI
            clear hd
            rw [if_pos (by rfl)]
            go_simp
            exact hK.out _ _ ⟨by simp, hI⟩
          refine Inv.Steps.cons rfl ?_ ?_
          · intro L a w' hI hL hd K hK
            obtain ⟨rfl, hI⟩ := hI
            simp [Region.binds] at hd
            simp only [hd, if_true]
            rw [if_pos (by rfl)]
            go_simp
            exact hK.out _ _ ⟨by simp [hd], hI⟩
          refine Inv.Steps.cons rfl ?_ ?_
          · intro L a w' hI hL hd K hK
            obtain ⟨rfl, hI⟩ := hI
            simp [Region.binds] at hd
            simp only [hd, if_true]
            rw [if_pos (by rfl)]
            refine wp_load_ren _ _ _ _ (by rfl) (by rfl) (hr1 hI) ?_
            exact hK.out _ _ ⟨by simp [hd, Act.put], hI⟩
          refine Inv.Steps.cons rfl ?_ ?_
          · intro L a w' hI hL hd K hK
            obtain ⟨rfl, hI⟩ := hI
            clear hd
            rw [if_pos (by rfl)]
            go_simp
            exact hK.out _ _ ⟨by simp, hI⟩
          refine Inv.Steps.cons rfl ?_ ?_
          · intro L a w' hI hL hd K hK
            obtain ⟨rfl, hI⟩ := hI
            clear hd
            rw [if_pos (by rfl)]
            go_simp
            exact hK.out _ _ ⟨by simp, hI⟩
          refine Inv.Steps.cons rfl ?_ ?_
          · intro L a w' hI hL hd K hK
            obtain ⟨rfl, hI⟩ := hI
            simp [Region.binds] at hd
            simp only [hd, if_true]
            rw [if_pos (by rfl)]
            go_simp
            exact hK.out _ _ ⟨by simp [hd], hI⟩
          refine Inv.Steps.cons rfl ?_ ?_
          · intro L a w' hI hL hd K hK
            obtain ⟨rfl, hI⟩ := hI
            simp [Region.binds] at hd
            simp only [hd, if_true]
            rw [if_pos (by rfl)]
            refine wp_load_ren _ _ _ _ (by rfl) (by rfl) (hr2 hI) ?_
            exact hK.out _ _ ⟨by simp [hd, Act.put], hI⟩
          refine Inv.Steps.cons rfl ?_ ?_
          · intro L a w' hI hL hd K hK
            obtain ⟨rfl, hI⟩ := hI
            simp [Region.binds] at hd
            simp only [hd, if_true]
            rw [if_pos (by rfl)]
            refine wp_ne_en ox oy _ _ (by rfl) (by rfl) (by rfl) ?_
            exact hK.out _ _ ⟨by simp [hd, Act.put], hI⟩
          exact Inv.Steps.nil (by decide)
        case done =>
          intro L a w' hI hall
          obtain ⟨rfl, hI⟩ := hI
          simp only [hall, if_true] at hI ⊢
          cases hd : eqE x y with
          | false =>
            have HNE : Hid (xs ≠ ys) := fun q => by
              rw [eqE_iff.2 (HS.out.1 (by rw [q]))] at hd
              cases hd
            clear hd
            go_wp2
            go_ret
            exact ⟨by rw [eqEs_not HNE.out]; rfl, hI⟩
          | true =>
            have HN : Hid (xs.take (k + 1) = ys.take (k + 1)) := HS.out.2 (eqE_iff.1 hd)
            clear hd
            go_wp2
            go_roundw
            case rel => exact ⟨k + 1, by omega, by go_num, HN, hI⟩
            case measure => simp [intOf]; omega
      · have hkn : k = n1 := by omega
        have HE : Hid (xs = ys) := by
          have := HK.out
          rw [List.take_of_length_le (by omega), List.take_of_length_le (by omega)] at this
          exact this
        clear hkn
        go_wp2
        go_ret
        exact ⟨by rw [eqEs_iff.2 HE.out]; rfl, hB⟩
  · have hne : xs ≠ ys := fun q => hl (by rw [← l1, ← l2, q])
    rw [eqEs_not hne]
    have hb : ((n1 : Int) == (n2 : Int)) = false := by simp; omega
    have hb' : ((n1 : Int) != (n2 : Int)) = true := by simp; omega
    go_enter Try.func39, Try.ntmps39
    go_wp2
    go_ret
    exact ⟨rfl, Below.refl _ _⟩
set_option maxHeartbeats 2000000 in
/-- book.Same. -/
theorem book_Same (h1 h2 : Bh) (a b : Bk) (w : World) (i1 : IsB w h1 a) (i2 : IsB w h2 b) (oa : ∀ e ∈ a.es, EnOk e) (ob : ∀ e ∈ b.es, EnOk e) (hn : h1.n ≤ 1000) :
    Calls Try.prog 19 #[bv h1, bv h2] w fun x w' => x = .returned (.bool (sameB a b)) ∧ Below w.heap.size w w' := by
  obtain ⟨t, es⟩ := a
  obtain ⟨u, fs⟩ := b
  obtain ⟨t', q, n, c⟩ := h1
  obtain ⟨u', p, m, d⟩ := h2
  obtain ⟨e1, l1, r1⟩ := i1
  obtain ⟨e2, l2, r2⟩ := i2
  simp only at e1 l1 r1 e2 l2 r2 oa ob hn
  subst e1 e2
  have hE := fun {W : World} (hb : Below w.heap.size w W) => equal_ents q p n m c d es fs l1 l2 hn W (r1.below hb) (r2.below hb) oa ob
  unfold sameB
  simp only
  clear r1 r2 oa ob
  obtain ⟨R, hR⟩ : ∃ R, eqEs es fs = R := ⟨_, rfl⟩
  rw [hR] at hE ⊢
  clear hR
  by_cases k : t' = u'
  · subst k
    have b0 : (t' == t') = true := by simp
    go_enter Try.func19, Try.ntmps19
    go_wp2_with (first
      | ((fail_if_success (have _ := hX1)); (refine at_box_bk _ _ (by rfl) (by rfl) (by rfl) ?_); intro V1 hX1 hB1 hz1)
      | ((fail_if_success (have _ := hX2)); (have _ := hX1); (refine at_box_bk _ _ (by rfl) (by rfl) (by rfl) ?_); intro V2 hX2 hB2 hz2; have hX1' := hX1.below hB2; have hB := bnext hB1 hB2; have c1 := cells_bk hX1'; have c2 := cells_bk hX2; simp only at c1 c2)
      | ((have _ := hX2); (with_reducible refine (hE hB).mono ?_); rintro e w3 ⟨rfl, hB3⟩; have hB4 := bnext hB hB3))
    go_ret
    exact ⟨by simp, hB4⟩
  · have b0 : (t' == u') = false := by simpa using k
    go_enter Try.func19, Try.ntmps19
    go_wp2_with (first
      | ((fail_if_success (have _ := hX1)); (refine at_box_bk _ _ (by rfl) (by rfl) (by rfl) ?_); intro V1 hX1 hB1 hz1)
      | ((fail_if_success (have _ := hX2)); (have _ := hX1); (refine at_box_bk _ _ (by rfl) (by rfl) (by rfl) ?_); intro V2 hX2 hB2 hz2; have hX1' := hX1.below hB2; have hB := bnext hB1 hB2; have c1 := cells_bk hX1'; have c2 := cells_bk hX2; simp only at c1 c2))
    go_ret
    exact ⟨by simp [k], hB⟩
end Go.Proofs.Ytnaofcggdjbocaa.Book
