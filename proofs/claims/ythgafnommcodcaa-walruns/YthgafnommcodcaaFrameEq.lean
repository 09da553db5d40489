/-
  The same sectors: slices.Equal, and the document's own. (Written by gen_feq.py.)
-/
import Derived.Test.YthgafnommcodcaaFrameMade
import Derived.Test.YthgafnommcodcaaInv
namespace Go.Proofs.Ythgafnommcodcaa.Frame
open Go.RowKit Go.Proofs.Ythgafnommcodcaa.Mem Go.Proofs.Ythgafnommcodcaa.Sect
set_option maxRecDepth 100000

theorem take_next {xs : List Sec} {k : Nat} (h : k < xs.length) : xs.take (k + 1) = xs.take k ++ [xs[k]] := List.take_succ_eq_append_getElem h
theorem same_next {xs ys : List Sec} {k : Nat} (hx : k < xs.length) (hy : k < ys.length) (h : xs.take k = ys.take k) : xs.take (k + 1) = ys.take (k + 1) ↔ xs[k] = ys[k] := by
  rw [take_next hx, take_next hy, h, List.append_cancel_left_eq]
  simp
set_option maxHeartbeats 2000000 in
theorem equal_any (p1 p2 : Option Addr) (n1 n2 c1 c2 : Nat) (xs ys : List Sec) (l1 : xs.length = n1) (l2 : ys.length = n2) (hn : n1 ≤ 1000) (w : World) (r1 : RK sc w p1 c1 xs) (r2 : RK sc w p2 c2 ys) :
    Calls Try.prog 74 #[.slice p1 n1 c1, .slice p2 n2 c2] w fun e w' => e = .returned (.bool (decide (xs = ys))) ∧ Below w.heap.size w w' := by
  by_cases hl : n1 = n2
  · subst hl
    have hneq := ne_secs
    have hgd := ne_guard
    go_enter Try.func74, Try.ntmps74
    go_wp2
    go_loopw [13] (fun i wr => ∃ k : Nat, k ≤ n1 ∧ i = .int .i64 k ∧ Hid (xs.take k = ys.take k) ∧ Below w.heap.size w wr) (fun i _ => n1 - (intOf i).toNat)
    case atStart => exact ⟨0, by omega, rfl, by unfold Hid; simp, Below.refl _ _⟩
    case round =>
      obtain ⟨k, hk, rfl, HK, hB⟩ := hrel
      by_cases hlt : k < n1
      · obtain ⟨x, hx⟩ : ∃ x, xs[k]? = some x := ⟨_, List.getElem?_eq_getElem (by omega)⟩
        obtain ⟨y, hy⟩ : ∃ y, ys[k]? = some y := ⟨_, List.getElem?_eq_getElem (by omega)⟩
        have HS : Hid (xs.take (k + 1) = ys.take (k + 1) ↔ x = y) := by
          have := same_next (xs := xs) (ys := ys) (k := k) (by omega) (by omega) HK.out
          rw [List.getElem?_eq_getElem (by omega)] at hx hy
          rw [← Option.some.inj hx, ← Option.some.inj hy]
          exact this
        obtain ⟨b1, o1, rfl, hlt1, hc1⟩ := r1.at sc_len hx
        obtain ⟨b2, o2, rfl, hlt2, hc2⟩ := r2.at sc_len hy
        have hr1 : ∀ {W : World}, Below w.heap.size w W → W.rangeAt b1 (o1 + k * 64) (sc x) := fun hB j v hv => (hB.cell (p := ⟨b1, o1 + k * 64 + j, none⟩) hlt1).trans (hc1 j v hv)
        have hr2 : ∀ {W : World}, Below w.heap.size w W → W.rangeAt b2 (o2 + k * 64) (sc y) := fun hB j v hv => (hB.cell (p := ⟨b2, o2 + k * 64 + j, none⟩) hlt2).trans (hc2 j v hv)
        clear hx hy hc1 hc2
        have hlt' : (k : Int) < (n1 : Int) := by omega
        go_wp2
        refine Inv.region_inv (fun L a w' => a = { tmps := #[(.slice (some ⟨b1, o1, none⟩) n1 c1), (.slice (some ⟨b2, o2, none⟩) n1 c2), undef, undef, u4, (.int .i64 (k : Int)), (.slice (some ⟨b1, o1, none⟩) n1 c1), (.int .i64 (n1 : Int)), (.slice (some ⟨b2, o2, none⟩) n1 c2), (.int .i64 (n1 : Int)), (.bool false), (.slice (some ⟨b1, o1, none⟩) n1 c1), (.int .i64 (n1 : Int)), (.int .i64 (k : Int)), (.bool true), (.int .i64 (k : Int)), (if L 0 = true then (.slice (some ⟨b1, o1, none⟩) n1 c1) else u16), (if L 1 = true then (.int .i64 (k : Int)) else u17), (if L 2 = true then (.pointer (some ⟨b1, o1 + k * 64, none⟩)) else u18), (if L 3 = true then (secv x) else u19), (if L 4 = true then (.slice (some ⟨b2, o2, none⟩) n1 c2) else u20), (if L 5 = true then (.int .i64 (k : Int)) else u21), (if L 6 = true then (.pointer (some ⟨b2, o2 + k * 64, none⟩)) else u22), (if L 7 = true then (secv y) else u23), (if L 8 = true then (.bool (!decide (x = y))) else u24), u25], defers := [] } ∧ (Below w.heap.size w w')) (by kernel_rfl) (by kernel_rfl) ?h0 ?step ?done
        case h0 => exact ⟨by simp, hB.drew⟩
        case step =>
          refine Inv.Steps.cons rfl ?_ ?_
          · intro L a w' hI hL hd K hK
            obtain ⟨rfl, hI⟩ := hI
            clear hd
            rw [if_pos (by rfl)]
            go_simp
            exact hK.out _ _ ⟨by simp, hI⟩
          refine Inv.Steps.cons rfl ?_ ?_
          · intro L a w' hI hL hd K hK
            obtain ⟨rfl, hI⟩ := hI
            clear hd
            rw [if_pos (by rfl)]
            go_simp
            exact hK.out _ _ ⟨by simp, hI⟩
          refine Inv.Steps.cons rfl ?_ ?_
          · intro L a w' hI hL hd K hK
            obtain ⟨rfl, hI⟩ := hI
            simp [Region.binds] at hd
            simp only [hd, if_true]
            rw [if_pos (by rfl)]
            go_simp
            exact hK.out _ _ ⟨by simp [hd], hI⟩
          refine Inv.Steps.cons rfl ?_ ?_
          · intro L a w' hI hL hd K hK
            obtain ⟨rfl, hI⟩ := hI
            simp [Region.binds] at hd
            simp only [hd, if_true]
            rw [if_pos (by rfl)]
            refine wp_load_sec _ _ _ _ (by rfl) (by rfl) (hr1 hI) ?_
            exact hK.out _ _ ⟨by simp [hd, Act.put], hI⟩
          refine Inv.Steps.cons rfl ?_ ?_
          · intro L a w' hI hL hd K hK
            obtain ⟨rfl, hI⟩ := hI
            clear hd
            rw [if_pos (by rfl)]
            go_simp
            exact hK.out _ _ ⟨by simp, hI⟩
          refine Inv.Steps.cons rfl ?_ ?_
          · intro L a w' hI hL hd K hK
            obtain ⟨rfl, hI⟩ := hI
            clear hd
            rw [if_pos (by rfl)]
            go_simp
            exact hK.out _ _ ⟨by simp, hI⟩
          refine Inv.Steps.cons rfl ?_ ?_
          · intro L a w' hI hL hd K hK
            obtain ⟨rfl, hI⟩ := hI
            simp [Region.binds] at hd
            simp only [hd, if_true]
            rw [if_pos (by rfl)]
            go_simp
            exact hK.out _ _ ⟨by simp [hd], hI⟩
          refine Inv.Steps.cons rfl ?_ ?_
          · intro L a w' hI hL hd K hK
            obtain ⟨rfl, hI⟩ := hI
            simp [Region.binds] at hd
            simp only [hd, if_true]
            rw [if_pos (by rfl)]
            refine wp_load_sec _ _ _ _ (by rfl) (by rfl) (hr2 hI) ?_
            exact hK.out _ _ ⟨by simp [hd, Act.put], hI⟩
          refine Inv.Steps.cons rfl ?_ ?_
          · intro L a w' hI hL hd K hK
            obtain ⟨rfl, hI⟩ := hI
            simp [Region.binds] at hd
            simp only [hd, if_true]
            rw [if_pos (by rfl)]
            go_simp
            exact hK.out _ _ ⟨by simp [hd], hI⟩
          exact Inv.Steps.nil (by decide)
        case done =>
          intro L a w' hI hall
          obtain ⟨rfl, hI⟩ := hI
          simp only [hall, if_true] at hI ⊢
          cases hd : decide (x = y) with
          | false =>
            have HNE : Hid (xs ≠ ys) := fun q => of_decide_eq_false hd (HS.out.1 (by rw [q]))
            clear hd
            go_wp2
            go_ret
            exact ⟨by rw [decide_eq_false HNE.out]; rfl, hI⟩
          | true =>
            have HN : Hid (xs.take (k + 1) = ys.take (k + 1)) := HS.out.2 (of_decide_eq_true hd)
            clear hd
            go_wp2
            go_roundw
            case rel => exact ⟨k + 1, by omega, by go_num, HN, hI⟩
            case measure => simp [intOf]; omega
      · have hkn : k = n1 := by omega
        have HE : Hid (xs = ys) := by
          have := HK.out
          rw [List.take_of_length_le (by omega), List.take_of_length_le (by omega)] at this
          exact this
        clear hkn
        go_wp2
        go_ret
        exact ⟨by rw [decide_eq_true HE.out]; rfl, hB⟩
  · have hne : xs ≠ ys := fun q => hl (by rw [← l1, ← l2, q])
    rw [decide_eq_false hne]
    have hb : ((n1 : Int) == (n2 : Int)) = false := by simp; omega
    have hb' : ((n1 : Int) != (n2 : Int)) = true := by simp; omega
    go_enter Try.func74, Try.ntmps74
    go_wp2
    go_ret
    exact ⟨rfl, Below.refl _ _⟩
set_option maxHeartbeats 2000000 in
theorem same_secs (p1 p2 : Option Addr) (n1 n2 c1 c2 : Nat) (xs ys : List Sec) (l1 : xs.length = n1) (l2 : ys.length = n2) (hn : n1 ≤ 1000) (w : World) (r1 : RK sc w p1 c1 xs) (r2 : RK sc w p2 c2 ys) :
    Calls Try.prog 78 #[.slice p1 n1 c1, .slice p2 n2 c2] w fun e w' => e = .returned (.bool (decide (xs = ys))) ∧ Below w.heap.size w w' := by
  by_cases hl : n1 = n2
  · subst hl
    have hneq := ne_secs
    have hgd := ne_guard
    go_enter Try.func78, Try.ntmps78
    go_wp2
    go_loopw [13] (fun i wr => ∃ k : Nat, k ≤ n1 ∧ i = .int .i64 k ∧ Hid (xs.take k = ys.take k) ∧ Below w.heap.size w wr) (fun i _ => n1 - (intOf i).toNat)
    case atStart => exact ⟨0, by omega, rfl, by unfold Hid; simp, Below.refl _ _⟩
    case round =>
      obtain ⟨k, hk, rfl, HK, hB⟩ := hrel
      by_cases hlt : k < n1
      · obtain ⟨x, hx⟩ : ∃ x, xs[k]? = some x := ⟨_, List.getElem?_eq_getElem (by omega)⟩
        obtain ⟨y, hy⟩ : ∃ y, ys[k]? = some y := ⟨_, List.getElem?_eq_getElem (by omega)⟩
        have HS : Hid (xs.take (k + 1) = ys.take (k + 1) ↔ x = y) := by
          have := same_next (xs := xs) (ys := ys) (k := k) (by omega) (by omega) HK.out
          rw [List.getElem?_eq_getElem (by omega)] at hx hy
          rw [← Option.some.inj hx, ← Option.some.inj hy]
          exact this
        obtain ⟨b1, o1, rfl, hlt1, hc1⟩ := r1.at sc_len hx
        obtain ⟨b2, o2, rfl, hlt2, hc2⟩ := r2.at sc_len hy
        have hr1 : ∀ {W : World}, Below w.heap.size w W → W.rangeAt b1 (o1 + k * 64) (sc x) := fun hB j v hv => (hB.cell (p := ⟨b1, o1 + k * 64 + j, none⟩) hlt1).trans (hc1 j v hv)
        have hr2 : ∀ {W : World}, Below w.heap.size w W → W.rangeAt b2 (o2 + k * 64) (sc y) := fun hB j v hv => (hB.cell (p := ⟨b2, o2 + k * 64 + j, none⟩) hlt2).trans (hc2 j v hv)
        clear hx hy hc1 hc2
        have hlt' : (k : Int) < (n1 : Int) := by omega
        go_wp2
        refine Inv.region_inv (fun L a w' => a = { tmps := #[(.slice (some ⟨b1, o1, none⟩) n1 c1), (.slice (some ⟨b2, o2, none⟩) n1 c2), undef, undef, u4, (.int .i64 (k : Int)), (.slice (some ⟨b1, o1, none⟩) n1 c1), (.int .i64 (n1 : Int)), (.slice (some ⟨b2, o2, none⟩) n1 c2), (.int .i64 (n1 : Int)), (.bool false), (.slice (some ⟨b1, o1, none⟩) n1 c1), (.int .i64 (n1 : Int)), (.int .i64 (k : Int)), (.bool true), (.int .i64 (k : Int)), (if L 0 = true then (.slice (some ⟨b1, o1, none⟩) n1 c1) else u16), (if L 1 = true then (.int .i64 (k : Int)) else u17), (if L 2 = true then (.pointer (some ⟨b1, o1 + k * 64, none⟩)) else u18), (if L 3 = true then (secv x) else u19), (if L 4 = true then (.slice (some ⟨b2, o2, none⟩) n1 c2) else u20), (if L 5 = true then (.int .i64 (k : Int)) else u21), (if L 6 = true then (.pointer (some ⟨b2, o2 + k * 64, none⟩)) else u22), (if L 7 = true then (secv y) else u23), (if L 8 = true then (.bool (!decide (x = y))) else u24), u25], defers := [] } ∧ (Below w.heap.size w w')) (by kernel_rfl) (by kernel_rfl) ?h0 ?step ?done
        case h0 => exact ⟨by simp, hB.drew⟩
        case step =>
          refine Inv.Steps.cons rfl ?_ ?_
          · intro L a w' hI hL hd K hK
            obtain ⟨rfl, hI⟩ := hI
            clear hd
            rw [if_pos (by rfl)]
            go_simp
            exact hK.out _ _ ⟨by simp, hI⟩
          refine Inv.Steps.cons rfl ?_ ?_
          · intro L a w' hI hL hd K hK
            obtain ⟨rfl, hI⟩ := hI
            clear hd
            rw [if_pos (by rfl)]
            go_simp
            exact hK.out _ _ ⟨by simp, hI⟩
          refine Inv.Steps.cons rfl ?_ ?_
          · intro L a w' hI hL hd K hK
            obtain ⟨rfl, hI⟩ := hI
            simp [Region.binds] at hd
            simp only [hd, if_true]
            rw [if_pos (by rfl)]
            go_simp
            exact hK.out _ _ ⟨by simp [hd], hI⟩
          refine Inv.Steps.cons rfl ?_ ?_
          · intro L a w' hI hL hd K hK
            obtain ⟨rfl, hI⟩ := hI
            simp [Region.binds] at hd
            simp only [hd, if_true]
            rw [if_pos (by rfl)]
            refine wp_load_sec _ _ _ _ (by rfl) (by rfl) (hr1 hI) ?_
            exact hK.out _ _ ⟨by simp [hd, Act.put], hI⟩
          refine Inv.Steps.cons rfl ?_ ?_
          · intro L a w' hI hL hd K hK
            obtain ⟨rfl, hI⟩ := hI
            clear hd
            rw [if_pos (by rfl)]
            go_simp
            exact hK.out _ _ ⟨by simp, hI⟩
          refine Inv.Steps.cons rfl ?_ ?_
          · intro L a w' hI hL hd K hK
            obtain ⟨rfl, hI⟩ := hI
            clear hd
            rw [if_pos (by rfl)]
            go_simp
            exact hK.out _ _ ⟨by simp, hI⟩
          refine Inv.Steps.cons rfl ?_ ?_
          · intro L a w' hI hL hd K hK
            obtain ⟨rfl, hI⟩ := hI
            simp [Region.binds] at hd
            simp only [hd, if_true]
            rw [if_pos (by rfl)]
            go_simp
            exact hK.out _ _ ⟨by simp [hd], hI⟩
          refine Inv.Steps.cons rfl ?_ ?_
          · intro L a w' hI hL hd K hK
            obtain ⟨rfl, hI⟩ := hI
            simp [Region.binds] at hd
            simp only [hd, if_true]
            rw [if_pos (by rfl)]
            refine wp_load_sec _ _ _ _ (by rfl) (by rfl) (hr2 hI) ?_
            exact hK.out _ _ ⟨by simp [hd, Act.put], hI⟩
          refine Inv.Steps.cons rfl ?_ ?_
          · intro L a w' hI hL hd K hK
            obtain ⟨rfl, hI⟩ := hI
            simp [Region.binds] at hd
            simp only [hd, if_true]
            rw [if_pos (by rfl)]
            go_simp
            exact hK.out _ _ ⟨by simp [hd], hI⟩
          exact Inv.Steps.nil (by decide)
        case done =>
          intro L a w' hI hall
          obtain ⟨rfl, hI⟩ := hI
          simp only [hall, if_true] at hI ⊢
          cases hd : decide (x = y) with
          | false =>
            have HNE : Hid (xs ≠ ys) := fun q => of_decide_eq_false hd (HS.out.1 (by rw [q]))
            clear hd
            go_wp2
            go_ret
            exact ⟨by rw [decide_eq_false HNE.out]; rfl, hI⟩
          | true =>
            have HN : Hid (xs.take (k + 1) = ys.take (k + 1)) := HS.out.2 (of_decide_eq_true hd)
            clear hd
            go_wp2
            go_roundw
            case rel => exact ⟨k + 1, by omega, by go_num, HN, hI⟩
            case measure => simp [intOf]; omega
      · have hkn : k = n1 := by omega
        have HE : Hid (xs = ys) := by
          have := HK.out
          rw [List.take_of_length_le (by omega), List.take_of_length_le (by omega)] at this
          exact this
        clear hkn
        go_wp2
        go_ret
        exact ⟨by rw [decide_eq_true HE.out]; rfl, hB⟩
  · have hne : xs ≠ ys := fun q => hl (by rw [← l1, ← l2, q])
    rw [decide_eq_false hne]
    have hb : ((n1 : Int) == (n2 : Int)) = false := by simp; omega
    have hb' : ((n1 : Int) != (n2 : Int)) = true := by simp; omega
    go_enter Try.func78, Try.ntmps78
    go_wp2
    go_ret
    exact ⟨rfl, Below.refl _ _⟩
end Go.Proofs.Ythgafnommcodcaa.Frame
