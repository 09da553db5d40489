/-
  An event's bytes, in the document's words: floodgateref12.Bytes.
-/
import Derived.Test.YtfgndecnakfhnaaEvRefRight
import Derived.Test.YtfgndecnakfhnaaEvNums
import Derived.Test.YtfgndecnakfhnaaLebRefList
namespace Go.Proofs.Ytfgndecnakfhnaa.Event
open Go.RowKit Go.Proofs.Ytfgndecnakfhnaa.Mem Go.Proofs.Ytfgndecnakfhnaa.Policy
set_option maxRecDepth 100000

set_option maxHeartbeats 2000000 in
theorem ref_BytesE (h : Eh) (e : Ev) (w : World) (i : Is w h e) (oe : ∀ p ∈ e.ps, PoOk p) (np : h.pn ≤ 1000) (nd : h.dn ≤ 1000) :
    Calls Try.prog 13 #[ev h] w fun x w' => ∃ q c, x = .returned (.tuple #[.slice q (bytesE e).length c, .int .i64 (errE e)]) ∧ Reads .u8 w' q c (bytesE e) ∧ Below w.heap.size w w' := by
  have hR := fun {W : World} (hb : Below w.heap.size w W) => ref_RightE h e W (i.below hb) oe np nd
  cases hr : rightE e with
  | false =>
    have e1 : bytesE e = [] := by unfold bytesE; rw [hr]; rfl
    have e2 : errE e = 121 := by unfold errE; rw [hr]; rfl
    rw [e1, e2]
    rw [hr] at hR
    clear e1 e2
    go_enter Try.func13, Try.ntmps13
    go_wp2_with (first
      | ((fail_if_success (have _ := hX1)); (refine at_box_ev _ _ (by rfl) (by rfl) (by rfl) ?_); intro V1 hX1 hB1 hz1)
      | ((have _ := hX1); (refine at_load_ev _ _ _ (by rfl) (by rfl) hX1 (by rfl) ?_))
      | ((with_reducible refine (hR hB1).mono ?_); rintro e w2 ⟨rfl, hB2⟩))
    go_ret2
    exact ⟨none, 0, rfl, Reads.nil _ _, bnext hB1 hB2⟩
  | true =>
    have e1 : bytesE e = Leb.nums (numsE e) := by unfold bytesE; rw [hr]; rfl
    have e2 : errE e = 0 := by unfold errE; rw [hr]; rfl
    rw [e1, e2]
    rw [hr] at hR
    have hwd := right_words hr oe
    have hln := right_len hr
    obtain ⟨l, hl⟩ : ∃ l, l = numsE e := ⟨_, rfl⟩
    rw [← hl] at hwd hln ⊢
    have hL := fun {W : World} {q c} {m : Nat} (hm : l.length = m) (r : Reads .u64 W q c l) => Leb.refNums_any q m c l hm (by omega) hwd W r
    have HL : Hid (l = numsE e) := hl
    clear e1 e2 hl
    obtain ⟨i0, hi, hz0, hz1', hz2⟩ := info_u64
    rcases right_iff.1 hr with ⟨ps, ds, rfl, hc⟩ | ⟨s, g, rfl, h1, h2⟩ | ⟨t, rfl, h1⟩
    · obtain ⟨-, ht, h8, hdr, -⟩ := com_iff.1 hc
      have hp8 := ht.1
      have hpr := ht.2.1
      have hds : ∀ d ∈ ds, 1 ≤ d ∧ d ≤ 255 := fun d hd => subB_iff.1 (dropF_sub hdr d hd)
      obtain ⟨k', s', pp, pn, pc, dp, dn, dc, g', t'⟩ := h
      obtain ⟨⟨e1, e2, e3, e4⟩, ⟨l1, r1⟩, l2, r2⟩ := i
      simp only [commitE] at e1 e2 e3 e4 l1 r1 l2 r2 oe
      subst e1 e2 e3 e4
      have hP := fun {W : World} (hb : Below w.heap.size w W) => r1.below hb
      have hD := fun {W : World} (hb : Below w.heap.size w W) => r2.below hb
      clear ht hc hdr r1 r2 hr np nd
      have hN : Hid (l = [1, (dn : Int)] ++ (ds ++ ps.flatMap numsL)) := by unfold Hid; rw [HL.out, nums_commit, l2]; rfl
      have hwn : IntKind.u64.wrap (dn : Int) = dn := by rw [IntKind.wrap_u64]; omega
      go_enter Try.func13, Try.ntmps13
      go_wp2_with (first
        | ((fail_if_success (have _ := hX1)); (refine at_box_ev _ _ (by rfl) (by rfl) (by rfl) ?_); intro V1 hX1 hB1 hz1)
        | ((fail_if_success (have _ := hX2)); (have _ := hX1); (refine at_load_ev _ _ _ (by rfl) (by rfl) hX1 (by rfl) ?_))
        | ((fail_if_success (have _ := hX2)); (have _ := hX1); (with_reducible refine (hR hB1).mono ?_); rintro e w2 ⟨rfl, hB2⟩; have hX2 := hX1.below hB2; have hB12 := bnext hB1 hB2; have c2 := cells6 hX2; have hA1 := hX2.alloc (.cells #[.int .u64 1] 28); have hA2 := hA1.alloc (.cells #[.int .u64 (dn : Int)] 28); have c3 := cells6 hA1; have c4 := cells6 hA2; simp only at c2 c3 c4; have hown1 := lit_own (k := .u64) (w := w2) (B := w2.heap.size) (e := 28) #[.int .u64 1] [1] 1 rfl rfl (by simp) (Nat.le_refl _))
        | (at_builtin; refine wpList_append_own _ rfl _ _ 43 rfl w2.heap.size 28 i0 (.int .u64 0) 1 8 Try.underlying43 hi hz0 hz1' hz2 rfl (by decide) _ _ _ rfl (hown1.alloc _) ⟨w2.heap.size + 1, 0, none⟩ 1 1 [.int .u64 (dn : Int)] rfl rfl (by intro j u hj; match j, hj with | 0, hj => simp at hj; subst hj; simp [Addr.add]) one_one ?c3 ?c4 ?c5 ?_))
      case c3 => simp [maxLen]
      case c4 => simp
      case c5 => simp; omega
      · intro v' w3 hown3 hgrow _
        have hB23 : Below w2.heap.size w2 w3 := ((bnew w2 (.cells #[.int .u64 1] 28)).alloc (by simp) (.cells #[.int .u64 (dn : Int)] 28)).grown hgrow (by simp; omega) (fun j hj => by simp [Value.ownBlock] at hj; omega)
        have hX3 := hX2.below hB23
        have c5 := cells6 hX3
        simp only at c5
        clear hown1 hgrow c2 c3 c4 hA1 hA2 hX1 hwn
        go_wp2
        go_loopw [4, 48] (fun u j wr => ∃ k : Nat, k ≤ dn ∧ j = .int .i64 k ∧ wr.ownsRow w2.heap.size 28 1 u ([1, (dn : Int)] ++ ds.take k).length (([1, (dn : Int)] ++ ds.take k).map (Value.int .u64)) ∧ Below w2.heap.size w2 wr) (fun _ j _ => dn - (intOf j).toNat)
        case atStart => exact ⟨0, Nat.zero_le _, rfl, by simpa using hown3, hB23⟩
        case round =>
          obtain ⟨k, hk, rfl, hown, hnx⟩ := hrel
          clear hown3 hB23 hX3 c5
          by_cases hlt : k < dn
          · have hlt3 : (k : Int) < (dn : Int) := by omega
            obtain ⟨x, hx⟩ : ∃ x, ds[k]? = some x := ⟨_, List.getElem?_eq_getElem (by omega)⟩
            obtain ⟨b, o, rfl, hb, hc⟩ := cell_at (hD (bnext hB12 hnx)) hx
            obtain ⟨x0, x1⟩ := hds x (List.mem_of_getElem? hx)
            have hwx : IntKind.u64.wrap x = x := by rw [IntKind.wrap_u64]; omega
            have HT : Hid ([1, (dn : Int)] ++ ds.take (k + 1) = ([1, (dn : Int)] ++ ds.take k) ++ [x]) := by
              unfold Hid
              rw [List.take_succ_eq_append_getElem (by omega), List.append_assoc, show ds[k] = x from by rw [List.getElem?_eq_getElem (by omega)] at hx; exact Option.some.inj hx]
            have hlen : ([1, (dn : Int)] ++ ds.take k).length ≤ 100 := by simp; omega
            obtain ⟨ys, hys⟩ : ∃ ys, ys = [1, (dn : Int)] ++ ds.take k := ⟨_, rfl⟩
            rw [← hys] at hown HT hlen
            clear hx hys
            go_wp2_with (at_builtin; refine wpList_append_own _ rfl _ _ 43 rfl w2.heap.size 28 i0 (.int .u64 0) 1 8 Try.underlying43 hi hz0 hz1' hz2 rfl (by decide) _ _ _ rfl (hown.alloc _) ⟨wr.heap.size, 0, none⟩ 1 1 [.int .u64 x] rfl rfl one_cell one_one ?c3 ?c4 ?c5 ?_)
            case c3 => unfold maxLen; omega
            case c4 => omega
            case c5 => have := hnx.size; simp; omega
            · intro v' w1 hown' hgrow _
              have RR := grew (zs := [x]) (Nat.le_refl _) hnx hown hown' hgrow
              rw [← HT.out] at RR
              clear hown hown' hgrow hwx
              go_wp2
              go_roundw
              case rel => exact ⟨k + 1, by omega, by go_num, RR.1, RR.2⟩
              case measure => simp [intOf]; omega
          · obtain rfl : k = dn := by omega
            have hdt : ds.take k = ds := List.take_of_length_le (by omega)
            rw [hdt] at hown
            have c5 := cells6 (hX2.below hnx)
            simp only at c5
            clear hdt hk hlt
            go_wp2
            go_loopw [4, 61] (fun u j ws => ∃ m : Nat, m ≤ pn ∧ j = .int .i64 m ∧ ws.ownsRow w2.heap.size 28 1 u (([1, (k : Int)] ++ ds) ++ (ps.take m).flatMap numsL).length ((([1, (k : Int)] ++ ds) ++ (ps.take m).flatMap numsL).map (Value.int .u64)) ∧ Below w2.heap.size w2 ws) (fun _ j _ => pn - (intOf j).toNat)
            case atStart => exact ⟨0, Nat.zero_le _, rfl, by simpa using hown, hnx⟩
            case round =>
              obtain ⟨m, hm, rfl, hown, hnx⟩ := hrel
              clear c5
              by_cases hlt : m < pn
              · have hlt3 : (m : Int) < (pn : Int) := by omega
                obtain ⟨x, hx⟩ : ∃ x, ps[m]? = some x := ⟨_, List.getElem?_eq_getElem (by omega)⟩
                have hok := oe x (List.mem_of_getElem? hx)
                have hrx := hpr x (List.mem_of_getElem? hx)
                obtain ⟨b, o, rfl, hb, hc⟩ := row_at (hP (bnext hB12 hnx)) hx
                have hnum := fun W => ref_Nums x hok W
                have e1 : numsP x = numsL x := by unfold numsP; rw [hrx]; rfl
                rw [e1] at hnum
                have HT : Hid (([1, (k : Int)] ++ ds) ++ (ps.take (m + 1)).flatMap numsL = (([1, (k : Int)] ++ ds) ++ (ps.take m).flatMap numsL) ++ numsL x) := by
                  unfold Hid
                  rw [List.take_succ_eq_append_getElem (by omega), List.flatMap_append, ← List.append_assoc, show ps[m] = x from by rw [List.getElem?_eq_getElem (by omega)] at hx; exact Option.some.inj hx]
                  simp
                have hlen : (([1, (k : Int)] ++ ds) ++ (ps.take m).flatMap numsL).length ≤ 200 := by
                  rw [List.length_append, flat_len, List.length_take]
                  simp
                  omega
                have hl10 := Policy.nums_len x
                obtain ⟨ys, hys⟩ : ∃ ys, ys = ([1, (k : Int)] ++ ds) ++ (ps.take m).flatMap numsL := ⟨_, rfl⟩
                obtain ⟨zs, hzs⟩ : ∃ zs, zs = numsL x := ⟨_, rfl⟩
                rw [← hys] at hown HT hlen
                rw [← hzs] at hnum hl10 HT
                clear hx hys e1 hzs hrx hok
                go_wp2_with (first
                  | ((fail_if_success (have _ := hZ1)); (refine at_load_pr _ _ _ _ (by rfl) (by rfl) hc (by rfl) ?_))
                  | ((fail_if_success (have _ := hZ1)); (refine at_alloc_po (by rfl) (by rfl) ?_); intro U1 hZ1 hC1 hy1)
                  | ((fail_if_success (have _ := hZ2)); (have _ := hZ1); (refine at_store_po _ _ _ _ _ (by rfl) (by rfl) (by rfl) hZ1 rfl (by rfl) ?_); intro U2 hZ2 hg2 hy2; have hC2 := hC1.grown hg2 hC1.size (by simp))
                  | ((fail_if_success (have _ := hB6)); (have _ := hZ2); (refine at_load_po _ _ _ (by rfl) (by rfl) hZ2 (by rfl) ?_))
                  | ((fail_if_success (have _ := hB6)); (have _ := hZ2); (with_reducible refine (hnum _).mono ?_); rintro e w6 ⟨q6, c6, rfl, r6, hB6, -⟩; have hB26 := bnext hC2 hB6)
                  | (at_builtin; (have _ := hB6); refine wpList_append_reads _ rfl _ _ 43 rfl w2.heap.size 28 i0 (.int .u64 0) 8 .u64 Try.underlying43 hi hz0 hz1' hz2 rfl u4 ys.length (ys.map (Value.int .u64)) rfl (own_below hown hB26) q6 10 c6 zs rfl hl10 r6 ?c3 ?c4 ?c5 ?_))
                case c3 => unfold maxLen; omega
                case c4 => omega
                case c5 => have := hnx.size; have := hB26.size; omega
                · intro v' w1 hown' hgrow
                  rw [show ys.length + 10 = ys.length + zs.length by omega] at hown'
                  have RR := grew0 (zs := zs) (Nat.le_refl _) (bnext hnx hB26) (own_below hown hB26) hown' hgrow
                  rw [← HT.out] at RR
                  clear hown hown' hgrow
                  go_wp2
                  go_roundw
                  case rel => exact ⟨m + 1, by omega, by go_num, RR.1, RR.2⟩
                  case measure => simp [intOf]; omega
              · obtain rfl : m = pn := by omega
                have hdt : ps.take m = ps := List.take_of_length_le (by omega)
                rw [hdt, List.append_assoc, ← hN.out] at hown
                obtain ⟨-, q, c, hv, hrd⟩ := own_reads hown
                subst hv
                have hLL := hL rfl hrd
                clear hown hdt
                go_wp2_with ((with_reducible refine hLL.mono ?_); rintro e w7 ⟨q7, c7, rfl, r7, hB7⟩)
                go_ret2
                exact ⟨q7, c7, rfl, r7, bnext (bnext hB12 hnx) hB7⟩
    · have hsb := subB_iff.1 h1
      obtain ⟨k', s', pp, pn, pc, dp, dn, dc, g', t'⟩ := h
      obtain ⟨⟨e1, e2, e3, e4⟩, -, -⟩ := i
      simp only [leaseE] at e1 e2 e3 e4
      subst e1 e2 e3 e4
      have hws : IntKind.u64.wrap s' = s' := by rw [IntKind.wrap_u64]; omega
      have hN : Hid (l = [2, s', g']) := HL
      clear h1 h2 hr np nd hsb
      go_enter Try.func13, Try.ntmps13
      go_wp2_with (first
        | ((fail_if_success (have _ := hX1)); (refine at_box_ev _ _ (by rfl) (by rfl) (by rfl) ?_); intro V1 hX1 hB1 hz1)
        | ((fail_if_success (have _ := hX2)); (have _ := hX1); (refine at_load_ev _ _ _ (by rfl) (by rfl) hX1 (by rfl) ?_))
        | ((fail_if_success (have _ := hX2)); (have _ := hX1); (with_reducible refine (hR hB1).mono ?_); rintro e w2 ⟨rfl, hB2⟩; have hX2 := hX1.below hB2; have hB12 := bnext hB1 hB2; have c2 := cells6 hX2; have hA1 := hX2.alloc (.cells #[.int .u64 2] 28); have c3 := cells6 hA1; simp only at c2 c3; have hown1 := lit_own (k := .u64) (w := w2) (B := w2.heap.size) (e := 28) #[.int .u64 2] [2] 1 rfl rfl (by simp) (Nat.le_refl _))
        | (at_builtin; refine wpList_append_own _ rfl _ _ 43 rfl w2.heap.size 28 i0 (.int .u64 0) 1 8 Try.underlying43 hi hz0 hz1' hz2 rfl (by decide) _ _ _ rfl (hown1.alloc _) ⟨w2.heap.size + 1, 0, none⟩ 2 2 [.int .u64 s', .int .u64 g'] rfl rfl (by intro j u hj; match j, hj with | 0, hj => simp at hj; subst hj; simp [Addr.add] | 1, hj => simp at hj; subst hj; simp [Addr.add]) (by intro u hu; simp at hu; rcases hu with rfl | rfl <;> rfl) ?c3 ?c4 ?c5 ?_))
      case c3 => simp [maxLen]
      case c4 => simp
      case c5 => simp; omega
      · intro v' w3 hown3 hgrow _
        have hB23 : Below w2.heap.size w2 w3 := ((bnew w2 (.cells #[.int .u64 2] 28)).alloc (by simp) (.cells #[.int .u64 s', .int .u64 g'] 28)).grown hgrow (by simp; omega) (fun j hj => by simp [Value.ownBlock] at hj; omega)
        have hX3 := hX2.below hB23
        have c5 := cells6 hX3
        simp only at c5
        have hown4 : w3.ownsRow w2.heap.size 28 1 v' l.length (l.map (Value.int .u64)) := by rw [hN.out]; simpa using hown3
        obtain ⟨-, q, c, hv, hrd⟩ := own_reads hown4
        subst hv
        have hLL := hL rfl hrd
        clear hown1 hgrow c2 c3 hA1 hX1 hws hown3 hown4
        go_wp2_with ((with_reducible refine hLL.mono ?_); rintro e w7 ⟨q7, c7, rfl, r7, hB7⟩)
        go_ret2
        exact ⟨q7, c7, rfl, r7, bnext (bnext hB12 hB23) hB7⟩
    · obtain ⟨k', s', pp, pn, pc, dp, dn, dc, g', t'⟩ := h
      obtain ⟨⟨e1, e2, e3, e4⟩, -, -⟩ := i
      simp only [periodE] at e1 e2 e3 e4
      subst e1 e2 e3 e4
      have hN : Hid (l = [3, t']) := HL
      clear h1 hr np nd
      go_enter Try.func13, Try.ntmps13
      go_wp2_with (first
        | ((fail_if_success (have _ := hX1)); (refine at_box_ev _ _ (by rfl) (by rfl) (by rfl) ?_); intro V1 hX1 hB1 hz1)
        | ((fail_if_success (have _ := hX2)); (have _ := hX1); (refine at_load_ev _ _ _ (by rfl) (by rfl) hX1 (by rfl) ?_))
        | ((fail_if_success (have _ := hX2)); (have _ := hX1); (with_reducible refine (hR hB1).mono ?_); rintro e w2 ⟨rfl, hB2⟩; have hX2 := hX1.below hB2; have hB12 := bnext hB1 hB2; have c2 := cells6 hX2; have hA1 := hX2.alloc (.cells #[.int .u64 3] 28); have c3 := cells6 hA1; simp only at c2 c3; have hown1 := lit_own (k := .u64) (w := w2) (B := w2.heap.size) (e := 28) #[.int .u64 3] [3] 1 rfl rfl (by simp) (Nat.le_refl _))
        | (at_builtin; refine wpList_append_own _ rfl _ _ 43 rfl w2.heap.size 28 i0 (.int .u64 0) 1 8 Try.underlying43 hi hz0 hz1' hz2 rfl (by decide) _ _ _ rfl (hown1.alloc _) ⟨w2.heap.size + 1, 0, none⟩ 1 1 [.int .u64 t'] rfl rfl (by intro j u hj; match j, hj with | 0, hj => simp at hj; subst hj; simp [Addr.add]) one_one ?c3 ?c4 ?c5 ?_))
      case c3 => simp [maxLen]
      case c4 => simp
      case c5 => simp; omega
      · intro v' w3 hown3 hgrow _
        have hB23 : Below w2.heap.size w2 w3 := ((bnew w2 (.cells #[.int .u64 3] 28)).alloc (by simp) (.cells #[.int .u64 t'] 28)).grown hgrow (by simp; omega) (fun j hj => by simp [Value.ownBlock] at hj; omega)
        have hX3 := hX2.below hB23
        have c5 := cells6 hX3
        simp only at c5
        have hown4 : w3.ownsRow w2.heap.size 28 1 v' l.length (l.map (Value.int .u64)) := by rw [hN.out]; simpa using hown3
        obtain ⟨-, q, c, hv, hrd⟩ := own_reads hown4
        subst hv
        have hLL := hL rfl hrd
        clear hown1 hgrow c2 c3 hA1 hX1 hown3 hown4
        go_wp2_with ((with_reducible refine hLL.mono ?_); rintro e w7 ⟨q7, c7, rfl, r7, hB7⟩)
        go_ret2
        exact ⟨q7, c7, rfl, r7, bnext (bnext hB12 hB23) hB7⟩
end Go.Proofs.Ytfgndecnakfhnaa.Event
