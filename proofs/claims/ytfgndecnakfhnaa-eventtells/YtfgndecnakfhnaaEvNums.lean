/-
  An event's numbers and bytes: event.nums, event.Bytes.
-/
import Derived.Test.YtfgndecnakfhnaaEvRight
import Derived.Test.YtfgndecnakfhnaaPolRefNums
import Derived.Test.YtfgndecnakfhnaaLebList
namespace Go.Proofs.Ytfgndecnakfhnaa.Event
open Go.RowKit Go.Proofs.Ytfgndecnakfhnaa.Mem Go.Proofs.Ytfgndecnakfhnaa.Policy
set_option maxRecDepth 100000

theorem lit_own {k : IntKind} {w : World} {B : Nat} {e : TypeId} (cs : Array Value) (zs : List Int) (n : Nat) (hcs : cs = (zs.map (Value.int k)).toArray) (hn : n = zs.length) (hl : zs.length ≤ 1000) (hB : B ≤ w.heap.size) :
    (w.alloc (.cells cs e)).ownsRow B e 1 (.slice (some ⟨w.heap.size, 0, none⟩) n n) zs.length (zs.map (Value.int k)) := by
  subst hcs hn
  have h := World.ownsRow_lit (base := B) (e := e) (size := 1) w (zs.map (Value.int k)).toArray zs.length hB (by unfold maxLen; omega) (by simp)
  simpa using h
set_option maxHeartbeats 2000000 in
/-- event.nums, of an event that is right. -/
theorem event_nums (h : Eh) (e : Ev) (w : World) (i : Is w h e) (oe : ∀ p ∈ e.ps, PoOk p) (hr : rightE e = true) :
    Calls Try.prog 20 #[ev h] w fun x w' => ∃ q c, x = .returned (.slice q (numsE e).length c) ∧ Reads .u64 w' q c (numsE e) ∧ Below w.heap.size w w' := by
  obtain ⟨i0, hi, hz0, hz1', hz2⟩ := info_u64
  rcases right_iff.1 hr with ⟨ps, ds, rfl, hc⟩ | ⟨s, g, rfl, h1, h2⟩ | ⟨t, rfl, h1⟩
  · obtain ⟨-, ht, h8, hdr, -⟩ := com_iff.1 hc
    have hp8 := ht.1
    have hpr := ht.2.1
    have hds : ∀ d ∈ ds, 1 ≤ d ∧ d ≤ 255 := fun d hd => subB_iff.1 (dropF_sub hdr d hd)
    obtain ⟨k', s', pp, pn, pc, dp, dn, dc, g', t'⟩ := h
    obtain ⟨⟨e1, e2, e3, e4⟩, ⟨l1, r1⟩, l2, r2⟩ := i
    simp only [commitE] at e1 e2 e3 e4 l1 r1 l2 r2 oe
    subst e1 e2 e3 e4
    have hP := fun {W : World} (hb : Below w.heap.size w W) => r1.below hb
    have hD := fun {W : World} (hb : Below w.heap.size w W) => r2.below hb
    clear ht hc hdr r1 r2 hr
    have hnum := fun W => event_number (dn : Int) ⟨by omega, by omega⟩ W
    have e1 : suint (dn : Int) = dn := by unfold suint; rw [if_neg (by omega)]
    rw [e1] at hnum
    clear e1
    have hN : Hid (numsE (commitE ps ds) = [1, (dn : Int)] ++ (ds ++ ps.flatMap numsL)) := by unfold Hid; rw [nums_commit, l2]; rfl
    go_enter Try.func20, Try.ntmps20
    go_wp2_with (first
      | ((fail_if_success (have _ := hX1)); (refine at_box_ev _ _ (by rfl) (by rfl) (by rfl) ?_); intro V1 hX1 hB1 hz1; have c1 := cells6 hX1; have c2 := cells6 (hX1.alloc (.cells #[.int .u64 1, .int .u64 (dn : Int)] 28)); simp only at c1 c2)
      | ((with_reducible refine (hnum _).mono ?_); rintro e w5 ⟨rfl, hw⟩; rw [hw]; clear hw))
    have hown0 := lit_own (k := .u64) (w := V1) (B := V1.heap.size) (e := 28) #[.int .u64 1, .int .u64 (dn : Int)] [1, (dn : Int)] 2 rfl rfl (by simp) (Nat.le_refl _)
    have hBa := bnew V1 (.cells #[.int .u64 1, .int .u64 (dn : Int)] 28)
    clear hnum c1 c2 hz1
    go_loopw [3, 31] (fun u j wr => ∃ k : Nat, k ≤ dn ∧ j = .int .i64 k ∧ wr.ownsRow V1.heap.size 28 1 u ([1, (dn : Int)] ++ ds.take k).length (([1, (dn : Int)] ++ ds.take k).map (Value.int .u64)) ∧ Below V1.heap.size V1 wr) (fun _ j _ => dn - (intOf j).toNat)
    case atStart => exact ⟨0, Nat.zero_le _, rfl, by simpa using hown0, hBa⟩
    case round =>
      obtain ⟨k, hk, rfl, hown, hnx⟩ := hrel
      clear hown0 hBa
      by_cases hlt : k < dn
      · have hlt3 : (k : Int) < (dn : Int) := by omega
        obtain ⟨x, hx⟩ : ∃ x, ds[k]? = some x := ⟨_, List.getElem?_eq_getElem (by omega)⟩
        obtain ⟨b, o, rfl, hb, hc⟩ := cell_at (hD (bnext hB1 hnx)) hx
        obtain ⟨x0, x1⟩ := hds x (List.mem_of_getElem? hx)
        have hnum := fun W => event_number x ⟨by omega, by omega⟩ W
        have e1 : suint x = x := by unfold suint; rw [if_neg (by omega)]
        rw [e1] at hnum
        have HT : Hid ([1, (dn : Int)] ++ ds.take (k + 1) = ([1, (dn : Int)] ++ ds.take k) ++ [x]) := by
          unfold Hid
          rw [List.take_succ_eq_append_getElem (by omega), List.append_assoc, show ds[k] = x from by rw [List.getElem?_eq_getElem (by omega)] at hx; exact Option.some.inj hx]
        have hlen : ([1, (dn : Int)] ++ ds.take k).length ≤ 100 := by simp; omega
        obtain ⟨ys, hys⟩ : ∃ ys, ys = [1, (dn : Int)] ++ ds.take k := ⟨_, rfl⟩
        rw [← hys] at hown HT hlen
        clear hx hys e1
        go_wp2_with (first
          | ((with_reducible refine (hnum _).mono ?_); rintro e w5 ⟨rfl, hw⟩; rw [hw]; clear hw)
          | (at_builtin; refine wpList_append_own _ rfl _ _ 43 rfl V1.heap.size 28 i0 (.int .u64 0) 1 8 Try.underlying43 hi hz0 hz1' hz2 rfl (by decide) _ _ _ rfl (hown.alloc _) ⟨wr.heap.size, 0, none⟩ 1 1 [.int .u64 x] rfl rfl one_cell one_one ?c3 ?c4 ?c5 ?_))
        case c3 => unfold maxLen; omega
        case c4 => omega
        case c5 => have := hnx.size; simp; omega
        · intro v' w1 hown' hgrow _
          have RR := grew (zs := [x]) (Nat.le_refl _) hnx hown hown' hgrow
          rw [← HT.out] at RR
          clear hown hown' hgrow
          go_wp2
          go_roundw
          case rel => exact ⟨k + 1, by omega, by go_num, RR.1, RR.2⟩
          case measure => simp [intOf]; omega
      · obtain rfl : k = dn := by omega
        have hdt : ds.take k = ds := List.take_of_length_le (by omega)
        rw [hdt] at hown
        have c3 := cells6 (hX1.below hnx)
        simp only at c3
        clear hdt hk hlt
        go_wp2
        go_loopw [3, 44] (fun u j ws => ∃ m : Nat, m ≤ pn ∧ j = .int .i64 m ∧ ws.ownsRow V1.heap.size 28 1 u (([1, (k : Int)] ++ ds) ++ (ps.take m).flatMap numsL).length ((([1, (k : Int)] ++ ds) ++ (ps.take m).flatMap numsL).map (Value.int .u64)) ∧ Below V1.heap.size V1 ws) (fun _ j _ => pn - (intOf j).toNat)
        case atStart => exact ⟨0, Nat.zero_le _, rfl, by simpa using hown, hnx⟩
        case round =>
          obtain ⟨m, hm, rfl, hown, hnx⟩ := hrel
          clear c3
          by_cases hlt : m < pn
          · have hlt3 : (m : Int) < (pn : Int) := by omega
            obtain ⟨x, hx⟩ : ∃ x, ps[m]? = some x := ⟨_, List.getElem?_eq_getElem (by omega)⟩
            have hok := oe x (List.mem_of_getElem? hx)
            have hrx := hpr x (List.mem_of_getElem? hx)
            obtain ⟨b, o, rfl, hb, hc⟩ := row_at (hP (bnext hB1 hnx)) hx
            have hnum := fun W => policy_Nums x hok W
            have e1 : numsP x = numsL x := by unfold numsP; rw [hrx]; rfl
            rw [e1] at hnum
            have HT : Hid (([1, (k : Int)] ++ ds) ++ (ps.take (m + 1)).flatMap numsL = (([1, (k : Int)] ++ ds) ++ (ps.take m).flatMap numsL) ++ numsL x) := by
              unfold Hid
              rw [List.take_succ_eq_append_getElem (by omega), List.flatMap_append, ← List.append_assoc, show ps[m] = x from by rw [List.getElem?_eq_getElem (by omega)] at hx; exact Option.some.inj hx]
              simp
            have hlen : (([1, (k : Int)] ++ ds) ++ (ps.take m).flatMap numsL).length ≤ 200 := by
              rw [List.length_append, flat_len, List.length_take]
              simp
              omega
            have hl10 := Policy.nums_len x
            obtain ⟨ys, hys⟩ : ∃ ys, ys = ([1, (k : Int)] ++ ds) ++ (ps.take m).flatMap numsL := ⟨_, rfl⟩
            obtain ⟨zs, hzs⟩ : ∃ zs, zs = numsL x := ⟨_, rfl⟩
            rw [← hys] at hown HT hlen
            rw [← hzs] at hnum hl10 HT
            clear hx hys e1 hzs hrx hok
            go_wp2_with (first
              | ((fail_if_success (have _ := hZ1)); (refine at_load_pr _ _ _ _ (by rfl) (by rfl) hc (by rfl) ?_))
              | ((fail_if_success (have _ := hZ1)); (refine at_alloc_po (by rfl) (by rfl) ?_); intro U1 hZ1 hC1 hy1)
              | ((fail_if_success (have _ := hZ2)); (have _ := hZ1); (refine at_store_po _ _ _ _ _ (by rfl) (by rfl) (by rfl) hZ1 rfl (by rfl) ?_); intro U2 hZ2 hg2 hy2; have hC2 := hC1.grown hg2 hC1.size (by simp))
              | ((fail_if_success (have _ := hB6)); (have _ := hZ2); (refine at_load_po _ _ _ (by rfl) (by rfl) hZ2 (by rfl) ?_))
              | ((fail_if_success (have _ := hB6)); (have _ := hZ2); (with_reducible refine (hnum _).mono ?_); rintro e w6 ⟨q6, c6, rfl, r6, hB6, -⟩; have hB26 := bnext hC2 hB6)
              | (at_builtin; (have _ := hB6); refine wpList_append_reads _ rfl _ _ 43 rfl V1.heap.size 28 i0 (.int .u64 0) 8 .u64 Try.underlying43 hi hz0 hz1' hz2 rfl u3 ys.length (ys.map (Value.int .u64)) rfl (own_below hown hB26) q6 10 c6 zs rfl hl10 r6 ?c3 ?c4 ?c5 ?_))
            case c3 => unfold maxLen; omega
            case c4 => omega
            case c5 => have := hnx.size; have := hB26.size; omega
            · intro v' w1 hown' hgrow
              have RR := grew0 (zs := zs) (Nat.le_refl _) (bnext hnx hB26) (own_below hown hB26) hown' hgrow
              rw [← HT.out] at RR
              clear hown hown' hgrow
              go_wp2
              go_roundw
              case rel => exact ⟨m + 1, by omega, by go_num, RR.1, RR.2⟩
              case measure => simp [intOf]; omega
          · obtain rfl : m = pn := by omega
            have hdt : ps.take m = ps := List.take_of_length_le (by omega)
            rw [hdt, List.append_assoc, ← hN.out] at hown
            obtain ⟨-, q, c, hv, hrd⟩ := own_reads hown
            subst hv
            clear hown hdt
            go_wp2
            go_ret
            exact ⟨q, c, rfl, hrd, bnext hB1 hnx⟩
  · have hsb := subB_iff.1 h1
    obtain ⟨k', s', pp, pn, pc, dp, dn, dc, g', t'⟩ := h
    obtain ⟨⟨e1, e2, e3, e4⟩, -, -⟩ := i
    simp only [leaseE] at e1 e2 e3 e4
    subst e1 e2 e3 e4
    have hnum := fun W => event_number s' ⟨by omega, by omega⟩ W
    have e1 : suint s' = s' := by unfold suint; rw [if_neg (by omega)]
    rw [e1] at hnum
    clear e1 hr h1 h2
    go_enter Try.func20, Try.ntmps20
    go_wp2_with (first
      | ((fail_if_success (have _ := hX1)); (refine at_box_ev _ _ (by rfl) (by rfl) (by rfl) ?_); intro V1 hX1 hB1 hz1; have c1 := cells6 hX1; simp only at c1))
    have c2 := cells6 hX1.drew
    simp only at c2
    have hS0 : Below w.heap.size w V1.drew := hB1.drew
    go_region_held (fun W => Below w.heap.size w W ∧ ∀ i, W.cell? ⟨w.heap.size, i, none⟩ = [Value.int .i64 2, .int .i64 s', .slice pp pn pc, .slice dp dn dc, .int .u64 g', .int .u64 0][i]?)
      (first | exact ⟨hS0, c2⟩ | exact ⟨hS0.alloc hB1.size _, cells6 (hX1.drew.alloc _)⟩)
      (((with_reducible refine (hnum _).mono ?_); rintro e w6 ⟨rfl, hw⟩; rw [hw]; clear hw))
    go_wp2
    go_ret
    have hR := Blk.reads (k := .u64) (zs := numsE (leaseE s' g')) (Blk.new V1.drew #[.int .u64 2, .int .u64 s', .int .u64 g'] 28) (by simp [nums_lease])
    exact ⟨_, _, rfl, hR, hS0.alloc hB1.size _⟩
  · obtain ⟨k', s', pp, pn, pc, dp, dn, dc, g', t'⟩ := h
    obtain ⟨⟨e1, e2, e3, e4⟩, -, -⟩ := i
    simp only [periodE] at e1 e2 e3 e4
    subst e1 e2 e3 e4
    clear hr h1
    go_enter Try.func20, Try.ntmps20
    go_wp2_with (first
      | ((fail_if_success (have _ := hX1)); (refine at_box_ev _ _ (by rfl) (by rfl) (by rfl) ?_); intro V1 hX1 hB1 hz1; have c1 := cells6 hX1; simp only at c1))
    go_ret
    have hR := Blk.reads (k := .u64) (zs := numsE (periodE t')) (Blk.new V1 #[.int .u64 3, .int .u64 t'] 28) (by simp [nums_period])
    exact ⟨_, _, rfl, hR, bnext hB1 (bnew _ _)⟩

/-- event.Bytes. -/
theorem event_Bytes (h : Eh) (e : Ev) (w : World) (i : Is w h e) (oe : ∀ p ∈ e.ps, PoOk p) (np : h.pn ≤ 1000) (nd : h.dn ≤ 1000) :
    Calls Try.prog 9 #[ev h] w fun x w' => ∃ q c, x = .returned (.tuple #[.slice q (bytesE e).length c, .int .i64 (errE e)]) ∧ Reads .u8 w' q c (bytesE e) ∧ Below w.heap.size w w' := by
  have hR := fun {W : World} (hb : Below w.heap.size w W) => event_Right h e W (i.below hb) oe np nd
  cases hr : rightE e with
  | false =>
    have e1 : bytesE e = [] := by unfold bytesE; rw [hr]; rfl
    have e2 : errE e = 121 := by unfold errE; rw [hr]; rfl
    rw [e1, e2]
    rw [hr] at hR
    clear e1 e2
    go_enter Try.func9, Try.ntmps9
    go_wp2_with (first
      | ((fail_if_success (have _ := hX1)); (refine at_box_ev _ _ (by rfl) (by rfl) (by rfl) ?_); intro V1 hX1 hB1 hz1)
      | ((have _ := hX1); (refine at_load_ev _ _ _ (by rfl) (by rfl) hX1 (by rfl) ?_))
      | ((with_reducible refine (hR hB1).mono ?_); rintro e w2 ⟨rfl, hB2⟩))
    go_ret2
    exact ⟨none, 0, rfl, Reads.nil _ _, bnext hB1 hB2⟩
  | true =>
    have e1 : bytesE e = Leb.nums (numsE e) := by unfold bytesE; rw [hr]; rfl
    have e2 : errE e = 0 := by unfold errE; rw [hr]; rfl
    rw [e1, e2]
    have hN := fun {W : World} (hb : Below w.heap.size w W) => event_nums h e W (i.below hb) oe hr
    have hwd := right_words hr oe
    have hln := right_len hr
    rw [hr] at hR
    obtain ⟨l, hl⟩ : ∃ l, l = numsE e := ⟨_, rfl⟩
    rw [← hl] at hN hwd hln ⊢
    clear e1 e2 hl hr i oe np nd
    have hL := fun {W : World} {q c} (r : Reads .u64 W q c l) => Leb.nums_any q l.length c l rfl (by omega) hwd W r
    go_enter Try.func9, Try.ntmps9
    go_wp2_with (first
      | ((fail_if_success (have _ := hX1)); (refine at_box_ev _ _ (by rfl) (by rfl) (by rfl) ?_); intro V1 hX1 hB1 hz1)
      | ((fail_if_success (have _ := hX2)); (have _ := hX1); (refine at_load_ev _ _ _ (by rfl) (by rfl) hX1 (by rfl) ?_))
      | ((have _ := hX2); (refine at_load_ev _ _ _ (by rfl) (by rfl) hX2 (by rfl) ?_))
      | ((with_reducible refine (hR hB1).mono ?_); rintro e w2 ⟨rfl, hB2⟩; have hX2 := hX1.below hB2; have hB12 := bnext hB1 hB2)
      | ((have _ := hX2); (with_reducible refine (hN hB12).mono ?_); rintro e w3 ⟨q3, c3, rfl, r3, hB3⟩; have hB13 := bnext hB12 hB3)
      | ((have _ := hB13); (with_reducible refine (hL r3).mono ?_); rintro e w4 ⟨q4, c4, rfl, r4, hB4⟩))
    go_ret2
    exact ⟨q4, c4, rfl, r4, bnext hB13 hB4⟩
end Go.Proofs.Ytfgndecnakfhnaa.Event
