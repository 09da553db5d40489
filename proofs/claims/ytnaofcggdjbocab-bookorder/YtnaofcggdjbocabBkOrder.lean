/-
  The walk of BookOrder. (Written by gen_bkorder.py.)
-/
import Derived.Test.YtnaofcggdjbocabBkAlive
import Derived.Test.YtnaofcggdjbocabBkOne
import Derived.Test.YtnaofcggdjbocabBkSame
import Derived.Test.YtnaofcggdjbocabBkOrderPlain
import Derived.Test.YtnaofcggdjbocabBkOkPlain
namespace Go.Proofs.Ytnaofcggdjbocab.Book
open Go.RowKit Go.Proofs.Ytnaofcggdjbocab.Mem Go.Proofs.Ytnaofcggdjbocab.Policy Go.Proofs.Ytnaofcggdjbocab.Event Go.Proofs.Ytnaofcggdjbocab.Addr
set_option maxRecDepth 100000

theorem info_i64 : ∃ i, Try.prog.info? 3 = some i ∧ i.zero = some (.int .i64 0) ∧ i.size = 1 ∧ i.bytes = 8 := by
  have h : (Try.prog.info? 3).map (fun i => (i.zero, i.size, i.bytes)) = some (some (.int .i64 0), 1, 8) := by kernel_rfl
  obtain ⟨i, hi, he⟩ := Option.map_eq_some_iff.1 h
  simp only [Prod.mk.injEq] at he
  exact ⟨i, hi, he⟩
theorem subs_next {ps : List Po} {m : Nat} {x : Po} (h : ps[m]? = some x) : (ps.take (m + 1)).map Po.s = (ps.take m).map Po.s ++ [x.s] := by
  have hl := (List.getElem?_eq_some_iff.1 h).1
  rw [List.take_succ_eq_append_getElem hl, show ps[m] = x from (List.getElem?_eq_some_iff.1 h).2, List.map_append]
  rfl
set_option maxHeartbeats 4000000 in
theorem law_subs (hh : Eh) (e : Ev) (w : World) (ie : Is w hh e) (hp : hh.pn ≤ 30) (hd : hh.dn ≤ 30) :
    Calls Try.prog 7 #[ev hh] w fun x w' => ∃ q c, x = .returned (.slice q (subsE e).length c) ∧ Reads .i64 w' q c (subsE e) ∧ Below w.heap.size w w' := by
  obtain ⟨k, s, ps, ds, g, t⟩ := e
  obtain ⟨k', s', pp, pn, pc, dp, dn, dc, g', t'⟩ := hh
  obtain ⟨-, ⟨lp, rp⟩, ld, rd⟩ := ie
  simp only at lp rp ld rd hp hd
  unfold subsE
  simp only
  obtain ⟨i0, hi, hz0, hz1', hz2⟩ := info_i64
  have hcap := rp.1
  have hldH : Hid (ds.length = dn) := ld
  clear ld
  go_enter Try.func7, Try.ntmps7
  go_wp2_with (first
    | ((fail_if_success (have _ := hX1)); (refine at_box_ev _ _ (by rfl) (by rfl) (by rfl) ?_); intro V1 hX1 hB1 hz1; have hX2 := hX1.alloc (.cells #[] 3); have c1 := cells6 hX2; simp only at c1; have hown := lit_none (k := .i64) (e := 3) V1; have hra := (rd.below hB1).alloc (.cells #[] 3))
    | (at_builtin; refine wpList_append_reads _ rfl _ _ 27 rfl V1.heap.size 3 i0 (.int .i64 0) 8 .i64 Try.underlying27 hi hz0 hz1' hz2 rfl (.slice (some ⟨V1.heap.size, 0, none⟩) 0 0) 0 [] rfl hown dp dn dc ds rfl hldH.out hra ?c3 ?c4 ?c5 ?_))
  case c3 => unfold maxLen; omega
  case c4 => omega
  case c5 => simp
  · intro v2 V2 hown2 hg2
    have hB2 : Below V1.heap.size V1 V2 := (bnew V1 (.cells #[] 3)).grown hg2 (by simp) (fun j hj => by simp [Value.ownBlock] at hj; omega)
    have hX3 := hX1.below hB2
    have c3 := cells6 hX3
    simp only at c3
    have RR := (grew0 (k := .i64) (ys := []) (zs := ds) (by simp) (Below.refl _ _) hown hown2 hg2).1
    simp only [List.nil_append] at RR
    clear hX2 c1 hown hra hown2 hg2
    go_wp2
    go_loopw [3, 13] (fun v j wr => ∃ m : Nat, m ≤ pn ∧ j = .int .i64 m ∧ wr.ownsRow V1.heap.size 3 1 v (ds ++ (ps.take m).map Po.s).length ((ds ++ (ps.take m).map Po.s).map (Value.int .i64)) ∧ Below V1.heap.size V1 wr) (fun _ j _ => pn - (intOf j).toNat)
    case atStart => exact ⟨0, Nat.zero_le _, rfl, by simpa using RR, hB2⟩
    case round =>
      obtain ⟨m, hm, rfl, hown, hnx⟩ := hrel
      clear RR
      by_cases hlt : m < pn
      · have hlt3 : (m : Int) < (pn : Int) := by omega
        obtain ⟨x, hx⟩ : ∃ x, ps[m]? = some x := ⟨_, List.getElem?_eq_getElem (by omega)⟩
        obtain ⟨b, o, rfl, hb, hc⟩ := (rp.below (bnext hB1 hnx)).at pl_len hx
        have HT : Hid (ds ++ (ps.take (m + 1)).map Po.s = (ds ++ (ps.take m).map Po.s) ++ [x.s]) := by unfold Hid; rw [subs_next hx, List.append_assoc]
        have hlen : (ds ++ (ps.take m).map Po.s).length ≤ 60 := by have := hldH.out; simp only [List.length_append, List.length_map, List.length_take]; omega
        obtain ⟨ys, hys⟩ : ∃ ys, ys = ds ++ (ps.take m).map Po.s := ⟨_, rfl⟩
        rw [← hys] at hown hlen HT
        clear hys hx
        go_wp2_with (first
          | ((fail_if_success (have _ := hY1)); (refine at_load_pr _ _ _ _ (by rfl) (by rfl) hc (by rfl) ?_))
          | ((fail_if_success (have _ := hY1)); (refine at_alloc_po (by rfl) (by rfl) ?_); intro W1 hY1 hB3 hz3)
          | ((fail_if_success (have _ := hY2)); (have _ := hY1); (refine at_store_po _ _ _ _ _ (by rfl) (by rfl) (by rfl) hY1 rfl (by rfl) ?_); intro W2 hY2 hg2 hz4; have hB4 := hB3.grown hg2 hB3.size (by simp); have hN4 := bnext hnx hB4; have hown4 := own_below hown hB4; have cy := cells13 hY2)
          | (at_builtin; (have _ := hY2); refine wpList_append_own _ rfl _ _ 27 rfl V1.heap.size 3 i0 (.int .i64 0) 1 8 Try.underlying27 hi hz0 hz1' hz2 rfl (by decide) _ _ _ rfl (hown4.alloc _) ⟨W2.heap.size, 0, none⟩ 1 1 [.int .i64 x.s] rfl rfl Mem.one_cell Mem.one_one ?c3 ?c4 ?c5 ?_))
        case c3 => unfold maxLen; omega
        case c4 => omega
        case c5 => have := hN4.size; simp; omega
        · intro v8 w8 hown8 hg8 _
          have RR := grew (zs := [x.s]) (Nat.le_refl _) hN4 hown4 hown8 hg8
          rw [← HT.out] at RR
          clear hown hown4 hown8 hg8
          go_wp2
          go_roundw
          case rel => exact ⟨m + 1, by omega, by go_num, RR.1, RR.2⟩
          case measure => simp [intOf]; omega
      · obtain rfl : m = pn := by omega
        have hdt : ps.take m = ps := List.take_of_length_le (by omega)
        rw [hdt] at hown
        obtain ⟨-, q3, c3', hv, hrd⟩ := own_reads hown
        subst hv
        clear hown hdt hlt
        go_wp2
        go_ret
        exact ⟨q3, c3', rfl, hrd, bnext hB1 hnx⟩
/-- What each of the four answers. -/
theorem appE_is (b : Bk) (e : Ev) : (appE b e = 0 ∧ applyO b e = some (appB b e)) ∨ appE b e = 131 := by
  cases h : applyO b e with
  | none => exact .inr (app_none h).2
  | some c => exact .inl ⟨(app_some h).2, by rw [(app_some h).1]⟩
theorem same_me (a : Bk) : sameB a a = true := sameB_iff.2 rfl
set_option maxHeartbeats 8000000 in
theorem order_any (hb : Bh) (b : Bk) (h1 : Eh) (x : Ev) (h2 : Eh) (y : Ev) (w : World) (ib : IsB w hb b) (ob : BkOk b) (i1 : Is w h1 x) (o1 : EvOk x) (i2 : Is w h2 y) (o2 : EvOk y) :
    Calls Try.prog 3 #[bv hb, ev h1, ev h2] w fun e w' => e = .returned (.bool true) ∧ Below w.heap.size w w' := by
  have ha := fun W => alive_any W
  have hg1 := fun W => great_any hb h1 W
  have hg2 := fun W => great_any hb h2 W
  cases hG1 : greatN hb.n h1.pn h1.dn with
  | true =>
    rw [hG1] at hg1
    go_enter Try.func3, Try.ntmps3
    go_wp2_with (first
      | ((fail_if_success (have _ := hB1)); (refine at_box_bk _ _ (by rfl) (by rfl) (by rfl) ?_); intro V1 hXb1 hB1 hz1; have hC1 := hB1)
      | ((fail_if_success (have _ := hB2)); (have _ := hB1); (refine at_box_ev _ _ (by rfl) (by rfl) (by rfl) ?_); intro V2 hXx2 hB2 hz2; have hXb2 := hXb1.below hB2; have hC2 := bnext hC1 hB2)
      | ((fail_if_success (have _ := hB3)); (have _ := hB2); (refine at_box_ev _ _ (by rfl) (by rfl) (by rfl) ?_); intro V3 hXy3 hB3 hz3; have hXb3 := hXb2.below hB3; have hXx3 := hXx2.below hB3; have hC3 := bnext hC2 hB3)
      | ((fail_if_success (have _ := hB4)); (have _ := hB3); (refine at_load_bk _ _ _ (by rfl) (by rfl) hXb3 (by rfl) ?_))
      | ((fail_if_success (have _ := hB4)); (have _ := hB3); (refine at_load_ev _ _ _ (by rfl) (by rfl) hXx3 (by rfl) ?_))
      | ((fail_if_success (have _ := hB4)); (have _ := hB3); (refine at_load_ev _ _ _ (by rfl) (by rfl) hXy3 (by rfl) ?_))
      | ((fail_if_success (have _ := hB4)); (have _ := hB3); (with_reducible refine (ha _).mono ?_); rintro e w4 ⟨rfl, hB4⟩; have hXb4 := hXb3.below hB4; have hXx4 := hXx3.below hB4; have hXy4 := hXy3.below hB4; have hC4 := bnext hC3 hB4)
      | ((fail_if_success (have _ := hB5)); (have _ := hB4); (refine at_load_bk _ _ _ (by rfl) (by rfl) hXb4 (by rfl) ?_))
      | ((fail_if_success (have _ := hB5)); (have _ := hB4); (refine at_load_ev _ _ _ (by rfl) (by rfl) hXx4 (by rfl) ?_))
      | ((fail_if_success (have _ := hB5)); (have _ := hB4); (refine at_load_ev _ _ _ (by rfl) (by rfl) hXy4 (by rfl) ?_))
      | ((fail_if_success (have _ := hB5)); (have _ := hB4); (with_reducible refine (hg1 _).mono ?_); rintro e w5 ⟨rfl, hB5⟩; have hXb5 := hXb4.below hB5; have hXx5 := hXx4.below hB5; have hXy5 := hXy4.below hB5; have hC5 := bnext hC4 hB5)
      | ((fail_if_success (have _ := hB6)); (have _ := hB5); (refine at_load_bk _ _ _ (by rfl) (by rfl) hXb5 (by rfl) ?_))
      | ((fail_if_success (have _ := hB6)); (have _ := hB5); (refine at_load_ev _ _ _ (by rfl) (by rfl) hXx5 (by rfl) ?_))
      | ((fail_if_success (have _ := hB6)); (have _ := hB5); (refine at_load_ev _ _ _ (by rfl) (by rfl) hXy5 (by rfl) ?_)))
    go_ret
    exact ⟨rfl, hC5⟩
  | false =>
    rw [hG1] at hg1
    obtain ⟨nb, p1, d1⟩ := great_no hG1
    clear hG1
    cases hG2 : greatN hb.n h2.pn h2.dn with
    | true =>
      rw [hG2] at hg2
      go_enter Try.func3, Try.ntmps3
      go_wp2_with (first
        | ((fail_if_success (have _ := hB1)); (refine at_box_bk _ _ (by rfl) (by rfl) (by rfl) ?_); intro V1 hXb1 hB1 hz1; have hC1 := hB1)
        | ((fail_if_success (have _ := hB2)); (have _ := hB1); (refine at_box_ev _ _ (by rfl) (by rfl) (by rfl) ?_); intro V2 hXx2 hB2 hz2; have hXb2 := hXb1.below hB2; have hC2 := bnext hC1 hB2)
        | ((fail_if_success (have _ := hB3)); (have _ := hB2); (refine at_box_ev _ _ (by rfl) (by rfl) (by rfl) ?_); intro V3 hXy3 hB3 hz3; have hXb3 := hXb2.below hB3; have hXx3 := hXx2.below hB3; have hC3 := bnext hC2 hB3)
        | ((fail_if_success (have _ := hB4)); (have _ := hB3); (refine at_load_bk _ _ _ (by rfl) (by rfl) hXb3 (by rfl) ?_))
        | ((fail_if_success (have _ := hB4)); (have _ := hB3); (refine at_load_ev _ _ _ (by rfl) (by rfl) hXx3 (by rfl) ?_))
        | ((fail_if_success (have _ := hB4)); (have _ := hB3); (refine at_load_ev _ _ _ (by rfl) (by rfl) hXy3 (by rfl) ?_))
        | ((fail_if_success (have _ := hB4)); (have _ := hB3); (with_reducible refine (ha _).mono ?_); rintro e w4 ⟨rfl, hB4⟩; have hXb4 := hXb3.below hB4; have hXx4 := hXx3.below hB4; have hXy4 := hXy3.below hB4; have hC4 := bnext hC3 hB4)
        | ((fail_if_success (have _ := hB5)); (have _ := hB4); (refine at_load_bk _ _ _ (by rfl) (by rfl) hXb4 (by rfl) ?_))
        | ((fail_if_success (have _ := hB5)); (have _ := hB4); (refine at_load_ev _ _ _ (by rfl) (by rfl) hXx4 (by rfl) ?_))
        | ((fail_if_success (have _ := hB5)); (have _ := hB4); (refine at_load_ev _ _ _ (by rfl) (by rfl) hXy4 (by rfl) ?_))
        | ((fail_if_success (have _ := hB5)); (have _ := hB4); (with_reducible refine (hg1 _).mono ?_); rintro e w5 ⟨rfl, hB5⟩; have hXb5 := hXb4.below hB5; have hXx5 := hXx4.below hB5; have hXy5 := hXy4.below hB5; have hC5 := bnext hC4 hB5)
        | ((fail_if_success (have _ := hB6)); (have _ := hB5); (refine at_load_bk _ _ _ (by rfl) (by rfl) hXb5 (by rfl) ?_))
        | ((fail_if_success (have _ := hB6)); (have _ := hB5); (refine at_load_ev _ _ _ (by rfl) (by rfl) hXx5 (by rfl) ?_))
        | ((fail_if_success (have _ := hB6)); (have _ := hB5); (refine at_load_ev _ _ _ (by rfl) (by rfl) hXy5 (by rfl) ?_))
        | ((fail_if_success (have _ := hB6)); (have _ := hB5); (with_reducible refine (hg2 _).mono ?_); rintro e w6 ⟨rfl, hB6⟩; have hXb6 := hXb5.below hB6; have hXx6 := hXx5.below hB6; have hXy6 := hXy5.below hB6; have hC6 := bnext hC5 hB6)
        | ((fail_if_success (have _ := hB7)); (have _ := hB6); (refine at_load_bk _ _ _ (by rfl) (by rfl) hXb6 (by rfl) ?_))
        | ((fail_if_success (have _ := hB7)); (have _ := hB6); (refine at_load_ev _ _ _ (by rfl) (by rfl) hXx6 (by rfl) ?_))
        | ((fail_if_success (have _ := hB7)); (have _ := hB6); (refine at_load_ev _ _ _ (by rfl) (by rfl) hXy6 (by rfl) ?_)))
      go_ret
      exact ⟨rfl, hC6⟩
    | false =>
      rw [hG2] at hg2
      obtain ⟨-, p2, d2⟩ := great_no hG2
      clear hG2
      by_cases k1 : h1.k = 1
      · have m1 : decide (h1.k = 1) = true := decide_eq_true k1
        have m1' : (h1.k != 1) = false := by simp [k1]
        by_cases k2 : h2.k = 1
        · have m2 : decide (h2.k = 1) = true := decide_eq_true k2
          have m2' : (h2.k != 1) = false := by simp [k2]
          have K1 : Hid (x.k = 1) := i1.1.1.symm.trans k1
          have K2 : Hid (y.k = 1) := i2.1.1.symm.trans k2
          clear k1 k2
          have hs1 := fun {W : World} (hb' : Below w.heap.size w W) => law_subs h1 x W (i1.below hb') p1 d1
          have hs2 := fun {W : World} (hb' : Below w.heap.size w W) => law_subs h2 y W (i2.below hb') p2 d2
          have HX : (subsE x).length ≤ 60 := by have := i1.2.1.1; have := i1.2.2.1; simp only [subsE, List.length_append, List.length_map]; omega
          have HY : (subsE y).length ≤ 60 := by have := i2.2.1.1; have := i2.2.2.1; simp only [subsE, List.length_append, List.length_map]; omega
          have HSW : Hid ((∀ s ∈ subsE x, s ∉ subsE y) → ∀ c d g k : Bk, applyO b x = some c → applyO c y = some d → applyO b y = some g → applyO g x = some k → d = k) := fun h c d g k => swap K1.out K2.out h
          obtain ⟨XS, hXS⟩ : ∃ XS, subsE x = XS := ⟨_, rfl⟩
          obtain ⟨YS, hYS⟩ : ∃ YS, subsE y = YS := ⟨_, rfl⟩
          rw [hXS, hYS] at HSW
          rw [hXS] at hs1 HX
          rw [hYS] at hs2 HY
          clear hXS hYS K1 K2
          obtain ⟨LX, hLX⟩ : ∃ LX, XS.length = LX := ⟨_, rfl⟩
          obtain ⟨LY, hLY⟩ : ∃ LY, YS.length = LY := ⟨_, rfl⟩
          rw [hLX] at hs1 HX
          rw [hLY] at hs2 HY
          have HLX : Hid (XS.length = LX) := hLX
          have HLY : Hid (YS.length = LY) := hLY
          clear hLX hLY
          go_enter Try.func3, Try.ntmps3
          go_wp2_with (first
            | ((fail_if_success (have _ := hB1)); (refine at_box_bk _ _ (by rfl) (by rfl) (by rfl) ?_); intro V1 hXb1 hB1 hz1; have hC1 := hB1)
            | ((fail_if_success (have _ := hB2)); (have _ := hB1); (refine at_box_ev _ _ (by rfl) (by rfl) (by rfl) ?_); intro V2 hXx2 hB2 hz2; have hXb2 := hXb1.below hB2; have hC2 := bnext hC1 hB2)
            | ((fail_if_success (have _ := hB3)); (have _ := hB2); (refine at_box_ev _ _ (by rfl) (by rfl) (by rfl) ?_); intro V3 hXy3 hB3 hz3; have hXb3 := hXb2.below hB3; have hXx3 := hXx2.below hB3; have hC3 := bnext hC2 hB3)
            | ((fail_if_success (have _ := hB4)); (have _ := hB3); (refine at_load_bk _ _ _ (by rfl) (by rfl) hXb3 (by rfl) ?_))
            | ((fail_if_success (have _ := hB4)); (have _ := hB3); (refine at_load_ev _ _ _ (by rfl) (by rfl) hXx3 (by rfl) ?_))
            | ((fail_if_success (have _ := hB4)); (have _ := hB3); (refine at_load_ev _ _ _ (by rfl) (by rfl) hXy3 (by rfl) ?_))
            | ((fail_if_success (have _ := hB4)); (have _ := hB3); (with_reducible refine (ha _).mono ?_); rintro e w4 ⟨rfl, hB4⟩; have hXb4 := hXb3.below hB4; have hXx4 := hXx3.below hB4; have hXy4 := hXy3.below hB4; have hC4 := bnext hC3 hB4)
            | ((fail_if_success (have _ := hB5)); (have _ := hB4); (refine at_load_bk _ _ _ (by rfl) (by rfl) hXb4 (by rfl) ?_))
            | ((fail_if_success (have _ := hB5)); (have _ := hB4); (refine at_load_ev _ _ _ (by rfl) (by rfl) hXx4 (by rfl) ?_))
            | ((fail_if_success (have _ := hB5)); (have _ := hB4); (refine at_load_ev _ _ _ (by rfl) (by rfl) hXy4 (by rfl) ?_))
            | ((fail_if_success (have _ := hB5)); (have _ := hB4); (with_reducible refine (hg1 _).mono ?_); rintro e w5 ⟨rfl, hB5⟩; have hXb5 := hXb4.below hB5; have hXx5 := hXx4.below hB5; have hXy5 := hXy4.below hB5; have hC5 := bnext hC4 hB5)
            | ((fail_if_success (have _ := hB6)); (have _ := hB5); (refine at_load_bk _ _ _ (by rfl) (by rfl) hXb5 (by rfl) ?_))
            | ((fail_if_success (have _ := hB6)); (have _ := hB5); (refine at_load_ev _ _ _ (by rfl) (by rfl) hXx5 (by rfl) ?_))
            | ((fail_if_success (have _ := hB6)); (have _ := hB5); (refine at_load_ev _ _ _ (by rfl) (by rfl) hXy5 (by rfl) ?_))
            | ((fail_if_success (have _ := hB6)); (have _ := hB5); (with_reducible refine (hg2 _).mono ?_); rintro e w6 ⟨rfl, hB6⟩; have hXb6 := hXb5.below hB6; have hXx6 := hXx5.below hB6; have hXy6 := hXy5.below hB6; have hC6 := bnext hC5 hB6; have kx := cells6 hXx6; have ky := cells6 hXy6)
            | ((fail_if_success (have _ := hB7)); (have _ := hB6); (refine at_load_bk _ _ _ (by rfl) (by rfl) hXb6 (by rfl) ?_))
            | ((fail_if_success (have _ := hB7)); (have _ := hB6); (refine at_load_ev _ _ _ (by rfl) (by rfl) hXx6 (by rfl) ?_))
            | ((fail_if_success (have _ := hB7)); (have _ := hB6); (refine at_load_ev _ _ _ (by rfl) (by rfl) hXy6 (by rfl) ?_))
            | ((fail_if_success (have _ := hB7)); (have _ := hB6); (with_reducible refine (hs1 hC6).mono ?_); rintro e w7 ⟨q7, c7, rfl, r7, hB7⟩; have hXb7 := hXb6.below hB7; have hXx7 := hXx6.below hB7; have hXy7 := hXy6.below hB7; have hC7 := bnext hC6 hB7)
            | ((fail_if_success (have _ := hB8)); (have _ := hB7); (refine at_load_bk _ _ _ (by rfl) (by rfl) hXb7 (by rfl) ?_))
            | ((fail_if_success (have _ := hB8)); (have _ := hB7); (refine at_load_ev _ _ _ (by rfl) (by rfl) hXx7 (by rfl) ?_))
            | ((fail_if_success (have _ := hB8)); (have _ := hB7); (refine at_load_ev _ _ _ (by rfl) (by rfl) hXy7 (by rfl) ?_)))
          have hcx := r7.1
          go_loopw [42] (fun j wr => ∃ m : Nat, m ≤ LX ∧ j = .int .i64 m ∧ Below w7.heap.size w7 wr ∧ Hid (∀ s ∈ XS.take m, s ∉ YS)) (fun j _ => LX - (intOf j).toNat)
          case atStart => exact ⟨0, Nat.zero_le _, rfl, Below.refl _ _, by unfold Hid; simp⟩
          case round =>
            obtain ⟨m, hm, rfl, hE, HG⟩ := hrel
            clear kx ky
            have hXb := hXb7.below hE
            have hXx := hXx7.below hE
            have hXy := hXy7.below hE
            have hC := bnext hC7 hE
            clear hXb7 hXx7 hXy7 hC7
            by_cases hlt : m < LX
            · have hlt3 : (m : Int) < (LX : Int) := by omega
              obtain ⟨s0, hs0⟩ : ∃ s0, XS[m]? = some s0 := ⟨_, List.getElem?_eq_getElem (by have := HLX.out; omega)⟩
              obtain ⟨g7, o7, rfl, hg7, hcl⟩ := (r7.below hE).2.2.2 (by have := HLX.out; omega)
              have z7 := hcl m (by have := HLX.out; omega)
              rw [show XS.getD m 0 = s0 by simp [List.getD, hs0]] at z7
              have HN : Hid (XS.take (m + 1) = XS.take m ++ [s0]) := by
                have hl := (List.getElem?_eq_some_iff.1 hs0).1
                unfold Hid
                rw [List.take_succ_eq_append_getElem hl, (List.getElem?_eq_some_iff.1 hs0).2]
              clear hcl hs0 hg1 hg2 ha
              go_wp2_with (first
                | ((fail_if_success (have _ := hB21)); (refine at_load_bk _ _ _ (by rfl) (by rfl) hXb (by rfl) ?_))
                | ((fail_if_success (have _ := hB21)); (refine at_load_ev _ _ _ (by rfl) (by rfl) hXx (by rfl) ?_))
                | ((fail_if_success (have _ := hB21)); (refine at_load_ev _ _ _ (by rfl) (by rfl) hXy (by rfl) ?_))
                | ((fail_if_success (have _ := hB21)); (with_reducible refine (hs2 hC).mono ?_); rintro e w21 ⟨q21, c21, rfl, r21, hB21⟩; have hXb21 := hXb.below hB21; have hXx21 := hXx.below hB21; have hXy21 := hXy.below hB21; have hC21 := bnext hC hB21; have hE21 := bnext hE hB21)
                | ((fail_if_success (have _ := hB22)); (have _ := hB21); (refine at_load_bk _ _ _ (by rfl) (by rfl) hXb21 (by rfl) ?_))
                | ((fail_if_success (have _ := hB22)); (have _ := hB21); (refine at_load_ev _ _ _ (by rfl) (by rfl) hXx21 (by rfl) ?_))
                | ((fail_if_success (have _ := hB22)); (have _ := hB21); (refine at_load_ev _ _ _ (by rfl) (by rfl) hXy21 (by rfl) ?_)))
              have hcy := r21.1
              go_loopw [49] (fun j wr => ∃ m2 : Nat, m2 ≤ LY ∧ j = .int .i64 m2 ∧ Below w21.heap.size w21 wr ∧ Hid (∀ s ∈ YS.take m2, s ≠ s0)) (fun j _ => LY - (intOf j).toNat)
              case atStart => exact ⟨0, Nat.zero_le _, rfl, Below.refl _ _, by unfold Hid; simp⟩
              case round =>
                obtain ⟨m2, hm2, rfl, hE2, HG2⟩ := hrel
                have hCz := bnext hC21 hE2
                have hEz := bnext hE21 hE2
                by_cases hlt2 : m2 < LY
                · have hlt4 : (m2 : Int) < (LY : Int) := by omega
                  obtain ⟨s1, hs1⟩ : ∃ s1, YS[m2]? = some s1 := ⟨_, List.getElem?_eq_getElem (by have := HLY.out; omega)⟩
                  obtain ⟨g8, o8, rfl, hg8, hcl⟩ := (r21.below hE2).2.2.2 (by have := HLY.out; omega)
                  have z8 := hcl m2 (by have := HLY.out; omega)
                  rw [show YS.getD m2 0 = s1 by simp [List.getD, hs1]] at z8
                  have HN2 : Hid (YS.take (m2 + 1) = YS.take m2 ++ [s1]) := by
                    have hl := (List.getElem?_eq_some_iff.1 hs1).1
                    unfold Hid
                    rw [List.take_succ_eq_append_getElem hl, (List.getElem?_eq_some_iff.1 hs1).2]
                  clear hcl hs1
                  by_cases he : s0 = s1
                  · have e1 : decide (s0 = s1) = true := decide_eq_true he
                    have e2 : (s0 == s1) = true := by simp [he]
                    clear he
                    go_wp2
                    go_ret
                    exact ⟨rfl, hCz⟩
                  · have e1 : decide (s0 = s1) = false := decide_eq_false he
                    have e2 : (s0 == s1) = false := by simp [he]
                    have HG3 : Hid (∀ s ∈ YS.take (m2 + 1), s ≠ s0) := fun s hs => by
                      rw [HN2.out, List.mem_append, List.mem_singleton] at hs
                      rcases hs with hs | rfl
                      · exact HG2.out s hs
                      · exact fun q => he q.symm
                    clear he
                    go_wp2
                    go_roundw
                    case rel => exact ⟨m2 + 1, by omega, by go_num, hE2, HG3⟩
                    case measure => simp [intOf]; omega
                · obtain rfl : m2 = LY := by omega
                  have HG4 : Hid (∀ s ∈ XS.take (m + 1), s ∉ YS) := fun s hs => by
                    rw [HN.out, List.mem_append, List.mem_singleton] at hs
                    rcases hs with hs | rfl
                    · exact HG.out s hs
                    · intro hy
                      have := HG2.out
                      rw [List.take_of_length_le (by have := HLY.out; omega)] at this
                      exact this s hy rfl
                  go_wp2
                  go_roundw
                  case rel => exact ⟨m + 1, by omega, by go_num, hEz, HG4⟩
                  case measure => simp [intOf]; omega
            · obtain rfl : m = LX := by omega
              have HD : Hid (∀ s ∈ XS, s ∉ YS) := by
                have := HG.out
                rw [List.take_of_length_le (by have := HLX.out; omega)] at this
                exact this
              have hlb := ib.2.1
              obtain ⟨ok1, ln1⟩ := app_okB (b := b) (e := x) ob.2 o1.2.2.1 o1.2.2.2.2.1
              obtain ⟨ok3, ln3⟩ := app_okB (b := b) (e := y) ob.2 o2.2.2.1 o2.2.2.2.2.1
              obtain ⟨ok2, ln2⟩ := app_okB (b := appB b x) (e := y) ok1 o2.2.2.1 o2.2.2.2.2.1
              obtain ⟨ok4, ln4⟩ := app_okB (b := appB b y) (e := x) ok3 o1.2.2.1 o1.2.2.2.2.1
              have hA1 := fun {W : World} (hb' : Below w.heap.size w W) => book_Apply hb b h1 x W (ib.below hb') (i1.below hb') ob.2 o1.2.2.1 (by omega) (by omega) (by omega)
              have hA3 := fun {W : World} (hb' : Below w.heap.size w W) => book_Apply hb b h2 y W (ib.below hb') (i2.below hb') ob.2 o2.2.2.1 (by omega) (by omega) (by omega)
              have hA2 := fun {W : World} (hb' : Below w.heap.size w W) (h' : Bh) (i' : IsB W h' (appB b x)) => book_Apply h' (appB b x) h2 y W i' (i2.below hb') ok1 o2.2.2.1 (by have := i'.2.1; omega) (by omega) (by omega)
              have hA4 := fun {W : World} (hb' : Below w.heap.size w W) (h' : Bh) (i' : IsB W h' (appB b y)) => book_Apply h' (appB b y) h1 x W i' (i1.below hb') ok3 o1.2.2.1 (by have := i'.2.1; omega) (by omega) (by omega)
              have hSm := fun {W : World} (ha hb' : Bh) (ia : IsB W ha (appB (appB b x) y)) (i' : IsB W hb' (appB (appB b y) x)) => book_Same ha hb' _ _ W ia i' ok2 ok4 (by have := ia.2.1; omega)
              have HX1 := appE_is b x
              have HX2 := appE_is (appB b x) y
              have HX3 := appE_is b y
              have HX4 := appE_is (appB b y) x
              have HS := HSW.out HD.out
              obtain ⟨C1, hC1⟩ : ∃ c, appB b x = c := ⟨_, rfl⟩
              obtain ⟨C3, hC3⟩ : ∃ c, appB b y = c := ⟨_, rfl⟩
              rw [hC1] at hA1 hA2 HX1 HX2 hSm
              rw [hC3] at hA3 hA4 HX3 HX4 hSm
              obtain ⟨C2, hC2⟩ : ∃ c, appB C1 y = c := ⟨_, rfl⟩
              obtain ⟨C4, hC4⟩ : ∃ c, appB C3 x = c := ⟨_, rfl⟩
              rw [hC2] at hA2 HX2 hSm
              rw [hC4] at hA4 HX4 hSm
              obtain ⟨E1, hE1⟩ : ∃ c, appE b x = c := ⟨_, rfl⟩
              obtain ⟨E2, hE2⟩ : ∃ c, appE C1 y = c := ⟨_, rfl⟩
              obtain ⟨E3, hE3⟩ : ∃ c, appE b y = c := ⟨_, rfl⟩
              obtain ⟨E4, hE4⟩ : ∃ c, appE C3 x = c := ⟨_, rfl⟩
              rw [hE1] at hA1 HX1
              rw [hE2] at hA2 HX2
              rw [hE3] at hA3 HX3
              rw [hE4] at hA4 HX4
              clear ok1 ok2 ok3 ok4 ln1 ln2 ln3 ln4 hC1 hC2 hC3 hC4 hE1 hE2 hE3 hE4 hs1 hs2 hg1 hg2 ha hcx HG HSW HD
              rcases HX1 with ⟨rfl, X1⟩ | rfl
              · rcases HX2 with ⟨rfl, X2⟩ | rfl
                · rcases HX3 with ⟨rfl, X3⟩ | rfl
                  · rcases HX4 with ⟨rfl, X4⟩ | rfl
                    · obtain rfl : C2 = C4 := HS C1 C2 C3 C4 X1 X2 X3 X4
                      simp only [same_me] at hSm
                      clear HS X1 X2 X3 X4
                      go_wp2_with (first
                        | ((fail_if_success (have _ := hB41)); (refine at_load_bk _ _ _ (by rfl) (by rfl) hXb (by rfl) ?_))
                        | ((fail_if_success (have _ := hB41)); (refine at_load_ev _ _ _ (by rfl) (by rfl) hXx (by rfl) ?_))
                        | ((fail_if_success (have _ := hB41)); (refine at_load_ev _ _ _ (by rfl) (by rfl) hXy (by rfl) ?_))
                        | ((fail_if_success (have _ := hB41)); (with_reducible refine (hA1 hC).mono ?_); rintro e w41 ⟨h41, rfl, i41, -, hB41⟩; have hXb41 := hXb.below hB41; have hXx41 := hXx.below hB41; have hXy41 := hXy.below hB41; have hC41 := bnext hC hB41; have hFc41 := i41)
                        | ((fail_if_success (have _ := hB42)); (have _ := hB41); (refine at_alloc_bk (by rfl) (by rfl) ?_); intro V42 hXc42 hB42 hz42)
                        | ((fail_if_success (have _ := hB43)); (have _ := hB42); (refine at_store_bk _ _ _ _ _ (by rfl) (by rfl) (by rfl) hXc42 rfl (by rfl) ?_); intro V43 hXc43 hg43 hz43; have hB43 := hB42.grown hg43 hB42.size (by simp); have hXb43 := hXb41.below hB43; have hXx43 := hXx41.below hB43; have hXy43 := hXy41.below hB43; have hFc43 := hFc41.below hB43; have hC43 := bnext hC41 hB43)
                        | ((fail_if_success (have _ := hB44)); (have _ := hB43); (refine at_load_bk _ _ _ (by rfl) (by rfl) hXb43 (by rfl) ?_))
                        | ((fail_if_success (have _ := hB44)); (have _ := hB43); (refine at_load_ev _ _ _ (by rfl) (by rfl) hXx43 (by rfl) ?_))
                        | ((fail_if_success (have _ := hB44)); (have _ := hB43); (refine at_load_ev _ _ _ (by rfl) (by rfl) hXy43 (by rfl) ?_))
                        | ((fail_if_success (have _ := hB44)); (have _ := hB43); (refine at_load_bk _ _ _ (by rfl) (by rfl) hXc43 (by rfl) ?_))
                        | ((fail_if_success (have _ := hB44)); (have _ := hB43); (with_reducible refine (hA2 hC43 _ hFc43).mono ?_); rintro e w44 ⟨h44, rfl, i44, -, hB44⟩; have hXb44 := hXb43.below hB44; have hXx44 := hXx43.below hB44; have hXy44 := hXy43.below hB44; have hXc44 := hXc43.below hB44; have hFc44 := hFc43.below hB44; have hC44 := bnext hC43 hB44; have hFd44 := i44)
                        | ((fail_if_success (have _ := hB45)); (have _ := hB44); (refine at_alloc_bk (by rfl) (by rfl) ?_); intro V45 hXd45 hB45 hz45)
                        | ((fail_if_success (have _ := hB46)); (have _ := hB45); (refine at_store_bk _ _ _ _ _ (by rfl) (by rfl) (by rfl) hXd45 rfl (by rfl) ?_); intro V46 hXd46 hg46 hz46; have hB46 := hB45.grown hg46 hB45.size (by simp); have hXb46 := hXb44.below hB46; have hXx46 := hXx44.below hB46; have hXy46 := hXy44.below hB46; have hXc46 := hXc44.below hB46; have hFc46 := hFc44.below hB46; have hFd46 := hFd44.below hB46; have hC46 := bnext hC44 hB46)
                        | ((fail_if_success (have _ := hB47)); (have _ := hB46); (refine at_load_bk _ _ _ (by rfl) (by rfl) hXb46 (by rfl) ?_))
                        | ((fail_if_success (have _ := hB47)); (have _ := hB46); (refine at_load_ev _ _ _ (by rfl) (by rfl) hXx46 (by rfl) ?_))
                        | ((fail_if_success (have _ := hB47)); (have _ := hB46); (refine at_load_ev _ _ _ (by rfl) (by rfl) hXy46 (by rfl) ?_))
                        | ((fail_if_success (have _ := hB47)); (have _ := hB46); (refine at_load_bk _ _ _ (by rfl) (by rfl) hXc46 (by rfl) ?_))
                        | ((fail_if_success (have _ := hB47)); (have _ := hB46); (refine at_load_bk _ _ _ (by rfl) (by rfl) hXd46 (by rfl) ?_))
                        | ((fail_if_success (have _ := hB47)); (have _ := hB46); (with_reducible refine (hA3 hC46).mono ?_); rintro e w47 ⟨h47, rfl, i47, -, hB47⟩; have hXb47 := hXb46.below hB47; have hXx47 := hXx46.below hB47; have hXy47 := hXy46.below hB47; have hXc47 := hXc46.below hB47; have hXd47 := hXd46.below hB47; have hFc47 := hFc46.below hB47; have hFd47 := hFd46.below hB47; have hC47 := bnext hC46 hB47; have hFg47 := i47)
                        | ((fail_if_success (have _ := hB48)); (have _ := hB47); (refine at_alloc_bk (by rfl) (by rfl) ?_); intro V48 hXg48 hB48 hz48)
                        | ((fail_if_success (have _ := hB49)); (have _ := hB48); (refine at_store_bk _ _ _ _ _ (by rfl) (by rfl) (by rfl) hXg48 rfl (by rfl) ?_); intro V49 hXg49 hg49 hz49; have hB49 := hB48.grown hg49 hB48.size (by simp); have hXb49 := hXb47.below hB49; have hXx49 := hXx47.below hB49; have hXy49 := hXy47.below hB49; have hXc49 := hXc47.below hB49; have hXd49 := hXd47.below hB49; have hFc49 := hFc47.below hB49; have hFd49 := hFd47.below hB49; have hFg49 := hFg47.below hB49; have hC49 := bnext hC47 hB49)
                        | ((fail_if_success (have _ := hB50)); (have _ := hB49); (refine at_load_bk _ _ _ (by rfl) (by rfl) hXb49 (by rfl) ?_))
                        | ((fail_if_success (have _ := hB50)); (have _ := hB49); (refine at_load_ev _ _ _ (by rfl) (by rfl) hXx49 (by rfl) ?_))
                        | ((fail_if_success (have _ := hB50)); (have _ := hB49); (refine at_load_ev _ _ _ (by rfl) (by rfl) hXy49 (by rfl) ?_))
                        | ((fail_if_success (have _ := hB50)); (have _ := hB49); (refine at_load_bk _ _ _ (by rfl) (by rfl) hXc49 (by rfl) ?_))
                        | ((fail_if_success (have _ := hB50)); (have _ := hB49); (refine at_load_bk _ _ _ (by rfl) (by rfl) hXd49 (by rfl) ?_))
                        | ((fail_if_success (have _ := hB50)); (have _ := hB49); (refine at_load_bk _ _ _ (by rfl) (by rfl) hXg49 (by rfl) ?_))
                        | ((fail_if_success (have _ := hB50)); (have _ := hB49); (with_reducible refine (hA4 hC49 _ hFg49).mono ?_); rintro e w50 ⟨h50, rfl, i50, -, hB50⟩; have hXb50 := hXb49.below hB50; have hXx50 := hXx49.below hB50; have hXy50 := hXy49.below hB50; have hXc50 := hXc49.below hB50; have hXd50 := hXd49.below hB50; have hXg50 := hXg49.below hB50; have hFc50 := hFc49.below hB50; have hFd50 := hFd49.below hB50; have hFg50 := hFg49.below hB50; have hC50 := bnext hC49 hB50; have hFk50 := i50)
                        | ((fail_if_success (have _ := hB51)); (have _ := hB50); (refine at_alloc_bk (by rfl) (by rfl) ?_); intro V51 hXk51 hB51 hz51)
                        | ((fail_if_success (have _ := hB52)); (have _ := hB51); (refine at_store_bk _ _ _ _ _ (by rfl) (by rfl) (by rfl) hXk51 rfl (by rfl) ?_); intro V52 hXk52 hg52 hz52; have hB52 := hB51.grown hg52 hB51.size (by simp); have hXb52 := hXb50.below hB52; have hXx52 := hXx50.below hB52; have hXy52 := hXy50.below hB52; have hXc52 := hXc50.below hB52; have hXd52 := hXd50.below hB52; have hXg52 := hXg50.below hB52; have hFc52 := hFc50.below hB52; have hFd52 := hFd50.below hB52; have hFg52 := hFg50.below hB52; have hFk52 := hFk50.below hB52; have hC52 := bnext hC50 hB52)
                        | ((fail_if_success (have _ := hB53)); (have _ := hB52); (refine at_load_bk _ _ _ (by rfl) (by rfl) hXb52 (by rfl) ?_))
                        | ((fail_if_success (have _ := hB53)); (have _ := hB52); (refine at_load_ev _ _ _ (by rfl) (by rfl) hXx52 (by rfl) ?_))
                        | ((fail_if_success (have _ := hB53)); (have _ := hB52); (refine at_load_ev _ _ _ (by rfl) (by rfl) hXy52 (by rfl) ?_))
                        | ((fail_if_success (have _ := hB53)); (have _ := hB52); (refine at_load_bk _ _ _ (by rfl) (by rfl) hXc52 (by rfl) ?_))
                        | ((fail_if_success (have _ := hB53)); (have _ := hB52); (refine at_load_bk _ _ _ (by rfl) (by rfl) hXd52 (by rfl) ?_))
                        | ((fail_if_success (have _ := hB53)); (have _ := hB52); (refine at_load_bk _ _ _ (by rfl) (by rfl) hXg52 (by rfl) ?_))
                        | ((fail_if_success (have _ := hB53)); (have _ := hB52); (refine at_load_bk _ _ _ (by rfl) (by rfl) hXk52 (by rfl) ?_))
                        | ((fail_if_success (have _ := hB53)); (have _ := hB52); (with_reducible refine (hSm _ _ hFd52 hFk52).mono ?_); rintro e w53 ⟨rfl, hB53⟩; have hXb53 := hXb52.below hB53; have hXx53 := hXx52.below hB53; have hXy53 := hXy52.below hB53; have hXc53 := hXc52.below hB53; have hXd53 := hXd52.below hB53; have hXg53 := hXg52.below hB53; have hXk53 := hXk52.below hB53; have hFc53 := hFc52.below hB53; have hFd53 := hFd52.below hB53; have hFg53 := hFg52.below hB53; have hFk53 := hFk52.below hB53; have hC53 := bnext hC52 hB53)
                        | ((fail_if_success (have _ := hB54)); (have _ := hB53); (refine at_load_bk _ _ _ (by rfl) (by rfl) hXb53 (by rfl) ?_))
                        | ((fail_if_success (have _ := hB54)); (have _ := hB53); (refine at_load_ev _ _ _ (by rfl) (by rfl) hXx53 (by rfl) ?_))
                        | ((fail_if_success (have _ := hB54)); (have _ := hB53); (refine at_load_ev _ _ _ (by rfl) (by rfl) hXy53 (by rfl) ?_))
                        | ((fail_if_success (have _ := hB54)); (have _ := hB53); (refine at_load_bk _ _ _ (by rfl) (by rfl) hXc53 (by rfl) ?_))
                        | ((fail_if_success (have _ := hB54)); (have _ := hB53); (refine at_load_bk _ _ _ (by rfl) (by rfl) hXd53 (by rfl) ?_))
                        | ((fail_if_success (have _ := hB54)); (have _ := hB53); (refine at_load_bk _ _ _ (by rfl) (by rfl) hXg53 (by rfl) ?_))
                        | ((fail_if_success (have _ := hB54)); (have _ := hB53); (refine at_load_bk _ _ _ (by rfl) (by rfl) hXk53 (by rfl) ?_)))
                      go_ret
                      exact ⟨rfl, hC53⟩
                    · clear HS
                      go_wp2_with (first
                        | ((fail_if_success (have _ := hB41)); (refine at_load_bk _ _ _ (by rfl) (by rfl) hXb (by rfl) ?_))
                        | ((fail_if_success (have _ := hB41)); (refine at_load_ev _ _ _ (by rfl) (by rfl) hXx (by rfl) ?_))
                        | ((fail_if_success (have _ := hB41)); (refine at_load_ev _ _ _ (by rfl) (by rfl) hXy (by rfl) ?_))
                        | ((fail_if_success (have _ := hB41)); (with_reducible refine (hA1 hC).mono ?_); rintro e w41 ⟨h41, rfl, i41, -, hB41⟩; have hXb41 := hXb.below hB41; have hXx41 := hXx.below hB41; have hXy41 := hXy.below hB41; have hC41 := bnext hC hB41; have hFc41 := i41)
                        | ((fail_if_success (have _ := hB42)); (have _ := hB41); (refine at_alloc_bk (by rfl) (by rfl) ?_); intro V42 hXc42 hB42 hz42)
                        | ((fail_if_success (have _ := hB43)); (have _ := hB42); (refine at_store_bk _ _ _ _ _ (by rfl) (by rfl) (by rfl) hXc42 rfl (by rfl) ?_); intro V43 hXc43 hg43 hz43; have hB43 := hB42.grown hg43 hB42.size (by simp); have hXb43 := hXb41.below hB43; have hXx43 := hXx41.below hB43; have hXy43 := hXy41.below hB43; have hFc43 := hFc41.below hB43; have hC43 := bnext hC41 hB43)
                        | ((fail_if_success (have _ := hB44)); (have _ := hB43); (refine at_load_bk _ _ _ (by rfl) (by rfl) hXb43 (by rfl) ?_))
                        | ((fail_if_success (have _ := hB44)); (have _ := hB43); (refine at_load_ev _ _ _ (by rfl) (by rfl) hXx43 (by rfl) ?_))
                        | ((fail_if_success (have _ := hB44)); (have _ := hB43); (refine at_load_ev _ _ _ (by rfl) (by rfl) hXy43 (by rfl) ?_))
                        | ((fail_if_success (have _ := hB44)); (have _ := hB43); (refine at_load_bk _ _ _ (by rfl) (by rfl) hXc43 (by rfl) ?_))
                        | ((fail_if_success (have _ := hB44)); (have _ := hB43); (with_reducible refine (hA2 hC43 _ hFc43).mono ?_); rintro e w44 ⟨h44, rfl, i44, -, hB44⟩; have hXb44 := hXb43.below hB44; have hXx44 := hXx43.below hB44; have hXy44 := hXy43.below hB44; have hXc44 := hXc43.below hB44; have hFc44 := hFc43.below hB44; have hC44 := bnext hC43 hB44; have hFd44 := i44)
                        | ((fail_if_success (have _ := hB45)); (have _ := hB44); (refine at_alloc_bk (by rfl) (by rfl) ?_); intro V45 hXd45 hB45 hz45)
                        | ((fail_if_success (have _ := hB46)); (have _ := hB45); (refine at_store_bk _ _ _ _ _ (by rfl) (by rfl) (by rfl) hXd45 rfl (by rfl) ?_); intro V46 hXd46 hg46 hz46; have hB46 := hB45.grown hg46 hB45.size (by simp); have hXb46 := hXb44.below hB46; have hXx46 := hXx44.below hB46; have hXy46 := hXy44.below hB46; have hXc46 := hXc44.below hB46; have hFc46 := hFc44.below hB46; have hFd46 := hFd44.below hB46; have hC46 := bnext hC44 hB46)
                        | ((fail_if_success (have _ := hB47)); (have _ := hB46); (refine at_load_bk _ _ _ (by rfl) (by rfl) hXb46 (by rfl) ?_))
                        | ((fail_if_success (have _ := hB47)); (have _ := hB46); (refine at_load_ev _ _ _ (by rfl) (by rfl) hXx46 (by rfl) ?_))
                        | ((fail_if_success (have _ := hB47)); (have _ := hB46); (refine at_load_ev _ _ _ (by rfl) (by rfl) hXy46 (by rfl) ?_))
                        | ((fail_if_success (have _ := hB47)); (have _ := hB46); (refine at_load_bk _ _ _ (by rfl) (by rfl) hXc46 (by rfl) ?_))
                        | ((fail_if_success (have _ := hB47)); (have _ := hB46); (refine at_load_bk _ _ _ (by rfl) (by rfl) hXd46 (by rfl) ?_))
                        | ((fail_if_success (have _ := hB47)); (have _ := hB46); (with_reducible refine (hA3 hC46).mono ?_); rintro e w47 ⟨h47, rfl, i47, -, hB47⟩; have hXb47 := hXb46.below hB47; have hXx47 := hXx46.below hB47; have hXy47 := hXy46.below hB47; have hXc47 := hXc46.below hB47; have hXd47 := hXd46.below hB47; have hFc47 := hFc46.below hB47; have hFd47 := hFd46.below hB47; have hC47 := bnext hC46 hB47; have hFg47 := i47)
                        | ((fail_if_success (have _ := hB48)); (have _ := hB47); (refine at_alloc_bk (by rfl) (by rfl) ?_); intro V48 hXg48 hB48 hz48)
                        | ((fail_if_success (have _ := hB49)); (have _ := hB48); (refine at_store_bk _ _ _ _ _ (by rfl) (by rfl) (by rfl) hXg48 rfl (by rfl) ?_); intro V49 hXg49 hg49 hz49; have hB49 := hB48.grown hg49 hB48.size (by simp); have hXb49 := hXb47.below hB49; have hXx49 := hXx47.below hB49; have hXy49 := hXy47.below hB49; have hXc49 := hXc47.below hB49; have hXd49 := hXd47.below hB49; have hFc49 := hFc47.below hB49; have hFd49 := hFd47.below hB49; have hFg49 := hFg47.below hB49; have hC49 := bnext hC47 hB49)
                        | ((fail_if_success (have _ := hB50)); (have _ := hB49); (refine at_load_bk _ _ _ (by rfl) (by rfl) hXb49 (by rfl) ?_))
                        | ((fail_if_success (have _ := hB50)); (have _ := hB49); (refine at_load_ev _ _ _ (by rfl) (by rfl) hXx49 (by rfl) ?_))
                        | ((fail_if_success (have _ := hB50)); (have _ := hB49); (refine at_load_ev _ _ _ (by rfl) (by rfl) hXy49 (by rfl) ?_))
                        | ((fail_if_success (have _ := hB50)); (have _ := hB49); (refine at_load_bk _ _ _ (by rfl) (by rfl) hXc49 (by rfl) ?_))
                        | ((fail_if_success (have _ := hB50)); (have _ := hB49); (refine at_load_bk _ _ _ (by rfl) (by rfl) hXd49 (by rfl) ?_))
                        | ((fail_if_success (have _ := hB50)); (have _ := hB49); (refine at_load_bk _ _ _ (by rfl) (by rfl) hXg49 (by rfl) ?_))
                        | ((fail_if_success (have _ := hB50)); (have _ := hB49); (with_reducible refine (hA4 hC49 _ hFg49).mono ?_); rintro e w50 ⟨h50, rfl, i50, -, hB50⟩; have hXb50 := hXb49.below hB50; have hXx50 := hXx49.below hB50; have hXy50 := hXy49.below hB50; have hXc50 := hXc49.below hB50; have hXd50 := hXd49.below hB50; have hXg50 := hXg49.below hB50; have hFc50 := hFc49.below hB50; have hFd50 := hFd49.below hB50; have hFg50 := hFg49.below hB50; have hC50 := bnext hC49 hB50; have hFk50 := i50)
                        | ((fail_if_success (have _ := hB51)); (have _ := hB50); (refine at_alloc_bk (by rfl) (by rfl) ?_); intro V51 hXk51 hB51 hz51)
                        | ((fail_if_success (have _ := hB52)); (have _ := hB51); (refine at_store_bk _ _ _ _ _ (by rfl) (by rfl) (by rfl) hXk51 rfl (by rfl) ?_); intro V52 hXk52 hg52 hz52; have hB52 := hB51.grown hg52 hB51.size (by simp); have hXb52 := hXb50.below hB52; have hXx52 := hXx50.below hB52; have hXy52 := hXy50.below hB52; have hXc52 := hXc50.below hB52; have hXd52 := hXd50.below hB52; have hXg52 := hXg50.below hB52; have hFc52 := hFc50.below hB52; have hFd52 := hFd50.below hB52; have hFg52 := hFg50.below hB52; have hFk52 := hFk50.below hB52; have hC52 := bnext hC50 hB52)
                        | ((fail_if_success (have _ := hB53)); (have _ := hB52); (refine at_load_bk _ _ _ (by rfl) (by rfl) hXb52 (by rfl) ?_))
                        | ((fail_if_success (have _ := hB53)); (have _ := hB52); (refine at_load_ev _ _ _ (by rfl) (by rfl) hXx52 (by rfl) ?_))
                        | ((fail_if_success (have _ := hB53)); (have _ := hB52); (refine at_load_ev _ _ _ (by rfl) (by rfl) hXy52 (by rfl) ?_))
                        | ((fail_if_success (have _ := hB53)); (have _ := hB52); (refine at_load_bk _ _ _ (by rfl) (by rfl) hXc52 (by rfl) ?_))
                        | ((fail_if_success (have _ := hB53)); (have _ := hB52); (refine at_load_bk _ _ _ (by rfl) (by rfl) hXd52 (by rfl) ?_))
                        | ((fail_if_success (have _ := hB53)); (have _ := hB52); (refine at_load_bk _ _ _ (by rfl) (by rfl) hXg52 (by rfl) ?_))
                        | ((fail_if_success (have _ := hB53)); (have _ := hB52); (refine at_load_bk _ _ _ (by rfl) (by rfl) hXk52 (by rfl) ?_)))
                      go_ret
                      exact ⟨rfl, hC52⟩
                  · clear HS
                    go_wp2_with (first
                      | ((fail_if_success (have _ := hB41)); (refine at_load_bk _ _ _ (by rfl) (by rfl) hXb (by rfl) ?_))
                      | ((fail_if_success (have _ := hB41)); (refine at_load_ev _ _ _ (by rfl) (by rfl) hXx (by rfl) ?_))
                      | ((fail_if_success (have _ := hB41)); (refine at_load_ev _ _ _ (by rfl) (by rfl) hXy (by rfl) ?_))
                      | ((fail_if_success (have _ := hB41)); (with_reducible refine (hA1 hC).mono ?_); rintro e w41 ⟨h41, rfl, i41, -, hB41⟩; have hXb41 := hXb.below hB41; have hXx41 := hXx.below hB41; have hXy41 := hXy.below hB41; have hC41 := bnext hC hB41; have hFc41 := i41)
                      | ((fail_if_success (have _ := hB42)); (have _ := hB41); (refine at_alloc_bk (by rfl) (by rfl) ?_); intro V42 hXc42 hB42 hz42)
                      | ((fail_if_success (have _ := hB43)); (have _ := hB42); (refine at_store_bk _ _ _ _ _ (by rfl) (by rfl) (by rfl) hXc42 rfl (by rfl) ?_); intro V43 hXc43 hg43 hz43; have hB43 := hB42.grown hg43 hB42.size (by simp); have hXb43 := hXb41.below hB43; have hXx43 := hXx41.below hB43; have hXy43 := hXy41.below hB43; have hFc43 := hFc41.below hB43; have hC43 := bnext hC41 hB43)
                      | ((fail_if_success (have _ := hB44)); (have _ := hB43); (refine at_load_bk _ _ _ (by rfl) (by rfl) hXb43 (by rfl) ?_))
                      | ((fail_if_success (have _ := hB44)); (have _ := hB43); (refine at_load_ev _ _ _ (by rfl) (by rfl) hXx43 (by rfl) ?_))
                      | ((fail_if_success (have _ := hB44)); (have _ := hB43); (refine at_load_ev _ _ _ (by rfl) (by rfl) hXy43 (by rfl) ?_))
                      | ((fail_if_success (have _ := hB44)); (have _ := hB43); (refine at_load_bk _ _ _ (by rfl) (by rfl) hXc43 (by rfl) ?_))
                      | ((fail_if_success (have _ := hB44)); (have _ := hB43); (with_reducible refine (hA2 hC43 _ hFc43).mono ?_); rintro e w44 ⟨h44, rfl, i44, -, hB44⟩; have hXb44 := hXb43.below hB44; have hXx44 := hXx43.below hB44; have hXy44 := hXy43.below hB44; have hXc44 := hXc43.below hB44; have hFc44 := hFc43.below hB44; have hC44 := bnext hC43 hB44; have hFd44 := i44)
                      | ((fail_if_success (have _ := hB45)); (have _ := hB44); (refine at_alloc_bk (by rfl) (by rfl) ?_); intro V45 hXd45 hB45 hz45)
                      | ((fail_if_success (have _ := hB46)); (have _ := hB45); (refine at_store_bk _ _ _ _ _ (by rfl) (by rfl) (by rfl) hXd45 rfl (by rfl) ?_); intro V46 hXd46 hg46 hz46; have hB46 := hB45.grown hg46 hB45.size (by simp); have hXb46 := hXb44.below hB46; have hXx46 := hXx44.below hB46; have hXy46 := hXy44.below hB46; have hXc46 := hXc44.below hB46; have hFc46 := hFc44.below hB46; have hFd46 := hFd44.below hB46; have hC46 := bnext hC44 hB46)
                      | ((fail_if_success (have _ := hB47)); (have _ := hB46); (refine at_load_bk _ _ _ (by rfl) (by rfl) hXb46 (by rfl) ?_))
                      | ((fail_if_success (have _ := hB47)); (have _ := hB46); (refine at_load_ev _ _ _ (by rfl) (by rfl) hXx46 (by rfl) ?_))
                      | ((fail_if_success (have _ := hB47)); (have _ := hB46); (refine at_load_ev _ _ _ (by rfl) (by rfl) hXy46 (by rfl) ?_))
                      | ((fail_if_success (have _ := hB47)); (have _ := hB46); (refine at_load_bk _ _ _ (by rfl) (by rfl) hXc46 (by rfl) ?_))
                      | ((fail_if_success (have _ := hB47)); (have _ := hB46); (refine at_load_bk _ _ _ (by rfl) (by rfl) hXd46 (by rfl) ?_))
                      | ((fail_if_success (have _ := hB47)); (have _ := hB46); (with_reducible refine (hA3 hC46).mono ?_); rintro e w47 ⟨h47, rfl, i47, -, hB47⟩; have hXb47 := hXb46.below hB47; have hXx47 := hXx46.below hB47; have hXy47 := hXy46.below hB47; have hXc47 := hXc46.below hB47; have hXd47 := hXd46.below hB47; have hFc47 := hFc46.below hB47; have hFd47 := hFd46.below hB47; have hC47 := bnext hC46 hB47; have hFg47 := i47)
                      | ((fail_if_success (have _ := hB48)); (have _ := hB47); (refine at_alloc_bk (by rfl) (by rfl) ?_); intro V48 hXg48 hB48 hz48)
                      | ((fail_if_success (have _ := hB49)); (have _ := hB48); (refine at_store_bk _ _ _ _ _ (by rfl) (by rfl) (by rfl) hXg48 rfl (by rfl) ?_); intro V49 hXg49 hg49 hz49; have hB49 := hB48.grown hg49 hB48.size (by simp); have hXb49 := hXb47.below hB49; have hXx49 := hXx47.below hB49; have hXy49 := hXy47.below hB49; have hXc49 := hXc47.below hB49; have hXd49 := hXd47.below hB49; have hFc49 := hFc47.below hB49; have hFd49 := hFd47.below hB49; have hFg49 := hFg47.below hB49; have hC49 := bnext hC47 hB49)
                      | ((fail_if_success (have _ := hB50)); (have _ := hB49); (refine at_load_bk _ _ _ (by rfl) (by rfl) hXb49 (by rfl) ?_))
                      | ((fail_if_success (have _ := hB50)); (have _ := hB49); (refine at_load_ev _ _ _ (by rfl) (by rfl) hXx49 (by rfl) ?_))
                      | ((fail_if_success (have _ := hB50)); (have _ := hB49); (refine at_load_ev _ _ _ (by rfl) (by rfl) hXy49 (by rfl) ?_))
                      | ((fail_if_success (have _ := hB50)); (have _ := hB49); (refine at_load_bk _ _ _ (by rfl) (by rfl) hXc49 (by rfl) ?_))
                      | ((fail_if_success (have _ := hB50)); (have _ := hB49); (refine at_load_bk _ _ _ (by rfl) (by rfl) hXd49 (by rfl) ?_))
                      | ((fail_if_success (have _ := hB50)); (have _ := hB49); (refine at_load_bk _ _ _ (by rfl) (by rfl) hXg49 (by rfl) ?_))
                      | ((fail_if_success (have _ := hB50)); (have _ := hB49); (with_reducible refine (hA4 hC49 _ hFg49).mono ?_); rintro e w50 ⟨h50, rfl, i50, -, hB50⟩; have hXb50 := hXb49.below hB50; have hXx50 := hXx49.below hB50; have hXy50 := hXy49.below hB50; have hXc50 := hXc49.below hB50; have hXd50 := hXd49.below hB50; have hXg50 := hXg49.below hB50; have hFc50 := hFc49.below hB50; have hFd50 := hFd49.below hB50; have hFg50 := hFg49.below hB50; have hC50 := bnext hC49 hB50; have hFk50 := i50)
                      | ((fail_if_success (have _ := hB51)); (have _ := hB50); (refine at_alloc_bk (by rfl) (by rfl) ?_); intro V51 hXk51 hB51 hz51)
                      | ((fail_if_success (have _ := hB52)); (have _ := hB51); (refine at_store_bk _ _ _ _ _ (by rfl) (by rfl) (by rfl) hXk51 rfl (by rfl) ?_); intro V52 hXk52 hg52 hz52; have hB52 := hB51.grown hg52 hB51.size (by simp); have hXb52 := hXb50.below hB52; have hXx52 := hXx50.below hB52; have hXy52 := hXy50.below hB52; have hXc52 := hXc50.below hB52; have hXd52 := hXd50.below hB52; have hXg52 := hXg50.below hB52; have hFc52 := hFc50.below hB52; have hFd52 := hFd50.below hB52; have hFg52 := hFg50.below hB52; have hFk52 := hFk50.below hB52; have hC52 := bnext hC50 hB52)
                      | ((fail_if_success (have _ := hB53)); (have _ := hB52); (refine at_load_bk _ _ _ (by rfl) (by rfl) hXb52 (by rfl) ?_))
                      | ((fail_if_success (have _ := hB53)); (have _ := hB52); (refine at_load_ev _ _ _ (by rfl) (by rfl) hXx52 (by rfl) ?_))
                      | ((fail_if_success (have _ := hB53)); (have _ := hB52); (refine at_load_ev _ _ _ (by rfl) (by rfl) hXy52 (by rfl) ?_))
                      | ((fail_if_success (have _ := hB53)); (have _ := hB52); (refine at_load_bk _ _ _ (by rfl) (by rfl) hXc52 (by rfl) ?_))
                      | ((fail_if_success (have _ := hB53)); (have _ := hB52); (refine at_load_bk _ _ _ (by rfl) (by rfl) hXd52 (by rfl) ?_))
                      | ((fail_if_success (have _ := hB53)); (have _ := hB52); (refine at_load_bk _ _ _ (by rfl) (by rfl) hXg52 (by rfl) ?_))
                      | ((fail_if_success (have _ := hB53)); (have _ := hB52); (refine at_load_bk _ _ _ (by rfl) (by rfl) hXk52 (by rfl) ?_)))
                    go_ret
                    exact ⟨rfl, hC52⟩
                · clear HS
                  go_wp2_with (first
                    | ((fail_if_success (have _ := hB41)); (refine at_load_bk _ _ _ (by rfl) (by rfl) hXb (by rfl) ?_))
                    | ((fail_if_success (have _ := hB41)); (refine at_load_ev _ _ _ (by rfl) (by rfl) hXx (by rfl) ?_))
                    | ((fail_if_success (have _ := hB41)); (refine at_load_ev _ _ _ (by rfl) (by rfl) hXy (by rfl) ?_))
                    | ((fail_if_success (have _ := hB41)); (with_reducible refine (hA1 hC).mono ?_); rintro e w41 ⟨h41, rfl, i41, -, hB41⟩; have hXb41 := hXb.below hB41; have hXx41 := hXx.below hB41; have hXy41 := hXy.below hB41; have hC41 := bnext hC hB41; have hFc41 := i41)
                    | ((fail_if_success (have _ := hB42)); (have _ := hB41); (refine at_alloc_bk (by rfl) (by rfl) ?_); intro V42 hXc42 hB42 hz42)
                    | ((fail_if_success (have _ := hB43)); (have _ := hB42); (refine at_store_bk _ _ _ _ _ (by rfl) (by rfl) (by rfl) hXc42 rfl (by rfl) ?_); intro V43 hXc43 hg43 hz43; have hB43 := hB42.grown hg43 hB42.size (by simp); have hXb43 := hXb41.below hB43; have hXx43 := hXx41.below hB43; have hXy43 := hXy41.below hB43; have hFc43 := hFc41.below hB43; have hC43 := bnext hC41 hB43)
                    | ((fail_if_success (have _ := hB44)); (have _ := hB43); (refine at_load_bk _ _ _ (by rfl) (by rfl) hXb43 (by rfl) ?_))
                    | ((fail_if_success (have _ := hB44)); (have _ := hB43); (refine at_load_ev _ _ _ (by rfl) (by rfl) hXx43 (by rfl) ?_))
                    | ((fail_if_success (have _ := hB44)); (have _ := hB43); (refine at_load_ev _ _ _ (by rfl) (by rfl) hXy43 (by rfl) ?_))
                    | ((fail_if_success (have _ := hB44)); (have _ := hB43); (refine at_load_bk _ _ _ (by rfl) (by rfl) hXc43 (by rfl) ?_))
                    | ((fail_if_success (have _ := hB44)); (have _ := hB43); (with_reducible refine (hA2 hC43 _ hFc43).mono ?_); rintro e w44 ⟨h44, rfl, i44, -, hB44⟩; have hXb44 := hXb43.below hB44; have hXx44 := hXx43.below hB44; have hXy44 := hXy43.below hB44; have hXc44 := hXc43.below hB44; have hFc44 := hFc43.below hB44; have hC44 := bnext hC43 hB44; have hFd44 := i44)
                    | ((fail_if_success (have _ := hB45)); (have _ := hB44); (refine at_alloc_bk (by rfl) (by rfl) ?_); intro V45 hXd45 hB45 hz45)
                    | ((fail_if_success (have _ := hB46)); (have _ := hB45); (refine at_store_bk _ _ _ _ _ (by rfl) (by rfl) (by rfl) hXd45 rfl (by rfl) ?_); intro V46 hXd46 hg46 hz46; have hB46 := hB45.grown hg46 hB45.size (by simp); have hXb46 := hXb44.below hB46; have hXx46 := hXx44.below hB46; have hXy46 := hXy44.below hB46; have hXc46 := hXc44.below hB46; have hFc46 := hFc44.below hB46; have hFd46 := hFd44.below hB46; have hC46 := bnext hC44 hB46)
                    | ((fail_if_success (have _ := hB47)); (have _ := hB46); (refine at_load_bk _ _ _ (by rfl) (by rfl) hXb46 (by rfl) ?_))
                    | ((fail_if_success (have _ := hB47)); (have _ := hB46); (refine at_load_ev _ _ _ (by rfl) (by rfl) hXx46 (by rfl) ?_))
                    | ((fail_if_success (have _ := hB47)); (have _ := hB46); (refine at_load_ev _ _ _ (by rfl) (by rfl) hXy46 (by rfl) ?_))
                    | ((fail_if_success (have _ := hB47)); (have _ := hB46); (refine at_load_bk _ _ _ (by rfl) (by rfl) hXc46 (by rfl) ?_))
                    | ((fail_if_success (have _ := hB47)); (have _ := hB46); (refine at_load_bk _ _ _ (by rfl) (by rfl) hXd46 (by rfl) ?_))
                    | ((fail_if_success (have _ := hB47)); (have _ := hB46); (with_reducible refine (hA3 hC46).mono ?_); rintro e w47 ⟨h47, rfl, i47, -, hB47⟩; have hXb47 := hXb46.below hB47; have hXx47 := hXx46.below hB47; have hXy47 := hXy46.below hB47; have hXc47 := hXc46.below hB47; have hXd47 := hXd46.below hB47; have hFc47 := hFc46.below hB47; have hFd47 := hFd46.below hB47; have hC47 := bnext hC46 hB47; have hFg47 := i47)
                    | ((fail_if_success (have _ := hB48)); (have _ := hB47); (refine at_alloc_bk (by rfl) (by rfl) ?_); intro V48 hXg48 hB48 hz48)
                    | ((fail_if_success (have _ := hB49)); (have _ := hB48); (refine at_store_bk _ _ _ _ _ (by rfl) (by rfl) (by rfl) hXg48 rfl (by rfl) ?_); intro V49 hXg49 hg49 hz49; have hB49 := hB48.grown hg49 hB48.size (by simp); have hXb49 := hXb47.below hB49; have hXx49 := hXx47.below hB49; have hXy49 := hXy47.below hB49; have hXc49 := hXc47.below hB49; have hXd49 := hXd47.below hB49; have hFc49 := hFc47.below hB49; have hFd49 := hFd47.below hB49; have hFg49 := hFg47.below hB49; have hC49 := bnext hC47 hB49)
                    | ((fail_if_success (have _ := hB50)); (have _ := hB49); (refine at_load_bk _ _ _ (by rfl) (by rfl) hXb49 (by rfl) ?_))
                    | ((fail_if_success (have _ := hB50)); (have _ := hB49); (refine at_load_ev _ _ _ (by rfl) (by rfl) hXx49 (by rfl) ?_))
                    | ((fail_if_success (have _ := hB50)); (have _ := hB49); (refine at_load_ev _ _ _ (by rfl) (by rfl) hXy49 (by rfl) ?_))
                    | ((fail_if_success (have _ := hB50)); (have _ := hB49); (refine at_load_bk _ _ _ (by rfl) (by rfl) hXc49 (by rfl) ?_))
                    | ((fail_if_success (have _ := hB50)); (have _ := hB49); (refine at_load_bk _ _ _ (by rfl) (by rfl) hXd49 (by rfl) ?_))
                    | ((fail_if_success (have _ := hB50)); (have _ := hB49); (refine at_load_bk _ _ _ (by rfl) (by rfl) hXg49 (by rfl) ?_))
                    | ((fail_if_success (have _ := hB50)); (have _ := hB49); (with_reducible refine (hA4 hC49 _ hFg49).mono ?_); rintro e w50 ⟨h50, rfl, i50, -, hB50⟩; have hXb50 := hXb49.below hB50; have hXx50 := hXx49.below hB50; have hXy50 := hXy49.below hB50; have hXc50 := hXc49.below hB50; have hXd50 := hXd49.below hB50; have hXg50 := hXg49.below hB50; have hFc50 := hFc49.below hB50; have hFd50 := hFd49.below hB50; have hFg50 := hFg49.below hB50; have hC50 := bnext hC49 hB50; have hFk50 := i50)
                    | ((fail_if_success (have _ := hB51)); (have _ := hB50); (refine at_alloc_bk (by rfl) (by rfl) ?_); intro V51 hXk51 hB51 hz51)
                    | ((fail_if_success (have _ := hB52)); (have _ := hB51); (refine at_store_bk _ _ _ _ _ (by rfl) (by rfl) (by rfl) hXk51 rfl (by rfl) ?_); intro V52 hXk52 hg52 hz52; have hB52 := hB51.grown hg52 hB51.size (by simp); have hXb52 := hXb50.below hB52; have hXx52 := hXx50.below hB52; have hXy52 := hXy50.below hB52; have hXc52 := hXc50.below hB52; have hXd52 := hXd50.below hB52; have hXg52 := hXg50.below hB52; have hFc52 := hFc50.below hB52; have hFd52 := hFd50.below hB52; have hFg52 := hFg50.below hB52; have hFk52 := hFk50.below hB52; have hC52 := bnext hC50 hB52)
                    | ((fail_if_success (have _ := hB53)); (have _ := hB52); (refine at_load_bk _ _ _ (by rfl) (by rfl) hXb52 (by rfl) ?_))
                    | ((fail_if_success (have _ := hB53)); (have _ := hB52); (refine at_load_ev _ _ _ (by rfl) (by rfl) hXx52 (by rfl) ?_))
                    | ((fail_if_success (have _ := hB53)); (have _ := hB52); (refine at_load_ev _ _ _ (by rfl) (by rfl) hXy52 (by rfl) ?_))
                    | ((fail_if_success (have _ := hB53)); (have _ := hB52); (refine at_load_bk _ _ _ (by rfl) (by rfl) hXc52 (by rfl) ?_))
                    | ((fail_if_success (have _ := hB53)); (have _ := hB52); (refine at_load_bk _ _ _ (by rfl) (by rfl) hXd52 (by rfl) ?_))
                    | ((fail_if_success (have _ := hB53)); (have _ := hB52); (refine at_load_bk _ _ _ (by rfl) (by rfl) hXg52 (by rfl) ?_))
                    | ((fail_if_success (have _ := hB53)); (have _ := hB52); (refine at_load_bk _ _ _ (by rfl) (by rfl) hXk52 (by rfl) ?_)))
                  go_ret
                  exact ⟨rfl, hC52⟩
              · clear HS
                go_wp2_with (first
                  | ((fail_if_success (have _ := hB41)); (refine at_load_bk _ _ _ (by rfl) (by rfl) hXb (by rfl) ?_))
                  | ((fail_if_success (have _ := hB41)); (refine at_load_ev _ _ _ (by rfl) (by rfl) hXx (by rfl) ?_))
                  | ((fail_if_success (have _ := hB41)); (refine at_load_ev _ _ _ (by rfl) (by rfl) hXy (by rfl) ?_))
                  | ((fail_if_success (have _ := hB41)); (with_reducible refine (hA1 hC).mono ?_); rintro e w41 ⟨h41, rfl, i41, -, hB41⟩; have hXb41 := hXb.below hB41; have hXx41 := hXx.below hB41; have hXy41 := hXy.below hB41; have hC41 := bnext hC hB41; have hFc41 := i41)
                  | ((fail_if_success (have _ := hB42)); (have _ := hB41); (refine at_alloc_bk (by rfl) (by rfl) ?_); intro V42 hXc42 hB42 hz42)
                  | ((fail_if_success (have _ := hB43)); (have _ := hB42); (refine at_store_bk _ _ _ _ _ (by rfl) (by rfl) (by rfl) hXc42 rfl (by rfl) ?_); intro V43 hXc43 hg43 hz43; have hB43 := hB42.grown hg43 hB42.size (by simp); have hXb43 := hXb41.below hB43; have hXx43 := hXx41.below hB43; have hXy43 := hXy41.below hB43; have hFc43 := hFc41.below hB43; have hC43 := bnext hC41 hB43)
                  | ((fail_if_success (have _ := hB44)); (have _ := hB43); (refine at_load_bk _ _ _ (by rfl) (by rfl) hXb43 (by rfl) ?_))
                  | ((fail_if_success (have _ := hB44)); (have _ := hB43); (refine at_load_ev _ _ _ (by rfl) (by rfl) hXx43 (by rfl) ?_))
                  | ((fail_if_success (have _ := hB44)); (have _ := hB43); (refine at_load_ev _ _ _ (by rfl) (by rfl) hXy43 (by rfl) ?_))
                  | ((fail_if_success (have _ := hB44)); (have _ := hB43); (refine at_load_bk _ _ _ (by rfl) (by rfl) hXc43 (by rfl) ?_))
                  | ((fail_if_success (have _ := hB44)); (have _ := hB43); (with_reducible refine (hA2 hC43 _ hFc43).mono ?_); rintro e w44 ⟨h44, rfl, i44, -, hB44⟩; have hXb44 := hXb43.below hB44; have hXx44 := hXx43.below hB44; have hXy44 := hXy43.below hB44; have hXc44 := hXc43.below hB44; have hFc44 := hFc43.below hB44; have hC44 := bnext hC43 hB44; have hFd44 := i44)
                  | ((fail_if_success (have _ := hB45)); (have _ := hB44); (refine at_alloc_bk (by rfl) (by rfl) ?_); intro V45 hXd45 hB45 hz45)
                  | ((fail_if_success (have _ := hB46)); (have _ := hB45); (refine at_store_bk _ _ _ _ _ (by rfl) (by rfl) (by rfl) hXd45 rfl (by rfl) ?_); intro V46 hXd46 hg46 hz46; have hB46 := hB45.grown hg46 hB45.size (by simp); have hXb46 := hXb44.below hB46; have hXx46 := hXx44.below hB46; have hXy46 := hXy44.below hB46; have hXc46 := hXc44.below hB46; have hFc46 := hFc44.below hB46; have hFd46 := hFd44.below hB46; have hC46 := bnext hC44 hB46)
                  | ((fail_if_success (have _ := hB47)); (have _ := hB46); (refine at_load_bk _ _ _ (by rfl) (by rfl) hXb46 (by rfl) ?_))
                  | ((fail_if_success (have _ := hB47)); (have _ := hB46); (refine at_load_ev _ _ _ (by rfl) (by rfl) hXx46 (by rfl) ?_))
                  | ((fail_if_success (have _ := hB47)); (have _ := hB46); (refine at_load_ev _ _ _ (by rfl) (by rfl) hXy46 (by rfl) ?_))
                  | ((fail_if_success (have _ := hB47)); (have _ := hB46); (refine at_load_bk _ _ _ (by rfl) (by rfl) hXc46 (by rfl) ?_))
                  | ((fail_if_success (have _ := hB47)); (have _ := hB46); (refine at_load_bk _ _ _ (by rfl) (by rfl) hXd46 (by rfl) ?_))
                  | ((fail_if_success (have _ := hB47)); (have _ := hB46); (with_reducible refine (hA3 hC46).mono ?_); rintro e w47 ⟨h47, rfl, i47, -, hB47⟩; have hXb47 := hXb46.below hB47; have hXx47 := hXx46.below hB47; have hXy47 := hXy46.below hB47; have hXc47 := hXc46.below hB47; have hXd47 := hXd46.below hB47; have hFc47 := hFc46.below hB47; have hFd47 := hFd46.below hB47; have hC47 := bnext hC46 hB47; have hFg47 := i47)
                  | ((fail_if_success (have _ := hB48)); (have _ := hB47); (refine at_alloc_bk (by rfl) (by rfl) ?_); intro V48 hXg48 hB48 hz48)
                  | ((fail_if_success (have _ := hB49)); (have _ := hB48); (refine at_store_bk _ _ _ _ _ (by rfl) (by rfl) (by rfl) hXg48 rfl (by rfl) ?_); intro V49 hXg49 hg49 hz49; have hB49 := hB48.grown hg49 hB48.size (by simp); have hXb49 := hXb47.below hB49; have hXx49 := hXx47.below hB49; have hXy49 := hXy47.below hB49; have hXc49 := hXc47.below hB49; have hXd49 := hXd47.below hB49; have hFc49 := hFc47.below hB49; have hFd49 := hFd47.below hB49; have hFg49 := hFg47.below hB49; have hC49 := bnext hC47 hB49)
                  | ((fail_if_success (have _ := hB50)); (have _ := hB49); (refine at_load_bk _ _ _ (by rfl) (by rfl) hXb49 (by rfl) ?_))
                  | ((fail_if_success (have _ := hB50)); (have _ := hB49); (refine at_load_ev _ _ _ (by rfl) (by rfl) hXx49 (by rfl) ?_))
                  | ((fail_if_success (have _ := hB50)); (have _ := hB49); (refine at_load_ev _ _ _ (by rfl) (by rfl) hXy49 (by rfl) ?_))
                  | ((fail_if_success (have _ := hB50)); (have _ := hB49); (refine at_load_bk _ _ _ (by rfl) (by rfl) hXc49 (by rfl) ?_))
                  | ((fail_if_success (have _ := hB50)); (have _ := hB49); (refine at_load_bk _ _ _ (by rfl) (by rfl) hXd49 (by rfl) ?_))
                  | ((fail_if_success (have _ := hB50)); (have _ := hB49); (refine at_load_bk _ _ _ (by rfl) (by rfl) hXg49 (by rfl) ?_))
                  | ((fail_if_success (have _ := hB50)); (have _ := hB49); (with_reducible refine (hA4 hC49 _ hFg49).mono ?_); rintro e w50 ⟨h50, rfl, i50, -, hB50⟩; have hXb50 := hXb49.below hB50; have hXx50 := hXx49.below hB50; have hXy50 := hXy49.below hB50; have hXc50 := hXc49.below hB50; have hXd50 := hXd49.below hB50; have hXg50 := hXg49.below hB50; have hFc50 := hFc49.below hB50; have hFd50 := hFd49.below hB50; have hFg50 := hFg49.below hB50; have hC50 := bnext hC49 hB50; have hFk50 := i50)
                  | ((fail_if_success (have _ := hB51)); (have _ := hB50); (refine at_alloc_bk (by rfl) (by rfl) ?_); intro V51 hXk51 hB51 hz51)
                  | ((fail_if_success (have _ := hB52)); (have _ := hB51); (refine at_store_bk _ _ _ _ _ (by rfl) (by rfl) (by rfl) hXk51 rfl (by rfl) ?_); intro V52 hXk52 hg52 hz52; have hB52 := hB51.grown hg52 hB51.size (by simp); have hXb52 := hXb50.below hB52; have hXx52 := hXx50.below hB52; have hXy52 := hXy50.below hB52; have hXc52 := hXc50.below hB52; have hXd52 := hXd50.below hB52; have hXg52 := hXg50.below hB52; have hFc52 := hFc50.below hB52; have hFd52 := hFd50.below hB52; have hFg52 := hFg50.below hB52; have hFk52 := hFk50.below hB52; have hC52 := bnext hC50 hB52)
                  | ((fail_if_success (have _ := hB53)); (have _ := hB52); (refine at_load_bk _ _ _ (by rfl) (by rfl) hXb52 (by rfl) ?_))
                  | ((fail_if_success (have _ := hB53)); (have _ := hB52); (refine at_load_ev _ _ _ (by rfl) (by rfl) hXx52 (by rfl) ?_))
                  | ((fail_if_success (have _ := hB53)); (have _ := hB52); (refine at_load_ev _ _ _ (by rfl) (by rfl) hXy52 (by rfl) ?_))
                  | ((fail_if_success (have _ := hB53)); (have _ := hB52); (refine at_load_bk _ _ _ (by rfl) (by rfl) hXc52 (by rfl) ?_))
                  | ((fail_if_success (have _ := hB53)); (have _ := hB52); (refine at_load_bk _ _ _ (by rfl) (by rfl) hXd52 (by rfl) ?_))
                  | ((fail_if_success (have _ := hB53)); (have _ := hB52); (refine at_load_bk _ _ _ (by rfl) (by rfl) hXg52 (by rfl) ?_))
                  | ((fail_if_success (have _ := hB53)); (have _ := hB52); (refine at_load_bk _ _ _ (by rfl) (by rfl) hXk52 (by rfl) ?_)))
                go_ret
                exact ⟨rfl, hC52⟩
        · have m2 : decide (h2.k = 1) = false := decide_eq_false k2
          have m2' : (h2.k != 1) = true := by simp [k2]
          clear k2
          go_enter Try.func3, Try.ntmps3
          go_wp2_with (first
            | ((fail_if_success (have _ := hB1)); (refine at_box_bk _ _ (by rfl) (by rfl) (by rfl) ?_); intro V1 hXb1 hB1 hz1; have hC1 := hB1)
            | ((fail_if_success (have _ := hB2)); (have _ := hB1); (refine at_box_ev _ _ (by rfl) (by rfl) (by rfl) ?_); intro V2 hXx2 hB2 hz2; have hXb2 := hXb1.below hB2; have hC2 := bnext hC1 hB2)
            | ((fail_if_success (have _ := hB3)); (have _ := hB2); (refine at_box_ev _ _ (by rfl) (by rfl) (by rfl) ?_); intro V3 hXy3 hB3 hz3; have hXb3 := hXb2.below hB3; have hXx3 := hXx2.below hB3; have hC3 := bnext hC2 hB3)
            | ((fail_if_success (have _ := hB4)); (have _ := hB3); (refine at_load_bk _ _ _ (by rfl) (by rfl) hXb3 (by rfl) ?_))
            | ((fail_if_success (have _ := hB4)); (have _ := hB3); (refine at_load_ev _ _ _ (by rfl) (by rfl) hXx3 (by rfl) ?_))
            | ((fail_if_success (have _ := hB4)); (have _ := hB3); (refine at_load_ev _ _ _ (by rfl) (by rfl) hXy3 (by rfl) ?_))
            | ((fail_if_success (have _ := hB4)); (have _ := hB3); (with_reducible refine (ha _).mono ?_); rintro e w4 ⟨rfl, hB4⟩; have hXb4 := hXb3.below hB4; have hXx4 := hXx3.below hB4; have hXy4 := hXy3.below hB4; have hC4 := bnext hC3 hB4)
            | ((fail_if_success (have _ := hB5)); (have _ := hB4); (refine at_load_bk _ _ _ (by rfl) (by rfl) hXb4 (by rfl) ?_))
            | ((fail_if_success (have _ := hB5)); (have _ := hB4); (refine at_load_ev _ _ _ (by rfl) (by rfl) hXx4 (by rfl) ?_))
            | ((fail_if_success (have _ := hB5)); (have _ := hB4); (refine at_load_ev _ _ _ (by rfl) (by rfl) hXy4 (by rfl) ?_))
            | ((fail_if_success (have _ := hB5)); (have _ := hB4); (with_reducible refine (hg1 _).mono ?_); rintro e w5 ⟨rfl, hB5⟩; have hXb5 := hXb4.below hB5; have hXx5 := hXx4.below hB5; have hXy5 := hXy4.below hB5; have hC5 := bnext hC4 hB5)
            | ((fail_if_success (have _ := hB6)); (have _ := hB5); (refine at_load_bk _ _ _ (by rfl) (by rfl) hXb5 (by rfl) ?_))
            | ((fail_if_success (have _ := hB6)); (have _ := hB5); (refine at_load_ev _ _ _ (by rfl) (by rfl) hXx5 (by rfl) ?_))
            | ((fail_if_success (have _ := hB6)); (have _ := hB5); (refine at_load_ev _ _ _ (by rfl) (by rfl) hXy5 (by rfl) ?_))
            | ((fail_if_success (have _ := hB6)); (have _ := hB5); (with_reducible refine (hg2 _).mono ?_); rintro e w6 ⟨rfl, hB6⟩; have hXb6 := hXb5.below hB6; have hXx6 := hXx5.below hB6; have hXy6 := hXy5.below hB6; have hC6 := bnext hC5 hB6; have kx := cells6 hXx6; have ky := cells6 hXy6)
            | ((fail_if_success (have _ := hB7)); (have _ := hB6); (refine at_load_bk _ _ _ (by rfl) (by rfl) hXb6 (by rfl) ?_))
            | ((fail_if_success (have _ := hB7)); (have _ := hB6); (refine at_load_ev _ _ _ (by rfl) (by rfl) hXx6 (by rfl) ?_))
            | ((fail_if_success (have _ := hB7)); (have _ := hB6); (refine at_load_ev _ _ _ (by rfl) (by rfl) hXy6 (by rfl) ?_)))
          go_ret
          exact ⟨rfl, hC6⟩
      · have m1 : decide (h1.k = 1) = false := decide_eq_false k1
        have m1' : (h1.k != 1) = true := by simp [k1]
        clear k1
        go_enter Try.func3, Try.ntmps3
        go_wp2_with (first
          | ((fail_if_success (have _ := hB1)); (refine at_box_bk _ _ (by rfl) (by rfl) (by rfl) ?_); intro V1 hXb1 hB1 hz1; have hC1 := hB1)
          | ((fail_if_success (have _ := hB2)); (have _ := hB1); (refine at_box_ev _ _ (by rfl) (by rfl) (by rfl) ?_); intro V2 hXx2 hB2 hz2; have hXb2 := hXb1.below hB2; have hC2 := bnext hC1 hB2)
          | ((fail_if_success (have _ := hB3)); (have _ := hB2); (refine at_box_ev _ _ (by rfl) (by rfl) (by rfl) ?_); intro V3 hXy3 hB3 hz3; have hXb3 := hXb2.below hB3; have hXx3 := hXx2.below hB3; have hC3 := bnext hC2 hB3)
          | ((fail_if_success (have _ := hB4)); (have _ := hB3); (refine at_load_bk _ _ _ (by rfl) (by rfl) hXb3 (by rfl) ?_))
          | ((fail_if_success (have _ := hB4)); (have _ := hB3); (refine at_load_ev _ _ _ (by rfl) (by rfl) hXx3 (by rfl) ?_))
          | ((fail_if_success (have _ := hB4)); (have _ := hB3); (refine at_load_ev _ _ _ (by rfl) (by rfl) hXy3 (by rfl) ?_))
          | ((fail_if_success (have _ := hB4)); (have _ := hB3); (with_reducible refine (ha _).mono ?_); rintro e w4 ⟨rfl, hB4⟩; have hXb4 := hXb3.below hB4; have hXx4 := hXx3.below hB4; have hXy4 := hXy3.below hB4; have hC4 := bnext hC3 hB4)
          | ((fail_if_success (have _ := hB5)); (have _ := hB4); (refine at_load_bk _ _ _ (by rfl) (by rfl) hXb4 (by rfl) ?_))
          | ((fail_if_success (have _ := hB5)); (have _ := hB4); (refine at_load_ev _ _ _ (by rfl) (by rfl) hXx4 (by rfl) ?_))
          | ((fail_if_success (have _ := hB5)); (have _ := hB4); (refine at_load_ev _ _ _ (by rfl) (by rfl) hXy4 (by rfl) ?_))
          | ((fail_if_success (have _ := hB5)); (have _ := hB4); (with_reducible refine (hg1 _).mono ?_); rintro e w5 ⟨rfl, hB5⟩; have hXb5 := hXb4.below hB5; have hXx5 := hXx4.below hB5; have hXy5 := hXy4.below hB5; have hC5 := bnext hC4 hB5)
          | ((fail_if_success (have _ := hB6)); (have _ := hB5); (refine at_load_bk _ _ _ (by rfl) (by rfl) hXb5 (by rfl) ?_))
          | ((fail_if_success (have _ := hB6)); (have _ := hB5); (refine at_load_ev _ _ _ (by rfl) (by rfl) hXx5 (by rfl) ?_))
          | ((fail_if_success (have _ := hB6)); (have _ := hB5); (refine at_load_ev _ _ _ (by rfl) (by rfl) hXy5 (by rfl) ?_))
          | ((fail_if_success (have _ := hB6)); (have _ := hB5); (with_reducible refine (hg2 _).mono ?_); rintro e w6 ⟨rfl, hB6⟩; have hXb6 := hXb5.below hB6; have hXx6 := hXx5.below hB6; have hXy6 := hXy5.below hB6; have hC6 := bnext hC5 hB6; have kx := cells6 hXx6; have ky := cells6 hXy6)
          | ((fail_if_success (have _ := hB7)); (have _ := hB6); (refine at_load_bk _ _ _ (by rfl) (by rfl) hXb6 (by rfl) ?_))
          | ((fail_if_success (have _ := hB7)); (have _ := hB6); (refine at_load_ev _ _ _ (by rfl) (by rfl) hXx6 (by rfl) ?_))
          | ((fail_if_success (have _ := hB7)); (have _ := hB6); (refine at_load_ev _ _ _ (by rfl) (by rfl) hXy6 (by rfl) ?_)))
        go_ret
        exact ⟨rfl, hC6⟩
end Go.Proofs.Ytnaofcggdjbocab.Book
