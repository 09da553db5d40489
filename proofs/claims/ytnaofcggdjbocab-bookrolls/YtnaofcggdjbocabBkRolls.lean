/-
  The walk of BookRolls. (Written by gen_bkrolls.py.)
-/
import Derived.Test.YtnaofcggdjbocabBkAlive
import Derived.Test.YtnaofcggdjbocabBkOne
import Derived.Test.YtnaofcggdjbocabPolOne
import Derived.Test.YtnaofcggdjbocabBkOrderPlain
namespace Go.Proofs.Ytnaofcggdjbocab.Book
open Go.RowKit Go.Proofs.Ytnaofcggdjbocab.Mem Go.Proofs.Ytnaofcggdjbocab.Policy Go.Proofs.Ytnaofcggdjbocab.Event Go.Proofs.Ytnaofcggdjbocab.Addr
set_option maxRecDepth 100000

section
variable {o : Oper} {a : Act} {w : World} {ops : Array Oper} {rest : List Oper} {Q : Exit → Act → World → Prop}
/-- What is granted into an entry's block. -/
theorem at_blk_g (x y : Operand) (g : Nat) (e : En) (v : Int) (ho : o.op = .store 22 x y) (hx : a.eval x = .pointer (some ⟨g, 13, none⟩)) (hy : a.eval y = .int .u64 v) (hb : Blk w g 46 (nl e)) (hw : Region.wanted o (yielded ops a.tmps) = true)
    (hK : ∀ w', Blk w' g 46 (nl ⟨e.p, v⟩) → w.grownBy w' (some g) → Hid (w'.heap.size = w.heap.size) → wpList Try.prog ops Q rest (a.put o.dst undef) w') : wpList Try.prog ops Q (o :: rest) a w := by
  have h : EO g w (.slice (some ⟨g, 0, none⟩) 1 1) [e] := eo_of (rest := []) (by simpa using hb) rfl (Nat.le_refl _) (Nat.le_refl _) (by decide) (by simp [len_en])
  refine at_own_g x y g g 0 1 1 [e] e v ho (by simpa using hx) hy h rfl hw fun w2 h1 h2 h3 => hK w2 ?_ h2 h3
  obtain ⟨rs, hX, -, -, -, -, hl⟩ := h1.blk
  have h0 : rs = [] := by
    have : rs.length = 0 := by
      simp only [List.set_cons_zero, List.flatMap_cons, List.flatMap_nil, List.append_nil, List.length_append, len_en] at hl
      omega
    exact List.eq_nil_of_length_eq_zero this
  subst h0
  simpa using hX
end
theorem pol_of {w : World} {b o : Nat} {e : En} (h : ∀ j v, (nl e)[j]? = some v → w.cell? ⟨b, o + j, none⟩ = some v) : ∀ j v, (pl e.p)[j]? = some v → w.cell? ⟨b, o + j, none⟩ = some v := fun j v hv => by
  refine h j v ?_
  have hj : j < (pl e.p).length := (List.getElem?_eq_some_iff.1 hv).1
  rw [nl, List.getElem?_append_left hj]
  exact hv
/-- Behind a new period. -/
theorem roll_is {t : Int} {es : List En} (h : rightB ⟨t, es⟩ = true) : ∃ P : Bool, decide (t < 281474976710656) = P ∧ (appE ⟨t, es⟩ (periodE (t + 1)) == 0) = P ∧ (appB ⟨t, es⟩ (periodE (t + 1))).es = if P = true then rollE es else es := by
  have ht := (rightB_iff.1 h).1
  simp only at ht
  by_cases hl : t < 281474976710656
  · have hr : rightE (periodE (t + 1)) = true := right_iff.2 (.inr (.inr ⟨t + 1, rfl, valB_iff.2 (by omega)⟩))
    have ha := behind_period h hr
    rw [if_pos rfl] at ha
    exact ⟨true, decide_eq_true hl, by rw [(app_some ha).2]; rfl, by rw [(app_some ha).1]; rfl⟩
  · have ha : applyO ⟨t, es⟩ (periodE (t + 1)) = none := by
      unfold applyO
      rw [if_neg]
      rintro ⟨-, hr⟩
      rcases right_iff.1 hr with ⟨ps, ds, he, _⟩ | ⟨s, g, he, _, _⟩ | ⟨t', he, hv⟩
      · simp [periodE, commitE] at he
      · simp [periodE, leaseE] at he
      · simp only [periodE, Ev.mk.injEq, true_and] at he
        have := (valB_iff.1 hv).2
        omega
    exact ⟨false, decide_eq_false hl, by rw [(app_none ha).2]; rfl, by rw [(app_none ha).1]; rfl⟩
/-- Behind a lease. -/
theorem lease_is {t s g : Int} {es : List En} : (appB ⟨t, es⟩ (leaseE s g)).t = t ∧ ∃ P : Bool, (appE ⟨t, es⟩ (leaseE s g) == 0) = P ∧ (appB ⟨t, es⟩ (leaseE s g)).es = if P = true then leaseE1 es s g else es := by
  cases h : applyO ⟨t, es⟩ (leaseE s g) with
  | none => rw [(app_none h).1, (app_none h).2]; exact ⟨rfl, false, rfl, rfl⟩
  | some c =>
    rw [(app_some h).1, (app_some h).2]
    unfold applyO at h
    split at h
    · rw [if_neg (show ¬ (leaseE s g).k = 1 by simp [leaseE]), if_pos (show (leaseE s g).k = 2 from rfl)] at h
      split at h
      · obtain rfl := Option.some.inj h
        exact ⟨rfl, true, rfl, rfl⟩
      · cases h
    · cases h
theorem iw_period (w : World) (t : Int) : Is w ⟨3, 0, none, 0, 0, none, 0, 0, 0, t⟩ (periodE t) := ⟨⟨rfl, rfl, rfl, rfl⟩, ⟨rfl, RK.nil _ _⟩, rfl, Reads.nil _ _⟩
theorem iw_lease (w : World) (s g : Int) : Is w ⟨2, s, none, 0, 0, none, 0, 0, g, 0⟩ (leaseE s g) := ⟨⟨rfl, rfl, rfl, rfl⟩, ⟨rfl, RK.nil _ _⟩, rfl, Reads.nil _ _⟩
set_option maxHeartbeats 8000000 in
theorem rolls_any (hb : Bh) (b : Bk) (s g : Int) (w : World) (ib : IsB w hb b) (ob : BkOk b) (wg : Word g) :
    Calls Try.prog 4 #[bv hb, .int .i64 s, .int .u64 g] w fun e w' => e = .returned (.bool true) ∧ Below w.heap.size w w' := by
  have ha := fun W => alive_any W
  have hg1 := fun W => great_bk hb W
  cases hG1 : greatN hb.n 0 0 with
  | true =>
    rw [hG1] at hg1
    go_enter Try.func4, Try.ntmps4
    go_wp2_with (first
      | ((fail_if_success (have _ := hB1)); (refine at_box_bk _ _ (by rfl) (by rfl) (by rfl) ?_); intro V1 hXb1 hB1 hz1; have hC1 := hB1)
      | ((fail_if_success (have _ := hB2)); (have _ := hB1); (refine at_load_bk _ _ _ (by rfl) (by rfl) hXb1 (by rfl) ?_))
      | ((fail_if_success (have _ := hB2)); (have _ := hB1); (with_reducible refine (ha _).mono ?_); rintro e w2 ⟨rfl, hB2⟩; have hXb2 := hXb1.below hB2; have hC2 := bnext hC1 hB2)
      | ((fail_if_success (have _ := hB3)); (have _ := hB2); (refine at_build_zero (by rfl) (by rfl) ?_))
      | ((fail_if_success (have _ := hB3)); (have _ := hB2); (refine at_load_bk _ _ _ (by rfl) (by rfl) hXb2 (by rfl) ?_))
      | ((fail_if_success (have _ := hB3)); (have _ := hB2); (with_reducible refine (hg1 _).mono ?_); rintro e w3 ⟨rfl, hB3⟩; have hXb3 := hXb2.below hB3; have hC3 := bnext hC2 hB3)
      | ((fail_if_success (have _ := hB4)); (have _ := hB3); (refine at_load_bk _ _ _ (by rfl) (by rfl) hXb3 (by rfl) ?_)))
    go_ret
    exact ⟨rfl, hC3⟩
  | false =>
    rw [hG1] at hg1
    obtain ⟨nb, -, -⟩ := great_no hG1
    clear hG1
    obtain ⟨t0, es⟩ := b
    obtain ⟨t0', q0, n0, c0⟩ := hb
    obtain rfl : t0 = t0' := ib.1.symm
    obtain ⟨ot, oe⟩ := ob
    simp only at nb oe ot
    have hRt := fun {W : World} (hb' : Below w.heap.size w W) => book_Right ⟨t0, q0, n0, c0⟩ ⟨t0, es⟩ W (ib.below hb') oe (by simp only; omega)
    cases hR : rightB ⟨t0, es⟩ with
    | false =>
      rw [hR] at hRt
      go_enter Try.func4, Try.ntmps4
      go_wp2_with (first
        | ((fail_if_success (have _ := hB1)); (refine at_box_bk _ _ (by rfl) (by rfl) (by rfl) ?_); intro V1 hXb1 hB1 hz1; have hC1 := hB1)
        | ((fail_if_success (have _ := hB2)); (have _ := hB1); (refine at_load_bk _ _ _ (by rfl) (by rfl) hXb1 (by rfl) ?_))
        | ((fail_if_success (have _ := hB2)); (have _ := hB1); (with_reducible refine (ha _).mono ?_); rintro e w2 ⟨rfl, hB2⟩; have hXb2 := hXb1.below hB2; have hC2 := bnext hC1 hB2)
        | ((fail_if_success (have _ := hB3)); (have _ := hB2); (refine at_build_zero (by rfl) (by rfl) ?_))
        | ((fail_if_success (have _ := hB3)); (have _ := hB2); (refine at_load_bk _ _ _ (by rfl) (by rfl) hXb2 (by rfl) ?_))
        | ((fail_if_success (have _ := hB3)); (have _ := hB2); (with_reducible refine (hg1 _).mono ?_); rintro e w3 ⟨rfl, hB3⟩; have hXb3 := hXb2.below hB3; have hC3 := bnext hC2 hB3)
        | ((fail_if_success (have _ := hB4)); (have _ := hB3); (refine at_load_bk _ _ _ (by rfl) (by rfl) hXb3 (by rfl) ?_))
        | ((fail_if_success (have _ := hB4)); (have _ := hB3); (with_reducible refine (hRt hC3).mono ?_); rintro e w4 ⟨rfl, hB4⟩; have hXb4 := hXb3.below hB4; have hC4 := bnext hC3 hB4; have kb := cells_bk hXb4; simp only at kb)
        | ((fail_if_success (have _ := hB5)); (have _ := hB4); (refine at_load_bk _ _ _ (by rfl) (by rfl) hXb4 (by rfl) ?_)))
      go_ret
      exact ⟨rfl, hC4⟩
    | true =>
      rw [hR] at hRt
      obtain ⟨P, hP1, hP2, hP3⟩ := roll_is hR
      have tr := (rightB_iff.1 hR).1
      simp only at tr
      have hwr : IntKind.u64.wrap (t0 + 1) = t0 + 1 := by rw [IntKind.wrap_u64]; omega
      have l0 := ib.2.1
      simp only at l0
      have hA := fun {W : World} (hb' : Below w.heap.size w W) => book_Apply ⟨t0, q0, n0, c0⟩ ⟨t0, es⟩ ⟨3, 0, none, 0, 0, none, 0, 0, 0, t0 + 1⟩ (periodE (t0 + 1)) W (ib.below hb') (iw_period W _) oe (by simp [periodE]) (by simp only; omega) (by simp) (by simp)
      have hL := fun {W : World} (hb' : Below w.heap.size w W) => book_Apply ⟨t0, q0, n0, c0⟩ ⟨t0, es⟩ ⟨2, s, none, 0, 0, none, 0, 0, g, 0⟩ (leaseE s g) W (ib.below hb') (iw_lease W _ _) oe (by simp [leaseE]) (by simp only; omega) (by simp) (by simp)
      obtain ⟨hlt0, P2, hQ2, hQ3⟩ := lease_is (t := t0) (es := es) (s := s) (g := g)
      obtain ⟨C, hCe⟩ : ∃ c, appB ⟨t0, es⟩ (periodE (t0 + 1)) = c := ⟨_, rfl⟩
      obtain ⟨E, hEe⟩ : ∃ c, appE ⟨t0, es⟩ (periodE (t0 + 1)) = c := ⟨_, rfl⟩
      obtain ⟨D, hDe⟩ : ∃ c, appB ⟨t0, es⟩ (leaseE s g) = c := ⟨_, rfl⟩
      obtain ⟨F, hFe⟩ : ∃ c, appE ⟨t0, es⟩ (leaseE s g) = c := ⟨_, rfl⟩
      rw [hCe, hEe] at hA
      rw [hDe, hFe] at hL
      rw [hEe] at hP2
      rw [hCe] at hP3
      rw [hDe] at hlt0 hQ3
      rw [hFe] at hQ2
      obtain ⟨ct, ces⟩ := C
      obtain ⟨dt, des⟩ := D
      simp only at hP3 hlt0 hQ3
      obtain rfl : t0 = dt := hlt0.symm
      have hlc : ces.length = n0 := by rw [hP3]; split <;> simp [rollE, l0]
      have hld : des.length = n0 := by rw [hQ3]; split <;> simp [leaseE1, l0]
      have HP3 : Hid (ces = if P = true then rollE es else es) := hP3
      have HQ3 : Hid (des = if P2 = true then leaseE1 es s g else es) := hQ3
      have HLC : Hid (ces.length = n0) := hlc
      have HLD : Hid (des.length = n0) := hld
      have HL0 : Hid (es.length = n0) := l0
      have HOE : Hid (∀ e ∈ es, EnOk e) := oe
      clear hCe hEe hDe hFe hR hP3 hQ3 hlt0 hlc hld l0 oe
      go_enter Try.func4, Try.ntmps4
      go_wp2_with (first
        | ((fail_if_success (have _ := hB1)); (refine at_box_bk _ _ (by rfl) (by rfl) (by rfl) ?_); intro V1 hXb1 hB1 hz1; have hC1 := hB1)
        | ((fail_if_success (have _ := hB2)); (have _ := hB1); (refine at_load_bk _ _ _ (by rfl) (by rfl) hXb1 (by rfl) ?_))
        | ((fail_if_success (have _ := hB2)); (have _ := hB1); (with_reducible refine (ha _).mono ?_); rintro e w2 ⟨rfl, hB2⟩; have hXb2 := hXb1.below hB2; have hC2 := bnext hC1 hB2)
        | ((fail_if_success (have _ := hB3)); (have _ := hB2); (refine at_build_zero (by rfl) (by rfl) ?_))
        | ((fail_if_success (have _ := hB3)); (have _ := hB2); (refine at_load_bk _ _ _ (by rfl) (by rfl) hXb2 (by rfl) ?_))
        | ((fail_if_success (have _ := hB3)); (have _ := hB2); (with_reducible refine (hg1 _).mono ?_); rintro e w3 ⟨rfl, hB3⟩; have hXb3 := hXb2.below hB3; have hC3 := bnext hC2 hB3)
        | ((fail_if_success (have _ := hB4)); (have _ := hB3); (refine at_load_bk _ _ _ (by rfl) (by rfl) hXb3 (by rfl) ?_))
        | ((fail_if_success (have _ := hB4)); (have _ := hB3); (with_reducible refine (hRt hC3).mono ?_); rintro e w4 ⟨rfl, hB4⟩; have hXb4 := hXb3.below hB4; have hC4 := bnext hC3 hB4; have kb := cells_bk hXb4; simp only at kb)
        | ((fail_if_success (have _ := hB5)); (have _ := hB4); (refine at_build_period _ (t0 + 1) (by rfl) (by rfl) (by rfl) ?_))
        | ((fail_if_success (have _ := hB5)); (have _ := hB4); (refine at_load_bk _ _ _ (by rfl) (by rfl) hXb4 (by rfl) ?_))
        | ((fail_if_success (have _ := hB5)); (have _ := hB4); (with_reducible refine (hA hC4).mono ?_); rintro e w5 ⟨⟨t5, q5, n5, c5⟩, rfl, i5, -, hB5⟩; have hXb5 := hXb4.below hB5; have hC5 := bnext hC4 hB5; have hFc5 := i5; obtain rfl : ct = t5 := i5.1.symm; obtain rfl : n0 = n5 := HLC.out.symm.trans i5.2.1)
        | ((fail_if_success (have _ := hB6)); (have _ := hB5); (refine at_alloc_bk (by rfl) (by rfl) ?_); intro V6 hXc6 hB6 hz6)
        | ((fail_if_success (have _ := hB7)); (have _ := hB6); (refine at_store_bk _ _ _ _ _ (by rfl) (by rfl) (by rfl) hXc6 rfl (by rfl) ?_); intro V7 hXc7 hg7 hz7; have hB7 := hB6.grown hg7 hB6.size (by simp); have hXb7 := hXb5.below hB7; have hFc7 := hFc5.below hB7; have hC7 := bnext hC5 hB7; have kb := cells_bk hXb7; have kc := cells_bk hXc7; simp only at kb kc)
        | ((fail_if_success (have _ := hB8)); (have _ := hB7); (refine at_load_bk _ _ _ (by rfl) (by rfl) hXb7 (by rfl) ?_))
        | ((fail_if_success (have _ := hB8)); (have _ := hB7); (refine at_load_bk _ _ _ (by rfl) (by rfl) hXc7 (by rfl) ?_)))
      have hcap4 := (hFc7).2.2.1
      simp only at hcap4
      have hcap0 := (ib.below hC7).2.2.1
      simp only at hcap0
      go_loopw [53] (fun j wr => ∃ m : Nat, m ≤ n0 ∧ j = .int .i64 m ∧ Below V7.heap.size V7 wr) (fun j _ => n0 - (intOf j).toNat)
      case atStart => exact ⟨0, Nat.zero_le _, rfl, Below.refl _ _⟩
      case round =>
        obtain ⟨m, hm, rfl, hE⟩ := hrel
        clear kb kc
        have hXb := hXb7.below hE
        have hXc := hXc7.below hE
        have hC := bnext hC7 hE
        have iC := hFc7.below hE
        clear hXb7 hXc7 hC7 hFc7
        by_cases hlt : m < n0
        · have hlt3 : (m : Int) < (n0 : Int) := by omega
          obtain ⟨x, hx⟩ : ∃ x, ces[m]? = some x := ⟨_, List.getElem?_eq_getElem (by have := HLC.out; omega)⟩
          obtain ⟨y, hy⟩ : ∃ y, es[m]? = some y := ⟨_, List.getElem?_eq_getElem (by have := HL0.out; omega)⟩
          obtain ⟨g9, o9, rfl, hb9, hc9⟩ := ent_at iC.2.2 hx
          obtain ⟨g8, o8, rfl, hb8, hc8⟩ := ent_at (ib.below hC).2.2 hy
          have oy := (HOE.out y (List.mem_of_getElem? hy)).1
          have hxy : x.p = y.p ∧ (P = true → x.g = 0) := by
            rw [HP3.out] at hx
            cases P with
            | true =>
              simp only [if_true, rollE, List.getElem?_map, hy, Option.map_some, Option.some.injEq] at hx
              rw [← hx]
              exact ⟨rfl, fun _ => rfl⟩
            | false =>
              simp only [Bool.false_eq_true, if_false, hy, Option.some.injEq] at hx
              rw [hx]
              exact ⟨rfl, fun h => by cases h⟩
          obtain ⟨hxp, hxg⟩ := hxy
          obtain ⟨xp, xg⟩ := x
          simp only at hxp hxg
          subst hxp
          have hc8p := pol_of hc8
          clear hx hy iC hA hL hg1 ha hRt
          have hdw := fun {W : World} (hb' : Below wr.heap.size wr W) => hXb.below hb'
          cases P with
          | true =>
            have z9 : (xg != 0) = false := by simp [hxg rfl]
            clear hxg
            go_wp2_with (first
              | ((fail_if_success (have _ := hB21)); (refine at_load_ren _ _ _ _ (by rfl) (by rfl) hc9 (by rfl) ?_))
              | ((fail_if_success (have _ := hB21)); (refine at_alloc_en (by rfl) (by rfl) ?_); intro V21 hXx21 hB21 hz21)
              | ((fail_if_success (have _ := hB22)); (have _ := hB21); (refine at_store_en _ _ _ _ _ (by rfl) (by rfl) (by rfl) hXx21 rfl (by rfl) ?_); intro V22 hXx22 hg22 hz22; have hB22 := hB21.grown hg22 hB21.size (by simp); have hXb22 := hXb.below hB22; have hC22 := bnext hC hB22; have hE22 := bnext hE hB22; have hR22 := hB22)
              | ((fail_if_success (have _ := hB23)); (have _ := hB22); (refine at_load_bk _ _ _ (by rfl) (by rfl) hXb22 (by rfl) ?_))
              | ((fail_if_success (have _ := hB23)); (have _ := hB22); (refine at_load_en _ _ _ (by rfl) (by rfl) hXx22 (by rfl) ?_)))
            have hq : eqB y.p y.p = true := eqB_iff.2 rfl
            have hpx := fun {W : World} (hb' : Below V22.heap.size V22 W) => pol_in (hXx22.below hb')
            have hpy := fun {W : World} (hb' : Below V22.heap.size V22 W) (j : Nat) (v : Value) (hv : (pl y.p)[j]? = some v) => ((bnext hR22 hb').cell (World.block_lt_of_cell? _ _ (hc8p j v hv))).trans (hc8p j v hv)
            refine Inv.region_inv (fun L a w' => a = { tmps := #[(bv { t := t0, q := some { block := g8, off := o8 }, n := n0, c := c0 }), (Value.int IntKind.i64 s), (Value.int IntKind.u64 g), (Value.pointer (some { block := w.heap.size, off := 0 })), undef, undef, (u6), (Value.pointer (some { block := w5.heap.size, off := 0 })), (Value.int IntKind.i64 E), (Value.int IntKind.i64 ↑m), (Value.pointer (some { block := wr.heap.size, off := 0 })), undef, undef, undef, undef, undef, (Value.bool true), (Value.bool false), (bv { t := t0, q := some { block := g8, off := o8 }, n := n0, c := c0 }), (ev Event.zeroH), (Value.bool false), (Value.bool false), (bv { t := t0, q := some { block := g8, off := o8 }, n := n0, c := c0 }), (Value.bool true), (Value.bool false), (Value.bool false), (Value.tuple #[bv { t := ct, q := some { block := g9, off := o9 }, n := n0, c := c5 }, Value.int IntKind.i64 E]), (bv { t := t0, q := some { block := g8, off := o8 }, n := n0, c := c0 }), (Value.pointer (some { block := w.heap.size, off := 0 })), (Value.int IntKind.u64 t0), (Value.int IntKind.u64 (t0 + 1)), (ev { k := 3, s := 0, pp := none, pn := 0, pc := 0, dp := none, dn := 0, dc := 0, g := 0, t := t0 + 1 }), (Value.tuple #[bv { t := ct, q := some { block := g9, off := o9 }, n := n0, c := c5 }, Value.int IntKind.i64 E]), (bv { t := ct, q := some { block := g9, off := o9 }, n := n0, c := c5 }), (Value.int IntKind.i64 E), (Value.int IntKind.i64 E), (Value.bool true), (Value.pointer (some { block := w.heap.size, off := 0 })), (Value.int IntKind.u64 t0), (Value.bool true), (Value.bool false), (Value.bool false), (Value.pointer (some { block := w5.heap.size, off := 1 })), (Value.slice (some { block := g9, off := o9 }) n0 c5), (Value.int IntKind.i64 ↑n0), (Value.pointer (some { block := w.heap.size, off := 1 })), (Value.slice (some { block := g8, off := o8 }) n0 c0), (Value.int IntKind.i64 ↑n0), (Value.bool false), (Value.bool false), (Value.pointer (some { block := w5.heap.size, off := 1 })), (Value.slice (some { block := g9, off := o9 }) n0 c5), (Value.int IntKind.i64 ↑n0), (Value.int IntKind.i64 ↑m), (Value.bool true), (Value.int IntKind.i64 ↑m), (Value.pointer (some { block := g9, off := o9 + m * 14 })), (nv { p := y.p, g := xg }), (if L 0 = true then (.pointer (some ⟨wr.heap.size, 0, none⟩)) else (u58)), (if L 1 = true then (pv y.p) else (u59)), (if L 2 = true then (.pointer (some ⟨w.heap.size, 1, none⟩)) else (u60)), (if L 3 = true then (.slice (some ⟨g8, o8, none⟩) n0 c0) else (u61)), (if L 4 = true then (.int .i64 (m : Int)) else (u62)), (if L 5 = true then (.pointer (some ⟨g8, o8 + m * 14, none⟩)) else (u63)), (if L 6 = true then (.pointer (some ⟨g8, o8 + m * 14, none⟩)) else (u64)), (if L 7 = true then (pv y.p) else (u65)), (if L 8 = true then (.bool false) else (u66)), (if L 9 = true then (.bool false) else (u67)), (if L 10 = true then (.int .i64 E) else (u68)), (if L 11 = true then (.bool true) else (u69)), (if L 12 = true then (.bool true) else (u70)), (if L 13 = true then (.pointer (some ⟨wr.heap.size, 13, none⟩)) else (u71)), (if L 14 = true then (.int .u64 xg) else (u72)), (if L 15 = true then (.bool false) else (u73)), (if L 16 = true then (.bool false) else (u74)), (if L 17 = true then (.bool false) else (u75)), (u76), undef, undef, undef, undef, undef, undef, undef, undef, undef, undef, undef, undef, undef, undef, undef, undef, undef, undef, undef, undef, undef, undef, undef, undef, undef, undef, undef, undef, undef, undef, undef, undef, undef, undef, undef, undef, undef, undef, undef, undef, undef, undef, undef, undef, undef, undef, undef, undef, undef, undef], defers := [] } ∧ (Below V22.heap.size V22 w')) (by kernel_rfl) (by kernel_rfl) ?h011 ?step11 ?done11
            case h011 => exact ⟨by simp, (Below.refl _ _).drew⟩
            case step11 =>
              refine Inv.Steps.cons rfl ?_ ?_
              · intro L a w' hI hL hd K hK
                obtain ⟨rfl, hI⟩ := hI
                clear hd
                rw [if_pos (by rfl)]
                go_simp
                exact hK.out _ _ ⟨by simp, hI⟩
              refine Inv.Steps.cons rfl ?_ ?_
              · intro L a w' hI hL hd K hK
                obtain ⟨rfl, hI⟩ := hI
                simp [Region.binds] at hd
                simp only [hd, if_true]
                rw [if_pos (by rfl)]
                refine wp_load_pr _ _ _ _ (by rfl) (by rfl) (hpx hI) ?_
                exact hK.out _ _ ⟨by simp [hd, Act.put], hI⟩
              refine Inv.Steps.cons rfl ?_ ?_
              · intro L a w' hI hL hd K hK
                obtain ⟨rfl, hI⟩ := hI
                clear hd
                rw [if_pos (by rfl)]
                go_simp
                exact hK.out _ _ ⟨by simp, hI⟩
              refine Inv.Steps.cons rfl ?_ ?_
              · intro L a w' hI hL hd K hK
                obtain ⟨rfl, hI⟩ := hI
                simp [Region.binds] at hd
                simp only [hd, if_true]
                rw [if_pos (by rfl)]
                have hk := cells_bk (hXb22.below hI)
                simp only at hk
                go_simp
                exact hK.out _ _ ⟨by simp [hd], hI⟩
              refine Inv.Steps.cons rfl ?_ ?_
              · intro L a w' hI hL hd K hK
                obtain ⟨rfl, hI⟩ := hI
                clear hd
                rw [if_pos (by rfl)]
                go_simp
                exact hK.out _ _ ⟨by simp, hI⟩
              refine Inv.Steps.cons rfl ?_ ?_
              · intro L a w' hI hL hd K hK
                obtain ⟨rfl, hI⟩ := hI
                simp [Region.binds] at hd
                simp only [hd, if_true]
                rw [if_pos (by rfl)]
                go_simp
                exact hK.out _ _ ⟨by simp [hd], hI⟩
              refine Inv.Steps.cons rfl ?_ ?_
              · intro L a w' hI hL hd K hK
                obtain ⟨rfl, hI⟩ := hI
                simp [Region.binds] at hd
                simp only [hd, if_true]
                rw [if_pos (by rfl)]
                go_simp
                exact hK.out _ _ ⟨by simp [hd], hI⟩
              refine Inv.Steps.cons rfl ?_ ?_
              · intro L a w' hI hL hd K hK
                obtain ⟨rfl, hI⟩ := hI
                simp [Region.binds] at hd
                simp only [hd, if_true]
                rw [if_pos (by rfl)]
                refine wp_load_pr _ _ _ _ (by rfl) (by rfl) (hpy hI) ?_
                exact hK.out _ _ ⟨by simp [hd, Act.put], hI⟩
              refine Inv.Steps.cons rfl ?_ ?_
              · intro L a w' hI hL hd K hK
                obtain ⟨rfl, hI⟩ := hI
                simp [Region.binds] at hd
                simp only [hd, if_true]
                rw [if_pos (by rfl)]
                refine wp_ne_po oy oy _ _ (by rfl) (by rfl) (by rfl) ?_
                rw [hq]
                exact hK.out _ _ ⟨by simp [hd, Act.put], hI⟩
              refine Inv.Steps.cons rfl ?_ ?_
              · intro L a w' hI hL hd K hK
                obtain ⟨rfl, hI⟩ := hI
                simp [Region.binds] at hd
                simp only [hd, if_true]
                rw [if_pos (by rfl)]
                go_simp
                exact hK.out _ _ ⟨by simp [hd], hI⟩
              refine Inv.Steps.cons rfl ?_ ?_
              · intro L a w' hI hL hd K hK
                obtain ⟨rfl, hI⟩ := hI
                simp [Region.binds] at hd
                simp only [hd, if_true]
                rw [if_pos (by rfl)]
                go_simp
                exact hK.out _ _ ⟨by simp [hd], hI⟩
              refine Inv.Steps.cons rfl ?_ ?_
              · intro L a w' hI hL hd K hK
                obtain ⟨rfl, hI⟩ := hI
                simp [Region.binds] at hd
                simp only [hd, if_true]
                rw [if_pos (by rfl)]
                go_simp
                exact hK.out _ _ ⟨by simp [hd], hI⟩
              refine Inv.Steps.cons rfl ?_ ?_
              · intro L a w' hI hL hd K hK
                obtain ⟨rfl, hI⟩ := hI
                simp [Region.binds] at hd
                simp only [hd, if_true]
                rw [if_pos (by rfl)]
                go_simp
                exact hK.out _ _ ⟨by simp [hd], hI⟩
              refine Inv.Steps.cons rfl ?_ ?_
              · intro L a w' hI hL hd K hK
                obtain ⟨rfl, hI⟩ := hI
                simp [Region.binds] at hd
                simp only [hd, if_true]
                rw [if_pos (by rfl)]
                go_simp
                exact hK.out _ _ ⟨by simp [hd], hI⟩
              refine Inv.Steps.cons rfl ?_ ?_
              · intro L a w' hI hL hd K hK
                obtain ⟨rfl, hI⟩ := hI
                simp [Region.binds] at hd
                simp only [hd, if_true]
                rw [if_pos (by rfl)]
                have hk := cells14 (hXx22.below hI)
                go_simp
                exact hK.out _ _ ⟨by simp [hd], hI⟩
              refine Inv.Steps.cons rfl ?_ ?_
              · intro L a w' hI hL hd K hK
                obtain ⟨rfl, hI⟩ := hI
                simp [Region.binds] at hd
                simp only [hd, if_true]
                rw [if_pos (by rfl)]
                go_simp
                exact hK.out _ _ ⟨by simp [hd], hI⟩
              refine Inv.Steps.cons rfl ?_ ?_
              · intro L a w' hI hL hd K hK
                obtain ⟨rfl, hI⟩ := hI
                simp [Region.binds] at hd
                simp only [hd, if_true]
                rw [if_pos (by rfl)]
                go_simp
                exact hK.out _ _ ⟨by simp [hd], hI⟩
              refine Inv.Steps.cons rfl ?_ ?_
              · intro L a w' hI hL hd K hK
                obtain ⟨rfl, hI⟩ := hI
                simp [Region.binds] at hd
                simp only [hd, if_true]
                rw [if_pos (by rfl)]
                go_simp
                exact hK.out _ _ ⟨by simp [hd], hI⟩
              exact Inv.Steps.nil (by decide)
            case done11 =>
              intro L a w' hI hall
              obtain ⟨rfl, hI⟩ := hI
              simp only [hall, if_true] at hI ⊢
              clear hXb22 hXx22 hpx hpy
              go_wp2
              go_roundw
              case rel => exact ⟨m + 1, by omega, by go_num, bnext hE22 hI⟩
              case measure => simp [intOf]; omega
          | false =>
            clear hxg
            go_wp2_with (first
              | ((fail_if_success (have _ := hB21)); (refine at_load_ren _ _ _ _ (by rfl) (by rfl) hc9 (by rfl) ?_))
              | ((fail_if_success (have _ := hB21)); (refine at_alloc_en (by rfl) (by rfl) ?_); intro V21 hXx21 hB21 hz21)
              | ((fail_if_success (have _ := hB22)); (have _ := hB21); (refine at_store_en _ _ _ _ _ (by rfl) (by rfl) (by rfl) hXx21 rfl (by rfl) ?_); intro V22 hXx22 hg22 hz22; have hB22 := hB21.grown hg22 hB21.size (by simp); have hXb22 := hXb.below hB22; have hC22 := bnext hC hB22; have hE22 := bnext hE hB22; have hR22 := hB22)
              | ((fail_if_success (have _ := hB23)); (have _ := hB22); (refine at_load_bk _ _ _ (by rfl) (by rfl) hXb22 (by rfl) ?_))
              | ((fail_if_success (have _ := hB23)); (have _ := hB22); (refine at_load_en _ _ _ (by rfl) (by rfl) hXx22 (by rfl) ?_)))
            have hq : eqB y.p y.p = true := eqB_iff.2 rfl
            have hpx := fun {W : World} (hb' : Below V22.heap.size V22 W) => pol_in (hXx22.below hb')
            have hpy := fun {W : World} (hb' : Below V22.heap.size V22 W) (j : Nat) (v : Value) (hv : (pl y.p)[j]? = some v) => ((bnext hR22 hb').cell (World.block_lt_of_cell? _ _ (hc8p j v hv))).trans (hc8p j v hv)
            refine Inv.region_inv (fun L a w' => a = { tmps := #[(bv { t := t0, q := some { block := g8, off := o8 }, n := n0, c := c0 }), (Value.int IntKind.i64 s), (Value.int IntKind.u64 g), (Value.pointer (some { block := w.heap.size, off := 0 })), undef, undef, (u6), (Value.pointer (some { block := w5.heap.size, off := 0 })), (Value.int IntKind.i64 E), (Value.int IntKind.i64 ↑m), (Value.pointer (some { block := wr.heap.size, off := 0 })), undef, undef, undef, undef, undef, (Value.bool true), (Value.bool false), (bv { t := t0, q := some { block := g8, off := o8 }, n := n0, c := c0 }), (ev Event.zeroH), (Value.bool false), (Value.bool false), (bv { t := t0, q := some { block := g8, off := o8 }, n := n0, c := c0 }), (Value.bool true), (Value.bool false), (Value.bool false), (Value.tuple #[bv { t := ct, q := some { block := g9, off := o9 }, n := n0, c := c5 }, Value.int IntKind.i64 E]), (bv { t := t0, q := some { block := g8, off := o8 }, n := n0, c := c0 }), (Value.pointer (some { block := w.heap.size, off := 0 })), (Value.int IntKind.u64 t0), (Value.int IntKind.u64 (t0 + 1)), (ev { k := 3, s := 0, pp := none, pn := 0, pc := 0, dp := none, dn := 0, dc := 0, g := 0, t := t0 + 1 }), (Value.tuple #[bv { t := ct, q := some { block := g9, off := o9 }, n := n0, c := c5 }, Value.int IntKind.i64 E]), (bv { t := ct, q := some { block := g9, off := o9 }, n := n0, c := c5 }), (Value.int IntKind.i64 E), (Value.int IntKind.i64 E), (Value.bool false), (Value.pointer (some { block := w.heap.size, off := 0 })), (Value.int IntKind.u64 t0), (Value.bool false), (Value.bool false), (Value.bool false), (Value.pointer (some { block := w5.heap.size, off := 1 })), (Value.slice (some { block := g9, off := o9 }) n0 c5), (Value.int IntKind.i64 ↑n0), (Value.pointer (some { block := w.heap.size, off := 1 })), (Value.slice (some { block := g8, off := o8 }) n0 c0), (Value.int IntKind.i64 ↑n0), (Value.bool false), (Value.bool false), (Value.pointer (some { block := w5.heap.size, off := 1 })), (Value.slice (some { block := g9, off := o9 }) n0 c5), (Value.int IntKind.i64 ↑n0), (Value.int IntKind.i64 ↑m), (Value.bool true), (Value.int IntKind.i64 ↑m), (Value.pointer (some { block := g9, off := o9 + m * 14 })), (nv { p := y.p, g := xg }), (if L 0 = true then (.pointer (some ⟨wr.heap.size, 0, none⟩)) else (u58)), (if L 1 = true then (pv y.p) else (u59)), (if L 2 = true then (.pointer (some ⟨w.heap.size, 1, none⟩)) else (u60)), (if L 3 = true then (.slice (some ⟨g8, o8, none⟩) n0 c0) else (u61)), (if L 4 = true then (.int .i64 (m : Int)) else (u62)), (if L 5 = true then (.pointer (some ⟨g8, o8 + m * 14, none⟩)) else (u63)), (if L 6 = true then (.pointer (some ⟨g8, o8 + m * 14, none⟩)) else (u64)), (if L 7 = true then (pv y.p) else (u65)), (if L 8 = true then (.bool false) else (u66)), (if L 9 = true then (.bool false) else (u67)), (if L 10 = true then (.int .i64 E) else (u68)), (if L 11 = true then (.bool false) else (u69)), (if L 12 = true then (.bool false) else (u70)), (if L 13 = true then undef else (u71)), (if L 14 = true then undef else (u72)), (if L 15 = true then undef else (u73)), (if L 16 = true then (.bool false) else (u74)), (if L 17 = true then (.bool false) else (u75)), (u76), undef, undef, undef, undef, undef, undef, undef, undef, undef, undef, undef, undef, undef, undef, undef, undef, undef, undef, undef, undef, undef, undef, undef, undef, undef, undef, undef, undef, undef, undef, undef, undef, undef, undef, undef, undef, undef, undef, undef, undef, undef, undef, undef, undef, undef, undef, undef, undef, undef, undef], defers := [] } ∧ (Below V22.heap.size V22 w')) (by kernel_rfl) (by kernel_rfl) ?h011 ?step11 ?done11
            case h011 => exact ⟨by rfl, (Below.refl _ _).drew⟩
            case step11 =>
              refine Inv.Steps.cons rfl ?_ ?_
              · intro L a w' hI hL hd K hK
                obtain ⟨rfl, hI⟩ := hI
                clear hd
                rw [if_pos (by rfl)]
                go_simp
                exact hK.out _ _ ⟨by simp, hI⟩
              refine Inv.Steps.cons rfl ?_ ?_
              · intro L a w' hI hL hd K hK
                obtain ⟨rfl, hI⟩ := hI
                simp [Region.binds] at hd
                simp only [hd, if_true]
                rw [if_pos (by rfl)]
                refine wp_load_pr _ _ _ _ (by rfl) (by rfl) (hpx hI) ?_
                exact hK.out _ _ ⟨by simp [hd, Act.put], hI⟩
              refine Inv.Steps.cons rfl ?_ ?_
              · intro L a w' hI hL hd K hK
                obtain ⟨rfl, hI⟩ := hI
                clear hd
                rw [if_pos (by rfl)]
                go_simp
                exact hK.out _ _ ⟨by simp, hI⟩
              refine Inv.Steps.cons rfl ?_ ?_
              · intro L a w' hI hL hd K hK
                obtain ⟨rfl, hI⟩ := hI
                simp [Region.binds] at hd
                simp only [hd, if_true]
                rw [if_pos (by rfl)]
                have hk := cells_bk (hXb22.below hI)
                simp only at hk
                go_simp
                exact hK.out _ _ ⟨by simp [hd], hI⟩
              refine Inv.Steps.cons rfl ?_ ?_
              · intro L a w' hI hL hd K hK
                obtain ⟨rfl, hI⟩ := hI
                clear hd
                rw [if_pos (by rfl)]
                go_simp
                exact hK.out _ _ ⟨by simp, hI⟩
              refine Inv.Steps.cons rfl ?_ ?_
              · intro L a w' hI hL hd K hK
                obtain ⟨rfl, hI⟩ := hI
                simp [Region.binds] at hd
                simp only [hd, if_true]
                rw [if_pos (by rfl)]
                go_simp
                exact hK.out _ _ ⟨by simp [hd], hI⟩
              refine Inv.Steps.cons rfl ?_ ?_
              · intro L a w' hI hL hd K hK
                obtain ⟨rfl, hI⟩ := hI
                simp [Region.binds] at hd
                simp only [hd, if_true]
                rw [if_pos (by rfl)]
                go_simp
                exact hK.out _ _ ⟨by simp [hd], hI⟩
              refine Inv.Steps.cons rfl ?_ ?_
              · intro L a w' hI hL hd K hK
                obtain ⟨rfl, hI⟩ := hI
                simp [Region.binds] at hd
                simp only [hd, if_true]
                rw [if_pos (by rfl)]
                refine wp_load_pr _ _ _ _ (by rfl) (by rfl) (hpy hI) ?_
                exact hK.out _ _ ⟨by simp [hd, Act.put], hI⟩
              refine Inv.Steps.cons rfl ?_ ?_
              · intro L a w' hI hL hd K hK
                obtain ⟨rfl, hI⟩ := hI
                simp [Region.binds] at hd
                simp only [hd, if_true]
                rw [if_pos (by rfl)]
                refine wp_ne_po oy oy _ _ (by rfl) (by rfl) (by rfl) ?_
                rw [hq]
                exact hK.out _ _ ⟨by simp [hd, Act.put], hI⟩
              refine Inv.Steps.cons rfl ?_ ?_
              · intro L a w' hI hL hd K hK
                obtain ⟨rfl, hI⟩ := hI
                simp [Region.binds] at hd
                simp only [hd, if_true]
                rw [if_pos (by rfl)]
                go_simp
                exact hK.out _ _ ⟨by simp [hd], hI⟩
              refine Inv.Steps.cons rfl ?_ ?_
              · intro L a w' hI hL hd K hK
                obtain ⟨rfl, hI⟩ := hI
                simp [Region.binds] at hd
                simp only [hd, if_true]
                rw [if_pos (by rfl)]
                go_simp
                exact hK.out _ _ ⟨by simp [hd], hI⟩
              refine Inv.Steps.cons rfl ?_ ?_
              · intro L a w' hI hL hd K hK
                obtain ⟨rfl, hI⟩ := hI
                simp [Region.binds] at hd
                simp only [hd, if_true]
                rw [if_pos (by rfl)]
                go_simp
                exact hK.out _ _ ⟨by simp [hd], hI⟩
              refine Inv.Steps.cons rfl ?_ ?_
              · intro L a w' hI hL hd K hK
                obtain ⟨rfl, hI⟩ := hI
                simp [Region.binds] at hd
                simp only [hd, if_true]
                rw [if_pos (by rfl)]
                go_simp
                exact hK.out _ _ ⟨by simp [hd], hI⟩
              refine Inv.Steps.cons rfl ?_ ?_
              · intro L a w' hI hL hd K hK
                obtain ⟨rfl, hI⟩ := hI
                simp [Region.binds] at hd
                simp only [hd, if_true]
                rw [if_neg (Bool.eq_false_iff.1 (by rfl))]
                exact hK.out _ _ ⟨by simp [hd, Act.put], hI⟩
              refine Inv.Steps.cons rfl ?_ ?_
              · intro L a w' hI hL hd K hK
                obtain ⟨rfl, hI⟩ := hI
                simp [Region.binds] at hd
                simp only [hd, if_true]
                rw [if_neg (Bool.eq_false_iff.1 (by rfl))]
                exact hK.out _ _ ⟨by simp [hd, Act.put], hI⟩
              refine Inv.Steps.cons rfl ?_ ?_
              · intro L a w' hI hL hd K hK
                obtain ⟨rfl, hI⟩ := hI
                simp [Region.binds] at hd
                simp only [hd, if_true]
                rw [if_neg (Bool.eq_false_iff.1 (by rfl))]
                exact hK.out _ _ ⟨by simp [hd, Act.put], hI⟩
              refine Inv.Steps.cons rfl ?_ ?_
              · intro L a w' hI hL hd K hK
                obtain ⟨rfl, hI⟩ := hI
                simp [Region.binds] at hd
                simp only [hd, if_true]
                rw [if_pos (by rfl)]
                go_simp
                exact hK.out _ _ ⟨by simp [hd], hI⟩
              refine Inv.Steps.cons rfl ?_ ?_
              · intro L a w' hI hL hd K hK
                obtain ⟨rfl, hI⟩ := hI
                simp [Region.binds] at hd
                simp only [hd, if_true]
                rw [if_pos (by rfl)]
                go_simp
                exact hK.out _ _ ⟨by simp [hd], hI⟩
              exact Inv.Steps.nil (by decide)
            case done11 =>
              intro L a w' hI hall
              obtain ⟨rfl, hI⟩ := hI
              simp only [hall, if_true] at hI ⊢
              clear hXb22 hXx22 hpx hpy
              go_wp2
              go_roundw
              case rel => exact ⟨m + 1, by omega, by go_num, bnext hE22 hI⟩
              case measure => simp [intOf]; omega
        · obtain rfl : m = n0 := by omega
          clear hA hg1 ha hRt hcap4 hP1 hP2
          have kb := cells_bk hXb
          simp only at kb
          go_wp2_with (first
            | ((fail_if_success (have _ := hB31)); (refine at_build_lease _ _ s g (by rfl) (by rfl) (by rfl) (by rfl) ?_))
            | ((fail_if_success (have _ := hB31)); (refine at_load_bk _ _ _ (by rfl) (by rfl) hXb (by rfl) ?_))
            | ((fail_if_success (have _ := hB31)); (with_reducible refine (hL hC).mono ?_); rintro e w31 ⟨⟨t31, q31, n31, c31⟩, rfl, i31, -, hB31⟩; have hXb31 := hXb.below hB31; have hC31 := bnext hC hB31; have hFd31 := i31; obtain rfl : t0 = t31 := i31.1.symm; obtain rfl : m = n31 := HLD.out.symm.trans i31.2.1)
            | ((fail_if_success (have _ := hB32)); (have _ := hB31); (refine at_alloc_bk (by rfl) (by rfl) ?_); intro V32 hXd32 hB32 hz32)
            | ((fail_if_success (have _ := hB33)); (have _ := hB32); (refine at_store_bk _ _ _ _ _ (by rfl) (by rfl) (by rfl) hXd32 rfl (by rfl) ?_); intro V33 hXd33 hg33 hz33; have hB33 := hB32.grown hg33 hB32.size (by simp); have hXb33 := hXb31.below hB33; have hFd33 := hFd31.below hB33; have hC33 := bnext hC31 hB33; have kb := cells_bk hXb33; have kd := cells_bk hXd33; simp only at kb kd)
            | ((fail_if_success (have _ := hB34)); (have _ := hB33); (refine at_load_bk _ _ _ (by rfl) (by rfl) hXb33 (by rfl) ?_))
            | ((fail_if_success (have _ := hB34)); (have _ := hB33); (refine at_load_bk _ _ _ (by rfl) (by rfl) hXd33 (by rfl) ?_)))
          have hcap5 := (hFd33).2.2.1
          simp only at hcap5
          go_loopw [102] (fun j wr => ∃ k : Nat, k ≤ m ∧ j = .int .i64 k ∧ Below V33.heap.size V33 wr) (fun j _ => m - (intOf j).toNat)
          case atStart => exact ⟨0, Nat.zero_le _, rfl, Below.refl _ _⟩
          case round =>
            obtain ⟨k, hk, rfl, hE2⟩ := hrel
            clear kb kd
            have hYb := hXb33.below hE2
            have hYd := hXd33.below hE2
            have hD := bnext hC33 hE2
            have iD := hFd33.below hE2
            clear hXb33 hXd33 hC33 hFd33
            by_cases hlk : k < m
            · have hlk3 : (k : Int) < (m : Int) := by omega
              obtain ⟨x, hx⟩ : ∃ x, des[k]? = some x := ⟨_, List.getElem?_eq_getElem (by have := HLD.out; omega)⟩
              obtain ⟨y, hy⟩ : ∃ y, es[k]? = some y := ⟨_, List.getElem?_eq_getElem (by have := HL0.out; omega)⟩
              obtain ⟨g9, o9, rfl, hb9, hc9⟩ := ent_at iD.2.2 hx
              obtain ⟨g8, o8, rfl, hb8, hc8⟩ := ent_at (ib.below hD).2.2 hy
              have oy := HOE.out y (List.mem_of_getElem? hy)
              have hdY := fun {W : World} (hb' : Below w.heap.size w W) => (ib.below hb').2.2
              clear iD hL
              rw [HQ3.out] at hx
              by_cases hp2 : P2 = true ∧ y.p.s = s
              · obtain ⟨rfl, hys⟩ := hp2
                obtain rfl : (⟨y.p, g⟩ : En) = x := by
                  simp only [if_true, leaseE1, List.getElem?_map, hy, Option.map_some, Option.some.injEq] at hx
                  rw [← hx, if_pos hys]
                have ox : EnOk ⟨y.p, g⟩ := ⟨oy.1, wg⟩
                have e1 : decide (y.p.s = s) = true := decide_eq_true hys
                have e2 : (y.p.s == s) = true := by simp [hys]
                clear hx hy hys
                go_wp2_with (first
                  | ((fail_if_success (have _ := hB41)); (refine at_load_ren _ _ _ _ (by rfl) (by rfl) hc9 (by rfl) ?_))
                  | ((fail_if_success (have _ := hB41)); (refine at_alloc_en (by rfl) (by rfl) ?_); intro V41 hXx41 hB41 hz41)
                  | ((fail_if_success (have _ := hB42)); (have _ := hB41); (refine at_store_en _ _ _ _ _ (by rfl) (by rfl) (by rfl) hXx41 rfl (by rfl) ?_); intro V42 hXx42 hg42 hz42; have hB42 := hB41.grown hg42 hB41.size (by simp); have hXb42 := hYb.below hB42; have hC42 := bnext hD hB42; have hE42 := bnext hE2 hB42; have hR42 := hB42; have kb := cells_bk hXb42; simp only at kb; have hc8n := fun j v hv => (hR42.cell (World.block_lt_of_cell? _ _ (hc8 j v hv))).trans (hc8 j v hv))
                  | ((fail_if_success (have _ := hB43)); (have _ := hB42); (refine at_load_ren _ _ _ _ (by rfl) (by rfl) hc8n (by rfl) ?_))
                  | ((fail_if_success (have _ := hB43)); (have _ := hB42); (refine at_alloc_en (by rfl) (by rfl) ?_); intro V43 hXy43 hB43 hz43)
                  | ((fail_if_success (have _ := hB44)); (have _ := hB43); (refine at_store_en _ _ _ _ _ (by rfl) (by rfl) (by rfl) hXy43 rfl (by rfl) ?_); intro V44 hXy44 hg44 hz44; have hB44 := hB43.grown hg44 hB43.size (by simp); have hXb44 := hXb42.below hB44; have hXx44 := hXx42.below hB44; have hC44 := bnext hC42 hB44; have hE44 := bnext hE42 hB44; have hR44 := bnext hR42 hB44; have kx := cells14 hXx44; have ky := cells14 hXy44)
                  | ((fail_if_success (have _ := hB45)); (have _ := hB44); (refine at_load_bk _ _ _ (by rfl) (by rfl) hXb44 (by rfl) ?_))
                  | ((fail_if_success (have _ := hB45)); (have _ := hB44); (refine at_load_en _ _ _ (by rfl) (by rfl) hXx44 (by rfl) ?_))
                  | ((fail_if_success (have _ := hB45)); (have _ := hB44); (refine at_load_en _ _ _ (by rfl) (by rfl) hXy44 (by rfl) ?_))
                  | ((fail_if_success (have _ := hZy)); (have _ := hB44); (refine at_blk_g _ _ _ _ _ (by rfl) (by rfl) (by rfl) hXy44 (by rfl) ?_); intro V9 hZy hg9 hz9; have hE9 := hE44.grown hg9 hE44.size (by have := hXy44.lt; have := hE42.size; simp; omega); have hZx := hXx44.kept hg9 (by have := hXx42.lt; simp; omega))
                  | ((have _ := hZy); (refine at_load_en _ _ _ (by rfl) (by rfl) hZx (by rfl) ?_))
                  | ((have _ := hZy); (refine at_load_en _ _ _ (by rfl) (by rfl) hZy (by rfl) ?_))
                  | ((have _ := hZy); (refine at_ne_en ox ox _ _ (by rfl) (by rfl) (by rfl) (by rfl) ?_); rw [eqE_iff.2 rfl]))
                go_roundw
                case rel => exact ⟨k + 1, by omega, by go_num, hE9⟩
                case measure => simp [intOf]; omega
              · obtain rfl : y = x := by
                  cases P2 with
                  | true =>
                    simp only [if_true, leaseE1, List.getElem?_map, hy, Option.map_some, Option.some.injEq] at hx
                    rw [← hx, if_neg (fun q => hp2 ⟨rfl, q⟩)]
                  | false =>
                    simp only [Bool.false_eq_true, if_false, hy, Option.some.injEq] at hx
                    exact hx
                clear hx hy
                cases P2 with
                | false =>
                  clear hp2
                  go_wp2_with (first
                    | ((fail_if_success (have _ := hB41)); (refine at_load_ren _ _ _ _ (by rfl) (by rfl) hc9 (by rfl) ?_))
                    | ((fail_if_success (have _ := hB41)); (refine at_alloc_en (by rfl) (by rfl) ?_); intro V41 hXx41 hB41 hz41)
                    | ((fail_if_success (have _ := hB42)); (have _ := hB41); (refine at_store_en _ _ _ _ _ (by rfl) (by rfl) (by rfl) hXx41 rfl (by rfl) ?_); intro V42 hXx42 hg42 hz42; have hB42 := hB41.grown hg42 hB41.size (by simp); have hXb42 := hYb.below hB42; have hC42 := bnext hD hB42; have hE42 := bnext hE2 hB42; have hR42 := hB42; have kb := cells_bk hXb42; simp only at kb; have hc8n := fun j v hv => (hR42.cell (World.block_lt_of_cell? _ _ (hc8 j v hv))).trans (hc8 j v hv))
                    | ((fail_if_success (have _ := hB43)); (have _ := hB42); (refine at_load_ren _ _ _ _ (by rfl) (by rfl) hc8n (by rfl) ?_))
                    | ((fail_if_success (have _ := hB43)); (have _ := hB42); (refine at_alloc_en (by rfl) (by rfl) ?_); intro V43 hXy43 hB43 hz43)
                    | ((fail_if_success (have _ := hB44)); (have _ := hB43); (refine at_store_en _ _ _ _ _ (by rfl) (by rfl) (by rfl) hXy43 rfl (by rfl) ?_); intro V44 hXy44 hg44 hz44; have hB44 := hB43.grown hg44 hB43.size (by simp); have hXb44 := hXb42.below hB44; have hXx44 := hXx42.below hB44; have hC44 := bnext hC42 hB44; have hE44 := bnext hE42 hB44; have hR44 := bnext hR42 hB44; have kx := cells14 hXx44; have ky := cells14 hXy44)
                    | ((fail_if_success (have _ := hB45)); (have _ := hB44); (refine at_load_bk _ _ _ (by rfl) (by rfl) hXb44 (by rfl) ?_))
                    | ((fail_if_success (have _ := hB45)); (have _ := hB44); (refine at_load_en _ _ _ (by rfl) (by rfl) hXx44 (by rfl) ?_))
                    | ((fail_if_success (have _ := hB45)); (have _ := hB44); (refine at_load_en _ _ _ (by rfl) (by rfl) hXy44 (by rfl) ?_))
                    | ((have _ := hB44); (refine at_ne_en oy oy _ _ (by rfl) (by rfl) (by rfl) (by rfl) ?_); rw [eqE_iff.2 rfl]))
                  go_roundw
                  case rel => exact ⟨k + 1, by omega, by go_num, hE44⟩
                  case measure => simp [intOf]; omega
                | true =>
                  have hys : y.p.s ≠ s := fun q => hp2 ⟨rfl, q⟩
                  have e1 : decide (y.p.s = s) = false := decide_eq_false hys
                  have e2 : (y.p.s == s) = false := by simp [hys]
                  clear hp2 hys
                  go_wp2_with (first
                    | ((fail_if_success (have _ := hB41)); (refine at_load_ren _ _ _ _ (by rfl) (by rfl) hc9 (by rfl) ?_))
                    | ((fail_if_success (have _ := hB41)); (refine at_alloc_en (by rfl) (by rfl) ?_); intro V41 hXx41 hB41 hz41)
                    | ((fail_if_success (have _ := hB42)); (have _ := hB41); (refine at_store_en _ _ _ _ _ (by rfl) (by rfl) (by rfl) hXx41 rfl (by rfl) ?_); intro V42 hXx42 hg42 hz42; have hB42 := hB41.grown hg42 hB41.size (by simp); have hXb42 := hYb.below hB42; have hC42 := bnext hD hB42; have hE42 := bnext hE2 hB42; have hR42 := hB42; have kb := cells_bk hXb42; simp only at kb; have hc8n := fun j v hv => (hR42.cell (World.block_lt_of_cell? _ _ (hc8 j v hv))).trans (hc8 j v hv))
                    | ((fail_if_success (have _ := hB43)); (have _ := hB42); (refine at_load_ren _ _ _ _ (by rfl) (by rfl) hc8n (by rfl) ?_))
                    | ((fail_if_success (have _ := hB43)); (have _ := hB42); (refine at_alloc_en (by rfl) (by rfl) ?_); intro V43 hXy43 hB43 hz43)
                    | ((fail_if_success (have _ := hB44)); (have _ := hB43); (refine at_store_en _ _ _ _ _ (by rfl) (by rfl) (by rfl) hXy43 rfl (by rfl) ?_); intro V44 hXy44 hg44 hz44; have hB44 := hB43.grown hg44 hB43.size (by simp); have hXb44 := hXb42.below hB44; have hXx44 := hXx42.below hB44; have hC44 := bnext hC42 hB44; have hE44 := bnext hE42 hB44; have hR44 := bnext hR42 hB44; have kx := cells14 hXx44; have ky := cells14 hXy44)
                    | ((fail_if_success (have _ := hB45)); (have _ := hB44); (refine at_load_bk _ _ _ (by rfl) (by rfl) hXb44 (by rfl) ?_))
                    | ((fail_if_success (have _ := hB45)); (have _ := hB44); (refine at_load_en _ _ _ (by rfl) (by rfl) hXx44 (by rfl) ?_))
                    | ((fail_if_success (have _ := hB45)); (have _ := hB44); (refine at_load_en _ _ _ (by rfl) (by rfl) hXy44 (by rfl) ?_))
                    | ((have _ := hB44); (refine at_ne_en oy oy _ _ (by rfl) (by rfl) (by rfl) (by rfl) ?_); rw [eqE_iff.2 rfl]))
                  go_roundw
                  case rel => exact ⟨k + 1, by omega, by go_num, hE44⟩
                  case measure => simp [intOf]; omega
            · obtain rfl : k = m := by omega
              go_wp2
              go_ret
              exact ⟨rfl, hD⟩
end Go.Proofs.Ytnaofcggdjbocab.Book
