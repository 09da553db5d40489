/-
  The document's Apply of a book. (Written by gen_bkref3.py.)
-/
import Derived.Test.YtnaofcggdjbocaaBkRef2
import Derived.Test.YtnaofcggdjbocaaEvRefRight
namespace Go.Proofs.Ytnaofcggdjbocaa.Book
open Go.RowKit Go.Proofs.Ytnaofcggdjbocaa.Mem Go.Proofs.Ytnaofcggdjbocaa.Policy Go.Proofs.Ytnaofcggdjbocaa.Event Go.Proofs.Ytnaofcggdjbocaa.Addr
set_option maxRecDepth 100000

theorem drop_subs {l : List Int} {last : Int} (h : dropF last l = true) : ∀ d ∈ l, 1 ≤ d ∧ d ≤ 255 := fun d hd => by
  have := dropF_sub h d hd
  unfold subB at this
  rw [Bool.and_eq_true, decide_eq_true_eq, decide_eq_true_eq] at this
  exact this
/-- Is it for this one, and may it be granted? -/
def fullM (s g : Int) (x : En) : Prop := x.p.s = s ∧ x.g ≤ g ∧ g ≤ (x.p.x4 : Int)
theorem lease_full {es : List En} {s g : Int} {k : Nat} {x : En} (hr : Rising es) (hk : es[k]? = some x) (h : fullM s g x) : leaseIn es s g = true ∧ leaseE1 es s g = es.set k ⟨x.p, g⟩ := by
  have hl : look es s = some x := by rw [← h.1]; exact look_of hr (List.mem_of_getElem? hk)
  refine ⟨?_, lease_set hk h.1 hr⟩
  rw [lease_at hl, decide_eq_true h.2.1, decide_eq_true h.2.2]
  rfl
theorem lease_none {es : List En} {s g : Int} (h : ∀ x ∈ es, ¬ fullM s g x) : leaseIn es s g = false := by
  cases hl : look es s with
  | none => exact lease_no hl
  | some x =>
    obtain ⟨h1, h2⟩ := look_mem hl
    have := h x h1
    rw [lease_at hl]
    by_cases a : x.g ≤ g
    · by_cases b : g ≤ (x.p.x4 : Int)
      · exact absurd ⟨h2, a, b⟩ this
      · rw [decide_eq_false b, Bool.and_false]
    · rw [decide_eq_false a, Bool.false_and]
set_option maxHeartbeats 8000000 in
theorem ref_ApplyB (h : Bh) (b : Bk) (hh : Eh) (e : Ev) (w : World) (i : IsB w h b) (ie : Is w hh e) (ob : ∀ x ∈ b.es, EnOk x) (op : ∀ p ∈ e.ps, PoOk p) (hn : h.n ≤ 1000) (np : hh.pn ≤ 1000) (nd : hh.dn ≤ 1000) :
    Calls Try.prog 21 #[bv h, ev hh] w fun x w' => ∃ h', x = .returned (.tuple #[bv h', .int .i64 (appE b e)]) ∧ IsB w' h' (appB b e) ∧ Below w.heap.size w w' := by
  have hRt := fun {W : World} (hb : Below w.heap.size w W) => ref_RightB h b W (i.below hb) ob hn
  have hRe := fun {W : World} (hb : Below w.heap.size w W) => ref_RightE hh e W (ie.below hb) op np nd
  have hIB := fun {W : World} (hb : Below w.heap.size w W) => i.below hb
  by_cases hr : rightB b = true ∧ rightE e = true
  · obtain ⟨hr1, hr2⟩ := hr
    rw [hr1] at hRt
    rw [hr2] at hRe
    have htog := (rightB_iff.1 hr1).2.1
    have ht := (rightB_iff.1 hr1).1
    have hris := tog_rising htog
    clear htog
    obtain ⟨t, es⟩ := b
    obtain ⟨t', q, n, c⟩ := h
    obtain ⟨k0, s0, pp, pn, pc, dp, dn, dc, g0, u0⟩ := hh
    rcases right_iff.1 hr2 with ⟨ps, ds, rfl, hc⟩ | ⟨s, g, rfl, -, -⟩ | ⟨m, rfl, -⟩
    · have hcc := com_iff.1 hc
      have hCm := fun {W : World} (hb : Below w.heap.size w W) => ref_commit ⟨t', q, n, c⟩ ⟨t, es⟩ ⟨k0, s0, pp, pn, pc, dp, dn, dc, g0, u0⟩ (commitE ps ds) W (i.below hb) (ie.below hb) ob op hn np nd (drop_subs hcc.2.2.2.1)
      have hap := behind_commit hr1 hr2
      unfold comOk at hap
      obtain ⟨⟨e1, e2, e3, e4⟩, -, -⟩ := ie
      simp only [commitE] at e1 e2 e3 e4
      subst e1 e2 e3 e4
      simp only [commitE] at hCm
      clear hcc hc hr1 hr2 ht hris
      cases hD : dropsIn es ds && rightB ⟨t, comE es ps ds⟩ with
      | true =>
        rw [hD, if_pos rfl] at hap
        rw [(app_some hap).1, (app_some hap).2]
        simp only [hD] at hCm
        have hD1 := (Bool.and_eq_true_iff.1 hD).1
        simp only [hD1] at hCm
        clear hD hD1 hap op ob
        go_enter Try.func21, Try.ntmps21
        go_wp2_with (first
          | ((fail_if_success (have _ := hB1)); (refine at_box_bk _ _ (by rfl) (by rfl) (by rfl) ?_); intro V1 hXb1 hB1 hz1; have hC1 := hB1)
          | ((fail_if_success (have _ := hB2)); (have _ := hB1); (refine at_box_ev _ _ (by rfl) (by rfl) (by rfl) ?_); intro V2 hXe2 hB2 hz2; have hXb2 := hXb1.below hB2; have hC2 := bnext hC1 hB2)
          | ((fail_if_success (have _ := hB3)); (have _ := hB2); (refine at_alloc_bk (by rfl) (by rfl) ?_); intro V3 hXr3 hB3 hz3; have hXb3 := hXb2.below hB3; have hXe3 := hXe2.below hB3; have hC3 := bnext hC2 hB3)
          | ((fail_if_success (have _ := hB4)); (have _ := hB3); (refine at_load_bk _ _ _ (by rfl) (by rfl) hXb3 (by rfl) ?_))
          | ((fail_if_success (have _ := hB4)); (have _ := hB3); (refine at_load_ev _ _ _ (by rfl) (by rfl) hXe3 (by rfl) ?_))
          | ((fail_if_success (have _ := hB4)); (have _ := hB3); (refine at_load_bk _ _ _ (by rfl) (by rfl) hXr3 (by rfl) ?_))
          | ((fail_if_success (have _ := hB4)); (have _ := hB3); (with_reducible refine (hRt hC3).mono ?_); rintro e w4 ⟨rfl, hB4⟩; have hXb4 := hXb3.below hB4; have hXe4 := hXe3.below hB4; have hXr4 := hXr3.below hB4; have hC4 := bnext hC3 hB4)
          | ((fail_if_success (have _ := hB5)); (have _ := hB4); (refine at_load_bk _ _ _ (by rfl) (by rfl) hXb4 (by rfl) ?_))
          | ((fail_if_success (have _ := hB5)); (have _ := hB4); (refine at_load_ev _ _ _ (by rfl) (by rfl) hXe4 (by rfl) ?_))
          | ((fail_if_success (have _ := hB5)); (have _ := hB4); (refine at_load_bk _ _ _ (by rfl) (by rfl) hXr4 (by rfl) ?_))
          | ((fail_if_success (have _ := hB5)); (have _ := hB4); (with_reducible refine (hRe hC4).mono ?_); rintro e w5 ⟨rfl, hB5⟩; have hXb5 := hXb4.below hB5; have hXe5 := hXe4.below hB5; have hXr5 := hXr4.below hB5; have hC5 := bnext hC4 hB5; have c6 := cells6 hXe5; simp only at c6; have cb := cells_bk hXb5; simp only at cb)
          | ((fail_if_success (have _ := hB6)); (have _ := hB5); (refine at_load_bk _ _ _ (by rfl) (by rfl) hXb5 (by rfl) ?_))
          | ((fail_if_success (have _ := hB6)); (have _ := hB5); (refine at_load_ev _ _ _ (by rfl) (by rfl) hXe5 (by rfl) ?_))
          | ((fail_if_success (have _ := hB6)); (have _ := hB5); (refine at_load_bk _ _ _ (by rfl) (by rfl) hXr5 (by rfl) ?_))
          | ((fail_if_success (have _ := hB6)); (have _ := hB5); (with_reducible refine (hCm hC5).mono ?_); rintro e w6 ⟨hh6, rfl, i6, hB6⟩; have hXb6 := hXb5.below hB6; have hXe6 := hXe5.below hB6; have hXr6 := hXr5.below hB6; have hC6 := bnext hC5 hB6)
          | ((fail_if_success (have _ := hB7)); (have _ := hB6); (refine at_alloc_bk (by rfl) (by rfl) ?_); intro V7 hXo7 hB7 hz7)
          | ((fail_if_success (have _ := hB8)); (have _ := hB7); (refine at_store_bk _ _ _ _ _ (by rfl) (by rfl) (by rfl) hXo7 rfl (by rfl) ?_); intro V8 hXo8 hg8 hz8; have hB8 := hB7.grown hg8 hB7.size (by simp); have hXb8 := hXb6.below hB8; have hXe8 := hXe6.below hB8; have hXr8 := hXr6.below hB8; have hC8 := bnext hC6 hB8)
          | ((fail_if_success (have _ := hB9)); (have _ := hB8); (refine at_load_bk _ _ _ (by rfl) (by rfl) hXb8 (by rfl) ?_))
          | ((fail_if_success (have _ := hB9)); (have _ := hB8); (refine at_load_ev _ _ _ (by rfl) (by rfl) hXe8 (by rfl) ?_))
          | ((fail_if_success (have _ := hB9)); (have _ := hB8); (refine at_load_bk _ _ _ (by rfl) (by rfl) hXr8 (by rfl) ?_))
          | ((fail_if_success (have _ := hB9)); (have _ := hB8); (refine at_load_bk _ _ _ (by rfl) (by rfl) hXo8 (by rfl) ?_))
          | ((have _ := hB8); (fail_if_success (have _ := hXz)); (refine at_store_bk _ _ _ _ _ (by rfl) (by rfl) (by rfl) hXr8 rfl (by rfl) ?_); intro W9 hXz hg9 hz9; have hC9 := hC8.grown hg9 hC8.size (fun j hj => by obtain rfl := Option.some.inj hj; exact hC2.size)))
        refine ret_bk2 (by rfl) rfl _ _ rfl hXz ⟨_, rfl, isb_fresh ((i6 trivial).1.below hB8) hg9 (i6 trivial).2 (by have := hz3.out; have := hB4.size; have := hB5.size; omega), hC9⟩
      | false =>
        rw [hD, if_neg (by decide)] at hap
        rw [(app_none hap).1, (app_none hap).2]
        simp only [hD] at hCm
        clear hD hap op ob
        go_enter Try.func21, Try.ntmps21
        go_wp2_with (first
          | ((fail_if_success (have _ := hB1)); (refine at_box_bk _ _ (by rfl) (by rfl) (by rfl) ?_); intro V1 hXb1 hB1 hz1; have hC1 := hB1)
          | ((fail_if_success (have _ := hB2)); (have _ := hB1); (refine at_box_ev _ _ (by rfl) (by rfl) (by rfl) ?_); intro V2 hXe2 hB2 hz2; have hXb2 := hXb1.below hB2; have hC2 := bnext hC1 hB2)
          | ((fail_if_success (have _ := hB3)); (have _ := hB2); (refine at_alloc_bk (by rfl) (by rfl) ?_); intro V3 hXr3 hB3 hz3; have hXb3 := hXb2.below hB3; have hXe3 := hXe2.below hB3; have hC3 := bnext hC2 hB3)
          | ((fail_if_success (have _ := hB4)); (have _ := hB3); (refine at_load_bk _ _ _ (by rfl) (by rfl) hXb3 (by rfl) ?_))
          | ((fail_if_success (have _ := hB4)); (have _ := hB3); (refine at_load_ev _ _ _ (by rfl) (by rfl) hXe3 (by rfl) ?_))
          | ((fail_if_success (have _ := hB4)); (have _ := hB3); (refine at_load_bk _ _ _ (by rfl) (by rfl) hXr3 (by rfl) ?_))
          | ((fail_if_success (have _ := hB4)); (have _ := hB3); (with_reducible refine (hRt hC3).mono ?_); rintro e w4 ⟨rfl, hB4⟩; have hXb4 := hXb3.below hB4; have hXe4 := hXe3.below hB4; have hXr4 := hXr3.below hB4; have hC4 := bnext hC3 hB4)
          | ((fail_if_success (have _ := hB5)); (have _ := hB4); (refine at_load_bk _ _ _ (by rfl) (by rfl) hXb4 (by rfl) ?_))
          | ((fail_if_success (have _ := hB5)); (have _ := hB4); (refine at_load_ev _ _ _ (by rfl) (by rfl) hXe4 (by rfl) ?_))
          | ((fail_if_success (have _ := hB5)); (have _ := hB4); (refine at_load_bk _ _ _ (by rfl) (by rfl) hXr4 (by rfl) ?_))
          | ((fail_if_success (have _ := hB5)); (have _ := hB4); (with_reducible refine (hRe hC4).mono ?_); rintro e w5 ⟨rfl, hB5⟩; have hXb5 := hXb4.below hB5; have hXe5 := hXe4.below hB5; have hXr5 := hXr4.below hB5; have hC5 := bnext hC4 hB5; have c6 := cells6 hXe5; simp only at c6; have cb := cells_bk hXb5; simp only at cb)
          | ((fail_if_success (have _ := hB6)); (have _ := hB5); (refine at_load_bk _ _ _ (by rfl) (by rfl) hXb5 (by rfl) ?_))
          | ((fail_if_success (have _ := hB6)); (have _ := hB5); (refine at_load_ev _ _ _ (by rfl) (by rfl) hXe5 (by rfl) ?_))
          | ((fail_if_success (have _ := hB6)); (have _ := hB5); (refine at_load_bk _ _ _ (by rfl) (by rfl) hXr5 (by rfl) ?_))
          | ((fail_if_success (have _ := hB6)); (have _ := hB5); (with_reducible refine (hCm hC5).mono ?_); rintro e w6 ⟨hh6, rfl, i6, hB6⟩; have hXb6 := hXb5.below hB6; have hXe6 := hXe5.below hB6; have hXr6 := hXr5.below hB6; have hC6 := bnext hC5 hB6)
          | ((fail_if_success (have _ := hB7)); (have _ := hB6); (refine at_alloc_bk (by rfl) (by rfl) ?_); intro V7 hXo7 hB7 hz7)
          | ((fail_if_success (have _ := hB8)); (have _ := hB7); (refine at_store_bk _ _ _ _ _ (by rfl) (by rfl) (by rfl) hXo7 rfl (by rfl) ?_); intro V8 hXo8 hg8 hz8; have hB8 := hB7.grown hg8 hB7.size (by simp); have hXb8 := hXb6.below hB8; have hXe8 := hXe6.below hB8; have hXr8 := hXr6.below hB8; have hC8 := bnext hC6 hB8)
          | ((fail_if_success (have _ := hB9)); (have _ := hB8); (refine at_load_bk _ _ _ (by rfl) (by rfl) hXb8 (by rfl) ?_))
          | ((fail_if_success (have _ := hB9)); (have _ := hB8); (refine at_load_ev _ _ _ (by rfl) (by rfl) hXe8 (by rfl) ?_))
          | ((fail_if_success (have _ := hB9)); (have _ := hB8); (refine at_load_bk _ _ _ (by rfl) (by rfl) hXr8 (by rfl) ?_))
          | ((fail_if_success (have _ := hB9)); (have _ := hB8); (refine at_load_bk _ _ _ (by rfl) (by rfl) hXo8 (by rfl) ?_))
          | ((have _ := hB8); (fail_if_success (have _ := hXz)); (refine at_store_bk _ _ _ _ _ (by rfl) (by rfl) (by rfl) hXr8 rfl (by rfl) ?_); intro W9 hXz hg9 hz9; have hC9 := hC8.grown hg9 hC8.size (fun j hj => by obtain rfl := Option.some.inj hj; exact hC2.size)))
        refine ret_bk2 (by rfl) rfl _ _ rfl hXz ⟨_, rfl, hIB hC9, hC9⟩
    · have hap := behind_lease hr1 hr2
      obtain ⟨⟨e1, e2, e3, e4⟩, -, -⟩ := ie
      simp only [leaseE] at e1 e2 e3 e4
      subst e1 e2 e3 e4
      obtain ⟨f1, l1, r1⟩ := i
      simp only at f1 l1 r1 hn
      subst f1
      obtain ⟨AB, hAB⟩ : ∃ x, appB ⟨t', es⟩ (leaseE s0 g0) = x := ⟨_, rfl⟩
      obtain ⟨AE, hAE⟩ : ∃ x, appE ⟨t', es⟩ (leaseE s0 g0) = x := ⟨_, rfl⟩
      have HA : Hid (leaseIn es s0 g0 = true → AB = ⟨t', leaseE1 es s0 g0⟩ ∧ AE = 0) := fun hl => by
        rw [hl, if_pos rfl] at hap
        rw [← hAB, ← hAE]; exact app_some hap
      have HZ : Hid (leaseIn es s0 g0 = false → AB = ⟨t', es⟩ ∧ AE = 131) := fun hl => by
        rw [hl, if_neg (by decide)] at hap
        rw [← hAB, ← hAE]; exact app_none hap
      rw [hAB, hAE]
      have hRK := fun {W : World} (hb : Below w.heap.size w W) => r1.below hb
      clear hap hAB hAE hr1 hr2 ht op
      go_enter Try.func21, Try.ntmps21
      go_wp2_with (first
        | ((fail_if_success (have _ := hB1)); (refine at_box_bk _ _ (by rfl) (by rfl) (by rfl) ?_); intro V1 hXb1 hB1 hz1; have hC1 := hB1)
        | ((fail_if_success (have _ := hB2)); (have _ := hB1); (refine at_box_ev _ _ (by rfl) (by rfl) (by rfl) ?_); intro V2 hXe2 hB2 hz2; have hXb2 := hXb1.below hB2; have hC2 := bnext hC1 hB2)
        | ((fail_if_success (have _ := hB3)); (have _ := hB2); (refine at_alloc_bk (by rfl) (by rfl) ?_); intro V3 hXr3 hB3 hz3; have hXb3 := hXb2.below hB3; have hXe3 := hXe2.below hB3; have hC3 := bnext hC2 hB3)
        | ((fail_if_success (have _ := hB4)); (have _ := hB3); (refine at_load_bk _ _ _ (by rfl) (by rfl) hXb3 (by rfl) ?_))
        | ((fail_if_success (have _ := hB4)); (have _ := hB3); (refine at_load_ev _ _ _ (by rfl) (by rfl) hXe3 (by rfl) ?_))
        | ((fail_if_success (have _ := hB4)); (have _ := hB3); (refine at_load_bk _ _ _ (by rfl) (by rfl) hXr3 (by rfl) ?_))
        | ((fail_if_success (have _ := hB4)); (have _ := hB3); (with_reducible refine (hRt hC3).mono ?_); rintro e w4 ⟨rfl, hB4⟩; have hXb4 := hXb3.below hB4; have hXe4 := hXe3.below hB4; have hXr4 := hXr3.below hB4; have hC4 := bnext hC3 hB4)
        | ((fail_if_success (have _ := hB5)); (have _ := hB4); (refine at_load_bk _ _ _ (by rfl) (by rfl) hXb4 (by rfl) ?_))
        | ((fail_if_success (have _ := hB5)); (have _ := hB4); (refine at_load_ev _ _ _ (by rfl) (by rfl) hXe4 (by rfl) ?_))
        | ((fail_if_success (have _ := hB5)); (have _ := hB4); (refine at_load_bk _ _ _ (by rfl) (by rfl) hXr4 (by rfl) ?_))
        | ((fail_if_success (have _ := hB5)); (have _ := hB4); (with_reducible refine (hRe hC4).mono ?_); rintro e w5 ⟨rfl, hB5⟩; have hXb5 := hXb4.below hB5; have hXe5 := hXe4.below hB5; have hXr5 := hXr4.below hB5; have hC5 := bnext hC4 hB5; have c6 := cells6 hXe5; simp only at c6; have cb := cells_bk hXb5; simp only at cb)
        | ((fail_if_success (have _ := hB6)); (have _ := hB5); (refine at_load_bk _ _ _ (by rfl) (by rfl) hXb5 (by rfl) ?_))
        | ((fail_if_success (have _ := hB6)); (have _ := hB5); (refine at_load_ev _ _ _ (by rfl) (by rfl) hXe5 (by rfl) ?_))
        | ((fail_if_success (have _ := hB6)); (have _ := hB5); (refine at_load_bk _ _ _ (by rfl) (by rfl) hXr5 (by rfl) ?_)))
      refine Inv.region_invB (fun L a w' => ∃ (gS : Nat) (gO : Nat) (q5 : Option Addr) (c5 : Nat), a = { tmps := #[(bv { t := t', q := q, n := n, c := c }), (ev { k := 2, s := s0, pp := pp, pn := pn, pc := pc, dp := dp, dn := dn, dc := dc, g := g0, t := 0 }), (Value.pointer (some { block := w.heap.size, off := 0 })), (Value.pointer (some { block := V1.heap.size, off := 0 })), (Value.pointer (some { block := V2.heap.size, off := 0 })), (Value.int IntKind.i64 0), undef, undef, (if L 7 = true then (.pointer (some ⟨gO, 0, none⟩)) else undef), undef, undef, undef, (bv { t := t', q := q, n := n, c := c }), (Value.bool true), (Value.bool false), (Value.bool false), (ev { k := 2, s := s0, pp := pp, pn := pn, pc := pc, dp := dp, dn := dn, dc := dc, g := g0, t := 0 }), (Value.bool true), (Value.bool false), (Value.bool false), undef, (Value.pointer (some { block := V1.heap.size, off := 0 })), (Value.int IntKind.i64 2), (Value.bool false), undef, undef, undef, undef, undef, undef, undef, undef, undef, undef, (if L 0 = true then (.pointer (some ⟨w.heap.size, 0, none⟩)) else undef), (if L 1 = true then (.int .u64 t') else undef), (if L 2 = true then (.slice (some ⟨gS, 0, none⟩) 0 0) else undef), (if L 3 = true then (.pointer (some ⟨w.heap.size, 1, none⟩)) else undef), (if L 4 = true then (.slice q n c) else undef), (if L 5 = true then (.slice q5 n c5) else undef), (if L 6 = true then (bv ⟨t', q5, n, c5⟩) else undef), undef, undef, undef, undef, undef, undef, undef, undef, undef, undef, undef, undef, undef, undef, undef, undef, undef, undef, undef, undef, undef, undef, undef, undef, undef, undef, undef, undef, undef, undef, undef, undef, undef, undef, undef, undef, undef, undef, undef, undef, undef, undef, undef, undef, undef, undef, undef, undef, undef, undef, undef, undef, undef, undef, undef, undef, undef, undef, undef, undef, undef, undef, undef, undef, undef], defers := [] } ∧ (Below w5.heap.size w5 w' ∧ (L 2 = true → L 5 = false → EO w5.heap.size w' (.slice (some ⟨gS, 0, none⟩) 0 0) []) ∧ (L 5 = true → EO w5.heap.size w' (.slice q5 n c5) es) ∧ (L 7 = true → Blk w' gO 25 (bl (if L 8 = true then ⟨t', q5, n, c5⟩ else zeroH)) ∧ w5.heap.size ≤ gO) ∧ (L 5 = false → L 6 = false ∧ L 8 = false) ∧ (L 7 = false → L 8 = false) ∧ (L 2 = false → L 5 = false))) (by kernel_rfl) (by kernel_rfl) ?h0 ?step ?done
      case h0 => exact ⟨0, 0, none, 0, by simp, (Below.refl _ _).drew, by simp, by simp, by simp, by simp, by simp, by simp⟩
      case step =>
        refine Inv.Steps.cons rfl ?_ ?_
        · intro L a w' hI hL hd K hK
          obtain ⟨gS, gO, q5, c5, rfl, hI⟩ := hI
          clear hd
          rw [if_pos (by rfl)]
          go_simp
          exact hK.out _ _ ⟨gS, gO, q5, c5, by simp, by simpa using hI⟩
        refine Inv.Steps.cons rfl ?_ ?_
        · intro L a w' hI hL hd K hK
          obtain ⟨gS, gO, q5, c5, rfl, hI⟩ := hI
          simp [Region.binds] at hd
          simp only [hd, if_true]
          rw [if_pos (by rfl)]
          have cb := cells_bk (hXb5.below hI.1)
          simp only at cb
          go_simp
          exact hK.out _ _ ⟨gS, gO, q5, c5, by simp [hd], by simpa using hI⟩
        refine Inv.Steps.cons rfl ?_ ?_
        · intro L a w' hI hL hd K hK
          obtain ⟨gS, gO, q5, c5, rfl, hI⟩ := hI
          clear hd
          rw [if_pos (by rfl)]
          have e5 := hI.2.2.2.2.2.2 hL
          obtain ⟨e6, e8⟩ := hI.2.2.2.2.1 e5
          go_simp
          exact hK.out _ _ ⟨w'.heap.size, gO, q5, c5, by simp [e5, e6], hI.1.alloc hI.1.size _, fun _ _ => (none_ent _).lower hI.1.size, fun h => by simp [e5] at h, fun h => by have h2 := hI.2.2.2.1 (by simpa using h); exact ⟨by simpa using h2.1.alloc _, h2.2⟩, by simpa using hI.2.2.2.2.1, by simpa using hI.2.2.2.2.2.1, fun h => by simp at h⟩
        refine Inv.Steps.cons rfl ?_ ?_
        · intro L a w' hI hL hd K hK
          obtain ⟨gS, gO, q5, c5, rfl, hI⟩ := hI
          clear hd
          rw [if_pos (by rfl)]
          go_simp
          exact hK.out _ _ ⟨gS, gO, q5, c5, by simp, by simpa using hI⟩
        refine Inv.Steps.cons rfl ?_ ?_
        · intro L a w' hI hL hd K hK
          obtain ⟨gS, gO, q5, c5, rfl, hI⟩ := hI
          simp [Region.binds] at hd
          simp only [hd, if_true]
          rw [if_pos (by rfl)]
          have cb := cells_bk (hXb5.below hI.1)
          simp only at cb
          go_simp
          exact hK.out _ _ ⟨gS, gO, q5, c5, by simp [hd], by simpa using hI⟩
        refine Inv.Steps.cons rfl ?_ ?_
        · intro L a w' hI hL hd K hK
          obtain ⟨gS, gO, q5, c5, rfl, hI⟩ := hI
          simp [Region.binds] at hd
          simp only [hd, if_true]
          rw [if_pos (by rfl)]
          have e2 : L 2 = true := by simp [hd]
          obtain ⟨e6, e8⟩ := hI.2.2.2.2.1 hL
          have hO := hI.2.1 e2 hL
          refine wp_append_en _ _ (by rfl) w5.heap.size _ [] (by rfl) hO q n c es (by rfl) l1 ((hRK (bnext hC5 hI.1))) (by simp; omega) hI.1.size ?_
          intro v6 w6 ho6 hg6 hli6
          rw [List.nil_append] at ho6
          obtain ⟨q6, c6, hv6, -, -⟩ := ho6.shape
          rw [l1] at hv6
          subst hv6
          exact hK.out _ _ ⟨gS, gO, q6, c6, by simp [hd, e6, Act.put], hI.1.grown hg6 hI.1.size (fun j hj => own_from_base hO j hj), fun _ h => by simp at h, fun _ => ho6, fun h => by have h2 := hI.2.2.2.1 (by simpa using h); rw [e8] at h2; exact ⟨by simpa [e8] using h2.1.kept hg6 (hO.ne h2.1 (by decide)), h2.2⟩, fun h => by simp at h, by simpa using hI.2.2.2.2.2.1, fun h => by simp [e2] at h⟩
        refine Inv.Steps.cons rfl ?_ ?_
        · intro L a w' hI hL hd K hK
          obtain ⟨gS, gO, q5, c5, rfl, hI⟩ := hI
          simp [Region.binds] at hd
          simp only [hd, if_true]
          rw [if_pos (by rfl)]
          have e5 : L 5 = true := by simp [hd]
          refine wp_build_bboth _ _ t' q5 n c5 (by rfl) (by rfl) (by rfl) ?_
          exact hK.out _ _ ⟨gS, gO, q5, c5, by simp [hd, Act.put], hI.1, by simpa using hI.2.1, by simpa using hI.2.2.1, by simpa using hI.2.2.2.1, fun h => absurd h (by simp [e5]), by simpa using hI.2.2.2.2.2.1, by simpa using hI.2.2.2.2.2.2⟩
        refine Inv.Steps.cons rfl ?_ ?_
        · intro L a w' hI hL hd K hK
          obtain ⟨gS, gO, q5, c5, rfl, hI⟩ := hI
          clear hd
          rw [if_pos (by rfl)]
          have e8 := hI.2.2.2.2.2.1 hL
          refine wp_alloc_bk (by rfl) ?_
          intro w6 hX6 hB6 hz6
          exact hK.out _ _ ⟨gS, w'.heap.size, q5, c5, by simp [Act.put], bnext hI.1 hB6, fun a b => (hI.2.1 (by simpa using a) (by simpa using b)).below hB6, fun a => (hI.2.2.1 (by simpa using a)).below hB6, fun _ => ⟨by simpa [e8] using hX6, hI.1.size⟩, by simpa using hI.2.2.2.2.1, fun h => by simp at h, by simpa using hI.2.2.2.2.2.2⟩
        refine Inv.Steps.cons rfl ?_ ?_
        · intro L a w' hI hL hd K hK
          obtain ⟨gS, gO, q5, c5, rfl, hI⟩ := hI
          simp [Region.binds] at hd
          simp only [hd, if_true]
          rw [if_pos (by rfl)]
          have e6 : L 6 = true := by simp [hd]
          have e7 : L 7 = true := by simp [hd]
          have e5 : L 5 = true := Bool.of_not_eq_false fun h => by have := (hI.2.2.2.2.1 h).1; rw [e6] at this; cases this
          have hX := hI.2.2.2.1 e7
          have hX1 : Blk w' gO 25 (bl zeroH) := by simpa [hL] using hX.1
          have hO := hI.2.2.1 e5
          refine wp_store_bk _ _ _ _ _ (by rfl) (by rfl) (by rfl) hX1 rfl ?_
          intro w6 hX6 hg6 hz6
          exact hK.out _ _ ⟨gS, gO, q5, c5, by simp [hd, Act.put], hI.1.grown hg6 hI.1.size (fun j hj => by obtain rfl := Option.some.inj hj; exact hX.2), fun a b => absurd b (by simp [e5]), fun _ => hO.off hX1 (by decide) hg6, fun _ => ⟨by simpa using hX6, hX.2⟩, fun h => absurd h (by simp [e5]), fun h => absurd h (by simp [e7]), by simpa using hI.2.2.2.2.2.2⟩
        exact Inv.Steps.nil (by decide)
      case done =>
        intro L a w' hI hall
        obtain ⟨gS, gO, q5, c5, rfl, hI⟩ := hI
        simp only [hall, if_true] at hI ⊢
        have hIW := hI.1
        have hO5 := hI.2.2.1 trivial
        obtain ⟨hXo, hgO⟩ := hI.2.2.2.1 trivial
        clear hI hall
        have hXb6 := hXb5.below hIW
        have hXe6 := hXe5.below hIW
        have hXr6 := hXr5.below hIW
        have hC6 := bnext hC5 hIW
        have ce := cells6 hXe6
        have co := cells_bk hXo
        have cb := cells_bk hXb6
        simp only at ce co cb
        go_wp2
        go_loopw [47] (fun j wr => ∃ k : Nat, k ≤ n ∧ j = .int .i64 k ∧ Below w'.heap.size w' wr ∧ Hid (∀ x ∈ es.take k, ¬ fullM s0 g0 x)) (fun j _ => n - (intOf j).toNat)
        case atStart => exact ⟨0, Nat.zero_le _, rfl, Below.refl _ _, by unfold Hid; simp⟩
        case round =>
          obtain ⟨k, hk, rfl, hBr, HG⟩ := hrel
          have hOr := hO5.below hBr
          have hXo7 := hXo.below hBr
          have hXe7 := hXe6.below hBr
          have hXr7 := hXr6.below hBr
          have hXb7 := hXb6.below hBr
          have hC7 := bnext hC6 hBr
          clear ce co cb
          by_cases hlt : k < n
          · have hlt3 : (k : Int) < (n : Int) := by omega
            obtain ⟨x, hx⟩ : ∃ x, es[k]? = some x := ⟨_, List.getElem?_eq_getElem (by omega)⟩
            obtain ⟨gq, c', hv, hob⟩ := hOr.some (by rw [hOr.is.1]; omega)
            rw [hOr.is.1] at hv
            simp only [Value.slice.injEq, true_and] at hv
            obtain ⟨rfl, rfl⟩ := hv
            have hcl : ∀ j v, (nl x)[j]? = some v → wr.cell? ⟨gq, k * 14 + j, none⟩ = some v := fun j v hv => cell_own hOr hx hv
            by_cases hf : fullM s0 g0 x
            · obtain ⟨hl1, hl2⟩ := lease_full hris hx hf
              obtain ⟨rfl, rfl⟩ := HA.out hl1
              obtain ⟨a1, a2, a3⟩ := hf
              have b1 : (x.p.s == s0) = true := by simpa using a1
              have b1' : decide (x.p.s = s0) = true := decide_eq_true a1
              have b2 : decide (x.g ≤ g0) = true := decide_eq_true a2
              have b3 : decide (g0 ≤ (x.p.x4 : Int)) = true := decide_eq_true a3
              have hgo := hOr.ne hXo7 (by decide)
              have hgr := hOr.ne hXr7 (by decide)
              rw [hob] at hgo hgr
              have HL : Hid (leaseE1 es s0 g0 = es.set k ⟨x.p, g0⟩) := hl2
              have HX : Hid (es[k]? = some x) := hx
              clear hl1 hl2 HA HZ HG a1 hx
              go_wp2_with (first
                | ((fail_if_success (have _ := hY1)); (refine at_load_ren _ _ _ _ (by rfl) (by rfl) hcl (by rfl) ?_))
                | ((fail_if_success (have _ := hY1)); (refine at_alloc_en (by rfl) (by rfl) ?_); intro W1 hY1 hB8 hz8)
                | ((fail_if_success (have _ := hY2)); (have _ := hY1); (refine at_store_en _ _ _ _ _ (by rfl) (by rfl) (by rfl) hY1 rfl (by rfl) ?_); intro W2 hY2 hg8 hz9; have hB9 := hB8.grown hg8 hB8.size (by simp); have hBr9 := bnext hBr hB9; have hO9 := hOr.below hB9; have hXo9 := hXo7.below hB9; have hXr9 := hXr7.below hB9; have hC9' := bnext hC7 hB9; have cy := cells14 hY2; have ce9 := cells6 (hXe7.below hB9); have co9 := cells_bk hXo9; simp only at ce9 co9)
                | ((fail_if_success (have _ := hOb)); (have _ := hY2); (refine at_own_g _ _ w5.heap.size gq k n _ es x g0 (by rfl) (by rfl) (by rfl) hO9 HX.out (by rfl) ?_); intro W3 hOb hgb hzb; have hXob := hXo9.kept hgb hgo; have hXrb := hXr9.kept hgb hgr; have hCb := hC9'.grown hgb hC9'.size (fun j hj => by obtain rfl := Option.some.inj hj; have h1 := own_from_base hO9 gq rfl; have h2 := hC5.size; omega))
                | ((fail_if_success (have _ := hXz)); (have _ := hOb); (refine at_load_bk _ _ _ (by rfl) (by rfl) hXob (by rfl) ?_))
                | ((fail_if_success (have _ := hXz)); (have _ := hOb); (refine at_store_bk _ _ _ _ _ (by rfl) (by rfl) (by rfl) hXrb rfl (by rfl) ?_); intro W9 hXz hg9 hz9'; have hOz := hOb.off hXrb (by decide) hg9; have hCz := hCb.grown hg9 hCb.size (fun j hj => by obtain rfl := Option.some.inj hj; exact hC2.size)))
              refine ret_bk2 (by rfl) rfl _ _ rfl hXz ⟨_, rfl, by rw [HL.out]; exact (isb_own hOz).1, hCz⟩
            · have HG2 : Hid (∀ y ∈ es.take (k + 1), ¬ fullM s0 g0 y) := fun y hy => by
                rw [take_next hx, List.mem_append, List.mem_singleton] at hy
                rcases hy with hy | rfl
                · exact HG.out y hy
                · exact hf
              by_cases a1 : x.p.s = s0
              · have b1 : (x.p.s == s0) = true := by simpa using a1
                have b1' : decide (x.p.s = s0) = true := decide_eq_true a1
                by_cases a2 : x.g ≤ g0
                · have b2 : decide (x.g ≤ g0) = true := decide_eq_true a2
                  have b3 : decide (g0 ≤ (x.p.x4 : Int)) = false := decide_eq_false fun a3 => hf ⟨a1, a2, a3⟩
                  clear HG hf hx a1 a2
                  go_wp2_with (first
                              | ((fail_if_success (have _ := hY1)); (refine at_load_ren _ _ _ _ (by rfl) (by rfl) hcl (by rfl) ?_))
                              | ((fail_if_success (have _ := hY1)); (refine at_alloc_en (by rfl) (by rfl) ?_); intro W1 hY1 hB8 hz8)
                              | ((fail_if_success (have _ := hY2)); (have _ := hY1); (refine at_store_en _ _ _ _ _ (by rfl) (by rfl) (by rfl) hY1 rfl (by rfl) ?_); intro W2 hY2 hg8 hz9; have hB9 := hB8.grown hg8 hB8.size (by simp); have hBr9 := bnext hBr hB9; have hO9 := hOr.below hB9; have hXo9 := hXo7.below hB9; have hXr9 := hXr7.below hB9; have hC9' := bnext hC7 hB9; have cy := cells14 hY2; have ce9 := cells6 (hXe7.below hB9); have co9 := cells_bk hXo9; simp only at ce9 co9))
                  go_roundw
                  case rel => exact ⟨k + 1, by omega, by go_num, hBr9, HG2⟩
                  case measure => simp [intOf]; omega
                · have b2 : decide (x.g ≤ g0) = false := decide_eq_false a2
                  clear HG hf hx a1 a2
                  go_wp2_with (first
                              | ((fail_if_success (have _ := hY1)); (refine at_load_ren _ _ _ _ (by rfl) (by rfl) hcl (by rfl) ?_))
                              | ((fail_if_success (have _ := hY1)); (refine at_alloc_en (by rfl) (by rfl) ?_); intro W1 hY1 hB8 hz8)
                              | ((fail_if_success (have _ := hY2)); (have _ := hY1); (refine at_store_en _ _ _ _ _ (by rfl) (by rfl) (by rfl) hY1 rfl (by rfl) ?_); intro W2 hY2 hg8 hz9; have hB9 := hB8.grown hg8 hB8.size (by simp); have hBr9 := bnext hBr hB9; have hO9 := hOr.below hB9; have hXo9 := hXo7.below hB9; have hXr9 := hXr7.below hB9; have hC9' := bnext hC7 hB9; have cy := cells14 hY2; have ce9 := cells6 (hXe7.below hB9); have co9 := cells_bk hXo9; simp only at ce9 co9))
                  go_roundw
                  case rel => exact ⟨k + 1, by omega, by go_num, hBr9, HG2⟩
                  case measure => simp [intOf]; omega
              · have b1 : (x.p.s == s0) = false := by simpa using a1
                have b1' : decide (x.p.s = s0) = false := decide_eq_false a1
                clear HG hf hx a1
                go_wp2_with (first
                          | ((fail_if_success (have _ := hY1)); (refine at_load_ren _ _ _ _ (by rfl) (by rfl) hcl (by rfl) ?_))
                          | ((fail_if_success (have _ := hY1)); (refine at_alloc_en (by rfl) (by rfl) ?_); intro W1 hY1 hB8 hz8)
                          | ((fail_if_success (have _ := hY2)); (have _ := hY1); (refine at_store_en _ _ _ _ _ (by rfl) (by rfl) (by rfl) hY1 rfl (by rfl) ?_); intro W2 hY2 hg8 hz9; have hB9 := hB8.grown hg8 hB8.size (by simp); have hBr9 := bnext hBr hB9; have hO9 := hOr.below hB9; have hXo9 := hXo7.below hB9; have hXr9 := hXr7.below hB9; have hC9' := bnext hC7 hB9; have cy := cells14 hY2; have ce9 := cells6 (hXe7.below hB9); have co9 := cells_bk hXo9; simp only at ce9 co9))
                go_roundw
                case rel => exact ⟨k + 1, by omega, by go_num, hBr9, HG2⟩
                case measure => simp [intOf]; omega
          · obtain rfl : k = n := by omega
            have hdt : es.take k = es := List.take_of_length_le (by omega)
            rw [hdt] at HG
            obtain ⟨rfl, rfl⟩ := HZ.out (lease_none HG.out)
            clear HG HA HZ hdt
            go_wp2_with (first
              | ((fail_if_success (have _ := hXz)); (refine at_load_bk _ _ _ (by rfl) (by rfl) hXb7 (by rfl) ?_))
              | ((fail_if_success (have _ := hXz)); (refine at_store_bk _ _ _ _ _ (by rfl) (by rfl) (by rfl) hXr7 rfl (by rfl) ?_); intro W9 hXz hg9 hz9'; have hCz := hC7.grown hg9 hC7.size (fun j hj => by obtain rfl := Option.some.inj hj; exact hC2.size)))
            refine ret_bk2 (by rfl) rfl _ _ rfl hXz ⟨_, rfl, hIB hCz, hCz⟩
    · have hap := behind_period hr1 hr2
      obtain ⟨⟨e1, e2, e3, e4⟩, -, -⟩ := ie
      simp only [periodE] at e1 e2 e3 e4
      subst e1 e2 e3 e4
      obtain ⟨f1, l1, r1⟩ := i
      simp only at f1 l1 r1 hn ht
      subst f1
      have hwr : IntKind.u64.wrap (t' + 1) = t' + 1 := by rw [IntKind.wrap_u64]; omega
      obtain ⟨AB, hAB⟩ : ∃ x, appB ⟨t', es⟩ (periodE u0) = x := ⟨_, rfl⟩
      obtain ⟨AE, hAE⟩ : ∃ x, appE ⟨t', es⟩ (periodE u0) = x := ⟨_, rfl⟩
      have HA : Hid (u0 = t' + 1 → AB = ⟨u0, rollE es⟩ ∧ AE = 0) := fun hl => by
        rw [if_pos hl] at hap
        rw [← hAB, ← hAE]; exact app_some hap
      have HZ : Hid (¬ u0 = t' + 1 → AB = ⟨t', es⟩ ∧ AE = 131) := fun hl => by
        rw [if_neg hl] at hap
        rw [← hAB, ← hAE]; exact app_none hap
      rw [hAB, hAE]
      have hRK := fun {W : World} (hb : Below w.heap.size w W) => r1.below hb
      clear hap hAB hAE hr1 hr2 ht op hris
      go_enter Try.func21, Try.ntmps21
      go_wp2_with (first
        | ((fail_if_success (have _ := hB1)); (refine at_box_bk _ _ (by rfl) (by rfl) (by rfl) ?_); intro V1 hXb1 hB1 hz1; have hC1 := hB1)
        | ((fail_if_success (have _ := hB2)); (have _ := hB1); (refine at_box_ev _ _ (by rfl) (by rfl) (by rfl) ?_); intro V2 hXe2 hB2 hz2; have hXb2 := hXb1.below hB2; have hC2 := bnext hC1 hB2)
        | ((fail_if_success (have _ := hB3)); (have _ := hB2); (refine at_alloc_bk (by rfl) (by rfl) ?_); intro V3 hXr3 hB3 hz3; have hXb3 := hXb2.below hB3; have hXe3 := hXe2.below hB3; have hC3 := bnext hC2 hB3)
        | ((fail_if_success (have _ := hB4)); (have _ := hB3); (refine at_load_bk _ _ _ (by rfl) (by rfl) hXb3 (by rfl) ?_))
        | ((fail_if_success (have _ := hB4)); (have _ := hB3); (refine at_load_ev _ _ _ (by rfl) (by rfl) hXe3 (by rfl) ?_))
        | ((fail_if_success (have _ := hB4)); (have _ := hB3); (refine at_load_bk _ _ _ (by rfl) (by rfl) hXr3 (by rfl) ?_))
        | ((fail_if_success (have _ := hB4)); (have _ := hB3); (with_reducible refine (hRt hC3).mono ?_); rintro e w4 ⟨rfl, hB4⟩; have hXb4 := hXb3.below hB4; have hXe4 := hXe3.below hB4; have hXr4 := hXr3.below hB4; have hC4 := bnext hC3 hB4)
        | ((fail_if_success (have _ := hB5)); (have _ := hB4); (refine at_load_bk _ _ _ (by rfl) (by rfl) hXb4 (by rfl) ?_))
        | ((fail_if_success (have _ := hB5)); (have _ := hB4); (refine at_load_ev _ _ _ (by rfl) (by rfl) hXe4 (by rfl) ?_))
        | ((fail_if_success (have _ := hB5)); (have _ := hB4); (refine at_load_bk _ _ _ (by rfl) (by rfl) hXr4 (by rfl) ?_))
        | ((fail_if_success (have _ := hB5)); (have _ := hB4); (with_reducible refine (hRe hC4).mono ?_); rintro e w5 ⟨rfl, hB5⟩; have hXb5 := hXb4.below hB5; have hXe5 := hXe4.below hB5; have hXr5 := hXr4.below hB5; have hC5 := bnext hC4 hB5; have c6 := cells6 hXe5; simp only at c6; have cb := cells_bk hXb5; simp only at cb)
        | ((fail_if_success (have _ := hB6)); (have _ := hB5); (refine at_load_bk _ _ _ (by rfl) (by rfl) hXb5 (by rfl) ?_))
        | ((fail_if_success (have _ := hB6)); (have _ := hB5); (refine at_load_ev _ _ _ (by rfl) (by rfl) hXe5 (by rfl) ?_))
        | ((fail_if_success (have _ := hB6)); (have _ := hB5); (refine at_load_bk _ _ _ (by rfl) (by rfl) hXr5 (by rfl) ?_)))
      refine Inv.region_invB (fun L a w' => ∃ (gS : Nat) (gO : Nat) (q5 : Option Addr) (c5 : Nat), a = { tmps := #[(bv { t := t', q := q, n := n, c := c }), (ev { k := 3, s := 0, pp := pp, pn := pn, pc := pc, dp := dp, dn := dn, dc := dc, g := 0, t := u0 }), (Value.pointer (some { block := w.heap.size, off := 0 })), (Value.pointer (some { block := V1.heap.size, off := 0 })), (Value.pointer (some { block := V2.heap.size, off := 0 })), (Value.int IntKind.i64 0), undef, undef, (if L 7 = true then (.pointer (some ⟨gO, 0, none⟩)) else undef), undef, undef, undef, (bv { t := t', q := q, n := n, c := c }), (Value.bool true), (Value.bool false), (Value.bool false), (ev { k := 3, s := 0, pp := pp, pn := pn, pc := pc, dp := dp, dn := dn, dc := dc, g := 0, t := u0 }), (Value.bool true), (Value.bool false), (Value.bool false), undef, (Value.pointer (some { block := V1.heap.size, off := 0 })), (Value.int IntKind.i64 3), (Value.bool false), undef, undef, undef, undef, undef, undef, undef, undef, undef, undef, (if L 0 = true then (.pointer (some ⟨w.heap.size, 0, none⟩)) else undef), (if L 1 = true then (.int .u64 t') else undef), (if L 2 = true then (.slice (some ⟨gS, 0, none⟩) 0 0) else undef), (if L 3 = true then (.pointer (some ⟨w.heap.size, 1, none⟩)) else undef), (if L 4 = true then (.slice q n c) else undef), (if L 5 = true then (.slice q5 n c5) else undef), (if L 6 = true then (bv ⟨t', q5, n, c5⟩) else undef), undef, undef, undef, undef, undef, undef, undef, undef, undef, undef, undef, undef, undef, undef, undef, undef, undef, undef, undef, undef, undef, undef, undef, undef, undef, undef, undef, undef, undef, undef, undef, undef, undef, undef, undef, undef, undef, undef, undef, undef, undef, undef, undef, undef, undef, undef, undef, undef, undef, undef, undef, undef, undef, undef, undef, undef, undef, undef, undef, undef, undef, undef, undef, undef, undef], defers := [] } ∧ (Below w5.heap.size w5 w' ∧ (L 2 = true → L 5 = false → EO w5.heap.size w' (.slice (some ⟨gS, 0, none⟩) 0 0) []) ∧ (L 5 = true → EO w5.heap.size w' (.slice q5 n c5) es) ∧ (L 7 = true → Blk w' gO 25 (bl (if L 8 = true then ⟨t', q5, n, c5⟩ else zeroH)) ∧ w5.heap.size ≤ gO) ∧ (L 5 = false → L 6 = false ∧ L 8 = false) ∧ (L 7 = false → L 8 = false) ∧ (L 2 = false → L 5 = false))) (by kernel_rfl) (by kernel_rfl) ?h0 ?step ?done
      case h0 => exact ⟨0, 0, none, 0, by simp, (Below.refl _ _).drew, by simp, by simp, by simp, by simp, by simp, by simp⟩
      case step =>
        refine Inv.Steps.cons rfl ?_ ?_
        · intro L a w' hI hL hd K hK
          obtain ⟨gS, gO, q5, c5, rfl, hI⟩ := hI
          clear hd
          rw [if_pos (by rfl)]
          go_simp
          exact hK.out _ _ ⟨gS, gO, q5, c5, by simp, by simpa using hI⟩
        refine Inv.Steps.cons rfl ?_ ?_
        · intro L a w' hI hL hd K hK
          obtain ⟨gS, gO, q5, c5, rfl, hI⟩ := hI
          simp [Region.binds] at hd
          simp only [hd, if_true]
          rw [if_pos (by rfl)]
          have cb := cells_bk (hXb5.below hI.1)
          simp only at cb
          go_simp
          exact hK.out _ _ ⟨gS, gO, q5, c5, by simp [hd], by simpa using hI⟩
        refine Inv.Steps.cons rfl ?_ ?_
        · intro L a w' hI hL hd K hK
          obtain ⟨gS, gO, q5, c5, rfl, hI⟩ := hI
          clear hd
          rw [if_pos (by rfl)]
          have e5 := hI.2.2.2.2.2.2 hL
          obtain ⟨e6, e8⟩ := hI.2.2.2.2.1 e5
          go_simp
          exact hK.out _ _ ⟨w'.heap.size, gO, q5, c5, by simp [e5, e6], hI.1.alloc hI.1.size _, fun _ _ => (none_ent _).lower hI.1.size, fun h => by simp [e5] at h, fun h => by have h2 := hI.2.2.2.1 (by simpa using h); exact ⟨by simpa using h2.1.alloc _, h2.2⟩, by simpa using hI.2.2.2.2.1, by simpa using hI.2.2.2.2.2.1, fun h => by simp at h⟩
        refine Inv.Steps.cons rfl ?_ ?_
        · intro L a w' hI hL hd K hK
          obtain ⟨gS, gO, q5, c5, rfl, hI⟩ := hI
          clear hd
          rw [if_pos (by rfl)]
          go_simp
          exact hK.out _ _ ⟨gS, gO, q5, c5, by simp, by simpa using hI⟩
        refine Inv.Steps.cons rfl ?_ ?_
        · intro L a w' hI hL hd K hK
          obtain ⟨gS, gO, q5, c5, rfl, hI⟩ := hI
          simp [Region.binds] at hd
          simp only [hd, if_true]
          rw [if_pos (by rfl)]
          have cb := cells_bk (hXb5.below hI.1)
          simp only at cb
          go_simp
          exact hK.out _ _ ⟨gS, gO, q5, c5, by simp [hd], by simpa using hI⟩
        refine Inv.Steps.cons rfl ?_ ?_
        · intro L a w' hI hL hd K hK
          obtain ⟨gS, gO, q5, c5, rfl, hI⟩ := hI
          simp [Region.binds] at hd
          simp only [hd, if_true]
          rw [if_pos (by rfl)]
          have e2 : L 2 = true := by simp [hd]
          obtain ⟨e6, e8⟩ := hI.2.2.2.2.1 hL
          have hO := hI.2.1 e2 hL
          refine wp_append_en _ _ (by rfl) w5.heap.size _ [] (by rfl) hO q n c es (by rfl) l1 ((hRK (bnext hC5 hI.1))) (by simp; omega) hI.1.size ?_
          intro v6 w6 ho6 hg6 hli6
          rw [List.nil_append] at ho6
          obtain ⟨q6, c6, hv6, -, -⟩ := ho6.shape
          rw [l1] at hv6
          subst hv6
          exact hK.out _ _ ⟨gS, gO, q6, c6, by simp [hd, e6, Act.put], hI.1.grown hg6 hI.1.size (fun j hj => own_from_base hO j hj), fun _ h => by simp at h, fun _ => ho6, fun h => by have h2 := hI.2.2.2.1 (by simpa using h); rw [e8] at h2; exact ⟨by simpa [e8] using h2.1.kept hg6 (hO.ne h2.1 (by decide)), h2.2⟩, fun h => by simp at h, by simpa using hI.2.2.2.2.2.1, fun h => by simp [e2] at h⟩
        refine Inv.Steps.cons rfl ?_ ?_
        · intro L a w' hI hL hd K hK
          obtain ⟨gS, gO, q5, c5, rfl, hI⟩ := hI
          simp [Region.binds] at hd
          simp only [hd, if_true]
          rw [if_pos (by rfl)]
          have e5 : L 5 = true := by simp [hd]
          refine wp_build_bboth _ _ t' q5 n c5 (by rfl) (by rfl) (by rfl) ?_
          exact hK.out _ _ ⟨gS, gO, q5, c5, by simp [hd, Act.put], hI.1, by simpa using hI.2.1, by simpa using hI.2.2.1, by simpa using hI.2.2.2.1, fun h => absurd h (by simp [e5]), by simpa using hI.2.2.2.2.2.1, by simpa using hI.2.2.2.2.2.2⟩
        refine Inv.Steps.cons rfl ?_ ?_
        · intro L a w' hI hL hd K hK
          obtain ⟨gS, gO, q5, c5, rfl, hI⟩ := hI
          clear hd
          rw [if_pos (by rfl)]
          have e8 := hI.2.2.2.2.2.1 hL
          refine wp_alloc_bk (by rfl) ?_
          intro w6 hX6 hB6 hz6
          exact hK.out _ _ ⟨gS, w'.heap.size, q5, c5, by simp [Act.put], bnext hI.1 hB6, fun a b => (hI.2.1 (by simpa using a) (by simpa using b)).below hB6, fun a => (hI.2.2.1 (by simpa using a)).below hB6, fun _ => ⟨by simpa [e8] using hX6, hI.1.size⟩, by simpa using hI.2.2.2.2.1, fun h => by simp at h, by simpa using hI.2.2.2.2.2.2⟩
        refine Inv.Steps.cons rfl ?_ ?_
        · intro L a w' hI hL hd K hK
          obtain ⟨gS, gO, q5, c5, rfl, hI⟩ := hI
          simp [Region.binds] at hd
          simp only [hd, if_true]
          rw [if_pos (by rfl)]
          have e6 : L 6 = true := by simp [hd]
          have e7 : L 7 = true := by simp [hd]
          have e5 : L 5 = true := Bool.of_not_eq_false fun h => by have := (hI.2.2.2.2.1 h).1; rw [e6] at this; cases this
          have hX := hI.2.2.2.1 e7
          have hX1 : Blk w' gO 25 (bl zeroH) := by simpa [hL] using hX.1
          have hO := hI.2.2.1 e5
          refine wp_store_bk _ _ _ _ _ (by rfl) (by rfl) (by rfl) hX1 rfl ?_
          intro w6 hX6 hg6 hz6
          exact hK.out _ _ ⟨gS, gO, q5, c5, by simp [hd, Act.put], hI.1.grown hg6 hI.1.size (fun j hj => by obtain rfl := Option.some.inj hj; exact hX.2), fun a b => absurd b (by simp [e5]), fun _ => hO.off hX1 (by decide) hg6, fun _ => ⟨by simpa using hX6, hX.2⟩, fun h => absurd h (by simp [e5]), fun h => absurd h (by simp [e7]), by simpa using hI.2.2.2.2.2.2⟩
        exact Inv.Steps.nil (by decide)
      case done =>
        intro L a w' hI hall
        obtain ⟨gS, gO, q5, c5, rfl, hI⟩ := hI
        simp only [hall, if_true] at hI ⊢
        have hIW := hI.1
        have hO5 := hI.2.2.1 trivial
        obtain ⟨hXo, hgO⟩ := hI.2.2.2.1 trivial
        clear hI hall
        have hXb6 := hXb5.below hIW
        have hXe6 := hXe5.below hIW
        have hXr6 := hXr5.below hIW
        have hC6 := bnext hC5 hIW
        have ce := cells6 hXe6
        have co := cells_bk hXo
        have cb := cells_bk hXb6
        simp only at ce co cb
        by_cases hm : u0 = t' + 1
        · have d1 : (u0 != t' + 1) = false := by simp [hm]
          obtain ⟨rfl, rfl⟩ := HA.out hm
          have hrl := hXr5.lt
          have hne : some V2.heap.size ≠ some gO := by simp; omega
          clear HA HZ hm
          go_wp2_with (first
            | ((fail_if_success (have _ := hXo7)); (refine at_store_u64 _ _ gO 0 _ _ u0 (by rfl) (by rfl) (by rfl) hXo (by simp [bl]) (by rfl) ?_); intro V7 hXo7' hg7 hz7; have hXo7 : Blk V7 gO 25 (bl ⟨u0, q5, n, c5⟩) := hXo7'; have c7 := cells_bk hXo7; simp only at c7))
          have hXr7 := hXr6.kept hg7 hne
          have hO7 := hO5.off hXo (by decide) hg7
          have hC7 := hC6.grown hg7 hC6.size (fun j hj => by obtain rfl := Option.some.inj hj; have := hC5.size; omega)
          have e0 : es = rollE (es.take 0) ++ es.drop 0 := by simp [rollE]
          have hE0 : EO w5.heap.size V7 (.slice q5 n c5) (rollE (es.take 0) ++ es.drop 0) := by rw [← e0]; exact hO7
          clear hO7 hO5 e0 hXo hXo7' c7 hXb6 hXe6 hXr6 ce co cb d1 hwr
          go_loopw [96] (fun j wr => ∃ k : Nat, k ≤ n ∧ j = .int .i64 k ∧ EO w5.heap.size wr (.slice q5 n c5) (rollE (es.take k) ++ es.drop k) ∧ Blk wr gO 25 (bl ⟨u0, q5, n, c5⟩) ∧ Blk wr V2.heap.size 25 (bl zeroH) ∧ Below w.heap.size w wr) (fun j _ => n - (intOf j).toNat)
          case atStart => exact ⟨0, Nat.zero_le _, rfl, hE0, hXo7, hXr7, hC7⟩
          case round =>
            obtain ⟨k, hk, rfl, hE, hX, hY, hG⟩ := hrel
            have c1 := cells_bk hX
            simp only at c1
            by_cases hlt : k < n
            · have hlt3 : (k : Int) < (n : Int) := by omega
              obtain ⟨e, he⟩ : ∃ e, es[k]? = some e := ⟨_, List.getElem?_eq_getElem (by omega)⟩
              obtain ⟨r1', r2'⟩ := roll_set he
              obtain ⟨gq, c', hv, hob⟩ := hE.some (by rw [hE.is.1]; omega)
              rw [hE.is.1] at hv
              simp only [Value.slice.injEq, true_and] at hv
              obtain ⟨rfl, rfl⟩ := hv
              have hgx := hE.ne hX (by decide)
              have hgy := hE.ne hY (by decide)
              rw [hob] at hgx hgy
              have HR : Hid ((rollE (es.take k) ++ es.drop k).set k ⟨e.p, 0⟩ = rollE (es.take (k + 1)) ++ es.drop (k + 1)) := r2'
              have hgq := own_from_base hE gq rfl
              have h5 := hC5.size
              clear r2' hE0 hXo7 hXr7 hC7 he
              go_wp2_with (first
                | ((fail_if_success (have _ := hE5)); (refine at_own_g _ _ w5.heap.size gq k n _ _ e 0 (by rfl) (by rfl) (by rfl) hE r1' (by rfl) ?_); intro V8 hE5 hg5 hz5'; have hX5 := hX.kept hg5 hgx; have hY5 := hY.kept hg5 hgy; have hG5 := hG.grown hg5 hG.size (fun j hj => by obtain rfl := Option.some.inj hj; omega)))
              rw [HR.out] at hE5
              go_roundw
              case rel => exact ⟨k + 1, by omega, by go_num, hE5, hX5, hY5, hG5⟩
              case measure => simp [intOf]; omega
            · obtain rfl : k = n := by omega
              have hd : es.drop k = [] := List.drop_eq_nil_of_le (by omega)
              have ht2 : es.take k = es := List.take_of_length_le (by omega)
              rw [hd, ht2, List.append_nil] at hE
              clear hd ht2
              go_wp2_with (first
                | ((fail_if_success (have _ := hXz)); (refine at_load_bk _ _ _ (by rfl) (by rfl) hX (by rfl) ?_))
                | ((fail_if_success (have _ := hXz)); (refine at_store_bk _ _ _ _ _ (by rfl) (by rfl) (by rfl) hY rfl (by rfl) ?_); intro W9 hXz hg9 hz9'; have hOz := hE.off hY (by decide) hg9; have hCz := hG.grown hg9 hG.size (fun j hj => by obtain rfl := Option.some.inj hj; exact hC2.size)))
              refine ret_bk2 (by rfl) rfl _ _ rfl hXz ⟨_, rfl, (isb_own hOz).1, hCz⟩
        · have d1 : (u0 != t' + 1) = true := by simp [hm]
          obtain ⟨rfl, rfl⟩ := HZ.out hm
          clear HA HZ
          go_wp2_with (first
            | ((fail_if_success (have _ := hXz)); (refine at_load_bk _ _ _ (by rfl) (by rfl) hXb6 (by rfl) ?_))
            | ((fail_if_success (have _ := hXz)); (refine at_store_bk _ _ _ _ _ (by rfl) (by rfl) (by rfl) hXr6 rfl (by rfl) ?_); intro W9 hXz hg9 hz9'; have hCz := hC6.grown hg9 hC6.size (fun j hj => by obtain rfl := Option.some.inj hj; exact hC2.size)))
          refine ret_bk2 (by rfl) rfl _ _ rfl hXz ⟨_, rfl, hIB hCz, hCz⟩
  · have hap := apply_no hr
    rw [(app_none hap).1, (app_none hap).2]
    cases hr1 : rightB b with
    | false =>
      rw [hr1] at hRt
      clear hap hr hr1
      go_enter Try.func21, Try.ntmps21
      go_wp2_with (first
        | ((fail_if_success (have _ := hB1)); (refine at_box_bk _ _ (by rfl) (by rfl) (by rfl) ?_); intro V1 hXb1 hB1 hz1; have hC1 := hB1)
        | ((fail_if_success (have _ := hB2)); (have _ := hB1); (refine at_box_ev _ _ (by rfl) (by rfl) (by rfl) ?_); intro V2 hXe2 hB2 hz2; have hXb2 := hXb1.below hB2; have hC2 := bnext hC1 hB2)
        | ((fail_if_success (have _ := hB3)); (have _ := hB2); (refine at_alloc_bk (by rfl) (by rfl) ?_); intro V3 hXr3 hB3 hz3; have hXb3 := hXb2.below hB3; have hXe3 := hXe2.below hB3; have hC3 := bnext hC2 hB3)
        | ((fail_if_success (have _ := hB4)); (have _ := hB3); (refine at_load_bk _ _ _ (by rfl) (by rfl) hXb3 (by rfl) ?_))
        | ((fail_if_success (have _ := hB4)); (have _ := hB3); (refine at_load_ev _ _ _ (by rfl) (by rfl) hXe3 (by rfl) ?_))
        | ((fail_if_success (have _ := hB4)); (have _ := hB3); (refine at_load_bk _ _ _ (by rfl) (by rfl) hXr3 (by rfl) ?_))
        | ((fail_if_success (have _ := hB4)); (have _ := hB3); (with_reducible refine (hRt hC3).mono ?_); rintro e w4 ⟨rfl, hB4⟩; have hXb4 := hXb3.below hB4; have hXe4 := hXe3.below hB4; have hXr4 := hXr3.below hB4; have hC4 := bnext hC3 hB4)
        | ((fail_if_success (have _ := hB5)); (have _ := hB4); (refine at_load_bk _ _ _ (by rfl) (by rfl) hXb4 (by rfl) ?_))
        | ((fail_if_success (have _ := hB5)); (have _ := hB4); (refine at_load_ev _ _ _ (by rfl) (by rfl) hXe4 (by rfl) ?_))
        | ((fail_if_success (have _ := hB5)); (have _ := hB4); (refine at_load_bk _ _ _ (by rfl) (by rfl) hXr4 (by rfl) ?_))
        | ((have _ := hB4); (fail_if_success (have _ := hXz)); (refine at_store_bk _ _ _ _ _ (by rfl) (by rfl) (by rfl) hXr4 rfl (by rfl) ?_); intro W9 hXz hg9 hz9; have hC9 := hC4.grown hg9 hC4.size (fun j hj => by obtain rfl := Option.some.inj hj; exact hC2.size)))
      refine ret_bk2 (by rfl) rfl _ _ rfl hXz ⟨_, rfl, hIB hC9, hC9⟩
    | true =>
      have hr2 : rightE e = false := by
        cases h2 : rightE e with
        | false => rfl
        | true => exact absurd ⟨hr1, h2⟩ hr
      rw [hr1] at hRt
      rw [hr2] at hRe
      clear hap hr hr1 hr2
      go_enter Try.func21, Try.ntmps21
      go_wp2_with (first
        | ((fail_if_success (have _ := hB1)); (refine at_box_bk _ _ (by rfl) (by rfl) (by rfl) ?_); intro V1 hXb1 hB1 hz1; have hC1 := hB1)
        | ((fail_if_success (have _ := hB2)); (have _ := hB1); (refine at_box_ev _ _ (by rfl) (by rfl) (by rfl) ?_); intro V2 hXe2 hB2 hz2; have hXb2 := hXb1.below hB2; have hC2 := bnext hC1 hB2)
        | ((fail_if_success (have _ := hB3)); (have _ := hB2); (refine at_alloc_bk (by rfl) (by rfl) ?_); intro V3 hXr3 hB3 hz3; have hXb3 := hXb2.below hB3; have hXe3 := hXe2.below hB3; have hC3 := bnext hC2 hB3)
        | ((fail_if_success (have _ := hB4)); (have _ := hB3); (refine at_load_bk _ _ _ (by rfl) (by rfl) hXb3 (by rfl) ?_))
        | ((fail_if_success (have _ := hB4)); (have _ := hB3); (refine at_load_ev _ _ _ (by rfl) (by rfl) hXe3 (by rfl) ?_))
        | ((fail_if_success (have _ := hB4)); (have _ := hB3); (refine at_load_bk _ _ _ (by rfl) (by rfl) hXr3 (by rfl) ?_))
        | ((fail_if_success (have _ := hB4)); (have _ := hB3); (with_reducible refine (hRt hC3).mono ?_); rintro e w4 ⟨rfl, hB4⟩; have hXb4 := hXb3.below hB4; have hXe4 := hXe3.below hB4; have hXr4 := hXr3.below hB4; have hC4 := bnext hC3 hB4)
        | ((fail_if_success (have _ := hB5)); (have _ := hB4); (refine at_load_bk _ _ _ (by rfl) (by rfl) hXb4 (by rfl) ?_))
        | ((fail_if_success (have _ := hB5)); (have _ := hB4); (refine at_load_ev _ _ _ (by rfl) (by rfl) hXe4 (by rfl) ?_))
        | ((fail_if_success (have _ := hB5)); (have _ := hB4); (refine at_load_bk _ _ _ (by rfl) (by rfl) hXr4 (by rfl) ?_))
        | ((fail_if_success (have _ := hB5)); (have _ := hB4); (with_reducible refine (hRe hC4).mono ?_); rintro e w5 ⟨rfl, hB5⟩; have hXb5 := hXb4.below hB5; have hXe5 := hXe4.below hB5; have hXr5 := hXr4.below hB5; have hC5 := bnext hC4 hB5)
        | ((fail_if_success (have _ := hB6)); (have _ := hB5); (refine at_load_bk _ _ _ (by rfl) (by rfl) hXb5 (by rfl) ?_))
        | ((fail_if_success (have _ := hB6)); (have _ := hB5); (refine at_load_ev _ _ _ (by rfl) (by rfl) hXe5 (by rfl) ?_))
        | ((fail_if_success (have _ := hB6)); (have _ := hB5); (refine at_load_bk _ _ _ (by rfl) (by rfl) hXr5 (by rfl) ?_))
        | ((have _ := hB5); (fail_if_success (have _ := hXz)); (refine at_store_bk _ _ _ _ _ (by rfl) (by rfl) (by rfl) hXr5 rfl (by rfl) ?_); intro W9 hXz hg9 hz9; have hC9 := hC5.grown hg9 hC5.size (fun j hj => by obtain rfl := Option.some.inj hj; exact hC2.size)))
      refine ret_bk2 (by rfl) rfl _ _ rfl hXz ⟨_, rfl, hIB hC9, hC9⟩
end Go.Proofs.Ytnaofcggdjbocaa.Book
