/-
  What the statements of layer 13 make themselves: a policy, events; which books and events are too great. (Written by gen_bkone.py.)
-/
import Derived.Test.YtnaofcggdjbocaaBkCommit
import Derived.Test.YtnaofcggdjbocaaEvRight
/-
  book.period, and what a book is behind an event: book.behind. (Written by gen_bkbehind.py.)
-/
namespace Go.Proofs.Ytnaofcggdjbocaa.Book
open Go.RowKit Go.Proofs.Ytnaofcggdjbocaa.Mem Go.Proofs.Ytnaofcggdjbocaa.Policy Go.Proofs.Ytnaofcggdjbocaa.Event Go.Proofs.Ytnaofcggdjbocaa.Addr
set_option maxRecDepth 100000

theorem roll_set {es : List En} {k : Nat} {e : En} (hk : es[k]? = some e) : (rollE (es.take k) ++ es.drop k)[k]? = some e ∧ (rollE (es.take k) ++ es.drop k).set k ⟨e.p, 0⟩ = rollE (es.take (k + 1)) ++ es.drop (k + 1) := by
  have hl := (List.getElem?_eq_some_iff.1 hk).1
  have hx := (List.getElem?_eq_some_iff.1 hk).2
  have hlen : (rollE (es.take k)).length = k := by simp [rollE]; omega
  have hd : es.drop k = e :: es.drop (k + 1) := by rw [List.drop_eq_getElem_cons hl, hx]
  refine ⟨?_, ?_⟩
  · rw [List.getElem?_append_right (by omega), hlen, Nat.sub_self, hd]; rfl
  · rw [List.set_append_right _ _ (by omega), hlen, Nat.sub_self, hd, List.set_cons_zero, List.take_succ_eq_append_getElem hl, hx]
    simp [rollE]
set_option maxHeartbeats 2000000 in
theorem book_period (B : Nat) (t : Int) (q : Option Addr) (n c : Nat) (es : List En) (m : Int) (ht : 0 ≤ t ∧ t ≤ 281474976710656) (hn : n ≤ 1000) (w : World) (_hB : B ≤ w.heap.size) (h : EO B w (.slice q n c) es) :
    Calls Try.prog 53 #[bv ⟨t, q, n, c⟩, .int .u64 m] w fun x w' => ∃ u, x = .returned (.tuple #[bv ⟨u, q, n, c⟩, .bool (decide (m = t + 1))]) ∧ (m = t + 1 → u = m ∧ EO B w' (.slice q n c) (rollE es)) ∧ w.grownBy w' (Value.slice q n c).ownBlock := by
  have hl := h.is.1
  have hwr : IntKind.u64.wrap (t + 1) = t + 1 := by rw [IntKind.wrap_u64]; omega
  have hO := fun {W : World} (hb : Below w.heap.size w W) => h.below hb
  clear h
  by_cases hm : m = t + 1
  · have d1 : (m != t + 1) = false := by simp [hm]
    rw [decide_eq_true hm]
    clear hm
    go_enter Try.func53, Try.ntmps53
    go_wp2_with (first
      | ((fail_if_success (have _ := hX1)); (refine at_box_bk _ _ (by rfl) (by rfl) (by rfl) ?_); intro V1 hX1 hB1 hz1)
      | ((fail_if_success (have _ := hY2)); (have _ := hX1); (refine at_alloc_bk (by rfl) (by rfl) ?_); intro V2 hY2 hB2 hz2; have hX2 := hX1.below hB2; have hB12 := bnext hB1 hB2; have c2 := cells_bk hX2; simp only at c2)
      | ((fail_if_success (have _ := hX3)); (have _ := hY2); (refine at_store_u64 _ _ w.heap.size 0 _ _ m (by rfl) (by rfl) (by rfl) hX2 (by simp [bl]) (by rfl) ?_); intro V3 hX3' hg3 hz3; have hX3 : Blk V3 w.heap.size 25 (bl ⟨m, q, n, c⟩) := hX3'; have c3 := cells_bk hX3; simp only at c3))
    have hne : some w.heap.size ≠ some V1.heap.size := by have := hz1.out; simp; omega
    have hv1 : w.heap.size ≤ V1.heap.size := hB1.size
    have hY3 := hY2.kept hg3 (Ne.symm hne)
    have hO3 := (hO hB12).off hX2 (by decide) hg3
    have hG3 : w.grownBy V3 (Value.slice q n c).ownBlock := gtrans (gbelow _ hB12) hg3 (fun r e => .inr (by obtain rfl := Option.some.inj e; exact Nat.le_refl _))
    have e0 : es = rollE (es.take 0) ++ es.drop 0 := by simp [rollE]
    have hE0 : EO B V3 (.slice q n c) (rollE (es.take 0) ++ es.drop 0) := by rw [← e0]; exact hO3
    clear hO3 e0 hX1 hX2 hY2 c2 c3 hX3' hO hwr d1
    go_loopw [18] (fun i wr => ∃ k : Nat, k ≤ n ∧ i = .int .i64 k ∧ EO B wr (.slice q n c) (rollE (es.take k) ++ es.drop k) ∧ Blk wr w.heap.size 25 (bl ⟨m, q, n, c⟩) ∧ Blk wr V1.heap.size 25 (bl zeroH) ∧ w.grownBy wr (Value.slice q n c).ownBlock) (fun i _ => n - (intOf i).toNat)
    case atStart => exact ⟨0, Nat.zero_le _, rfl, hE0, hX3, hY3, hG3⟩
    case round =>
      obtain ⟨k, hk, rfl, hE, hX, hY, hG⟩ := hrel
      have c1 := cells_bk hX
      simp only at c1
      by_cases hlt : k < n
      · have hlt3 : (k : Int) < (n : Int) := by omega
        obtain ⟨e, he⟩ : ∃ e, es[k]? = some e := ⟨_, List.getElem?_eq_getElem (by omega)⟩
        obtain ⟨r1, r2⟩ := roll_set he
        obtain ⟨g, c', hv, hob⟩ := hE.some (by rw [hE.is.1]; omega)
        rw [hE.is.1] at hv
        simp only [Value.slice.injEq, true_and] at hv
        obtain ⟨rfl, rfl⟩ := hv
        have hgx := hE.ne hX (by decide)
        have hgy := hE.ne hY (by decide)
        rw [hob] at hgx hgy
        have HR : Hid ((rollE (es.take k) ++ es.drop k).set k ⟨e.p, 0⟩ = rollE (es.take (k + 1)) ++ es.drop (k + 1)) := r2
        clear r2 hE0 hX3 hY3 hG3 he
        go_wp2_with (first
          | ((fail_if_success (have _ := hE5)); (refine at_own_g _ _ B g k n c _ e 0 (by rfl) (by rfl) (by rfl) hE r1 (by rfl) ?_); intro V5 hE5 hg5 hz5; have hX5 := hX.kept hg5 hgx; have hY5 := hY.kept hg5 hgy; have hG5 := gtrans hG hg5 (fun r e => .inl e.symm)))
        rw [HR.out] at hE5
        go_roundw
        case rel => exact ⟨k + 1, by omega, by go_num, hE5, hX5, hY5, hG5⟩
        case measure => simp [intOf]; omega
      · obtain rfl : k = n := by omega
        have hd : es.drop k = [] := List.drop_eq_nil_of_le (by omega)
        have ht2 : es.take k = es := List.take_of_length_le (by omega)
        rw [hd, ht2, List.append_nil] at hE
        clear hd ht2
        go_wp2_with (first
          | ((fail_if_success (have _ := hY6)); (refine at_load_bk _ _ _ (by rfl) (by rfl) hX (by rfl) ?_))
          | ((fail_if_success (have _ := hY6)); (refine at_store_bk _ _ _ _ _ (by rfl) (by rfl) (by rfl) hY rfl (by rfl) ?_); intro V6 hY6 hg6 hz6; have hE6 := hE.off hY (by decide) hg6; have hG6 := gtrans hG hg6 (fun r e => .inr (by obtain rfl := Option.some.inj e; exact hv1))))
        refine ret_bk2 (by rfl) rfl _ _ rfl hY6 ⟨_, rfl, fun _ => ⟨rfl, hE6⟩, hG6⟩
  · have d1 : (m != t + 1) = true := by simp [hm]
    rw [decide_eq_false hm]
    go_enter Try.func53, Try.ntmps53
    go_wp2_with (first
      | ((fail_if_success (have _ := hX1)); (refine at_box_bk _ _ (by rfl) (by rfl) (by rfl) ?_); intro V1 hX1 hB1 hz1)
      | ((fail_if_success (have _ := hY2)); (have _ := hX1); (refine at_alloc_bk (by rfl) (by rfl) ?_); intro V2 hY2 hB2 hz2; have hX2 := hX1.below hB2; have hB12 := bnext hB1 hB2; have c2 := cells_bk hX2; simp only at c2)
      | ((fail_if_success (have _ := hY3)); (have _ := hY2); (refine at_load_bk _ _ _ (by rfl) (by rfl) hX2 (by rfl) ?_))
      | ((fail_if_success (have _ := hY3)); (have _ := hY2); (refine at_store_bk _ _ _ _ _ (by rfl) (by rfl) (by rfl) hY2 rfl (by rfl) ?_); intro V3 hY3 hg3 hz3))
    have hv1 : w.heap.size ≤ V1.heap.size := hB1.size
    refine ret_bk2 (by rfl) rfl _ _ rfl hY3 ⟨_, rfl, fun h => absurd h hm, gtrans (gbelow _ hB12) hg3 (fun r e => .inr (by obtain rfl := Option.some.inj e; exact hv1))⟩
/-- What a book is told to be behind an event. -/
theorem behind_commit {t : Int} {es : List En} {ps : List Po} {ds : List Int} (hb : rightB ⟨t, es⟩ = true) (he : rightE (commitE ps ds) = true) : applyO ⟨t, es⟩ (commitE ps ds) = if comOk t es ps ds = true then some ⟨t, comE es ps ds⟩ else none := by
  unfold applyO comOk
  rw [if_pos ⟨hb, he⟩, if_pos (show (commitE ps ds).k = 1 from rfl)]
  cases h1 : dropsIn es ds <;> cases h2 : rightB ⟨t, comE es ps ds⟩ <;> simp [commitE, h1, h2]
theorem behind_lease {t s g : Int} {es : List En} (hb : rightB ⟨t, es⟩ = true) (he : rightE (leaseE s g) = true) : applyO ⟨t, es⟩ (leaseE s g) = if leaseIn es s g = true then some ⟨t, leaseE1 es s g⟩ else none := by
  unfold applyO
  rw [if_pos ⟨hb, he⟩, if_neg (show ¬ (leaseE s g).k = 1 by simp [leaseE]), if_pos (show (leaseE s g).k = 2 from rfl)]
  rfl
theorem behind_period {t m : Int} {es : List En} (hb : rightB ⟨t, es⟩ = true) (he : rightE (periodE m) = true) : applyO ⟨t, es⟩ (periodE m) = if m = t + 1 then some ⟨m, rollE es⟩ else none := by
  unfold applyO
  rw [if_pos ⟨hb, he⟩, if_neg (show ¬ (periodE m).k = 1 by simp [periodE]), if_neg (show ¬ (periodE m).k = 2 by simp [periodE])]
  rfl
set_option maxHeartbeats 4000000 in
theorem book_behind (w0 : World) (t : Int) (q : Option Addr) (n c : Nat) (es : List En) (hh : Eh) (e : Ev) (hb : rightB ⟨t, es⟩ = true) (oe : ∀ e ∈ es, EnOk e) (he : rightE e = true) (op : ∀ p ∈ e.ps, PoOk p) (ie : Is w0 hh e) (w : World) (hw : Below w0.heap.size w0 w) (h : EO w0.heap.size w (.slice q n c) es) :
    Calls Try.prog 24 #[bv ⟨t, q, n, c⟩, ev hh] w fun x w' => ∃ u q' n' c', x = .returned (.tuple #[bv ⟨u, q', n', c'⟩, .bool (applyO ⟨t, es⟩ e).isSome]) ∧ (∀ b', applyO ⟨t, es⟩ e = some b' → u = b'.t ∧ EO w0.heap.size w' (.slice q' n' c') b'.es) ∧ Below w0.heap.size w0 w' ∧ w.grownBy w' (Value.slice q n c).ownBlock := by
  have hO := fun {W : World} (hb : Below w.heap.size w W) => h.below hb
  have hCw := fun {W : World} (hb : Below w.heap.size w W) => bnext hw hb
  have hw1 : w0.heap.size ≤ w.heap.size := hw.size
  have hbt := (rightB_iff.1 hb).1
  simp only at hbt
  have hn8 : n ≤ 8 := by have := rightB_len hb; have := h.is.1; simp only at *; omega
  obtain ⟨O, hA⟩ : ∃ O, applyO ⟨t, es⟩ e = O := ⟨_, rfl⟩
  rw [hA]
  rcases right_iff.1 he with ⟨ps, ds, rfl, hcm⟩ | ⟨s, g, rfl, h1, h2⟩ | ⟨m, rfl, h1⟩
  · obtain ⟨k', s', pp, pn, pc, dp, dn, dc, g', t'⟩ := hh
    obtain ⟨⟨e1, e2, e3, e4⟩, ⟨l1, r1⟩, l2, r2⟩ := ie
    simp only [commitE] at e1 e2 e3 e4 l1 r1 l2 r2 op
    subst e1 e2 e3 e4
    rw [behind_commit hb he] at hA
    have hCo := fun {W : World} (hb' : Below w.heap.size w W) => book_commit w0 t q n c es pp pn pc ps dp dn dc ds hb oe l1 op l2 hcm r1 r2 W (hCw hb') (hO hb')
    obtain ⟨R, hR⟩ : ∃ R, comOk t es ps ds = R := ⟨_, rfl⟩
    rw [hR] at hCo hA
    have hsome : O.isSome = R := by rw [← hA]; cases R <;> rfl
    rw [hsome]
    have HS : Hid (∀ b', O = some b' → R = true ∧ b' = ⟨t, comE es ps ds⟩) := fun b' hb' => by
      rw [← hA] at hb'
      cases R with
      | true => exact ⟨rfl, (Option.some.inj hb').symm⟩
      | false => cases hb'
    clear hR hsome hO r1 r2 hcm hb he hA
    go_enter Try.func24, Try.ntmps24
    go_wp2_with (first
      | ((fail_if_success (have _ := hX1)); (refine at_box_bk _ _ (by rfl) (by rfl) (by rfl) ?_); intro V1 hX1 hB1 hz1)
      | ((fail_if_success (have _ := hE2)); (have _ := hX1); (refine at_box_ev _ _ (by rfl) (by rfl) (by rfl) ?_); intro V2 hE2 hB2 hz2; have hX2 := hX1.below hB2; have hC2 := bnext hB1 hB2)
      | ((fail_if_success (have _ := hY3)); (have _ := hE2); (refine at_alloc_bk (by rfl) (by rfl) ?_); intro V3 hY3 hB3 hz3; have hX3 := hX2.below hB3; have hE3 := hE2.below hB3; have hC3 := bnext hC2 hB3; have c3 := cells6 hE3; simp only at c3)
      | ((fail_if_success (have _ := hg4)); (have _ := hY3); (refine at_load_bk _ _ _ (by rfl) (by rfl) hX3 (by rfl) ?_))
      | ((fail_if_success (have _ := hg4)); (have _ := hY3); (with_reducible refine (hCo hC3).mono ?_); rintro e w4 ⟨q4, n4, c4, rfl, hok4, hC4, hg4⟩; have hY4 := hY3.kept hg4 ((h.below hC3).ne hY3 (by decide)); have hG4 := gafter hC3 hg4)
      | ((fail_if_success (have _ := hY5)); (have _ := hg4); (refine at_store_bk _ _ _ _ _ (by rfl) (by rfl) (by rfl) hY4 rfl (by rfl) ?_); intro V5 hY5 hg5 hz5; have hC5 := hC4.grown hg5 hC4.size (fun j hj => by obtain rfl := Option.some.inj hj; have := hC2.size; omega); have hG5 := gtrans hG4 hg5 (fun r e => .inr (by obtain rfl := Option.some.inj e; exact hC2.size))))
    refine ret_bk2 (by rfl) rfl _ _ rfl hY5 ⟨t, q4, n4, c4, rfl, fun b' hb' => ?_, hC5, hG5⟩
    obtain ⟨k1, rfl⟩ := HS.out b' hb'
    exact ⟨rfl, (hok4 k1).off hY4 (by decide) hg5⟩
  · obtain ⟨k', s', pp, pn, pc, dp, dn, dc, g', t'⟩ := hh
    obtain ⟨⟨e1, e2, e3, e4⟩, -, -⟩ := ie
    simp only [leaseE] at e1 e2 e3 e4
    subst e1 e2 e3 e4
    rw [behind_lease hb he] at hA
    have hris := tog_rising (rightB_iff.1 hb).2.1
    have hLe := fun {W : World} (hb' : Below w.heap.size w W) => book_lease w0.heap.size q n c es s' g' (by omega) hris W (hO hb')
    obtain ⟨R, hR⟩ : ∃ R, leaseIn es s' g' = R := ⟨_, rfl⟩
    rw [hR] at hLe hA
    have hsome : O.isSome = R := by rw [← hA]; cases R <;> rfl
    rw [hsome]
    have HS : Hid (∀ b', O = some b' → b' = ⟨t, if R = true then leaseE1 es s' g' else es⟩) := fun b' hb' => by
      rw [← hA] at hb'
      cases R with
      | true => exact (Option.some.inj hb').symm
      | false => cases hb'
    obtain ⟨fs, hfs⟩ : ∃ fs, (if R = true then leaseE1 es s' g' else es) = fs := ⟨_, rfl⟩
    rw [hfs] at hLe HS
    have hgB := own_from_base h
    clear hR hsome hb he hA hfs hris
    go_enter Try.func24, Try.ntmps24
    go_wp2_with (first
      | ((fail_if_success (have _ := hX1)); (refine at_box_bk _ _ (by rfl) (by rfl) (by rfl) ?_); intro V1 hX1 hB1 hz1)
      | ((fail_if_success (have _ := hE2)); (have _ := hX1); (refine at_box_ev _ _ (by rfl) (by rfl) (by rfl) ?_); intro V2 hE2 hB2 hz2; have hX2 := hX1.below hB2; have hC2 := bnext hB1 hB2)
      | ((fail_if_success (have _ := hY3)); (have _ := hE2); (refine at_alloc_bk (by rfl) (by rfl) ?_); intro V3 hY3 hB3 hz3; have hX3 := hX2.below hB3; have hE3 := hE2.below hB3; have hC3 := bnext hC2 hB3; have c3 := cells6 hE3; simp only at c3))
    have hn1 : some w.heap.size ≠ some V2.heap.size := by have := hz1.out; have := hz2.out; simp; omega
    have hn2 : some V1.heap.size ≠ some V2.heap.size := by have := hz2.out; simp; omega
    have hv2 : w0.heap.size ≤ V2.heap.size := by have := hC2.size; omega
    refine Inv.region_invB (fun L a w' => a = { tmps := #[(bv { t := t, q := q, n := n, c := c }), (ev { k := 2, s := s', pp := pp, pn := pn, pc := pc, dp := dp, dn := dn, dc := dc, g := g', t := 0 }), (Value.pointer (some { block := w.heap.size, off := 0 })), (Value.pointer (some { block := V1.heap.size, off := 0 })), (Value.pointer (some { block := V2.heap.size, off := 0 })), (if L 9 = true then (.bool R) else (Value.bool false)), (Value.pointer (some { block := V1.heap.size, off := 0 })), (Value.int IntKind.i64 2), (Value.bool false), (Value.bool false), undef, undef, undef, undef, undef, undef, undef, undef, (Value.bool true), (Value.bool true), (if L 0 = true then (bv ⟨t, q, n, c⟩) else undef), (if L 1 = true then (.pointer (some ⟨w.heap.size, 1, none⟩)) else undef), (if L 2 = true then (.slice q n c) else undef), (if L 3 = true then (.pointer (some ⟨V1.heap.size, 1, none⟩)) else undef), (if L 4 = true then (.int .i64 s') else undef), (if L 5 = true then (.pointer (some ⟨V1.heap.size, 4, none⟩)) else undef), (if L 6 = true then (.int .u64 g') else undef), (if L 7 = true then (.bool R) else undef), undef, undef, undef, undef, undef, undef], defers := [] } ∧ ((L 7 = false → Below V3.heap.size V3 w') ∧ Blk w' w.heap.size 25 (bl ⟨t, q, n, c⟩) ∧ Blk w' V1.heap.size 32 (el ⟨2, s', pp, pn, pc, dp, dn, dc, g', 0⟩) ∧ Blk w' V2.heap.size 25 (bl (if L 8 = true then ⟨t, q, n, c⟩ else zeroH)) ∧ (L 7 = true → EO w0.heap.size w' (.slice q n c) fs) ∧ Below w0.heap.size w0 w' ∧ (L 8 = true → L 7 = true) ∧ w.grownBy w' (Value.slice q n c).ownBlock)) (by kernel_rfl) (by kernel_rfl) ?h0 ?step ?done
    case h0 => exact ⟨by simp, fun _ => (Below.refl _ _).drew, hX3.drew, hE3.drew, by simpa using hY3.drew, by simp, (hCw hC3).drew, by simp, gbelow _ hC3.drew⟩
    case step =>
      refine Inv.Steps.cons rfl ?_ ?_
      · intro L a w' hI hL hd K hK
        obtain ⟨rfl, hI⟩ := hI
        clear hd
        rw [if_pos (by rfl)]
        refine wp_load_bk _ _ _ (by rfl) (by rfl) hI.2.1 ?_
        exact hK.out _ _ ⟨by simp [Act.put], by simpa using hI⟩
      refine Inv.Steps.cons rfl ?_ ?_
      · intro L a w' hI hL hd K hK
        obtain ⟨rfl, hI⟩ := hI
        clear hd
        rw [if_pos (by rfl)]
        go_simp
        exact hK.out _ _ ⟨by simp, by simpa using hI⟩
      refine Inv.Steps.cons rfl ?_ ?_
      · intro L a w' hI hL hd K hK
        obtain ⟨rfl, hI⟩ := hI
        simp [Region.binds] at hd
        simp only [hd, if_true]
        rw [if_pos (by rfl)]
        have c1 := cells_bk hI.2.1
        simp only at c1
        go_simp
        exact hK.out _ _ ⟨by simp [hd], by simpa using hI⟩
      refine Inv.Steps.cons rfl ?_ ?_
      · intro L a w' hI hL hd K hK
        obtain ⟨rfl, hI⟩ := hI
        clear hd
        rw [if_pos (by rfl)]
        go_simp
        exact hK.out _ _ ⟨by simp, by simpa using hI⟩
      refine Inv.Steps.cons rfl ?_ ?_
      · intro L a w' hI hL hd K hK
        obtain ⟨rfl, hI⟩ := hI
        simp [Region.binds] at hd
        simp only [hd, if_true]
        rw [if_pos (by rfl)]
        have c1 := cells6 hI.2.2.1
        simp only at c1
        go_simp
        exact hK.out _ _ ⟨by simp [hd], by simpa using hI⟩
      refine Inv.Steps.cons rfl ?_ ?_
      · intro L a w' hI hL hd K hK
        obtain ⟨rfl, hI⟩ := hI
        clear hd
        rw [if_pos (by rfl)]
        go_simp
        exact hK.out _ _ ⟨by simp, by simpa using hI⟩
      refine Inv.Steps.cons rfl ?_ ?_
      · intro L a w' hI hL hd K hK
        obtain ⟨rfl, hI⟩ := hI
        simp [Region.binds] at hd
        simp only [hd, if_true]
        rw [if_pos (by rfl)]
        have c1 := cells6 hI.2.2.1
        simp only at c1
        go_simp
        exact hK.out _ _ ⟨by simp [hd], by simpa using hI⟩
      refine Inv.Steps.cons rfl ?_ ?_
      · intro L a w' hI hL hd K hK
        obtain ⟨rfl, hI⟩ := hI
        simp [Region.binds] at hd
        simp only [hd, if_true]
        rw [if_pos (by rfl)]
        have h8 : L 8 = false := Bool.eq_false_iff.2 fun h => absurd (hI.2.2.2.2.2.2.1 h) (by simp [hL])
        have hBW := hI.1 hL
        have hO9 := hO (bnext hC3 hBW)
        go_simp
        refine (hLe (bnext hC3 hBW)).mono ?_
        rintro e w6 ⟨rfl, hO6, hg6⟩
        have hX9 := hI.2.2.2.1
        rw [h8] at hX9
        exact hK.out _ _ ⟨by simp [hd], fun h => by simp at h, hI.2.1.kept hg6 (hO9.ne hI.2.1 (by decide)), hI.2.2.1.kept hg6 (hO9.ne hI.2.2.1 (by decide)), by simpa [h8] using hX9.kept hg6 (hO9.ne hX9 (by decide)), fun _ => hO6, hI.2.2.2.2.2.1.grown hg6 hI.2.2.2.2.2.1.size hgB, fun h => by simp [h8] at h, gtrans hI.2.2.2.2.2.2.2 (gafter (Below.refl _ _) hg6) (fun r e => .inl e.symm)⟩
      refine Inv.Steps.cons rfl ?_ ?_
      · intro L a w' hI hL hd K hK
        obtain ⟨rfl, hI⟩ := hI
        simp [Region.binds] at hd
        simp only [hd, if_true]
        rw [if_pos (by rfl)]
        have hY1 : Blk w' V2.heap.size 25 (bl zeroH) := by simpa [hL] using hI.2.2.2.1
        have hO9 := hI.2.2.2.2.1 (by simp [hd])
        refine wp_store_bk _ _ _ _ _ (by rfl) (by rfl) (by rfl) hY1 rfl ?_
        intro w6 hX6 hg6 hz6
        exact hK.out _ _ ⟨by simp [hd, Act.put], fun h => absurd h (by simp [hd]), hI.2.1.kept hg6 hn1, hI.2.2.1.kept hg6 hn2, by simpa using hX6, fun _ => hO9.off hY1 (by decide) hg6, hI.2.2.2.2.2.1.grown hg6 hI.2.2.2.2.2.1.size (fun j hj => by obtain rfl := Option.some.inj hj; exact hv2), fun _ => by simp [hd], gtrans hI.2.2.2.2.2.2.2 hg6 (fun r e => .inr (by obtain rfl := Option.some.inj e; exact hC2.size))⟩
      refine Inv.Steps.cons rfl ?_ ?_
      · intro L a w' hI hL hd K hK
        obtain ⟨rfl, hI⟩ := hI
        simp [Region.binds] at hd
        simp only [hd, if_true]
        rw [if_pos (by rfl)]
        go_simp
        exact hK.out _ _ ⟨by simp [hd], by simpa using hI⟩
      exact Inv.Steps.nil (by decide)
    case done =>
      intro L a w' hI hall
      obtain ⟨rfl, hI⟩ := hI
      simp only [hall, if_true] at hI ⊢
      have hYW := hI.2.2.2.1
      have hOW := hI.2.2.2.2.1 trivial
      have hCW := hI.2.2.2.2.2.1
      have hGW := hI.2.2.2.2.2.2.2
      clear hI hall
      go_wp2
      refine ret_bk2 (by rfl) rfl _ _ rfl hYW ⟨t, q, n, c, rfl, fun b' hb' => ?_, hCW, hGW⟩
      obtain rfl := HS.out b' hb'
      exact ⟨rfl, hOW⟩
  · obtain ⟨k', s', pp, pn, pc, dp, dn, dc, g', t'⟩ := hh
    obtain ⟨⟨e1, e2, e3, e4⟩, -, -⟩ := ie
    simp only [periodE] at e1 e2 e3 e4
    subst e1 e2 e3 e4
    rw [behind_period hb he] at hA
    have hPe := fun {W : World} (hb' : Below w.heap.size w W) => book_period w0.heap.size t q n c es t' ⟨by omega, hbt.2⟩ (by omega) W (Nat.le_trans hw1 hb'.size) (hO hb')
    have hsome : O.isSome = decide (t' = t + 1) := by
      rw [← hA]
      by_cases k : t' = t + 1
      · rw [if_pos k, decide_eq_true k]; rfl
      · rw [if_neg k, decide_eq_false k]; rfl
    rw [hsome]
    have HS : Hid (∀ b', O = some b' → t' = t + 1 ∧ b' = ⟨t', rollE es⟩) := fun b' hb' => by
      rw [← hA] at hb'
      split at hb'
      · rename_i k; exact ⟨k, (Option.some.inj hb').symm⟩
      · cases hb'
    obtain ⟨R, hR⟩ : ∃ R, decide (t' = t + 1) = R := ⟨_, rfl⟩
    rw [hR] at hPe ⊢
    have hgB := own_from_base h
    clear hR hsome hb he hA
    go_enter Try.func24, Try.ntmps24
    go_wp2_with (first
      | ((fail_if_success (have _ := hX1)); (refine at_box_bk _ _ (by rfl) (by rfl) (by rfl) ?_); intro V1 hX1 hB1 hz1)
      | ((fail_if_success (have _ := hE2)); (have _ := hX1); (refine at_box_ev _ _ (by rfl) (by rfl) (by rfl) ?_); intro V2 hE2 hB2 hz2; have hX2 := hX1.below hB2; have hC2 := bnext hB1 hB2)
      | ((fail_if_success (have _ := hY3)); (have _ := hE2); (refine at_alloc_bk (by rfl) (by rfl) ?_); intro V3 hY3 hB3 hz3; have hX3 := hX2.below hB3; have hE3 := hE2.below hB3; have hC3 := bnext hC2 hB3; have c3 := cells6 hE3; simp only at c3)
      | ((fail_if_success (have _ := hg4)); (have _ := hY3); (refine at_load_bk _ _ _ (by rfl) (by rfl) hX3 (by rfl) ?_))
      | ((fail_if_success (have _ := hg4)); (have _ := hY3); (with_reducible refine (hPe hC3).mono ?_); rintro e w4 ⟨u4, rfl, hok4, hg4⟩; have hY4 := hY3.kept hg4 ((hO hC3).ne hY3 (by decide)); have hC4 := (hCw hC3).grown hg4 (hCw hC3).size hgB; have hG4 := gafter hC3 hg4)
      | ((fail_if_success (have _ := hY5)); (have _ := hg4); (refine at_store_bk _ _ _ _ _ (by rfl) (by rfl) (by rfl) hY4 rfl (by rfl) ?_); intro V5 hY5 hg5 hz5; have hC5 := hC4.grown hg5 hC4.size (fun j hj => by obtain rfl := Option.some.inj hj; have := hC2.size; omega); have hG5 := gtrans hG4 hg5 (fun r e => .inr (by obtain rfl := Option.some.inj e; exact hC2.size))))
    refine ret_bk2 (by rfl) rfl _ _ rfl hY5 ⟨u4, q, n, c, rfl, fun b' hb' => ?_, hC5, hG5⟩
    obtain ⟨k1, rfl⟩ := HS.out b' hb'
    obtain ⟨k2, k3⟩ := hok4 k1
    exact ⟨k2, k3.off hY4 (by decide) hg5⟩
end Go.Proofs.Ytnaofcggdjbocaa.Book
/-
  book.Apply. (Written by gen_bkapply.py.)
-/
namespace Go.Proofs.Ytnaofcggdjbocaa.Book
open Go.RowKit Go.Proofs.Ytnaofcggdjbocaa.Mem Go.Proofs.Ytnaofcggdjbocaa.Policy Go.Proofs.Ytnaofcggdjbocaa.Event Go.Proofs.Ytnaofcggdjbocaa.Addr
set_option maxRecDepth 100000

/-- What Apply answers. -/
def appB (b : Bk) (e : Ev) : Bk := (applyO b e).getD b
def appE (b : Bk) (e : Ev) : Int := if (applyO b e).isSome = true then 0 else 131
/-- Its list lies from this block on. -/
def FreshB (B : Nat) (h : Bh) : Prop := ∀ a, h.q = some a → B ≤ a.block
theorem FreshB.mono {B C : Nat} {h : Bh} (hf : FreshB B h) (hc : C ≤ B) : FreshB C h := fun a ha => Nat.le_trans hc (hf a ha)
theorem isb_fresh {w w' : World} {h : Bh} {b : Bk} {g B : Nat} (hi : IsB w h b) (hg : w.grownBy w' (some g)) (hf : FreshB B h) (hB : g < B) : IsB w' h b :=
  ⟨hi.1, hi.2.1, rk_kept hi.2.2 hg fun _ a ha => by have := hf a ha; omega⟩
theorem isb_own {B n c : Nat} {w : World} {q : Option Addr} {t : Int} {es : List En} (h : EO B w (.slice q n c) es) : IsB w ⟨t, q, n, c⟩ ⟨t, es⟩ ∧ FreshB B ⟨t, q, n, c⟩ := ⟨⟨rfl, h.is.1, h.is.2.1⟩, h.is.2.2⟩
theorem apply_no {b : Bk} {e : Ev} (h : ¬ (rightB b = true ∧ rightE e = true)) : applyO b e = none := by unfold applyO; rw [if_neg h]
theorem app_none {b : Bk} {e : Ev} (h : applyO b e = none) : appB b e = b ∧ appE b e = 131 := by unfold appB appE; rw [h]; exact ⟨rfl, rfl⟩
theorem app_some {b c : Bk} {e : Ev} (h : applyO b e = some c) : appB b e = c ∧ appE b e = 0 := by unfold appB appE; rw [h]; exact ⟨rfl, rfl⟩
set_option maxHeartbeats 4000000 in
theorem book_Apply (h : Bh) (b : Bk) (hh : Eh) (e : Ev) (w : World) (i : IsB w h b) (ie : Is w hh e) (ob : ∀ x ∈ b.es, EnOk x) (op : ∀ p ∈ e.ps, PoOk p) (hn : h.n ≤ 1000) (np : hh.pn ≤ 1000) (nd : hh.dn ≤ 1000) :
    Calls Try.prog 9 #[bv h, ev hh] w fun x w' => ∃ h', x = .returned (.tuple #[bv h', .int .i64 (appE b e)]) ∧ IsB w' h' (appB b e) ∧ FreshB w.heap.size h' ∧ Below w.heap.size w w' := by
  have hRt := fun {W : World} (hb : Below w.heap.size w W) => book_Right h b W (i.below hb) ob hn
  have hRe := fun {W : World} (hb : Below w.heap.size w W) => event_Right hh e W (ie.below hb) op np nd
  have hCl := fun {W : World} (hb : Below w.heap.size w W) => book_clone h b W (i.below hb) hn
  by_cases hr : rightB b = true ∧ rightE e = true
  · obtain ⟨hr1, hr2⟩ := hr
    rw [hr1] at hRt
    rw [hr2] at hRe
    obtain ⟨t, es⟩ := b
    simp only at ob
    have hBh := fun (w0 W : World) (q : Option Addr) (n c : Nat) (k1 : Below w.heap.size w w0) (k2 : Below w0.heap.size w0 W) (k3 : EO w0.heap.size W (.slice q n c) es) => book_behind w0 t q n c es hh e hr1 ob hr2 op (ie.below k1) W k2 k3
    obtain ⟨O, hA⟩ : ∃ O, applyO ⟨t, es⟩ e = O := ⟨_, rfl⟩
    simp only [hA] at hBh
    have HA : Hid (applyO ⟨t, es⟩ e = O) := hA
    have hE : appE ⟨t, es⟩ e = if O.isSome = true then 0 else 131 := by unfold appE; rw [hA]
    have hP : appB ⟨t, es⟩ e = O.getD ⟨t, es⟩ := by unfold appB; rw [hA]
    rw [hE, hP]
    clear hA hE hP hr1 hr2
    go_enter Try.func9, Try.ntmps9
    go_wp2_with (first
      | ((fail_if_success (have _ := hX1)); (refine at_box_bk _ _ (by rfl) (by rfl) (by rfl) ?_); intro V1 hX1 hB1 hz1)
      | ((fail_if_success (have _ := hE2)); (have _ := hX1); (refine at_box_ev _ _ (by rfl) (by rfl) (by rfl) ?_); intro V2 hE2 hB2 hz2; have hX2 := hX1.below hB2; have hC2 := bnext hB1 hB2)
      | ((fail_if_success (have _ := hY3)); (have _ := hE2); (refine at_alloc_bk (by rfl) (by rfl) ?_); intro V3 hY3 hB3 hz3; have hX3 := hX2.below hB3; have hE3 := hE2.below hB3; have hC3 := bnext hC2 hB3)
      | ((fail_if_success (have _ := hB4)); (have _ := hY3); (refine at_load_bk _ _ _ (by rfl) (by rfl) hX3 (by rfl) ?_))
      | ((fail_if_success (have _ := hB4)); (have _ := hY3); (with_reducible refine (hRt hC3).mono ?_); rintro e4 w4 ⟨rfl, hB4⟩; have hX4 := hX3.below hB4; have hE4 := hE3.below hB4; have hY4 := hY3.below hB4; have hC4 := bnext hC3 hB4)
      | ((fail_if_success (have _ := hB5)); (have _ := hB4); (refine at_load_ev _ _ _ (by rfl) (by rfl) hE4 (by rfl) ?_))
      | ((fail_if_success (have _ := hB5)); (have _ := hB4); (with_reducible refine (hRe hC4).mono ?_); rintro e5 w5 ⟨rfl, hB5⟩; have hX5 := hX4.below hB5; have hE5 := hE4.below hB5; have hY5 := hY4.below hB5; have hC5 := bnext hC4 hB5))
    refine Inv.region_invB (fun L a w' => ∃ (gA : Nat) (q1 : Option Addr) (n1 : Nat) (c1 : Nat) (u2 : Int) (q2 : Option Addr) (n2 : Nat) (c2 : Nat), a = { tmps := #[(bv h), (ev hh), (Value.pointer (some { block := w.heap.size, off := 0 })), (Value.pointer (some { block := V1.heap.size, off := 0 })), (Value.pointer (some { block := V2.heap.size, off := 0 })), (Value.int IntKind.i64 0), (if L 7 = true then (.pointer (some ⟨gA, 0, none⟩)) else undef), (if L 9 = true then (.bool O.isSome) else undef), (bv h), (Value.bool true), (Value.bool true), (ev hh), (Value.bool true), (Value.bool true), (if L 4 = true then (.tuple #[bv ⟨u2, q2, n2, c2⟩, .bool O.isSome]) else undef), (if L 0 = true then (bv h) else undef), (if L 1 = true then (bv ⟨t, q1, n1, c1⟩) else undef), (if L 2 = true then (ev hh) else undef), (if L 3 = true then (.tuple #[bv ⟨u2, q2, n2, c2⟩, .bool O.isSome]) else undef), (if L 5 = true then (bv ⟨u2, q2, n2, c2⟩) else undef), (if L 6 = true then (.bool O.isSome) else undef), undef, undef, undef, undef], defers := [] } ∧ (Below w5.heap.size w5 w' ∧ (L 7 = true → Blk w' gA 25 (bl (if L 8 = true then ⟨u2, q2, n2, c2⟩ else zeroH)) ∧ w5.heap.size ≤ gA) ∧ (L 1 = true → L 3 = false → EO w5.heap.size w' (.slice q1 n1 c1) es) ∧ (L 3 = true → ∀ b', O = some b' → u2 = b'.t ∧ EO w5.heap.size w' (.slice q2 n2 c2) b'.es) ∧ (L 3 = false → L 4 = false ∧ L 5 = false ∧ L 6 = false ∧ L 8 = false ∧ L 9 = false) ∧ (L 7 = false → L 8 = false) ∧ (L 1 = false → L 3 = false))) (by kernel_rfl) (by kernel_rfl) ?h0 ?step ?done
    case h0 => exact ⟨0, none, 0, 0, 0, none, 0, 0, by simp, (Below.refl _ _).drew, by simp, by simp, by simp, by simp, by simp, by simp⟩
    case step =>
      refine Inv.Steps.cons rfl ?_ ?_
      · intro L a w' hI hL hd K hK
        obtain ⟨gA, q1, n1, c1, u2, q2, n2, c2, rfl, hI⟩ := hI
        clear hd
        rw [if_pos (by rfl)]
        refine wp_load_bk _ _ _ (by rfl) (by rfl) (hX5.below hI.1) ?_
        exact hK.out _ _ ⟨gA, q1, n1, c1, u2, q2, n2, c2, by simp [Act.put], by simpa using hI⟩
      refine Inv.Steps.cons rfl ?_ ?_
      · intro L a w' hI hL hd K hK
        obtain ⟨gA, q1, n1, c1, u2, q2, n2, c2, rfl, hI⟩ := hI
        simp [Region.binds] at hd
        simp only [hd, if_true]
        rw [if_pos (by rfl)]
        have e3 := hI.2.2.2.2.2.2 hL
        obtain ⟨k4, k5, k6, k8, k9⟩ := hI.2.2.2.2.1 e3
        go_simp
        refine (hCl (bnext hC5 hI.1)).mono ?_
        rintro e w6 ⟨q6, n6, c6, rfl, hO6, hB6⟩
        exact hK.out _ _ ⟨gA, q6, n6, c6, u2, q2, n2, c2, by simp [hd, e3, k4, k5, k6, k9], bnext hI.1 hB6, fun h => by have h2 := hI.2.1 (by simpa using h); rw [k8] at h2; exact ⟨by simpa [k8] using h2.1.below hB6, h2.2⟩, fun _ _ => hO6.lower hI.1.size, fun h => by simp [e3] at h, fun _ => ⟨by simp [k4], by simp [k5], by simp [k6], by simp [k8], by simp [k9]⟩, by simpa using hI.2.2.2.2.2.1, fun h => by simp at h⟩
      refine Inv.Steps.cons rfl ?_ ?_
      · intro L a w' hI hL hd K hK
        obtain ⟨gA, q1, n1, c1, u2, q2, n2, c2, rfl, hI⟩ := hI
        clear hd
        rw [if_pos (by rfl)]
        refine wp_load_ev _ _ _ (by rfl) (by rfl) (hE5.below hI.1) ?_
        exact hK.out _ _ ⟨gA, q1, n1, c1, u2, q2, n2, c2, by simp [Act.put], by simpa using hI⟩
      refine Inv.Steps.cons rfl ?_ ?_
      · intro L a w' hI hL hd K hK
        obtain ⟨gA, q1, n1, c1, u2, q2, n2, c2, rfl, hI⟩ := hI
        simp [Region.binds] at hd
        simp only [hd, if_true]
        rw [if_pos (by rfl)]
        obtain ⟨k4, k5, k6, k8, k9⟩ := hI.2.2.2.2.1 hL
        have hO1 := hI.2.2.1 (by simp [hd]) hL
        go_simp
        refine (hBh w5 w' q1 n1 c1 hC5 hI.1 hO1).mono ?_
        rintro e w6 ⟨u6, q6, n6, c6, rfl, hok6, hB6, hg6⟩
        exact hK.out _ _ ⟨gA, q1, n1, c1, u6, q6, n6, c6, by simp [hd, k4, k5, k6, k9], hB6, fun h => by have h2 := hI.2.1 (by simpa using h); rw [k8] at h2; exact ⟨by simpa [k8] using h2.1.kept hg6 (hO1.ne h2.1 (by decide)), h2.2⟩, fun _ h => by simp at h, fun _ => hok6, fun h => by simp at h, by simpa using hI.2.2.2.2.2.1, fun h => by simp [hd] at h⟩
      refine Inv.Steps.cons rfl ?_ ?_
      · intro L a w' hI hL hd K hK
        obtain ⟨gA, q1, n1, c1, u2, q2, n2, c2, rfl, hI⟩ := hI
        simp [Region.binds] at hd
        simp only [hd, if_true]
        rw [if_pos (by rfl)]
        have e3 : L 3 = true := by simp [hd]
        go_simp
        exact hK.out _ _ ⟨gA, q1, n1, c1, u2, q2, n2, c2, by simp [hd], hI.1, by simpa using hI.2.1, by simpa using hI.2.2.1, by simpa using hI.2.2.2.1, fun h => absurd h (by simp [e3]), by simpa using hI.2.2.2.2.2.1, by simpa using hI.2.2.2.2.2.2⟩
      refine Inv.Steps.cons rfl ?_ ?_
      · intro L a w' hI hL hd K hK
        obtain ⟨gA, q1, n1, c1, u2, q2, n2, c2, rfl, hI⟩ := hI
        simp [Region.binds] at hd
        simp only [hd, if_true]
        rw [if_pos (by rfl)]
        have e3 : L 3 = true := Bool.of_not_eq_false fun h => absurd (hI.2.2.2.2.1 h).1 (by simp [hd])
        go_simp
        exact hK.out _ _ ⟨gA, q1, n1, c1, u2, q2, n2, c2, by simp [hd, e3], hI.1, by simpa using hI.2.1, by simpa using hI.2.2.1, by simpa using hI.2.2.2.1, fun h => absurd h (by simp [e3]), by simpa using hI.2.2.2.2.2.1, by simpa using hI.2.2.2.2.2.2⟩
      refine Inv.Steps.cons rfl ?_ ?_
      · intro L a w' hI hL hd K hK
        obtain ⟨gA, q1, n1, c1, u2, q2, n2, c2, rfl, hI⟩ := hI
        simp [Region.binds] at hd
        simp only [hd, if_true]
        rw [if_pos (by rfl)]
        have e3 : L 3 = true := Bool.of_not_eq_false fun h => absurd (hI.2.2.2.2.1 h).1 (by simp [hd])
        go_simp
        exact hK.out _ _ ⟨gA, q1, n1, c1, u2, q2, n2, c2, by simp [hd, e3], hI.1, by simpa using hI.2.1, by simpa using hI.2.2.1, by simpa using hI.2.2.2.1, fun h => absurd h (by simp [e3]), by simpa using hI.2.2.2.2.2.1, by simpa using hI.2.2.2.2.2.2⟩
      refine Inv.Steps.cons rfl ?_ ?_
      · intro L a w' hI hL hd K hK
        obtain ⟨gA, q1, n1, c1, u2, q2, n2, c2, rfl, hI⟩ := hI
        clear hd
        rw [if_pos (by rfl)]
        have k8 := hI.2.2.2.2.2.1 hL
        refine wp_alloc_bk (by rfl) ?_
        intro w6 hX6 hB6 hz6
        exact hK.out _ _ ⟨w'.heap.size, q1, n1, c1, u2, q2, n2, c2, by simp [Act.put], bnext hI.1 hB6, fun _ => ⟨by simpa [k8] using hX6, hI.1.size⟩, fun a b => (hI.2.2.1 (by simpa using a) (by simpa using b)).below hB6, fun a b' hb' => ⟨(hI.2.2.2.1 (by simpa using a) b' hb').1, (hI.2.2.2.1 (by simpa using a) b' hb').2.below hB6⟩, by simpa using hI.2.2.2.2.1, fun h => by simp at h, by simpa using hI.2.2.2.2.2.2⟩
      refine Inv.Steps.cons rfl ?_ ?_
      · intro L a w' hI hL hd K hK
        obtain ⟨gA, q1, n1, c1, u2, q2, n2, c2, rfl, hI⟩ := hI
        simp [Region.binds] at hd
        simp only [hd, if_true]
        rw [if_pos (by rfl)]
        have e3 : L 3 = true := by simp [hd]
        have e7 : L 7 = true := by simp [hd]
        have hX := hI.2.1 e7
        have hX1 : Blk w' gA 25 (bl zeroH) := by simpa [hL] using hX.1
        have hok := hI.2.2.2.1 e3
        refine wp_store_bk _ _ _ _ _ (by rfl) (by rfl) (by rfl) hX1 rfl ?_
        intro w6 hX6 hg6 hz6
        exact hK.out _ _ ⟨gA, q1, n1, c1, u2, q2, n2, c2, by simp [hd, Act.put], hI.1.grown hg6 hI.1.size (fun j hj => by obtain rfl := Option.some.inj hj; exact hX.2), fun _ => ⟨by simpa using hX6, hX.2⟩, fun _ b => absurd b (by simp [e3]), fun _ b' hb' => ⟨(hok b' hb').1, (hok b' hb').2.off hX1 (by decide) hg6⟩, fun h => absurd h (by simp [e3]), fun h => absurd h (by simp [e7]), fun h => absurd (hI.2.2.2.2.2.2 (by simpa using h)) (by simp [e3])⟩
      refine Inv.Steps.cons rfl ?_ ?_
      · intro L a w' hI hL hd K hK
        obtain ⟨gA, q1, n1, c1, u2, q2, n2, c2, rfl, hI⟩ := hI
        simp [Region.binds] at hd
        simp only [hd, if_true]
        rw [if_pos (by rfl)]
        have e3 : L 3 = true := by simp [hd]
        go_simp
        exact hK.out _ _ ⟨gA, q1, n1, c1, u2, q2, n2, c2, by simp [hd], hI.1, by simpa using hI.2.1, by simpa using hI.2.2.1, by simpa using hI.2.2.2.1, fun h => absurd h (by simp [e3]), by simpa using hI.2.2.2.2.2.1, by simpa using hI.2.2.2.2.2.2⟩
      exact Inv.Steps.nil (by decide)
    case done =>
      intro L a w' hI hall
      obtain ⟨gA, q1, n1, c1, u2, q2, n2, c2, rfl, hI⟩ := hI
      simp only [hall, if_true] at hI ⊢
      have hIW := hI.1
      have hXA := (hI.2.1 trivial).1
      have hok := hI.2.2.2.1 trivial
      clear hI hall
      have hYW := hY5.below hIW
      have hXW := hX5.below hIW
      have hCW := bnext hC5 hIW
      cases hO : O with
      | some b' =>
        obtain ⟨e1, hOW⟩ := hok b' hO
        obtain ⟨t', es'⟩ := b'
        simp only at e1 hOW
        subst e1
        simp only [Option.isSome_some]
        clear hok HA
        subst hO
        go_wp2_with (first
          | ((fail_if_success (have _ := hY7)); (refine at_load_bk _ _ _ (by rfl) (by rfl) hXA (by rfl) ?_))
          | ((fail_if_success (have _ := hY7)); (refine at_store_bk _ _ _ _ _ (by rfl) (by rfl) (by rfl) hYW rfl (by rfl) ?_); intro V7 hY7 hg7 hz7; have hC7 := hCW.grown hg7 hCW.size (fun j hj => by obtain rfl := Option.some.inj hj; exact hC2.size); have hO7 := hOW.off hYW (by decide) hg7))
        refine ret_bk2 (by rfl) rfl _ _ rfl hY7 ⟨_, rfl, (isb_own hO7).1, (isb_own hO7).2.mono hC5.size, hC7⟩
      | none =>
        simp only [Option.isSome_none]
        clear hok HA
        subst hO
        go_wp2_with (first
          | ((fail_if_success (have _ := hB6)); (refine at_load_bk _ _ _ (by rfl) (by rfl) hXW (by rfl) ?_))
          | ((fail_if_success (have _ := hB6)); (with_reducible refine (hCl hCW).mono ?_); rintro e6 w6 ⟨q6, n6, c6, rfl, hO6, hB6⟩; have hY6 := hYW.below hB6; have hC6 := bnext hCW hB6)
          | ((fail_if_success (have _ := hY7)); (have _ := hB6); (refine at_store_bk _ _ _ _ _ (by rfl) (by rfl) (by rfl) hY6 rfl (by rfl) ?_); intro V7 hY7 hg7 hz7; have hO7 := hO6.off hY6 (by decide) hg7; have hC7 := hC6.grown hg7 hC6.size (fun j hj => by obtain rfl := Option.some.inj hj; exact hC2.size)))
        refine ret_bk2 (by rfl) rfl _ _ rfl hY7 ⟨_, rfl, (isb_own hO7).1, (isb_own hO7).2.mono hCW.size, hC7⟩
  · rw [(app_none (apply_no hr)).1, (app_none (apply_no hr)).2]
    cases hr1 : rightB b with
    | false =>
      rw [hr1] at hRt
      clear hr hr1
      go_enter Try.func9, Try.ntmps9
      go_wp2_with (first
        | ((fail_if_success (have _ := hX1)); (refine at_box_bk _ _ (by rfl) (by rfl) (by rfl) ?_); intro V1 hX1 hB1 hz1)
        | ((fail_if_success (have _ := hE2)); (have _ := hX1); (refine at_box_ev _ _ (by rfl) (by rfl) (by rfl) ?_); intro V2 hE2 hB2 hz2; have hX2 := hX1.below hB2; have hC2 := bnext hB1 hB2)
        | ((fail_if_success (have _ := hY3)); (have _ := hE2); (refine at_alloc_bk (by rfl) (by rfl) ?_); intro V3 hY3 hB3 hz3; have hX3 := hX2.below hB3; have hE3 := hE2.below hB3; have hC3 := bnext hC2 hB3)
        | ((fail_if_success (have _ := hB4)); (have _ := hY3); (refine at_load_bk _ _ _ (by rfl) (by rfl) hX3 (by rfl) ?_))
        | ((fail_if_success (have _ := hB4)); (have _ := hY3); (with_reducible refine (hRt hC3).mono ?_); rintro e4 w4 ⟨rfl, hB4⟩; have hX4 := hX3.below hB4; have hE4 := hE3.below hB4; have hY4 := hY3.below hB4; have hC4 := bnext hC3 hB4)
        | ((fail_if_success (have _ := hB6)); (have _ := hB4); (refine at_load_bk _ _ _ (by rfl) (by rfl) hX4 (by rfl) ?_))
        | ((fail_if_success (have _ := hB6)); (have _ := hB4); (with_reducible refine (hCl hC4).mono ?_); rintro e6 w6 ⟨q6, n6, c6, rfl, hO6, hB6⟩; have hY6 := hY4.below hB6; have hC6 := bnext hC4 hB6)
        | ((fail_if_success (have _ := hY7)); (have _ := hB6); (refine at_store_bk _ _ _ _ _ (by rfl) (by rfl) (by rfl) hY6 rfl (by rfl) ?_); intro V7 hY7 hg7 hz7; have hO7 := hO6.off hY6 (by decide) hg7; have hC7 := hC6.grown hg7 hC6.size (fun j hj => by obtain rfl := Option.some.inj hj; exact hC2.size)))
      refine ret_bk2 (by rfl) rfl _ _ rfl hY7 ⟨_, rfl, (isb_own hO7).1, (isb_own hO7).2.mono hC4.size, hC7⟩
    | true =>
      have hr2 : rightE e = false := Bool.eq_false_iff.2 fun h2 => hr ⟨hr1, h2⟩
      rw [hr1] at hRt
      rw [hr2] at hRe
      clear hr hr1 hr2
      go_enter Try.func9, Try.ntmps9
      go_wp2_with (first
        | ((fail_if_success (have _ := hX1)); (refine at_box_bk _ _ (by rfl) (by rfl) (by rfl) ?_); intro V1 hX1 hB1 hz1)
        | ((fail_if_success (have _ := hE2)); (have _ := hX1); (refine at_box_ev _ _ (by rfl) (by rfl) (by rfl) ?_); intro V2 hE2 hB2 hz2; have hX2 := hX1.below hB2; have hC2 := bnext hB1 hB2)
        | ((fail_if_success (have _ := hY3)); (have _ := hE2); (refine at_alloc_bk (by rfl) (by rfl) ?_); intro V3 hY3 hB3 hz3; have hX3 := hX2.below hB3; have hE3 := hE2.below hB3; have hC3 := bnext hC2 hB3)
        | ((fail_if_success (have _ := hB4)); (have _ := hY3); (refine at_load_bk _ _ _ (by rfl) (by rfl) hX3 (by rfl) ?_))
        | ((fail_if_success (have _ := hB4)); (have _ := hY3); (with_reducible refine (hRt hC3).mono ?_); rintro e4 w4 ⟨rfl, hB4⟩; have hX4 := hX3.below hB4; have hE4 := hE3.below hB4; have hY4 := hY3.below hB4; have hC4 := bnext hC3 hB4)
        | ((fail_if_success (have _ := hB5)); (have _ := hB4); (refine at_load_ev _ _ _ (by rfl) (by rfl) hE4 (by rfl) ?_))
        | ((fail_if_success (have _ := hB5)); (have _ := hB4); (with_reducible refine (hRe hC4).mono ?_); rintro e5 w5 ⟨rfl, hB5⟩; have hX5 := hX4.below hB5; have hY5 := hY4.below hB5; have hC5 := bnext hC4 hB5)
        | ((fail_if_success (have _ := hB6)); (have _ := hB5); (refine at_load_bk _ _ _ (by rfl) (by rfl) hX5 (by rfl) ?_))
        | ((fail_if_success (have _ := hB6)); (have _ := hB5); (with_reducible refine (hCl hC5).mono ?_); rintro e6 w6 ⟨q6, n6, c6, rfl, hO6, hB6⟩; have hY6 := hY5.below hB6; have hC6 := bnext hC5 hB6)
        | ((fail_if_success (have _ := hY7)); (have _ := hB6); (refine at_store_bk _ _ _ _ _ (by rfl) (by rfl) (by rfl) hY6 rfl (by rfl) ?_); intro V7 hY7 hg7 hz7; have hO7 := hO6.off hY6 (by decide) hg7; have hC7 := hC6.grown hg7 hC6.size (fun j hj => by obtain rfl := Option.some.inj hj; exact hC2.size)))
      refine ret_bk2 (by rfl) rfl _ _ rfl hY7 ⟨_, rfl, (isb_own hO7).1, (isb_own hO7).2.mono hC5.size, hC7⟩
end Go.Proofs.Ytnaofcggdjbocaa.Book
namespace Go.Proofs.Ytnaofcggdjbocaa.Book
open Go.RowKit Go.Proofs.Ytnaofcggdjbocaa.Mem Go.Proofs.Ytnaofcggdjbocaa.Policy Go.Proofs.Ytnaofcggdjbocaa.Event Go.Proofs.Ytnaofcggdjbocaa.Addr
set_option maxRecDepth 100000

theorem run_build_puts (q : Option Addr) (n c : Nat) (w : World) : (Instr.build 32 #[(0, .int .i64 1), (2, .slice q n c)]).run Try.prog w = .ok (ev ⟨1, 0, q, n, c, none, 0, 0, 0, 0⟩) w := by kernel_rfl
theorem wp_build_puts {o : Oper} {a : Act} {w : World} {K : Act → World → Prop} {Q : Exit → Act → World → Prop} (x1 : Operand) (q : Option Addr) (n c : Nat) (ho : o.op = .build 32 #[(0, .const (.int .i64 1)), (2, x1)]) (h1 : a.eval x1 = .slice q n c) (h : K (a.put o.dst (ev ⟨1, 0, q, n, c, none, 0, 0, 0, 0⟩)) w) : o.wp Try.prog a w K Q :=
  wp_run (Instr.build 32 #[(0, .int .i64 1), (2, .slice q n c)]) (by simp [execOp, ho, h1]; rfl) (run_build_puts q n c w) h
theorem at_build_puts {o : Oper} {a : Act} {w : World} {ops : Array Oper} {rest : List Oper} {Q : Exit → Act → World → Prop} (x1 : Operand) (q : Option Addr) (n c : Nat) (ho : o.op = .build 32 #[(0, .const (.int .i64 1)), (2, x1)]) (h1 : a.eval x1 = .slice q n c) (hw : Region.wanted o (yielded ops a.tmps) = true) (h : wpList Try.prog ops Q rest (a.put o.dst (ev ⟨1, 0, q, n, c, none, 0, 0, 0, 0⟩)) w) : wpList Try.prog ops Q (o :: rest) a w :=
  BigFrame.wpList_want hw fun _ hK => wp_run (Instr.build 32 #[(0, .int .i64 1), (2, .slice q n c)]) (by simp [execOp, ho, h1]; rfl) (run_build_puts q n c w) (hK _ _ h)
theorem run_build_drops (q : Option Addr) (n c : Nat) (w : World) : (Instr.build 32 #[(0, .int .i64 1), (3, .slice q n c)]).run Try.prog w = .ok (ev ⟨1, 0, none, 0, 0, q, n, c, 0, 0⟩) w := by kernel_rfl
theorem wp_build_drops {o : Oper} {a : Act} {w : World} {K : Act → World → Prop} {Q : Exit → Act → World → Prop} (x1 : Operand) (q : Option Addr) (n c : Nat) (ho : o.op = .build 32 #[(0, .const (.int .i64 1)), (3, x1)]) (h1 : a.eval x1 = .slice q n c) (h : K (a.put o.dst (ev ⟨1, 0, none, 0, 0, q, n, c, 0, 0⟩)) w) : o.wp Try.prog a w K Q :=
  wp_run (Instr.build 32 #[(0, .int .i64 1), (3, .slice q n c)]) (by simp [execOp, ho, h1]; rfl) (run_build_drops q n c w) h
theorem at_build_drops {o : Oper} {a : Act} {w : World} {ops : Array Oper} {rest : List Oper} {Q : Exit → Act → World → Prop} (x1 : Operand) (q : Option Addr) (n c : Nat) (ho : o.op = .build 32 #[(0, .const (.int .i64 1)), (3, x1)]) (h1 : a.eval x1 = .slice q n c) (hw : Region.wanted o (yielded ops a.tmps) = true) (h : wpList Try.prog ops Q rest (a.put o.dst (ev ⟨1, 0, none, 0, 0, q, n, c, 0, 0⟩)) w) : wpList Try.prog ops Q (o :: rest) a w :=
  BigFrame.wpList_want hw fun _ hK => wp_run (Instr.build 32 #[(0, .int .i64 1), (3, .slice q n c)]) (by simp [execOp, ho, h1]; rfl) (run_build_drops q n c w) (hK _ _ h)
/-- The statements' own policy of a number. -/
def oneQ (s : Nat) : Po := ⟨s, 167772160 + s * 65536, 16, 0, 0, 0, 0, 9000, 1500, 1500⟩
theorem oneq_ok {s : Nat} (h : s < 256) : PoOk (oneQ s) := by
  unfold PoOk oneQ Inty
  simp only
  omega
theorem run_oneq0 (s : Int) (w : World) : (Instr.build 47 #[(0, .int .i64 s), (1, .agg #[.int .u8 10, .int .u8 s, .int .u8 0, .int .u8 0, .int .i64 16]), (6, .int .u64 9000), (7, .int .u64 1500), (8, .int .u64 1500)]).run Try.prog w = .ok (.agg #[.int .i64 s, .int .u8 10, .int .u8 s, .int .u8 0, .int .u8 0, .int .i64 16, .int .u64 0, .int .u64 0, .int .u64 0, .int .u64 0, .int .u64 9000, .int .u64 1500, .int .u64 1500]) w := by kernel_rfl
theorem run_oneq (s : Nat) (hs : s < 256) (w : World) : (Instr.build 47 #[(0, .int .i64 (s : Int)), (1, .agg #[.int .u8 10, .int .u8 (s : Int), .int .u8 0, .int .u8 0, .int .i64 16]), (6, .int .u64 9000), (7, .int .u64 1500), (8, .int .u64 1500)]).run Try.prog w = .ok (pv (oneQ s)) w := by
  have e : pv (oneQ s) = .agg #[.int .i64 (s : Int), .int .u8 10, .int .u8 (s : Int), .int .u8 0, .int .u8 0, .int .i64 16, .int .u64 0, .int .u64 0, .int .u64 0, .int .u64 0, .int .u64 9000, .int .u64 1500, .int .u64 1500] := by
    simp [pv, pl, oneQ, b0, b1, b2, b3]
    omega
  rw [e, run_oneq0]
theorem at_oneq {o : Oper} {a : Act} {w : World} {ops : Array Oper} {rest : List Oper} {Q : Exit → Act → World → Prop} (x y : Operand) (s : Nat) (hs : s < 256) (ho : o.op = .build 47 #[(0, x), (1, y), (6, .const (.int .u64 9000)), (7, .const (.int .u64 1500)), (8, .const (.int .u64 1500))]) (hx : a.eval x = .int .i64 (s : Int)) (hy : a.eval y = .agg #[.int .u8 10, .int .u8 (s : Int), .int .u8 0, .int .u8 0, .int .i64 16]) (hw : Region.wanted o (yielded ops a.tmps) = true) (h : wpList Try.prog ops Q rest (a.put o.dst (pv (oneQ s))) w) : wpList Try.prog ops Q (o :: rest) a w :=
  BigFrame.wpList_want hw fun _ hK => wp_run (Instr.build 47 #[(0, .int .i64 (s : Int)), (1, .agg #[.int .u8 10, .int .u8 (s : Int), .int .u8 0, .int .u8 0, .int .i64 16]), (6, .int .u64 9000), (7, .int .u64 1500), (8, .int .u64 1500)]) (by simp [execOp, ho, hx, hy]; rfl) (run_oneq s hs w) (hK _ _ h)
theorem law_oneq (s : Nat) (hs : s < 256) (w : World) :
    Calls Try.prog 28 #[.int .i64 (s : Int)] w fun e w' => e = .returned (pv (oneQ s)) ∧ Below w.heap.size w w' := by
  have hwr : IntKind.u8.wrap (s : Int) = s := by rw [IntKind.wrap_u8]; omega
  go_enter Try.func28, Try.ntmps28
  go_wp2_with (first
    | ((fail_if_success (have _ := hX1)); (refine at_alloc_po (by rfl) (by rfl) ?_); intro V1 hX1 hB1 hz1)
    | ((fail_if_success (have _ := hX2)); (refine at_oneq _ _ s hs (by rfl) (by rfl) (by rfl) (by rfl) ?_))
    | ((fail_if_success (have _ := hX2)); (refine at_store_po _ _ _ _ _ (by rfl) (by rfl) (by rfl) hX1 rfl (by rfl) ?_); intro V2 hX2 hg2 hz2))
  refine ret_po (by rfl) rfl _ _ rfl hX2 ⟨rfl, ?_⟩
  exact hB1.grown hg2 hB1.size (by simp)
theorem lit_ints (w : World) (c : Int) : Reads .i64 (w.alloc (.cells #[.int .i64 c] 3)) (some ⟨w.heap.size, 0, none⟩) 1 [c] := lit_reads (w := w) (cs := #[.int .i64 c]) (e := 3) rfl rfl (by simp)
theorem run_liti (w : World) : (Instr.buildSlice 30 1 #[(0, .int .i64 4)]).run Try.prog w = .ok (.slice (some ⟨w.heap.size, 0, none⟩) 1 1) (w.alloc (.cells #[.int .i64 4] 3)) := by kernel_rfl
theorem at_liti {o : Oper} {a : Act} {w : World} {ops : Array Oper} {rest : List Oper} {Q : Exit → Act → World → Prop} (ho : o.op = .buildSlice 30 1 #[(0, .const (.int .i64 4))]) (hw : Region.wanted o (yielded ops a.tmps) = true)
    (h : ∀ w', Reads .i64 w' (some ⟨w.heap.size, 0, none⟩) 1 [4] → Below w.heap.size w w' → wpList Try.prog ops Q rest (a.put o.dst (.slice (some ⟨w.heap.size, 0, none⟩) 1 1)) w') : wpList Try.prog ops Q (o :: rest) a w :=
  BigFrame.wpList_want hw fun _ hK => wp_run (Instr.buildSlice 30 1 #[(0, .int .i64 4)]) (by simp [execOp, ho]; rfl) (run_liti w) (hK _ _ (h _ (lit_ints w 4) (bnew _ _)))
/-- Is one of the three above thirty? -/
def greatN (n pn dn : Nat) : Bool := decide (30 < n) || (decide (30 < pn) || decide (30 < dn))
theorem great_no {n pn dn : Nat} (h : greatN n pn dn = false) : n ≤ 30 ∧ pn ≤ 30 ∧ dn ≤ 30 := by
  simp [greatN] at h; omega
theorem great_any (h : Bh) (e : Eh) (w : World) : Calls Try.prog 13 #[bv h, ev e] w fun x w' => x = .returned (.bool (greatN h.n e.pn e.dn)) ∧ Below w.heap.size w w' := by
  obtain ⟨t, q, n, c⟩ := h
  obtain ⟨k, s, pp, pn, pc, dp, dn, dc, g, u⟩ := e
  simp only [greatN]
  by_cases h0 : 30 < n
  · have i0 : (30 : Int) < (n : Int) := by omega
    rw [decide_eq_true h0]
    go_enter Try.func13, Try.ntmps13
    go_wp2_with (first
      | ((fail_if_success (have _ := hX1)); (refine at_box_bk _ _ (by rfl) (by rfl) (by rfl) ?_); intro V1 hX1 hB1 hz1; have c1 := cells_bk hX1; simp only at c1)
      | ((fail_if_success (have _ := hX2)); (have _ := hX1); (refine at_box_ev _ _ (by rfl) (by rfl) (by rfl) ?_); intro V2 hX2 hB2 hz2; have c2 := cells6 hX2; simp only at c2; have c3 := cells_bk (hX1.below hB2); simp only at c3))
    go_ret
    exact ⟨rfl, bnext hB1 hB2⟩
  · have i0 : decide ((30 : Int) < (n : Int)) = false := decide_eq_false (by omega)
    rw [decide_eq_false h0]
    by_cases h1 : 30 < pn
    · have i1 : (30 : Int) < (pn : Int) := by omega
      rw [decide_eq_true h1]
      go_enter Try.func13, Try.ntmps13
      go_wp2_with (first
        | ((fail_if_success (have _ := hX1)); (refine at_box_bk _ _ (by rfl) (by rfl) (by rfl) ?_); intro V1 hX1 hB1 hz1; have c1 := cells_bk hX1; simp only at c1)
        | ((fail_if_success (have _ := hX2)); (have _ := hX1); (refine at_box_ev _ _ (by rfl) (by rfl) (by rfl) ?_); intro V2 hX2 hB2 hz2; have c2 := cells6 hX2; simp only at c2; have c3 := cells_bk (hX1.below hB2); simp only at c3))
      go_ret
      exact ⟨rfl, bnext hB1 hB2⟩
    · have i1 : decide ((30 : Int) < (pn : Int)) = false := decide_eq_false (by omega)
      rw [decide_eq_false h1]
      by_cases h2 : 30 < dn
      · have i2 : (30 : Int) < (dn : Int) := by omega
        rw [decide_eq_true h2]
        go_enter Try.func13, Try.ntmps13
        go_wp2_with (first
          | ((fail_if_success (have _ := hX1)); (refine at_box_bk _ _ (by rfl) (by rfl) (by rfl) ?_); intro V1 hX1 hB1 hz1; have c1 := cells_bk hX1; simp only at c1)
          | ((fail_if_success (have _ := hX2)); (have _ := hX1); (refine at_box_ev _ _ (by rfl) (by rfl) (by rfl) ?_); intro V2 hX2 hB2 hz2; have c2 := cells6 hX2; simp only at c2; have c3 := cells_bk (hX1.below hB2); simp only at c3))
        go_ret
        exact ⟨rfl, bnext hB1 hB2⟩
      · have i2 : decide ((30 : Int) < (dn : Int)) = false := decide_eq_false (by omega)
        rw [decide_eq_false h2]
        go_enter Try.func13, Try.ntmps13
        go_wp2_with (first
          | ((fail_if_success (have _ := hX1)); (refine at_box_bk _ _ (by rfl) (by rfl) (by rfl) ?_); intro V1 hX1 hB1 hz1; have c1 := cells_bk hX1; simp only at c1)
          | ((fail_if_success (have _ := hX2)); (have _ := hX1); (refine at_box_ev _ _ (by rfl) (by rfl) (by rfl) ?_); intro V2 hX2 hB2 hz2; have c2 := cells6 hX2; simp only at c2; have c3 := cells_bk (hX1.below hB2); simp only at c3))
        go_ret
        exact ⟨rfl, bnext hB1 hB2⟩
theorem great_bk (h : Bh) (w : World) : Calls Try.prog 13 #[bv h, ev Event.zeroH] w fun x w' => x = .returned (.bool (greatN h.n 0 0)) ∧ Below w.heap.size w w' := great_any h Event.zeroH w
theorem great_ev (e : Eh) (w : World) : Calls Try.prog 13 #[bv zeroH, ev e] w fun x w' => x = .returned (.bool (greatN 0 e.pn e.dn)) ∧ Below w.heap.size w w' := great_any zeroH e w
end Go.Proofs.Ytnaofcggdjbocaa.Book
