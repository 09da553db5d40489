/-
  Changes of entries that are the call's own: the library's Clone, book.put, book.lease.
-/
import Derived.Test.YtnaofcggdjbocaaBkOwn
import Derived.Test.YtnaofcggdjbocaaPolAll
import Derived.Lib.SliceRun
/-
  Which books can be: book.policies, book.Right.
-/
namespace Go.Proofs.Ytnaofcggdjbocaa.Book
open Go.RowKit Go.Proofs.Ytnaofcggdjbocaa.Mem Go.Proofs.Ytnaofcggdjbocaa.Policy Go.Proofs.Ytnaofcggdjbocaa.Event Go.Proofs.Ytnaofcggdjbocaa.Addr
set_option maxRecDepth 100000

/-- The policy of an entry, as it lies. -/
theorem pol_in {w : World} {g : Nat} {e : En} (h : Blk w g 49 (nl e)) : ∀ j v, (pl e.p)[j]? = some v → w.cell? ⟨g, 0 + j, none⟩ = some v := by
  intro j v hv
  have hj : j < (pl e.p).length := (List.getElem?_eq_some_iff.1 hv).1
  rw [Nat.zero_add, h.cell, nl, List.getElem?_append_left hj]
  exact hv
theorem pols_len (es : List En) : (pols es).length = es.length := by simp [pols]
theorem pols_next {es : List En} {k : Nat} {e : En} (h : es[k]? = some e) : pols (es.take (k + 1)) = pols (es.take k) ++ [e.p] := by
  have hl := (List.getElem?_eq_some_iff.1 h).1
  rw [List.take_succ_eq_append_getElem hl, show es[k] = e from (List.getElem?_eq_some_iff.1 h).2]
  simp [pols]
set_option maxHeartbeats 1000000 in
theorem book_policies (q : Option Addr) (n c : Nat) (es : List En) (hl : es.length = n) (hn : n ≤ 1000) (w : World) (r : RK nl w q c es) :
    Calls Try.prog 30 #[.slice q n c] w fun x w' => ∃ p d, x = .returned (.slice p n d) ∧ RK pl w' p d (pols es) ∧ Below w.heap.size w w' := by
  go_enter Try.func30, Try.ntmps30
  go_wp2
  go_loopw [3, 8] (fun u j wr => ∃ k : Nat, k ≤ n ∧ j = .int .i64 k ∧ wr.ownsRow w.heap.size 47 13 u (pols (es.take k)).length ((pols (es.take k)).flatMap pl) ∧ Below w.heap.size w wr) (fun _ j _ => n - (intOf j).toNat)
  case atStart => exact ⟨0, Nat.zero_le _, rfl, World.ownsRow_nil _ _ _ _, Below.refl _ _⟩
  case round =>
    obtain ⟨k, hk, rfl, hown, hnx⟩ := hrel
    by_cases hlt : k < n
    · have hlt3 : (k : Int) < (n : Int) := by omega
      obtain ⟨x, hx⟩ : ∃ x, es[k]? = some x := ⟨_, List.getElem?_eq_getElem (by omega)⟩
      obtain ⟨b, o, rfl, hb, hc⟩ := ent_at (r.below hnx) hx
      have HT : Hid (pols (es.take (k + 1)) = pols (es.take k) ++ [x.p]) := pols_next hx
      have hlen : (pols (es.take k)).length ≤ 1000 := by rw [pols_len, List.length_take]; omega
      obtain ⟨ys, hys⟩ : ∃ ys, ys = pols (es.take k) := ⟨_, rfl⟩
      rw [← hys] at hown hlen HT
      clear hx hys
      go_wp2_with (first
        | ((fail_if_success (have _ := hX1)); (refine at_load_ren _ _ _ _ (by rfl) (by rfl) hc (by rfl) ?_))
        | ((fail_if_success (have _ := hX1)); (refine at_alloc_en (by rfl) (by rfl) ?_); intro V1 hX1 hB1 hz1)
        | ((fail_if_success (have _ := hX2)); (have _ := hX1); (refine at_store_en _ _ _ _ _ (by rfl) (by rfl) (by rfl) hX1 rfl (by rfl) ?_); intro V2 hX2 hg2 hz2; have hB2 := hB1.grown hg2 hB1.size (by simp); have hp2 := pol_in hX2)
        | ((fail_if_success (have _ := r3)); (have _ := hX2); (refine at_load_pr _ _ _ _ (by rfl) (by rfl) hp2 (by rfl) ?_))
        | ((fail_if_success (have _ := r3)); (have _ := hX2); (refine at_pol1 _ _ (by rfl) (by rfl) (by rfl) ?_); intro V3 r3 hB3; have hB23 := bnext hB2 hB3; have hnx3 := bnext hnx hB23; have hown3 := own_below hown hB23)
        | ((fail_if_success (have _ := ho4)); (have _ := r3); (refine at_append_pol _ _ (by rfl) w.heap.size u3 ys.length ys (by rfl) hown3 _ 1 1 [x.p] (by rfl) rfl r3 ?c1 ?c2 (by rfl) ?_)))
      case c1 => omega
      case c2 => exact hnx3.size
      · intro v4 w4 ho4 hg4
        have hB4 := hnx3.grown hg4 hnx3.size (fun g hg => (hown3.lt g hg).1)
        have ho5 : w4.ownsRow w.heap.size 47 13 v4 (pols (es.take (k + 1))).length ((pols (es.take (k + 1))).flatMap pl) := by
          rw [HT.out]
          simpa using ho4
        clear ho4 hown hown3 r3 hX2 hp2 hc
        go_wp2
        go_roundw
        case rel => exact ⟨k + 1, by omega, by go_num, ho5, hB4⟩
        case measure => simp [intOf]; omega
    · obtain rfl : k = n := by omega
      have hdt : es.take k = es := List.take_of_length_le (by omega)
      rw [hdt] at hown
      obtain ⟨p, d, hv, hrd, -⟩ := own_rk pl_len (by decide) hown
      rw [pols_len, hl] at hv
      subst hv
      clear hown hdt
      go_wp2
      go_ret
      exact ⟨p, d, rfl, hrd, hnx⟩
theorem val_no {x : Int} (h : ¬ (1 ≤ x ∧ x ≤ 281474976710656)) : valB x = false := by
  cases hv : valB x with
  | false => rfl
  | true => exact absurd (valB_iff.1 hv) h
theorem low_any (es : List En) : (es.any fun e => decide (281474976710656 < e.g)) = !lowG es := by
  unfold lowG
  induction es with
  | nil => rfl
  | cons e r ih =>
    rw [List.any_cons, ih, List.all_cons, Bool.not_and]
    congr 1
    by_cases h : e.g ≤ 281474976710656
    · rw [decide_eq_true h, decide_eq_false (by omega)]; rfl
    · rw [decide_eq_false h, decide_eq_true (by omega)]; rfl
theorem all_val (ps : List Po) : allE ps = if allB ps = true then 0 else 111 := rfl
set_option maxHeartbeats 2000000 in
/-- book.Right. -/
theorem book_Right (h : Bh) (b : Bk) (w : World) (i : IsB w h b) (ob : ∀ e ∈ b.es, EnOk e) (hn : h.n ≤ 1000) :
    Calls Try.prog 12 #[bv h] w fun x w' => x = .returned (.bool (rightB b)) ∧ Below w.heap.size w w' := by
  obtain ⟨t, es⟩ := b
  obtain ⟨t', q, n, c⟩ := h
  obtain ⟨e1, l1, r1⟩ := i
  simp only at e1 l1 r1 ob hn
  subst e1
  have hPs := fun {W : World} (hb : Below w.heap.size w W) => book_policies q n c es l1 hn W (r1.below hb)
  have hAl := fun {W : World} {p d} (r : RK pl W p d (pols es)) => policy_All p n d (pols es) (by rw [pols_len, l1]) hn W r (fun p hp => by
    obtain ⟨e, he, rfl⟩ := List.mem_map.1 hp
    exact (ob e he).1)
  have hCo := fun {W : World} (hb : Below w.heap.size w W) => contains_func q n c es l1 hn 32 #[] (fun e => decide (281474976710656 < e.g)) W ⟨enters_of Try.func32 (by kernel_rfl) rfl, fun e w' _ => too_much e w'⟩ (r1.below hb)
  rw [low_any] at hCo
  rw [all_val] at hAl
  clear r1 ob
  unfold rightB
  simp only
  obtain ⟨A, hA⟩ : ∃ A, allB (pols es) = A := ⟨_, rfl⟩
  obtain ⟨L, hL⟩ : ∃ L, lowG es = L := ⟨_, rfl⟩
  rw [hA, hL]
  rw [hA] at hAl
  rw [hL] at hCo
  clear hA hL
  by_cases k1 : 1 ≤ t'
  · have d1 : decide (1 ≤ t') = true := decide_eq_true k1
    by_cases k2 : t' ≤ 281474976710656
    · have d2 : decide (t' ≤ 281474976710656) = true := decide_eq_true k2
      rw [valB_iff.2 ⟨k1, k2⟩]
      clear k1 k2
      cases A with
      | true =>
        simp only [if_true] at hAl
        go_enter Try.func12, Try.ntmps12
        go_wp2_with (first
          | ((fail_if_success (have _ := hX1)); (refine at_box_bk _ _ (by rfl) (by rfl) (by rfl) ?_); intro V1 hX1 hB1 hz1; have c1 := cells_bk hX1; simp only at c1)
          | ((fail_if_success (have _ := hB2)); (have _ := hX1); (with_reducible refine (hPs hB1).mono ?_); rintro e w2 ⟨p2, d2, rfl, r2, hB2⟩; have hB12 := bnext hB1 hB2)
          | ((fail_if_success (have _ := hB3)); (have _ := hB2); (with_reducible refine (hAl r2).mono ?_); rintro e w3 ⟨rfl, hB3⟩; have hB13 := bnext hB12 hB3; have c3 := cells_bk ((hX1.below hB2).below hB3); simp only at c3)
          | ((fail_if_success (have _ := hB4)); (have _ := hB3); (with_reducible refine (hCo hB13).mono ?_); rintro e w4 ⟨rfl, hB4⟩; have hB14 := bnext hB13 hB4))
        go_ret
        exact ⟨by simp, hB14⟩
      | false =>
        simp only [Bool.false_eq_true, if_false] at hAl
        go_enter Try.func12, Try.ntmps12
        go_wp2_with (first
          | ((fail_if_success (have _ := hX1)); (refine at_box_bk _ _ (by rfl) (by rfl) (by rfl) ?_); intro V1 hX1 hB1 hz1; have c1 := cells_bk hX1; simp only at c1)
          | ((fail_if_success (have _ := hB2)); (have _ := hX1); (with_reducible refine (hPs hB1).mono ?_); rintro e w2 ⟨p2, d2, rfl, r2, hB2⟩; have hB12 := bnext hB1 hB2)
          | ((fail_if_success (have _ := hB3)); (have _ := hB2); (with_reducible refine (hAl r2).mono ?_); rintro e w3 ⟨rfl, hB3⟩; have hB13 := bnext hB12 hB3))
        go_ret
        exact ⟨by simp, hB13⟩
    · have d2 : decide (t' ≤ 281474976710656) = false := decide_eq_false k2
      rw [val_no fun h => k2 h.2]
      clear k1 k2
      go_enter Try.func12, Try.ntmps12
      go_wp2_with (first
        | ((fail_if_success (have _ := hX1)); (refine at_box_bk _ _ (by rfl) (by rfl) (by rfl) ?_); intro V1 hX1 hB1 hz1; have c1 := cells_bk hX1; simp only at c1))
      go_ret
      exact ⟨by simp, hB1⟩
  · have d1 : decide (1 ≤ t') = false := decide_eq_false k1
    rw [val_no fun h => k1 h.1]
    clear k1
    go_enter Try.func12, Try.ntmps12
    go_wp2_with (first
      | ((fail_if_success (have _ := hX1)); (refine at_box_bk _ _ (by rfl) (by rfl) (by rfl) ?_); intro V1 hX1 hB1 hz1; have c1 := cells_bk hX1; simp only at c1))
    go_ret
    exact ⟨by simp, hB1⟩
end Go.Proofs.Ytnaofcggdjbocaa.Book
/-
  Finding an entry: book.Find and the document's Find, put, has.
-/
namespace Go.Proofs.Ytnaofcggdjbocaa.Book
open Go.RowKit Go.Proofs.Ytnaofcggdjbocaa.Mem Go.Proofs.Ytnaofcggdjbocaa.Policy Go.Proofs.Ytnaofcggdjbocaa.Event Go.Proofs.Ytnaofcggdjbocaa.Addr
set_option maxRecDepth 100000

/-- What is told of a Sub. -/
def findE (es : List En) (s : Int) : En := ((look es s).getD zeroN)
def foundB (es : List En) (s : Int) : Bool := (look es s).isSome
theorem look_at {es : List En} {k : Nat} {e : En} {s : Int} (hk : es[k]? = some e) (he : e.p.s = s) (h : ∀ x ∈ es.take k, x.p.s ≠ s) : look es s = some e := by
  have hl := (List.getElem?_eq_some_iff.1 hk).1
  have hx : es[k] = e := (List.getElem?_eq_some_iff.1 hk).2
  unfold look
  rw [List.find?_eq_some_iff_getElem]
  exact ⟨by simpa using he, k, hl, hx, fun j hj => by
    have := h es[j] (List.mem_take_iff_getElem.2 ⟨j, by omega, rfl⟩)
    simpa using this⟩
theorem place_is2 (es : List En) (s : Int) : (placeI es s = -1 ∧ look es s = none ∧ ∀ e ∈ es, e.p.s ≠ s) ∨ ∃ (i : Nat) (e : En), placeI es s = i ∧ es[i]? = some e ∧ e.p.s = s ∧ look es s = some e ∧ ∀ x ∈ es.take i, x.p.s ≠ s := by
  rcases idx_is (fun e => decide (e.p.s = s)) es with ⟨h1, h2⟩ | ⟨i, e, h1, h2, h3, h4⟩
  · have h2' : ∀ e ∈ es, e.p.s ≠ s := fun e he => by simpa using h2 e he
    exact .inl ⟨h1, look_none h2', h2'⟩
  · have h4' : ∀ x ∈ es.take i, x.p.s ≠ s := fun x hx => by simpa using h4 x hx
    have h3' : e.p.s = s := by simpa using h3
    exact .inr ⟨i, e, h1, h2, h3', look_at h2 h3' h4', h4'⟩
set_option maxHeartbeats 2000000 in
theorem book_Find (h : Bh) (b : Bk) (s : Int) (w : World) (i : IsB w h b) (hn : h.n ≤ 1000) :
    Calls Try.prog 16 #[bv h, .int .i64 s] w fun x w' => x = .returned (.tuple #[nv (findE b.es s), .bool (foundB b.es s)]) ∧ Below w.heap.size w w' := by
  obtain ⟨t, es⟩ := b
  obtain ⟨t', q, n, c⟩ := h
  obtain ⟨e1, l1, r1⟩ := i
  simp only at e1 l1 r1 hn
  subst e1
  have hP := fun {W : World} (hb : Below w.heap.size w W) => book_place q n c es s l1 hn W (r1.below hb)
  unfold findE foundB
  simp only
  rcases place_is2 es s with ⟨hp, hlk, -⟩ | ⟨k, e, hp, hk, he, hlk, -⟩
  · rw [hp] at hP
    rw [hlk]
    clear r1 hlk hp
    go_enter Try.func16, Try.ntmps16
    go_wp2_with (first
      | ((fail_if_success (have _ := hX1)); (refine at_box_bk _ _ (by rfl) (by rfl) (by rfl) ?_); intro V1 hX1 hB1 hz1)
      | ((fail_if_success (have _ := hX2)); (have _ := hX1); (refine at_alloc_en (by rfl) (by rfl) ?_); intro V2 hX2 hB2 hz2; have hX1' := hX1.below hB2; have hB := bnext hB1 hB2; have c1 := cells_bk hX1'; simp only at c1)
      | ((fail_if_success (have _ := hB3)); (have _ := hX2); (with_reducible refine (hP hB).mono ?_); rintro e w3 ⟨rfl, hB3⟩; have hX3 := hX2.below hB3; have hBa := hB2.trans (hB3.mono hB2.size))
      | ((fail_if_success (have _ := hX4)); (have _ := hX3); (refine at_build_nzero (by rfl) (by rfl) ?_))
      | ((fail_if_success (have _ := hX4)); (have _ := hX3); (refine at_store_en _ _ _ _ _ (by rfl) (by rfl) (by rfl) hX3 rfl (by rfl) ?_); intro V4 hX4 hg4 hz4; have hB4 := bnext hB1 (hBa.grown hg4 hBa.size (by simp))))
    exact ret_en2 (by rfl) rfl _ _ rfl hX4 ⟨rfl, hB4⟩
  · rw [hp] at hP
    rw [hlk]
    have hkn : k < n := by have := (List.getElem?_eq_some_iff.1 hk).1; omega
    have hk0 : decide ((k : Int) < 0) = false := decide_eq_false (by omega)
    have hk1 : (k : Int) < (n : Int) := by omega
    obtain ⟨b, o, rfl, hb, hc⟩ := ent_at r1 hk
    have hcw := fun {W : World} (hB : Below w.heap.size w W) => fun j v (hv : (nl e)[j]? = some v) => (hB.cell (p := ⟨b, o + k * 14 + j, none⟩) hb).trans (hc j v hv)
    clear r1 hlk hp hc hk
    go_enter Try.func16, Try.ntmps16
    go_wp2_with (first
      | ((fail_if_success (have _ := hX1)); (refine at_box_bk _ _ (by rfl) (by rfl) (by rfl) ?_); intro V1 hX1 hB1 hz1)
      | ((fail_if_success (have _ := hX2)); (have _ := hX1); (refine at_alloc_en (by rfl) (by rfl) ?_); intro V2 hX2 hB2 hz2; have hX1' := hX1.below hB2; have hB := bnext hB1 hB2; have c1 := cells_bk hX1'; simp only at c1)
      | ((fail_if_success (have _ := hB3)); (have _ := hX2); (with_reducible refine (hP hB).mono ?_); rintro e w3 ⟨rfl, hB3⟩; have hX3 := hX2.below hB3; have hBa := hB2.trans (hB3.mono hB2.size); have hcc := hcw (bnext hB1 hBa); have c3 := cells_bk (hX1'.below hB3); simp only at c3)
      | ((fail_if_success (have _ := hX4)); (have _ := hX3); (refine at_load_ren _ _ _ _ (by rfl) (by rfl) hcc (by rfl) ?_))
      | ((fail_if_success (have _ := hX4)); (have _ := hX3); (refine at_store_en _ _ _ _ _ (by rfl) (by rfl) (by rfl) hX3 rfl (by rfl) ?_); intro V4 hX4 hg4 hz4; have hB4 := bnext hB1 (hBa.grown hg4 hBa.size (by simp))))
    exact ret_en2 (by rfl) rfl _ _ rfl hX4 ⟨rfl, hB4⟩
end Go.Proofs.Ytnaofcggdjbocaa.Book
namespace Go.Proofs.Ytnaofcggdjbocaa.Book
open Go.RowKit Go.Proofs.Ytnaofcggdjbocaa.Mem Go.Proofs.Ytnaofcggdjbocaa.Policy Go.Proofs.Ytnaofcggdjbocaa.Event Go.Proofs.Ytnaofcggdjbocaa.Addr
set_option maxRecDepth 100000

theorem gtrans {w w2 w3 : World} {row row2 : Option Nat} (h : w.grownBy w2 row) (hg : w2.grownBy w3 row2) (hr : ∀ r, row2 = some r → some r = row ∨ w.heap.size ≤ r) : w.grownBy w3 row :=
  ⟨hg.os.trans h.os, hg.tape.trans h.tape, hg.output.trans h.output, Nat.le_trans h.size hg.size, fun k hk hne => (hg.block k (Nat.lt_of_lt_of_le hk h.size) (fun e => by
    rcases hr k e.symm with q | q
    · exact hne q
    · omega)).trans (h.block k hk hne)⟩
theorem gafter {w w2 w3 : World} {row : Option Nat} (h : Below w.heap.size w w2) (hg : w2.grownBy w3 row) : w.grownBy w3 row :=
  ⟨hg.os.trans h.os, hg.tape.trans h.tape, hg.output.trans h.output, Nat.le_trans h.size hg.size, fun k hk hne => (hg.block k (Nat.lt_of_lt_of_le hk h.size) hne).trans (h.block k hk)⟩
theorem gbelow {w w2 : World} (row : Option Nat) (h : Below w.heap.size w w2) : w.grownBy w2 row := ⟨h.os, h.tape, h.output, h.size, fun k hk _ => h.block k hk⟩
theorem gthen {w w2 w3 : World} {row : Option Nat} (h : w.grownBy w2 row) (hb : Below w2.heap.size w2 w3) : w.grownBy w3 row := gtrans h (gbelow none hb) (by simp)
theorem EO.some {B : Nat} {w : World} {v : Value} {es : List En} (h : EO B w v es) (hp : 0 < es.length) : ∃ g c, v = .slice (some ⟨g, 0, none⟩) es.length c ∧ v.ownBlock = some g := by
  rcases h.2 with ⟨_, h0⟩ | ⟨g, cap, cur, rfl, _⟩
  · omega
  · exact ⟨g, cap, rfl, rfl⟩

set_option maxHeartbeats 1000000 in
/-- slices.Clone. -/
theorem clone_ents (q : Option Addr) (n c : Nat) (es : List En) (hl : es.length = n) (hn : n ≤ 1000) (w : World) (r : RK nl w q c es) :
    Calls Try.prog 54 #[.slice q n c] w fun x w' => ∃ v, x = .returned v ∧ EO w.heap.size w' v es ∧ Below w.heap.size w w' := by
  have hnil : ∀ (w : World) (a : Option Addr) (n c n' c' : Nat), (binOp .eql 23 (.slice a n c) (.slice none n' c')).run Try.prog w = .ok (.bool a.isNone) w := fun w a n c n' c' => Lib.run_eql_slice_nil w _ _ a n c n' c' Try.underlying23
  cases q with
  | none =>
    obtain rfl : c = 0 := r.2.2.1 rfl
    have h1 := r.1
    obtain rfl : es = [] := List.eq_nil_of_length_eq_zero (by omega)
    obtain rfl : n = 0 := by simpa using hl.symm
    go_enter Try.func54, Try.ntmps54
    go_wp2
    go_ret
    exact ⟨_, rfl, EO.nil _ _, Below.refl _ _⟩
  | some a =>
    have r1 := r.below (bnew w (.cells #[] 49))
    go_enter Try.func54, Try.ntmps54
    go_wp2_with (refine at_append_en _ _ (by rfl) w.heap.size _ [] (by rfl) (none_ent w) _ n c es (by rfl) hl r1 ?c1 ?c2 (by rfl) ?_)
    case c1 => simp; omega
    case c2 => simp
    · intro v w2 ho hg _
      have hB := (bnew w (.cells #[] 49)).grown hg (by simp) (fun g hg => by simp [Value.ownBlock] at hg; omega)
      go_wp2
      go_ret
      exact ⟨v, rfl, ho, hB⟩

/-- A policy in the place of that of its Sub, or behind all. -/
def putE (es : List En) (p : Po) : List En := if placeI es p.s < 0 then es ++ [⟨p, 0⟩] else es.set (placeI es p.s).toNat ⟨p, ((look es p.s).map En.g).getD 0⟩
theorem put_new {es : List En} {p : Po} (h : placeI es p.s = -1) : putE es p = es ++ [⟨p, 0⟩] := by unfold putE; rw [h]; rfl
theorem put_old {es : List En} {p : Po} {k : Nat} {e : En} (h : placeI es p.s = k) (hl : look es p.s = some e) : putE es p = es.set k ⟨p, e.g⟩ := by
  unfold putE
  rw [h, hl, if_neg (by omega)]
  rfl
set_option maxHeartbeats 2000000 in
theorem book_put (B : Nat) (v : Value) (es : List En) (p : Po) (hn : es.length ≤ 1000) (w : World) (hB : B ≤ w.heap.size) (h : EO B w v es) :
    Calls Try.prog 76 #[v, pv p] w fun x w' => ∃ v', x = .returned v' ∧ EO B w' v' (putE es p) ∧ w.grownBy w' v.ownBlock ∧ Lies w v v' := by
  obtain ⟨q, c, hv, hr, hf⟩ := h.shape
  obtain ⟨n, hl⟩ : ∃ n, es.length = n := ⟨_, rfl⟩
  rw [hl] at hv hn
  have hP := fun {W : World} (hb : Below w.heap.size w W) => book_place q n c es p.s hl hn W (hr.below hb)
  have hO := fun {W : World} (hb : Below w.heap.size w W) => h.below hb
  rcases place_is2 es p.s with ⟨hp, -, -⟩ | ⟨k, e, hp, hk, he, hlk, -⟩
  · rw [hp] at hP
    rw [put_new hp]
    subst hv
    clear hr hf h hp
    go_enter Try.func76, Try.ntmps76
    go_wp2_with (first
      | ((fail_if_success (have _ := hX1)); (refine at_box_po _ _ (by rfl) (by rfl) (by rfl) ?_); intro V1 hX1 hB1 hz1; have c1 := cells13 hX1)
      | ((fail_if_success (have _ := hB2)); (have _ := hX1); (with_reducible refine (hP hB1).mono ?_); rintro e w2 ⟨rfl, hB2⟩; have hX2 := hX1.below hB2; have hC2 := bnext hB1 hB2)
      | ((fail_if_success (have _ := hB3)); (have _ := hX2); (refine at_load_po _ _ _ (by rfl) (by rfl) hX2 (by rfl) ?_))
      | ((fail_if_success (have _ := hB3)); (have _ := hX2); (refine at_build_npol _ p (by rfl) (by rfl) (by rfl) ?_))
      | ((fail_if_success (have _ := hB3)); (have _ := hX2); (refine at_ent1 _ _ (by rfl) (by rfl) (by rfl) ?_); intro V3 r3 hB3 hz3; have hC3 := bnext hC2 hB3; have ho3 := hO hC3)
      | ((fail_if_success (have _ := ho4)); (have _ := hB3); (refine at_append_en _ _ (by rfl) B (.slice q n c) es (by rfl) ho3 _ 1 1 [⟨p, 0⟩] (by rfl) rfl r3 ?c1 ?c2 (by rfl) ?_)))
    case c1 => omega
    case c2 => have := hC3.size; omega
    · intro v4 w4 ho4 hg4 hl4
      have hG := gafter hC3 hg4
      have hL := (Lies.refl w _).next hl4 hC3.size
      clear hX2 r3 ho3 hO
      go_wp2
      go_ret
      exact ⟨v4, rfl, ho4, hG, hL⟩
  · have hkn : k < n := by have := (List.getElem?_eq_some_iff.1 hk).1; omega
    have hk0 : decide ((k : Int) < 0) = false := decide_eq_false (by omega)
    have hk1 : (k : Int) < (n : Int) := by omega
    rw [hp] at hP
    rw [put_old hp hlk]
    obtain ⟨g, c', hv', hob⟩ := h.some (by omega)
    rw [hl] at hv'
    subst hv
    simp only [Value.slice.injEq, true_and] at hv'
    obtain ⟨rfl, rfl⟩ := hv'
    clear hr hf h hp hob hlk
    go_enter Try.func76, Try.ntmps76
    go_wp2_with (first
      | ((fail_if_success (have _ := hX1)); (refine at_box_po _ _ (by rfl) (by rfl) (by rfl) ?_); intro V1 hX1 hB1 hz1; have c1 := cells13 hX1)
      | ((fail_if_success (have _ := hB2)); (have _ := hX1); (with_reducible refine (hP hB1).mono ?_); rintro e w2 ⟨rfl, hB2⟩; have hX2 := hX1.below hB2; have hC2 := bnext hB1 hB2; have ho2 := hO hC2)
      | ((fail_if_success (have _ := ho4)); (have _ := hX2); (refine at_load_po _ _ _ (by rfl) (by rfl) hX2 (by rfl) ?_))
      | ((fail_if_success (have _ := ho4)); (have _ := hX2); (refine at_own_pol _ _ B g k n c es e p (by rfl) (by rfl) (by rfl) ho2 hk (by rfl) ?_); intro w4 ho4 hg4 hz4; have hG := gafter hC2 hg4))
    go_ret
    exact ⟨_, rfl, ho4, hG, Lies.refl _ _⟩

/-- What is granted to one of them. -/
theorem lease_set {es : List En} {k : Nat} {e : En} {s g : Int} (hk : es[k]? = some e) (he : e.p.s = s) (hr : Rising es) : leaseE1 es s g = es.set k ⟨e.p, g⟩ := by
  have hl := (List.getElem?_eq_some_iff.1 hk).1
  have hx : es[k] = e := (List.getElem?_eq_some_iff.1 hk).2
  unfold leaseE1
  apply List.ext_getElem
  · simp
  · intro i h1 h2
    have hi : i < es.length := by simpa using h1
    rw [List.getElem_map, List.getElem_set]
    by_cases hik : k = i
    · subst hik
      rw [if_pos rfl, hx, if_pos he]
    · rw [if_neg hik, if_neg]
      intro q
      have hp := List.pairwise_iff_getElem.1 hr
      rcases Nat.lt_or_gt_of_ne hik with h | h
      · have := hp k i hl hi h; rw [hx] at this; omega
      · have := hp i k hi hl h; rw [hx] at this; omega
theorem lease_no {es : List En} {s g : Int} (h : look es s = none) : leaseIn es s g = false := by unfold leaseIn; rw [h]
theorem lease_at {es : List En} {s g : Int} {e : En} (h : look es s = some e) : leaseIn es s g = (decide (e.g ≤ g) && decide (g ≤ (e.p.x4 : Int))) := by unfold leaseIn; rw [h]
/-- A cell of one of them. -/
theorem cell_own {B g n c : Nat} {w : World} {es : List En} (h : EO B w (.slice (some ⟨g, 0, none⟩) n c) es) {k j : Nat} {e : En} {v : Value} (hk : es[k]? = some e) (hv : (nl e)[j]? = some v) : w.cell? ⟨g, k * 14 + j, none⟩ = some v := by
  obtain ⟨b, o, hb, _, hc⟩ := ent_at h.is.2.1 hk
  simp only [Option.some.injEq, Addr.mk.injEq, and_true] at hb
  obtain ⟨rfl, rfl⟩ := hb
  have := hc j v hv
  rwa [Nat.zero_add] at this
set_option maxHeartbeats 2000000 in
theorem book_lease (B : Nat) (q : Option Addr) (n c : Nat) (es : List En) (s g : Int) (hn : n ≤ 1000) (hr : Rising es) (w : World) (h : EO B w (.slice q n c) es) :
    Calls Try.prog 52 #[.slice q n c, .int .i64 s, .int .u64 g] w fun x w' => x = .returned (.bool (leaseIn es s g)) ∧ EO B w' (.slice q n c) (if leaseIn es s g = true then leaseE1 es s g else es) ∧ w.grownBy w' (Value.slice q n c).ownBlock := by
  obtain ⟨hl, hrk, hf⟩ := h.is
  have hP := fun {W : World} (hb : Below w.heap.size w W) => book_place q n c es s hl hn W (hrk.below hb)
  have hO := fun {W : World} (hb : Below w.heap.size w W) => h.below hb
  rcases place_is2 es s with ⟨hp, hlk, -⟩ | ⟨k, e, hp, hk, he, hlk, -⟩
  · rw [hp] at hP
    rw [lease_no hlk, if_neg (by decide)]
    clear hrk hf h hp hlk hr
    go_enter Try.func52, Try.ntmps52
    go_wp2_with (first
      | ((with_reducible refine (hP (Below.refl _ _)).mono ?_); rintro e w2 ⟨rfl, hB2⟩))
    go_ret
    exact ⟨rfl, hO hB2, gbelow _ hB2⟩
  · have hkn : k < n := by have := (List.getElem?_eq_some_iff.1 hk).1; omega
    have hk0 : decide ((k : Int) < 0) = false := decide_eq_false (by omega)
    have hk1 : (k : Int) < (n : Int) := by omega
    rw [hp] at hP
    rw [lease_at hlk]
    obtain ⟨b, c', hv', hob⟩ := h.some (by omega)
    rw [hl] at hv'
    simp only [Value.slice.injEq, true_and] at hv'
    obtain ⟨rfl, rfl⟩ := hv'
    have hLS := lease_set (g := g) hk he hr
    have hg13 := fun {W : World} (hb : Below w.heap.size w W) => cell_own (hO hb) (j := 13) hk (rfl : (nl e)[13]? = some (.int .u64 e.g))
    have hg10 := fun {W : World} (hb : Below w.heap.size w W) => cell_own (hO hb) (j := 10) hk (rfl : (nl e)[10]? = some (.int .u64 (e.p.x4 : Int)))
    clear hrk hf h hp hlk hr
    by_cases a1 : g < e.g
    · have d1 : decide (g < e.g) = true := decide_eq_true a1
      have d1' : decide (e.g ≤ g) = false := decide_eq_false (by omega)
      rw [d1', Bool.false_and, if_neg (by decide)]
      clear a1 hLS
      go_enter Try.func52, Try.ntmps52
      go_wp2_with (first
        | ((with_reducible refine (hP (Below.refl _ _)).mono ?_); rintro e w2 ⟨rfl, hB2⟩; have c13 := hg13 hB2; have c10 := hg10 hB2))
      go_ret
      exact ⟨rfl, hO hB2, gbelow _ hB2⟩
    · have d1 : decide (g < e.g) = false := decide_eq_false a1
      have d1' : decide (e.g ≤ g) = true := decide_eq_true (by omega)
      rw [d1', Bool.true_and]
      by_cases a2 : (e.p.x4 : Int) < g
      · have d2 : decide ((e.p.x4 : Int) < g) = true := decide_eq_true a2
        have d2' : decide (g ≤ (e.p.x4 : Int)) = false := decide_eq_false (by omega)
        rw [d2', if_neg (by decide)]
        clear a1 a2 hLS
        go_enter Try.func52, Try.ntmps52
        go_wp2_with (first
          | ((with_reducible refine (hP (Below.refl _ _)).mono ?_); rintro e w2 ⟨rfl, hB2⟩; have c13 := hg13 hB2; have c10 := hg10 hB2))
        go_ret
        exact ⟨rfl, hO hB2, gbelow _ hB2⟩
      · have d2 : decide ((e.p.x4 : Int) < g) = false := decide_eq_false a2
        have d2' : decide (g ≤ (e.p.x4 : Int)) = true := decide_eq_true (by omega)
        rw [d2', if_pos rfl, hLS]
        clear a1 a2 hLS
        go_enter Try.func52, Try.ntmps52
        go_wp2_with (first
          | ((fail_if_success (have _ := hB2)); (with_reducible refine (hP (Below.refl _ _)).mono ?_); rintro e w2 ⟨rfl, hB2⟩; have c13 := hg13 hB2; have c10 := hg10 hB2; have ho2 := hO hB2)
          | ((fail_if_success (have _ := ho4)); (have _ := hB2); (refine at_own_g _ _ B b k n c es e g (by rfl) (by rfl) (by rfl) ho2 hk (by rfl) ?_); intro w4 ho4 hg4 hz4; have hG := gafter hB2 hg4))
        go_ret
        exact ⟨rfl, ho4, hG⟩
end Go.Proofs.Ytnaofcggdjbocaa.Book
