/-
  The event of numbers: commitOf, of. (Written by gen_evof.py.)
-/
import Derived.Test.YtfgndecnakfhnaaEvOf
namespace Go.Proofs.Ytfgndecnakfhnaa.Event
open Go.RowKit Go.Proofs.Ytfgndecnakfhnaa.Mem Go.Proofs.Ytfgndecnakfhnaa.Policy
set_option maxRecDepth 100000

/-- What an event of numbers has. -/
theorem ofO_ok {kind first : Int} {rest : List Int} {e : Ev} (hw : ∀ n ∈ rest, Word n) (h : ofO kind first rest = some e) : (∀ p ∈ e.ps, PoOk p) ∧ e.ps.length ≤ rest.length ∧ e.ds.length ≤ rest.length := by
  unfold ofO at h
  split at h
  · unfold comO at h
    split at h
    · obtain ⟨ps, hps, rfl⟩ := Option.map_eq_some_iff.1 h
      obtain ⟨q1, q2⟩ := putsA_back _ _ _ _ (fun n hn => hw n (List.mem_of_mem_drop hn)) (Nat.le_refl _) (by simp) hps
      refine ⟨q2, ?_, ?_⟩
      · have := congrArg List.length q1
        rw [flat_len, List.flatMap_nil, List.nil_append, List.length_drop] at this
        simp only [commitE]
        omega
      · simp only [commitE, List.length_map, List.length_take]
        omega
    · cases h
  · split at h
    · split at h
      · simp only [Option.some.injEq] at h
        subst h
        simp [leaseE]
      · cases h
    · split at h
      · split at h
        · simp only [Option.some.injEq] at h
          subst h
          simp [periodE]
        · cases h
      · cases h
/-- What is told of an event that may be. -/
def Told (B : Nat) (w' : World) (h : Eh) (b : Bool) (o : Option Ev) : Prop := (∃ e, o = some e ∧ b = true ∧ Is w' h e ∧ Fresh B h) ∨ (o = none ∧ b = false)
theorem Told.below {B : Nat} {w w' : World} {h : Eh} {b : Bool} {o : Option Ev} (ht : Told B w h b o) (hb : Below w.heap.size w w') : Told B w' h b o := by
  rcases ht with ⟨e, h1, h2, h3, h4⟩ | ht
  · exact .inl ⟨e, h1, h2, h3.below hb, h4⟩
  · exact .inr ht
theorem Told.kept {B g : Nat} {w w' : World} {h : Eh} {b : Bool} {o : Option Ev} (ht : Told B w h b o) (hg : w.grownBy w' (some g)) (hB : g < B) : Told B w' h b o := by
  rcases ht with ⟨e, h1, h2, h3, h4⟩ | ht
  · exact .inl ⟨e, h1, h2, is_fresh h3 hg h4 hB, h4⟩
  · exact .inr ht
theorem Told.mono {B C : Nat} {w : World} {h : Eh} {b : Bool} {o : Option Ev} (ht : Told B w h b o) (hC : C ≤ B) : Told C w h b o := by
  rcases ht with ⟨e, h1, h2, h3, h4⟩ | ht
  · exact .inl ⟨e, h1, h2, h3, h4.mono hC⟩
  · exact .inr ht
set_option maxHeartbeats 2000000 in
theorem event_commitOf (first : Int) (hf : Word first) (p : Option Addr) (n c : Nat) (l : List Int) (hl : l.length = n) (hn : n ≤ 1000) (hw : ∀ x ∈ l, Word x) (w : World) (r : Reads .u64 w p c l) :
    Calls Try.prog 40 #[.int .u64 first, .slice p n c] w fun x w' => ∃ h b, x = .returned (.tuple #[ev h, .bool b]) ∧ Told w.heap.size w' h b (comO first l) ∧ Below w.heap.size w w' := by
  obtain ⟨R, hR⟩ : ∃ R, R = comO first l := ⟨_, rfl⟩
  rw [← hR]
  have HR : Hid (R = comO first l) := hR
  clear hR
  have hint := fun W => int_any first hf W
  have hs0 : 0 ≤ sint first := by have := hf.1; unfold sint; split <;> omega
  obtain ⟨N, hN⟩ : ∃ N : Nat, sint first = (N : Int) := ⟨(sint first).toNat, by omega⟩
  rw [hN] at hint
  cases hF : fits first with
  | false =>
    obtain rfl : R = none := by rw [HR.out]; unfold comO; rw [hF, if_neg (by simp)]
    rw [hF] at hint
    clear HR hs0 hN hF
    go_enter Try.func40, Try.ntmps40
    go_wp2_with (first
      | ((fail_if_success (have _ := hX1)); (refine at_alloc_ev (by rfl) (by rfl) ?_); intro V1 hX1 hB1 hz1)
      | ((with_reducible refine (hint _).mono ?_); rintro e w5 ⟨rfl, hw⟩; rw [hw]; clear hw)
      | ((fail_if_success (have _ := hX2)); (refine at_build_zero (by rfl) (by rfl) ?_))
      | ((fail_if_success (have _ := hX2)); (have _ := hX1); (refine at_store_ev _ _ _ _ _ (by rfl) (by rfl) (by rfl) hX1 rfl (by rfl) ?_); intro V2 hX2 hg2 hz2))
    refine ret_ev2 (by rfl) rfl _ _ rfl hX2 ⟨_, _, rfl, .inr ⟨rfl, rfl⟩, ?_⟩
    exact hB1.grown hg2 hB1.size (by simp)
  | true =>
    rw [hF] at hint
    by_cases hNn : N ≤ n
    · have hgt : decide ((n : Int) < (N : Int)) = false := decide_eq_false (by omega)
      have hcut := fun w => run_from_u w p n c N hNn
      have hnc : n ≤ c := by rw [← hl]; exact r.1
      have hup := fun w => run_upto_u w p n c N (by omega)
      have hP := fun {W : World} (hb : Below w.heap.size w W) => event_putsOf (cutP p c N) (n - N) (c - N) (l.drop N) (by simp; omega) (by omega) (fun x hx => hw x (List.mem_of_mem_drop hx)) W ((r.cut N (by omega)).below hb)
      have hD := fun {W : World} (hb : Below w.heap.size w W) => event_dropsOf p N c (l.take N) (by simp; omega) (by omega) (fun x hx => hw x (List.mem_of_mem_take hx)) W ((r.upto N).below hb)
      have hRR : Hid (R = (putsO (l.drop N)).map (fun ps => commitE ps ((l.take N).map sint))) := by
        unfold Hid
        rw [HR.out]
        unfold comO
        rw [hN, if_pos ⟨hF, by omega⟩, Int.toNat_natCast]
      have hln : Hid ((l.take N).length = N) := by unfold Hid; simp; omega
      clear HR hs0 hN hF hl hn hw r
      go_enter Try.func40, Try.ntmps40
      go_wp2_with (first
        | ((fail_if_success (have _ := hX1)); (refine at_alloc_ev (by rfl) (by rfl) ?_); intro V1 hX1 hB1 hz1)
        | ((fail_if_success (have _ := hB3)); (with_reducible refine (hint _).mono ?_); rintro e w5 ⟨rfl, hw⟩; rw [hw]; clear hw)
        | ((fail_if_success (have _ := hB3)); (have _ := hX1); (with_reducible refine (hP hB1).mono ?_); rintro e w3 ⟨v3, y3, rfl, ht3, hB3⟩; have hX3 := hX1.below hB3; have hB13 := bnext hB1 hB3))
      rcases ht3 with ⟨ps, q3, c3, ho, rfl, rfl, rk3, fr3⟩ | ⟨ho, rfl, rfl⟩
      · go_wp2_with (first
          | ((fail_if_success (have _ := hB4)); (with_reducible refine (hD hB13).mono ?_); rintro e w4 ⟨q4, c4, rfl, r4, hB4, fr4⟩; have hX4 := hX3.below hB4; have hB14 := bnext hB13 hB4)
          | ((fail_if_success (have _ := hB5)); (have _ := hB4); (with_reducible refine (event_commit _ _ _ _ _ _ _).mono ?_); rintro e w5 ⟨rfl, hB5⟩; have hX5 := hX4.below hB5; have hB15 := bnext hB14 hB5)
          | ((fail_if_success (have _ := hX6)); (have _ := hX5); (refine at_store_ev _ _ _ _ _ (by rfl) (by rfl) (by rfl) hX5 rfl (by rfl) ?_); intro V6 hX6 hg6 hz6))
        refine ret_ev2 (by rfl) rfl _ _ rfl hX6 ⟨_, _, rfl, ?_, hB15.grown hg6 hB15.size (by simp)⟩
        have hI5 : Is w5 ⟨1, 0, q3, ps.length, c3, q4, N, c4, 0, 0⟩ (commitE ps ((l.take N).map sint)) := ⟨⟨rfl, rfl, rfl, rfl⟩, ⟨rfl, (rk3.below hB4).below hB5⟩, by simpa [commitE] using hln.out, r4.below hB5⟩
        have hF5 : Fresh V1.heap.size ⟨1, 0, q3, ps.length, c3, q4, N, c4, 0, 0⟩ := ⟨fr3, fun a ha => Nat.le_trans hB3.size (fr4 a ha)⟩
        exact .inl ⟨_, by rw [hRR.out, ho]; rfl, rfl, is_fresh hI5 hg6 hF5 (by rw [hz1.out]; omega), hF5.mono hB1.size⟩
      · go_wp2_with (first
          | ((fail_if_success (have _ := hB4)); (with_reducible refine (hD hB13).mono ?_); rintro e w4 ⟨q4, c4, rfl, r4, hB4, fr4⟩; have hX4 := hX3.below hB4; have hB14 := bnext hB13 hB4)
          | ((fail_if_success (have _ := hB5)); (have _ := hB4); (with_reducible refine (event_commit _ _ _ _ _ _ _).mono ?_); rintro e w5 ⟨rfl, hB5⟩; have hX5 := hX4.below hB5; have hB15 := bnext hB14 hB5)
          | ((fail_if_success (have _ := hX6)); (have _ := hX5); (refine at_store_ev _ _ _ _ _ (by rfl) (by rfl) (by rfl) hX5 rfl (by rfl) ?_); intro V6 hX6 hg6 hz6))
        refine ret_ev2 (by rfl) rfl _ _ rfl hX6 ⟨_, _, rfl, ?_, hB15.grown hg6 hB15.size (by simp)⟩
        exact .inr ⟨by rw [hRR.out, ho]; rfl, rfl⟩
    · have hgt : (n : Int) < (N : Int) := by omega
      obtain rfl : R = none := by rw [HR.out]; unfold comO; rw [hN, hF, if_neg (by rintro ⟨-, h⟩; omega)]
      clear HR hs0 hN hF
      go_enter Try.func40, Try.ntmps40
      go_wp2_with (first
        | ((fail_if_success (have _ := hX1)); (refine at_alloc_ev (by rfl) (by rfl) ?_); intro V1 hX1 hB1 hz1)
        | ((with_reducible refine (hint _).mono ?_); rintro e w5 ⟨rfl, hw⟩; rw [hw]; clear hw)
        | ((fail_if_success (have _ := hX2)); (refine at_build_zero (by rfl) (by rfl) ?_))
        | ((fail_if_success (have _ := hX2)); (have _ := hX1); (refine at_store_ev _ _ _ _ _ (by rfl) (by rfl) (by rfl) hX1 rfl (by rfl) ?_); intro V2 hX2 hg2 hz2))
      refine ret_ev2 (by rfl) rfl _ _ rfl hX2 ⟨_, _, rfl, .inr ⟨rfl, rfl⟩, ?_⟩
      exact hB1.grown hg2 hB1.size (by simp)
set_option maxHeartbeats 2000000 in
theorem event_of (kind first : Int) (hf : Word first) (p : Option Addr) (n c : Nat) (l : List Int) (hl : l.length = n) (hn : n ≤ 1000) (hw : ∀ x ∈ l, Word x) (w : World) (r : Reads .u64 w p c l) :
    Calls Try.prog 22 #[.int .u64 kind, .int .u64 first, .slice p n c] w fun x w' => ∃ h b, x = .returned (.tuple #[ev h, .bool b]) ∧ Told w.heap.size w' h b (ofO kind first l) ∧ Below w.heap.size w w' := by
  by_cases q1 : kind = 1
  · subst q1
    have hR : ofO 1 first l = comO first l := by unfold ofO; rw [if_pos rfl]
    rw [hR]
    have hC := fun {W : World} (hb : Below w.heap.size w W) => event_commitOf first hf p n c l hl hn hw W (r.below hb)
    clear hR
    go_enter Try.func22, Try.ntmps22
    go_wp2_with (first
      | ((fail_if_success (have _ := hX1)); (refine at_alloc_ev (by rfl) (by rfl) ?_); intro V1 hX1 hB1 hz1)
      | ((fail_if_success (have _ := hB3)); (have _ := hX1); (with_reducible refine (hC hB1).mono ?_); rintro e w3 ⟨h3, b3, rfl, ht3, hB3⟩; have hX3 := hX1.below hB3; have hB13 := bnext hB1 hB3)
      | ((fail_if_success (have _ := hX6)); (have _ := hX3); (refine at_store_ev _ _ _ _ _ (by rfl) (by rfl) (by rfl) hX3 rfl (by rfl) ?_); intro V6 hX6 hg6 hz6))
    refine ret_ev2 (by rfl) rfl _ _ rfl hX6 ⟨_, _, rfl, (ht3.kept hg6 (by rw [hz1.out]; omega)).mono hB1.size, hB13.grown hg6 hB13.size (by simp)⟩
  · have b1 : (kind == 1) = false := by simpa using q1
    by_cases q2 : kind = 2
    · subst q2
      by_cases h1 : n = 1
      · subst h1
        obtain ⟨x, rfl⟩ := List.length_eq_one_iff.1 hl
        have hR : ofO 2 first [x] = some (leaseE (sint first) x) := by unfold ofO; rw [if_neg (by decide), if_pos rfl]; rfl
        rw [hR]
        obtain ⟨b, o, rfl, hbl, hc0⟩ := cell_at (i := 0) (x := x) r rfl
        have hcell := fun {W : World} (hb : Below w.heap.size w W) => (hb.cell (p := ⟨b, o + 0, none⟩) hbl).trans hc0
        simp only [Nat.add_zero] at hcell
        have hs := fun W => event_subOf first hf W
        obtain ⟨s, hse⟩ : ∃ s, s = sint first := ⟨_, rfl⟩
        rw [← hse] at hs ⊢
        clear hR hse hw hn r hl hc0
        go_enter Try.func22, Try.ntmps22
        go_wp2_with (first
          | ((fail_if_success (have _ := hX1)); (refine at_alloc_ev (by rfl) (by rfl) ?_); intro V1 hX1 hB1 hz1))
        refine Inv.region_inv (fun L a w' => a = { tmps := #[(Value.int IntKind.u64 2), (Value.int IntKind.u64 first), (Value.slice (some { block := b, off := o }) 1 c), undef, undef, undef, (Value.pointer (some { block := w.heap.size, off := 0 })), (if L 7 = true then (.bool true) else (Value.bool false)), (Value.int IntKind.u64 2), (Value.bool false), (Value.bool false), undef, undef, undef, undef, undef, (Value.bool true), (Value.bool true), (Value.slice (some { block := b, off := o }) 1 c), (Value.int IntKind.i64 1), (Value.bool true), (if L 0 = true then (.int .u64 first) else undef), (if L 1 = true then (.int .i64 s) else undef), (if L 2 = true then (.slice (some ⟨b, o, none⟩) 1 c) else undef), (if L 3 = true then (.pointer (some ⟨b, o, none⟩)) else undef), (if L 4 = true then (.int .u64 x) else undef), (if L 5 = true then (ev ⟨2, s, none, 0, 0, none, 0, 0, x, 0⟩) else undef), undef, undef, undef, undef, undef, undef, undef, undef], defers := [] } ∧ (Blk w' w.heap.size 30 (el (if L 6 = true then ⟨2, s, none, 0, 0, none, 0, 0, x, 0⟩ else zeroH)) ∧ Below w.heap.size w w')) (by kernel_rfl) (by kernel_rfl) ?h0 ?step ?done
        case h0 => exact ⟨by simp, by simpa using hX1.drew, hB1.drew⟩
        case step =>
          refine Inv.Steps.cons rfl ?_ ?_
          · intro L a w' hI hL hd K hK
            obtain ⟨rfl, hI⟩ := hI
            clear hd
            rw [if_pos (by rfl)]
            go_simp
            exact hK.out _ _ ⟨by simp, by simpa using hI⟩
          refine Inv.Steps.cons rfl ?_ ?_
          · intro L a w' hI hL hd K hK
            obtain ⟨rfl, hI⟩ := hI
            simp [Region.binds] at hd
            simp only [hd, if_true]
            rw [if_pos (by rfl)]
            go_simp
            refine (hs _).mono ?_
            rintro e w6 ⟨rfl, hw⟩
            rw [hw]
            exact hK.out _ _ ⟨by simp [hd], by simpa using hI⟩
          refine Inv.Steps.cons rfl ?_ ?_
          · intro L a w' hI hL hd K hK
            obtain ⟨rfl, hI⟩ := hI
            clear hd
            rw [if_pos (by rfl)]
            go_simp
            exact hK.out _ _ ⟨by simp, by simpa using hI⟩
          refine Inv.Steps.cons rfl ?_ ?_
          · intro L a w' hI hL hd K hK
            obtain ⟨rfl, hI⟩ := hI
            simp [Region.binds] at hd
            simp only [hd, if_true]
            rw [if_pos (by rfl)]
            go_simp
            exact hK.out _ _ ⟨by simp [hd], by simpa using hI⟩
          refine Inv.Steps.cons rfl ?_ ?_
          · intro L a w' hI hL hd K hK
            obtain ⟨rfl, hI⟩ := hI
            simp [Region.binds] at hd
            simp only [hd, if_true]
            rw [if_pos (by rfl)]
            have hc := hcell hI.2
            go_simp
            exact hK.out _ _ ⟨by simp [hd], by simpa using hI⟩
          refine Inv.Steps.cons rfl ?_ ?_
          · intro L a w' hI hL hd K hK
            obtain ⟨rfl, hI⟩ := hI
            simp [Region.binds] at hd
            simp only [hd, if_true]
            rw [if_pos (by rfl)]
            go_simp
            refine (event_lease _ _ _).mono ?_
            rintro e w6 ⟨rfl, hB6⟩
            exact hK.out _ _ ⟨by simp [hd], by simpa using hI.1.below hB6, bnext hI.2 hB6⟩
          refine Inv.Steps.cons rfl ?_ ?_
          · intro L a w' hI hL hd K hK
            obtain ⟨rfl, hI⟩ := hI
            simp [Region.binds] at hd
            simp only [hd, if_true]
            rw [if_pos (by rfl)]
            have hI1 : Blk w' w.heap.size 30 (el zeroH) := by simpa [hL] using hI.1
            refine wp_store_ev _ _ _ _ _ (by rfl) (by rfl) (by rfl) hI1 rfl ?_
            intro w6 hX6 hg6 hz6
            exact hK.out _ _ ⟨by simp [hd, Act.put], by simpa using hX6, hI.2.grown hg6 hI.2.size (by simp)⟩
          refine Inv.Steps.cons rfl ?_ ?_
          · intro L a w' hI hL hd K hK
            obtain ⟨rfl, hI⟩ := hI
            simp [Region.binds] at hd
            simp only [hd, if_true]
            rw [if_pos (by rfl)]
            go_simp
            exact hK.out _ _ ⟨by simp [hd], by simpa using hI⟩
          exact Inv.Steps.nil (by decide)
        case done =>
          intro L a w' hI hall
          obtain ⟨rfl, hI⟩ := hI
          simp only [hall, if_true] at hI ⊢
          go_wp2
          refine ret_ev2 (by rfl) rfl _ _ rfl hI.1 ⟨_, _, rfl, .inl ⟨_, rfl, rfl, ⟨⟨rfl, rfl, rfl, rfl⟩, ⟨rfl, RK.nil _ _⟩, rfl, Reads.nil _ _⟩, by simp [Fresh]⟩, hI.2⟩
      · have hne : ((n : Int) == 1) = false := by simp; omega
        have hR : ofO 2 first l = none := by unfold ofO; rw [if_neg (by decide), if_pos rfl, if_neg (by omega)]
        rw [hR]
        clear hR
        go_enter Try.func22, Try.ntmps22
        go_wp2_with (first
          | ((fail_if_success (have _ := hX1)); (refine at_alloc_ev (by rfl) (by rfl) ?_); intro V1 hX1 hB1 hz1)
          | ((fail_if_success (have _ := hX2)); (refine at_build_zero (by rfl) (by rfl) ?_))
          | ((fail_if_success (have _ := hX2)); (have _ := hX1); (refine at_store_ev _ _ _ _ _ (by rfl) (by rfl) (by rfl) hX1 rfl (by rfl) ?_); intro V2 hX2 hg2 hz2))
        refine ret_ev2 (by rfl) rfl _ _ rfl hX2 ⟨_, _, rfl, .inr ⟨rfl, rfl⟩, hB1.grown hg2 hB1.size (by simp)⟩
    · have b2 : (kind == 2) = false := by simpa using q2
      by_cases q3 : kind = 3
      · subst q3
        have hP := fun W => event_period first W
        go_enter Try.func22, Try.ntmps22
        go_wp2_with (first
          | ((fail_if_success (have _ := hX1)); (refine at_alloc_ev (by rfl) (by rfl) ?_); intro V1 hX1 hB1 hz1)
          | ((fail_if_success (have _ := hB3)); (have _ := hX1); (with_reducible refine (hP _).mono ?_); rintro e w3 ⟨rfl, hB3⟩; have hX3 := hX1.below hB3; have hB13 := bnext hB1 hB3)
          | ((fail_if_success (have _ := hX6)); (have _ := hX3); (refine at_store_ev _ _ _ _ _ (by rfl) (by rfl) (by rfl) hX3 rfl (by rfl) ?_); intro V6 hX6 hg6 hz6))
        refine ret_ev2 (by rfl) rfl _ _ rfl hX6 ⟨_, _, rfl, ?_, hB13.grown hg6 hB13.size (by simp)⟩
        by_cases h0 : n = 0
        · have hR : ofO 3 first l = some (periodE first) := by unfold ofO; rw [if_neg (by decide), if_neg (by decide), if_pos rfl, if_pos (by omega)]
          rw [hR]
          exact .inl ⟨_, rfl, by simp [h0], ⟨⟨rfl, rfl, rfl, rfl⟩, ⟨rfl, RK.nil _ _⟩, rfl, Reads.nil _ _⟩, by simp [Fresh]⟩
        · have hR : ofO 3 first l = none := by unfold ofO; rw [if_neg (by decide), if_neg (by decide), if_pos rfl, if_neg (by omega)]
          rw [hR]
          exact .inr ⟨rfl, by simp; omega⟩
      · have b3 : (kind == 3) = false := by simpa using q3
        have hR : ofO kind first l = none := by unfold ofO; rw [if_neg q1, if_neg q2, if_neg q3]
        rw [hR]
        clear hR
        go_enter Try.func22, Try.ntmps22
        go_wp2_with (first
          | ((fail_if_success (have _ := hX1)); (refine at_alloc_ev (by rfl) (by rfl) ?_); intro V1 hX1 hB1 hz1)
          | ((fail_if_success (have _ := hX2)); (refine at_build_zero (by rfl) (by rfl) ?_))
          | ((fail_if_success (have _ := hX2)); (have _ := hX1); (refine at_store_ev _ _ _ _ _ (by rfl) (by rfl) (by rfl) hX1 rfl (by rfl) ?_); intro V2 hX2 hg2 hz2))
        refine ret_ev2 (by rfl) rfl _ _ rfl hX2 ⟨_, _, rfl, .inr ⟨rfl, rfl⟩, hB1.grown hg2 hB1.size (by simp)⟩
end Go.Proofs.Ytfgndecnakfhnaa.Event
