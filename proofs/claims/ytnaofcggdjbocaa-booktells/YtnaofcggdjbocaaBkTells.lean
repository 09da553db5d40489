/-
  The walk of BookTells. (Written by gen_bktells.py.)
-/
import Derived.Test.YtnaofcggdjbocaaBkAlive
import Derived.Test.YtnaofcggdjbocaaBkSame
import Derived.Test.YtnaofcggdjbocaaBkRefSame
import Derived.Test.YtnaofcggdjbocaaBkRefBytes
namespace Go.Proofs.Ytnaofcggdjbocaa.Book
open Go.RowKit Go.Proofs.Ytnaofcggdjbocaa.Mem Go.Proofs.Ytnaofcggdjbocaa.Policy Go.Proofs.Ytnaofcggdjbocaa.Event Go.Proofs.Ytnaofcggdjbocaa.Addr
set_option maxRecDepth 100000

theorem zeron_ok : EnOk zeroN := ⟨by unfold PoOk zeroN zeroP Inty; simp only; omega, ⟨by decide, by decide⟩⟩
theorem find_ok {es : List En} (h : ∀ e ∈ es, EnOk e) (s : Int) : EnOk (findE es s) := by
  unfold findE
  cases hl : look es s with
  | none => exact zeron_ok
  | some e => exact h e (look_mem hl).1
set_option maxHeartbeats 4000000 in
theorem tells_any (h1 h2 : Bh) (a b : Bk) (s : Int) (w : World) (i1 : IsB w h1 a) (i2 : IsB w h2 b) (oa : BkOk a) (ob : BkOk b) :
    Calls Try.prog 4 #[bv h1, bv h2, .int .i64 s] w fun e w' => e = .returned (.bool true) ∧ Below w.heap.size w w' := by
  have ha := fun W => alive_any W
  have hg1 := fun W => great_bk h1 W
  have hg2 := fun W => great_bk h2 W
  cases hG1 : greatN h1.n 0 0 with
  | true =>
    rw [hG1] at hg1
    go_enter Try.func4, Try.ntmps4
    go_wp2_with (first
      | ((fail_if_success (have _ := hB1)); (refine at_box_bk _ _ (by rfl) (by rfl) (by rfl) ?_); intro V1 hXa1 hB1 hz1; have hC1 := hB1)
      | ((fail_if_success (have _ := hB2)); (have _ := hB1); (refine at_box_bk _ _ (by rfl) (by rfl) (by rfl) ?_); intro V2 hXb2 hB2 hz2; have hXa2 := hXa1.below hB2; have hC2 := bnext hC1 hB2)
      | ((fail_if_success (have _ := hB3)); (have _ := hB2); (refine at_load_bk _ _ _ (by rfl) (by rfl) hXa2 (by rfl) ?_))
      | ((fail_if_success (have _ := hB3)); (have _ := hB2); (refine at_load_bk _ _ _ (by rfl) (by rfl) hXb2 (by rfl) ?_))
      | ((fail_if_success (have _ := hB3)); (have _ := hB2); (with_reducible refine (ha _).mono ?_); rintro e w3 ⟨rfl, hB3⟩; have hXa3 := hXa2.below hB3; have hXb3 := hXb2.below hB3; have hC3 := bnext hC2 hB3)
      | ((fail_if_success (have _ := hB4)); (have _ := hB3); (refine at_build_zero (by rfl) (by rfl) ?_))
      | ((fail_if_success (have _ := hB4)); (have _ := hB3); (refine at_load_bk _ _ _ (by rfl) (by rfl) hXa3 (by rfl) ?_))
      | ((fail_if_success (have _ := hB4)); (have _ := hB3); (refine at_load_bk _ _ _ (by rfl) (by rfl) hXb3 (by rfl) ?_))
      | ((fail_if_success (have _ := hB4)); (have _ := hB3); (with_reducible refine (hg1 _).mono ?_); rintro e w4 ⟨rfl, hB4⟩; have hXa4 := hXa3.below hB4; have hXb4 := hXb3.below hB4; have hC4 := bnext hC3 hB4)
      | ((fail_if_success (have _ := hB5)); (have _ := hB4); (refine at_load_bk _ _ _ (by rfl) (by rfl) hXa4 (by rfl) ?_))
      | ((fail_if_success (have _ := hB5)); (have _ := hB4); (refine at_load_bk _ _ _ (by rfl) (by rfl) hXb4 (by rfl) ?_)))
    go_ret
    exact ⟨rfl, hC4⟩
  | false =>
    rw [hG1] at hg1
    cases hG2 : greatN h2.n 0 0 with
    | true =>
      rw [hG2] at hg2
      go_enter Try.func4, Try.ntmps4
      go_wp2_with (first
        | ((fail_if_success (have _ := hB1)); (refine at_box_bk _ _ (by rfl) (by rfl) (by rfl) ?_); intro V1 hXa1 hB1 hz1; have hC1 := hB1)
        | ((fail_if_success (have _ := hB2)); (have _ := hB1); (refine at_box_bk _ _ (by rfl) (by rfl) (by rfl) ?_); intro V2 hXb2 hB2 hz2; have hXa2 := hXa1.below hB2; have hC2 := bnext hC1 hB2)
        | ((fail_if_success (have _ := hB3)); (have _ := hB2); (refine at_load_bk _ _ _ (by rfl) (by rfl) hXa2 (by rfl) ?_))
        | ((fail_if_success (have _ := hB3)); (have _ := hB2); (refine at_load_bk _ _ _ (by rfl) (by rfl) hXb2 (by rfl) ?_))
        | ((fail_if_success (have _ := hB3)); (have _ := hB2); (with_reducible refine (ha _).mono ?_); rintro e w3 ⟨rfl, hB3⟩; have hXa3 := hXa2.below hB3; have hXb3 := hXb2.below hB3; have hC3 := bnext hC2 hB3)
        | ((fail_if_success (have _ := hB4)); (have _ := hB3); (refine at_build_zero (by rfl) (by rfl) ?_))
        | ((fail_if_success (have _ := hB4)); (have _ := hB3); (refine at_load_bk _ _ _ (by rfl) (by rfl) hXa3 (by rfl) ?_))
        | ((fail_if_success (have _ := hB4)); (have _ := hB3); (refine at_load_bk _ _ _ (by rfl) (by rfl) hXb3 (by rfl) ?_))
        | ((fail_if_success (have _ := hB4)); (have _ := hB3); (with_reducible refine (hg1 _).mono ?_); rintro e w4 ⟨rfl, hB4⟩; have hXa4 := hXa3.below hB4; have hXb4 := hXb3.below hB4; have hC4 := bnext hC3 hB4)
        | ((fail_if_success (have _ := hB5)); (have _ := hB4); (refine at_build_zero (by rfl) (by rfl) ?_))
        | ((fail_if_success (have _ := hB5)); (have _ := hB4); (refine at_load_bk _ _ _ (by rfl) (by rfl) hXa4 (by rfl) ?_))
        | ((fail_if_success (have _ := hB5)); (have _ := hB4); (refine at_load_bk _ _ _ (by rfl) (by rfl) hXb4 (by rfl) ?_))
        | ((fail_if_success (have _ := hB5)); (have _ := hB4); (with_reducible refine (hg2 _).mono ?_); rintro e w5 ⟨rfl, hB5⟩; have hXa5 := hXa4.below hB5; have hXb5 := hXb4.below hB5; have hC5 := bnext hC4 hB5)
        | ((fail_if_success (have _ := hB6)); (have _ := hB5); (refine at_load_bk _ _ _ (by rfl) (by rfl) hXa5 (by rfl) ?_))
        | ((fail_if_success (have _ := hB6)); (have _ := hB5); (refine at_load_bk _ _ _ (by rfl) (by rfl) hXb5 (by rfl) ?_)))
      go_ret
      exact ⟨rfl, hC5⟩
    | false =>
      rw [hG2] at hg2
      have n1 := (great_no hG1).1
      have n2 := (great_no hG2).1
      have hR1 := fun {W : World} (hb : Below w.heap.size w W) => book_Right h1 a W (i1.below hb) oa.2 (by omega)
      have hR2 := fun {W : World} (hb : Below w.heap.size w W) => ref_RightB h1 a W (i1.below hb) oa.2 (by omega)
      have hBy1 := fun {W : World} (hb : Below w.heap.size w W) => book_Bytes h1 a W (i1.below hb) oa (by omega)
      have hBy2 := fun {W : World} (hb : Below w.heap.size w W) => ref_BytesB h1 a W (i1.below hb) oa (by omega)
      have hS1 := fun {W : World} (hb : Below w.heap.size w W) => book_Same h1 h2 a b W (i1.below hb) (i2.below hb) oa.2 ob.2 (by omega)
      have hS2 := fun {W : World} (hb : Below w.heap.size w W) => ref_SameB h1 h2 a b W (i1.below hb) (i2.below hb) oa.2 ob.2 (by omega)
      have hF1 := fun {W : World} (hb : Below w.heap.size w W) => book_Find h1 a s W (i1.below hb) (by omega)
      have hF2 := fun {W : World} (hb : Below w.heap.size w W) => ref_FindB h1 a s W (i1.below hb) (by omega)
      have hfo := find_ok oa.2 s
      obtain ⟨R, hR⟩ : ∃ R, rightB a = R := ⟨_, rfl⟩
      obtain ⟨S, hS⟩ : ∃ S, sameB a b = S := ⟨_, rfl⟩
      obtain ⟨xs, hx⟩ : ∃ xs, bytesB a = xs := ⟨_, rfl⟩
      obtain ⟨E, hE⟩ : ∃ E, errB a = E := ⟨_, rfl⟩
      obtain ⟨f, hf⟩ : ∃ f, findE a.es s = f := ⟨_, rfl⟩
      obtain ⟨B, hB⟩ : ∃ B, foundB a.es s = B := ⟨_, rfl⟩
      rw [hR] at hR1 hR2
      rw [hS] at hS1 hS2
      rw [hx, hE] at hBy1 hBy2
      rw [hf, hB] at hF1 hF2
      rw [hf] at hfo
      obtain ⟨nx, hnx⟩ : ∃ n, xs.length = n := ⟨_, rfl⟩
      simp only [hnx] at hBy1 hBy2
      have HNX : Hid (xs.length = nx) := hnx
      have t1 : (R == R) = true := by simp
      have t2 : (S == S) = true := by simp
      have t3 : (E == E) = true := by simp
      have t4 : ((str xs).toList == (str xs).toList) = true := by simp
      have t5 : eqE f f = true := eqE_iff.2 rfl
      have t6 : (B == B) = true := by simp
      clear hG1 hG2 n1 n2 hR hS hx hE hf hB hnx i1 i2 oa ob
      go_enter Try.func4, Try.ntmps4
      go_wp2_with (first
        | ((fail_if_success (have _ := hB1)); (refine at_box_bk _ _ (by rfl) (by rfl) (by rfl) ?_); intro V1 hXa1 hB1 hz1; have hC1 := hB1)
        | ((fail_if_success (have _ := hB2)); (have _ := hB1); (refine at_box_bk _ _ (by rfl) (by rfl) (by rfl) ?_); intro V2 hXb2 hB2 hz2; have hXa2 := hXa1.below hB2; have hC2 := bnext hC1 hB2)
        | ((fail_if_success (have _ := hB3)); (have _ := hB2); (refine at_load_bk _ _ _ (by rfl) (by rfl) hXa2 (by rfl) ?_))
        | ((fail_if_success (have _ := hB3)); (have _ := hB2); (refine at_load_bk _ _ _ (by rfl) (by rfl) hXb2 (by rfl) ?_))
        | ((fail_if_success (have _ := hB3)); (have _ := hB2); (with_reducible refine (ha _).mono ?_); rintro e w3 ⟨rfl, hB3⟩; have hXa3 := hXa2.below hB3; have hXb3 := hXb2.below hB3; have hC3 := bnext hC2 hB3)
        | ((fail_if_success (have _ := hB4)); (have _ := hB3); (refine at_build_zero (by rfl) (by rfl) ?_))
        | ((fail_if_success (have _ := hB4)); (have _ := hB3); (refine at_load_bk _ _ _ (by rfl) (by rfl) hXa3 (by rfl) ?_))
        | ((fail_if_success (have _ := hB4)); (have _ := hB3); (refine at_load_bk _ _ _ (by rfl) (by rfl) hXb3 (by rfl) ?_))
        | ((fail_if_success (have _ := hB4)); (have _ := hB3); (with_reducible refine (hg1 _).mono ?_); rintro e w4 ⟨rfl, hB4⟩; have hXa4 := hXa3.below hB4; have hXb4 := hXb3.below hB4; have hC4 := bnext hC3 hB4)
        | ((fail_if_success (have _ := hB5)); (have _ := hB4); (refine at_build_zero (by rfl) (by rfl) ?_))
        | ((fail_if_success (have _ := hB5)); (have _ := hB4); (refine at_load_bk _ _ _ (by rfl) (by rfl) hXa4 (by rfl) ?_))
        | ((fail_if_success (have _ := hB5)); (have _ := hB4); (refine at_load_bk _ _ _ (by rfl) (by rfl) hXb4 (by rfl) ?_))
        | ((fail_if_success (have _ := hB5)); (have _ := hB4); (with_reducible refine (hg2 _).mono ?_); rintro e w5 ⟨rfl, hB5⟩; have hXa5 := hXa4.below hB5; have hXb5 := hXb4.below hB5; have hC5 := bnext hC4 hB5)
        | ((fail_if_success (have _ := hB6)); (have _ := hB5); (refine at_load_bk _ _ _ (by rfl) (by rfl) hXa5 (by rfl) ?_))
        | ((fail_if_success (have _ := hB6)); (have _ := hB5); (refine at_load_bk _ _ _ (by rfl) (by rfl) hXb5 (by rfl) ?_))
        | ((fail_if_success (have _ := hB6)); (have _ := hB5); (with_reducible refine (hBy1 hC5).mono ?_); rintro e w6 ⟨q6, c6, rfl, r6, hB6⟩; have hXa6 := hXa5.below hB6; have hXb6 := hXb5.below hB6; have hC6 := bnext hC5 hB6; have hFx6 := r6)
        | ((fail_if_success (have _ := hB7)); (have _ := hB6); (refine at_load_bk _ _ _ (by rfl) (by rfl) hXa6 (by rfl) ?_))
        | ((fail_if_success (have _ := hB7)); (have _ := hB6); (refine at_load_bk _ _ _ (by rfl) (by rfl) hXb6 (by rfl) ?_))
        | ((fail_if_success (have _ := hB7)); (have _ := hB6); (with_reducible refine (hBy2 hC6).mono ?_); rintro e w7 ⟨q7, c7, rfl, r7, hB7⟩; have hXa7 := hXa6.below hB7; have hXb7 := hXb6.below hB7; have hFx7 := hFx6.below hB7; have hC7 := bnext hC6 hB7; have hFy7 := r7)
        | ((fail_if_success (have _ := hB8)); (have _ := hB7); (refine at_load_bk _ _ _ (by rfl) (by rfl) hXa7 (by rfl) ?_))
        | ((fail_if_success (have _ := hB8)); (have _ := hB7); (refine at_load_bk _ _ _ (by rfl) (by rfl) hXb7 (by rfl) ?_))
        | ((fail_if_success (have _ := hB8)); (have _ := hB7); (with_reducible refine (hF1 hC7).mono ?_); rintro e w8 ⟨rfl, hB8⟩; have hXa8 := hXa7.below hB8; have hXb8 := hXb7.below hB8; have hFx8 := hFx7.below hB8; have hFy8 := hFy7.below hB8; have hC8 := bnext hC7 hB8)
        | ((fail_if_success (have _ := hB9)); (have _ := hB8); (refine at_alloc_en (by rfl) (by rfl) ?_); intro V9 hXp9 hB9 hz9)
        | ((fail_if_success (have _ := hB10)); (have _ := hB9); (refine at_store_en _ _ _ _ _ (by rfl) (by rfl) (by rfl) hXp9 rfl (by rfl) ?_); intro V10 hXp10 hg10 hz10; have hB10 := hB9.grown hg10 hB9.size (by simp); have hXa10 := hXa8.below hB10; have hXb10 := hXb8.below hB10; have hFx10 := hFx8.below hB10; have hFy10 := hFy8.below hB10; have hC10 := bnext hC8 hB10)
        | ((fail_if_success (have _ := hB11)); (have _ := hB10); (refine at_load_bk _ _ _ (by rfl) (by rfl) hXa10 (by rfl) ?_))
        | ((fail_if_success (have _ := hB11)); (have _ := hB10); (refine at_load_bk _ _ _ (by rfl) (by rfl) hXb10 (by rfl) ?_))
        | ((fail_if_success (have _ := hB11)); (have _ := hB10); (refine at_load_en _ _ _ (by rfl) (by rfl) hXp10 (by rfl) ?_))
        | ((fail_if_success (have _ := hB11)); (have _ := hB10); (with_reducible refine (hF2 hC10).mono ?_); rintro e w11 ⟨rfl, hB11⟩; have hXa11 := hXa10.below hB11; have hXb11 := hXb10.below hB11; have hXp11 := hXp10.below hB11; have hFx11 := hFx10.below hB11; have hFy11 := hFy10.below hB11; have hC11 := bnext hC10 hB11)
        | ((fail_if_success (have _ := hB12)); (have _ := hB11); (refine at_alloc_en (by rfl) (by rfl) ?_); intro V12 hXq12 hB12 hz12)
        | ((fail_if_success (have _ := hB13)); (have _ := hB12); (refine at_store_en _ _ _ _ _ (by rfl) (by rfl) (by rfl) hXq12 rfl (by rfl) ?_); intro V13 hXq13 hg13 hz13; have hB13 := hB12.grown hg13 hB12.size (by simp); have hXa13 := hXa11.below hB13; have hXb13 := hXb11.below hB13; have hXp13 := hXp11.below hB13; have hFx13 := hFx11.below hB13; have hFy13 := hFy11.below hB13; have hC13 := bnext hC11 hB13)
        | ((fail_if_success (have _ := hB14)); (have _ := hB13); (refine at_load_bk _ _ _ (by rfl) (by rfl) hXa13 (by rfl) ?_))
        | ((fail_if_success (have _ := hB14)); (have _ := hB13); (refine at_load_bk _ _ _ (by rfl) (by rfl) hXb13 (by rfl) ?_))
        | ((fail_if_success (have _ := hB14)); (have _ := hB13); (refine at_load_en _ _ _ (by rfl) (by rfl) hXp13 (by rfl) ?_))
        | ((fail_if_success (have _ := hB14)); (have _ := hB13); (refine at_load_en _ _ _ (by rfl) (by rfl) hXq13 (by rfl) ?_)))
      refine Inv.region_inv (fun L a w' => a = { tmps := #[(bv h1), (bv h2), (Value.int IntKind.i64 s), (Value.pointer (some { block := w.heap.size, off := 0 })), (Value.pointer (some { block := V1.heap.size, off := 0 })), undef, (if L 36 = true then (.bool true) else (Value.bool false)), (Value.slice q6 nx c6), (Value.int IntKind.i64 E), (Value.slice q7 nx c7), (Value.int IntKind.i64 E), (Value.pointer (some { block := w8.heap.size, off := 0 })), (Value.bool B), (Value.pointer (some { block := w11.heap.size, off := 0 })), (Value.bool B), (Value.bool true), (Value.bool false), (bv h1), (ev Event.zeroH), (Value.bool false), (Value.bool false), (bv h2), (ev Event.zeroH), (Value.bool false), (Value.bool false), (Value.tuple #[Value.slice q6 nx c6, Value.int IntKind.i64 E]), (bv h1), (Value.tuple #[Value.slice q6 nx c6, Value.int IntKind.i64 E]), (Value.slice q6 nx c6), (Value.int IntKind.i64 E), (Value.tuple #[Value.slice q7 nx c7, Value.int IntKind.i64 E]), (bv h1), (Value.tuple #[Value.slice q7 nx c7, Value.int IntKind.i64 E]), (Value.slice q7 nx c7), (Value.int IntKind.i64 E), (Value.tuple #[nv f, Value.bool B]), (bv h1), (Value.int IntKind.i64 s), (Value.tuple #[nv f, Value.bool B]), (nv f), (Value.bool B), (Value.tuple #[nv f, Value.bool B]), (bv h1), (Value.int IntKind.i64 s), (Value.tuple #[nv f, Value.bool B]), (nv f), (Value.bool B), (if L 0 = true then (bv h1) else undef), (if L 1 = true then (.bool R) else undef), (if L 2 = true then (bv h1) else undef), (if L 3 = true then (.bool R) else undef), (if L 4 = true then (.bool true) else undef), (if L 5 = true then (.bool true) else undef), (if L 6 = true then (bv h1) else undef), (if L 7 = true then (bv h2) else undef), (if L 8 = true then (.bool S) else undef), (if L 9 = true then (bv h1) else undef), (if L 10 = true then (bv h2) else undef), (if L 11 = true then (.bool S) else undef), (if L 12 = true then (.bool true) else undef), (if L 13 = true then (.bool true) else undef), (if L 14 = true then (.bool true) else undef), (if L 15 = true then (Value.slice q6 nx c6) else undef), (if L 16 = true then (.string (str xs)) else undef), (if L 17 = true then (Value.slice q7 nx c7) else undef), (if L 18 = true then (.string (str xs)) else undef), (if L 19 = true then (.bool true) else undef), (if L 20 = true then (.bool true) else undef), (if L 21 = true then (.bool true) else undef), (if L 22 = true then (.int .i64 E) else undef), (if L 23 = true then (.int .i64 E) else undef), (if L 24 = true then (.bool true) else undef), (if L 25 = true then (.bool true) else undef), (if L 26 = true then (.bool true) else undef), (if L 27 = true then (nv f) else undef), (if L 28 = true then (nv f) else undef), (if L 29 = true then (.bool true) else undef), (if L 30 = true then (.bool true) else undef), (if L 31 = true then (.bool true) else undef), (if L 32 = true then (.bool B) else undef), (if L 33 = true then (.bool B) else undef), (if L 34 = true then (.bool true) else undef), (if L 35 = true then (.bool true) else undef)], defers := [] } ∧ (Below V13.heap.size V13 w')) (by kernel_rfl) (by kernel_rfl) ?h0 ?step ?done
      case h0 => exact ⟨by simp, (Below.refl _ _).drew⟩
      case step =>
        refine Inv.Steps.cons rfl ?_ ?_
        · intro L a w' hI hL hd K hK
          obtain ⟨rfl, hI⟩ := hI
          clear hd
          rw [if_pos (by rfl)]
          refine wp_load_bk _ _ _ (by rfl) (by rfl) (hXa13.below hI) ?_
          exact hK.out _ _ ⟨by simp [Act.put], hI⟩
        refine Inv.Steps.cons rfl ?_ ?_
        · intro L a w' hI hL hd K hK
          obtain ⟨rfl, hI⟩ := hI
          simp [Region.binds] at hd
          simp only [hd, if_true]
          rw [if_pos (by rfl)]
          go_simp
          refine (hR1 (bnext hC13 hI)).mono ?_
          rintro e w29 ⟨rfl, hB29⟩
          exact hK.out _ _ ⟨by simp [hd], bnext hI hB29⟩
        refine Inv.Steps.cons rfl ?_ ?_
        · intro L a w' hI hL hd K hK
          obtain ⟨rfl, hI⟩ := hI
          clear hd
          rw [if_pos (by rfl)]
          refine wp_load_bk _ _ _ (by rfl) (by rfl) (hXa13.below hI) ?_
          exact hK.out _ _ ⟨by simp [Act.put], hI⟩
        refine Inv.Steps.cons rfl ?_ ?_
        · intro L a w' hI hL hd K hK
          obtain ⟨rfl, hI⟩ := hI
          simp [Region.binds] at hd
          simp only [hd, if_true]
          rw [if_pos (by rfl)]
          go_simp
          refine (hR2 (bnext hC13 hI)).mono ?_
          rintro e w29 ⟨rfl, hB29⟩
          exact hK.out _ _ ⟨by simp [hd], bnext hI hB29⟩
        refine Inv.Steps.cons rfl ?_ ?_
        · intro L a w' hI hL hd K hK
          obtain ⟨rfl, hI⟩ := hI
          simp [Region.binds] at hd
          simp only [hd, if_true]
          rw [if_pos (by rfl)]
          go_simp
          exact hK.out _ _ ⟨by simp [hd], hI⟩
        refine Inv.Steps.cons rfl ?_ ?_
        · intro L a w' hI hL hd K hK
          obtain ⟨rfl, hI⟩ := hI
          simp [Region.binds] at hd
          simp only [hd, if_true]
          rw [if_pos (by rfl)]
          go_simp
          exact hK.out _ _ ⟨by simp [hd], hI⟩
        refine Inv.Steps.cons rfl ?_ ?_
        · intro L a w' hI hL hd K hK
          obtain ⟨rfl, hI⟩ := hI
          simp [Region.binds] at hd
          simp only [hd, if_true]
          rw [if_pos (by rfl)]
          refine wp_load_bk _ _ _ (by rfl) (by rfl) (hXa13.below hI) ?_
          exact hK.out _ _ ⟨by simp [hd, Act.put], hI⟩
        refine Inv.Steps.cons rfl ?_ ?_
        · intro L a w' hI hL hd K hK
          obtain ⟨rfl, hI⟩ := hI
          simp [Region.binds] at hd
          simp only [hd, if_true]
          rw [if_pos (by rfl)]
          refine wp_load_bk _ _ _ (by rfl) (by rfl) (hXb13.below hI) ?_
          exact hK.out _ _ ⟨by simp [hd, Act.put], hI⟩
        refine Inv.Steps.cons rfl ?_ ?_
        · intro L a w' hI hL hd K hK
          obtain ⟨rfl, hI⟩ := hI
          simp [Region.binds] at hd
          simp only [hd, if_true]
          rw [if_pos (by rfl)]
          go_simp
          refine (hS1 (bnext hC13 hI)).mono ?_
          rintro e w29 ⟨rfl, hB29⟩
          exact hK.out _ _ ⟨by simp [hd], bnext hI hB29⟩
        refine Inv.Steps.cons rfl ?_ ?_
        · intro L a w' hI hL hd K hK
          obtain ⟨rfl, hI⟩ := hI
          simp [Region.binds] at hd
          simp only [hd, if_true]
          rw [if_pos (by rfl)]
          refine wp_load_bk _ _ _ (by rfl) (by rfl) (hXa13.below hI) ?_
          exact hK.out _ _ ⟨by simp [hd, Act.put], hI⟩
        refine Inv.Steps.cons rfl ?_ ?_
        · intro L a w' hI hL hd K hK
          obtain ⟨rfl, hI⟩ := hI
          simp [Region.binds] at hd
          simp only [hd, if_true]
          rw [if_pos (by rfl)]
          refine wp_load_bk _ _ _ (by rfl) (by rfl) (hXb13.below hI) ?_
          exact hK.out _ _ ⟨by simp [hd, Act.put], hI⟩
        refine Inv.Steps.cons rfl ?_ ?_
        · intro L a w' hI hL hd K hK
          obtain ⟨rfl, hI⟩ := hI
          simp [Region.binds] at hd
          simp only [hd, if_true]
          rw [if_pos (by rfl)]
          go_simp
          refine (hS2 (bnext hC13 hI)).mono ?_
          rintro e w29 ⟨rfl, hB29⟩
          exact hK.out _ _ ⟨by simp [hd], bnext hI hB29⟩
        refine Inv.Steps.cons rfl ?_ ?_
        · intro L a w' hI hL hd K hK
          obtain ⟨rfl, hI⟩ := hI
          simp [Region.binds] at hd
          simp only [hd, if_true]
          rw [if_pos (by rfl)]
          go_simp
          exact hK.out _ _ ⟨by simp [hd], hI⟩
        refine Inv.Steps.cons rfl ?_ ?_
        · intro L a w' hI hL hd K hK
          obtain ⟨rfl, hI⟩ := hI
          simp [Region.binds] at hd
          simp only [hd, if_true]
          rw [if_pos (by rfl)]
          go_simp
          exact hK.out _ _ ⟨by simp [hd], hI⟩
        refine Inv.Steps.cons rfl ?_ ?_
        · intro L a w' hI hL hd K hK
          obtain ⟨rfl, hI⟩ := hI
          simp [Region.binds] at hd
          simp only [hd, if_true]
          rw [if_pos (by rfl)]
          go_simp
          exact hK.out _ _ ⟨by simp [hd], hI⟩
        refine Inv.Steps.cons rfl ?_ ?_
        · intro L a w' hI hL hd K hK
          obtain ⟨rfl, hI⟩ := hI
          simp [Region.binds] at hd
          simp only [hd, if_true]
          rw [if_pos (by rfl)]
          go_simp
          exact hK.out _ _ ⟨by simp [hd], hI⟩
        refine Inv.Steps.cons rfl ?_ ?_
        · intro L a w' hI hL hd K hK
          obtain ⟨rfl, hI⟩ := hI
          simp [Region.binds] at hd
          simp only [hd, if_true]
          rw [if_pos (by rfl)]
          have hcv := conv (hFx13.below hI) HNX.out
          go_simp
          exact hK.out _ _ ⟨by simp [hd], hI⟩
        refine Inv.Steps.cons rfl ?_ ?_
        · intro L a w' hI hL hd K hK
          obtain ⟨rfl, hI⟩ := hI
          simp [Region.binds] at hd
          simp only [hd, if_true]
          rw [if_pos (by rfl)]
          go_simp
          exact hK.out _ _ ⟨by simp [hd], hI⟩
        refine Inv.Steps.cons rfl ?_ ?_
        · intro L a w' hI hL hd K hK
          obtain ⟨rfl, hI⟩ := hI
          simp [Region.binds] at hd
          simp only [hd, if_true]
          rw [if_pos (by rfl)]
          have hcv := conv (hFy13.below hI) HNX.out
          go_simp
          exact hK.out _ _ ⟨by simp [hd], hI⟩
        refine Inv.Steps.cons rfl ?_ ?_
        · intro L a w' hI hL hd K hK
          obtain ⟨rfl, hI⟩ := hI
          simp [Region.binds] at hd
          simp only [hd, if_true]
          rw [if_pos (by rfl)]
          go_simp
          exact hK.out _ _ ⟨by simp [hd], hI⟩
        refine Inv.Steps.cons rfl ?_ ?_
        · intro L a w' hI hL hd K hK
          obtain ⟨rfl, hI⟩ := hI
          simp [Region.binds] at hd
          simp only [hd, if_true]
          rw [if_pos (by rfl)]
          go_simp
          exact hK.out _ _ ⟨by simp [hd], hI⟩
        refine Inv.Steps.cons rfl ?_ ?_
        · intro L a w' hI hL hd K hK
          obtain ⟨rfl, hI⟩ := hI
          simp [Region.binds] at hd
          simp only [hd, if_true]
          rw [if_pos (by rfl)]
          go_simp
          exact hK.out _ _ ⟨by simp [hd], hI⟩
        refine Inv.Steps.cons rfl ?_ ?_
        · intro L a w' hI hL hd K hK
          obtain ⟨rfl, hI⟩ := hI
          simp [Region.binds] at hd
          simp only [hd, if_true]
          rw [if_pos (by rfl)]
          go_simp
          exact hK.out _ _ ⟨by simp [hd], hI⟩
        refine Inv.Steps.cons rfl ?_ ?_
        · intro L a w' hI hL hd K hK
          obtain ⟨rfl, hI⟩ := hI
          simp [Region.binds] at hd
          simp only [hd, if_true]
          rw [if_pos (by rfl)]
          go_simp
          exact hK.out _ _ ⟨by simp [hd], hI⟩
        refine Inv.Steps.cons rfl ?_ ?_
        · intro L a w' hI hL hd K hK
          obtain ⟨rfl, hI⟩ := hI
          simp [Region.binds] at hd
          simp only [hd, if_true]
          rw [if_pos (by rfl)]
          go_simp
          exact hK.out _ _ ⟨by simp [hd], hI⟩
        refine Inv.Steps.cons rfl ?_ ?_
        · intro L a w' hI hL hd K hK
          obtain ⟨rfl, hI⟩ := hI
          simp [Region.binds] at hd
          simp only [hd, if_true]
          rw [if_pos (by rfl)]
          go_simp
          exact hK.out _ _ ⟨by simp [hd], hI⟩
        refine Inv.Steps.cons rfl ?_ ?_
        · intro L a w' hI hL hd K hK
          obtain ⟨rfl, hI⟩ := hI
          simp [Region.binds] at hd
          simp only [hd, if_true]
          rw [if_pos (by rfl)]
          go_simp
          exact hK.out _ _ ⟨by simp [hd], hI⟩
        refine Inv.Steps.cons rfl ?_ ?_
        · intro L a w' hI hL hd K hK
          obtain ⟨rfl, hI⟩ := hI
          simp [Region.binds] at hd
          simp only [hd, if_true]
          rw [if_pos (by rfl)]
          refine wp_load_en _ _ _ (by rfl) (by rfl) (hXp13.below hI) ?_
          exact hK.out _ _ ⟨by simp [hd, Act.put], hI⟩
        refine Inv.Steps.cons rfl ?_ ?_
        · intro L a w' hI hL hd K hK
          obtain ⟨rfl, hI⟩ := hI
          simp [Region.binds] at hd
          simp only [hd, if_true]
          rw [if_pos (by rfl)]
          refine wp_load_en _ _ _ (by rfl) (by rfl) (hXq13.below hI) ?_
          exact hK.out _ _ ⟨by simp [hd, Act.put], hI⟩
        refine Inv.Steps.cons rfl ?_ ?_
        · intro L a w' hI hL hd K hK
          obtain ⟨rfl, hI⟩ := hI
          simp [Region.binds] at hd
          simp only [hd, if_true]
          rw [if_pos (by rfl)]
          refine wp_eq_en hfo hfo _ _ (by rfl) (by rfl) (by rfl) ?_
          rw [t5]
          exact hK.out _ _ ⟨by simp [hd, Act.put], hI⟩
        refine Inv.Steps.cons rfl ?_ ?_
        · intro L a w' hI hL hd K hK
          obtain ⟨rfl, hI⟩ := hI
          simp [Region.binds] at hd
          simp only [hd, if_true]
          rw [if_pos (by rfl)]
          go_simp
          exact hK.out _ _ ⟨by simp [hd], hI⟩
        refine Inv.Steps.cons rfl ?_ ?_
        · intro L a w' hI hL hd K hK
          obtain ⟨rfl, hI⟩ := hI
          simp [Region.binds] at hd
          simp only [hd, if_true]
          rw [if_pos (by rfl)]
          go_simp
          exact hK.out _ _ ⟨by simp [hd], hI⟩
        refine Inv.Steps.cons rfl ?_ ?_
        · intro L a w' hI hL hd K hK
          obtain ⟨rfl, hI⟩ := hI
          simp [Region.binds] at hd
          simp only [hd, if_true]
          rw [if_pos (by rfl)]
          go_simp
          exact hK.out _ _ ⟨by simp [hd], hI⟩
        refine Inv.Steps.cons rfl ?_ ?_
        · intro L a w' hI hL hd K hK
          obtain ⟨rfl, hI⟩ := hI
          simp [Region.binds] at hd
          simp only [hd, if_true]
          rw [if_pos (by rfl)]
          go_simp
          exact hK.out _ _ ⟨by simp [hd], hI⟩
        refine Inv.Steps.cons rfl ?_ ?_
        · intro L a w' hI hL hd K hK
          obtain ⟨rfl, hI⟩ := hI
          simp [Region.binds] at hd
          simp only [hd, if_true]
          rw [if_pos (by rfl)]
          go_simp
          exact hK.out _ _ ⟨by simp [hd], hI⟩
        refine Inv.Steps.cons rfl ?_ ?_
        · intro L a w' hI hL hd K hK
          obtain ⟨rfl, hI⟩ := hI
          simp [Region.binds] at hd
          simp only [hd, if_true]
          rw [if_pos (by rfl)]
          go_simp
          exact hK.out _ _ ⟨by simp [hd], hI⟩
        refine Inv.Steps.cons rfl ?_ ?_
        · intro L a w' hI hL hd K hK
          obtain ⟨rfl, hI⟩ := hI
          simp [Region.binds] at hd
          simp only [hd, if_true]
          rw [if_pos (by rfl)]
          go_simp
          exact hK.out _ _ ⟨by simp [hd], hI⟩
        exact Inv.Steps.nil (by decide)
      case done =>
        intro L a w' hI hall
        obtain ⟨rfl, hI⟩ := hI
        simp only [hall, if_true] at hI ⊢
        go_wp2
        go_ret
        exact ⟨rfl, bnext hC13 hI⟩
end Go.Proofs.Ytnaofcggdjbocaa.Book
