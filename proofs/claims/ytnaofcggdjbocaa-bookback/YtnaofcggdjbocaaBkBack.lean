/-
  The walk of BookBack. (Written by gen_bkback.py.)
-/
import Derived.Test.YtnaofcggdjbocaaBkAlive
import Derived.Test.YtnaofcggdjbocaaBkRead
import Derived.Test.YtnaofcggdjbocaaBkSame
namespace Go.Proofs.Ytnaofcggdjbocaa.Book
open Go.RowKit Go.Proofs.Ytnaofcggdjbocaa.Mem Go.Proofs.Ytnaofcggdjbocaa.Policy Go.Proofs.Ytnaofcggdjbocaa.Event Go.Proofs.Ytnaofcggdjbocaa.Addr
set_option maxRecDepth 100000

theorem byte_numsB {b : Bk} (h : rightB b = true) (ho : BkOk b) : ∀ c ∈ Leb.nums (numsB b), Byte c := Leb.nums_bytes _ (numsB_words h ho)
theorem same_selfB (a : Bk) : sameB a a = true := sameB_iff.2 rfl
theorem bytes_rightB {b : Bk} (h : rightB b = true) : bytesB b = Leb.nums (numsB b) ∧ errB b = 0 := by unfold bytesB errB; rw [h]; exact ⟨rfl, rfl⟩
theorem bytes_wrongB {b : Bk} (h : rightB b = false) : bytesB b = [] ∧ errB b = 131 := by unfold bytesB errB; rw [h]; exact ⟨rfl, rfl⟩
set_option maxHeartbeats 4000000 in
theorem back_any (h1 : Bh) (a : Bk) (p : Option Addr) (n c : Nat) (bs : List Int) (hn : bs.length = n) (hb : ∀ c ∈ bs, Byte c) (w : World) (i1 : IsB w h1 a) (oa : BkOk a) (r : Reads .u8 w p c bs) :
    Calls Try.prog 7 #[bv h1, .slice p n c] w fun e w' => e = .returned (.bool true) ∧ Below w.heap.size w w' := by
  have ha := fun W => alive_any W
  have hg1 := fun W => great_bk h1 W
  cases hG1 : greatN h1.n 0 0 with
  | true =>
    rw [hG1] at hg1
    go_enter Try.func7, Try.ntmps7
    go_wp2_with (first
      | ((fail_if_success (have _ := hB1)); (refine at_box_bk _ _ (by rfl) (by rfl) (by rfl) ?_); intro V1 hXa1 hB1 hz1; have hC1 := hB1)
      | ((fail_if_success (have _ := hB2)); (have _ := hB1); (refine at_load_bk _ _ _ (by rfl) (by rfl) hXa1 (by rfl) ?_))
      | ((fail_if_success (have _ := hB2)); (have _ := hB1); (with_reducible refine (ha _).mono ?_); rintro e w2 ⟨rfl, hB2⟩; have hXa2 := hXa1.below hB2; have hC2 := bnext hC1 hB2)
      | ((fail_if_success (have _ := hB3)); (have _ := hB2); (refine at_build_zero (by rfl) (by rfl) ?_))
      | ((fail_if_success (have _ := hB3)); (have _ := hB2); (refine at_load_bk _ _ _ (by rfl) (by rfl) hXa2 (by rfl) ?_))
      | ((fail_if_success (have _ := hB3)); (have _ := hB2); (with_reducible refine (hg1 _).mono ?_); rintro e w3 ⟨rfl, hB3⟩; have hXa3 := hXa2.below hB3; have hC3 := bnext hC2 hB3)
      | ((fail_if_success (have _ := hB4)); (have _ := hB3); (refine at_load_bk _ _ _ (by rfl) (by rfl) hXa3 (by rfl) ?_)))
    go_ret
    exact ⟨rfl, hC3⟩
  | false =>
    rw [hG1] at hg1
    by_cases hbig : 1500 < n
    · have hbi : (1500 : Int) < (n : Int) := by omega
      go_enter Try.func7, Try.ntmps7
      go_wp2_with (first
        | ((fail_if_success (have _ := hB1)); (refine at_box_bk _ _ (by rfl) (by rfl) (by rfl) ?_); intro V1 hXa1 hB1 hz1; have hC1 := hB1)
        | ((fail_if_success (have _ := hB2)); (have _ := hB1); (refine at_load_bk _ _ _ (by rfl) (by rfl) hXa1 (by rfl) ?_))
        | ((fail_if_success (have _ := hB2)); (have _ := hB1); (with_reducible refine (ha _).mono ?_); rintro e w2 ⟨rfl, hB2⟩; have hXa2 := hXa1.below hB2; have hC2 := bnext hC1 hB2)
        | ((fail_if_success (have _ := hB3)); (have _ := hB2); (refine at_build_zero (by rfl) (by rfl) ?_))
        | ((fail_if_success (have _ := hB3)); (have _ := hB2); (refine at_load_bk _ _ _ (by rfl) (by rfl) hXa2 (by rfl) ?_))
        | ((fail_if_success (have _ := hB3)); (have _ := hB2); (with_reducible refine (hg1 _).mono ?_); rintro e w3 ⟨rfl, hB3⟩; have hXa3 := hXa2.below hB3; have hC3 := bnext hC2 hB3)
        | ((fail_if_success (have _ := hB4)); (have _ := hB3); (refine at_load_bk _ _ _ (by rfl) (by rfl) hXa3 (by rfl) ?_)))
      go_ret
      exact ⟨rfl, hC3⟩
    · have hbi : decide ((1500 : Int) < (n : Int)) = false := decide_eq_false (by omega)
      have n1 := (great_no hG1).1
      have hR1 := fun {W : World} (hb : Below w.heap.size w W) => book_Right h1 a W (i1.below hb) oa.2 (by omega)
      have hBy1 := fun {W : World} (hb : Below w.heap.size w W) => book_Bytes h1 a W (i1.below hb) oa (by omega)
      have hSm := fun {W : World} (hb : Below w.heap.size w W) (h2 : Bh) (i2 : IsB W h2 a) => book_Same h1 h2 a a W (i1.below hb) i2 oa.2 oa.2 (by omega)
      simp only [same_selfB] at hSm
      have hRb := fun {W : World} (hb' : Below w.heap.size w W) => book_Read p n c bs hn hb W (r.below hb')
      have hcv := fun {W : World} (hb' : Below w.heap.size w W) => conv (r.below hb') hn
      clear hG1 n1 hbig
      cases e1 : rightB a with
      | false =>
        have e2 := bytes_wrongB e1
        rw [e1] at hR1
        rw [e2.1, e2.2] at hBy1
        clear e1 e2 hSm
        cases hO : readB bs with
        | none =>
          obtain ⟨e1, e2⟩ := rdb_none hO
          rw [e1, e2] at hRb
          have hz := fun {W : World} (h2 : Bh) (i2 : IsB W h2 zeroB) => book_Bytes h2 zeroB W i2 ⟨⟨by decide, by decide⟩, by simp [zeroB]⟩ (by have := i2.2.1; simp [zeroB] at this; omega)
          rw [(bytes_wrongB (show rightB zeroB = false by decide +kernel)).1, (bytes_wrongB (show rightB zeroB = false by decide +kernel)).2] at hz
          clear e1 e2 hO hcv hn hb r
          go_enter Try.func7, Try.ntmps7
          go_wp2_with (first
            | ((fail_if_success (have _ := hB1)); (refine at_box_bk _ _ (by rfl) (by rfl) (by rfl) ?_); intro V1 hXa1 hB1 hz1; have hC1 := hB1)
            | ((fail_if_success (have _ := hB2)); (have _ := hB1); (refine at_load_bk _ _ _ (by rfl) (by rfl) hXa1 (by rfl) ?_))
            | ((fail_if_success (have _ := hB2)); (have _ := hB1); (with_reducible refine (ha _).mono ?_); rintro e w2 ⟨rfl, hB2⟩; have hXa2 := hXa1.below hB2; have hC2 := bnext hC1 hB2)
            | ((fail_if_success (have _ := hB3)); (have _ := hB2); (refine at_build_zero (by rfl) (by rfl) ?_))
            | ((fail_if_success (have _ := hB3)); (have _ := hB2); (refine at_load_bk _ _ _ (by rfl) (by rfl) hXa2 (by rfl) ?_))
            | ((fail_if_success (have _ := hB3)); (have _ := hB2); (with_reducible refine (hg1 _).mono ?_); rintro e w3 ⟨rfl, hB3⟩; have hXa3 := hXa2.below hB3; have hC3 := bnext hC2 hB3)
            | ((fail_if_success (have _ := hB4)); (have _ := hB3); (refine at_load_bk _ _ _ (by rfl) (by rfl) hXa3 (by rfl) ?_))
            | ((fail_if_success (have _ := hB4)); (have _ := hB3); (with_reducible refine (hBy1 hC3).mono ?_); rintro e w4 ⟨q4, c4, rfl, r4, hB4⟩; have hXa4 := hXa3.below hB4; have hC4 := bnext hC3 hB4)
            | ((fail_if_success (have _ := hB5)); (have _ := hB4); (refine at_load_bk _ _ _ (by rfl) (by rfl) hXa4 (by rfl) ?_))
            | ((fail_if_success (have _ := hB5)); (have _ := hB4); (with_reducible refine (hR1 hC4).mono ?_); rintro e w5 ⟨rfl, hB5⟩; have hXa5 := hXa4.below hB5; have hC5 := bnext hC4 hB5)
            | ((fail_if_success (have _ := hB6)); (have _ := hB5); (refine at_load_bk _ _ _ (by rfl) (by rfl) hXa5 (by rfl) ?_))
            | ((fail_if_success (have _ := hB6)); (have _ := hB5); (with_reducible refine (hRb hC5).mono ?_); rintro e w6 ⟨h6, rfl, i6, -, hB6⟩; have hXa6 := hXa5.below hB6; have hC6 := bnext hC5 hB6; have hFz6 := i6)
            | ((fail_if_success (have _ := hB7)); (have _ := hB6); (refine at_alloc_bk (by rfl) (by rfl) ?_); intro V7 hXz7 hB7 hz7)
            | ((fail_if_success (have _ := hB8)); (have _ := hB7); (refine at_store_bk _ _ _ _ _ (by rfl) (by rfl) (by rfl) hXz7 rfl (by rfl) ?_); intro V8 hXz8 hg8 hz8; have hB8 := hB7.grown hg8 hB7.size (by simp); have hXa8 := hXa6.below hB8; have hFz8 := hFz6.below hB8; have hC8 := bnext hC6 hB8)
            | ((fail_if_success (have _ := hB9)); (have _ := hB8); (refine at_load_bk _ _ _ (by rfl) (by rfl) hXa8 (by rfl) ?_))
            | ((fail_if_success (have _ := hB9)); (have _ := hB8); (refine at_load_bk _ _ _ (by rfl) (by rfl) hXz8 (by rfl) ?_))
            | ((fail_if_success (have _ := hB9)); (have _ := hB8); (with_reducible refine (hz _ hFz8).mono ?_); rintro e w9 ⟨q9, c9, rfl, r9, hB9⟩; have hXa9 := hXa8.below hB9; have hXz9 := hXz8.below hB9; have hFz9 := hFz8.below hB9; have hC9 := bnext hC8 hB9)
            | ((fail_if_success (have _ := hB10)); (have _ := hB9); (refine at_load_bk _ _ _ (by rfl) (by rfl) hXa9 (by rfl) ?_))
            | ((fail_if_success (have _ := hB10)); (have _ := hB9); (refine at_load_bk _ _ _ (by rfl) (by rfl) hXz9 (by rfl) ?_)))
          go_ret
          exact ⟨rfl, hC9⟩
        | some y =>
          have hW := readB_some hO
          obtain ⟨e1, e2⟩ := rdb_some hO
          rw [e1, e2] at hRb
          obtain ⟨f1, f2⟩ := bytes_rightB hW.2.1
          rw [hW.2.2] at f1
          have hsz := rightB_len hW.2.1
          have hBy2 := fun {W : World} (h2 : Bh) (i2 : IsB W h2 y) => book_Bytes h2 y W i2 hW.1 (by have := i2.2.1; omega)
          rw [f1, f2, hn] at hBy2
          have hst : ((str bs).toList == (str bs).toList) = true := by simp
          clear e1 e2 hO hW f1 f2 hsz
          go_enter Try.func7, Try.ntmps7
          go_wp2_with (first
            | ((fail_if_success (have _ := hB1)); (refine at_box_bk _ _ (by rfl) (by rfl) (by rfl) ?_); intro V1 hXa1 hB1 hz1; have hC1 := hB1)
            | ((fail_if_success (have _ := hB2)); (have _ := hB1); (refine at_load_bk _ _ _ (by rfl) (by rfl) hXa1 (by rfl) ?_))
            | ((fail_if_success (have _ := hB2)); (have _ := hB1); (with_reducible refine (ha _).mono ?_); rintro e w2 ⟨rfl, hB2⟩; have hXa2 := hXa1.below hB2; have hC2 := bnext hC1 hB2)
            | ((fail_if_success (have _ := hB3)); (have _ := hB2); (refine at_build_zero (by rfl) (by rfl) ?_))
            | ((fail_if_success (have _ := hB3)); (have _ := hB2); (refine at_load_bk _ _ _ (by rfl) (by rfl) hXa2 (by rfl) ?_))
            | ((fail_if_success (have _ := hB3)); (have _ := hB2); (with_reducible refine (hg1 _).mono ?_); rintro e w3 ⟨rfl, hB3⟩; have hXa3 := hXa2.below hB3; have hC3 := bnext hC2 hB3)
            | ((fail_if_success (have _ := hB4)); (have _ := hB3); (refine at_load_bk _ _ _ (by rfl) (by rfl) hXa3 (by rfl) ?_))
            | ((fail_if_success (have _ := hB4)); (have _ := hB3); (with_reducible refine (hBy1 hC3).mono ?_); rintro e w4 ⟨q4, c4, rfl, r4, hB4⟩; have hXa4 := hXa3.below hB4; have hC4 := bnext hC3 hB4)
            | ((fail_if_success (have _ := hB5)); (have _ := hB4); (refine at_load_bk _ _ _ (by rfl) (by rfl) hXa4 (by rfl) ?_))
            | ((fail_if_success (have _ := hB5)); (have _ := hB4); (with_reducible refine (hR1 hC4).mono ?_); rintro e w5 ⟨rfl, hB5⟩; have hXa5 := hXa4.below hB5; have hC5 := bnext hC4 hB5)
            | ((fail_if_success (have _ := hB6)); (have _ := hB5); (refine at_load_bk _ _ _ (by rfl) (by rfl) hXa5 (by rfl) ?_))
            | ((fail_if_success (have _ := hB6)); (have _ := hB5); (with_reducible refine (hRb hC5).mono ?_); rintro e w6 ⟨h6, rfl, i6, -, hB6⟩; have hXa6 := hXa5.below hB6; have hC6 := bnext hC5 hB6; have hFz6 := i6)
            | ((fail_if_success (have _ := hB7)); (have _ := hB6); (refine at_alloc_bk (by rfl) (by rfl) ?_); intro V7 hXz7 hB7 hz7)
            | ((fail_if_success (have _ := hB8)); (have _ := hB7); (refine at_store_bk _ _ _ _ _ (by rfl) (by rfl) (by rfl) hXz7 rfl (by rfl) ?_); intro V8 hXz8 hg8 hz8; have hB8 := hB7.grown hg8 hB7.size (by simp); have hXa8 := hXa6.below hB8; have hFz8 := hFz6.below hB8; have hC8 := bnext hC6 hB8)
            | ((fail_if_success (have _ := hB9)); (have _ := hB8); (refine at_load_bk _ _ _ (by rfl) (by rfl) hXa8 (by rfl) ?_))
            | ((fail_if_success (have _ := hB9)); (have _ := hB8); (refine at_load_bk _ _ _ (by rfl) (by rfl) hXz8 (by rfl) ?_))
            | ((fail_if_success (have _ := hB9)); (have _ := hB8); (with_reducible refine (hBy2 _ hFz8).mono ?_); rintro e w9 ⟨q9, c9, rfl, r9, hB9⟩; have hXa9 := hXa8.below hB9; have hXz9 := hXz8.below hB9; have hFz9 := hFz8.below hB9; have hC9 := bnext hC8 hB9; have hv1 := conv r9 hn; have hv2 := hcv hC9)
            | ((fail_if_success (have _ := hB10)); (have _ := hB9); (refine at_load_bk _ _ _ (by rfl) (by rfl) hXa9 (by rfl) ?_))
            | ((fail_if_success (have _ := hB10)); (have _ := hB9); (refine at_load_bk _ _ _ (by rfl) (by rfl) hXz9 (by rfl) ?_)))
          go_ret
          exact ⟨rfl, hC9⟩
      | true =>
        obtain ⟨f1, f2⟩ := bytes_rightB e1
        have hrm := book_room e1 oa
        have hRx := fun {W : World} {q d} (rq : Reads .u8 W q d (Leb.nums (numsB a))) => book_Read q (Leb.nums (numsB a)).length d (Leb.nums (numsB a)) rfl (byte_numsB e1 oa) W rq
        have hwr := rdb_some (some_readB (bs := Leb.nums (numsB a)) ⟨oa, e1, rfl⟩)
        rw [hwr.1, hwr.2] at hRx
        rw [f1, f2] at hBy1
        rw [e1] at hR1
        obtain ⟨xs, hxs⟩ : ∃ xs, xs = Leb.nums (numsB a) := ⟨_, rfl⟩
        rw [← hxs] at hRx hBy1 hrm
        obtain ⟨nx, hnx⟩ : ∃ n, xs.length = n := ⟨_, rfl⟩
        simp only [hnx] at hBy1 hRx
        rw [hnx] at hrm
        have h600 : decide ((600 : Int) < (nx : Int)) = false := decide_eq_false (by omega)
        clear e1 f1 f2 hwr hxs hnx hrm
        cases hO : readB bs with
        | none =>
          obtain ⟨e1, e2⟩ := rdb_none hO
          rw [e1, e2] at hRb
          have hz := fun {W : World} (h2 : Bh) (i2 : IsB W h2 zeroB) => book_Bytes h2 zeroB W i2 ⟨⟨by decide, by decide⟩, by simp [zeroB]⟩ (by have := i2.2.1; simp [zeroB] at this; omega)
          rw [(bytes_wrongB (show rightB zeroB = false by decide +kernel)).1, (bytes_wrongB (show rightB zeroB = false by decide +kernel)).2] at hz
          clear e1 e2 hO hcv hn hb r
          go_enter Try.func7, Try.ntmps7
          go_wp2_with (first
            | ((fail_if_success (have _ := hB1)); (refine at_box_bk _ _ (by rfl) (by rfl) (by rfl) ?_); intro V1 hXa1 hB1 hz1; have hC1 := hB1)
            | ((fail_if_success (have _ := hB2)); (have _ := hB1); (refine at_load_bk _ _ _ (by rfl) (by rfl) hXa1 (by rfl) ?_))
            | ((fail_if_success (have _ := hB2)); (have _ := hB1); (with_reducible refine (ha _).mono ?_); rintro e w2 ⟨rfl, hB2⟩; have hXa2 := hXa1.below hB2; have hC2 := bnext hC1 hB2)
            | ((fail_if_success (have _ := hB3)); (have _ := hB2); (refine at_build_zero (by rfl) (by rfl) ?_))
            | ((fail_if_success (have _ := hB3)); (have _ := hB2); (refine at_load_bk _ _ _ (by rfl) (by rfl) hXa2 (by rfl) ?_))
            | ((fail_if_success (have _ := hB3)); (have _ := hB2); (with_reducible refine (hg1 _).mono ?_); rintro e w3 ⟨rfl, hB3⟩; have hXa3 := hXa2.below hB3; have hC3 := bnext hC2 hB3)
            | ((fail_if_success (have _ := hB4)); (have _ := hB3); (refine at_load_bk _ _ _ (by rfl) (by rfl) hXa3 (by rfl) ?_))
            | ((fail_if_success (have _ := hB4)); (have _ := hB3); (with_reducible refine (hBy1 hC3).mono ?_); rintro e w4 ⟨q4, c4, rfl, r4, hB4⟩; have hXa4 := hXa3.below hB4; have hC4 := bnext hC3 hB4; have hFy4 := r4)
            | ((fail_if_success (have _ := hB5)); (have _ := hB4); (refine at_load_bk _ _ _ (by rfl) (by rfl) hXa4 (by rfl) ?_))
            | ((fail_if_success (have _ := hB5)); (have _ := hB4); (with_reducible refine (hR1 hC4).mono ?_); rintro e w5 ⟨rfl, hB5⟩; have hXa5 := hXa4.below hB5; have hFy5 := hFy4.below hB5; have hC5 := bnext hC4 hB5)
            | ((fail_if_success (have _ := hB6)); (have _ := hB5); (refine at_load_bk _ _ _ (by rfl) (by rfl) hXa5 (by rfl) ?_))
            | ((fail_if_success (have _ := hB6)); (have _ := hB5); (with_reducible refine (hRx hFy5).mono ?_); rintro e w6 ⟨h6, rfl, i6, -, hB6⟩; have hXa6 := hXa5.below hB6; have hFy6 := hFy5.below hB6; have hC6 := bnext hC5 hB6; have hFk6 := i6)
            | ((fail_if_success (have _ := hB7)); (have _ := hB6); (refine at_alloc_bk (by rfl) (by rfl) ?_); intro V7 hXk7 hB7 hz7)
            | ((fail_if_success (have _ := hB8)); (have _ := hB7); (refine at_store_bk _ _ _ _ _ (by rfl) (by rfl) (by rfl) hXk7 rfl (by rfl) ?_); intro V8 hXk8 hg8 hz8; have hB8 := hB7.grown hg8 hB7.size (by simp); have hXa8 := hXa6.below hB8; have hFy8 := hFy6.below hB8; have hFk8 := hFk6.below hB8; have hC8 := bnext hC6 hB8)
            | ((fail_if_success (have _ := hB9)); (have _ := hB8); (refine at_load_bk _ _ _ (by rfl) (by rfl) hXa8 (by rfl) ?_))
            | ((fail_if_success (have _ := hB9)); (have _ := hB8); (refine at_load_bk _ _ _ (by rfl) (by rfl) hXk8 (by rfl) ?_))
            | ((fail_if_success (have _ := hB9)); (have _ := hB8); (with_reducible refine (hSm hC8 _ hFk8).mono ?_); rintro e w9 ⟨rfl, hB9⟩; have hXa9 := hXa8.below hB9; have hXk9 := hXk8.below hB9; have hFy9 := hFy8.below hB9; have hFk9 := hFk8.below hB9; have hC9 := bnext hC8 hB9)
            | ((fail_if_success (have _ := hB10)); (have _ := hB9); (refine at_load_bk _ _ _ (by rfl) (by rfl) hXa9 (by rfl) ?_))
            | ((fail_if_success (have _ := hB10)); (have _ := hB9); (refine at_load_bk _ _ _ (by rfl) (by rfl) hXk9 (by rfl) ?_))
            | ((fail_if_success (have _ := hB10)); (have _ := hB9); (with_reducible refine (hRb hC9).mono ?_); rintro e w10 ⟨h10, rfl, i10, -, hB10⟩; have hXa10 := hXa9.below hB10; have hXk10 := hXk9.below hB10; have hFy10 := hFy9.below hB10; have hFk10 := hFk9.below hB10; have hC10 := bnext hC9 hB10; have hFz10 := i10)
            | ((fail_if_success (have _ := hB11)); (have _ := hB10); (refine at_alloc_bk (by rfl) (by rfl) ?_); intro V11 hXz11 hB11 hz11)
            | ((fail_if_success (have _ := hB12)); (have _ := hB11); (refine at_store_bk _ _ _ _ _ (by rfl) (by rfl) (by rfl) hXz11 rfl (by rfl) ?_); intro V12 hXz12 hg12 hz12; have hB12 := hB11.grown hg12 hB11.size (by simp); have hXa12 := hXa10.below hB12; have hXk12 := hXk10.below hB12; have hFy12 := hFy10.below hB12; have hFk12 := hFk10.below hB12; have hFz12 := hFz10.below hB12; have hC12 := bnext hC10 hB12)
            | ((fail_if_success (have _ := hB13)); (have _ := hB12); (refine at_load_bk _ _ _ (by rfl) (by rfl) hXa12 (by rfl) ?_))
            | ((fail_if_success (have _ := hB13)); (have _ := hB12); (refine at_load_bk _ _ _ (by rfl) (by rfl) hXk12 (by rfl) ?_))
            | ((fail_if_success (have _ := hB13)); (have _ := hB12); (refine at_load_bk _ _ _ (by rfl) (by rfl) hXz12 (by rfl) ?_))
            | ((fail_if_success (have _ := hB13)); (have _ := hB12); (with_reducible refine (hz _ hFz12).mono ?_); rintro e w13 ⟨q13, c13, rfl, r13, hB13⟩; have hXa13 := hXa12.below hB13; have hXk13 := hXk12.below hB13; have hXz13 := hXz12.below hB13; have hFy13 := hFy12.below hB13; have hFk13 := hFk12.below hB13; have hFz13 := hFz12.below hB13; have hC13 := bnext hC12 hB13)
            | ((fail_if_success (have _ := hB14)); (have _ := hB13); (refine at_load_bk _ _ _ (by rfl) (by rfl) hXa13 (by rfl) ?_))
            | ((fail_if_success (have _ := hB14)); (have _ := hB13); (refine at_load_bk _ _ _ (by rfl) (by rfl) hXk13 (by rfl) ?_))
            | ((fail_if_success (have _ := hB14)); (have _ := hB13); (refine at_load_bk _ _ _ (by rfl) (by rfl) hXz13 (by rfl) ?_)))
          go_ret
          exact ⟨rfl, hC13⟩
        | some y =>
          have hW := readB_some hO
          obtain ⟨e1, e2⟩ := rdb_some hO
          rw [e1, e2] at hRb
          obtain ⟨f1, f2⟩ := bytes_rightB hW.2.1
          rw [hW.2.2] at f1
          have hsz := rightB_len hW.2.1
          have hBy2 := fun {W : World} (h2 : Bh) (i2 : IsB W h2 y) => book_Bytes h2 y W i2 hW.1 (by have := i2.2.1; omega)
          rw [f1, f2, hn] at hBy2
          have hst : ((str bs).toList == (str bs).toList) = true := by simp
          clear e1 e2 hO hW f1 f2 hsz
          go_enter Try.func7, Try.ntmps7
          go_wp2_with (first
            | ((fail_if_success (have _ := hB1)); (refine at_box_bk _ _ (by rfl) (by rfl) (by rfl) ?_); intro V1 hXa1 hB1 hz1; have hC1 := hB1)
            | ((fail_if_success (have _ := hB2)); (have _ := hB1); (refine at_load_bk _ _ _ (by rfl) (by rfl) hXa1 (by rfl) ?_))
            | ((fail_if_success (have _ := hB2)); (have _ := hB1); (with_reducible refine (ha _).mono ?_); rintro e w2 ⟨rfl, hB2⟩; have hXa2 := hXa1.below hB2; have hC2 := bnext hC1 hB2)
            | ((fail_if_success (have _ := hB3)); (have _ := hB2); (refine at_build_zero (by rfl) (by rfl) ?_))
            | ((fail_if_success (have _ := hB3)); (have _ := hB2); (refine at_load_bk _ _ _ (by rfl) (by rfl) hXa2 (by rfl) ?_))
            | ((fail_if_success (have _ := hB3)); (have _ := hB2); (with_reducible refine (hg1 _).mono ?_); rintro e w3 ⟨rfl, hB3⟩; have hXa3 := hXa2.below hB3; have hC3 := bnext hC2 hB3)
            | ((fail_if_success (have _ := hB4)); (have _ := hB3); (refine at_load_bk _ _ _ (by rfl) (by rfl) hXa3 (by rfl) ?_))
            | ((fail_if_success (have _ := hB4)); (have _ := hB3); (with_reducible refine (hBy1 hC3).mono ?_); rintro e w4 ⟨q4, c4, rfl, r4, hB4⟩; have hXa4 := hXa3.below hB4; have hC4 := bnext hC3 hB4; have hFy4 := r4)
            | ((fail_if_success (have _ := hB5)); (have _ := hB4); (refine at_load_bk _ _ _ (by rfl) (by rfl) hXa4 (by rfl) ?_))
            | ((fail_if_success (have _ := hB5)); (have _ := hB4); (with_reducible refine (hR1 hC4).mono ?_); rintro e w5 ⟨rfl, hB5⟩; have hXa5 := hXa4.below hB5; have hFy5 := hFy4.below hB5; have hC5 := bnext hC4 hB5)
            | ((fail_if_success (have _ := hB6)); (have _ := hB5); (refine at_load_bk _ _ _ (by rfl) (by rfl) hXa5 (by rfl) ?_))
            | ((fail_if_success (have _ := hB6)); (have _ := hB5); (with_reducible refine (hRx hFy5).mono ?_); rintro e w6 ⟨h6, rfl, i6, -, hB6⟩; have hXa6 := hXa5.below hB6; have hFy6 := hFy5.below hB6; have hC6 := bnext hC5 hB6; have hFk6 := i6)
            | ((fail_if_success (have _ := hB7)); (have _ := hB6); (refine at_alloc_bk (by rfl) (by rfl) ?_); intro V7 hXk7 hB7 hz7)
            | ((fail_if_success (have _ := hB8)); (have _ := hB7); (refine at_store_bk _ _ _ _ _ (by rfl) (by rfl) (by rfl) hXk7 rfl (by rfl) ?_); intro V8 hXk8 hg8 hz8; have hB8 := hB7.grown hg8 hB7.size (by simp); have hXa8 := hXa6.below hB8; have hFy8 := hFy6.below hB8; have hFk8 := hFk6.below hB8; have hC8 := bnext hC6 hB8)
            | ((fail_if_success (have _ := hB9)); (have _ := hB8); (refine at_load_bk _ _ _ (by rfl) (by rfl) hXa8 (by rfl) ?_))
            | ((fail_if_success (have _ := hB9)); (have _ := hB8); (refine at_load_bk _ _ _ (by rfl) (by rfl) hXk8 (by rfl) ?_))
            | ((fail_if_success (have _ := hB9)); (have _ := hB8); (with_reducible refine (hSm hC8 _ hFk8).mono ?_); rintro e w9 ⟨rfl, hB9⟩; have hXa9 := hXa8.below hB9; have hXk9 := hXk8.below hB9; have hFy9 := hFy8.below hB9; have hFk9 := hFk8.below hB9; have hC9 := bnext hC8 hB9)
            | ((fail_if_success (have _ := hB10)); (have _ := hB9); (refine at_load_bk _ _ _ (by rfl) (by rfl) hXa9 (by rfl) ?_))
            | ((fail_if_success (have _ := hB10)); (have _ := hB9); (refine at_load_bk _ _ _ (by rfl) (by rfl) hXk9 (by rfl) ?_))
            | ((fail_if_success (have _ := hB10)); (have _ := hB9); (with_reducible refine (hRb hC9).mono ?_); rintro e w10 ⟨h10, rfl, i10, -, hB10⟩; have hXa10 := hXa9.below hB10; have hXk10 := hXk9.below hB10; have hFy10 := hFy9.below hB10; have hFk10 := hFk9.below hB10; have hC10 := bnext hC9 hB10; have hFz10 := i10)
            | ((fail_if_success (have _ := hB11)); (have _ := hB10); (refine at_alloc_bk (by rfl) (by rfl) ?_); intro V11 hXz11 hB11 hz11)
            | ((fail_if_success (have _ := hB12)); (have _ := hB11); (refine at_store_bk _ _ _ _ _ (by rfl) (by rfl) (by rfl) hXz11 rfl (by rfl) ?_); intro V12 hXz12 hg12 hz12; have hB12 := hB11.grown hg12 hB11.size (by simp); have hXa12 := hXa10.below hB12; have hXk12 := hXk10.below hB12; have hFy12 := hFy10.below hB12; have hFk12 := hFk10.below hB12; have hFz12 := hFz10.below hB12; have hC12 := bnext hC10 hB12)
            | ((fail_if_success (have _ := hB13)); (have _ := hB12); (refine at_load_bk _ _ _ (by rfl) (by rfl) hXa12 (by rfl) ?_))
            | ((fail_if_success (have _ := hB13)); (have _ := hB12); (refine at_load_bk _ _ _ (by rfl) (by rfl) hXk12 (by rfl) ?_))
            | ((fail_if_success (have _ := hB13)); (have _ := hB12); (refine at_load_bk _ _ _ (by rfl) (by rfl) hXz12 (by rfl) ?_))
            | ((fail_if_success (have _ := hB13)); (have _ := hB12); (with_reducible refine (hBy2 _ hFz12).mono ?_); rintro e w13 ⟨q13, c13, rfl, r13, hB13⟩; have hXa13 := hXa12.below hB13; have hXk13 := hXk12.below hB13; have hXz13 := hXz12.below hB13; have hFy13 := hFy12.below hB13; have hFk13 := hFk12.below hB13; have hFz13 := hFz12.below hB13; have hC13 := bnext hC12 hB13; have hv1 := conv r13 hn; have hv2 := hcv hC13)
            | ((fail_if_success (have _ := hB14)); (have _ := hB13); (refine at_load_bk _ _ _ (by rfl) (by rfl) hXa13 (by rfl) ?_))
            | ((fail_if_success (have _ := hB14)); (have _ := hB13); (refine at_load_bk _ _ _ (by rfl) (by rfl) hXk13 (by rfl) ?_))
            | ((fail_if_success (have _ := hB14)); (have _ := hB13); (refine at_load_bk _ _ _ (by rfl) (by rfl) hXz13 (by rfl) ?_)))
          go_ret
          exact ⟨rfl, hC13⟩
end Go.Proofs.Ytnaofcggdjbocaa.Book
