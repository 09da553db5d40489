/-
  The walk of EventBack. (Written by gen_evback.py.)
-/
import Derived.Test.YtfgndecnakfhnaaEvApart
namespace Go.Proofs.Ytfgndecnakfhnaa.Event
open Go.RowKit Go.Proofs.Ytfgndecnakfhnaa.Mem Go.Proofs.Ytfgndecnakfhnaa.Policy
set_option maxRecDepth 100000

theorem same_self (a : Ev) : sameE a a = true := sameE_iff.2 rfl
set_option maxHeartbeats 2000000 in
theorem back_any (h1 : Eh) (a : Ev) (p : Option Addr) (n c : Nat) (bs : List Int) (hn : bs.length = n) (hb : ∀ c ∈ bs, Byte c) (w : World) (i1 : Is w h1 a) (oa : ∀ p ∈ a.ps, PoOk p) (r : Reads .u8 w p c bs) :
    Calls Try.prog 6 #[ev h1, .slice p n c] w fun e w' => e = .returned (.bool true) ∧ Below w.heap.size w w' := by
  have ha := fun W => alive_any W
  have hg1 := fun W => great_any h1 W
  cases hG1 : (decide (30 < h1.pn) || decide (30 < h1.dn)) with
  | true =>
    rw [hG1] at hg1
    go_enter Try.func6, Try.ntmps6
    go_wp2_with (first
      | ((fail_if_success (have _ := hB1)); (refine at_box_ev _ _ (by rfl) (by rfl) (by rfl) ?_); intro V1 hXa1 hB1 hz1; have hC1 := hB1)
      | ((fail_if_success (have _ := hB2)); (have _ := hB1); (refine at_load_ev _ _ _ (by rfl) (by rfl) hXa1 (by rfl) ?_))
      | ((fail_if_success (have _ := hB2)); (have _ := hB1); (with_reducible refine (ha _).mono ?_); rintro e w2 ⟨rfl, hB2⟩; have hXa2 := hXa1.below hB2; have hC2 := bnext hC1 hB2)
      | ((fail_if_success (have _ := hB3)); (have _ := hB2); (refine at_load_ev _ _ _ (by rfl) (by rfl) hXa2 (by rfl) ?_))
      | ((fail_if_success (have _ := hB3)); (have _ := hB2); (with_reducible refine (hg1 _).mono ?_); rintro e w3 ⟨rfl, hB3⟩; have hXa3 := hXa2.below hB3; have hC3 := bnext hC2 hB3))
    go_ret
    exact ⟨rfl, hC3⟩
  | false =>
    rw [hG1] at hg1
    by_cases hbig : 1500 < n
    · have hbi : (1500 : Int) < (n : Int) := by omega
      go_enter Try.func6, Try.ntmps6
      go_wp2_with (first
        | ((fail_if_success (have _ := hB1)); (refine at_box_ev _ _ (by rfl) (by rfl) (by rfl) ?_); intro V1 hXa1 hB1 hz1; have hC1 := hB1)
        | ((fail_if_success (have _ := hB2)); (have _ := hB1); (refine at_load_ev _ _ _ (by rfl) (by rfl) hXa1 (by rfl) ?_))
        | ((fail_if_success (have _ := hB2)); (have _ := hB1); (with_reducible refine (ha _).mono ?_); rintro e w2 ⟨rfl, hB2⟩; have hXa2 := hXa1.below hB2; have hC2 := bnext hC1 hB2)
        | ((fail_if_success (have _ := hB3)); (have _ := hB2); (refine at_load_ev _ _ _ (by rfl) (by rfl) hXa2 (by rfl) ?_))
        | ((fail_if_success (have _ := hB3)); (have _ := hB2); (with_reducible refine (hg1 _).mono ?_); rintro e w3 ⟨rfl, hB3⟩; have hXa3 := hXa2.below hB3; have hC3 := bnext hC2 hB3))
      go_ret
      exact ⟨rfl, hC3⟩
    · have hbi : decide ((1500 : Int) < (n : Int)) = false := decide_eq_false (by omega)
      obtain ⟨n1, n2⟩ : h1.pn ≤ 30 ∧ h1.dn ≤ 30 := by simp at hG1; omega
      have hR1 := fun {W : World} (hb : Below w.heap.size w W) => event_Right h1 a W (i1.below hb) oa (by omega) (by omega)
      have hBy1 := fun {W : World} (hb : Below w.heap.size w W) => event_Bytes h1 a W (i1.below hb) oa (by omega) (by omega)
      have hSm := fun {W : World} (hb : Below w.heap.size w W) (h2 : Eh) (i2 : Is W h2 a) => event_Same h1 h2 a a W (i1.below hb) i2 oa oa (by omega) (by omega)
      simp only [same_self] at hSm
      have hRb := fun {W : World} (hb' : Below w.heap.size w W) => event_Read p n c bs hn hb W (r.below hb')
      have hcv := fun {W : World} (hb' : Below w.heap.size w W) => conv (r.below hb') hn
      clear hG1 n1 n2 hbig
      cases e1 : rightE a with
      | false =>
        have e2 : bytesE a = [] ∧ errE a = 121 := by unfold bytesE errE; rw [e1]; exact ⟨rfl, rfl⟩
        rw [e1] at hR1
        rw [e2.1, e2.2] at hBy1
        clear e1 e2 hSm
        cases hO : readO bs with
        | none =>
          obtain ⟨e1, e2⟩ := rd_none hO
          rw [e1, e2] at hRb
          have hS0 := fun {W : World} (h2 : Eh) (i2 : Is W h2 zeroE) (m1 : h2.pn ≤ 1000) (m2 : h2.dn ≤ 1000) => event_Same h2 zeroH zeroE zeroE W i2 (Is.zero W) (by simp [zeroE]) (by simp [zeroE]) m1 m2
          simp only [same_self] at hS0
          have hz := fun {W : World} {h2 : Eh} (i2 : Is W h2 zeroE) => show h2.pn ≤ 1000 ∧ h2.dn ≤ 1000 by have k1 := i2.2.1.1; have k2 := i2.2.2.1; simp [zeroE] at k1 k2; omega
          clear e1 e2 hO hcv hn hb r
          go_enter Try.func6, Try.ntmps6
          go_wp2_with (first
            | ((fail_if_success (have _ := hB1)); (refine at_box_ev _ _ (by rfl) (by rfl) (by rfl) ?_); intro V1 hXa1 hB1 hz1; have hC1 := hB1)
            | ((fail_if_success (have _ := hB2)); (have _ := hB1); (refine at_load_ev _ _ _ (by rfl) (by rfl) hXa1 (by rfl) ?_))
            | ((fail_if_success (have _ := hB2)); (have _ := hB1); (with_reducible refine (ha _).mono ?_); rintro e w2 ⟨rfl, hB2⟩; have hXa2 := hXa1.below hB2; have hC2 := bnext hC1 hB2)
            | ((fail_if_success (have _ := hB3)); (have _ := hB2); (refine at_load_ev _ _ _ (by rfl) (by rfl) hXa2 (by rfl) ?_))
            | ((fail_if_success (have _ := hB3)); (have _ := hB2); (with_reducible refine (hg1 _).mono ?_); rintro e w3 ⟨rfl, hB3⟩; have hXa3 := hXa2.below hB3; have hC3 := bnext hC2 hB3)
            | ((fail_if_success (have _ := hB4)); (have _ := hB3); (refine at_load_ev _ _ _ (by rfl) (by rfl) hXa3 (by rfl) ?_))
            | ((fail_if_success (have _ := hB4)); (have _ := hB3); (with_reducible refine (hBy1 hC3).mono ?_); rintro e w4 ⟨q4, c4, rfl, r4, hB4⟩; have hXa4 := hXa3.below hB4; have hC4 := bnext hC3 hB4)
            | ((fail_if_success (have _ := hB5)); (have _ := hB4); (refine at_load_ev _ _ _ (by rfl) (by rfl) hXa4 (by rfl) ?_))
            | ((fail_if_success (have _ := hB5)); (have _ := hB4); (with_reducible refine (hR1 hC4).mono ?_); rintro e w5 ⟨rfl, hB5⟩; have hXa5 := hXa4.below hB5; have hC5 := bnext hC4 hB5)
            | ((fail_if_success (have _ := hB6)); (have _ := hB5); (refine at_load_ev _ _ _ (by rfl) (by rfl) hXa5 (by rfl) ?_))
            | ((fail_if_success (have _ := hB6)); (have _ := hB5); (with_reducible refine (hRb hC5).mono ?_); rintro e w6 ⟨h6, rfl, i6, -, hB6⟩; have hXa6 := hXa5.below hB6; have hC6 := bnext hC5 hB6; have hZ6 := Below.refl w6.heap.size w6)
            | ((fail_if_success (have _ := hB7)); (have _ := hB6); (refine at_alloc_ev (by rfl) (by rfl) ?_); intro V7 hXz7 hB7 hz7)
            | ((fail_if_success (have _ := hB8)); (have _ := hB7); (refine at_store_ev _ _ _ _ _ (by rfl) (by rfl) (by rfl) hXz7 rfl (by rfl) ?_); intro V8 hXz8 hg8 hz8; have hB8 := hB7.grown hg8 hB7.size (by simp); have hXa8 := hXa6.below hB8; have hC8 := bnext hC6 hB8; have hZ8 := bnext hZ6 hB8)
            | ((fail_if_success (have _ := hB9)); (have _ := hB8); (refine at_build_zero (by rfl) (by rfl) ?_))
            | ((fail_if_success (have _ := hB9)); (have _ := hB8); (refine at_load_ev _ _ _ (by rfl) (by rfl) hXa8 (by rfl) ?_))
            | ((fail_if_success (have _ := hB9)); (have _ := hB8); (refine at_load_ev _ _ _ (by rfl) (by rfl) hXz8 (by rfl) ?_))
            | ((fail_if_success (have _ := hB9)); (have _ := hB8); (with_reducible refine ((hS0 h6 (i6.below hZ8) (hz i6).1 (hz i6).2)).mono ?_); rintro e w9 ⟨rfl, hB9⟩; have hXa9 := hXa8.below hB9; have hXz9 := hXz8.below hB9; have hC9 := bnext hC8 hB9; have hZ9 := bnext hZ8 hB9))
          go_ret
          exact ⟨rfl, hC9⟩
        | some y =>
          have hW := read_some hO
          obtain ⟨e1, e2⟩ := rd_some hO
          rw [e1, e2] at hRb
          obtain ⟨f1, f2⟩ := bytes_right hW.2.1
          rw [hW.2.2] at f1
          have hr8 := right_iff.1 hW.2.1
          have hsz : y.ps.length ≤ 8 ∧ y.ds.length ≤ 8 := by
            rcases hr8 with ⟨ps, ds, rfl, hc⟩ | ⟨s, g, rfl, _, _⟩ | ⟨t, rfl, _⟩
            · exact ⟨(com_iff.1 hc).2.1.1, (com_iff.1 hc).2.2.1⟩
            · simp [leaseE]
            · simp [periodE]
          have hBy2 := fun {W : World} (h2 : Eh) (i2 : Is W h2 y) => event_Bytes h2 y W i2 hW.1 (by have := i2.2.1.1; omega) (by have := i2.2.2.1; omega)
          rw [f1, f2, hn] at hBy2
          have hst : ((str bs).toList == (str bs).toList) = true := by simp
          clear e1 e2 hO hW f1 f2 hr8 hsz
          go_enter Try.func6, Try.ntmps6
          go_wp2_with (first
            | ((fail_if_success (have _ := hB1)); (refine at_box_ev _ _ (by rfl) (by rfl) (by rfl) ?_); intro V1 hXa1 hB1 hz1; have hC1 := hB1)
            | ((fail_if_success (have _ := hB2)); (have _ := hB1); (refine at_load_ev _ _ _ (by rfl) (by rfl) hXa1 (by rfl) ?_))
            | ((fail_if_success (have _ := hB2)); (have _ := hB1); (with_reducible refine (ha _).mono ?_); rintro e w2 ⟨rfl, hB2⟩; have hXa2 := hXa1.below hB2; have hC2 := bnext hC1 hB2)
            | ((fail_if_success (have _ := hB3)); (have _ := hB2); (refine at_load_ev _ _ _ (by rfl) (by rfl) hXa2 (by rfl) ?_))
            | ((fail_if_success (have _ := hB3)); (have _ := hB2); (with_reducible refine (hg1 _).mono ?_); rintro e w3 ⟨rfl, hB3⟩; have hXa3 := hXa2.below hB3; have hC3 := bnext hC2 hB3)
            | ((fail_if_success (have _ := hB4)); (have _ := hB3); (refine at_load_ev _ _ _ (by rfl) (by rfl) hXa3 (by rfl) ?_))
            | ((fail_if_success (have _ := hB4)); (have _ := hB3); (with_reducible refine (hBy1 hC3).mono ?_); rintro e w4 ⟨q4, c4, rfl, r4, hB4⟩; have hXa4 := hXa3.below hB4; have hC4 := bnext hC3 hB4)
            | ((fail_if_success (have _ := hB5)); (have _ := hB4); (refine at_load_ev _ _ _ (by rfl) (by rfl) hXa4 (by rfl) ?_))
            | ((fail_if_success (have _ := hB5)); (have _ := hB4); (with_reducible refine (hR1 hC4).mono ?_); rintro e w5 ⟨rfl, hB5⟩; have hXa5 := hXa4.below hB5; have hC5 := bnext hC4 hB5)
            | ((fail_if_success (have _ := hB6)); (have _ := hB5); (refine at_load_ev _ _ _ (by rfl) (by rfl) hXa5 (by rfl) ?_))
            | ((fail_if_success (have _ := hB6)); (have _ := hB5); (with_reducible refine (hRb hC5).mono ?_); rintro e w6 ⟨h6, rfl, i6, -, hB6⟩; have hXa6 := hXa5.below hB6; have hC6 := bnext hC5 hB6; have hZ6 := Below.refl w6.heap.size w6)
            | ((fail_if_success (have _ := hB7)); (have _ := hB6); (refine at_alloc_ev (by rfl) (by rfl) ?_); intro V7 hXz7 hB7 hz7)
            | ((fail_if_success (have _ := hB8)); (have _ := hB7); (refine at_store_ev _ _ _ _ _ (by rfl) (by rfl) (by rfl) hXz7 rfl (by rfl) ?_); intro V8 hXz8 hg8 hz8; have hB8 := hB7.grown hg8 hB7.size (by simp); have hXa8 := hXa6.below hB8; have hC8 := bnext hC6 hB8; have hZ8 := bnext hZ6 hB8)
            | ((fail_if_success (have _ := hB9)); (have _ := hB8); (refine at_load_ev _ _ _ (by rfl) (by rfl) hXa8 (by rfl) ?_))
            | ((fail_if_success (have _ := hB9)); (have _ := hB8); (refine at_load_ev _ _ _ (by rfl) (by rfl) hXz8 (by rfl) ?_))
            | ((fail_if_success (have _ := hB9)); (have _ := hB8); (with_reducible refine (hBy2 h6 (i6.below hZ8)).mono ?_); rintro e w9 ⟨q9, c9, rfl, r9, hB9⟩; have hXa9 := hXa8.below hB9; have hXz9 := hXz8.below hB9; have hC9 := bnext hC8 hB9; have hZ9 := bnext hZ8 hB9; have hv1 := conv r9 hn; have hv2 := hcv hC9))
          go_ret
          exact ⟨rfl, hC9⟩
      | true =>
        obtain ⟨f1, f2⟩ := bytes_right e1
        have hrm := right_room e1 oa
        have hRx := fun {W : World} {q d} (rq : Reads .u8 W q d (Leb.nums (numsE a))) => event_Read q (Leb.nums (numsE a)).length d (Leb.nums (numsE a)) rfl (byte_nums e1 oa) W rq
        have hwr := rd_some (some_read (bs := Leb.nums (numsE a)) ⟨oa, e1, rfl⟩)
        rw [hwr.1, hwr.2] at hRx
        rw [f1, f2] at hBy1
        rw [e1] at hR1
        obtain ⟨xs, hxs⟩ : ∃ xs, xs = Leb.nums (numsE a) := ⟨_, rfl⟩
        rw [← hxs] at hRx hBy1 hrm
        obtain ⟨nx, hnx⟩ : ∃ n, xs.length = n := ⟨_, rfl⟩
        simp only [hnx] at hBy1 hRx
        rw [hnx] at hrm
        have h700 : decide ((700 : Int) < (nx : Int)) = false := decide_eq_false (by omega)
        clear e1 f1 f2 hwr hxs hnx hrm
        cases hO : readO bs with
        | none =>
          obtain ⟨e1, e2⟩ := rd_none hO
          rw [e1, e2] at hRb
          have hS0 := fun {W : World} (h2 : Eh) (i2 : Is W h2 zeroE) (m1 : h2.pn ≤ 1000) (m2 : h2.dn ≤ 1000) => event_Same h2 zeroH zeroE zeroE W i2 (Is.zero W) (by simp [zeroE]) (by simp [zeroE]) m1 m2
          simp only [same_self] at hS0
          have hz := fun {W : World} {h2 : Eh} (i2 : Is W h2 zeroE) => show h2.pn ≤ 1000 ∧ h2.dn ≤ 1000 by have k1 := i2.2.1.1; have k2 := i2.2.2.1; simp [zeroE] at k1 k2; omega
          clear e1 e2 hO hcv hn hb r
          go_enter Try.func6, Try.ntmps6
          go_wp2_with (first
            | ((fail_if_success (have _ := hB1)); (refine at_box_ev _ _ (by rfl) (by rfl) (by rfl) ?_); intro V1 hXa1 hB1 hz1; have hC1 := hB1)
            | ((fail_if_success (have _ := hB2)); (have _ := hB1); (refine at_load_ev _ _ _ (by rfl) (by rfl) hXa1 (by rfl) ?_))
            | ((fail_if_success (have _ := hB2)); (have _ := hB1); (with_reducible refine (ha _).mono ?_); rintro e w2 ⟨rfl, hB2⟩; have hXa2 := hXa1.below hB2; have hC2 := bnext hC1 hB2)
            | ((fail_if_success (have _ := hB3)); (have _ := hB2); (refine at_load_ev _ _ _ (by rfl) (by rfl) hXa2 (by rfl) ?_))
            | ((fail_if_success (have _ := hB3)); (have _ := hB2); (with_reducible refine (hg1 _).mono ?_); rintro e w3 ⟨rfl, hB3⟩; have hXa3 := hXa2.below hB3; have hC3 := bnext hC2 hB3)
            | ((fail_if_success (have _ := hB4)); (have _ := hB3); (refine at_load_ev _ _ _ (by rfl) (by rfl) hXa3 (by rfl) ?_))
            | ((fail_if_success (have _ := hB4)); (have _ := hB3); (with_reducible refine (hBy1 hC3).mono ?_); rintro e w4 ⟨q4, c4, rfl, r4, hB4⟩; have hXa4 := hXa3.below hB4; have hC4 := bnext hC3 hB4; have hX4 := Below.refl w4.heap.size w4)
            | ((fail_if_success (have _ := hB5)); (have _ := hB4); (refine at_load_ev _ _ _ (by rfl) (by rfl) hXa4 (by rfl) ?_))
            | ((fail_if_success (have _ := hB5)); (have _ := hB4); (with_reducible refine (hR1 hC4).mono ?_); rintro e w5 ⟨rfl, hB5⟩; have hXa5 := hXa4.below hB5; have hC5 := bnext hC4 hB5; have hX5 := bnext hX4 hB5)
            | ((fail_if_success (have _ := hB6)); (have _ := hB5); (refine at_load_ev _ _ _ (by rfl) (by rfl) hXa5 (by rfl) ?_))
            | ((fail_if_success (have _ := hB6)); (have _ := hB5); (with_reducible refine (hRx (r4.below hX5)).mono ?_); rintro e w6 ⟨h6, rfl, i6, -, hB6⟩; have hXa6 := hXa5.below hB6; have hC6 := bnext hC5 hB6; have hX6 := bnext hX5 hB6; have hY6 := Below.refl w6.heap.size w6)
            | ((fail_if_success (have _ := hB7)); (have _ := hB6); (refine at_alloc_ev (by rfl) (by rfl) ?_); intro V7 hXy7 hB7 hz7)
            | ((fail_if_success (have _ := hB8)); (have _ := hB7); (refine at_store_ev _ _ _ _ _ (by rfl) (by rfl) (by rfl) hXy7 rfl (by rfl) ?_); intro V8 hXy8 hg8 hz8; have hB8 := hB7.grown hg8 hB7.size (by simp); have hXa8 := hXa6.below hB8; have hC8 := bnext hC6 hB8; have hX8 := bnext hX6 hB8; have hY8 := bnext hY6 hB8)
            | ((fail_if_success (have _ := hB9)); (have _ := hB8); (refine at_load_ev _ _ _ (by rfl) (by rfl) hXa8 (by rfl) ?_))
            | ((fail_if_success (have _ := hB9)); (have _ := hB8); (refine at_load_ev _ _ _ (by rfl) (by rfl) hXy8 (by rfl) ?_))
            | ((fail_if_success (have _ := hB9)); (have _ := hB8); (with_reducible refine (hSm hC8 h6 (i6.below hY8)).mono ?_); rintro e w9 ⟨rfl, hB9⟩; have hXa9 := hXa8.below hB9; have hXy9 := hXy8.below hB9; have hC9 := bnext hC8 hB9; have hX9 := bnext hX8 hB9; have hY9 := bnext hY8 hB9)
            | ((fail_if_success (have _ := hB10)); (have _ := hB9); (refine at_load_ev _ _ _ (by rfl) (by rfl) hXa9 (by rfl) ?_))
            | ((fail_if_success (have _ := hB10)); (have _ := hB9); (refine at_load_ev _ _ _ (by rfl) (by rfl) hXy9 (by rfl) ?_))
            | ((fail_if_success (have _ := hB10)); (have _ := hB9); (with_reducible refine (hRb hC9).mono ?_); rintro e w10 ⟨h10, rfl, i10, -, hB10⟩; have hXa10 := hXa9.below hB10; have hXy10 := hXy9.below hB10; have hC10 := bnext hC9 hB10; have hX10 := bnext hX9 hB10; have hY10 := bnext hY9 hB10; have hZ10 := Below.refl w10.heap.size w10)
            | ((fail_if_success (have _ := hB11)); (have _ := hB10); (refine at_alloc_ev (by rfl) (by rfl) ?_); intro V11 hXz11 hB11 hz11)
            | ((fail_if_success (have _ := hB12)); (have _ := hB11); (refine at_store_ev _ _ _ _ _ (by rfl) (by rfl) (by rfl) hXz11 rfl (by rfl) ?_); intro V12 hXz12 hg12 hz12; have hB12 := hB11.grown hg12 hB11.size (by simp); have hXa12 := hXa10.below hB12; have hXy12 := hXy10.below hB12; have hC12 := bnext hC10 hB12; have hX12 := bnext hX10 hB12; have hY12 := bnext hY10 hB12; have hZ12 := bnext hZ10 hB12)
            | ((fail_if_success (have _ := hB13)); (have _ := hB12); (refine at_build_zero (by rfl) (by rfl) ?_))
            | ((fail_if_success (have _ := hB13)); (have _ := hB12); (refine at_load_ev _ _ _ (by rfl) (by rfl) hXa12 (by rfl) ?_))
            | ((fail_if_success (have _ := hB13)); (have _ := hB12); (refine at_load_ev _ _ _ (by rfl) (by rfl) hXy12 (by rfl) ?_))
            | ((fail_if_success (have _ := hB13)); (have _ := hB12); (refine at_load_ev _ _ _ (by rfl) (by rfl) hXz12 (by rfl) ?_))
            | ((fail_if_success (have _ := hB13)); (have _ := hB12); (with_reducible refine ((hS0 h10 (i10.below hZ12) (hz i10).1 (hz i10).2)).mono ?_); rintro e w13 ⟨rfl, hB13⟩; have hXa13 := hXa12.below hB13; have hXy13 := hXy12.below hB13; have hXz13 := hXz12.below hB13; have hC13 := bnext hC12 hB13; have hX13 := bnext hX12 hB13; have hY13 := bnext hY12 hB13; have hZ13 := bnext hZ12 hB13))
          go_ret
          exact ⟨rfl, hC13⟩
        | some y =>
          have hW := read_some hO
          obtain ⟨e1, e2⟩ := rd_some hO
          rw [e1, e2] at hRb
          obtain ⟨f1, f2⟩ := bytes_right hW.2.1
          rw [hW.2.2] at f1
          have hr8 := right_iff.1 hW.2.1
          have hsz : y.ps.length ≤ 8 ∧ y.ds.length ≤ 8 := by
            rcases hr8 with ⟨ps, ds, rfl, hc⟩ | ⟨s, g, rfl, _, _⟩ | ⟨t, rfl, _⟩
            · exact ⟨(com_iff.1 hc).2.1.1, (com_iff.1 hc).2.2.1⟩
            · simp [leaseE]
            · simp [periodE]
          have hBy2 := fun {W : World} (h2 : Eh) (i2 : Is W h2 y) => event_Bytes h2 y W i2 hW.1 (by have := i2.2.1.1; omega) (by have := i2.2.2.1; omega)
          rw [f1, f2, hn] at hBy2
          have hst : ((str bs).toList == (str bs).toList) = true := by simp
          clear e1 e2 hO hW f1 f2 hr8 hsz
          go_enter Try.func6, Try.ntmps6
          go_wp2_with (first
            | ((fail_if_success (have _ := hB1)); (refine at_box_ev _ _ (by rfl) (by rfl) (by rfl) ?_); intro V1 hXa1 hB1 hz1; have hC1 := hB1)
            | ((fail_if_success (have _ := hB2)); (have _ := hB1); (refine at_load_ev _ _ _ (by rfl) (by rfl) hXa1 (by rfl) ?_))
            | ((fail_if_success (have _ := hB2)); (have _ := hB1); (with_reducible refine (ha _).mono ?_); rintro e w2 ⟨rfl, hB2⟩; have hXa2 := hXa1.below hB2; have hC2 := bnext hC1 hB2)
            | ((fail_if_success (have _ := hB3)); (have _ := hB2); (refine at_load_ev _ _ _ (by rfl) (by rfl) hXa2 (by rfl) ?_))
            | ((fail_if_success (have _ := hB3)); (have _ := hB2); (with_reducible refine (hg1 _).mono ?_); rintro e w3 ⟨rfl, hB3⟩; have hXa3 := hXa2.below hB3; have hC3 := bnext hC2 hB3)
            | ((fail_if_success (have _ := hB4)); (have _ := hB3); (refine at_load_ev _ _ _ (by rfl) (by rfl) hXa3 (by rfl) ?_))
            | ((fail_if_success (have _ := hB4)); (have _ := hB3); (with_reducible refine (hBy1 hC3).mono ?_); rintro e w4 ⟨q4, c4, rfl, r4, hB4⟩; have hXa4 := hXa3.below hB4; have hC4 := bnext hC3 hB4; have hX4 := Below.refl w4.heap.size w4)
            | ((fail_if_success (have _ := hB5)); (have _ := hB4); (refine at_load_ev _ _ _ (by rfl) (by rfl) hXa4 (by rfl) ?_))
            | ((fail_if_success (have _ := hB5)); (have _ := hB4); (with_reducible refine (hR1 hC4).mono ?_); rintro e w5 ⟨rfl, hB5⟩; have hXa5 := hXa4.below hB5; have hC5 := bnext hC4 hB5; have hX5 := bnext hX4 hB5)
            | ((fail_if_success (have _ := hB6)); (have _ := hB5); (refine at_load_ev _ _ _ (by rfl) (by rfl) hXa5 (by rfl) ?_))
            | ((fail_if_success (have _ := hB6)); (have _ := hB5); (with_reducible refine (hRx (r4.below hX5)).mono ?_); rintro e w6 ⟨h6, rfl, i6, -, hB6⟩; have hXa6 := hXa5.below hB6; have hC6 := bnext hC5 hB6; have hX6 := bnext hX5 hB6; have hY6 := Below.refl w6.heap.size w6)
            | ((fail_if_success (have _ := hB7)); (have _ := hB6); (refine at_alloc_ev (by rfl) (by rfl) ?_); intro V7 hXy7 hB7 hz7)
            | ((fail_if_success (have _ := hB8)); (have _ := hB7); (refine at_store_ev _ _ _ _ _ (by rfl) (by rfl) (by rfl) hXy7 rfl (by rfl) ?_); intro V8 hXy8 hg8 hz8; have hB8 := hB7.grown hg8 hB7.size (by simp); have hXa8 := hXa6.below hB8; have hC8 := bnext hC6 hB8; have hX8 := bnext hX6 hB8; have hY8 := bnext hY6 hB8)
            | ((fail_if_success (have _ := hB9)); (have _ := hB8); (refine at_load_ev _ _ _ (by rfl) (by rfl) hXa8 (by rfl) ?_))
            | ((fail_if_success (have _ := hB9)); (have _ := hB8); (refine at_load_ev _ _ _ (by rfl) (by rfl) hXy8 (by rfl) ?_))
            | ((fail_if_success (have _ := hB9)); (have _ := hB8); (with_reducible refine (hSm hC8 h6 (i6.below hY8)).mono ?_); rintro e w9 ⟨rfl, hB9⟩; have hXa9 := hXa8.below hB9; have hXy9 := hXy8.below hB9; have hC9 := bnext hC8 hB9; have hX9 := bnext hX8 hB9; have hY9 := bnext hY8 hB9)
            | ((fail_if_success (have _ := hB10)); (have _ := hB9); (refine at_load_ev _ _ _ (by rfl) (by rfl) hXa9 (by rfl) ?_))
            | ((fail_if_success (have _ := hB10)); (have _ := hB9); (refine at_load_ev _ _ _ (by rfl) (by rfl) hXy9 (by rfl) ?_))
            | ((fail_if_success (have _ := hB10)); (have _ := hB9); (with_reducible refine (hRb hC9).mono ?_); rintro e w10 ⟨h10, rfl, i10, -, hB10⟩; have hXa10 := hXa9.below hB10; have hXy10 := hXy9.below hB10; have hC10 := bnext hC9 hB10; have hX10 := bnext hX9 hB10; have hY10 := bnext hY9 hB10; have hZ10 := Below.refl w10.heap.size w10)
            | ((fail_if_success (have _ := hB11)); (have _ := hB10); (refine at_alloc_ev (by rfl) (by rfl) ?_); intro V11 hXz11 hB11 hz11)
            | ((fail_if_success (have _ := hB12)); (have _ := hB11); (refine at_store_ev _ _ _ _ _ (by rfl) (by rfl) (by rfl) hXz11 rfl (by rfl) ?_); intro V12 hXz12 hg12 hz12; have hB12 := hB11.grown hg12 hB11.size (by simp); have hXa12 := hXa10.below hB12; have hXy12 := hXy10.below hB12; have hC12 := bnext hC10 hB12; have hX12 := bnext hX10 hB12; have hY12 := bnext hY10 hB12; have hZ12 := bnext hZ10 hB12)
            | ((fail_if_success (have _ := hB13)); (have _ := hB12); (refine at_load_ev _ _ _ (by rfl) (by rfl) hXa12 (by rfl) ?_))
            | ((fail_if_success (have _ := hB13)); (have _ := hB12); (refine at_load_ev _ _ _ (by rfl) (by rfl) hXy12 (by rfl) ?_))
            | ((fail_if_success (have _ := hB13)); (have _ := hB12); (refine at_load_ev _ _ _ (by rfl) (by rfl) hXz12 (by rfl) ?_))
            | ((fail_if_success (have _ := hB13)); (have _ := hB12); (with_reducible refine (hBy2 h10 (i10.below hZ12)).mono ?_); rintro e w13 ⟨q13, c13, rfl, r13, hB13⟩; have hXa13 := hXa12.below hB13; have hXy13 := hXy12.below hB13; have hXz13 := hXz12.below hB13; have hC13 := bnext hC12 hB13; have hX13 := bnext hX12 hB13; have hY13 := bnext hY12 hB13; have hZ13 := bnext hZ12 hB13; have hv1 := conv r13 hn; have hv2 := hcv hC13))
          go_ret
          exact ⟨rfl, hC13⟩
end Go.Proofs.Ytfgndecnakfhnaa.Event
