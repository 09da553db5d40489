/-
  The document's log: Left, place, Room.
-/
import Derived.Test.YthgafnommcodcaaWalRef1
namespace Go.Proofs.Ythgafnommcodcaa.Wal
open Go.RowKit Go.Proofs.Ythgafnommcodcaa.Mem Go.Proofs.Ythgafnommcodcaa.Sect Go.Proofs.Ythgafnommcodcaa.Frame Go.Proofs.Ythgafnommcodcaa.Disk Go.Proofs.Ythgafnommcodcaa.Area
set_option maxRecDepth 100000

theorem cells5 {w : World} {g : Nat} {ty : TypeId} {ep nx st nw tk : Nat} (h : Blk w g ty (ll ⟨ep, nx, st, nw, tk⟩)) : ∀ i, w.cell? ⟨g, i, none⟩ = [Value.int .u32 (ep : Int), .int .u64 (nx : Int), .int .i64 (st : Int), .int .i64 (nw : Int), .int .i64 (tk : Int)][i]? := h.cell
theorem ref_Left {n S st j t : Nat} (hc : Can n S st j t) (ep nx : Nat) (w : World) :
    Calls Try.prog 30 #[lv ⟨ep, nx, st, segOf S st j, t⟩, .int .i64 (n : Int)] w fun e w' => e = .returned (.int .i64 (leftI S j t)) ∧ Below w.heap.size w w' := by
  have hnx := fun (i : Nat) W => ref_Next (n : Int) (segOf S st i : Int) W
  simp only [(hc.next _).1, (hc.next _).2] at hnx
  have hS2 := hc.two
  have hrd := fun i (hi : i < S) => seg_round (j := i) hc.2.2.2.1 hi
  obtain ⟨-, -, -, hst, hj, ht⟩ := hc
  have hw1 : IntKind.i64.wrap (16 - (t : Int)) = 16 - (t : Int) := wrap_int ⟨by omega, by omega⟩
  go_enter Try.func30, Try.ntmps30
  go_wp2_with (first
    | ((refine at_box_ll _ _ (by rfl) (by rfl) (by rfl) ?_); intro W1 hY1 hB1 hz1; have hk1 := cells5 hY1)
    | ((with_reducible refine (hnx j _).mono ?_); rintro e w2 ⟨rfl, hw⟩; rw [hw]; clear hw))
  go_loopw [5, 6] (fun s5 s6 wr => ∃ i : Nat, j + 1 ≤ i ∧ i ≤ S ∧ s5 = .int .i64 (16 - (t : Int) + 16 * ((i : Int) - 1 - (j : Int))) ∧ s6 = .int .i64 (segOf S st i : Int) ∧ wr = W1) (fun s5 _ _ => 1000 - (intOf s5).toNat)
  case atStart => exact ⟨j + 1, by omega, by omega, by congr 1; omega, rfl, rfl⟩
  case round =>
    obtain ⟨i, hi1, hi2, rfl, rfl, rfl⟩ := hrel
    obtain ⟨i, rfl⟩ : ∃ k, i = k + 1 := ⟨i - 1, by omega⟩
    have hr := hrd i (by omega)
    have hw2 : IntKind.i64.wrap (16 - (t : Int) + 16 * (((i + 1 : Nat) : Int) - 1 - (j : Int)) + 16) = 16 - (t : Int) + 16 * (((i + 1 + 1 : Nat) : Int) - 1 - (j : Int)) := by rw [wrap_int ⟨by omega, by omega⟩]; omega
    by_cases hend : i + 1 = S
    · have hb : ((segOf S st (i + 1) : Int) != (st : Int)) = false := by rw [hr.2 hend]; simp
      have he : leftI S j t = 16 - (t : Int) + 16 * (((i + 1 : Nat) : Int) - 1 - (j : Int)) := by unfold leftI; omega
      replace he : Hid (leftI S j t = 16 - (t : Int) + 16 * (((i + 1 : Nat) : Int) - 1 - (j : Int))) := he
      clear hw2 hrd hr hend
      generalize (16 - (t : Int) + 16 * (((i + 1 : Nat) : Int) - 1 - (j : Int))) = LL at *
      go_wp2
      go_ret
      rw [he.out]
      exact ⟨rfl, hB1⟩
    · have hb : ((segOf S st (i + 1) : Int) != (st : Int)) = true := by rw [bne_iff_ne]; intro q; exact hend (hr.1 (by omega))
      have hm1 : (0 : Int) ≤ 16 - (t : Int) + 16 * (((i + 1 : Nat) : Int) - 1 - (j : Int)) ∧ 16 - (t : Int) + 16 * (((i + 1 : Nat) : Int) - 1 - (j : Int)) < 900 := by omega
      have hm2 : 16 - (t : Int) + 16 * (((i + 1 + 1 : Nat) : Int) - 1 - (j : Int)) = 16 - (t : Int) + 16 * (((i + 1 : Nat) : Int) - 1 - (j : Int)) + 16 := by omega
      generalize hL1 : 16 - (t : Int) + 16 * (((i + 1 : Nat) : Int) - 1 - (j : Int)) = L1 at *
      generalize hL2 : 16 - (t : Int) + 16 * (((i + 1 + 1 : Nat) : Int) - 1 - (j : Int)) = L2 at *
      replace hL2 : Hid (16 - (t : Int) + 16 * (((i + 1 + 1 : Nat) : Int) - 1 - (j : Int)) = L2) := hL2
      replace hm2 : Hid (L2 = L1 + 16) := hm2
      clear hL1 hr hrd
      go_wp2_with (first
        | ((with_reducible refine (hnx (i + 1) _).mono ?_); rintro e w2 ⟨rfl, hw⟩; rw [hw]; clear hw))
      go_roundw
      case rel => exact ⟨i + 1 + 1, by omega, by omega, by rw [hL2.out], rfl, by trivial⟩
      case measure => have := hm2.out; simp [intOf]; omega
/-- Where a record goes, as a value. -/
def plv (S ep nx st j t z : Nat) : RLg := if room S j t nx z = true then ⟨ep, nx, st, segOf S st (toJ j t z), toT t z⟩ else ⟨ep, nx, st, segOf S st j, t⟩
theorem set34 {W : World} {g ep nx st nw t : Nat} (m : Nat) (h : Blk W g 42 (ll ⟨ep, nx, st, nw, t⟩)) :
    Blk ((W.setCell ⟨g, 3, none⟩ (.int .i64 (m : Int))).setCell ⟨g, 4, none⟩ (.int .i64 0)) g 42 (ll ⟨ep, nx, st, m, 0⟩) ∧ W.grownBy ((W.setCell ⟨g, 3, none⟩ (.int .i64 (m : Int))).setCell ⟨g, 4, none⟩ (.int .i64 0)) (some g) :=
  ⟨(h.put 3 _).put 4 _, grown2 (only_put W ⟨g, 3, none⟩ _) (only_put _ ⟨g, 4, none⟩ _)⟩
theorem some_ne {a b : Nat} (h : a < b) : some b ≠ some a := fun q => by
  have := Option.some.inj q
  omega
set_option maxHeartbeats 1000000 in
theorem ref_place {n S st j t : Nat} (hc : Can n S st j t) (ep nx z : Nat) (hz : z ≤ 12) (w : World) :
    Calls Try.prog 46 #[lv ⟨ep, nx, st, segOf S st j, t⟩, .int .i64 (n : Int), .int .i64 (z : Int)] w fun e w' => e = .returned (.tuple #[lv (plv S ep nx st j t z), .bool (room S j t nx z)]) ∧ Below w.heap.size w w' := by
  have hnx := fun W => ref_Next (n : Int) (segOf S st j : Int) W
  simp only [(hc.next _).1, (hc.next _).2] at hnx
  have hrd := seg_round hc.2.2.2.1 hc.2.2.2.2.1
  obtain ⟨-, -, -, hst, hj, ht⟩ := hc
  have hw1 : IntKind.i64.wrap ((t : Int) + (z : Int)) = (t : Int) + (z : Int) := wrap_int ⟨by omega, by omega⟩
  have key : ∀ {W1 W2 : World}, Below w.heap.size w W1 → Below W1.heap.size W1 W2 → Below w.heap.size w W2 := fun h k => bnext h k
  by_cases h0 : z = 0
  · have e1 : room S j t nx z = false := by simp [room, h0]
    have e2 : plv S ep nx st j t z = ⟨ep, nx, st, segOf S st j, t⟩ := by unfold plv; rw [if_neg (by simp [e1])]
    have hb : ((z : Int) == 0) = true := by simp [h0]
    rw [e1, e2]
    clear e1 e2 h0 hrd
    go_enter Try.func46, Try.ntmps46
    go_wp2_with (first
      | ((refine at_box_ll _ _ (by rfl) (by rfl) (by rfl) ?_); intro W1 hY1 hB1 hz1; have hk1 := cells5 hY1)
      | ((refine at_alloc_ll (by rfl) (by rfl) ?_); intro W2 hY2 hB2 hz2; have hY12 := hY1.below hB2; have hk2 := cells5 hY12)
      | ((refine at_load_ll _ _ _ (by rfl) (by rfl) hY12 (by rfl) ?_))
      | ((refine at_store_ll _ _ _ _ _ (by rfl) (by rfl) (by rfl) hY2 rfl (by rfl) ?_); intro W3 hY3 hg3 hz3))
    exact ret_ll2 rfl rfl _ _ rfl hY3 ⟨rfl, (bnext hB1 hB2).grown hg3 (bnext hB1 hB2).size (by have := hB1.size; simp; omega)⟩
  have hz0 : ((z : Int) == 0) = false := by simp; omega
  by_cases h1 : nx = 0
  · have e1 : room S j t nx z = false := by simp [room, h1]
    have e2 : plv S ep nx st j t z = ⟨ep, nx, st, segOf S st j, t⟩ := by unfold plv; rw [if_neg (by simp [e1])]
    have hb : ((nx : Int) == 0) = true := by simp [h1]
    rw [e1, e2]
    clear e1 e2 h1 hrd
    go_enter Try.func46, Try.ntmps46
    go_wp2_with (first
      | ((refine at_box_ll _ _ (by rfl) (by rfl) (by rfl) ?_); intro W1 hY1 hB1 hz1; have hk1 := cells5 hY1)
      | ((refine at_alloc_ll (by rfl) (by rfl) ?_); intro W2 hY2 hB2 hz2; have hY12 := hY1.below hB2; have hk2 := cells5 hY12)
      | ((refine at_load_ll _ _ _ (by rfl) (by rfl) hY12 (by rfl) ?_))
      | ((refine at_store_ll _ _ _ _ _ (by rfl) (by rfl) (by rfl) hY2 rfl (by rfl) ?_); intro W3 hY3 hg3 hz3))
    exact ret_ll2 rfl rfl _ _ rfl hY3 ⟨rfl, (bnext hB1 hB2).grown hg3 (bnext hB1 hB2).size (by have := hB1.size; simp; omega)⟩
  have hn0 : ((nx : Int) == 0) = false := by simp; omega
  by_cases h2 : t + z ≤ 16
  · have e1 : room S j t nx z = true := by
      unfold room free
      rw [decide_eq_true (show 0 < z by omega), decide_eq_true (show nx ≠ 0 from h1), decide_eq_true h2]
      rfl
    have e2 : plv S ep nx st j t z = ⟨ep, nx, st, segOf S st j, t⟩ := by unfold plv toJ toT; rw [if_pos e1, if_pos h2, if_pos h2]
    have hb : decide (16 < (t : Int) + (z : Int)) = false := decide_eq_false (by omega)
    rw [e1, e2]
    clear e1 e2 h1 hrd h2
    go_enter Try.func46, Try.ntmps46
    go_wp2_with (first
      | ((refine at_box_ll _ _ (by rfl) (by rfl) (by rfl) ?_); intro W1 hY1 hB1 hz1; have hk1 := cells5 hY1)
      | ((refine at_alloc_ll (by rfl) (by rfl) ?_); intro W2 hY2 hB2 hz2; have hY12 := hY1.below hB2; have hk2 := cells5 hY12)
      | ((refine at_load_ll _ _ _ (by rfl) (by rfl) hY12 (by rfl) ?_))
      | ((refine at_store_ll _ _ _ _ _ (by rfl) (by rfl) (by rfl) hY2 rfl (by rfl) ?_); intro W3 hY3 hg3 hz3))
    exact ret_ll2 rfl rfl _ _ rfl hY3 ⟨rfl, (bnext hB1 hB2).grown hg3 (bnext hB1 hB2).size (by have := hB1.size; simp; omega)⟩
  have hb : decide (16 < (t : Int) + (z : Int)) = true := decide_eq_true (by omega)
  by_cases h3 : j + 1 = S
  · have e1 : room S j t nx z = false := by
      unfold room free
      rw [decide_eq_false h2, decide_eq_false (show ¬ j + 1 < S by omega)]
      simp
    have e2 : plv S ep nx st j t z = ⟨ep, nx, st, segOf S st j, t⟩ := by unfold plv; rw [if_neg (by simp [e1])]
    have hbe : ((segOf S st (j + 1) : Int) == (st : Int)) = true := by rw [hrd.2 h3]; simp
    rw [e1, e2]
    clear e1 e2 h1 hrd h2 h3
    go_enter Try.func46, Try.ntmps46
    go_wp2_with (first
      | ((refine at_box_ll _ _ (by rfl) (by rfl) (by rfl) ?_); intro W1 hY1 hB1 hz1; have hk1 := cells5 hY1)
      | ((refine at_alloc_ll (by rfl) (by rfl) ?_); intro W2 hY2 hB2 hz2; have hY12 := hY1.below hB2; have hk2 := cells5 hY12)
      | ((with_reducible refine (hnx _).mono ?_); rintro e w2 ⟨rfl, hw⟩; rw [hw]; clear hw)
      | ((refine at_load_ll _ _ _ (by rfl) (by rfl) hY12 (by rfl) ?_))
      | ((refine at_store_ll _ _ _ _ _ (by rfl) (by rfl) (by rfl) hY2 rfl (by rfl) ?_); intro W3 hY3 hg3 hz3))
    exact ret_ll2 rfl rfl _ _ rfl hY3 ⟨rfl, (bnext hB1 hB2).grown hg3 (bnext hB1 hB2).size (by have := hB1.size; simp; omega)⟩
  · have e1 : room S j t nx z = true := by
      unfold room free
      rw [decide_eq_true (show 0 < z by omega), decide_eq_true (show nx ≠ 0 from h1), decide_eq_true (show j + 1 < S by omega)]
      simp
    have e2 : plv S ep nx st j t z = ⟨ep, nx, st, segOf S st (j + 1), 0⟩ := by unfold plv toJ toT; rw [if_pos e1, if_neg h2, if_neg h2]
    have hbe : ((segOf S st (j + 1) : Int) == (st : Int)) = false := by
      rw [beq_eq_false_iff_ne]
      intro q
      exact h3 (hrd.1 (by omega))
    rw [e1, e2]
    clear e1 e2 h1 hrd h2 h3
    go_enter Try.func46, Try.ntmps46
    go_wp2_with (first
      | ((refine at_box_ll _ _ (by rfl) (by rfl) (by rfl) ?_); intro W1 hY1 hB1 hz1; have hk1 := cells5 hY1)
      | ((refine at_alloc_ll (by rfl) (by rfl) ?_); intro W2 hY2 hB2 hz2; have hY12 := hY1.below hB2; have hk2 := cells5 hY12; have hf2 := hY12.frozen; obtain ⟨hYs, hgs⟩ := set34 (segOf S st (j + 1)) hY12; have hYr := hY2.kept hgs (some_ne hY1.lt))
      | ((with_reducible refine (hnx _).mono ?_); rintro e w2 ⟨rfl, hw⟩; rw [hw]; clear hw)
      | ((refine at_load_ll _ _ _ (by rfl) (by rfl) hYs (by rfl) ?_))
      | ((refine at_store_ll _ _ _ _ _ (by rfl) (by rfl) (by rfl) hYr rfl (by rfl) ?_); intro W3 hY3 hg3 hz3))
    have hB12 := (bnext hB1 hB2).grown hgs (bnext hB1 hB2).size (by simp)
    exact ret_ll2 rfl rfl _ _ rfl hY3 ⟨rfl, hB12.grown hg3 hB12.size (by have := hB1.size; simp; omega)⟩
end Go.Proofs.Ythgafnommcodcaa.Wal
