/-
  The law's payload: so many bytes, beginning with some byte; and records held against each other.
-/
import Derived.Test.YthgafnommcodcaaWalScan
import Derived.Test.YthgafnommcodcaaFrameRef
import Derived.Deep.CutRange
namespace Go.Proofs.Ythgafnommcodcaa.Wal
open Go.RowKit Go.Proofs.Ythgafnommcodcaa.Mem Go.Proofs.Ythgafnommcodcaa.Sect Go.Proofs.Ythgafnommcodcaa.Frame Go.Proofs.Ythgafnommcodcaa.Disk Go.Proofs.Ythgafnommcodcaa.Area
set_option maxRecDepth 100000

/-- How many bytes; the bytes. -/
def payN (n : Int) : Nat := (max 0 (min n 800)).toNat
def pay (n c : Int) : List Int := (List.range (payN n)).map fun (i : Nat) => (c + (i : Int)) % 256
theorem pay_len (n c : Int) : (pay n c).length = payN n := by simp [pay]
theorem pay_bytes (n c : Int) : ∀ x ∈ pay n c, Byte x := by
  intro x hx
  obtain ⟨i, _, rfl⟩ := List.mem_map.1 hx
  exact ⟨by omega, by omega⟩
/-- Laid so far. -/
def laidTo (P : List Int) (i : Nat) : List Int := P.take i ++ List.replicate (P.length - i) 0
theorem laid_next {P : List Int} {i : Nat} {x : Int} (h : P[i]? = some x) : (bs (laidTo P i)).set i (.int .u8 x) = bs (laidTo P (i + 1)) := by
  have hi := (List.getElem?_eq_some_iff.1 h).1
  unfold laidTo bs
  rw [List.take_add_one, h]
  have e : P.length - i = (P.length - (i + 1)) + 1 := by omega
  rw [e, List.replicate_succ, List.map_append, List.map_append, List.set_append_right _ _ (by rw [List.length_map, List.length_take]; omega), List.length_map, List.length_take, Nat.min_eq_left (by omega), Nat.sub_self]
  simp
theorem laid_len {P : List Int} {i : Nat} (h : i ≤ P.length) : (bs (laidTo P i)).length = P.length := by rw [bs_len, laidTo, List.length_append, List.length_take, List.length_replicate]; omega
section
variable {o : Oper} {a : Act} {w : World} {ops : Array Oper} {rest : List Oper} {Q : Exit → Act → World → Prop}
theorem at_make_u8 (x : Operand) (k : Int) (m : Nat) (ho : o.op = .makeSlice 48 x x) (hx : a.eval x = .int .i64 k) (hk : k = (m : Int)) (hm : m ≤ 1000) (hw : Region.wanted o (yielded ops a.tmps) = true)
    (h : ∀ w', Blk w' w.heap.size 5 ((List.replicate m (0 : Int)).map (Value.int .u8)) → Below w.heap.size w w' → wpList Try.prog ops Q rest (a.put o.dst (.slice (some ⟨w.heap.size, 0, none⟩) m m)) w') : wpList Try.prog ops Q (o :: rest) a w := by
  obtain ⟨i0, hi, hz0, hz1, hz2⟩ := info_parts info_byte
  obtain ⟨w2, hmk, B2, G2⟩ := run_make_blk (P := Try.prog) w 48 5 i0 .u8 Try.underlying48 hi hz0 hz1 hz2 m (by omega)
  subst hk
  refine BigFrame.wpList_want hw fun _ hK => ?_
  unfold Oper.wp execOp
  simp only [ho, hx, Sem.run_bind, Sem.run_pure, Result.andThen_ok, hmk]
  exact hK _ _ (h w2 B2 ((Below.refl _ w).grown G2 (Nat.le_refl _) (by simp)))
end
set_option maxHeartbeats 2000000 in
theorem payload_any (n c : Int) (w : World) :
    Calls Try.prog 14 #[.int .i64 n, .int .u8 c] w fun e w' => ∃ g, e = .returned (.slice (some ⟨g, 0, none⟩) (pay n c).length (pay n c).length) ∧ Reads .u8 w' (some ⟨g, 0, none⟩) (pay n c).length (pay n c) ∧ (w.heap.size ≤ g ∧ g < w'.heap.size) ∧ Below w.heap.size w w' := by
  have hm : max 0 (min n 800) = ((payN n : Nat) : Int) := by unfold payN; omega
  have hPl := pay_len n c
  have hPi : ∀ i, i < payN n → (pay n c)[i]? = some ((c + (i : Int)) % 256) := fun i hi => by
    unfold pay
    rw [List.getElem?_map, List.getElem?_range hi, Option.map_some]
  have hle : payN n ≤ 800 := by unfold payN; omega
  generalize pay n c = P at *
  generalize payN n = m at *
  go_enter Try.func14, Try.ntmps14
  go_upto_region 1 with fail
  go_cut [5] from 7 to 10 (fun v wc => v = .slice (some ⟨w.heap.size, 0, none⟩) m m ∧ Blk wc w.heap.size 5 ((List.replicate m (0 : Int)).map (Value.int .u8)) ∧ Below w.heap.size w wc)
  case first =>
    go_wp2_with (refine at_make_u8 _ _ m (by rfl) (by rfl) (by omega) (by omega) (by rfl) ?_; intro W hW hBW)
    all_goals
      go_meet
      case rel => exact ⟨rfl, hW, hBW⟩
  case rest =>
    obtain ⟨rfl, B2, hB2⟩ := hcut
    have B2' : Blk wc w.heap.size 5 (bs (laidTo P 0)) := by
      unfold laidTo
      rw [List.take_zero, List.nil_append, Nat.sub_zero, hPl]
      exact B2
    go_wp2
    go_loopw [13] (fun i wr => ∃ k : Nat, k ≤ m ∧ i = .int .i64 k ∧ Blk wr w.heap.size 5 (bs (laidTo P k)) ∧ Below w.heap.size w wr) (fun i _ => m - (intOf i).toNat)
    case atStart => exact ⟨0, by omega, rfl, B2', hB2⟩
    case round =>
      obtain ⟨k, hk, rfl, BV, hB⟩ := hrel
      by_cases hlt : k < m
      · have hlt2 : decide ((k : Int) < (m : Int)) = true := by simp; omega
        have hlt3 : (k : Int) < (m : Int) := by omega
        have hnx := laid_next (hPi k hlt)
        have hll := laid_len (P := P) (i := k) (by omega)
        have hc := BV.cell
        have hz := BV.frozen
        have hci : (bs (laidTo P k))[k]? = some (.int .u8 ((laidTo P k).getD k 0)) := bs_at (by have := bs_len (laidTo P k); omega)
        have hc2 := hc k
        rw [hci] at hc2
        have BV2 := BV.put k (.int .u8 ((c + (k : Int)) % 256))
        rw [hnx] at BV2
        clear hnx hci hc
        go_wp2
        go_roundw
        case rel => exact ⟨k + 1, by omega, by go_num, BV2, hB.grown (only_put _ _ _) hB.size (by intro j hj; simp at hj; omega)⟩
        case measure => simp [intOf]; omega
      · obtain rfl : k = m := by omega
        have e : laidTo P P.length = P := by unfold laidTo; rw [Nat.sub_self, List.take_of_length_le (by omega)]; simp
        rw [← hPl, e] at BV
        have hrd := BV.reads (by omega)
        have hlt9 := BV.lt
        go_wp2
        go_ret
        rw [← hPl]
        exact ⟨_, rfl, hrd, ⟨Nat.le_refl _, hlt9⟩, hB⟩
end Go.Proofs.Ythgafnommcodcaa.Wal
