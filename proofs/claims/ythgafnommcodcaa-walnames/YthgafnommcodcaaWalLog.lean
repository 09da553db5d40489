/-
  A log in memory: Start, place, Room, Sync, Next, Seg, Left.
-/
import Derived.Test.YthgafnommcodcaaWalTold
import Derived.Test.YthgafnommcodcaaAreaCalls
import Derived.Test.YthgafnommcodcaaFrameMade
import Derived.Test.YthgafnommcodcaaDiskWrite
namespace Go.Proofs.Ythgafnommcodcaa.Wal
open Go.RowKit Go.Proofs.Ythgafnommcodcaa.Mem Go.Proofs.Ythgafnommcodcaa.Sect Go.Proofs.Ythgafnommcodcaa.Frame Go.Proofs.Ythgafnommcodcaa.Disk Go.Proofs.Ythgafnommcodcaa.Area
set_option maxRecDepth 100000

/-- A log's cells: its disk, epoch, next number, the segment begun with, the one in which it is, how many sectors are taken. -/
def lgc (g ep nx st nw t : Nat) : List Value := [.pointer (some ⟨g, 0, none⟩), .int .u32 (ep : Int), .int .u64 (nx : Int), .int .i64 (st : Int), .int .i64 (nw : Int), .int .i64 (t : Int)]
/-- A place that can be. -/
def Can (n S st j t : Nat) : Prop := 64 ≤ n ∧ n ≤ 512 ∧ S = segsN n ∧ st < S ∧ j < S ∧ t ≤ 16
theorem Can.two {n S st j t : Nat} (h : Can n S st j t) : 1 < S ∧ S ≤ 30 := by
  obtain ⟨h1, h2, h3, _⟩ := h
  unfold segsN at h3
  omega
theorem Can.seg {n S st j t : Nat} (h : Can n S st j t) (i : Nat) : there (n : Int) (segOf S st i : Int) = true := by
  have := seg_lt st i (show 0 < S by have := h.two; omega)
  obtain ⟨h1, h2, h3, _⟩ := h
  unfold segsN at h3
  exact there_iff.2 (by omega)
theorem Can.begin {n S st j t : Nat} (h : Can n S st j t) : there (n : Int) (st : Int) = true := by
  have := h.seg 0
  rwa [seg_first h.2.2.2.1] at this
theorem Can.place {n S st j t : Nat} (h : Can n S st j t) (i : Nat) : plc (n : Int) (segOf S st i : Int) = ((adr S st i 0 : Nat) : Int) ∧ plE (n : Int) (segOf S st i : Int) = 0 := by
  refine ⟨?_, plE_ok (h.seg i)⟩
  rw [plc_ok (h.seg i)]
  unfold adr
  omega
theorem Can.next {n S st j t : Nat} (h : Can n S st j t) (i : Nat) : nxt (n : Int) (segOf S st i : Int) = (segOf S st (i + 1) : Int) ∧ plE (n : Int) (segOf S st i : Int) = 0 := by
  refine ⟨?_, plE_ok (h.seg i)⟩
  rw [nxt_ok (h.seg i), ← seg_next h.two.1]
  obtain ⟨h1, h2, h3, _⟩ := h
  unfold segsN at h3
  split <;> split <;> omega
theorem Can.segs {n S st j t : Nat} (h : Can n S st j t) : cnt (n : Int) = (S : Int) ∧ segE (n : Int) = 0 := by
  have hf := there_fits h.begin
  rw [cnt_ok hf, segE_ok hf]
  obtain ⟨h1, h2, h3, _⟩ := h
  unfold segsN at h3
  exact ⟨by omega, rfl⟩
theorem Can.used {n S st j t : Nat} (h : Can n S st j t) : usd (n : Int) (st : Int) (segOf S st j : Int) = ((j + 1 : Nat) : Int) ∧ usE (n : Int) (st : Int) (segOf S st j : Int) = 0 := by
  refine ⟨?_, usE_ok h.begin (h.seg j)⟩
  rw [usd_ok h.begin (h.seg j)]
  obtain ⟨h1, h2, h3, h4, h5, _⟩ := h
  have e : (((n : Int) - 32) / 16) = (S : Int) := by unfold segsN at h3; omega
  rw [e]
  unfold way segOf
  rcases Nat.lt_or_ge (st + j) S with h | h
  · rw [Nat.mod_eq_of_lt h]
    split <;> omega
  · rw [Nat.mod_eq_sub_mod h, Nat.mod_eq_of_lt (by omega)]
    split <;> omega
/-- Where a record of so many sectors goes. -/
def toJ (j t z : Nat) : Nat := if t + z ≤ 16 then j else j + 1
def toT (t z : Nat) : Nat := if t + z ≤ 16 then t else 0
def free (S j t z : Nat) : Bool := decide (t + z ≤ 16) || decide (j + 1 < S)
def room (S j t nx z : Nat) : Bool := decide (0 < z) && (decide (nx ≠ 0) && free S j t z)

/-- How many sectors a payload of so many bytes needs. -/
def sizeN (p : Int) : Nat := if 0 ≤ p then size p.toNat else 0
theorem sizeI_sizeN (p : Int) : sizeI p = (sizeN p : Int) := by unfold sizeI sizeN; split <;> rfl
theorem sizeN_nat (m : Nat) : sizeN (m : Int) = size m := by unfold sizeN; rw [if_pos (by omega), Int.toNat_natCast]
theorem size_le (m : Nat) : size m ≤ 12 := by unfold size; split <;> omega
theorem sizeN_le (p : Int) : sizeN p ≤ 12 := by unfold sizeN; split; exact size_le _; omega

/-- Can a log begin there? -/
def chk (n k : Int) (s : Nat) : Int := if there n k = true then (if s = 0 then 81 else 0) else 91
section
variable {S0 : Nat → Prop} {B g : Nat} {w : World} {d : Dsk}
theorem wal_check (h : Dk B S0 w g d) (s : Nat) (k : Int) :
    Calls Try.prog 34 #[.pointer (some ⟨g, 0, none⟩), .int .u64 (s : Int), .int .i64 k] w fun e w' => e = .returned (.int .i64 (chk d.st.length k s)) ∧ w' = w := by
  have hl := len_any h
  have hs := area_Seg (d.st.length : Int) k w
  unfold chk
  cases ht : there (d.st.length : Int) k with
  | false =>
    rw [plc_no ht, plE_no ht] at hs
    clear ht
    rw [if_neg (by simp)]
    go_enter Try.func34, Try.ntmps34
    go_wp2_with (first
      | ((with_reducible refine hl.mono ?_); rintro e w1 ⟨rfl, hw⟩; rw [hw]; clear hw)
      | ((with_reducible refine hs.mono ?_); rintro e w1 ⟨rfl, hw⟩; rw [hw]; clear hw))
    go_ret
    exact ⟨rfl, rfl⟩
  | true =>
    rw [plE_ok ht] at hs
    generalize plc (d.st.length : Int) k = P at hs
    clear ht
    rw [if_pos rfl]
    by_cases h0 : s = 0
    · have hb : ((s : Int) == 0) = true := by simp [h0]
      rw [if_pos h0]
      clear h0
      go_enter Try.func34, Try.ntmps34
      go_wp2_with (first
        | ((with_reducible refine hl.mono ?_); rintro e w1 ⟨rfl, hw⟩; rw [hw]; clear hw)
        | ((with_reducible refine hs.mono ?_); rintro e w1 ⟨rfl, hw⟩; rw [hw]; clear hw))
      go_ret
      exact ⟨rfl, rfl⟩
    · have hb : ((s : Int) == 0) = false := by simp; omega
      rw [if_neg h0]
      clear h0
      go_enter Try.func34, Try.ntmps34
      go_wp2_with (first
        | ((with_reducible refine hl.mono ?_); rintro e w1 ⟨rfl, hw⟩; rw [hw]; clear hw)
        | ((with_reducible refine hs.mono ?_); rintro e w1 ⟨rfl, hw⟩; rw [hw]; clear hw))
      go_ret
      exact ⟨rfl, rfl⟩
theorem wal_Start_no (h : Dk B S0 w g d) (ep s : Nat) (k : Int) {E : Int} (hE : chk d.st.length k s = E) (hE0 : E ≠ 0) :
    Calls Try.prog 9 #[.pointer (some ⟨g, 0, none⟩), .int .u32 (ep : Int), .int .u64 (s : Int), .int .i64 k] w fun e w' => e = .returned (.tuple #[.pointer none, .int .i64 E]) ∧ w' = w := by
  have hc := wal_check h s k
  rw [hE] at hc
  have hb : (E != 0) = true := by simp [hE0]
  clear hE hE0
  go_enter Try.func9, Try.ntmps9
  go_wp2_with (first
    | ((with_reducible refine hc.mono ?_); rintro e w1 ⟨rfl, hw⟩; rw [hw]; clear hw))
  go_ret2
  exact ⟨rfl, rfl⟩
theorem wal_Start (h : Dk B S0 w g d) (ep s k : Nat) (hE : chk d.st.length k s = 0) :
    Calls Try.prog 9 #[.pointer (some ⟨g, 0, none⟩), .int .u32 (ep : Int), .int .u64 (s : Int), .int .i64 (k : Int)] w fun e w' => ∃ gl, e = .returned (.tuple #[.pointer (some ⟨gl, 0, none⟩), .int .i64 0]) ∧ w.heap.size ≤ gl ∧ Blk w' gl 86 (lgc g ep s k k 0) ∧ Below w.heap.size w w' := by
  have hc := wal_check h s k
  rw [hE] at hc
  clear hE
  go_enter Try.func9, Try.ntmps9
  go_wp2_with (first
    | ((with_reducible refine hc.mono ?_); rintro e w1 ⟨rfl, hw⟩; rw [hw]; clear hw))
  go_ret2
  exact ⟨_, rfl, Nat.le_refl _, Blk.new w _ _, bnew w _⟩
variable {gl S ep nx st j t : Nat}
theorem wal_place (h : Dk B S0 w g d) (hY : Blk w gl 86 (lgc g ep nx st (segOf S st j) t)) (hc : Can d.st.length S st j t) (z : Nat) (hz : z ≤ 16) :
    Calls Try.prog 43 #[.pointer (some ⟨gl, 0, none⟩), .int .i64 (z : Int)] w fun e w' => e = .returned (.tuple #[.int .i64 (segOf S st (toJ j t z) : Int), .int .i64 (toT t z : Int), .bool (free S j t z)]) ∧ Below w.heap.size w w' := by
  have hl := fun {W : World} (hW : Below w.heap.size w W) => len_any (h.below hW)
  obtain ⟨hn, hE⟩ := hc.next j
  have hs := fun W => area_Next (d.st.length : Int) (segOf S st j : Int) W
  have hr := seg_round hc.2.2.2.1 hc.2.2.2.2.1
  have hlt := hc.2.2.2.2
  simp only [hn, hE] at hs
  clear hn hE
  unfold lgc at hY
  have hk := hY.cell
  unfold toJ toT free
  have hwr : IntKind.i64.wrap ((t : Int) + (z : Int)) = (t : Int) + (z : Int) := wrap_int ⟨by omega, by omega⟩
  have hB := (Below.refl w.heap.size w).drew
  have k0 := hk 0
  have k3 := hk 3
  have k4 := hk 4
  have k5 := hk 5
  simp only [List.getElem?_cons_zero, List.getElem?_cons_succ] at k0 k3 k4 k5
  by_cases h1 : t + z ≤ 16
  · have hd : decide ((t : Int) + (z : Int) ≤ 16) = true := by simp; omega
    rw [if_pos h1, if_pos h1, decide_eq_true h1, Bool.true_or]
    clear hs hl hr
    go_enter Try.func43, Try.ntmps43
    go_wp2
    go_quiet (fail)
    go_wp2
    go_ret3
    exact ⟨rfl, bdrewN _ _⟩
  · have hd : decide ((t : Int) + (z : Int) ≤ 16) = false := by simp; omega
    rw [if_neg h1, if_neg h1, decide_eq_false h1, Bool.false_or]
    have hdj : decide (j + 1 < S) = ((segOf S st (j + 1) : Int) != (st : Int)) := by
      rw [Bool.eq_iff_iff, decide_eq_true_eq, bne_iff_ne]
      omega
    rw [hdj]
    clear hr hdj
    go_enter Try.func43, Try.ntmps43
    go_wp2
    go_region_held (fun W => W.cell? ⟨gl, 0, none⟩ = some (.pointer (some ⟨g, 0, none⟩)) ∧ W.cell? ⟨gl, 3, none⟩ = some (.int .i64 st) ∧ W.cell? ⟨gl, 4, none⟩ = some (.int .i64 (segOf S st j))) (first | exact ⟨k0, k3, k4⟩ | assumption)
      ((first
        | ((with_reducible refine (hl hB).mono ?_); rintro e w1 ⟨rfl, hw⟩; rw [hw]; clear hw)
        | ((with_reducible refine (hs _).mono ?_); rintro e w1 ⟨rfl, hw⟩; rw [hw]; clear hw)))
    go_wp2
    go_quiet (fail)
    go_wp2
    go_ret3
    exact ⟨rfl, bnext hB (bdrewN _ _)⟩
theorem wal_Room (h : Dk B S0 w g d) (hY : Blk w gl 86 (lgc g ep nx st (segOf S st j) t)) (hc : Can d.st.length S st j t) (p : Int) :
    Calls Try.prog 19 #[.pointer (some ⟨gl, 0, none⟩), .int .i64 p] w fun e w' => e = .returned (.bool (room S j t nx (sizeN p))) ∧ Below w.heap.size w w' := by
  have hS := fun w => frame_Size p w
  rw [sizeI_sizeN] at hS
  have hz := sizeN_le p
  generalize sizeN p = z at *
  have hp := wal_place h hY hc z (by omega)
  unfold lgc at hY
  have hk := hY.cell
  unfold room
  by_cases h1 : z = 0
  · have hb : ((z : Int) == 0) = true := by simp [h1]
    rw [show decide (0 < z) = false by simp [h1], Bool.false_and]
    clear h1
    go_enter Try.func19, Try.ntmps19
    go_wp2_with (first
      | ((with_reducible refine (hS _).mono ?_); rintro e w1 ⟨rfl, hw⟩; rw [hw]; clear hw))
    go_ret
    exact ⟨rfl, Below.refl _ _⟩
  · have hb : ((z : Int) == 0) = false := by simp; omega
    rw [show decide (0 < z) = true by simp; omega, Bool.true_and]
    clear h1
    by_cases h2 : nx = 0
    · have hb2 : ((nx : Int) == 0) = true := by simp [h2]
      rw [show decide (nx ≠ 0) = false by simp [h2], Bool.false_and]
      clear h2
      go_enter Try.func19, Try.ntmps19
      go_wp2_with (first
        | ((with_reducible refine (hS _).mono ?_); rintro e w1 ⟨rfl, hw⟩; rw [hw]; clear hw))
      go_ret
      exact ⟨rfl, Below.refl _ _⟩
    · have hb2 : ((nx : Int) == 0) = false := by simp; omega
      rw [show decide (nx ≠ 0) = true by simp [h2], Bool.true_and]
      clear h2
      generalize free S j t z = F at *
      go_enter Try.func19, Try.ntmps19
      go_wp2_with (first
        | ((with_reducible refine (hS _).mono ?_); rintro e w1 ⟨rfl, hw⟩; rw [hw]; clear hw)
        | ((with_reducible refine hp.mono ?_); rintro e w2 ⟨rfl, hB2⟩))
      go_ret
      exact ⟨rfl, hB2⟩
theorem wal_Next (hY : Blk w gl 86 (lgc g ep nx st (segOf S st j) t)) :
    Calls Try.prog 27 #[.pointer (some ⟨gl, 0, none⟩)] w fun e w' => e = .returned (.int .u64 (nx : Int)) ∧ w' = w := by
  unfold lgc at hY
  have hk := hY.cell
  go_enter Try.func27, Try.ntmps27
  go_wp2
  go_ret
  exact ⟨rfl, rfl⟩
theorem wal_Seg (hY : Blk w gl 86 (lgc g ep nx st (segOf S st j) t)) :
    Calls Try.prog 28 #[.pointer (some ⟨gl, 0, none⟩)] w fun e w' => e = .returned (.int .i64 (segOf S st j : Int)) ∧ w' = w := by
  unfold lgc at hY
  have hk := hY.cell
  go_enter Try.func28, Try.ntmps28
  go_wp2
  go_ret
  exact ⟨rfl, rfl⟩
/-- How many sectors are left. -/
def leftI (S j t : Nat) : Int := 16 - (t : Int) + 16 * ((S : Int) - 1 - (j : Int))
theorem wal_Left (h : Dk B S0 w g d) (hY : Blk w gl 86 (lgc g ep nx st (segOf S st j) t)) (hc : Can d.st.length S st j t) :
    Calls Try.prog 29 #[.pointer (some ⟨gl, 0, none⟩)] w fun e w' => e = .returned (.int .i64 (leftI S j t)) ∧ Below w.heap.size w w' := by
  have hl := fun {W : World} (hW : Below w.heap.size w W) => len_any (h.below hW)
  obtain ⟨hn, hE⟩ := hc.segs
  have hs := fun W => area_Segs (d.st.length : Int) W
  simp only [hn, hE] at hs
  obtain ⟨hn2, hE2⟩ := hc.used
  have hu := fun W => area_Used (d.st.length : Int) (st : Int) (segOf S st j : Int) W
  simp only [hn2, hE2] at hu
  have hS2 := hc.two
  have hlt := hc.2.2.2.2
  clear hn hE hn2 hE2
  unfold lgc at hY
  have hk := hY.cell
  have hB := (Below.refl w.heap.size w).drew
  have k0 := hk 0
  have k3 := hk 3
  have k4 := hk 4
  have k5 := hk 5
  simp only [List.getElem?_cons_zero, List.getElem?_cons_succ] at k0 k3 k4 k5
  have w1 : IntKind.i64.wrap ((S : Int) - ((j + 1 : Nat) : Int)) = (S : Int) - ((j + 1 : Nat) : Int) := wrap_int ⟨by omega, by omega⟩
  have w2 : IntKind.i64.wrap ((S : Int) - ((j + 1 : Nat) : Int) + 1) = (S : Int) - ((j + 1 : Nat) : Int) + 1 := wrap_int ⟨by omega, by omega⟩
  have w3 : IntKind.i64.wrap (((S : Int) - ((j + 1 : Nat) : Int) + 1) * 16) = ((S : Int) - ((j + 1 : Nat) : Int) + 1) * 16 := wrap_int ⟨by omega, by omega⟩
  have w4 : IntKind.i64.wrap (((S : Int) - ((j + 1 : Nat) : Int) + 1) * 16 - (t : Int)) = ((S : Int) - ((j + 1 : Nat) : Int) + 1) * 16 - (t : Int) := wrap_int ⟨by omega, by omega⟩
  have e : leftI S j t = ((S : Int) - ((j + 1 : Nat) : Int) + 1) * 16 - (t : Int) := by unfold leftI; omega
  rw [e]
  generalize ((j + 1 : Nat) : Int) = J at *
  clear e hS2
  go_enter Try.func29, Try.ntmps29
  go_wp2_with (first
    | ((with_reducible refine (hl (Below.refl _ _)).mono ?_); rintro e w1 ⟨rfl, hw⟩; rw [hw]; clear hw)
    | ((with_reducible refine (hs _).mono ?_); rintro e w1 ⟨rfl, hw⟩; rw [hw]; clear hw))
  go_region_held (fun W => W.cell? ⟨gl, 0, none⟩ = some (.pointer (some ⟨g, 0, none⟩)) ∧ W.cell? ⟨gl, 3, none⟩ = some (.int .i64 st) ∧ W.cell? ⟨gl, 4, none⟩ = some (.int .i64 (segOf S st j))) (first | exact ⟨k0, k3, k4⟩ | assumption)
    ((first
      | ((with_reducible refine (hl hB).mono ?_); rintro e w1 ⟨rfl, hw⟩; rw [hw]; clear hw)
      | ((with_reducible refine (hu _).mono ?_); rintro e w1 ⟨rfl, hw⟩; rw [hw]; clear hw)))
  go_wp2
  go_ret
  exact ⟨rfl, hB⟩
theorem wal_Sync (h : Dk B S0 w g d) (hY : Blk w gl 86 (lgc g ep nx st (segOf S st j) t)) (hd : d.ok) :
    Calls Try.prog 17 #[.pointer (some ⟨gl, 0, none⟩)] w fun e w' => e = .returned (.int .i64 d.err) ∧ Went B S0 w w' g d.sync := by
  have hs := sync_any h hd
  unfold lgc at hY
  have hk := hY.cell
  go_enter Try.func17, Try.ntmps17
  go_wp2_with (first
    | ((with_reducible refine hs.mono ?_); rintro e w1 ⟨rfl, hW⟩))
  go_ret
  exact ⟨rfl, hW⟩
end
end Go.Proofs.Ythgafnommcodcaa.Wal
