/-
  The sectors of a segment, read.
-/
import Derived.Test.YthgafnommcodcaaWalTold
import Derived.Test.YthgafnommcodcaaAreaCalls
import Derived.Test.YthgafnommcodcaaFrameMade
import Derived.Test.YthgafnommcodcaaDiskWrite
import Derived.Test.YthgafnommcodcaaFrameCopy
/-
  A log in memory: Start, place, Room, Sync, Next, Seg, Left.
-/
namespace Go.Proofs.Ythgafnommcodcaa.Wal
open Go.RowKit Go.Proofs.Ythgafnommcodcaa.Mem Go.Proofs.Ythgafnommcodcaa.Sect Go.Proofs.Ythgafnommcodcaa.Frame Go.Proofs.Ythgafnommcodcaa.Disk Go.Proofs.Ythgafnommcodcaa.Area
set_option maxRecDepth 100000

/-- A log's cells: its disk, epoch, next number, the segment begun with, the one in which it is, how many sectors are taken. -/
def lgc (g ep nx st nw t : Nat) : List Value := [.pointer (some ⟨g, 0, none⟩), .int .u32 (ep : Int), .int .u64 (nx : Int), .int .i64 (st : Int), .int .i64 (nw : Int), .int .i64 (t : Int)]
/-- A place that can be. -/
def Can (n S st j t : Nat) : Prop := 64 ≤ n ∧ n ≤ 512 ∧ S = segsN n ∧ st < S ∧ j < S ∧ t ≤ 16
theorem Can.two {n S st j t : Nat} (h : Can n S st j t) : 1 < S ∧ S ≤ 30 := by
  obtain ⟨h1, h2, h3, _⟩ := h
  unfold segsN at h3
  omega
theorem Can.seg {n S st j t : Nat} (h : Can n S st j t) (i : Nat) : there (n : Int) (segOf S st i : Int) = true := by
  have := seg_lt st i (show 0 < S by have := h.two; omega)
  obtain ⟨h1, h2, h3, _⟩ := h
  unfold segsN at h3
  exact there_iff.2 (by omega)
theorem Can.begin {n S st j t : Nat} (h : Can n S st j t) : there (n : Int) (st : Int) = true := by
  have := h.seg 0
  rwa [seg_first h.2.2.2.1] at this
theorem Can.place {n S st j t : Nat} (h : Can n S st j t) (i : Nat) : plc (n : Int) (segOf S st i : Int) = ((adr S st i 0 : Nat) : Int) ∧ plE (n : Int) (segOf S st i : Int) = 0 := by
  refine ⟨?_, plE_ok (h.seg i)⟩
  rw [plc_ok (h.seg i)]
  unfold adr
  omega
theorem Can.next {n S st j t : Nat} (h : Can n S st j t) (i : Nat) : nxt (n : Int) (segOf S st i : Int) = (segOf S st (i + 1) : Int) ∧ plE (n : Int) (segOf S st i : Int) = 0 := by
  refine ⟨?_, plE_ok (h.seg i)⟩
  rw [nxt_ok (h.seg i), ← seg_next h.two.1]
  obtain ⟨h1, h2, h3, _⟩ := h
  unfold segsN at h3
  split <;> split <;> omega
theorem Can.segs {n S st j t : Nat} (h : Can n S st j t) : cnt (n : Int) = (S : Int) ∧ segE (n : Int) = 0 := by
  have hf := there_fits h.begin
  rw [cnt_ok hf, segE_ok hf]
  obtain ⟨h1, h2, h3, _⟩ := h
  unfold segsN at h3
  exact ⟨by omega, rfl⟩
theorem Can.used {n S st j t : Nat} (h : Can n S st j t) : usd (n : Int) (st : Int) (segOf S st j : Int) = ((j + 1 : Nat) : Int) ∧ usE (n : Int) (st : Int) (segOf S st j : Int) = 0 := by
  refine ⟨?_, usE_ok h.begin (h.seg j)⟩
  rw [usd_ok h.begin (h.seg j)]
  obtain ⟨h1, h2, h3, h4, h5, _⟩ := h
  have e : (((n : Int) - 32) / 16) = (S : Int) := by unfold segsN at h3; omega
  rw [e]
  unfold way segOf
  rcases Nat.lt_or_ge (st + j) S with h | h
  · rw [Nat.mod_eq_of_lt h]
    split <;> omega
  · rw [Nat.mod_eq_sub_mod h, Nat.mod_eq_of_lt (by omega)]
    split <;> omega
/-- Where a record of so many sectors goes. -/
def toJ (j t z : Nat) : Nat := if t + z ≤ 16 then j else j + 1
def toT (t z : Nat) : Nat := if t + z ≤ 16 then t else 0
def free (S j t z : Nat) : Bool := decide (t + z ≤ 16) || decide (j + 1 < S)
def room (S j t nx z : Nat) : Bool := decide (0 < z) && (decide (nx ≠ 0) && free S j t z)

/-- How many sectors a payload of so many bytes needs. -/
def sizeN (p : Int) : Nat := if 0 ≤ p then size p.toNat else 0
theorem sizeI_sizeN (p : Int) : sizeI p = (sizeN p : Int) := by unfold sizeI sizeN; split <;> rfl
theorem sizeN_nat (m : Nat) : sizeN (m : Int) = size m := by unfold sizeN; rw [if_pos (by omega), Int.toNat_natCast]
theorem size_le (m : Nat) : size m ≤ 12 := by unfold size; split <;> omega
theorem sizeN_le (p : Int) : sizeN p ≤ 12 := by unfold sizeN; split; exact size_le _; omega

/-- Can a log begin there? -/
def chk (n k : Int) (s : Nat) : Int := if there n k = true then (if s = 0 then 81 else 0) else 91
section
variable {S0 : Nat → Prop} {B g : Nat} {w : World} {d : Dsk}
theorem wal_check (h : Dk B S0 w g d) (s : Nat) (k : Int) :
    Calls Try.prog 34 #[.pointer (some ⟨g, 0, none⟩), .int .u64 (s : Int), .int .i64 k] w fun e w' => e = .returned (.int .i64 (chk d.st.length k s)) ∧ w' = w := by
  have hl := len_any h
  have hs := area_Seg (d.st.length : Int) k w
  unfold chk
  cases ht : there (d.st.length : Int) k with
  | false =>
    rw [plc_no ht, plE_no ht] at hs
    clear ht
    rw [if_neg (by simp)]
    go_enter Try.func34, Try.ntmps34
    go_wp2_with (first
      | ((with_reducible refine hl.mono ?_); rintro e w1 ⟨rfl, hw⟩; rw [hw]; clear hw)
      | ((with_reducible refine hs.mono ?_); rintro e w1 ⟨rfl, hw⟩; rw [hw]; clear hw))
    go_ret
    exact ⟨rfl, rfl⟩
  | true =>
    rw [plE_ok ht] at hs
    generalize plc (d.st.length : Int) k = P at hs
    clear ht
    rw [if_pos rfl]
    by_cases h0 : s = 0
    · have hb : ((s : Int) == 0) = true := by simp [h0]
      rw [if_pos h0]
      clear h0
      go_enter Try.func34, Try.ntmps34
      go_wp2_with (first
        | ((with_reducible refine hl.mono ?_); rintro e w1 ⟨rfl, hw⟩; rw [hw]; clear hw)
        | ((with_reducible refine hs.mono ?_); rintro e w1 ⟨rfl, hw⟩; rw [hw]; clear hw))
      go_ret
      exact ⟨rfl, rfl⟩
    · have hb : ((s : Int) == 0) = false := by simp; omega
      rw [if_neg h0]
      clear h0
      go_enter Try.func34, Try.ntmps34
      go_wp2_with (first
        | ((with_reducible refine hl.mono ?_); rintro e w1 ⟨rfl, hw⟩; rw [hw]; clear hw)
        | ((with_reducible refine hs.mono ?_); rintro e w1 ⟨rfl, hw⟩; rw [hw]; clear hw))
      go_ret
      exact ⟨rfl, rfl⟩
theorem wal_Start_no (h : Dk B S0 w g d) (ep s : Nat) (k : Int) {E : Int} (hE : chk d.st.length k s = E) (hE0 : E ≠ 0) :
    Calls Try.prog 9 #[.pointer (some ⟨g, 0, none⟩), .int .u32 (ep : Int), .int .u64 (s : Int), .int .i64 k] w fun e w' => e = .returned (.tuple #[.pointer none, .int .i64 E]) ∧ w' = w := by
  have hc := wal_check h s k
  rw [hE] at hc
  have hb : (E != 0) = true := by simp [hE0]
  clear hE hE0
  go_enter Try.func9, Try.ntmps9
  go_wp2_with (first
    | ((with_reducible refine hc.mono ?_); rintro e w1 ⟨rfl, hw⟩; rw [hw]; clear hw))
  go_ret2
  exact ⟨rfl, rfl⟩
theorem wal_Start (h : Dk B S0 w g d) (ep s k : Nat) (hE : chk d.st.length k s = 0) :
    Calls Try.prog 9 #[.pointer (some ⟨g, 0, none⟩), .int .u32 (ep : Int), .int .u64 (s : Int), .int .i64 (k : Int)] w fun e w' => ∃ gl, e = .returned (.tuple #[.pointer (some ⟨gl, 0, none⟩), .int .i64 0]) ∧ w.heap.size ≤ gl ∧ Blk w' gl 86 (lgc g ep s k k 0) ∧ Below w.heap.size w w' := by
  have hc := wal_check h s k
  rw [hE] at hc
  clear hE
  go_enter Try.func9, Try.ntmps9
  go_wp2_with (first
    | ((with_reducible refine hc.mono ?_); rintro e w1 ⟨rfl, hw⟩; rw [hw]; clear hw))
  go_ret2
  exact ⟨_, rfl, Nat.le_refl _, Blk.new w _ _, bnew w _⟩
variable {gl S ep nx st j t : Nat}
theorem wal_place (h : Dk B S0 w g d) (hY : Blk w gl 86 (lgc g ep nx st (segOf S st j) t)) (hc : Can d.st.length S st j t) (z : Nat) (hz : z ≤ 16) :
    Calls Try.prog 43 #[.pointer (some ⟨gl, 0, none⟩), .int .i64 (z : Int)] w fun e w' => e = .returned (.tuple #[.int .i64 (segOf S st (toJ j t z) : Int), .int .i64 (toT t z : Int), .bool (free S j t z)]) ∧ Below w.heap.size w w' := by
  have hl := fun {W : World} (hW : Below w.heap.size w W) => len_any (h.below hW)
  obtain ⟨hn, hE⟩ := hc.next j
  have hs := fun W => area_Next (d.st.length : Int) (segOf S st j : Int) W
  have hr := seg_round hc.2.2.2.1 hc.2.2.2.2.1
  have hlt := hc.2.2.2.2
  simp only [hn, hE] at hs
  clear hn hE
  unfold lgc at hY
  have hk := hY.cell
  unfold toJ toT free
  have hwr : IntKind.i64.wrap ((t : Int) + (z : Int)) = (t : Int) + (z : Int) := wrap_int ⟨by omega, by omega⟩
  have hB := (Below.refl w.heap.size w).drew
  have k0 := hk 0
  have k3 := hk 3
  have k4 := hk 4
  have k5 := hk 5
  simp only [List.getElem?_cons_zero, List.getElem?_cons_succ] at k0 k3 k4 k5
  by_cases h1 : t + z ≤ 16
  · have hd : decide ((t : Int) + (z : Int) ≤ 16) = true := by simp; omega
    rw [if_pos h1, if_pos h1, decide_eq_true h1, Bool.true_or]
    clear hs hl hr
    go_enter Try.func43, Try.ntmps43
    go_wp2
    go_quiet (fail)
    go_wp2
    go_ret3
    exact ⟨rfl, bdrewN _ _⟩
  · have hd : decide ((t : Int) + (z : Int) ≤ 16) = false := by simp; omega
    rw [if_neg h1, if_neg h1, decide_eq_false h1, Bool.false_or]
    have hdj : decide (j + 1 < S) = ((segOf S st (j + 1) : Int) != (st : Int)) := by
      rw [Bool.eq_iff_iff, decide_eq_true_eq, bne_iff_ne]
      omega
    rw [hdj]
    clear hr hdj
    go_enter Try.func43, Try.ntmps43
    go_wp2
    go_region_held (fun W => W.cell? ⟨gl, 0, none⟩ = some (.pointer (some ⟨g, 0, none⟩)) ∧ W.cell? ⟨gl, 3, none⟩ = some (.int .i64 st) ∧ W.cell? ⟨gl, 4, none⟩ = some (.int .i64 (segOf S st j))) (first | exact ⟨k0, k3, k4⟩ | assumption)
      ((first
        | ((with_reducible refine (hl hB).mono ?_); rintro e w1 ⟨rfl, hw⟩; rw [hw]; clear hw)
        | ((with_reducible refine (hs _).mono ?_); rintro e w1 ⟨rfl, hw⟩; rw [hw]; clear hw)))
    go_wp2
    go_quiet (fail)
    go_wp2
    go_ret3
    exact ⟨rfl, bnext hB (bdrewN _ _)⟩
theorem wal_Room (h : Dk B S0 w g d) (hY : Blk w gl 86 (lgc g ep nx st (segOf S st j) t)) (hc : Can d.st.length S st j t) (p : Int) :
    Calls Try.prog 19 #[.pointer (some ⟨gl, 0, none⟩), .int .i64 p] w fun e w' => e = .returned (.bool (room S j t nx (sizeN p))) ∧ Below w.heap.size w w' := by
  have hS := fun w => frame_Size p w
  rw [sizeI_sizeN] at hS
  have hz := sizeN_le p
  generalize sizeN p = z at *
  have hp := wal_place h hY hc z (by omega)
  unfold lgc at hY
  have hk := hY.cell
  unfold room
  by_cases h1 : z = 0
  · have hb : ((z : Int) == 0) = true := by simp [h1]
    rw [show decide (0 < z) = false by simp [h1], Bool.false_and]
    clear h1
    go_enter Try.func19, Try.ntmps19
    go_wp2_with (first
      | ((with_reducible refine (hS _).mono ?_); rintro e w1 ⟨rfl, hw⟩; rw [hw]; clear hw))
    go_ret
    exact ⟨rfl, Below.refl _ _⟩
  · have hb : ((z : Int) == 0) = false := by simp; omega
    rw [show decide (0 < z) = true by simp; omega, Bool.true_and]
    clear h1
    by_cases h2 : nx = 0
    · have hb2 : ((nx : Int) == 0) = true := by simp [h2]
      rw [show decide (nx ≠ 0) = false by simp [h2], Bool.false_and]
      clear h2
      go_enter Try.func19, Try.ntmps19
      go_wp2_with (first
        | ((with_reducible refine (hS _).mono ?_); rintro e w1 ⟨rfl, hw⟩; rw [hw]; clear hw))
      go_ret
      exact ⟨rfl, Below.refl _ _⟩
    · have hb2 : ((nx : Int) == 0) = false := by simp; omega
      rw [show decide (nx ≠ 0) = true by simp [h2], Bool.true_and]
      clear h2
      generalize free S j t z = F at *
      go_enter Try.func19, Try.ntmps19
      go_wp2_with (first
        | ((with_reducible refine (hS _).mono ?_); rintro e w1 ⟨rfl, hw⟩; rw [hw]; clear hw)
        | ((with_reducible refine hp.mono ?_); rintro e w2 ⟨rfl, hB2⟩))
      go_ret
      exact ⟨rfl, hB2⟩
theorem wal_Next (hY : Blk w gl 86 (lgc g ep nx st (segOf S st j) t)) :
    Calls Try.prog 27 #[.pointer (some ⟨gl, 0, none⟩)] w fun e w' => e = .returned (.int .u64 (nx : Int)) ∧ w' = w := by
  unfold lgc at hY
  have hk := hY.cell
  go_enter Try.func27, Try.ntmps27
  go_wp2
  go_ret
  exact ⟨rfl, rfl⟩
theorem wal_Seg (hY : Blk w gl 86 (lgc g ep nx st (segOf S st j) t)) :
    Calls Try.prog 28 #[.pointer (some ⟨gl, 0, none⟩)] w fun e w' => e = .returned (.int .i64 (segOf S st j : Int)) ∧ w' = w := by
  unfold lgc at hY
  have hk := hY.cell
  go_enter Try.func28, Try.ntmps28
  go_wp2
  go_ret
  exact ⟨rfl, rfl⟩
/-- How many sectors are left. -/
def leftI (S j t : Nat) : Int := 16 - (t : Int) + 16 * ((S : Int) - 1 - (j : Int))
theorem wal_Left (h : Dk B S0 w g d) (hY : Blk w gl 86 (lgc g ep nx st (segOf S st j) t)) (hc : Can d.st.length S st j t) :
    Calls Try.prog 29 #[.pointer (some ⟨gl, 0, none⟩)] w fun e w' => e = .returned (.int .i64 (leftI S j t)) ∧ Below w.heap.size w w' := by
  have hl := fun {W : World} (hW : Below w.heap.size w W) => len_any (h.below hW)
  obtain ⟨hn, hE⟩ := hc.segs
  have hs := fun W => area_Segs (d.st.length : Int) W
  simp only [hn, hE] at hs
  obtain ⟨hn2, hE2⟩ := hc.used
  have hu := fun W => area_Used (d.st.length : Int) (st : Int) (segOf S st j : Int) W
  simp only [hn2, hE2] at hu
  have hS2 := hc.two
  have hlt := hc.2.2.2.2
  clear hn hE hn2 hE2
  unfold lgc at hY
  have hk := hY.cell
  have hB := (Below.refl w.heap.size w).drew
  have k0 := hk 0
  have k3 := hk 3
  have k4 := hk 4
  have k5 := hk 5
  simp only [List.getElem?_cons_zero, List.getElem?_cons_succ] at k0 k3 k4 k5
  have w1 : IntKind.i64.wrap ((S : Int) - ((j + 1 : Nat) : Int)) = (S : Int) - ((j + 1 : Nat) : Int) := wrap_int ⟨by omega, by omega⟩
  have w2 : IntKind.i64.wrap ((S : Int) - ((j + 1 : Nat) : Int) + 1) = (S : Int) - ((j + 1 : Nat) : Int) + 1 := wrap_int ⟨by omega, by omega⟩
  have w3 : IntKind.i64.wrap (((S : Int) - ((j + 1 : Nat) : Int) + 1) * 16) = ((S : Int) - ((j + 1 : Nat) : Int) + 1) * 16 := wrap_int ⟨by omega, by omega⟩
  have w4 : IntKind.i64.wrap (((S : Int) - ((j + 1 : Nat) : Int) + 1) * 16 - (t : Int)) = ((S : Int) - ((j + 1 : Nat) : Int) + 1) * 16 - (t : Int) := wrap_int ⟨by omega, by omega⟩
  have e : leftI S j t = ((S : Int) - ((j + 1 : Nat) : Int) + 1) * 16 - (t : Int) := by unfold leftI; omega
  rw [e]
  generalize ((j + 1 : Nat) : Int) = J at *
  clear e hS2
  go_enter Try.func29, Try.ntmps29
  go_wp2_with (first
    | ((with_reducible refine (hl (Below.refl _ _)).mono ?_); rintro e w1 ⟨rfl, hw⟩; rw [hw]; clear hw)
    | ((with_reducible refine (hs _).mono ?_); rintro e w1 ⟨rfl, hw⟩; rw [hw]; clear hw))
  go_region_held (fun W => W.cell? ⟨gl, 0, none⟩ = some (.pointer (some ⟨g, 0, none⟩)) ∧ W.cell? ⟨gl, 3, none⟩ = some (.int .i64 st) ∧ W.cell? ⟨gl, 4, none⟩ = some (.int .i64 (segOf S st j))) (first | exact ⟨k0, k3, k4⟩ | assumption)
    ((first
      | ((with_reducible refine (hl hB).mono ?_); rintro e w1 ⟨rfl, hw⟩; rw [hw]; clear hw)
      | ((with_reducible refine (hu _).mono ?_); rintro e w1 ⟨rfl, hw⟩; rw [hw]; clear hw)))
  go_wp2
  go_ret
  exact ⟨rfl, hB⟩
theorem wal_Sync (h : Dk B S0 w g d) (hY : Blk w gl 86 (lgc g ep nx st (segOf S st j) t)) (hd : d.ok) :
    Calls Try.prog 17 #[.pointer (some ⟨gl, 0, none⟩)] w fun e w' => e = .returned (.int .i64 d.err) ∧ Went B S0 w w' g d.sync := by
  have hs := sync_any h hd
  unfold lgc at hY
  have hk := hY.cell
  go_enter Try.func17, Try.ntmps17
  go_wp2_with (first
    | ((with_reducible refine hs.mono ?_); rintro e w1 ⟨rfl, hW⟩))
  go_ret
  exact ⟨rfl, hW⟩
end
end Go.Proofs.Ythgafnommcodcaa.Wal
/-
  A log's write: sectors one behind the other, up to the first error.
-/
namespace Go.Proofs.Ythgafnommcodcaa.Wal
open Go.RowKit Go.Proofs.Ythgafnommcodcaa.Mem Go.Proofs.Ythgafnommcodcaa.Sect Go.Proofs.Ythgafnommcodcaa.Frame Go.Proofs.Ythgafnommcodcaa.Disk Go.Proofs.Ythgafnommcodcaa.Area
set_option maxRecDepth 100000

theorem writes_yes {d : Dsk} {i : Nat} (s : Sec) (r : List Sec) (h : d.putE i = 0) : writes d i (s :: r) = writes (d.put i s) (i + 1) r := by rw [writes, if_pos h]
theorem writes_no {d : Dsk} {i : Nat} (s : Sec) (r : List Sec) (h : d.putE i ≠ 0) : writes d i (s :: r) = (d.put i s, d.putE i) := by rw [writes, if_neg h]
theorem drop_at {α : Type} {l : List α} {i : Nat} {s : α} (h : l[i]? = some s) : l.drop i = s :: l.drop (i + 1) := by
  have hi := (List.getElem?_eq_some_iff.1 h).1
  rw [List.drop_eq_getElem_cons hi, (List.getElem?_eq_some_iff.1 h).2]
/-- The log's disk and the sector at hand lie there. -/
def Wr2 (gl g G : Nat) (s : Sec) (W : World) : Prop := W.cell? ⟨gl, 0, none⟩ = some (.pointer (some ⟨g, 0, none⟩)) ∧ W.rangeAt G 0 (sc s)
section
variable {S0 : Nat → Prop} {B g : Nat} {w : World} {d : Dsk} {gl S ep nx st j t : Nat}
set_option maxHeartbeats 2000000 in
theorem wal_write (h : Dk B S0 w g d) (hY : Blk w gl 86 (lgc g ep nx st (segOf S st j) t)) (hgl : ¬ S0 gl) (hc : Can d.st.length S st j t) (hd : d.ok) (j' t' : Nat) (l : List Sec) (q : Option Addr) (m c : Nat) (hm : l.length = m) (hm2 : m ≤ 12) (ht : t' + m ≤ 16)
    (hp : d.pe.length + m ≤ 1000) (r : RK sc w q c l) (ho : Off S0 q m) :
    Calls Try.prog 44 #[.pointer (some ⟨gl, 0, none⟩), .int .i64 (segOf S st j' : Int), .int .i64 (t' : Int), .slice q m c] w fun e w' => e = .returned (.int .i64 (writes d (adr S st j' t') l).2) ∧ Went B S0 w w' g (writes d (adr S st j' t') l).1 := by
  have hl := len_any h
  obtain ⟨hn, hE⟩ := hc.place j'
  have hs := area_Seg (d.st.length : Int) (segOf S st j' : Int) w
  rw [hn, hE] at hs
  have ha : adr S st j' t' = adr S st j' 0 + t' := by unfold adr; omega
  have hA : adr S st j' 0 ≤ 1000 := by
    have := seg_lt st j' (show 0 < S by have := hc.two; omega)
    have := hc.two
    unfold adr
    omega
  rw [ha]
  generalize adr S st j' 0 = A at *
  clear hn hE ha
  unfold lgc at hY
  have hk := hY.cell
  have hus := und_sec
  go_enter Try.func44, Try.ntmps44
  go_wp2_with (first
    | ((with_reducible refine hl.mono ?_); rintro e w1 ⟨rfl, hw⟩; rw [hw]; clear hw)
    | ((with_reducible refine hs.mono ?_); rintro e w1 ⟨rfl, hw⟩; rw [hw]; clear hw))
  clear hl hs hk
  go_loopw [29] (fun n wr => ∃ (i : Nat) (d' : Dsk) (S' : Nat → Prop), i ≤ m ∧ n = .int .i64 i ∧ Hid (writes d (A + t') l = writes d' (A + t' + i) (l.drop i)) ∧ d'.ok ∧ d'.pe.length ≤ d.pe.length + i ∧ Dk B S' wr g d' ∧ Fr S0 w wr ∧ Hid (∀ k, S' k → S0 k ∨ w.heap.size ≤ k)) (fun n _ => m - (intOf n).toNat)
  case atStart => exact ⟨0, d, S0, by omega, rfl, rfl, hd, by omega, h, Fr.refl _ _, fun k hk => .inl hk⟩
  case round =>
    obtain ⟨i, d', S', hi, rfl, HW, hok, hpe, hD, hF, hS'⟩ := hrel
    have hYr := hF.blk hY hgl
    have hkr := hYr.cell 0
    simp only [List.getElem?_cons_zero] at hkr
    have rr := RKfr r (by rw [hm]; exact ho) hF
    by_cases hlt : i < m
    · obtain ⟨s, hsi⟩ : ∃ s, l[i]? = some s := ⟨_, List.getElem?_eq_getElem (by omega)⟩
      obtain ⟨b, o, rfl, hr⟩ := rk_range sc_len rr hsi
      have hlt2 : decide ((i : Int) < (m : Int)) = true := by simp; omega
      have hsz := size_sec s
      have w1 : IntKind.i64.wrap ((A : Int) + (t' : Int)) = (A : Int) + (t' : Int) := wrap_int ⟨by omega, by omega⟩
      have w2 : IntKind.i64.wrap ((A : Int) + (t' : Int) + (i : Int)) = (A : Int) + (t' : Int) + (i : Int) := wrap_int ⟨by omega, by omega⟩
      have hcast : ((A : Int) + (t' : Int) + (i : Int)) = ((A + t' + i : Nat) : Int) := by omega
      have hwr := fun {W : World} (hW : Below wr.heap.size wr W) => write_any (hD.below hW) hok ((A : Int) + (t' : Int) + (i : Int)) s
      rw [hcast] at hwr
      simp only [secv] at hwr
      rw [← hcast] at hwr
      go_wp2_with (first
        | ((refine at_load_sec _ _ _ _ (by rfl) (by rfl) hr (by rfl) ?_))
        | ((refine at_alloc_sec (by rfl) (by rfl) ?_); intro W1 hW1 hB1 hz1)
        | ((refine at_store_sec _ _ _ _ _ (by rfl) (by rfl) (by rfl) hW1 (by rfl) ?_); intro W2 hW2 hg2 hz2))
      have hB2 : Below wr.heap.size wr W2 := hB1.grown hg2 hB1.size (by simp)
      have hB2d : Below wr.heap.size wr W2.drew := hB2.drew
      have k0 : W2.drew.cell? ⟨gl, 0, none⟩ = some (.pointer (some ⟨g, 0, none⟩)) := (hYr.below hB2d).cell 0
      have kS : W2.drew.rangeAt wr.heap.size 0 (sc s) := blk_sec hW2.drew
      have kE : Blk W2.drew wr.heap.size 70 (sc s) := hW2.drew
      have kY := hYr.below hB2d
      have hnG : ¬ S' wr.heap.size := fun q => by have := hD.lt _ q; omega
      have hnl : ¬ S' gl := fun q => by
        rcases hS'.out _ q with q | q
        · exact hgl q
        · have := hY.lt; omega
      obtain ⟨E, hE⟩ : ∃ E, d'.putE ((A + t' + i : Nat) : Int) = E := ⟨_, rfl⟩
      rw [hcast, hE, ← hcast] at hwr
      replace hE : Hid (d'.putE ((A + t' + i : Nat) : Int) = E) := hE
      replace hcast : Hid ((A : Int) + (t' : Int) + (i : Int) = ((A + t' + i : Nat) : Int)) := hcast
      go_region_held (fun W => W.cell? ⟨gl, 0, none⟩ = some (.pointer (some ⟨g, 0, none⟩)) ∧ W.rangeAt wr.heap.size 0 (sc s)) (first | exact ⟨k0, kS⟩ | exact ⟨k6, k7⟩ | assumption)
        (((with_reducible refine (hwr hB2d).mono ?_); rintro e w6 ⟨rfl, S6, hD6, hF6, hS6⟩; have k6 : w6.cell? ⟨gl, 0, none⟩ = some (.pointer (some ⟨g, 0, none⟩)) := ((hF6.blk kY hnl).cell 0); have k7 : w6.rangeAt wr.heap.size 0 (sc s) := blk_sec (hF6.blk kE hnG)))
      have hF' : Fr S0 w w6 := hF.trans ((Fr.of_below hB2d S').trans hF6 (fun _ h => .inl h)) hS'.out
      have hSS : ∀ k, S6 k → S0 k ∨ w.heap.size ≤ k := fun k hk => by
        rcases hS6 k hk with q | q
        · exact hS'.out k q
        · exact .inr (by have := hF.size; have := hB2d.size; omega)
      rw [hcast.out] at hD6
      have e1 := drop_at hsi
      have hpl := put_len d' ((A + t' + i : Nat) : Int) s
      have hok2 := put_ok hok ((A + t' + i : Nat) : Int) s (by omega)
      by_cases h0 : E = 0
      · have hb : (E != 0) = false := by simp [h0]
        have hp0 : d'.putE ((A + t' + i : Nat) : Int) = 0 := hE.out.trans h0
        have HW2 : Hid (writes d (A + t') l = writes (d'.put ((A + t' + i : Nat) : Int) s) (A + t' + (i + 1)) (l.drop (i + 1))) := by
          unfold Hid
          rw [HW.out, e1, writes_yes _ _ hp0, Nat.add_assoc (A + t') i 1]
        have hl1 : (d'.put ((A + t' + i : Nat) : Int) s).pe.length ≤ d.pe.length + (i + 1) := by have := hpl.1; omega
        have hSS' : Hid (∀ k, S6 k → S0 k ∨ w.heap.size ≤ k) := hSS
        generalize d'.put ((A + t' + i : Nat) : Int) s = d6 at *
        clear e1 hwr hSS hp0 hE HW hS6 hpl k0 k6 k7 kS kE kY hkr
        go_wp2
        go_roundw
        case rel => exact ⟨i + 1, d6, S6, by omega, by go_num, HW2, hok2, hl1, hD6, hF', hSS'⟩
        case measure => simp [intOf]; omega
      · have hb : (E != 0) = true := by simp [h0]
        have hp0 : d'.putE ((A + t' + i : Nat) : Int) ≠ 0 := by rw [hE.out]; exact h0
        have HW2 : Hid (writes d (A + t') l = (d'.put ((A + t' + i : Nat) : Int) s, E)) := by
          unfold Hid
          rw [HW.out, e1, writes_no _ _ hp0, hE.out]
        clear e1 hwr hp0 hE HW hpl k0 k6 k7 kS kE kY hkr
        go_wp2
        go_ret
        rw [HW2.out]
        exact ⟨rfl, S6, hD6, hF', hSS⟩
    · obtain rfl : i = m := by omega
      have e1 : l.drop i = [] := List.drop_of_length_le (by omega)
      have HW2 := HW.out
      rw [e1] at HW2
      replace HW2 : Hid (writes d (A + t') l = (d', 0)) := HW2
      clear HW e1 hkr
      go_wp2
      go_ret
      rw [HW2.out]
      exact ⟨rfl, S', hD, hF, hS'.out⟩
end
end Go.Proofs.Ythgafnommcodcaa.Wal
/-
  A log's Append.
-/
namespace Go.Proofs.Ythgafnommcodcaa.Wal
open Go.RowKit Go.Proofs.Ythgafnommcodcaa.Mem Go.Proofs.Ythgafnommcodcaa.Sect Go.Proofs.Ythgafnommcodcaa.Frame Go.Proofs.Ythgafnommcodcaa.Disk Go.Proofs.Ythgafnommcodcaa.Area
set_option maxRecDepth 100000

theorem wrap_more (n : Nat) : IntKind.u64.wrap ((n : Int) + 1) = ((more n : Nat) : Int) := by rw [IntKind.wrap_u64]; unfold more; omega
/-- The disk, and the log, and no more has turned. -/
def Wen (B : Nat) (S0 : Nat → Prop) (w w' : World) (g gl : Nat) (d : Dsk) (L : List Value) : Prop :=
  ∃ S', Dk B S' w' g d ∧ Fr (fun k => S0 k ∨ k = gl) w w' ∧ (∀ k, S' k → S0 k ∨ w.heap.size ≤ k) ∧ Blk w' gl 86 L
theorem right_of {nx : Nat} {p : List Int} (hl : p.length ≤ 700) (h0 : nx ≠ 0) : right nx p = true := by
  unfold right
  simp only [Bool.and_eq_true, decide_eq_true_eq]
  omega
theorem to_fits {t z : Nat} (hz : z ≤ 12) : toT t z + z ≤ 16 := by unfold toT; split <;> omega
theorem own_fr {T : Nat → Prop} {B : Nat} {w w' : World} {e : TypeId} {k n : Nat} {v : Value} {xs : List Value} (h : w.ownsRow B e k v n xs) (hF : Fr T w w') (hT : ∀ b, v.ownBlock = some b → ¬ T b) : w'.ownsRow B e k v n xs := by
  refine ⟨h.1, ?_⟩
  rcases h.2 with h | ⟨g, cap, cur, h1, h2, h3, h4⟩
  · exact .inl h
  · refine .inr ⟨g, cap, cur, h1, h2, (hF.2.2.2.2 g (Array.getElem?_eq_some_iff.1 h3).1 (hT g (by rw [h1]; rfl))).trans h3, h4⟩
/-- A disk stays while what is none of it turns. -/
theorem dk_fr {S T : Nat → Prop} {B g : Nat} {w w' : World} {d : Dsk} (h : Dk B S w g d) (hF : Fr T w w') (hT : ∀ k, S k → ¬ T k) : Dk B S w' g d := by
  obtain ⟨vs, vp, h1, h2, h3, h4, h5, h6, h7⟩ := h
  exact ⟨vs, vp, hF.blk h1 (hT g h4), own_fr h2 hF fun b hb => hT b (h5 b hb).1, own_fr h3 hF fun b hb => hT b (h6 b hb).1, h4, h5, h6, fun k hk => ⟨(h7 k hk).1, Nat.lt_of_lt_of_le (h7 k hk).2 hF.size⟩⟩
section
variable {S0 : Nat → Prop} {B g : Nat} {w : World} {d : Dsk} {gl S ep nx st j t : Nat}
theorem wal_Append_long (q : Option Addr) (m c : Nat) (hz : sizeN (m : Int) = 0) :
    Calls Try.prog 15 #[.pointer (some ⟨gl, 0, none⟩), .slice q m c] w fun e w' => e = .returned (.tuple #[.int .u64 0, .int .i64 81]) ∧ w' = w := by
  have hS := fun w => frame_Size (m : Int) w
  rw [sizeI_sizeN, hz] at hS
  clear hz
  go_enter Try.func15, Try.ntmps15
  go_wp2_with (first
    | ((with_reducible refine (hS _).mono ?_); rintro e w1 ⟨rfl, hw⟩; rw [hw]; clear hw))
  go_ret2
  exact ⟨rfl, rfl⟩
theorem wal_Append_full (h : Dk B S0 w g d) (hY : Blk w gl 86 (lgc g ep nx st (segOf S st j) t)) (hc : Can d.st.length S st j t) (q : Option Addr) (m c : Nat) (hz : sizeN (m : Int) ≠ 0) (hr : room S j t nx (sizeN (m : Int)) = false) :
    Calls Try.prog 15 #[.pointer (some ⟨gl, 0, none⟩), .slice q m c] w fun e w' => e = .returned (.tuple #[.int .u64 0, .int .i64 101]) ∧ Below w.heap.size w w' := by
  have hS := fun w => frame_Size (m : Int) w
  rw [sizeI_sizeN] at hS
  have hR := wal_Room h hY hc (m : Int)
  rw [hr] at hR
  have hb : ((sizeN (m : Int) : Int) == 0) = false := by simp; omega
  clear hr hz
  generalize sizeN (m : Int) = z at *
  go_enter Try.func15, Try.ntmps15
  go_wp2_with (first
    | ((with_reducible refine (hS _).mono ?_); rintro e w1 ⟨rfl, hw⟩; rw [hw]; clear hw)
    | ((with_reducible refine hR.mono ?_); rintro e w2 ⟨rfl, hB2⟩))
  go_ret2
  exact ⟨rfl, hB2⟩
/-- There is room: the record's sectors are written where it goes. -/
theorem wal_Append_room (h : Dk B S0 w g d) (hY : Blk w gl 86 (lgc g ep nx st (segOf S st j) t)) (hgl : ¬ S0 gl) (hc : Can d.st.length S st j t) (hd : d.ok) (q : Option Addr) (m c : Nat) (p : List Int) (hm : p.length = m) (hpb : ∀ c ∈ p, Byte c) (r : Reads .u8 w q c p)
    (hr : room S j t nx (size m) = true) (hnx : nx < 18446744073709551616) (hep : ep < 4294967296) (hpe : d.pe.length ≤ 980) {D : Dsk} {E : Int} (hD : writes d (adr S st (toJ j t (size m)) (toT t (size m))) (made nx ep p) = (D, E)) :
    Calls Try.prog 15 #[.pointer (some ⟨gl, 0, none⟩), .slice q m c] w fun e w' =>
      (E = 0 ∧ e = .returned (.tuple #[.int .u64 (nx : Int), .int .i64 0]) ∧ Wen B S0 w w' g gl D (lgc g ep (more nx) st (segOf S st (toJ j t (size m))) (toT t (size m) + size m))) ∨
      (E ≠ 0 ∧ e = .returned (.tuple #[.int .u64 0, .int .i64 E]) ∧ Wen B S0 w w' g gl D (lgc g ep nx st (segOf S st j) t)) := by
  have hS := fun w => frame_Size (m : Int) w
  rw [sizeI_sizeN, sizeN_nat] at hS
  have hR := wal_Room h hY hc (m : Int)
  rw [sizeN_nat, hr] at hR
  simp only [room, Bool.and_eq_true, decide_eq_true_eq] at hr
  obtain ⟨h0, hn0, hfree⟩ := hr
  have hm7 : p.length ≤ 700 := by
    rw [hm]
    unfold size at h0
    split at h0 <;> omega
  have hrt := right_of hm7 hn0
  have hML := made_len (e := ep) hrt
  rw [hm] at hML
  have hz12 := size_le m
  have hfit := to_fits (t := t) hz12
  have hmk := fun W (rr : Reads .u8 W q c p) => frame_Make_ok nx ep q m c p hm hrt hnx hep hpb W rr
  rw [hML] at hmk
  have hP := fun {W : World} (hW : Below w.heap.size w W) => wal_place (h.below hW) (hY.below hW) hc (size m) (by omega)
  rw [hfree] at hP
  have hW := fun {W : World} (hW : Below w.heap.size w W) (q : Option Addr) (c : Nat) (rr : RK sc W q c (made nx ep p)) (ho : Off S0 q (size m)) => wal_write (h.below hW) (hY.below hW) hgl hc hd (toJ j t (size m)) (toT t (size m)) (made nx ep p) q (size m) c hML hz12 hfit (by omega) rr ho
  rw [hD] at hW
  generalize made nx ep p = M at *
  generalize hJ : toJ j t (size m) = j' at *
  generalize hT : toT t (size m) = t' at *
  generalize size m = z at *
  have hb : ((z : Int) == 0) = false := by simp; omega
  have hwm := wrap_more nx
  have hwt : IntKind.i64.wrap ((t' : Int) + (z : Int)) = ((t' + z : Nat) : Int) := by rw [wrap_int ⟨by omega, by omega⟩]; omega
  have hY0 := hY
  unfold lgc at hY
  have hlt := hY.lt
  have hoff : ∀ {W : World} (k : Nat), Below w.heap.size w W → W.heap.size ≤ k → Off S0 (some ⟨k, 0, none⟩) z := fun k hW hk _ a ha q => by
    obtain rfl : (⟨k, 0, none⟩ : Addr) = a := by simpa using ha
    have h1 := h.lt k q
    have h2 := hW.size
    omega
  by_cases hE : E = 0
  · subst hE
    go_enter Try.func15, Try.ntmps15
    go_wp2_with (first
      | ((with_reducible refine (hS _).mono ?_); rintro e w1 ⟨rfl, hw⟩; rw [hw]; clear hw)
      | ((with_reducible refine hR.mono ?_); rintro e w2 ⟨rfl, hB2⟩; have hk2 := (hY.below hB2).cell)
      | ((with_reducible refine (hmk _ (r.below hB2)).mono ?_); rintro e w3 ⟨g3, rfl, rk3, hB3, hg3⟩; have hB23 := bnext hB2 hB3)
      | ((with_reducible refine (hP hB23).mono ?_); rintro e w4 ⟨rfl, hB4⟩; have hB24 := bnext hB23 hB4)
      | ((with_reducible refine (hW hB24 _ _ (rk3.below hB4) (hoff g3 hB2 hg3)).mono ?_); rintro e w5 ⟨rfl, S5, hD5, hF5, hS5⟩; have hY5 := hF5.blk (hY.below hB24) hgl; have hk5 := hY5.cell; have hz5 := hY5.frozen))
    have hgr := grown2 (grown2 (only_put w5 ⟨gl, 4, none⟩ (.int .i64 (segOf S st j' : Int))) (only_put _ ⟨gl, 5, none⟩ (.int .i64 ((t' + z : Nat) : Int)))) (only_put _ ⟨gl, 2, none⟩ (.int .u64 ((more nx : Nat) : Int)))
    have hY6 := ((hY5.put 4 (.int .i64 (segOf S st j' : Int))).put 5 (.int .i64 ((t' + z : Nat) : Int))).put 2 (.int .u64 ((more nx : Nat) : Int))
    have hF6 : Fr (fun k => k = gl) w5 _ := Fr.of_grown hgr (fun k hk => (Option.some.inj hk).symm)
    have hn5 : ∀ k, S5 k → k ≠ gl := fun k hk e => by
      subst e
      rcases hS5 _ hk with q | q
      · exact hgl q
      · have := hB24.size; omega
    go_ret2
    refine .inl ⟨trivial, rfl, S5, dk_fr hD5 hF6 hn5, ?_, fun k hk => ?_, hY6⟩
    · exact ((Fr.of_below hB24 _).trans hF5 (fun n hn => .inl (.inl hn))).trans hF6 (fun n hn => .inl (.inr hn))
    · rcases hS5 k hk with q | q
      · exact .inl q
      · exact .inr (by have := hB24.size; omega)
  · have hbE : (E != 0) = true := by simp [hE]
    go_enter Try.func15, Try.ntmps15
    go_wp2_with (first
      | ((with_reducible refine (hS _).mono ?_); rintro e w1 ⟨rfl, hw⟩; rw [hw]; clear hw)
      | ((with_reducible refine hR.mono ?_); rintro e w2 ⟨rfl, hB2⟩; have hk2 := (hY.below hB2).cell)
      | ((with_reducible refine (hmk _ (r.below hB2)).mono ?_); rintro e w3 ⟨g3, rfl, rk3, hB3, hg3⟩; have hB23 := bnext hB2 hB3)
      | ((with_reducible refine (hP hB23).mono ?_); rintro e w4 ⟨rfl, hB4⟩; have hB24 := bnext hB23 hB4)
      | ((with_reducible refine (hW hB24 _ _ (rk3.below hB4) (hoff g3 hB2 hg3)).mono ?_); rintro e w5 ⟨rfl, S5, hD5, hF5, hS5⟩; have hY5 := hF5.blk (hY.below hB24) hgl))
    go_ret2
    refine .inr ⟨hE, rfl, S5, hD5, ?_, fun k hk => ?_, hY5⟩
    · exact (Fr.of_below hB24 _).trans hF5 (fun n hn => .inl (.inl hn))
    · rcases hS5 k hk with q | q
      · exact .inl q
      · exact .inr (by have := hB24.size; omega)
end
end Go.Proofs.Ythgafnommcodcaa.Wal
namespace Go.Proofs.Ythgafnommcodcaa.Wal
open Go.RowKit Go.Proofs.Ythgafnommcodcaa.Mem Go.Proofs.Ythgafnommcodcaa.Sect Go.Proofs.Ythgafnommcodcaa.Frame Go.Proofs.Ythgafnommcodcaa.Disk Go.Proofs.Ythgafnommcodcaa.Area
set_option maxRecDepth 100000

/-- Read so far. -/
def seen (V : List Sec) (i : Nat) : List Sec := V.take i ++ List.replicate (V.length - i) zero
theorem seen_len (V : List Sec) {i : Nat} (h : i ≤ V.length) : (seen V i).length = V.length := by unfold seen; rw [List.length_append, List.length_take, List.length_replicate]; omega
theorem seen_next {V : List Sec} {i : Nat} {s : Sec} (h : V[i]? = some s) : (seen V i).set i s = seen V (i + 1) := by
  have hi := (List.getElem?_eq_some_iff.1 h).1
  unfold seen
  rw [List.take_add_one, h, List.append_assoc]
  have e : V.length - i = (V.length - (i + 1)) + 1 := by omega
  rw [e, List.replicate_succ, List.set_append_right _ _ (by rw [List.length_take]; omega), List.length_take, Nat.min_eq_left (by omega), Nat.sub_self]
  rfl
theorem view_at {rd : Rd} {j i : Nat} (h : i < 16) : (view rd j 0)[i]? = some (rd j i) := by
  unfold view
  rw [List.getElem?_map, List.getElem?_range (by omega), Option.map_some, Nat.zero_add]
section
variable {S0 : Nat → Prop} {B g : Nat} {w : World} {d : Dsk} {S st j t : Nat}
set_option maxHeartbeats 2000000 in
theorem wal_segment (h : Dk B S0 w g d) (hd : d.ok) (hc : Can d.st.length S st j t) (i : Nat) :
    Calls Try.prog 38 #[.pointer (some ⟨g, 0, none⟩), .int .i64 (segOf S st i : Int)] w fun e w' => ∃ G, e = .returned (.slice (some ⟨G, 0, none⟩) 16 16) ∧ RK sc w' (some ⟨G, 0, none⟩) 16 (view (vis d S st) i 0) ∧ Below w.heap.size w w' := by
  have hl := len_any h
  obtain ⟨hn, hE⟩ := hc.place i
  have hs := area_Seg (d.st.length : Int) (segOf S st i : Int) w
  rw [hn, hE] at hs
  have hA : adr S st i 0 ≤ 1000 := by
    have := seg_lt st i (show 0 < S by have := hc.two; omega)
    have := hc.two
    unfold adr
    omega
  have hav : ∀ u : Nat, adr S st i u = adr S st i 0 + u := fun u => by unfold adr; omega
  have hrd := fun {W : World} (hW : Below w.heap.size w W) (k : Int) => read_any (h.below hW) hd k
  obtain ⟨V, hV⟩ : ∃ V, view (vis d S st) i 0 = V := ⟨_, rfl⟩
  have hVl : V.length = 16 := by rw [← hV, view_len]
  have hVi : ∀ k, k < 16 → V[k]? = some (d.read ((adr S st i 0 + k : Nat) : Int)).1 := fun k hk => by
    rw [← hV, view_at hk, ← hav k]
    rfl
  rw [hV]
  clear hV hn hE hav
  generalize adr S st i 0 = A at *
  obtain ⟨w2, hmk, O2, G2⟩ := run_make_secs w 16 16 rfl (by omega)
  have B2 : Blk w2 w.heap.size 70 (bs (flat (seen V 0))) := by
    rcases O2.2 with ⟨h, _⟩ | ⟨g, cap, cur, hv, _, hh, _, _, hcs, htk⟩
    · simp at h
    · simp only [Value.slice.injEq, Option.some.injEq, Addr.mk.injEq, and_true, true_and] at hv
      obtain ⟨rfl, rfl⟩ := hv
      unfold Blk
      rw [hh]
      rw [List.take_of_length_le (by rw [Array.length_toList, hcs]; exact Nat.le_refl _), sc_flat] at htk
      rw [seen, List.take_zero, List.nil_append, hVl, ← htk]
  have hB2 : Below w.heap.size w w2 := (Below.refl _ w).grown G2 (Nat.le_refl _) (by simp)
  clear O2 G2
  go_enter Try.func38, Try.ntmps38
  go_wp2_with (first
    | ((with_reducible refine hl.mono ?_); rintro e w1 ⟨rfl, hw⟩; rw [hw]; clear hw)
    | ((with_reducible refine hs.mono ?_); rintro e w1 ⟨rfl, hw⟩; rw [hw]; clear hw))
  clear hl hs hmk
  go_loopw [19] (fun n wr => ∃ k : Nat, k ≤ 16 ∧ n = .int .i64 k ∧ Blk wr w.heap.size 70 (bs (flat (seen V k))) ∧ Below w.heap.size w wr) (fun n _ => 16 - (intOf n).toNat)
  case atStart => exact ⟨0, by omega, rfl, B2, hB2⟩
  case round =>
    obtain ⟨k, hk, rfl, BV, hB⟩ := hrel
    by_cases hlt : k < 16
    · have hlt2 : decide ((k : Int) < 16) = true := by simp; omega
      have hlt3 : (k : Int) < 16 := by omega
      have w1 : IntKind.i64.wrap ((A : Int) + (k : Int)) = (A : Int) + (k : Int) := wrap_int ⟨by omega, by omega⟩
      have hcast : ((A : Int) + (k : Int)) = ((A + k : Nat) : Int) := by omega
      have hr1 := hrd hB ((A : Int) + (k : Int))
      have hVk := hVi k hlt
      rw [← hcast] at hVk
      generalize d.read ((A : Int) + (k : Int)) = R at hr1 hVk
      have hnx := seen_next hVk
      have hsl := seen_len V (i := k) (by omega)
      replace hcast : Hid ((A : Int) + (k : Int) = ((A + k : Nat) : Int)) := hcast
      clear hVk
      go_wp2_with (first
        | ((with_reducible refine hr1.mono ?_); rintro e w4 ⟨rfl, hB4⟩; have BV4 := BV.below hB4)
        | (refine at_store_in _ _ w.heap.size _ (seen V k) k R.1 (by rfl) (by rfl) (by rfl) BV4 (by omega) (by rfl) ?_; intro W9 B9 G9))
      go_roundw
      case rel => exact ⟨k + 1, by omega, by go_num, by rw [← hnx]; exact B9, (bnext hB hB4).grown G9 (bnext hB hB4).size (by simp)⟩
      case measure => simp [intOf]; omega
    · obtain rfl : k = 16 := by omega
      have e : seen V 16 = V := by unfold seen; rw [hVl, Nat.sub_self, List.take_of_length_le (by omega)]; simp
      rw [e] at BV
      have hrk := blk_rk BV (by omega)
      rw [hVl] at hrk
      go_wp2
      go_ret
      exact ⟨_, rfl, hrk, hB⟩
end
end Go.Proofs.Ythgafnommcodcaa.Wal
