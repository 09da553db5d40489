/-
  The program's scan and the document's: where they find the same.
-/
import Derived.Test.YthgafnommcodcaaWalRef7
import Derived.Test.YthgafnommcodcaaWalTold
import Derived.Test.YthgafnommcodcaaDiskAgree
import Derived.Test.YthgafnommcodcaaWalSeg
namespace Go.Proofs.Ythgafnommcodcaa.Wal
open Go.RowKit Go.Proofs.Ythgafnommcodcaa.Mem Go.Proofs.Ythgafnommcodcaa.Sect Go.Proofs.Ythgafnommcodcaa.Frame Go.Proofs.Ythgafnommcodcaa.Disk Go.Proofs.Ythgafnommcodcaa.Area

/-- More fuel than there are places finds no more. -/
theorem scan_fuel {rd : Rd} {S ep : Nat} : ∀ (f nx j t : Nat), j < S → t ≤ 16 → 16 * S < 16 * j + t + f → ∀ g, scan rd S ep (f + g) nx j t = scan rd S ep f nx j t
  | 0, _, j, t, hj, ht, hf, _ => by omega
  | f + 1, nx, j, t, hj, ht, hf, g => by
    rw [show f + 1 + g = f + g + 1 by omega, scan_step, scan_step]
    by_cases h0 : nx = 0
    · rw [if_pos h0, if_pos h0]
    · rw [if_neg h0, if_neg h0]
      by_cases h1 : (atPlace rd ep nx j t).ok = true
      · have ho := at_ok h1
        rw [if_pos h1, if_pos h1, scan_fuel f _ j _ hj (by omega) (by omega) g]
      · rw [if_neg h1, if_neg h1]
        by_cases h2 : j + 1 = S
        · rw [if_pos h2, if_pos h2]
        · rw [if_neg h2, if_neg h2]
          by_cases h3 : (atPlace rd ep nx (j + 1) 0).ok = true
          · have ho := at_ok h3
            rw [if_pos h3, if_pos h3, scan_fuel f _ (j + 1) _ (by omega) (by omega) (by omega) g]
          · rw [if_neg h3, if_neg h3]

/-- They find the same, but where the first record sought is not at the beginning, and one so numbered is at the next segment's. -/
theorem pscan_scan {rd : Rd} {S ep nx : Nat} (hS : 0 < S) (h : (atPlace rd ep nx 0 0).ok = false → 1 < S → (atPlace rd ep nx 1 0).ok = false) : pscan rd S ep nx = scan rd S ep (16 * S + 1) nx 0 0 := by
  unfold pscan cont
  by_cases h1 : (atPlace rd ep nx 0 0).ok = true
  · rw [if_pos ⟨hS, h1⟩]
    exact scan_fuel (16 * S + 1) nx 0 0 hS (by omega) (by omega) 16
  · rw [if_neg (fun q => h1 q.2), scan_step, if_neg h1]
    by_cases h0 : nx = 0
    · rw [if_pos h0]
    · rw [if_neg h0]
      by_cases h2 : 0 + 1 = S
      · rw [if_pos h2]
      · rw [if_neg h2, if_neg (by rw [h (by simpa using h1) (by omega)]; simp)]
/-- Disks that agree show the same. -/
theorem rvis_vis {d : Dsk} {r : Rfd} (h : Agree d r) (hd : d.ok) (S st : Nat) : rvis r S st = vis d S st := by
  funext j t
  unfold rvis vis
  rw [ag_read h hd]
/-- The number that a sector names, if a record begins with it. -/
def sq (x : Sec) : Nat := seqOf x.1
theorem sq_flat (x : Sec) (l : List Sec) : seqOf (flat (x :: l)) = sq x := by
  have h := x.2
  unfold sq seqOf
  rw [show flat (x :: l) = x.1 ++ flat l from rfl, List.drop_append_of_le_length (by omega), List.take_append_of_le_length (by rw [List.length_drop]; omega)]
theorem sq_zero : sq zero = 0 := by decide
theorem sq_made {s e : Nat} {p : List Int} (hr : right s p = true) (hs : s < 18446744073709551616) : ∃ x r, made s e p = x :: r ∧ sq x = s := by
  have h7 : p.length ≤ 700 := by simp [right] at hr; exact hr.1
  have hf := flat_made (e := e) hr
  have hl := made_len (e := e) hr
  have h1 := (size_fits h7).2.2.1
  cases hm : made s e p with
  | nil => rw [hm] at hl; simp at hl; omega
  | cons x r =>
    refine ⟨x, r, rfl, ?_⟩
    rw [hm] at hf
    rw [← sq_flat x r, hf]
    unfold all Crc.sealed
    rw [List.append_assoc]
    exact seq_of s e p _ hs
/-- A place whose first sector names another number has no record that is numbered so. -/
theorem not_there {rd : Rd} {ep s0 j : Nat} (h : sq (rd j 0) ≠ s0) : (atPlace rd ep s0 j 0).ok = false := by
  cases ho : (atPlace rd ep s0 j 0).ok with
  | false => rfl
  | true =>
    obtain ⟨-, -, h3, -, h5⟩ := at_ok ho
    rw [h5] at h3 ho
    have hv : view rd j 0 = rd j 0 :: (view rd j 0).tail := by
      have := view_at (rd := rd) (j := j) (i := 0) (by omega)
      cases hw : view rd j 0 with
      | nil => rw [hw] at this; cases this
      | cons a b => rw [hw] at this; simp at this; rw [this]; rfl
    unfold got at h3 ho
    split at ho
    · rename_i hg
      rw [if_pos hg] at h3
      simp only at h3
      rw [hv, sq_flat] at h3
      exact absurd h3 h
    · cases ho
end Go.Proofs.Ythgafnommcodcaa.Wal
