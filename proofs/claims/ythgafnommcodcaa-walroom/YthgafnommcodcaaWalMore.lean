/-
  More on logs in plain words: how many records there can be, where a scan ends, segments in their order, and how many sectors are left. Nothing of a program is named here.
-/
import Derived.Test.YthgafnommcodcaaWalKept
namespace Go.Proofs.Ythgafnommcodcaa.Wal
open Go.Proofs.Ythgafnommcodcaa.Frame Go.Proofs.Ythgafnommcodcaa.Disk

theorem view_len (rd : Rd) (j t : Nat) : (view rd j t).length = 16 - t := by simp [view]
/-- A record that is found ends within the segment, and is what it should be. -/
theorem at_ok {rd : Rd} {ep nx j t : Nat} (h : (atPlace rd ep nx j t).ok = true) : 0 < (atPlace rd ep nx j t).n ∧ t + (atPlace rd ep nx j t).n ≤ 16 ∧ (atPlace rd ep nx j t).s = nx ∧ (atPlace rd ep nx j t).e = ep ∧ atPlace rd ep nx j t = got (view rd j t) := by
  unfold atPlace at h ⊢
  split at h
  · rename_i hc
    rw [if_pos hc]
    simp only [Bool.and_eq_true, decide_eq_true_eq] at hc
    obtain ⟨h1, h2, h3⟩ := hc
    refine ⟨?_, ?_, h2, h3, rfl⟩
    all_goals
      unfold got at h1 ⊢
      split at h1
      · rename_i ho
        rw [if_pos ho]
        unfold opens roomy at ho
        simp only [Bool.and_eq_true, decide_eq_true_eq, view_len] at ho
        simp only
        omega
      · cases h1
  · cases h
/-- Each record has a sector at least. -/
theorem chain_count {rd : Rd} {S ep : Nat} : ∀ (l : List (List Int)) (nx j t : Nat) (e : Nat × Nat), t ≤ 16 → Chain rd S ep nx j t l e → 16 * j + t + l.length ≤ 16 * e.1 + e.2
  | [], _, j, t, e, _, h => by
    obtain rfl : e = (j, t) := h
    simp
  | p :: r, nx, j, t, e, ht, h => by
    obtain ⟨hr, ⟨h1, _, h3⟩ | ⟨h1, h2, _, _, h5⟩⟩ := h
    · have hf := size_fits (show p.length ≤ 700 by simp [right] at hr; exact hr.1)
      have := chain_count r (nx + 1) j (t + size p.length) e h1 h3
      simp only [List.length_cons]
      omega
    · have hf := size_fits (show p.length ≤ 700 by simp [right] at hr; exact hr.1)
      have := chain_count r (nx + 1) (j + 1) (size p.length) e (by omega) h5
      simp only [List.length_cons]
      omega
/-- Where nothing was written a scan ends. -/
theorem scan_zero {rd : Rd} {S ep j t : Nat} (h : ∀ k u, k < S → u < 16 → 16 * j + t ≤ 16 * k + u → rd k u = zero) (hj : j < S) (ht : t ≤ 16) : ∀ f nx, scan rd S ep f nx j t = ([], j)
  | 0, _ => rfl
  | f + 1, nx => by
    rw [scan_step, at_zero fun i hi hi2 => h j i hj hi2 (by omega)]
    split
    · rfl
    · rw [if_neg (by simp [nought])]
      split
      · rfl
      · rw [at_zero fun i hi hi2 => h (j + 1) i (by omega) hi2 (by omega), if_neg (by simp [nought])]
/-- All that lies there is found. -/
theorem scan_kept {n S st ep nx0 : Nat} {d : Dsk} {j t : Nat} {ps : List (List Int)} {safe : Nat} (h : Kept n S st ep nx0 d j t ps safe) (hep : ep < 4294967296) (h0 : 0 < nx0) (hn : nx0 + ps.length < 18446744073709551616) (f : Nat) :
    scan (vis d S st) S ep (ps.length + f) nx0 0 0 = (tells ep nx0 ps, j) := by
  obtain ⟨-, -, k3, k4, k5, k6, -⟩ := h
  rw [scan_chain hep ps nx0 0 0 f (j, t) h0 hn k5, scan_zero k6 k3 k4]
  simp
theorem kept_count {n S st ep nx0 : Nat} {d : Dsk} {j t : Nat} {ps : List (List Int)} {safe : Nat} (h : Kept n S st ep nx0 d j t ps safe) : ps.length ≤ 16 * S ∧ safe ≤ ps.length := by
  obtain ⟨-, -, k3, k4, k5, -, e, s1, -⟩ := h
  have := chain_count ps nx0 0 0 (j, t) (by omega) k5
  simp only at this
  exact ⟨by omega, s1.1⟩
/-- The next segment is the next one in the order, up to the one begun with. -/
theorem seg_first {S st : Nat} (hst : st < S) : segOf S st 0 = st := by unfold segOf; rw [Nat.add_zero]; exact Nat.mod_eq_of_lt hst
theorem seg_lt {S : Nat} (st j : Nat) (h : 0 < S) : segOf S st j < S := Nat.mod_lt _ h
theorem seg_next {S st j : Nat} (hS : 1 < S) : (if segOf S st j + 1 = S then 0 else segOf S st j + 1) = segOf S st (j + 1) := by
  have h1 := Nat.mod_lt (st + j) (show 0 < S by omega)
  have h2 : segOf S st (j + 1) = (segOf S st j + 1) % S := by
    unfold segOf
    rw [← Nat.add_assoc, Nat.add_mod (st + j) 1 S, Nat.mod_eq_of_lt hS]
  rw [h2]
  unfold segOf at h1 ⊢
  split
  · rename_i h
    rw [h, Nat.mod_self]
  · exact (Nat.mod_eq_of_lt (show (st + j) % S + 1 < S by omega)).symm
theorem seg_round {S st j : Nat} (hst : st < S) (hj : j < S) : segOf S st (j + 1) = st ↔ j + 1 = S := by
  unfold segOf
  constructor
  · intro h
    have e := Nat.sub_mod_eq_zero_of_mod_eq (show (st + (j + 1)) % S = st % S by rw [h, Nat.mod_eq_of_lt hst])
    rw [show st + (j + 1) - st = j + 1 by omega] at e
    rcases Nat.lt_or_ge (j + 1) S with h2 | h2
    · rw [Nat.mod_eq_of_lt h2] at e; omega
    · omega
  · intro h
    rw [h, Nat.add_mod_right, Nat.mod_eq_of_lt hst]
/-- The segment of a number, one by one: two numbers have the same one just where they are the same. -/
theorem seg_inj {S st j k : Nat} (hj : j < S) (hk : k < S) (h : segOf S st j = segOf S st k) : j = k := (adr_inj (st := st) (t := 0) (u := 0) hj hk (by omega) (by omega) (by unfold adr; omega)).1
end Go.Proofs.Ythgafnommcodcaa.Wal
