/-
  A disk no sector of which at some place names a number: what keeps it so; how many records a scan finds at most.
-/
import Derived.Test.YthgafnommcodcaaWalBoth
namespace Go.Proofs.Ythgafnommcodcaa.Wal
open Go.RowKit Go.Proofs.Ythgafnommcodcaa.Mem Go.Proofs.Ythgafnommcodcaa.Sect Go.Proofs.Ythgafnommcodcaa.Frame Go.Proofs.Ythgafnommcodcaa.Disk Go.Proofs.Ythgafnommcodcaa.Area

/-- Neither what is there at place a nor what may come there names the number s0. -/
def Far (d : Dsk) (a s0 : Nat) : Prop := sq (d.st.getD a zero) ≠ s0 ∧ ∀ x ∈ d.pe, x.1 = (a : Int) → sq x.2 ≠ s0
theorem far_fresh (n a : Nat) {s0 : Nat} (h : s0 ≠ 0) : Far (fresh n) a s0 := by
  refine ⟨?_, fun x hx => by simp [fresh] at hx⟩
  have e : (fresh n).st.getD a zero = zero := by
    show (List.replicate n zero).getD a zero = zero
    rw [List.getD_eq_getElem?_getD, List.getElem?_replicate]
    split <;> rfl
  rw [e, sq_zero]
  exact h.symm
theorem far_put {d : Dsk} {a s0 : Nat} (h : Far d a s0) (i : Int) {s : Sec} (hs : i = (a : Int) → sq s ≠ s0) : Far (d.put i s) a s0 := by
  unfold Dsk.put
  split
  · split
    · exact ⟨by rw [acted_st]; exact h.1, by rw [acted_pe]; exact h.2⟩
    · refine ⟨by show sq (d.acted.st.getD a zero) ≠ s0; rw [acted_st]; exact h.1, fun x hx => ?_⟩
      rcases List.mem_append.1 (show x ∈ d.pe ++ [(i, s)] from hx) with hx | hx
      · exact h.2 x hx
      · rw [List.mem_singleton] at hx; subst hx; exact hs
  · exact h
theorem settle_far (f : Nat → Bool) {a s0 : Nat} : ∀ (n : Nat) (l : List Wr) (st : List Sec), sq (st.getD a zero) ≠ s0 → (∀ x ∈ l, x.1 = (a : Int) → sq x.2 ≠ s0) → (∀ x ∈ l, 0 ≤ x.1) → sq ((Disk.settle f n l st).getD a zero) ≠ s0
  | _, [], _, h, _, _ => h
  | n, x :: r, st, h, h2, h3 => by
    unfold Disk.settle
    refine settle_far f (n + 1) r _ ?_ (fun y hy => h2 y (by simp [hy])) (fun y hy => h3 y (by simp [hy]))
    split
    · have hx := h2 x (by simp)
      have hx0 := h3 x (by simp)
      by_cases e : x.1.toNat = a
      · by_cases hl : a < st.length
        · rw [List.getD_eq_getElem?_getD, e, List.getElem?_set_self hl]
          exact hx (by omega)
        · rw [List.set_eq_of_length_le (by omega)]
          exact h
      · rw [List.getD_eq_getElem?_getD, List.getElem?_set_ne e, ← List.getD_eq_getElem?_getD]
        exact h
    · exact h
theorem far_acted {d : Dsk} {a s0 : Nat} (h : Far d a s0) : Far d.acted a s0 := ⟨by rw [acted_st]; exact h.1, by rw [acted_pe]; exact h.2⟩
theorem far_settled {d : Dsk} {a s0 : Nat} (h : Far d a s0) (h0 : ∀ x ∈ d.pe, 0 ≤ x.1) (f : Nat → Bool) : Far (d.settled f) a s0 := ⟨settle_far f 0 d.pe d.st h.1 h.2 h0, fun x hx => by simp [Dsk.settled] at hx⟩
theorem far_sync {d : Dsk} {a s0 : Nat} (h : Far d a s0) (h0 : ∀ x ∈ d.pe, 0 ≤ x.1) : Far d.sync a s0 := by
  unfold Dsk.sync
  split
  · exact far_acted h
  · exact far_settled (far_acted h) (by rw [acted_pe]; exact h0) _
theorem far_crash {d : Dsk} {a s0 : Nat} (h : Far d a s0) (h0 : ∀ x ∈ d.pe, 0 ≤ x.1) (ks : List Bool) : Far (d.crash ks) a s0 := far_settled h h0 (keeps ks)
theorem far_breaks {d : Dsk} {a s0 : Nat} (h : Far d a s0) (n : Int) : Far (d.breaks n) a s0 := h
theorem far_writes {a s0 : Nat} : ∀ (l : List Sec) (d : Dsk) (i : Nat), Far d a s0 → (∀ k x, l[k]? = some x → i + k = a → sq x ≠ s0) → Far (writes d i l).1 a s0
  | [], _, _, h, _ => h
  | s :: r, d, i, h, hl => by
    have h1 := far_put h (i : Int) (s := s) fun e => hl 0 s rfl (by omega)
    unfold writes
    split
    · exact far_writes r _ _ h1 fun k x hk e => hl (k + 1) x (by simpa using hk) (by omega)
    · exact h1
theorem last_far {a s0 : Nat} : ∀ {l : List Wr} {s : Sec}, (∀ x ∈ l, x.1 = (a : Int) → sq x.2 ≠ s0) → last l (a : Int) = some s → sq s ≠ s0
  | [], _, _, h => by simp [last] at h
  | x :: r, s, hl, h => by
    unfold last at h
    cases hr : last r (a : Int) with
    | some q =>
      rw [hr] at h
      obtain rfl : q = s := by simpa using h
      exact last_far (fun y hy => hl y (by simp [hy])) hr
    | none =>
      rw [hr] at h
      simp only at h
      split at h
      · rename_i e
        obtain rfl : x.2 = s := by simpa using h
        exact hl x (by simp) (by simpa using e)
      · cases h
theorem far_read {d : Dsk} {a s0 : Nat} (h : Far d a s0) (h0 : s0 ≠ 0) : sq (d.read (a : Int)).1 ≠ s0 := by
  unfold Dsk.read
  cases hl : last d.pe (a : Int) with
  | some s => exact last_far h.2 hl
  | none =>
    show sq (stab d.st (a : Int)).1 ≠ s0
    unfold stab
    by_cases hh : has d.st.length (a : Int) = true
    · rw [if_pos hh]
      exact h.1
    · rw [if_neg hh]
      rw [sq_zero]
      exact h0.symm
/-- The numbers of a log: it has none yet, or its next one is another than the first. -/
def Num (s0 nx j t : Nat) : Prop := (nx = s0 ∧ j = 0 ∧ t = 0) ∨ nx = 0 ∨ s0 < nx
theorem num_more {s0 nx j t J T : Nat} (h : Num s0 nx j t) (h0 : nx ≠ 0) (hs : nx < 18446744073709551616) : Num s0 (more nx) J T := by
  unfold Num at *
  unfold more
  omega
theorem far_append {n S st j t nx s0 ep z : Nat} {d : Dsk} {p : List Int} (hc : Can n S st j t) (hf : Far d (adr S st 1 0) s0) (hN : Num s0 nx j t) (hz : z = size p.length) (hr : room S j t nx z = true) (hnx : nx < 18446744073709551616) : Far (writes d (adr S st (toJ j t z) (toT t z)) (made nx ep p)).1 (adr S st 1 0) s0 := by
  obtain ⟨h1, h2, h3⟩ := room_parts hr
  have h7 := size_pos (m := p.length) (by rw [← hz]; exact h1)
  have hri : right nx p = true := right_of h7 h2
  obtain ⟨x, l, hm, hx⟩ := sq_made (e := ep) hri hnx
  have hml : (made nx ep p).length = z := by rw [made_len hri, hz]
  have htwo := hc.two
  have hz12 : z ≤ 12 := by rw [hz]; exact size_le _
  have hJ : toJ j t z < S ∧ toT t z + z ≤ 16 := by
    have := hc.2.2.2.2.1
    rcases to_place h3 with ⟨q1, q2, q3⟩ | ⟨q1, q2, q3, q4⟩
    · rw [q2, q3]; omega
    · rw [q3, q4]; omega
  refine far_writes _ _ _ hf fun k y hk e => ?_
  have hkz : k < z := by have := (List.getElem?_eq_some_iff.1 hk).1; omega
  have e2 : adr S st (toJ j t z) (toT t z + k) = adr S st 1 0 := by unfold adr at e ⊢; omega
  obtain ⟨e3, e4⟩ := adr_inj hJ.1 (by omega) (by omega) (by omega) e2
  obtain rfl : k = 0 := by omega
  rw [hm] at hk
  obtain rfl : x = y := by simpa using hk
  rw [hx]
  intro q
  subst q
  rcases hN with ⟨-, q2, q3⟩ | q | q
  · rw [q2, q3] at e3
    unfold toJ at e3
    rw [if_pos (by omega)] at e3
    omega
  · exact h2 q
  · exact absurd q (Nat.lt_irrefl _)
/-- The program's scan finds what the document's finds. -/
theorem same_scan {n S st s0 ep : Nat} {d : Dsk} {r : Rfd} (hc : Can n S st 0 0) (hf : Far d (adr S st 1 0) s0) (h0 : s0 ≠ 0) (hag : Agree d r) (hd : d.ok) : pscan (vis d S st) S ep s0 = scan (rvis r S st) S ep (16 * S + 1) s0 0 0 := by
  rw [rvis_vis hag hd]
  exact pscan_scan (by have := hc.two; omega) fun _ _ => not_there (far_read hf h0)
theorem scan_len {rd : Rd} {S ep : Nat} : ∀ (f nx j t : Nat), j < S → t ≤ 16 → (scan rd S ep f nx j t).1.length ≤ 16 * S - (16 * j + t)
  | 0, _, j, t, _, _ => by simp [scan]
  | f + 1, nx, j, t, hj, ht => by
    rw [scan_step]
    by_cases h0 : nx = 0
    · rw [if_pos h0]; simp
    · rw [if_neg h0]
      by_cases h1 : (atPlace rd ep nx j t).ok = true
      · have ho := at_ok h1
        have := scan_len (rd := rd) (S := S) (ep := ep) f (more nx) j (t + (atPlace rd ep nx j t).n) hj (by omega)
        rw [if_pos h1]
        simp only [List.length_cons]
        omega
      · rw [if_neg h1]
        by_cases h2 : j + 1 = S
        · rw [if_pos h2]; simp
        · rw [if_neg h2]
          by_cases h3 : (atPlace rd ep nx (j + 1) 0).ok = true
          · have ho := at_ok h3
            have := scan_len (rd := rd) (S := S) (ep := ep) f (more nx) (j + 1) (atPlace rd ep nx (j + 1) 0).n (by omega) (by omega)
            rw [if_pos h3]
            simp only [List.length_cons]
            omega
          · rw [if_neg h3]; simp
end Go.Proofs.Ythgafnommcodcaa.Wal
