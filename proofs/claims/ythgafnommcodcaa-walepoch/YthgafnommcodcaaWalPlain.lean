/-
  A log of records on a disk, in plain words: where records are laid, what a scan finds, and that what was synced is found. Nothing of a program is named here.
  A place is told by the number of its segment in the order from the one begun with, and its sector in that.
-/
import Derived.Test.YthgafnommcodcaaDiskPlain
namespace Go.Proofs.Ythgafnommcodcaa.Wal
open Go.Proofs.Ythgafnommcodcaa.Frame Go.Proofs.Ythgafnommcodcaa.Disk

/-- How many segments; the sector of a place; the segment of a number. -/
def segsN (n : Nat) : Nat := (n - 32) / 16
def segOf (S st j : Nat) : Nat := (st + j) % S
def adr (S st j t : Nat) : Nat := 32 + 16 * segOf S st j + t
theorem adr_inj {S st j k t u : Nat} (hj : j < S) (hk : k < S) (ht : t < 16) (hu : u < 16) (h : adr S st j t = adr S st k u) : j = k ∧ t = u := by
  unfold adr segOf at h
  have h1 : (st + j) % S = (st + k) % S := by omega
  have h2 : t = u := by omega
  refine ⟨?_, h2⟩
  rcases Nat.lt_trichotomy j k with h3 | h3 | h3
  · have e := Nat.sub_mod_eq_zero_of_mod_eq h1.symm
    rw [show st + k - (st + j) = k - j by omega, Nat.mod_eq_of_lt (by omega)] at e
    omega
  · exact h3
  · have e := Nat.sub_mod_eq_zero_of_mod_eq h1
    rw [show st + j - (st + k) = j - k by omega, Nat.mod_eq_of_lt (by omega)] at e
    omega
theorem adr_lt {S st j t n : Nat} (hS : S = segsN n) (h0 : 0 < S) (ht : t < 16) : adr S st j t < n := by
  unfold adr segOf
  have := Nat.mod_lt (st + j) h0
  unfold segsN at hS
  omega

/-- What the places hold. -/
abbrev Rd := Nat → Nat → Sec
def Has (rd : Rd) (j t : Nat) (l : List Sec) : Prop := ∀ i, i < l.length → rd j (t + i) = l.getD i zero
def view (rd : Rd) (j t : Nat) : List Sec := (List.range (16 - t)).map fun i => rd j (t + i)
theorem view_has {rd : Rd} {j t : Nat} {l : List Sec} (h : Has rd j t l) (hl : t + l.length ≤ 16) : view rd j t = l ++ view rd j (t + l.length) := by
  refine List.ext_getElem? fun i => ?_
  unfold view
  rcases Nat.lt_or_ge i l.length with hi | hi
  · rw [List.getElem?_append_left hi, List.getElem?_map, List.getElem?_range (by omega), Option.map_some, h i hi, List.getD_eq_getElem?_getD, List.getElem?_eq_getElem hi]
    rfl
  · rw [List.getElem?_append_right hi]
    rcases Nat.lt_or_ge i (16 - t) with h2 | h2
    · rw [List.getElem?_map, List.getElem?_map, List.getElem?_range h2, List.getElem?_range (by omega), Option.map_some, Option.map_some, show t + l.length + (i - l.length) = t + i by omega]
    · rw [List.getElem?_eq_none (by simp; omega), List.getElem?_eq_none (by simp; omega)]
theorem view_zero {rd : Rd} {j t : Nat} (h : ∀ i, t ≤ i → i < 16 → rd j i = zero) : view rd j t = List.replicate (16 - t) zero := by
  refine List.ext_getElem? fun i => ?_
  unfold view
  rcases Nat.lt_or_ge i (16 - t) with hi | hi
  · rw [List.getElem?_map, List.getElem?_range hi, Option.map_some, h (t + i) (by omega) (by omega), List.getElem?_replicate, if_pos hi]
  · rw [List.getElem?_eq_none (by simp; omega), List.getElem?_eq_none (by simp; omega)]

/-- The record of this number and epoch at a place, if there is one. -/
def atPlace (rd : Rd) (ep nx j t : Nat) : Got := if ((got (view rd j t)).ok && (decide ((got (view rd j t)).s = nx) && decide ((got (view rd j t)).e = ep))) = true then got (view rd j t) else nought
def more (nx : Nat) : Nat := (nx + 1) % 18446744073709551616
/-- What a scan finds: the records, and the segment's number in the order. -/
def scan (rd : Rd) (S ep : Nat) : Nat → Nat → Nat → Nat → List Got × Nat
  | 0, _, j, _ => ([], j)
  | f + 1, nx, j, t =>
    if nx = 0 then ([], j)
    else if (atPlace rd ep nx j t).ok = true then ((atPlace rd ep nx j t) :: (scan rd S ep f (more nx) j (t + (atPlace rd ep nx j t).n)).1, (scan rd S ep f (more nx) j (t + (atPlace rd ep nx j t).n)).2)
    else if j + 1 = S then ([], j)
    else if (atPlace rd ep nx (j + 1) 0).ok = true then ((atPlace rd ep nx (j + 1) 0) :: (scan rd S ep f (more nx) (j + 1) (atPlace rd ep nx (j + 1) 0).n).1, (scan rd S ep f (more nx) (j + 1) (atPlace rd ep nx (j + 1) 0).n).2)
    else ([], j)
theorem scan_step (rd : Rd) (S ep f nx j t : Nat) : scan rd S ep (f + 1) nx j t =
    if nx = 0 then ([], j)
    else if (atPlace rd ep nx j t).ok = true then ((atPlace rd ep nx j t) :: (scan rd S ep f (more nx) j (t + (atPlace rd ep nx j t).n)).1, (scan rd S ep f (more nx) j (t + (atPlace rd ep nx j t).n)).2)
    else if j + 1 = S then ([], j)
    else if (atPlace rd ep nx (j + 1) 0).ok = true then ((atPlace rd ep nx (j + 1) 0) :: (scan rd S ep f (more nx) (j + 1) (atPlace rd ep nx (j + 1) 0).n).1, (scan rd S ep f (more nx) (j + 1) (atPlace rd ep nx (j + 1) 0).n).2)
    else ([], j) := rfl
theorem at_made {rd : Rd} {ep nx j t : Nat} {p : List Int} (hr : right nx p = true) (hn : nx < 18446744073709551616) (he : ep < 4294967296) (hl : t + size p.length ≤ 16) (h : Has rd j t (made nx ep p)) : atPlace rd ep nx j t = ⟨true, size p.length, nx, ep, p⟩ := by
  have hm := made_len (e := ep) hr
  have e : got (view rd j t) = ⟨true, size p.length, nx, ep, p⟩ := by
    rw [view_has h (by rw [hm]; exact hl), got_made hr (by simpa using hn) (by simpa using he), hm]
  unfold atPlace
  rw [e]
  simp
theorem at_zero {rd : Rd} {ep nx j t : Nat} (h : ∀ i, t ≤ i → i < 16 → rd j i = zero) : atPlace rd ep nx j t = nought := by
  unfold atPlace
  rw [view_zero h, got_zero]
  simp [nought]

/-- The records lie one behind the other, from a place to a place, as a log lays them. -/
def Chain (rd : Rd) (S ep : Nat) : Nat → Nat → Nat → List (List Int) → Nat × Nat → Prop
  | _, j, t, [], e => e = (j, t)
  | nx, j, t, p :: r, e => right nx p = true ∧ ((t + size p.length ≤ 16 ∧ Has rd j t (made nx ep p) ∧ Chain rd S ep (nx + 1) j (t + size p.length) r e) ∨
      (16 < t + size p.length ∧ j + 1 < S ∧ (∀ i, t ≤ i → i < 16 → rd j i = zero) ∧ Has rd (j + 1) 0 (made nx ep p) ∧ Chain rd S ep (nx + 1) (j + 1) (size p.length) r e))
/-- As a scan tells them. -/
def tells (ep : Nat) : Nat → List (List Int) → List Got
  | _, [] => []
  | nx, p :: r => ⟨true, size p.length, nx, ep, p⟩ :: tells ep (nx + 1) r
theorem tells_len (ep : Nat) : ∀ (nx : Nat) (l : List (List Int)), (tells ep nx l).length = l.length
  | _, [] => rfl
  | nx, _ :: r => by simp [tells, tells_len ep (nx + 1) r]
theorem scan_chain {rd : Rd} {S ep : Nat} (he : ep < 4294967296) : ∀ (l : List (List Int)) (nx j t f : Nat) (e : Nat × Nat), 0 < nx → nx + l.length < 18446744073709551616 → Chain rd S ep nx j t l e →
    scan rd S ep (l.length + f) nx j t = (tells ep nx l ++ (scan rd S ep f (nx + l.length) e.1 e.2).1, (scan rd S ep f (nx + l.length) e.1 e.2).2)
  | [], nx, j, t, f, e, _, _, h => by
    obtain rfl : e = (j, t) := h
    simp [tells]
  | p :: r, nx, j, t, f, e, h0, hn, h => by
    have hn' : nx + (r.length + 1) < 18446744073709551616 := by simpa using hn
    have hm : more nx = nx + 1 := by unfold more; exact Nat.mod_eq_of_lt (by omega)
    have e2 : nx + (p :: r).length = nx + 1 + r.length := by simp; omega
    rw [show (p :: r).length + f = (r.length + f) + 1 by simp; omega, e2]
    rw [scan_step, if_neg (by omega), hm]
    obtain ⟨hr, ⟨h1, h2, h3⟩ | ⟨h1, h2, h3, h4, h5⟩⟩ := h
    · have ih := scan_chain he r (nx + 1) j (t + size p.length) f e (by omega) (by omega) h3
      rw [at_made hr (by omega) he h1 h2]
      simp only [if_true]
      rw [ih]
      rfl
    · have h7 : size p.length ≤ 12 := (size_fits (by simp [right] at hr; exact hr.1)).2.2.2
      have ih := scan_chain he r (nx + 1) (j + 1) (size p.length) f e (by omega) (by omega) h5
      rw [at_zero h3, if_neg (by simp [nought]), if_neg (by omega), at_made hr (by omega) he (by omega) h4]
      simp only [if_true]
      rw [ih]
      rfl
/-- One place lies behind another, or is it. -/
def upTo (j t : Nat) (e : Nat × Nat) : Prop := 16 * j + t ≤ 16 * e.1 + e.2
theorem chain_end {rd : Rd} {S ep : Nat} : ∀ (l : List (List Int)) (nx j t : Nat) (e : Nat × Nat), t ≤ 16 → Chain rd S ep nx j t l e → upTo j t e ∧ e.2 ≤ 16 ∧ (j < S → e.1 < S)
  | [], _, j, t, e, ht, h => by
    obtain rfl : e = (j, t) := h
    exact ⟨Nat.le_refl _, ht, id⟩
  | p :: r, nx, j, t, e, ht, h => by
    obtain ⟨hr, ⟨h1, _, h3⟩ | ⟨h1, h2, _, _, h5⟩⟩ := h
    · obtain ⟨a, b, c⟩ := chain_end r (nx + 1) j (t + size p.length) e h1 h3
      exact ⟨by unfold upTo at *; omega, b, c⟩
    · have h7 : size p.length ≤ 12 := (size_fits (by simp [right] at hr; exact hr.1)).2.2.2
      obtain ⟨a, b, c⟩ := chain_end r (nx + 1) (j + 1) (size p.length) e (by omega) h5
      exact ⟨by unfold upTo at *; omega, b, fun _ => c h2⟩
/-- What lies behind the last record does not matter. -/
theorem chain_same {rd rd' : Rd} {S ep : Nat} : ∀ (l : List (List Int)) (nx j t : Nat) (e : Nat × Nat), t ≤ 16 → (∀ k u, u < 16 → 16 * j + t ≤ 16 * k + u → 16 * k + u < 16 * e.1 + e.2 → rd' k u = rd k u) → Chain rd S ep nx j t l e → Chain rd' S ep nx j t l e
  | [], _, _, _, _, _, _, h => h
  | p :: r, nx, j, t, e, ht, hs, h => by
    obtain ⟨hr, ⟨h1, h2, h3⟩ | ⟨h1, h2, h3, h4, h5⟩⟩ := h
    · have a := (chain_end r (nx + 1) j (t + size p.length) e h1 h3).1
      unfold upTo at a
      have hm := made_len (e := ep) hr
      refine ⟨hr, .inl ⟨h1, fun i hi => ?_, chain_same r (nx + 1) j (t + size p.length) e h1 (fun k u hu h6 h7 => hs k u hu (by omega) h7) h3⟩⟩
      rw [hs j (t + i) (by omega) (by omega) (by omega)]
      exact h2 i hi
    · have h7 : size p.length ≤ 12 := (size_fits (by simp [right] at hr; exact hr.1)).2.2.2
      have a := (chain_end r (nx + 1) (j + 1) (size p.length) e (by omega) h5).1
      unfold upTo at a
      have hm := made_len (e := ep) hr
      refine ⟨hr, .inr ⟨h1, h2, fun i h8 h9 => ?_, fun i hi => ?_, chain_same r (nx + 1) (j + 1) (size p.length) e (by omega) (fun k u hu h6 h7 => hs k u hu (by omega) h7) h5⟩⟩
      · rw [hs j i h9 (by omega) (by omega)]
        exact h3 i h8 h9
      · rw [hs (j + 1) (0 + i) (by omega) (by omega) (by omega)]
        exact h4 i hi
/-- A record more. -/
theorem chain_more {rd : Rd} {S ep : Nat} : ∀ (l : List (List Int)) (nx j t : Nat) (e e' : Nat × Nat) (p : List Int), Chain rd S ep nx j t l e → Chain rd S ep (nx + l.length) e.1 e.2 [p] e' → Chain rd S ep nx j t (l ++ [p]) e'
  | [], _, j, t, e, e', p, h, h2 => by
    obtain rfl : e = (j, t) := h
    exact h2
  | q :: r, nx, j, t, e, e', p, h, h2 => by
    have e2 : nx + (q :: r).length = nx + 1 + r.length := by simp; omega
    rw [e2] at h2
    obtain ⟨hr, ⟨h1, h3, h4⟩ | ⟨h1, h3, h4, h5, h6⟩⟩ := h
    · exact ⟨hr, .inl ⟨h1, h3, chain_more r (nx + 1) j (t + size q.length) e e' p h4 h2⟩⟩
    · exact ⟨hr, .inr ⟨h1, h3, h4, h5, chain_more r (nx + 1) (j + 1) (size q.length) e e' p h6 h2⟩⟩
end Go.Proofs.Ythgafnommcodcaa.Wal
