/-
  More on logs in plain words: how many records there can be, where a scan ends, segments in their order, and how many sectors are left. Nothing of a program is named here.
-/
import Derived.Test.YthgafnommcodcaaFramePlain
/-
  Sectors, writes, and a disk as lists: what the programs do, in plain words. Nothing of a program is named here.
-/
namespace Go.Proofs.Ythgafnommcodcaa.Disk
open Go.Proofs.Ythgafnommcodcaa.Frame (Sec zero)

def one (b : Int) : Sec := ⟨b :: List.replicate 63 0, by simp⟩
def two (b c : Int) : Sec := ⟨b :: c :: List.replicate 62 0, by simp⟩
/-- A write: its place, and what is to be there. -/
abbrev Wr := Int × Sec
/-- A disk: what is stable, what is pending, is it down, how many acts are left. -/
structure Dsk where
  st : List Sec
  pe : List Wr
  dn : Bool
  lf : Int
/-- Every pending write has its place. -/
def Dsk.ok (d : Dsk) : Prop := d.st.length ≤ 512 ∧ d.pe.length ≤ 1000 ∧ (∀ x ∈ d.pe, 0 ≤ x.1 ∧ x.1 < d.st.length) ∧ -1 ≤ d.lf ∧ d.lf ≤ 9223372036854775807
def fresh (n : Nat) : Dsk := ⟨List.replicate n zero, [], false, -1⟩
def clamp (x : Int) : Nat := (min (max x 0) 512).toNat
def has (n : Nat) (i : Int) : Bool := decide (0 ≤ i) && decide (i < n)
/-- The last write of a place. -/
def last : List Wr → Int → Option Sec
  | [], _ => none
  | x :: r, i => match last r i with
    | some s => some s
    | none => if x.1 = i then some x.2 else none
def stab (st : List Sec) (i : Int) : Sec × Int := if has st.length i then (st.getD i.toNat zero, 0) else (zero, 71)
def Dsk.read (d : Dsk) (i : Int) : Sec × Int := match last d.pe i with
  | some s => (s, 0)
  | none => stab d.st i
/-- Is an act refused? And the disk behind it. -/
def Dsk.no (d : Dsk) : Bool := d.dn || decide (d.lf = 0)
def Dsk.acted (d : Dsk) : Dsk := if d.no then { d with dn := true } else { d with lf := if 0 < d.lf then d.lf - 1 else d.lf }
def Dsk.err (d : Dsk) : Int := if d.no then 72 else 0
/-- Some of the writes, from number n on, are stable. -/
def settle (f : Nat → Bool) : Nat → List Wr → List Sec → List Sec
  | _, [], st => st
  | n, x :: r, st => settle f (n + 1) r (if f n then st.set x.1.toNat x.2 else st)
def keeps (ks : List Bool) (n : Nat) : Bool := ks.getD n false
def Dsk.settled (d : Dsk) (f : Nat → Bool) : Dsk := { d with st := settle f 0 d.pe d.st, pe := [] }
def Dsk.put (d : Dsk) (i : Int) (s : Sec) : Dsk := if has d.st.length i then (if d.no then d.acted else { d.acted with pe := d.pe ++ [(i, s)] }) else d
def Dsk.putE (d : Dsk) (i : Int) : Int := if has d.st.length i then d.err else 71
def Dsk.sync (d : Dsk) : Dsk := if d.no then d.acted else d.acted.settled fun _ => true
def Dsk.breaks (d : Dsk) (n : Int) : Dsk := { d with lf := max n (-1) }
def Dsk.crash (d : Dsk) (ks : List Bool) : Dsk := { d.settled (keeps ks) with dn := false, lf := -1 }

theorem settle_len (f : Nat → Bool) : ∀ (n : Nat) (l : List Wr) (st : List Sec), (settle f n l st).length = st.length
  | _, [], _ => rfl
  | n, x :: r, st => by
    unfold settle
    rw [settle_len f (n + 1) r]
    split <;> simp
theorem settle_app (f : Nat → Bool) : ∀ (n : Nat) (l : List Wr) (x : Wr) (st : List Sec), settle f n (l ++ [x]) st = (if f (n + l.length) then (settle f n l st).set x.1.toNat x.2 else settle f n l st)
  | n, [], x, st => by simp [settle]
  | n, y :: r, x, st => by
    show settle f (n + 1) (r ++ [x]) _ = _
    rw [settle_app f (n + 1) r x]
    have : n + 1 + r.length = n + (y :: r).length := by simp; omega
    rw [this]
    rfl
theorem last_app : ∀ (l : List Wr) (x : Wr) (i : Int), last (l ++ [x]) i = if x.1 = i then some x.2 else last l i
  | [], x, i => by simp [last]
  | y :: r, x, i => by
    show (match last (r ++ [x]) i with | some s => some s | none => if y.1 = i then some y.2 else none) = _
    rw [last_app r x i]
    by_cases h : x.1 = i
    · simp [h]
    · simp [h, last]
theorem acted_ok {d : Dsk} (h : d.ok) : d.acted.ok := by
  obtain ⟨h1, h2, h3, h4, h5⟩ := h
  unfold Dsk.acted
  split
  · exact ⟨h1, h2, h3, h4, h5⟩
  · refine ⟨h1, h2, h3, ?_, ?_⟩ <;> (simp only; split <;> omega)
theorem acted_st (d : Dsk) : d.acted.st = d.st := by unfold Dsk.acted; split <;> rfl
theorem acted_pe (d : Dsk) : d.acted.pe = d.pe := by unfold Dsk.acted; split <;> rfl
theorem settled_ok {d : Dsk} (h : d.ok) (f : Nat → Bool) : (d.settled f).ok := by
  obtain ⟨h1, _, _, h4, h5⟩ := h
  exact ⟨by simp only [Dsk.settled, settle_len]; exact h1, by simp [Dsk.settled], by simp [Dsk.settled], h4, h5⟩
theorem sync_ok {d : Dsk} (h : d.ok) : d.sync.ok := by
  unfold Dsk.sync
  split
  · exact acted_ok h
  · exact settled_ok (acted_ok h) _
theorem crash_ok {d : Dsk} (h : d.ok) (ks : List Bool) : (d.crash ks).ok := by
  obtain ⟨h1, h2, h3, _, _⟩ := settled_ok h (keeps ks)
  exact ⟨h1, h2, h3, by simp [Dsk.crash], by simp [Dsk.crash]⟩
theorem breaks_ok {d : Dsk} (h : d.ok) {n : Int} (hn : Inty n) : (d.breaks n).ok := by
  obtain ⟨h1, h2, h3, _, _⟩ := h
  obtain ⟨n1, n2⟩ := hn
  exact ⟨h1, h2, h3, by simp only [Dsk.breaks]; omega, by simp only [Dsk.breaks]; omega⟩
theorem put_ok {d : Dsk} (h : d.ok) (i : Int) (s : Sec) (hl : d.pe.length < 1000) : (d.put i s).ok := by
  have h' := acted_ok h
  unfold Dsk.put
  split
  · rename_i hh
    split
    · exact h'
    · obtain ⟨h1, h2, h3, h4, h5⟩ := h'
      refine ⟨h1, by simp; omega, ?_, h4, h5⟩
      intro x hx
      simp only [List.mem_append, List.mem_singleton] at hx
      simp only [acted_st]
      rcases hx with hx | rfl
      · exact h.2.2.1 x hx
      · simp [has] at hh; exact hh
  · exact h
theorem fresh_ok {n : Nat} (hn : n ≤ 512) : (fresh n).ok := ⟨by simp [fresh, hn], by simp [fresh], by simp [fresh], by simp [fresh], by simp [fresh]⟩
theorem put_len (d : Dsk) (i : Int) (s : Sec) : (d.put i s).pe.length ≤ d.pe.length + 1 ∧ (d.put i s).st = d.st := by
  unfold Dsk.put
  split
  · split
    · simp [acted_pe, acted_st]
    · simp [acted_st]
  · simp
theorem sync_len (d : Dsk) : d.sync.pe.length ≤ d.pe.length ∧ d.sync.st.length = d.st.length := by
  unfold Dsk.sync
  split
  · simp [acted_pe, acted_st]
  · simp [Dsk.settled, settle_len, acted_st]
end Go.Proofs.Ythgafnommcodcaa.Disk
/-
  A log of records on a disk, in plain words: where records are laid, what a scan finds, and that what was synced is found. Nothing of a program is named here.
  A place is told by the number of its segment in the order from the one begun with, and its sector in that.
-/
namespace Go.Proofs.Ythgafnommcodcaa.Wal
open Go.Proofs.Ythgafnommcodcaa.Frame Go.Proofs.Ythgafnommcodcaa.Disk

/-- How many segments; the sector of a place; the segment of a number. -/
def segsN (n : Nat) : Nat := (n - 32) / 16
def segOf (S st j : Nat) : Nat := (st + j) % S
def adr (S st j t : Nat) : Nat := 32 + 16 * segOf S st j + t
theorem adr_inj {S st j k t u : Nat} (hj : j < S) (hk : k < S) (ht : t < 16) (hu : u < 16) (h : adr S st j t = adr S st k u) : j = k ∧ t = u := by
  unfold adr segOf at h
  have h1 : (st + j) % S = (st + k) % S := by omega
  have h2 : t = u := by omega
  refine ⟨?_, h2⟩
  rcases Nat.lt_trichotomy j k with h3 | h3 | h3
  · have e := Nat.sub_mod_eq_zero_of_mod_eq h1.symm
    rw [show st + k - (st + j) = k - j by omega, Nat.mod_eq_of_lt (by omega)] at e
    omega
  · exact h3
  · have e := Nat.sub_mod_eq_zero_of_mod_eq h1
    rw [show st + j - (st + k) = j - k by omega, Nat.mod_eq_of_lt (by omega)] at e
    omega
theorem adr_lt {S st j t n : Nat} (hS : S = segsN n) (h0 : 0 < S) (ht : t < 16) : adr S st j t < n := by
  unfold adr segOf
  have := Nat.mod_lt (st + j) h0
  unfold segsN at hS
  omega

/-- What the places hold. -/
abbrev Rd := Nat → Nat → Sec
def Has (rd : Rd) (j t : Nat) (l : List Sec) : Prop := ∀ i, i < l.length → rd j (t + i) = l.getD i zero
def view (rd : Rd) (j t : Nat) : List Sec := (List.range (16 - t)).map fun i => rd j (t + i)
theorem view_has {rd : Rd} {j t : Nat} {l : List Sec} (h : Has rd j t l) (hl : t + l.length ≤ 16) : view rd j t = l ++ view rd j (t + l.length) := by
  refine List.ext_getElem? fun i => ?_
  unfold view
  rcases Nat.lt_or_ge i l.length with hi | hi
  · rw [List.getElem?_append_left hi, List.getElem?_map, List.getElem?_range (by omega), Option.map_some, h i hi, List.getD_eq_getElem?_getD, List.getElem?_eq_getElem hi]
    rfl
  · rw [List.getElem?_append_right hi]
    rcases Nat.lt_or_ge i (16 - t) with h2 | h2
    · rw [List.getElem?_map, List.getElem?_map, List.getElem?_range h2, List.getElem?_range (by omega), Option.map_some, Option.map_some, show t + l.length + (i - l.length) = t + i by omega]
    · rw [List.getElem?_eq_none (by simp; omega), List.getElem?_eq_none (by simp; omega)]
theorem view_zero {rd : Rd} {j t : Nat} (h : ∀ i, t ≤ i → i < 16 → rd j i = zero) : view rd j t = List.replicate (16 - t) zero := by
  refine List.ext_getElem? fun i => ?_
  unfold view
  rcases Nat.lt_or_ge i (16 - t) with hi | hi
  · rw [List.getElem?_map, List.getElem?_range hi, Option.map_some, h (t + i) (by omega) (by omega), List.getElem?_replicate, if_pos hi]
  · rw [List.getElem?_eq_none (by simp; omega), List.getElem?_eq_none (by simp; omega)]

/-- The record of this number and epoch at a place, if there is one. -/
def atPlace (rd : Rd) (ep nx j t : Nat) : Got := if ((got (view rd j t)).ok && (decide ((got (view rd j t)).s = nx) && decide ((got (view rd j t)).e = ep))) = true then got (view rd j t) else nought
def more (nx : Nat) : Nat := (nx + 1) % 18446744073709551616
/-- What a scan finds: the records, and the segment's number in the order. -/
def scan (rd : Rd) (S ep : Nat) : Nat → Nat → Nat → Nat → List Got × Nat
  | 0, _, j, _ => ([], j)
  | f + 1, nx, j, t =>
    if nx = 0 then ([], j)
    else if (atPlace rd ep nx j t).ok = true then ((atPlace rd ep nx j t) :: (scan rd S ep f (more nx) j (t + (atPlace rd ep nx j t).n)).1, (scan rd S ep f (more nx) j (t + (atPlace rd ep nx j t).n)).2)
    else if j + 1 = S then ([], j)
    else if (atPlace rd ep nx (j + 1) 0).ok = true then ((atPlace rd ep nx (j + 1) 0) :: (scan rd S ep f (more nx) (j + 1) (atPlace rd ep nx (j + 1) 0).n).1, (scan rd S ep f (more nx) (j + 1) (atPlace rd ep nx (j + 1) 0).n).2)
    else ([], j)
theorem scan_step (rd : Rd) (S ep f nx j t : Nat) : scan rd S ep (f + 1) nx j t =
    if nx = 0 then ([], j)
    else if (atPlace rd ep nx j t).ok = true then ((atPlace rd ep nx j t) :: (scan rd S ep f (more nx) j (t + (atPlace rd ep nx j t).n)).1, (scan rd S ep f (more nx) j (t + (atPlace rd ep nx j t).n)).2)
    else if j + 1 = S then ([], j)
    else if (atPlace rd ep nx (j + 1) 0).ok = true then ((atPlace rd ep nx (j + 1) 0) :: (scan rd S ep f (more nx) (j + 1) (atPlace rd ep nx (j + 1) 0).n).1, (scan rd S ep f (more nx) (j + 1) (atPlace rd ep nx (j + 1) 0).n).2)
    else ([], j) := rfl
theorem at_made {rd : Rd} {ep nx j t : Nat} {p : List Int} (hr : right nx p = true) (hn : nx < 18446744073709551616) (he : ep < 4294967296) (hl : t + size p.length ≤ 16) (h : Has rd j t (made nx ep p)) : atPlace rd ep nx j t = ⟨true, size p.length, nx, ep, p⟩ := by
  have hm := made_len (e := ep) hr
  have e : got (view rd j t) = ⟨true, size p.length, nx, ep, p⟩ := by
    rw [view_has h (by rw [hm]; exact hl), got_made hr (by simpa using hn) (by simpa using he), hm]
  unfold atPlace
  rw [e]
  simp
theorem at_zero {rd : Rd} {ep nx j t : Nat} (h : ∀ i, t ≤ i → i < 16 → rd j i = zero) : atPlace rd ep nx j t = nought := by
  unfold atPlace
  rw [view_zero h, got_zero]
  simp [nought]

/-- The records lie one behind the other, from a place to a place, as a log lays them. -/
def Chain (rd : Rd) (S ep : Nat) : Nat → Nat → Nat → List (List Int) → Nat × Nat → Prop
  | _, j, t, [], e => e = (j, t)
  | nx, j, t, p :: r, e => right nx p = true ∧ ((t + size p.length ≤ 16 ∧ Has rd j t (made nx ep p) ∧ Chain rd S ep (nx + 1) j (t + size p.length) r e) ∨
      (16 < t + size p.length ∧ j + 1 < S ∧ (∀ i, t ≤ i → i < 16 → rd j i = zero) ∧ Has rd (j + 1) 0 (made nx ep p) ∧ Chain rd S ep (nx + 1) (j + 1) (size p.length) r e))
/-- As a scan tells them. -/
def tells (ep : Nat) : Nat → List (List Int) → List Got
  | _, [] => []
  | nx, p :: r => ⟨true, size p.length, nx, ep, p⟩ :: tells ep (nx + 1) r
theorem tells_len (ep : Nat) : ∀ (nx : Nat) (l : List (List Int)), (tells ep nx l).length = l.length
  | _, [] => rfl
  | nx, _ :: r => by simp [tells, tells_len ep (nx + 1) r]
theorem scan_chain {rd : Rd} {S ep : Nat} (he : ep < 4294967296) : ∀ (l : List (List Int)) (nx j t f : Nat) (e : Nat × Nat), 0 < nx → nx + l.length < 18446744073709551616 → Chain rd S ep nx j t l e →
    scan rd S ep (l.length + f) nx j t = (tells ep nx l ++ (scan rd S ep f (nx + l.length) e.1 e.2).1, (scan rd S ep f (nx + l.length) e.1 e.2).2)
  | [], nx, j, t, f, e, _, _, h => by
    obtain rfl : e = (j, t) := h
    simp [tells]
  | p :: r, nx, j, t, f, e, h0, hn, h => by
    have hn' : nx + (r.length + 1) < 18446744073709551616 := by simpa using hn
    have hm : more nx = nx + 1 := by unfold more; exact Nat.mod_eq_of_lt (by omega)
    have e2 : nx + (p :: r).length = nx + 1 + r.length := by simp; omega
    rw [show (p :: r).length + f = (r.length + f) + 1 by simp; omega, e2]
    rw [scan_step, if_neg (by omega), hm]
    obtain ⟨hr, ⟨h1, h2, h3⟩ | ⟨h1, h2, h3, h4, h5⟩⟩ := h
    · have ih := scan_chain he r (nx + 1) j (t + size p.length) f e (by omega) (by omega) h3
      rw [at_made hr (by omega) he h1 h2]
      simp only [if_true]
      rw [ih]
      rfl
    · have h7 : size p.length ≤ 12 := (size_fits (by simp [right] at hr; exact hr.1)).2.2.2
      have ih := scan_chain he r (nx + 1) (j + 1) (size p.length) f e (by omega) (by omega) h5
      rw [at_zero h3, if_neg (by simp [nought]), if_neg (by omega), at_made hr (by omega) he (by omega) h4]
      simp only [if_true]
      rw [ih]
      rfl
/-- One place lies behind another, or is it. -/
def upTo (j t : Nat) (e : Nat × Nat) : Prop := 16 * j + t ≤ 16 * e.1 + e.2
theorem chain_end {rd : Rd} {S ep : Nat} : ∀ (l : List (List Int)) (nx j t : Nat) (e : Nat × Nat), t ≤ 16 → Chain rd S ep nx j t l e → upTo j t e ∧ e.2 ≤ 16 ∧ (j < S → e.1 < S)
  | [], _, j, t, e, ht, h => by
    obtain rfl : e = (j, t) := h
    exact ⟨Nat.le_refl _, ht, id⟩
  | p :: r, nx, j, t, e, ht, h => by
    obtain ⟨hr, ⟨h1, _, h3⟩ | ⟨h1, h2, _, _, h5⟩⟩ := h
    · obtain ⟨a, b, c⟩ := chain_end r (nx + 1) j (t + size p.length) e h1 h3
      exact ⟨by unfold upTo at *; omega, b, c⟩
    · have h7 : size p.length ≤ 12 := (size_fits (by simp [right] at hr; exact hr.1)).2.2.2
      obtain ⟨a, b, c⟩ := chain_end r (nx + 1) (j + 1) (size p.length) e (by omega) h5
      exact ⟨by unfold upTo at *; omega, b, fun _ => c h2⟩
/-- What lies behind the last record does not matter. -/
theorem chain_same {rd rd' : Rd} {S ep : Nat} : ∀ (l : List (List Int)) (nx j t : Nat) (e : Nat × Nat), t ≤ 16 → (∀ k u, u < 16 → 16 * j + t ≤ 16 * k + u → 16 * k + u < 16 * e.1 + e.2 → rd' k u = rd k u) → Chain rd S ep nx j t l e → Chain rd' S ep nx j t l e
  | [], _, _, _, _, _, _, h => h
  | p :: r, nx, j, t, e, ht, hs, h => by
    obtain ⟨hr, ⟨h1, h2, h3⟩ | ⟨h1, h2, h3, h4, h5⟩⟩ := h
    · have a := (chain_end r (nx + 1) j (t + size p.length) e h1 h3).1
      unfold upTo at a
      have hm := made_len (e := ep) hr
      refine ⟨hr, .inl ⟨h1, fun i hi => ?_, chain_same r (nx + 1) j (t + size p.length) e h1 (fun k u hu h6 h7 => hs k u hu (by omega) h7) h3⟩⟩
      rw [hs j (t + i) (by omega) (by omega) (by omega)]
      exact h2 i hi
    · have h7 : size p.length ≤ 12 := (size_fits (by simp [right] at hr; exact hr.1)).2.2.2
      have a := (chain_end r (nx + 1) (j + 1) (size p.length) e (by omega) h5).1
      unfold upTo at a
      have hm := made_len (e := ep) hr
      refine ⟨hr, .inr ⟨h1, h2, fun i h8 h9 => ?_, fun i hi => ?_, chain_same r (nx + 1) (j + 1) (size p.length) e (by omega) (fun k u hu h6 h7 => hs k u hu (by omega) h7) h5⟩⟩
      · rw [hs j i h9 (by omega) (by omega)]
        exact h3 i h8 h9
      · rw [hs (j + 1) (0 + i) (by omega) (by omega) (by omega)]
        exact h4 i hi
/-- A record more. -/
theorem chain_more {rd : Rd} {S ep : Nat} : ∀ (l : List (List Int)) (nx j t : Nat) (e e' : Nat × Nat) (p : List Int), Chain rd S ep nx j t l e → Chain rd S ep (nx + l.length) e.1 e.2 [p] e' → Chain rd S ep nx j t (l ++ [p]) e'
  | [], _, j, t, e, e', p, h, h2 => by
    obtain rfl : e = (j, t) := h
    exact h2
  | q :: r, nx, j, t, e, e', p, h, h2 => by
    have e2 : nx + (q :: r).length = nx + 1 + r.length := by simp; omega
    rw [e2] at h2
    obtain ⟨hr, ⟨h1, h3, h4⟩ | ⟨h1, h3, h4, h5, h6⟩⟩ := h
    · exact ⟨hr, .inl ⟨h1, h3, chain_more r (nx + 1) j (t + size q.length) e e' p h4 h2⟩⟩
    · exact ⟨hr, .inr ⟨h1, h3, h4, h5, chain_more r (nx + 1) (j + 1) (size q.length) e e' p h6 h2⟩⟩
end Go.Proofs.Ythgafnommcodcaa.Wal
/-
  What a log's appends, syncs, breaks and crashes make of a disk, in plain words; and that behind a crash all that was synced lies as it was laid. Nothing of a program is named here.
-/
namespace Go.Proofs.Ythgafnommcodcaa.Wal
open Go.Proofs.Ythgafnommcodcaa.Frame Go.Proofs.Ythgafnommcodcaa.Disk

/-- Sectors one behind the other, up to the first error. -/
def writes : Dsk → Nat → List Sec → Dsk × Int
  | d, _, [] => (d, 0)
  | d, i, s :: r => if d.putE i = 0 then writes (d.put i s) (i + 1) r else (d.put i s, d.putE i)
theorem has_nat {n i : Nat} (h : i < n) : has n i = true := by unfold has; simp [h]
theorem putE_zero {d : Dsk} {i : Nat} (h : d.putE i = 0) : i < d.st.length ∧ d.no = false := by
  unfold Dsk.putE at h
  split at h
  · rename_i hh
    unfold has at hh
    unfold Dsk.err at h
    split at h
    · omega
    · rename_i hn
      exact ⟨by simp at hh; omega, by simpa using hn⟩
  · omega
theorem put_yes {d : Dsk} {i : Nat} (s : Sec) (h : d.putE i = 0) : (d.put i s).st = d.st ∧ (d.put i s).pe = d.pe ++ [((i : Int), s)] ∧ (d.put i s).dn = d.dn := by
  obtain ⟨h1, h2⟩ := putE_zero h
  unfold Dsk.put
  rw [if_pos (has_nat h1), if_neg (by simp [h2])]
  refine ⟨acted_st d, rfl, ?_⟩
  show d.acted.dn = d.dn
  unfold Dsk.acted
  rw [if_neg (by simp [h2])]
theorem put_no {d : Dsk} {i : Nat} (s : Sec) (h : d.putE i ≠ 0) : (d.put i s).st = d.st ∧ (d.put i s).pe = d.pe ∧ (i < d.st.length → (d.put i s).dn = true ∧ d.putE i = 72) := by
  unfold Dsk.putE at h ⊢
  unfold Dsk.put
  split at h
  · rename_i hh
    rw [if_pos hh, if_pos hh]
    unfold Dsk.err at h ⊢
    split at h
    · rename_i hn
      rw [if_pos hn, if_pos hn]
      refine ⟨acted_st d, acted_pe d, fun _ => ⟨?_, rfl⟩⟩
      unfold Dsk.acted
      rw [if_pos hn]
    · exact absurd rfl h
  · rename_i hh
    rw [if_neg hh]
    exact ⟨rfl, rfl, fun hi => absurd (has_nat hi) hh⟩
theorem put_read {d : Dsk} {i : Nat} (s : Sec) (h : d.putE i = 0) (a : Nat) : (d.put i s).read a = if a = i then (s, 0) else d.read a := by
  obtain ⟨h1, h2, _⟩ := put_yes s h
  unfold Dsk.read
  rw [h1, h2, last_app]
  by_cases hai : a = i
  · subst hai; simp
  · rw [if_neg (by simpa using fun e : (i : Int) = (a : Int) => hai (by omega)), if_neg hai]
theorem writes_read : ∀ (l : List Sec) (d : Dsk) (i : Nat), (writes d i l).2 = 0 → ∀ a : Nat, (writes d i l).1.read a = if i ≤ a ∧ a < i + l.length then (l.getD (a - i) zero, 0) else d.read a
  | [], d, i, _, a => by
    rw [if_neg (by simp only [List.length_nil]; omega)]; rfl
  | s :: r, d, i, h, a => by
    unfold writes at h ⊢
    by_cases hp : d.putE i = 0
    · rw [if_pos hp] at h ⊢
      rw [writes_read r _ (i + 1) h a, put_read s hp a]
      by_cases hai : a = i
      · subst hai
        rw [if_neg (by omega), if_pos rfl, if_pos (by simp only [List.length_cons]; omega), Nat.sub_self]
        rfl
      · by_cases h2 : i + 1 ≤ a ∧ a < i + 1 + r.length
        · rw [if_pos h2, if_pos (by simp only [List.length_cons]; omega), show a - i = (a - (i + 1)) + 1 by omega]
          rfl
        · rw [if_neg h2, if_neg hai, if_neg (by simp only [List.length_cons]; omega)]
    · rw [if_neg hp] at h
      exact absurd h hp
theorem writes_all : ∀ (l : List Sec) (d : Dsk) (i : Nat), i + l.length ≤ d.st.length → (writes d i l).1.st = d.st ∧ (∀ x ∈ (writes d i l).1.pe, x ∈ d.pe ∨ ∃ u, u < l.length ∧ x.1 = ((i + u : Nat) : Int)) ∧
    (writes d i l).1.pe.length ≤ d.pe.length + l.length ∧ ((writes d i l).2 = 0 ∧ (writes d i l).1.dn = d.dn ∨ (writes d i l).2 = 72 ∧ (writes d i l).1.dn = true)
  | [], d, i, _ => ⟨rfl, fun x hx => .inl hx, Nat.le_refl _, .inl ⟨rfl, rfl⟩⟩
  | s :: r, d, i, h => by
    simp only [List.length_cons] at h ⊢
    unfold writes
    by_cases hp : d.putE i = 0
    · rw [if_pos hp]
      obtain ⟨h1, h2, h3⟩ := put_yes s hp
      obtain ⟨a, b, c, e⟩ := writes_all r (d.put i s) (i + 1) (by rw [h1]; omega)
      rw [h2] at b c
      rw [h3] at e
      refine ⟨a.trans h1, fun x hx => ?_, by simp only [List.length_append, List.length_singleton] at c; omega, e⟩
      rcases b x hx with hb | ⟨u, hu, hb⟩
      · rcases List.mem_append.1 hb with hb | hb
        · exact .inl hb
        · rw [List.mem_singleton] at hb
          subst hb
          exact .inr ⟨0, by omega, rfl⟩
      · exact .inr ⟨u + 1, by omega, by rw [hb]; omega⟩
    · rw [if_neg hp]
      obtain ⟨h1, h2, h3⟩ := put_no s hp
      obtain ⟨h4, h5⟩ := h3 (by omega)
      exact ⟨h1, fun x hx => .inl (h2 ▸ hx), by rw [h2]; omega, .inr ⟨h5, h4⟩⟩
theorem writes_ok : ∀ (l : List Sec) (d : Dsk) (i : Nat), d.ok → d.pe.length + l.length ≤ 1000 → (writes d i l).1.ok
  | [], _, _, h, _ => h
  | s :: r, d, i, h, hl => by
    simp only [List.length_cons] at hl
    have h1 := put_ok h i s (by omega)
    have h2 := (put_len d i s).1
    unfold writes
    split
    · exact writes_ok r _ _ h1 (by omega)
    · exact h1

/-- What the places of a disk hold, as it is read, and what is stable. -/
def vis (d : Dsk) (S st : Nat) : Rd := fun j t => (d.read ((adr S st j t : Nat) : Int)).1
def stb (d : Dsk) (S st : Nat) : Rd := fun j t => d.st.getD (adr S st j t) zero
theorem vis_quiet {d : Dsk} (S st : Nat) (h : d.pe = []) : vis d S st = stb d S st := by
  funext j t
  unfold vis stb Dsk.read
  rw [h]
  simp only [last]
  unfold stab
  by_cases ha : adr S st j t < d.st.length
  · rw [if_pos (has_nat ha)]; simp
  · rw [if_neg (by unfold has; simp; omega), List.getD_eq_getElem?_getD, List.getElem?_eq_none (by omega)]; rfl
/-- What was synced stays: no write that is pending is of its places. -/
def Safe (S st ep nx0 : Nat) (d : Dsk) (ps : List (List Int)) (safe : Nat) (e : Nat × Nat) : Prop :=
  safe ≤ ps.length ∧ Chain (stb d S st) S ep nx0 0 0 (ps.take safe) e ∧ ∀ x ∈ d.pe, ∃ k u, k < S ∧ u < 16 ∧ x.1 = ((adr S st k u : Nat) : Int) ∧ 16 * e.1 + e.2 ≤ 16 * k + u
/-- A disk and the log on it: its records lie there, and what is ahead was never written. -/
def Kept (n S st ep nx0 : Nat) (d : Dsk) (j t : Nat) (ps : List (List Int)) (safe : Nat) : Prop :=
  d.ok ∧ d.st.length = n ∧ j < S ∧ t ≤ 16 ∧ Chain (vis d S st) S ep nx0 0 0 ps (j, t) ∧ (∀ k u, k < S → u < 16 → 16 * j + t ≤ 16 * k + u → vis d S st k u = zero) ∧
  ∃ e, Safe S st ep nx0 d ps safe e ∧ 16 * e.1 + e.2 ≤ 16 * j + t
theorem settle_other (f : Nat → Bool) (a : Nat) : ∀ (l : List Wr) (n : Nat) (st : List Sec), (∀ x ∈ l, 0 ≤ x.1 ∧ x.1 ≠ (a : Int)) → (settle f n l st).getD a zero = st.getD a zero
  | [], _, _, _ => rfl
  | x :: r, n, st, h => by
    unfold settle
    rw [settle_other f a r (n + 1) _ fun y hy => h y (by simp [hy])]
    split
    · obtain ⟨h1, h2⟩ := h x (by simp)
      rw [List.getD_eq_getElem?_getD, List.getD_eq_getElem?_getD, List.getElem?_set_ne (by omega)]
    · rfl
/-- Behind a crash what was synced is there. -/
theorem safe_crash {S st ep nx0 safe : Nat} {d : Dsk} {ps : List (List Int)} {e : Nat × Nat} (h : Safe S st ep nx0 d ps safe e) (ks : List Bool) : Chain (vis (d.crash ks) S st) S ep nx0 0 0 (ps.take safe) e := by
  obtain ⟨_, h2, h3⟩ := h
  rw [vis_quiet S st (show (d.crash ks).pe = [] from rfl)]
  refine chain_same _ _ _ _ _ (by omega) (fun k u hu _ h7 => ?_) h2
  refine settle_other _ _ _ _ _ fun x hx => ?_
  obtain ⟨k', u', hk', hu', hx', hle⟩ := h3 x hx
  refine ⟨by omega, fun e2 => ?_⟩
  rw [hx'] at e2
  obtain ⟨e3, e4⟩ := adr_inj hk' (by omega) hu' hu (Int.ofNat.inj e2)
  omega
theorem getD_replicate_zero (n a : Nat) : (List.replicate n zero).getD a zero = zero := by
  rw [List.getD_eq_getElem?_getD, List.getElem?_replicate]
  split <;> rfl
theorem kept_fresh {n S st ep nx0 : Nat} (hn : n ≤ 512) (hS : 0 < S) : Kept n S st ep nx0 (fresh n) 0 0 [] 0 := by
  refine ⟨fresh_ok hn, by simp [fresh], hS, by omega, rfl, fun k u _ _ _ => ?_, (0, 0), ⟨by simp, rfl, by simp [fresh]⟩, by simp⟩
  rw [vis_quiet S st (show (fresh n).pe = [] from rfl)]
  exact getD_replicate_zero _ _
/-- A record is laid: at the place where the log is, or at the beginning of the next segment. -/
theorem kept_write {n S st ep nx0 : Nat} {d : Dsk} {j t : Nat} {ps : List (List Int)} {safe : Nat} (h : Kept n S st ep nx0 d j t ps safe) (hSn : S = segsN n) (p : List Int) (hr : right (nx0 + ps.length) p = true) (hpe : d.pe.length ≤ 900)
    (j' t' : Nat) (hp : (t + size p.length ≤ 16 ∧ j' = j ∧ t' = t) ∨ (16 < t + size p.length ∧ j + 1 < S ∧ j' = j + 1 ∧ t' = 0)) (ho : (writes d (adr S st j' t') (made (nx0 + ps.length) ep p)).2 = 0) :
    Kept n S st ep nx0 (writes d (adr S st j' t') (made (nx0 + ps.length) ep p)).1 j' (t' + size p.length) (ps ++ [p]) safe := by
  obtain ⟨k1, k2, k3, k4, k5, k6, e, ⟨s1, s2, s3⟩, k7⟩ := h
  have hf := size_fits (show p.length ≤ 700 by simp [right] at hr; exact hr.1)
  have hm := made_len (e := ep) hr
  obtain ⟨M, hM⟩ : ∃ M, made (nx0 + ps.length) ep p = M := ⟨_, rfl⟩
  rw [hM] at hm ho ⊢
  have hj' : j' < S := by rcases hp with ⟨_, rfl, _⟩ | ⟨_, h2, rfl, _⟩ <;> omega
  have ht' : t' + size p.length ≤ 16 := by rcases hp with ⟨h1, _, rfl⟩ | ⟨_, _, _, rfl⟩ <;> omega
  have hahead : 16 * j + t ≤ 16 * j' + t' := by rcases hp with ⟨_, rfl, rfl⟩ | ⟨_, _, rfl, rfl⟩ <;> omega
  have hfit : adr S st j' t' + M.length ≤ d.st.length := by
    have := adr_lt (n := n) (st := st) (j := j') hSn (by omega) (show t' + size p.length - 1 < 16 by omega)
    unfold adr at this ⊢
    rw [k2, hm]
    omega
  obtain ⟨a1, a2, a3, a4⟩ := writes_all M d _ hfit
  have hrd := writes_read M d _ ho
  have hok := writes_ok M d (adr S st j' t') k1 (by omega)
  have hv : ∀ k u, k < S → u < 16 → vis (writes d (adr S st j' t') M).1 S st k u = if k = j' ∧ t' ≤ u ∧ u < t' + size p.length then M.getD (u - t') zero else vis d S st k u := by
    intro k u hk hu
    unfold vis
    rw [hrd (adr S st k u), hm]
    by_cases hc : k = j' ∧ t' ≤ u ∧ u < t' + size p.length
    · obtain ⟨rfl, h1, h2⟩ := hc
      rw [if_pos (by unfold adr; omega), if_pos ⟨rfl, h1, h2⟩]
      have : adr S st k u - adr S st k t' = u - t' := by unfold adr; omega
      rw [this]
    · rw [if_neg hc, if_neg]
      rintro ⟨h1, h2⟩
      have e3 : adr S st k u = adr S st j' (t' + (adr S st k u - adr S st j' t')) := by unfold adr at h1 ⊢; omega
      obtain ⟨e4, e5⟩ := adr_inj hk hj' hu (by omega) e3
      exact hc ⟨e4, by omega, by omega⟩
  generalize (writes d (adr S st j' t') M).1 = d' at *
  clear hrd
  have hold : ∀ k u, k < S → u < 16 → 16 * k + u < 16 * j + t → vis d' S st k u = vis d S st k u := fun k u hk hu hlt => by
    rw [hv k u hk hu, if_neg]
    rintro ⟨rfl, h1, h2⟩
    omega
  have hend := (chain_end ps nx0 0 0 (j, t) (by omega) k5).1
  have hHas : Has (vis d' S st) j' t' M := fun i hi => by
    rw [hm] at hi
    rw [hv j' (t' + i) hj' (by omega), if_pos ⟨rfl, by omega, by omega⟩, show t' + i - t' = i by omega]
  refine ⟨hok, a1 ▸ k2, hj', ht', ?_, fun k u hk hu hle => ?_, e, ⟨by simp; omega, ?_, fun x hx => ?_⟩, by show 16 * e.1 + e.2 ≤ 16 * j' + (t' + size p.length); omega⟩
  · refine chain_more ps nx0 0 0 (j, t) _ p (chain_same ps nx0 0 0 (j, t) (by omega) (fun k u hu _ h7 => hold k u (by simp only at h7; omega) hu h7) k5) ?_
    rcases hp with ⟨h1, rfl, rfl⟩ | ⟨h1, h2, rfl, rfl⟩
    · exact ⟨hr, .inl ⟨h1, hM.symm ▸ hHas, rfl⟩⟩
    · refine ⟨hr, .inr ⟨h1, h2, fun i hi hi2 => ?_, hM.symm ▸ hHas, by simp [Chain]⟩⟩
      rw [hv j i (by omega) hi2, if_neg (by omega)]
      exact k6 j i (by omega) hi2 (by omega)
  · rw [hv k u hk hu, if_neg (by omega)]
    exact k6 k u hk hu (by omega)
  · rw [List.take_append_of_le_length s1]
    have : stb d' S st = stb d S st := by funext k u; unfold stb; rw [a1]
    rw [this]
    exact s2
  · rcases a2 x hx with hb | ⟨u, hu, hb⟩
    · exact s3 x hb
    · rw [hm] at hu
      exact ⟨j', t' + u, hj', by omega, by rw [hb]; unfold adr; omega, by omega⟩
theorem settle_yes (a : Nat) : ∀ (l : List Wr) (n : Nat) (st : List Sec), a < st.length → (∀ x ∈ l, 0 ≤ x.1) → (settle (fun _ => true) n l st).getD a zero = (last l a).getD (st.getD a zero)
  | [], _, _, _, _ => rfl
  | x :: r, n, st, ha, h => by
    have h0 := h x (by simp)
    unfold settle
    rw [if_pos rfl, settle_yes a r (n + 1) _ (by simpa using ha) fun y hy => h y (by simp [hy])]
    show _ = (match last r (a : Int) with | some s => some s | none => if x.1 = (a : Int) then some x.2 else none).getD (st.getD a zero)
    cases last r (a : Int) with
    | some s => rfl
    | none =>
      simp only [Option.getD_none]
      by_cases hx : x.1 = (a : Int)
      · rw [if_pos hx, hx, List.getD_eq_getElem?_getD, Int.toNat_natCast, List.getElem?_set_self ha]
        rfl
      · rw [if_neg hx, List.getD_eq_getElem?_getD, List.getElem?_set_ne (by omega), ← List.getD_eq_getElem?_getD]
        rfl
/-- What is synced stays from then on. -/
theorem kept_sync {n S st ep nx0 : Nat} {d : Dsk} {j t : Nat} {ps : List (List Int)} {safe : Nat} (h : Kept n S st ep nx0 d j t ps safe) (hSn : S = segsN n) (hno : d.no = false) : Kept n S st ep nx0 d.sync j t ps ps.length ∧ d.sync.dn = d.dn := by
  obtain ⟨k1, k2, k3, k4, k5, k6, _⟩ := h
  have hs : d.sync = d.acted.settled fun _ => true := by unfold Dsk.sync; rw [if_neg (by simp [hno])]
  have hpe : d.sync.pe = [] := by rw [hs]; rfl
  have hlen : d.sync.st.length = n := (sync_len d).2.trans k2
  have hdn : d.sync.dn = d.dn := by
    rw [hs]
    show d.acted.dn = d.dn
    unfold Dsk.acted
    rw [if_neg (by simp [hno])]
  have hv : ∀ k u, k < S → u < 16 → vis d.sync S st k u = vis d S st k u := fun k u hk hu => by
    have hlt := adr_lt (st := st) (j := k) hSn (by omega) hu
    rw [vis_quiet S st hpe]
    unfold stb vis
    rw [hs]
    show (settle (fun _ => true) 0 d.acted.pe d.acted.st).getD _ zero = _
    rw [acted_pe, acted_st, settle_yes _ _ _ _ (by omega) fun x hx => (k1.2.2.1 x hx).1]
    unfold Dsk.read
    cases last d.pe ((adr S st k u : Nat) : Int) with
    | some s => rfl
    | none =>
      unfold stab
      rw [if_pos (has_nat (by omega))]
      simp
  have hend := (chain_end ps nx0 0 0 (j, t) (by omega) k5).1
  have hch : Chain (vis d.sync S st) S ep nx0 0 0 ps (j, t) := chain_same ps nx0 0 0 (j, t) (by omega) (fun k u hu _ h7 => hv k u (by simp only at h7; omega) hu) k5
  refine ⟨⟨sync_ok k1, hlen, k3, k4, hch, fun k u hk hu hle => by rw [hv k u hk hu]; exact k6 k u hk hu hle, (j, t), ⟨Nat.le_refl _, ?_, by rw [hpe]; simp⟩, Nat.le_refl _⟩, hdn⟩
  rw [List.take_of_length_le (Nat.le_refl _), ← vis_quiet S st hpe]
  exact hch
theorem kept_break {n S st ep nx0 : Nat} {d : Dsk} {j t : Nat} {ps : List (List Int)} {safe : Nat} (h : Kept n S st ep nx0 d j t ps safe) {x : Int} (hx : Inty x) : Kept n S st ep nx0 (d.breaks x) j t ps safe := by
  obtain ⟨k1, k2, k3, k4, k5, k6, e, s1, k7⟩ := h
  exact ⟨breaks_ok k1 hx, k2, k3, k4, k5, k6, e, s1, k7⟩
/-- Whatever came of the writes: what was synced stays. -/
theorem safe_write {n S st ep nx0 : Nat} {d : Dsk} {j t : Nat} {ps : List (List Int)} {safe : Nat} (h : Kept n S st ep nx0 d j t ps safe) (hSn : S = segsN n) (M : List Sec) (j' t' : Nat) (hj : j' < S) (ht : t' + M.length ≤ 16) (h0 : 0 < M.length) (ha : 16 * j + t ≤ 16 * j' + t') :
    ∃ e, Safe S st ep nx0 (writes d (adr S st j' t') M).1 ps safe e := by
  obtain ⟨k1, k2, k3, k4, k5, k6, e, ⟨s1, s2, s3⟩, k7⟩ := h
  have hfit : adr S st j' t' + M.length ≤ d.st.length := by
    have := adr_lt (n := n) (st := st) (j := j') hSn (by omega) (show t' + M.length - 1 < 16 by omega)
    unfold adr at this ⊢
    rw [k2]
    omega
  obtain ⟨a1, a2, -, -⟩ := writes_all M d _ hfit
  generalize (writes d (adr S st j' t') M).1 = d' at *
  refine ⟨e, s1, ?_, fun x hx => ?_⟩
  · have : stb d' S st = stb d S st := by funext k u; unfold stb; rw [a1]
    rw [this]
    exact s2
  · rcases a2 x hx with hb | ⟨u, hu, hb⟩
    · exact s3 x hb
    · exact ⟨j', t' + u, hj, by omega, by rw [hb]; unfold adr; omega, by omega⟩
theorem safe_acted {S st ep nx0 : Nat} {d : Dsk} {ps : List (List Int)} {safe : Nat} {e : Nat × Nat} (h : Safe S st ep nx0 d ps safe e) : Safe S st ep nx0 d.acted ps safe e := by
  obtain ⟨s1, s2, s3⟩ := h
  refine ⟨s1, ?_, by rw [acted_pe]; exact s3⟩
  have : stb d.acted S st = stb d S st := by funext k u; unfold stb; rw [acted_st]
  rw [this]
  exact s2
/-- A scan behind a crash finds what was synced, ahead of all else. -/
theorem scan_crash {S st ep nx0 : Nat} {d : Dsk} {ps : List (List Int)} {safe : Nat} {e : Nat × Nat} (h : Safe S st ep nx0 d ps safe e) (ks : List Bool) (hep : ep < 4294967296) (h0 : 0 < nx0) (hn : nx0 + safe < 18446744073709551616) (f : Nat) :
    ∃ r b, scan (vis (d.crash ks) S st) S ep (safe + f) nx0 0 0 = (tells ep nx0 (ps.take safe) ++ r, b) := by
  have hl : (ps.take safe).length = safe := by rw [List.length_take]; have := h.1; omega
  have := scan_chain hep (ps.take safe) nx0 0 0 f e h0 (by rw [hl]; exact hn) (safe_crash h ks)
  rw [hl] at this
  exact ⟨_, _, this⟩
end Go.Proofs.Ythgafnommcodcaa.Wal
namespace Go.Proofs.Ythgafnommcodcaa.Wal
open Go.Proofs.Ythgafnommcodcaa.Frame Go.Proofs.Ythgafnommcodcaa.Disk

theorem view_len (rd : Rd) (j t : Nat) : (view rd j t).length = 16 - t := by simp [view]
/-- A record that is found ends within the segment, and is what it should be. -/
theorem at_ok {rd : Rd} {ep nx j t : Nat} (h : (atPlace rd ep nx j t).ok = true) : 0 < (atPlace rd ep nx j t).n ∧ t + (atPlace rd ep nx j t).n ≤ 16 ∧ (atPlace rd ep nx j t).s = nx ∧ (atPlace rd ep nx j t).e = ep ∧ atPlace rd ep nx j t = got (view rd j t) := by
  unfold atPlace at h ⊢
  split at h
  · rename_i hc
    rw [if_pos hc]
    simp only [Bool.and_eq_true, decide_eq_true_eq] at hc
    obtain ⟨h1, h2, h3⟩ := hc
    refine ⟨?_, ?_, h2, h3, rfl⟩
    all_goals
      unfold got at h1 ⊢
      split at h1
      · rename_i ho
        rw [if_pos ho]
        unfold opens roomy at ho
        simp only [Bool.and_eq_true, decide_eq_true_eq, view_len] at ho
        simp only
        omega
      · cases h1
  · cases h
/-- Each record has a sector at least. -/
theorem chain_count {rd : Rd} {S ep : Nat} : ∀ (l : List (List Int)) (nx j t : Nat) (e : Nat × Nat), t ≤ 16 → Chain rd S ep nx j t l e → 16 * j + t + l.length ≤ 16 * e.1 + e.2
  | [], _, j, t, e, _, h => by
    obtain rfl : e = (j, t) := h
    simp
  | p :: r, nx, j, t, e, ht, h => by
    obtain ⟨hr, ⟨h1, _, h3⟩ | ⟨h1, h2, _, _, h5⟩⟩ := h
    · have hf := size_fits (show p.length ≤ 700 by simp [right] at hr; exact hr.1)
      have := chain_count r (nx + 1) j (t + size p.length) e h1 h3
      simp only [List.length_cons]
      omega
    · have hf := size_fits (show p.length ≤ 700 by simp [right] at hr; exact hr.1)
      have := chain_count r (nx + 1) (j + 1) (size p.length) e (by omega) h5
      simp only [List.length_cons]
      omega
/-- Where nothing was written a scan ends. -/
theorem scan_zero {rd : Rd} {S ep j t : Nat} (h : ∀ k u, k < S → u < 16 → 16 * j + t ≤ 16 * k + u → rd k u = zero) (hj : j < S) (ht : t ≤ 16) : ∀ f nx, scan rd S ep f nx j t = ([], j)
  | 0, _ => rfl
  | f + 1, nx => by
    rw [scan_step, at_zero fun i hi hi2 => h j i hj hi2 (by omega)]
    split
    · rfl
    · rw [if_neg (by simp [nought])]
      split
      · rfl
      · rw [at_zero fun i hi hi2 => h (j + 1) i (by omega) hi2 (by omega), if_neg (by simp [nought])]
/-- All that lies there is found. -/
theorem scan_kept {n S st ep nx0 : Nat} {d : Dsk} {j t : Nat} {ps : List (List Int)} {safe : Nat} (h : Kept n S st ep nx0 d j t ps safe) (hep : ep < 4294967296) (h0 : 0 < nx0) (hn : nx0 + ps.length < 18446744073709551616) (f : Nat) :
    scan (vis d S st) S ep (ps.length + f) nx0 0 0 = (tells ep nx0 ps, j) := by
  obtain ⟨-, -, k3, k4, k5, k6, -⟩ := h
  rw [scan_chain hep ps nx0 0 0 f (j, t) h0 hn k5, scan_zero k6 k3 k4]
  simp
theorem kept_count {n S st ep nx0 : Nat} {d : Dsk} {j t : Nat} {ps : List (List Int)} {safe : Nat} (h : Kept n S st ep nx0 d j t ps safe) : ps.length ≤ 16 * S ∧ safe ≤ ps.length := by
  obtain ⟨-, -, k3, k4, k5, -, e, s1, -⟩ := h
  have := chain_count ps nx0 0 0 (j, t) (by omega) k5
  simp only at this
  exact ⟨by omega, s1.1⟩
/-- The next segment is the next one in the order, up to the one begun with. -/
theorem seg_first {S st : Nat} (hst : st < S) : segOf S st 0 = st := by unfold segOf; rw [Nat.add_zero]; exact Nat.mod_eq_of_lt hst
theorem seg_lt {S : Nat} (st j : Nat) (h : 0 < S) : segOf S st j < S := Nat.mod_lt _ h
theorem seg_next {S st j : Nat} (hS : 1 < S) : (if segOf S st j + 1 = S then 0 else segOf S st j + 1) = segOf S st (j + 1) := by
  have h1 := Nat.mod_lt (st + j) (show 0 < S by omega)
  have h2 : segOf S st (j + 1) = (segOf S st j + 1) % S := by
    unfold segOf
    rw [← Nat.add_assoc, Nat.add_mod (st + j) 1 S, Nat.mod_eq_of_lt hS]
  rw [h2]
  unfold segOf at h1 ⊢
  split
  · rename_i h
    rw [h, Nat.mod_self]
  · exact (Nat.mod_eq_of_lt (show (st + j) % S + 1 < S by omega)).symm
theorem seg_round {S st j : Nat} (hst : st < S) (hj : j < S) : segOf S st (j + 1) = st ↔ j + 1 = S := by
  unfold segOf
  constructor
  · intro h
    have e := Nat.sub_mod_eq_zero_of_mod_eq (show (st + (j + 1)) % S = st % S by rw [h, Nat.mod_eq_of_lt hst])
    rw [show st + (j + 1) - st = j + 1 by omega] at e
    rcases Nat.lt_or_ge (j + 1) S with h2 | h2
    · rw [Nat.mod_eq_of_lt h2] at e; omega
    · omega
  · intro h
    rw [h, Nat.add_mod_right, Nat.mod_eq_of_lt hst]
/-- The segment of a number, one by one: two numbers have the same one just where they are the same. -/
theorem seg_inj {S st j k : Nat} (hj : j < S) (hk : k < S) (h : segOf S st j = segOf S st k) : j = k := (adr_inj (st := st) (t := 0) (u := 0) hj hk (by omega) (by omega) (by unfold adr; omega)).1
end Go.Proofs.Ythgafnommcodcaa.Wal
