/-
  Package area: Segs, Slot, among, Seg, Next, Used, whatever is asked.
-/
import Derived.Test.YthgafnommcodcaaFramePlain
import Derived.Test.YthgafnommcodcaaCrcOf
import Derived.Test.YthgafnommcodcaaBlk
/-
  Sectors, writes, and a disk as lists: what the programs do, in plain words. Nothing of a program is named here.
-/
namespace Go.Proofs.Ythgafnommcodcaa.Disk
open Go.Proofs.Ythgafnommcodcaa.Frame (Sec zero)

def one (b : Int) : Sec := ⟨b :: List.replicate 63 0, by simp⟩
def two (b c : Int) : Sec := ⟨b :: c :: List.replicate 62 0, by simp⟩
/-- A write: its place, and what is to be there. -/
abbrev Wr := Int × Sec
/-- A disk: what is stable, what is pending, is it down, how many acts are left. -/
structure Dsk where
  st : List Sec
  pe : List Wr
  dn : Bool
  lf : Int
/-- Every pending write has its place. -/
def Dsk.ok (d : Dsk) : Prop := d.st.length ≤ 512 ∧ d.pe.length ≤ 1000 ∧ (∀ x ∈ d.pe, 0 ≤ x.1 ∧ x.1 < d.st.length) ∧ -1 ≤ d.lf ∧ d.lf ≤ 9223372036854775807
def fresh (n : Nat) : Dsk := ⟨List.replicate n zero, [], false, -1⟩
def clamp (x : Int) : Nat := (min (max x 0) 512).toNat
def has (n : Nat) (i : Int) : Bool := decide (0 ≤ i) && decide (i < n)
/-- The last write of a place. -/
def last : List Wr → Int → Option Sec
  | [], _ => none
  | x :: r, i => match last r i with
    | some s => some s
    | none => if x.1 = i then some x.2 else none
def stab (st : List Sec) (i : Int) : Sec × Int := if has st.length i then (st.getD i.toNat zero, 0) else (zero, 71)
def Dsk.read (d : Dsk) (i : Int) : Sec × Int := match last d.pe i with
  | some s => (s, 0)
  | none => stab d.st i
/-- Is an act refused? And the disk behind it. -/
def Dsk.no (d : Dsk) : Bool := d.dn || decide (d.lf = 0)
def Dsk.acted (d : Dsk) : Dsk := if d.no then { d with dn := true } else { d with lf := if 0 < d.lf then d.lf - 1 else d.lf }
def Dsk.err (d : Dsk) : Int := if d.no then 72 else 0
/-- Some of the writes, from number n on, are stable. -/
def settle (f : Nat → Bool) : Nat → List Wr → List Sec → List Sec
  | _, [], st => st
  | n, x :: r, st => settle f (n + 1) r (if f n then st.set x.1.toNat x.2 else st)
def keeps (ks : List Bool) (n : Nat) : Bool := ks.getD n false
def Dsk.settled (d : Dsk) (f : Nat → Bool) : Dsk := { d with st := settle f 0 d.pe d.st, pe := [] }
def Dsk.put (d : Dsk) (i : Int) (s : Sec) : Dsk := if has d.st.length i then (if d.no then d.acted else { d.acted with pe := d.pe ++ [(i, s)] }) else d
def Dsk.putE (d : Dsk) (i : Int) : Int := if has d.st.length i then d.err else 71
def Dsk.sync (d : Dsk) : Dsk := if d.no then d.acted else d.acted.settled fun _ => true
def Dsk.breaks (d : Dsk) (n : Int) : Dsk := { d with lf := max n (-1) }
def Dsk.crash (d : Dsk) (ks : List Bool) : Dsk := { d.settled (keeps ks) with dn := false, lf := -1 }

theorem settle_len (f : Nat → Bool) : ∀ (n : Nat) (l : List Wr) (st : List Sec), (settle f n l st).length = st.length
  | _, [], _ => rfl
  | n, x :: r, st => by
    unfold settle
    rw [settle_len f (n + 1) r]
    split <;> simp
theorem settle_app (f : Nat → Bool) : ∀ (n : Nat) (l : List Wr) (x : Wr) (st : List Sec), settle f n (l ++ [x]) st = (if f (n + l.length) then (settle f n l st).set x.1.toNat x.2 else settle f n l st)
  | n, [], x, st => by simp [settle]
  | n, y :: r, x, st => by
    show settle f (n + 1) (r ++ [x]) _ = _
    rw [settle_app f (n + 1) r x]
    have : n + 1 + r.length = n + (y :: r).length := by simp; omega
    rw [this]
    rfl
theorem last_app : ∀ (l : List Wr) (x : Wr) (i : Int), last (l ++ [x]) i = if x.1 = i then some x.2 else last l i
  | [], x, i => by simp [last]
  | y :: r, x, i => by
    show (match last (r ++ [x]) i with | some s => some s | none => if y.1 = i then some y.2 else none) = _
    rw [last_app r x i]
    by_cases h : x.1 = i
    · simp [h]
    · simp [h, last]
theorem acted_ok {d : Dsk} (h : d.ok) : d.acted.ok := by
  obtain ⟨h1, h2, h3, h4, h5⟩ := h
  unfold Dsk.acted
  split
  · exact ⟨h1, h2, h3, h4, h5⟩
  · refine ⟨h1, h2, h3, ?_, ?_⟩ <;> (simp only; split <;> omega)
theorem acted_st (d : Dsk) : d.acted.st = d.st := by unfold Dsk.acted; split <;> rfl
theorem acted_pe (d : Dsk) : d.acted.pe = d.pe := by unfold Dsk.acted; split <;> rfl
theorem settled_ok {d : Dsk} (h : d.ok) (f : Nat → Bool) : (d.settled f).ok := by
  obtain ⟨h1, _, _, h4, h5⟩ := h
  exact ⟨by simp only [Dsk.settled, settle_len]; exact h1, by simp [Dsk.settled], by simp [Dsk.settled], h4, h5⟩
theorem sync_ok {d : Dsk} (h : d.ok) : d.sync.ok := by
  unfold Dsk.sync
  split
  · exact acted_ok h
  · exact settled_ok (acted_ok h) _
theorem crash_ok {d : Dsk} (h : d.ok) (ks : List Bool) : (d.crash ks).ok := by
  obtain ⟨h1, h2, h3, _, _⟩ := settled_ok h (keeps ks)
  exact ⟨h1, h2, h3, by simp [Dsk.crash], by simp [Dsk.crash]⟩
theorem breaks_ok {d : Dsk} (h : d.ok) {n : Int} (hn : Inty n) : (d.breaks n).ok := by
  obtain ⟨h1, h2, h3, _, _⟩ := h
  obtain ⟨n1, n2⟩ := hn
  exact ⟨h1, h2, h3, by simp only [Dsk.breaks]; omega, by simp only [Dsk.breaks]; omega⟩
theorem put_ok {d : Dsk} (h : d.ok) (i : Int) (s : Sec) (hl : d.pe.length < 1000) : (d.put i s).ok := by
  have h' := acted_ok h
  unfold Dsk.put
  split
  · rename_i hh
    split
    · exact h'
    · obtain ⟨h1, h2, h3, h4, h5⟩ := h'
      refine ⟨h1, by simp; omega, ?_, h4, h5⟩
      intro x hx
      simp only [List.mem_append, List.mem_singleton] at hx
      simp only [acted_st]
      rcases hx with hx | rfl
      · exact h.2.2.1 x hx
      · simp [has] at hh; exact hh
  · exact h
theorem fresh_ok {n : Nat} (hn : n ≤ 512) : (fresh n).ok := ⟨by simp [fresh, hn], by simp [fresh], by simp [fresh], by simp [fresh], by simp [fresh]⟩
theorem put_len (d : Dsk) (i : Int) (s : Sec) : (d.put i s).pe.length ≤ d.pe.length + 1 ∧ (d.put i s).st = d.st := by
  unfold Dsk.put
  split
  · split
    · simp [acted_pe, acted_st]
    · simp [acted_st]
  · simp
theorem sync_len (d : Dsk) : d.sync.pe.length ≤ d.pe.length ∧ d.sync.st.length = d.st.length := by
  unfold Dsk.sync
  split
  · simp [acted_pe, acted_st]
  · simp [Dsk.settled, settle_len, acted_st]
end Go.Proofs.Ythgafnommcodcaa.Disk
/-
  A log of records on a disk, in plain words: where records are laid, what a scan finds, and that what was synced is found. Nothing of a program is named here.
  A place is told by the number of its segment in the order from the one begun with, and its sector in that.
-/
namespace Go.Proofs.Ythgafnommcodcaa.Wal
open Go.Proofs.Ythgafnommcodcaa.Frame Go.Proofs.Ythgafnommcodcaa.Disk

/-- How many segments; the sector of a place; the segment of a number. -/
def segsN (n : Nat) : Nat := (n - 32) / 16
def segOf (S st j : Nat) : Nat := (st + j) % S
def adr (S st j t : Nat) : Nat := 32 + 16 * segOf S st j + t
theorem adr_inj {S st j k t u : Nat} (hj : j < S) (hk : k < S) (ht : t < 16) (hu : u < 16) (h : adr S st j t = adr S st k u) : j = k ∧ t = u := by
  unfold adr segOf at h
  have h1 : (st + j) % S = (st + k) % S := by omega
  have h2 : t = u := by omega
  refine ⟨?_, h2⟩
  rcases Nat.lt_trichotomy j k with h3 | h3 | h3
  · have e := Nat.sub_mod_eq_zero_of_mod_eq h1.symm
    rw [show st + k - (st + j) = k - j by omega, Nat.mod_eq_of_lt (by omega)] at e
    omega
  · exact h3
  · have e := Nat.sub_mod_eq_zero_of_mod_eq h1
    rw [show st + j - (st + k) = j - k by omega, Nat.mod_eq_of_lt (by omega)] at e
    omega
theorem adr_lt {S st j t n : Nat} (hS : S = segsN n) (h0 : 0 < S) (ht : t < 16) : adr S st j t < n := by
  unfold adr segOf
  have := Nat.mod_lt (st + j) h0
  unfold segsN at hS
  omega

/-- What the places hold. -/
abbrev Rd := Nat → Nat → Sec
def Has (rd : Rd) (j t : Nat) (l : List Sec) : Prop := ∀ i, i < l.length → rd j (t + i) = l.getD i zero
def view (rd : Rd) (j t : Nat) : List Sec := (List.range (16 - t)).map fun i => rd j (t + i)
theorem view_has {rd : Rd} {j t : Nat} {l : List Sec} (h : Has rd j t l) (hl : t + l.length ≤ 16) : view rd j t = l ++ view rd j (t + l.length) := by
  refine List.ext_getElem? fun i => ?_
  unfold view
  rcases Nat.lt_or_ge i l.length with hi | hi
  · rw [List.getElem?_append_left hi, List.getElem?_map, List.getElem?_range (by omega), Option.map_some, h i hi, List.getD_eq_getElem?_getD, List.getElem?_eq_getElem hi]
    rfl
  · rw [List.getElem?_append_right hi]
    rcases Nat.lt_or_ge i (16 - t) with h2 | h2
    · rw [List.getElem?_map, List.getElem?_map, List.getElem?_range h2, List.getElem?_range (by omega), Option.map_some, Option.map_some, show t + l.length + (i - l.length) = t + i by omega]
    · rw [List.getElem?_eq_none (by simp; omega), List.getElem?_eq_none (by simp; omega)]
theorem view_zero {rd : Rd} {j t : Nat} (h : ∀ i, t ≤ i → i < 16 → rd j i = zero) : view rd j t = List.replicate (16 - t) zero := by
  refine List.ext_getElem? fun i => ?_
  unfold view
  rcases Nat.lt_or_ge i (16 - t) with hi | hi
  · rw [List.getElem?_map, List.getElem?_range hi, Option.map_some, h (t + i) (by omega) (by omega), List.getElem?_replicate, if_pos hi]
  · rw [List.getElem?_eq_none (by simp; omega), List.getElem?_eq_none (by simp; omega)]

/-- The record of this number and epoch at a place, if there is one. -/
def atPlace (rd : Rd) (ep nx j t : Nat) : Got := if ((got (view rd j t)).ok && (decide ((got (view rd j t)).s = nx) && decide ((got (view rd j t)).e = ep))) = true then got (view rd j t) else nought
def more (nx : Nat) : Nat := (nx + 1) % 18446744073709551616
/-- What a scan finds: the records, and the segment's number in the order. -/
def scan (rd : Rd) (S ep : Nat) : Nat → Nat → Nat → Nat → List Got × Nat
  | 0, _, j, _ => ([], j)
  | f + 1, nx, j, t =>
    if nx = 0 then ([], j)
    else if (atPlace rd ep nx j t).ok = true then ((atPlace rd ep nx j t) :: (scan rd S ep f (more nx) j (t + (atPlace rd ep nx j t).n)).1, (scan rd S ep f (more nx) j (t + (atPlace rd ep nx j t).n)).2)
    else if j + 1 = S then ([], j)
    else if (atPlace rd ep nx (j + 1) 0).ok = true then ((atPlace rd ep nx (j + 1) 0) :: (scan rd S ep f (more nx) (j + 1) (atPlace rd ep nx (j + 1) 0).n).1, (scan rd S ep f (more nx) (j + 1) (atPlace rd ep nx (j + 1) 0).n).2)
    else ([], j)
theorem scan_step (rd : Rd) (S ep f nx j t : Nat) : scan rd S ep (f + 1) nx j t =
    if nx = 0 then ([], j)
    else if (atPlace rd ep nx j t).ok = true then ((atPlace rd ep nx j t) :: (scan rd S ep f (more nx) j (t + (atPlace rd ep nx j t).n)).1, (scan rd S ep f (more nx) j (t + (atPlace rd ep nx j t).n)).2)
    else if j + 1 = S then ([], j)
    else if (atPlace rd ep nx (j + 1) 0).ok = true then ((atPlace rd ep nx (j + 1) 0) :: (scan rd S ep f (more nx) (j + 1) (atPlace rd ep nx (j + 1) 0).n).1, (scan rd S ep f (more nx) (j + 1) (atPlace rd ep nx (j + 1) 0).n).2)
    else ([], j) := rfl
theorem at_made {rd : Rd} {ep nx j t : Nat} {p : List Int} (hr : right nx p = true) (hn : nx < 18446744073709551616) (he : ep < 4294967296) (hl : t + size p.length ≤ 16) (h : Has rd j t (made nx ep p)) : atPlace rd ep nx j t = ⟨true, size p.length, nx, ep, p⟩ := by
  have hm := made_len (e := ep) hr
  have e : got (view rd j t) = ⟨true, size p.length, nx, ep, p⟩ := by
    rw [view_has h (by rw [hm]; exact hl), got_made hr (by simpa using hn) (by simpa using he), hm]
  unfold atPlace
  rw [e]
  simp
theorem at_zero {rd : Rd} {ep nx j t : Nat} (h : ∀ i, t ≤ i → i < 16 → rd j i = zero) : atPlace rd ep nx j t = nought := by
  unfold atPlace
  rw [view_zero h, got_zero]
  simp [nought]

/-- The records lie one behind the other, from a place to a place, as a log lays them. -/
def Chain (rd : Rd) (S ep : Nat) : Nat → Nat → Nat → List (List Int) → Nat × Nat → Prop
  | _, j, t, [], e => e = (j, t)
  | nx, j, t, p :: r, e => right nx p = true ∧ ((t + size p.length ≤ 16 ∧ Has rd j t (made nx ep p) ∧ Chain rd S ep (nx + 1) j (t + size p.length) r e) ∨
      (16 < t + size p.length ∧ j + 1 < S ∧ (∀ i, t ≤ i → i < 16 → rd j i = zero) ∧ Has rd (j + 1) 0 (made nx ep p) ∧ Chain rd S ep (nx + 1) (j + 1) (size p.length) r e))
/-- As a scan tells them. -/
def tells (ep : Nat) : Nat → List (List Int) → List Got
  | _, [] => []
  | nx, p :: r => ⟨true, size p.length, nx, ep, p⟩ :: tells ep (nx + 1) r
theorem tells_len (ep : Nat) : ∀ (nx : Nat) (l : List (List Int)), (tells ep nx l).length = l.length
  | _, [] => rfl
  | nx, _ :: r => by simp [tells, tells_len ep (nx + 1) r]
theorem scan_chain {rd : Rd} {S ep : Nat} (he : ep < 4294967296) : ∀ (l : List (List Int)) (nx j t f : Nat) (e : Nat × Nat), 0 < nx → nx + l.length < 18446744073709551616 → Chain rd S ep nx j t l e →
    scan rd S ep (l.length + f) nx j t = (tells ep nx l ++ (scan rd S ep f (nx + l.length) e.1 e.2).1, (scan rd S ep f (nx + l.length) e.1 e.2).2)
  | [], nx, j, t, f, e, _, _, h => by
    obtain rfl : e = (j, t) := h
    simp [tells]
  | p :: r, nx, j, t, f, e, h0, hn, h => by
    have hn' : nx + (r.length + 1) < 18446744073709551616 := by simpa using hn
    have hm : more nx = nx + 1 := by unfold more; exact Nat.mod_eq_of_lt (by omega)
    have e2 : nx + (p :: r).length = nx + 1 + r.length := by simp; omega
    rw [show (p :: r).length + f = (r.length + f) + 1 by simp; omega, e2]
    rw [scan_step, if_neg (by omega), hm]
    obtain ⟨hr, ⟨h1, h2, h3⟩ | ⟨h1, h2, h3, h4, h5⟩⟩ := h
    · have ih := scan_chain he r (nx + 1) j (t + size p.length) f e (by omega) (by omega) h3
      rw [at_made hr (by omega) he h1 h2]
      simp only [if_true]
      rw [ih]
      rfl
    · have h7 : size p.length ≤ 12 := (size_fits (by simp [right] at hr; exact hr.1)).2.2.2
      have ih := scan_chain he r (nx + 1) (j + 1) (size p.length) f e (by omega) (by omega) h5
      rw [at_zero h3, if_neg (by simp [nought]), if_neg (by omega), at_made hr (by omega) he (by omega) h4]
      simp only [if_true]
      rw [ih]
      rfl
/-- One place lies behind another, or is it. -/
def upTo (j t : Nat) (e : Nat × Nat) : Prop := 16 * j + t ≤ 16 * e.1 + e.2
theorem chain_end {rd : Rd} {S ep : Nat} : ∀ (l : List (List Int)) (nx j t : Nat) (e : Nat × Nat), t ≤ 16 → Chain rd S ep nx j t l e → upTo j t e ∧ e.2 ≤ 16 ∧ (j < S → e.1 < S)
  | [], _, j, t, e, ht, h => by
    obtain rfl : e = (j, t) := h
    exact ⟨Nat.le_refl _, ht, id⟩
  | p :: r, nx, j, t, e, ht, h => by
    obtain ⟨hr, ⟨h1, _, h3⟩ | ⟨h1, h2, _, _, h5⟩⟩ := h
    · obtain ⟨a, b, c⟩ := chain_end r (nx + 1) j (t + size p.length) e h1 h3
      exact ⟨by unfold upTo at *; omega, b, c⟩
    · have h7 : size p.length ≤ 12 := (size_fits (by simp [right] at hr; exact hr.1)).2.2.2
      obtain ⟨a, b, c⟩ := chain_end r (nx + 1) (j + 1) (size p.length) e (by omega) h5
      exact ⟨by unfold upTo at *; omega, b, fun _ => c h2⟩
/-- What lies behind the last record does not matter. -/
theorem chain_same {rd rd' : Rd} {S ep : Nat} : ∀ (l : List (List Int)) (nx j t : Nat) (e : Nat × Nat), t ≤ 16 → (∀ k u, u < 16 → 16 * j + t ≤ 16 * k + u → 16 * k + u < 16 * e.1 + e.2 → rd' k u = rd k u) → Chain rd S ep nx j t l e → Chain rd' S ep nx j t l e
  | [], _, _, _, _, _, _, h => h
  | p :: r, nx, j, t, e, ht, hs, h => by
    obtain ⟨hr, ⟨h1, h2, h3⟩ | ⟨h1, h2, h3, h4, h5⟩⟩ := h
    · have a := (chain_end r (nx + 1) j (t + size p.length) e h1 h3).1
      unfold upTo at a
      have hm := made_len (e := ep) hr
      refine ⟨hr, .inl ⟨h1, fun i hi => ?_, chain_same r (nx + 1) j (t + size p.length) e h1 (fun k u hu h6 h7 => hs k u hu (by omega) h7) h3⟩⟩
      rw [hs j (t + i) (by omega) (by omega) (by omega)]
      exact h2 i hi
    · have h7 : size p.length ≤ 12 := (size_fits (by simp [right] at hr; exact hr.1)).2.2.2
      have a := (chain_end r (nx + 1) (j + 1) (size p.length) e (by omega) h5).1
      unfold upTo at a
      have hm := made_len (e := ep) hr
      refine ⟨hr, .inr ⟨h1, h2, fun i h8 h9 => ?_, fun i hi => ?_, chain_same r (nx + 1) (j + 1) (size p.length) e (by omega) (fun k u hu h6 h7 => hs k u hu (by omega) h7) h5⟩⟩
      · rw [hs j i h9 (by omega) (by omega)]
        exact h3 i h8 h9
      · rw [hs (j + 1) (0 + i) (by omega) (by omega) (by omega)]
        exact h4 i hi
/-- A record more. -/
theorem chain_more {rd : Rd} {S ep : Nat} : ∀ (l : List (List Int)) (nx j t : Nat) (e e' : Nat × Nat) (p : List Int), Chain rd S ep nx j t l e → Chain rd S ep (nx + l.length) e.1 e.2 [p] e' → Chain rd S ep nx j t (l ++ [p]) e'
  | [], _, j, t, e, e', p, h, h2 => by
    obtain rfl : e = (j, t) := h
    exact h2
  | q :: r, nx, j, t, e, e', p, h, h2 => by
    have e2 : nx + (q :: r).length = nx + 1 + r.length := by simp; omega
    rw [e2] at h2
    obtain ⟨hr, ⟨h1, h3, h4⟩ | ⟨h1, h3, h4, h5, h6⟩⟩ := h
    · exact ⟨hr, .inl ⟨h1, h3, chain_more r (nx + 1) j (t + size q.length) e e' p h4 h2⟩⟩
    · exact ⟨hr, .inr ⟨h1, h3, h4, h5, chain_more r (nx + 1) (j + 1) (size q.length) e e' p h6 h2⟩⟩
end Go.Proofs.Ythgafnommcodcaa.Wal
/-
  What a log's appends, syncs, breaks and crashes make of a disk, in plain words; and that behind a crash all that was synced lies as it was laid. Nothing of a program is named here.
-/
namespace Go.Proofs.Ythgafnommcodcaa.Wal
open Go.Proofs.Ythgafnommcodcaa.Frame Go.Proofs.Ythgafnommcodcaa.Disk

/-- Sectors one behind the other, up to the first error. -/
def writes : Dsk → Nat → List Sec → Dsk × Int
  | d, _, [] => (d, 0)
  | d, i, s :: r => if d.putE i = 0 then writes (d.put i s) (i + 1) r else (d.put i s, d.putE i)
theorem has_nat {n i : Nat} (h : i < n) : has n i = true := by unfold has; simp [h]
theorem putE_zero {d : Dsk} {i : Nat} (h : d.putE i = 0) : i < d.st.length ∧ d.no = false := by
  unfold Dsk.putE at h
  split at h
  · rename_i hh
    unfold has at hh
    unfold Dsk.err at h
    split at h
    · omega
    · rename_i hn
      exact ⟨by simp at hh; omega, by simpa using hn⟩
  · omega
theorem put_yes {d : Dsk} {i : Nat} (s : Sec) (h : d.putE i = 0) : (d.put i s).st = d.st ∧ (d.put i s).pe = d.pe ++ [((i : Int), s)] ∧ (d.put i s).dn = d.dn := by
  obtain ⟨h1, h2⟩ := putE_zero h
  unfold Dsk.put
  rw [if_pos (has_nat h1), if_neg (by simp [h2])]
  refine ⟨acted_st d, rfl, ?_⟩
  show d.acted.dn = d.dn
  unfold Dsk.acted
  rw [if_neg (by simp [h2])]
theorem put_no {d : Dsk} {i : Nat} (s : Sec) (h : d.putE i ≠ 0) : (d.put i s).st = d.st ∧ (d.put i s).pe = d.pe ∧ (i < d.st.length → (d.put i s).dn = true ∧ d.putE i = 72) := by
  unfold Dsk.putE at h ⊢
  unfold Dsk.put
  split at h
  · rename_i hh
    rw [if_pos hh, if_pos hh]
    unfold Dsk.err at h ⊢
    split at h
    · rename_i hn
      rw [if_pos hn, if_pos hn]
      refine ⟨acted_st d, acted_pe d, fun _ => ⟨?_, rfl⟩⟩
      unfold Dsk.acted
      rw [if_pos hn]
    · exact absurd rfl h
  · rename_i hh
    rw [if_neg hh]
    exact ⟨rfl, rfl, fun hi => absurd (has_nat hi) hh⟩
theorem put_read {d : Dsk} {i : Nat} (s : Sec) (h : d.putE i = 0) (a : Nat) : (d.put i s).read a = if a = i then (s, 0) else d.read a := by
  obtain ⟨h1, h2, _⟩ := put_yes s h
  unfold Dsk.read
  rw [h1, h2, last_app]
  by_cases hai : a = i
  · subst hai; simp
  · rw [if_neg (by simpa using fun e : (i : Int) = (a : Int) => hai (by omega)), if_neg hai]
theorem writes_read : ∀ (l : List Sec) (d : Dsk) (i : Nat), (writes d i l).2 = 0 → ∀ a : Nat, (writes d i l).1.read a = if i ≤ a ∧ a < i + l.length then (l.getD (a - i) zero, 0) else d.read a
  | [], d, i, _, a => by
    rw [if_neg (by simp only [List.length_nil]; omega)]; rfl
  | s :: r, d, i, h, a => by
    unfold writes at h ⊢
    by_cases hp : d.putE i = 0
    · rw [if_pos hp] at h ⊢
      rw [writes_read r _ (i + 1) h a, put_read s hp a]
      by_cases hai : a = i
      · subst hai
        rw [if_neg (by omega), if_pos rfl, if_pos (by simp only [List.length_cons]; omega), Nat.sub_self]
        rfl
      · by_cases h2 : i + 1 ≤ a ∧ a < i + 1 + r.length
        · rw [if_pos h2, if_pos (by simp only [List.length_cons]; omega), show a - i = (a - (i + 1)) + 1 by omega]
          rfl
        · rw [if_neg h2, if_neg hai, if_neg (by simp only [List.length_cons]; omega)]
    · rw [if_neg hp] at h
      exact absurd h hp
theorem writes_all : ∀ (l : List Sec) (d : Dsk) (i : Nat), i + l.length ≤ d.st.length → (writes d i l).1.st = d.st ∧ (∀ x ∈ (writes d i l).1.pe, x ∈ d.pe ∨ ∃ u, u < l.length ∧ x.1 = ((i + u : Nat) : Int)) ∧
    (writes d i l).1.pe.length ≤ d.pe.length + l.length ∧ ((writes d i l).2 = 0 ∧ (writes d i l).1.dn = d.dn ∨ (writes d i l).2 = 72 ∧ (writes d i l).1.dn = true)
  | [], d, i, _ => ⟨rfl, fun x hx => .inl hx, Nat.le_refl _, .inl ⟨rfl, rfl⟩⟩
  | s :: r, d, i, h => by
    simp only [List.length_cons] at h ⊢
    unfold writes
    by_cases hp : d.putE i = 0
    · rw [if_pos hp]
      obtain ⟨h1, h2, h3⟩ := put_yes s hp
      obtain ⟨a, b, c, e⟩ := writes_all r (d.put i s) (i + 1) (by rw [h1]; omega)
      rw [h2] at b c
      rw [h3] at e
      refine ⟨a.trans h1, fun x hx => ?_, by simp only [List.length_append, List.length_singleton] at c; omega, e⟩
      rcases b x hx with hb | ⟨u, hu, hb⟩
      · rcases List.mem_append.1 hb with hb | hb
        · exact .inl hb
        · rw [List.mem_singleton] at hb
          subst hb
          exact .inr ⟨0, by omega, rfl⟩
      · exact .inr ⟨u + 1, by omega, by rw [hb]; omega⟩
    · rw [if_neg hp]
      obtain ⟨h1, h2, h3⟩ := put_no s hp
      obtain ⟨h4, h5⟩ := h3 (by omega)
      exact ⟨h1, fun x hx => .inl (h2 ▸ hx), by rw [h2]; omega, .inr ⟨h5, h4⟩⟩
theorem writes_ok : ∀ (l : List Sec) (d : Dsk) (i : Nat), d.ok → d.pe.length + l.length ≤ 1000 → (writes d i l).1.ok
  | [], _, _, h, _ => h
  | s :: r, d, i, h, hl => by
    simp only [List.length_cons] at hl
    have h1 := put_ok h i s (by omega)
    have h2 := (put_len d i s).1
    unfold writes
    split
    · exact writes_ok r _ _ h1 (by omega)
    · exact h1

/-- What the places of a disk hold, as it is read, and what is stable. -/
def vis (d : Dsk) (S st : Nat) : Rd := fun j t => (d.read ((adr S st j t : Nat) : Int)).1
def stb (d : Dsk) (S st : Nat) : Rd := fun j t => d.st.getD (adr S st j t) zero
theorem vis_quiet {d : Dsk} (S st : Nat) (h : d.pe = []) : vis d S st = stb d S st := by
  funext j t
  unfold vis stb Dsk.read
  rw [h]
  simp only [last]
  unfold stab
  by_cases ha : adr S st j t < d.st.length
  · rw [if_pos (has_nat ha)]; simp
  · rw [if_neg (by unfold has; simp; omega), List.getD_eq_getElem?_getD, List.getElem?_eq_none (by omega)]; rfl
/-- What was synced stays: no write that is pending is of its places. -/
def Safe (S st ep nx0 : Nat) (d : Dsk) (ps : List (List Int)) (safe : Nat) (e : Nat × Nat) : Prop :=
  safe ≤ ps.length ∧ Chain (stb d S st) S ep nx0 0 0 (ps.take safe) e ∧ ∀ x ∈ d.pe, ∃ k u, k < S ∧ u < 16 ∧ x.1 = ((adr S st k u : Nat) : Int) ∧ 16 * e.1 + e.2 ≤ 16 * k + u
/-- A disk and the log on it: its records lie there, and what is ahead was never written. -/
def Kept (n S st ep nx0 : Nat) (d : Dsk) (j t : Nat) (ps : List (List Int)) (safe : Nat) : Prop :=
  d.ok ∧ d.st.length = n ∧ j < S ∧ t ≤ 16 ∧ Chain (vis d S st) S ep nx0 0 0 ps (j, t) ∧ (∀ k u, k < S → u < 16 → 16 * j + t ≤ 16 * k + u → vis d S st k u = zero) ∧
  ∃ e, Safe S st ep nx0 d ps safe e ∧ 16 * e.1 + e.2 ≤ 16 * j + t
theorem settle_other (f : Nat → Bool) (a : Nat) : ∀ (l : List Wr) (n : Nat) (st : List Sec), (∀ x ∈ l, 0 ≤ x.1 ∧ x.1 ≠ (a : Int)) → (settle f n l st).getD a zero = st.getD a zero
  | [], _, _, _ => rfl
  | x :: r, n, st, h => by
    unfold settle
    rw [settle_other f a r (n + 1) _ fun y hy => h y (by simp [hy])]
    split
    · obtain ⟨h1, h2⟩ := h x (by simp)
      rw [List.getD_eq_getElem?_getD, List.getD_eq_getElem?_getD, List.getElem?_set_ne (by omega)]
    · rfl
/-- Behind a crash what was synced is there. -/
theorem safe_crash {S st ep nx0 safe : Nat} {d : Dsk} {ps : List (List Int)} {e : Nat × Nat} (h : Safe S st ep nx0 d ps safe e) (ks : List Bool) : Chain (vis (d.crash ks) S st) S ep nx0 0 0 (ps.take safe) e := by
  obtain ⟨_, h2, h3⟩ := h
  rw [vis_quiet S st (show (d.crash ks).pe = [] from rfl)]
  refine chain_same _ _ _ _ _ (by omega) (fun k u hu _ h7 => ?_) h2
  refine settle_other _ _ _ _ _ fun x hx => ?_
  obtain ⟨k', u', hk', hu', hx', hle⟩ := h3 x hx
  refine ⟨by omega, fun e2 => ?_⟩
  rw [hx'] at e2
  obtain ⟨e3, e4⟩ := adr_inj hk' (by omega) hu' hu (Int.ofNat.inj e2)
  omega
theorem getD_replicate_zero (n a : Nat) : (List.replicate n zero).getD a zero = zero := by
  rw [List.getD_eq_getElem?_getD, List.getElem?_replicate]
  split <;> rfl
theorem kept_fresh {n S st ep nx0 : Nat} (hn : n ≤ 512) (hS : 0 < S) : Kept n S st ep nx0 (fresh n) 0 0 [] 0 := by
  refine ⟨fresh_ok hn, by simp [fresh], hS, by omega, rfl, fun k u _ _ _ => ?_, (0, 0), ⟨by simp, rfl, by simp [fresh]⟩, by simp⟩
  rw [vis_quiet S st (show (fresh n).pe = [] from rfl)]
  exact getD_replicate_zero _ _
/-- A record is laid: at the place where the log is, or at the beginning of the next segment. -/
theorem kept_write {n S st ep nx0 : Nat} {d : Dsk} {j t : Nat} {ps : List (List Int)} {safe : Nat} (h : Kept n S st ep nx0 d j t ps safe) (hSn : S = segsN n) (p : List Int) (hr : right (nx0 + ps.length) p = true) (hpe : d.pe.length ≤ 900)
    (j' t' : Nat) (hp : (t + size p.length ≤ 16 ∧ j' = j ∧ t' = t) ∨ (16 < t + size p.length ∧ j + 1 < S ∧ j' = j + 1 ∧ t' = 0)) (ho : (writes d (adr S st j' t') (made (nx0 + ps.length) ep p)).2 = 0) :
    Kept n S st ep nx0 (writes d (adr S st j' t') (made (nx0 + ps.length) ep p)).1 j' (t' + size p.length) (ps ++ [p]) safe := by
  obtain ⟨k1, k2, k3, k4, k5, k6, e, ⟨s1, s2, s3⟩, k7⟩ := h
  have hf := size_fits (show p.length ≤ 700 by simp [right] at hr; exact hr.1)
  have hm := made_len (e := ep) hr
  obtain ⟨M, hM⟩ : ∃ M, made (nx0 + ps.length) ep p = M := ⟨_, rfl⟩
  rw [hM] at hm ho ⊢
  have hj' : j' < S := by rcases hp with ⟨_, rfl, _⟩ | ⟨_, h2, rfl, _⟩ <;> omega
  have ht' : t' + size p.length ≤ 16 := by rcases hp with ⟨h1, _, rfl⟩ | ⟨_, _, _, rfl⟩ <;> omega
  have hahead : 16 * j + t ≤ 16 * j' + t' := by rcases hp with ⟨_, rfl, rfl⟩ | ⟨_, _, rfl, rfl⟩ <;> omega
  have hfit : adr S st j' t' + M.length ≤ d.st.length := by
    have := adr_lt (n := n) (st := st) (j := j') hSn (by omega) (show t' + size p.length - 1 < 16 by omega)
    unfold adr at this ⊢
    rw [k2, hm]
    omega
  obtain ⟨a1, a2, a3, a4⟩ := writes_all M d _ hfit
  have hrd := writes_read M d _ ho
  have hok := writes_ok M d (adr S st j' t') k1 (by omega)
  have hv : ∀ k u, k < S → u < 16 → vis (writes d (adr S st j' t') M).1 S st k u = if k = j' ∧ t' ≤ u ∧ u < t' + size p.length then M.getD (u - t') zero else vis d S st k u := by
    intro k u hk hu
    unfold vis
    rw [hrd (adr S st k u), hm]
    by_cases hc : k = j' ∧ t' ≤ u ∧ u < t' + size p.length
    · obtain ⟨rfl, h1, h2⟩ := hc
      rw [if_pos (by unfold adr; omega), if_pos ⟨rfl, h1, h2⟩]
      have : adr S st k u - adr S st k t' = u - t' := by unfold adr; omega
      rw [this]
    · rw [if_neg hc, if_neg]
      rintro ⟨h1, h2⟩
      have e3 : adr S st k u = adr S st j' (t' + (adr S st k u - adr S st j' t')) := by unfold adr at h1 ⊢; omega
      obtain ⟨e4, e5⟩ := adr_inj hk hj' hu (by omega) e3
      exact hc ⟨e4, by omega, by omega⟩
  generalize (writes d (adr S st j' t') M).1 = d' at *
  clear hrd
  have hold : ∀ k u, k < S → u < 16 → 16 * k + u < 16 * j + t → vis d' S st k u = vis d S st k u := fun k u hk hu hlt => by
    rw [hv k u hk hu, if_neg]
    rintro ⟨rfl, h1, h2⟩
    omega
  have hend := (chain_end ps nx0 0 0 (j, t) (by omega) k5).1
  have hHas : Has (vis d' S st) j' t' M := fun i hi => by
    rw [hm] at hi
    rw [hv j' (t' + i) hj' (by omega), if_pos ⟨rfl, by omega, by omega⟩, show t' + i - t' = i by omega]
  refine ⟨hok, a1 ▸ k2, hj', ht', ?_, fun k u hk hu hle => ?_, e, ⟨by simp; omega, ?_, fun x hx => ?_⟩, by show 16 * e.1 + e.2 ≤ 16 * j' + (t' + size p.length); omega⟩
  · refine chain_more ps nx0 0 0 (j, t) _ p (chain_same ps nx0 0 0 (j, t) (by omega) (fun k u hu _ h7 => hold k u (by simp only at h7; omega) hu h7) k5) ?_
    rcases hp with ⟨h1, rfl, rfl⟩ | ⟨h1, h2, rfl, rfl⟩
    · exact ⟨hr, .inl ⟨h1, hM.symm ▸ hHas, rfl⟩⟩
    · refine ⟨hr, .inr ⟨h1, h2, fun i hi hi2 => ?_, hM.symm ▸ hHas, by simp [Chain]⟩⟩
      rw [hv j i (by omega) hi2, if_neg (by omega)]
      exact k6 j i (by omega) hi2 (by omega)
  · rw [hv k u hk hu, if_neg (by omega)]
    exact k6 k u hk hu (by omega)
  · rw [List.take_append_of_le_length s1]
    have : stb d' S st = stb d S st := by funext k u; unfold stb; rw [a1]
    rw [this]
    exact s2
  · rcases a2 x hx with hb | ⟨u, hu, hb⟩
    · exact s3 x hb
    · rw [hm] at hu
      exact ⟨j', t' + u, hj', by omega, by rw [hb]; unfold adr; omega, by omega⟩
theorem settle_yes (a : Nat) : ∀ (l : List Wr) (n : Nat) (st : List Sec), a < st.length → (∀ x ∈ l, 0 ≤ x.1) → (settle (fun _ => true) n l st).getD a zero = (last l a).getD (st.getD a zero)
  | [], _, _, _, _ => rfl
  | x :: r, n, st, ha, h => by
    have h0 := h x (by simp)
    unfold settle
    rw [if_pos rfl, settle_yes a r (n + 1) _ (by simpa using ha) fun y hy => h y (by simp [hy])]
    show _ = (match last r (a : Int) with | some s => some s | none => if x.1 = (a : Int) then some x.2 else none).getD (st.getD a zero)
    cases last r (a : Int) with
    | some s => rfl
    | none =>
      simp only [Option.getD_none]
      by_cases hx : x.1 = (a : Int)
      · rw [if_pos hx, hx, List.getD_eq_getElem?_getD, Int.toNat_natCast, List.getElem?_set_self ha]
        rfl
      · rw [if_neg hx, List.getD_eq_getElem?_getD, List.getElem?_set_ne (by omega), ← List.getD_eq_getElem?_getD]
        rfl
/-- What is synced stays from then on. -/
theorem kept_sync {n S st ep nx0 : Nat} {d : Dsk} {j t : Nat} {ps : List (List Int)} {safe : Nat} (h : Kept n S st ep nx0 d j t ps safe) (hSn : S = segsN n) (hno : d.no = false) : Kept n S st ep nx0 d.sync j t ps ps.length ∧ d.sync.dn = d.dn := by
  obtain ⟨k1, k2, k3, k4, k5, k6, _⟩ := h
  have hs : d.sync = d.acted.settled fun _ => true := by unfold Dsk.sync; rw [if_neg (by simp [hno])]
  have hpe : d.sync.pe = [] := by rw [hs]; rfl
  have hlen : d.sync.st.length = n := (sync_len d).2.trans k2
  have hdn : d.sync.dn = d.dn := by
    rw [hs]
    show d.acted.dn = d.dn
    unfold Dsk.acted
    rw [if_neg (by simp [hno])]
  have hv : ∀ k u, k < S → u < 16 → vis d.sync S st k u = vis d S st k u := fun k u hk hu => by
    have hlt := adr_lt (st := st) (j := k) hSn (by omega) hu
    rw [vis_quiet S st hpe]
    unfold stb vis
    rw [hs]
    show (settle (fun _ => true) 0 d.acted.pe d.acted.st).getD _ zero = _
    rw [acted_pe, acted_st, settle_yes _ _ _ _ (by omega) fun x hx => (k1.2.2.1 x hx).1]
    unfold Dsk.read
    cases last d.pe ((adr S st k u : Nat) : Int) with
    | some s => rfl
    | none =>
      unfold stab
      rw [if_pos (has_nat (by omega))]
      simp
  have hend := (chain_end ps nx0 0 0 (j, t) (by omega) k5).1
  have hch : Chain (vis d.sync S st) S ep nx0 0 0 ps (j, t) := chain_same ps nx0 0 0 (j, t) (by omega) (fun k u hu _ h7 => hv k u (by simp only at h7; omega) hu) k5
  refine ⟨⟨sync_ok k1, hlen, k3, k4, hch, fun k u hk hu hle => by rw [hv k u hk hu]; exact k6 k u hk hu hle, (j, t), ⟨Nat.le_refl _, ?_, by rw [hpe]; simp⟩, Nat.le_refl _⟩, hdn⟩
  rw [List.take_of_length_le (Nat.le_refl _), ← vis_quiet S st hpe]
  exact hch
theorem kept_break {n S st ep nx0 : Nat} {d : Dsk} {j t : Nat} {ps : List (List Int)} {safe : Nat} (h : Kept n S st ep nx0 d j t ps safe) {x : Int} (hx : Inty x) : Kept n S st ep nx0 (d.breaks x) j t ps safe := by
  obtain ⟨k1, k2, k3, k4, k5, k6, e, s1, k7⟩ := h
  exact ⟨breaks_ok k1 hx, k2, k3, k4, k5, k6, e, s1, k7⟩
/-- Whatever came of the writes: what was synced stays. -/
theorem safe_write {n S st ep nx0 : Nat} {d : Dsk} {j t : Nat} {ps : List (List Int)} {safe : Nat} (h : Kept n S st ep nx0 d j t ps safe) (hSn : S = segsN n) (M : List Sec) (j' t' : Nat) (hj : j' < S) (ht : t' + M.length ≤ 16) (h0 : 0 < M.length) (ha : 16 * j + t ≤ 16 * j' + t') :
    ∃ e, Safe S st ep nx0 (writes d (adr S st j' t') M).1 ps safe e := by
  obtain ⟨k1, k2, k3, k4, k5, k6, e, ⟨s1, s2, s3⟩, k7⟩ := h
  have hfit : adr S st j' t' + M.length ≤ d.st.length := by
    have := adr_lt (n := n) (st := st) (j := j') hSn (by omega) (show t' + M.length - 1 < 16 by omega)
    unfold adr at this ⊢
    rw [k2]
    omega
  obtain ⟨a1, a2, -, -⟩ := writes_all M d _ hfit
  generalize (writes d (adr S st j' t') M).1 = d' at *
  refine ⟨e, s1, ?_, fun x hx => ?_⟩
  · have : stb d' S st = stb d S st := by funext k u; unfold stb; rw [a1]
    rw [this]
    exact s2
  · rcases a2 x hx with hb | ⟨u, hu, hb⟩
    · exact s3 x hb
    · exact ⟨j', t' + u, hj, by omega, by rw [hb]; unfold adr; omega, by omega⟩
theorem safe_acted {S st ep nx0 : Nat} {d : Dsk} {ps : List (List Int)} {safe : Nat} {e : Nat × Nat} (h : Safe S st ep nx0 d ps safe e) : Safe S st ep nx0 d.acted ps safe e := by
  obtain ⟨s1, s2, s3⟩ := h
  refine ⟨s1, ?_, by rw [acted_pe]; exact s3⟩
  have : stb d.acted S st = stb d S st := by funext k u; unfold stb; rw [acted_st]
  rw [this]
  exact s2
/-- A scan behind a crash finds what was synced, ahead of all else. -/
theorem scan_crash {S st ep nx0 : Nat} {d : Dsk} {ps : List (List Int)} {safe : Nat} {e : Nat × Nat} (h : Safe S st ep nx0 d ps safe e) (ks : List Bool) (hep : ep < 4294967296) (h0 : 0 < nx0) (hn : nx0 + safe < 18446744073709551616) (f : Nat) :
    ∃ r b, scan (vis (d.crash ks) S st) S ep (safe + f) nx0 0 0 = (tells ep nx0 (ps.take safe) ++ r, b) := by
  have hl : (ps.take safe).length = safe := by rw [List.length_take]; have := h.1; omega
  have := scan_chain hep (ps.take safe) nx0 0 0 f e h0 (by rw [hl]; exact hn) (safe_crash h ks)
  rw [hl] at this
  exact ⟨_, _, this⟩
end Go.Proofs.Ythgafnommcodcaa.Wal
/-
  More on logs in plain words: how many records there can be, where a scan ends, segments in their order, and how many sectors are left. Nothing of a program is named here.
-/
namespace Go.Proofs.Ythgafnommcodcaa.Wal
open Go.Proofs.Ythgafnommcodcaa.Frame Go.Proofs.Ythgafnommcodcaa.Disk

theorem view_len (rd : Rd) (j t : Nat) : (view rd j t).length = 16 - t := by simp [view]
/-- A record that is found ends within the segment, and is what it should be. -/
theorem at_ok {rd : Rd} {ep nx j t : Nat} (h : (atPlace rd ep nx j t).ok = true) : 0 < (atPlace rd ep nx j t).n ∧ t + (atPlace rd ep nx j t).n ≤ 16 ∧ (atPlace rd ep nx j t).s = nx ∧ (atPlace rd ep nx j t).e = ep ∧ atPlace rd ep nx j t = got (view rd j t) := by
  unfold atPlace at h ⊢
  split at h
  · rename_i hc
    rw [if_pos hc]
    simp only [Bool.and_eq_true, decide_eq_true_eq] at hc
    obtain ⟨h1, h2, h3⟩ := hc
    refine ⟨?_, ?_, h2, h3, rfl⟩
    all_goals
      unfold got at h1 ⊢
      split at h1
      · rename_i ho
        rw [if_pos ho]
        unfold opens roomy at ho
        simp only [Bool.and_eq_true, decide_eq_true_eq, view_len] at ho
        simp only
        omega
      · cases h1
  · cases h
/-- Each record has a sector at least. -/
theorem chain_count {rd : Rd} {S ep : Nat} : ∀ (l : List (List Int)) (nx j t : Nat) (e : Nat × Nat), t ≤ 16 → Chain rd S ep nx j t l e → 16 * j + t + l.length ≤ 16 * e.1 + e.2
  | [], _, j, t, e, _, h => by
    obtain rfl : e = (j, t) := h
    simp
  | p :: r, nx, j, t, e, ht, h => by
    obtain ⟨hr, ⟨h1, _, h3⟩ | ⟨h1, h2, _, _, h5⟩⟩ := h
    · have hf := size_fits (show p.length ≤ 700 by simp [right] at hr; exact hr.1)
      have := chain_count r (nx + 1) j (t + size p.length) e h1 h3
      simp only [List.length_cons]
      omega
    · have hf := size_fits (show p.length ≤ 700 by simp [right] at hr; exact hr.1)
      have := chain_count r (nx + 1) (j + 1) (size p.length) e (by omega) h5
      simp only [List.length_cons]
      omega
/-- Where nothing was written a scan ends. -/
theorem scan_zero {rd : Rd} {S ep j t : Nat} (h : ∀ k u, k < S → u < 16 → 16 * j + t ≤ 16 * k + u → rd k u = zero) (hj : j < S) (ht : t ≤ 16) : ∀ f nx, scan rd S ep f nx j t = ([], j)
  | 0, _ => rfl
  | f + 1, nx => by
    rw [scan_step, at_zero fun i hi hi2 => h j i hj hi2 (by omega)]
    split
    · rfl
    · rw [if_neg (by simp [nought])]
      split
      · rfl
      · rw [at_zero fun i hi hi2 => h (j + 1) i (by omega) hi2 (by omega), if_neg (by simp [nought])]
/-- All that lies there is found. -/
theorem scan_kept {n S st ep nx0 : Nat} {d : Dsk} {j t : Nat} {ps : List (List Int)} {safe : Nat} (h : Kept n S st ep nx0 d j t ps safe) (hep : ep < 4294967296) (h0 : 0 < nx0) (hn : nx0 + ps.length < 18446744073709551616) (f : Nat) :
    scan (vis d S st) S ep (ps.length + f) nx0 0 0 = (tells ep nx0 ps, j) := by
  obtain ⟨-, -, k3, k4, k5, k6, -⟩ := h
  rw [scan_chain hep ps nx0 0 0 f (j, t) h0 hn k5, scan_zero k6 k3 k4]
  simp
theorem kept_count {n S st ep nx0 : Nat} {d : Dsk} {j t : Nat} {ps : List (List Int)} {safe : Nat} (h : Kept n S st ep nx0 d j t ps safe) : ps.length ≤ 16 * S ∧ safe ≤ ps.length := by
  obtain ⟨-, -, k3, k4, k5, -, e, s1, -⟩ := h
  have := chain_count ps nx0 0 0 (j, t) (by omega) k5
  simp only at this
  exact ⟨by omega, s1.1⟩
/-- The next segment is the next one in the order, up to the one begun with. -/
theorem seg_first {S st : Nat} (hst : st < S) : segOf S st 0 = st := by unfold segOf; rw [Nat.add_zero]; exact Nat.mod_eq_of_lt hst
theorem seg_lt {S : Nat} (st j : Nat) (h : 0 < S) : segOf S st j < S := Nat.mod_lt _ h
theorem seg_next {S st j : Nat} (hS : 1 < S) : (if segOf S st j + 1 = S then 0 else segOf S st j + 1) = segOf S st (j + 1) := by
  have h1 := Nat.mod_lt (st + j) (show 0 < S by omega)
  have h2 : segOf S st (j + 1) = (segOf S st j + 1) % S := by
    unfold segOf
    rw [← Nat.add_assoc, Nat.add_mod (st + j) 1 S, Nat.mod_eq_of_lt hS]
  rw [h2]
  unfold segOf at h1 ⊢
  split
  · rename_i h
    rw [h, Nat.mod_self]
  · exact (Nat.mod_eq_of_lt (show (st + j) % S + 1 < S by omega)).symm
theorem seg_round {S st j : Nat} (hst : st < S) (hj : j < S) : segOf S st (j + 1) = st ↔ j + 1 = S := by
  unfold segOf
  constructor
  · intro h
    have e := Nat.sub_mod_eq_zero_of_mod_eq (show (st + (j + 1)) % S = st % S by rw [h, Nat.mod_eq_of_lt hst])
    rw [show st + (j + 1) - st = j + 1 by omega] at e
    rcases Nat.lt_or_ge (j + 1) S with h2 | h2
    · rw [Nat.mod_eq_of_lt h2] at e; omega
    · omega
  · intro h
    rw [h, Nat.add_mod_right, Nat.mod_eq_of_lt hst]
/-- The segment of a number, one by one: two numbers have the same one just where they are the same. -/
theorem seg_inj {S st j k : Nat} (hj : j < S) (hk : k < S) (h : segOf S st j = segOf S st k) : j = k := (adr_inj (st := st) (t := 0) (u := 0) hj hk (by omega) (by omega) (by unfold adr; omega)).1
end Go.Proofs.Ythgafnommcodcaa.Wal
/-
  What a scan finds segment by segment, from the segment begun with on, and what it is of a log's disk; sectors that are bytes.
-/
namespace Go.Proofs.Ythgafnommcodcaa.Wal
open Go.Proofs.Ythgafnommcodcaa.Frame Go.Proofs.Ythgafnommcodcaa.Disk

/-- A sector of bytes; a disk of such. -/
def BS (s : Sec) : Prop := ∀ c ∈ s.1, Byte c
def Byt (d : Dsk) : Prop := (∀ s ∈ d.st, BS s) ∧ ∀ x ∈ d.pe, BS x.2
theorem byte_zero : Byte 0 := ⟨by omega, by omega⟩
theorem bs_zero : BS zero := fun c hc => by
  obtain rfl := List.eq_of_mem_replicate (show c ∈ List.replicate 64 0 from hc)
  exact byte_zero
theorem byt_fresh (n : Nat) : Byt (fresh n) := ⟨fun s hs => by
  obtain rfl := List.eq_of_mem_replicate (show s ∈ List.replicate n zero from hs)
  exact bs_zero, fun x hx => by simp [fresh] at hx⟩
theorem byt_put {d : Dsk} (h : Byt d) (i : Int) {s : Sec} (hs : BS s) : Byt (d.put i s) := by
  unfold Dsk.put
  split
  · split
    · exact ⟨by rw [acted_st]; exact h.1, by rw [acted_pe]; exact h.2⟩
    · refine ⟨by show ∀ s ∈ d.acted.st, BS s; rw [acted_st]; exact h.1, fun x hx => ?_⟩
      rcases List.mem_append.1 (show x ∈ d.pe ++ [(i, s)] from hx) with hx | hx
      · exact h.2 x hx
      · rw [List.mem_singleton] at hx; subst hx; exact hs
  · exact h
theorem settle_bs (f : Nat → Bool) : ∀ (n : Nat) (l : List Wr) (st : List Sec), (∀ s ∈ st, BS s) → (∀ x ∈ l, BS x.2) → ∀ s ∈ Disk.settle f n l st, BS s
  | _, [], _, h, _ => h
  | n, x :: r, st, h, h2 => by
    unfold Disk.settle
    refine settle_bs f (n + 1) r _ ?_ fun y hy => h2 y (by simp [hy])
    split
    · intro s hs
      rcases List.mem_or_eq_of_mem_set hs with hs | rfl
      · exact h s hs
      · exact h2 x (by simp)
    · exact h
theorem byt_acted {d : Dsk} (h : Byt d) : Byt d.acted := ⟨by rw [acted_st]; exact h.1, by rw [acted_pe]; exact h.2⟩
theorem byt_settled {d : Dsk} (h : Byt d) (f : Nat → Bool) : Byt (d.settled f) := ⟨settle_bs f 0 d.pe d.st h.1 h.2, fun x hx => by simp [Dsk.settled] at hx⟩
theorem byt_sync {d : Dsk} (h : Byt d) : Byt d.sync := by
  unfold Dsk.sync
  split
  · exact byt_acted h
  · exact byt_settled (byt_acted h) _
theorem byt_crash {d : Dsk} (h : Byt d) (ks : List Bool) : Byt (d.crash ks) := byt_settled h (keeps ks)
theorem byt_breaks {d : Dsk} (h : Byt d) (n : Int) : Byt (d.breaks n) := h
theorem last_mem : ∀ {l : List Wr} {i : Int} {s : Sec}, last l i = some s → ∃ x ∈ l, x.2 = s
  | [], _, _, h => by simp [last] at h
  | x :: r, i, s, h => by
    unfold last at h
    cases hr : last r i with
    | some q =>
      rw [hr] at h
      obtain ⟨y, hy, e⟩ := last_mem hr
      exact ⟨y, by simp [hy], by simpa [e] using h⟩
    | none =>
      rw [hr] at h
      simp only at h
      split at h
      · exact ⟨x, by simp, by simpa using h⟩
      · cases h
theorem getD_bs {l : List Sec} (h : ∀ s ∈ l, BS s) (i : Nat) : BS (l.getD i zero) := by
  rw [List.getD_eq_getElem?_getD]
  cases hi : l[i]? with
  | none => exact bs_zero
  | some s => exact h s (List.mem_of_getElem? hi)
theorem byt_read {d : Dsk} (h : Byt d) (i : Int) : BS (d.read i).1 := by
  unfold Dsk.read
  cases hl : last d.pe i with
  | some s =>
    obtain ⟨x, hx, rfl⟩ := last_mem hl
    exact h.2 x hx
  | none =>
    show BS (stab d.st i).1
    unfold stab
    by_cases hh : has d.st.length i = true
    · rw [if_pos hh]
      exact getD_bs h.1 _
    · rw [if_neg hh]
      exact bs_zero
theorem secs_bytes : ∀ (n : Nat) (b : List Int), (∀ c ∈ b, Byte c) → ∀ s ∈ secs n b, BS s
  | 0, _, _, s, hs => by simp [secs] at hs
  | n + 1, b, hb, s, hs => by
    unfold secs at hs
    rcases List.mem_cons.1 hs with rfl | hs
    · intro c hc
      have := List.mem_of_mem_take (show c ∈ (_ ++ List.replicate 64 0).take 64 from hc)
      rcases List.mem_append.1 this with h | h
      · exact hb c h
      · obtain rfl := List.eq_of_mem_replicate h
        exact byte_zero
    · exact secs_bytes n _ (fun c hc => hb c (List.mem_of_mem_drop hc)) s hs
theorem bs_made {s e : Nat} {p : List Int} (hp : ∀ c ∈ p, Byte c) : ∀ x ∈ made s e p, BS x := by
  unfold made
  split
  · exact secs_bytes _ _ (Go.Proofs.Ythgafnommcodcaa.Crc.sealed_bytes (plain_bytes hp))
  · intro x hx; cases hx
theorem byt_writes : ∀ (l : List Sec) (d : Dsk) (i : Nat), Byt d → (∀ s ∈ l, BS s) → Byt (writes d i l).1
  | [], _, _, h, _ => h
  | s :: r, d, i, h, hl => by
    unfold writes
    split
    · exact byt_writes r _ _ (byt_put h _ (hl s (by simp))) fun x hx => hl x (by simp [hx])
    · exact byt_put h _ (hl s (by simp))
theorem byt_view {d : Dsk} (h : Byt d) (S st j t : Nat) : ∀ s ∈ view (vis d S st) j t, BS s := by
  intro s hs
  obtain ⟨i, _, rfl⟩ := List.mem_map.1 hs
  exact byt_read h _

/-- The records that sectors begin with. -/
def rights (l : List Sec) (ep nx : Nat) : Bool := (got l).ok && (decide ((got l).s = nx) && decide ((got l).e = ep))
def run (ep : Nat) : Nat → Nat → List Sec → List Got
  | 0, _, _ => []
  | f + 1, nx, l => if rights l ep nx = true then got l :: run ep f (more nx) (l.drop (got l).n) else []
theorem run_none {ep nx : Nat} {l : List Sec} (h : rights l ep nx = false) (f : Nat) : run ep f nx l = [] := by
  cases f with
  | zero => rfl
  | succ f => rw [run, if_neg (by simp [h])]
theorem run_some {ep nx : Nat} {l : List Sec} (h : rights l ep nx = true) (f : Nat) : run ep (f + 1) nx l = got l :: run ep f (more nx) (l.drop (got l).n) := by
  rw [run, if_pos h]
theorem got_fits {l : List Sec} (h : (got l).ok = true) : 0 < (got l).n ∧ (got l).n ≤ l.length ∧ right (got l).s (got l).p = true := by
  unfold got at h ⊢
  split at h
  · rename_i ho
    rw [if_pos ho]
    unfold opens roomy at ho
    simp only [Bool.and_eq_true, decide_eq_true_eq] at ho
    exact ⟨ho.1.2.1, ho.1.2.2, ho.2.1⟩
  · cases h
theorem rights_fits {l : List Sec} {ep nx : Nat} (h : rights l ep nx = true) : 0 < (got l).n ∧ (got l).n ≤ l.length ∧ (got l).ok = true ∧ (got l).s = nx ∧ (got l).e = ep ∧ nx ≠ 0 ∧ (got l).p.length ≤ 700 := by
  unfold rights at h
  simp only [Bool.and_eq_true, decide_eq_true_eq] at h
  obtain ⟨h1, h2, h3⟩ := h
  obtain ⟨a, b, c⟩ := got_fits h1
  simp only [right, Bool.and_eq_true, decide_eq_true_eq] at c
  exact ⟨a, b, h1, h2, h3, by omega, c.1⟩
theorem at_rights (rd : Rd) (ep nx j t : Nat) : (atPlace rd ep nx j t).ok = rights (view rd j t) ep nx := by
  cases h : rights (view rd j t) ep nx with
  | true =>
    unfold atPlace
    rw [if_pos (by exact h)]
    exact (rights_fits h).2.2.1
  | false =>
    unfold atPlace
    rw [if_neg (by unfold rights at h; simp [h])]
    rfl
theorem at_got {rd : Rd} {ep nx j t : Nat} (h : rights (view rd j t) ep nx = true) : atPlace rd ep nx j t = got (view rd j t) := by
  unfold atPlace
  rw [if_pos (by exact h)]
theorem at_pos {rd : Rd} {ep nx j t : Nat} (h : (atPlace rd ep nx j t).ok = true) : nx ≠ 0 := by
  rw [at_rights] at h
  exact (rights_fits h).2.2.2.2.2.1
theorem view_drop (rd : Rd) (j t n : Nat) : (view rd j t).drop n = view rd j (t + n) := by
  refine List.ext_getElem? fun i => ?_
  unfold view
  rw [List.getElem?_drop, List.getElem?_map, List.getElem?_map]
  rcases Nat.lt_or_ge (n + i) (16 - t) with h | h
  · rw [List.getElem?_range h, List.getElem?_range (by omega)]
    simp [Nat.add_assoc]
  · rw [List.getElem?_eq_none (by simp; omega), List.getElem?_eq_none (by simp; omega)]
    rfl
def adv (nx k : Nat) : Nat := (nx + k) % 18446744073709551616
theorem adv_more (nx k : Nat) : adv (more nx) k = adv nx (k + 1) := by unfold adv more; omega
theorem adv_zero {nx : Nat} (h : nx < 18446744073709551616) : adv nx 0 = nx := by unfold adv; omega
theorem adv_lt (nx k : Nat) : adv nx k < 18446744073709551616 := Nat.mod_lt _ (by omega)
theorem more_lt (nx : Nat) : more nx < 18446744073709551616 := Nat.mod_lt _ (by omega)
/-- A segment's records are what a scan finds there; what is behind them isn't one. -/
theorem scan_run (rd : Rd) (S ep j : Nat) : ∀ (k nx t : Nat), nx < 18446744073709551616 → t ≤ 16 → 16 - t < k → ∃ t', t ≤ t' ∧ t' ≤ 16 ∧ (run ep k nx (view rd j t)).length ≤ t' - t ∧
    (atPlace rd ep (adv nx (run ep k nx (view rd j t)).length) j t').ok = false ∧
    ∀ f, (run ep k nx (view rd j t)).length ≤ f → scan rd S ep f nx j t = (run ep k nx (view rd j t) ++ (scan rd S ep (f - (run ep k nx (view rd j t)).length) (adv nx (run ep k nx (view rd j t)).length) j t').1, (scan rd S ep (f - (run ep k nx (view rd j t)).length) (adv nx (run ep k nx (view rd j t)).length) j t').2)
  | 0, _, _, _, _, h => by omega
  | k + 1, nx, t, hn, ht, hk => by
    cases h : rights (view rd j t) ep nx with
    | false =>
      rw [run_none h]
      refine ⟨t, Nat.le_refl _, ht, by simp, ?_, fun f _ => by simp [adv_zero hn]⟩
      rw [List.length_nil, adv_zero hn, at_rights, h]
    | true =>
      obtain ⟨h1, h2, h3, h4, h5, h6, h7⟩ := rights_fits h
      rw [view_len] at h2
      obtain ⟨N, hN⟩ : ∃ N, (got (view rd j t)).n = N := ⟨_, rfl⟩
      rw [hN] at h1 h2
      have e1 : run ep (k + 1) nx (view rd j t) = got (view rd j t) :: run ep k (more nx) (view rd j (t + N)) := by rw [run_some h, view_drop, hN]
      obtain ⟨t', a, b, c, d, e⟩ := scan_run rd S ep j k (more nx) (t + N) (more_lt nx) (by omega) (by omega)
      rw [e1]
      generalize run ep k (more nx) (view rd j (t + N)) = R at *
      rw [adv_more] at d
      refine ⟨t', by omega, b, by simp; omega, by rw [List.length_cons]; exact d, fun f hf => ?_⟩
      rw [List.length_cons] at hf ⊢
      obtain ⟨f, rfl⟩ : ∃ g, f = g + 1 := ⟨f - 1, by omega⟩
      have hat : (atPlace rd ep nx j t).ok = true := by rw [at_rights, h]
      rw [scan_step, if_neg h6, if_pos hat, at_got h, hN, e f (by omega), adv_more, Nat.add_sub_add_right]
      rfl
/-- What is there from the beginning of a segment on. -/
def cont (rd : Rd) (S ep f nx j : Nat) : List Got × Nat := if j < S ∧ (atPlace rd ep nx j 0).ok = true then scan rd S ep f nx j 0 else ([], j - 1)
theorem cont_end {rd : Rd} {S ep nx j t : Nat} (h : (atPlace rd ep nx j t).ok = false) (hj : j < S) (f : Nat) : scan rd S ep (f + 1) nx j t = cont rd S ep (f + 1) nx (j + 1) := by
  unfold cont
  rw [scan_step, scan_step, if_neg (show ¬ (atPlace rd ep nx j t).ok = true by simp [h])]
  by_cases h0 : nx = 0
  · rw [if_pos h0, if_neg]
    · rfl
    · rintro ⟨_, h1⟩
      exact at_pos h1 h0
  · rw [if_neg h0, if_neg h0]
    by_cases h1 : j + 1 = S
    · rw [if_pos h1, if_neg (by omega)]
      rfl
    · rw [if_neg h1]
      by_cases h2 : (atPlace rd ep nx (j + 1) 0).ok = true
      · rw [if_pos h2, if_pos ⟨by omega, h2⟩, if_pos h2, Nat.zero_add]
      · rw [if_neg h2, if_neg (fun q => h2 q.2)]
        rfl
theorem cont_none {rd : Rd} {S ep nx j : Nat} (h : rights (view rd j 0) ep nx = false) (f : Nat) : cont rd S ep f nx j = ([], j - 1) := by
  unfold cont
  rw [if_neg]
  rintro ⟨_, h1⟩
  rw [at_rights, h] at h1
  cases h1
theorem cont_last (rd : Rd) (S ep f nx : Nat) : cont rd S ep f nx S = ([], S - 1) := by
  unfold cont
  rw [if_neg (by omega)]
theorem run_len {rd : Rd} {ep nx j : Nat} (hn : nx < 18446744073709551616) : (run ep 17 nx (view rd j 0)).length ≤ 16 := by
  obtain ⟨t', _, b, c, _⟩ := scan_run rd 0 ep j 17 nx 0 hn (by omega) (by omega)
  omega
theorem run_empty {ep nx : Nat} {l : List Sec} : run ep 17 nx l = [] ↔ rights l ep nx = false := by
  cases h : rights l ep nx with
  | false => simp [run_none h]
  | true => simp [run_some h]
theorem cont_step {rd : Rd} {S ep nx j f : Nat} (hn : nx < 18446744073709551616) (hj : j < S) (h : run ep 17 nx (view rd j 0) ≠ []) (hf : 17 ≤ f) :
    cont rd S ep f nx j = (run ep 17 nx (view rd j 0) ++ (cont rd S ep (f - (run ep 17 nx (view rd j 0)).length) (adv nx (run ep 17 nx (view rd j 0)).length) (j + 1)).1, (cont rd S ep (f - (run ep 17 nx (view rd j 0)).length) (adv nx (run ep 17 nx (view rd j 0)).length) (j + 1)).2) := by
  have hr : rights (view rd j 0) ep nx = true := by
    cases hc : rights (view rd j 0) ep nx with
    | true => rfl
    | false => exact absurd (run_empty.2 hc) h
  have hl := run_len (rd := rd) (ep := ep) (j := j) hn
  obtain ⟨t', a, b, c, d, e⟩ := scan_run rd S ep j 17 nx 0 hn (by omega) (by omega)
  generalize run ep 17 nx (view rd j 0) = R at *
  rw [cont, if_pos ⟨hj, by rw [at_rights, hr]⟩, e f (by omega)]
  obtain ⟨g, hg⟩ : ∃ g, f - R.length = g + 1 := ⟨f - R.length - 1, by omega⟩
  rw [hg, cont_end d hj]
/-- What the program's scan finds. -/
def pscan (rd : Rd) (S ep nx : Nat) : List Got × Nat := cont rd S ep (16 * S + 17) nx 0
/-- Of a log that is as it was laid: all its records. -/
theorem pscan_chain {rd : Rd} {S ep nx0 : Nat} (hep : ep < 4294967296) (hS : 0 < S) (h0 : 0 < nx0) {ps : List (List Int)} {e : Nat × Nat} (h : Chain rd S ep nx0 0 0 ps e) (hn : nx0 + ps.length < 18446744073709551616) (hl : ps.length ≤ 16 * S) :
    ∃ f, ps ≠ [] → pscan rd S ep nx0 = (tells ep nx0 ps ++ (scan rd S ep f (nx0 + ps.length) e.1 e.2).1, (scan rd S ep f (nx0 + ps.length) e.1 e.2).2) := by
  refine ⟨16 * S + 17 - ps.length, fun hne => ?_⟩
  have hs := scan_chain hep ps nx0 0 0 (16 * S + 17 - ps.length) e h0 hn h
  rw [show ps.length + (16 * S + 17 - ps.length) = 16 * S + 17 by omega] at hs
  rw [← hs, pscan, cont, if_pos]
  refine ⟨hS, ?_⟩
  cases ps with
  | nil => exact absurd rfl hne
  | cons p r =>
    have hn' : nx0 + (r.length + 1) < 18446744073709551616 := by simpa using hn
    obtain ⟨hr, ⟨h1, h2, _⟩ | ⟨h1, _⟩⟩ := h
    · rw [at_made hr (by omega) hep h1 h2]
    · have := size_fits (show p.length ≤ 700 by simp [right] at hr; exact hr.1)
      omega
theorem pscan_kept {n S st ep nx0 : Nat} {d : Dsk} {j t : Nat} {ps : List (List Int)} {safe : Nat} (h : Kept n S st ep nx0 d j t ps safe) (hep : ep < 4294967296) (h0 : 0 < nx0) (hn : nx0 + ps.length < 18446744073709551616) :
    pscan (vis d S st) S ep nx0 = (tells ep nx0 ps, j) := by
  have hc := (kept_count h).1
  obtain ⟨-, -, k3, k4, k5, k6, -⟩ := h
  cases ps with
  | nil =>
    obtain ⟨rfl, rfl⟩ : j = 0 ∧ t = 0 := by simpa [Chain] using k5
    rw [pscan, cont_none]
    · rfl
    · rw [← at_rights, at_zero fun i _ hi => k6 0 i k3 hi (by omega)]
      rfl
  | cons p r =>
    obtain ⟨f, hf⟩ := pscan_chain hep (by omega) h0 k5 hn hc
    rw [hf (by simp), scan_zero k6 k3 k4]
    simp
theorem pscan_crash {S st ep nx0 : Nat} {d : Dsk} {ps : List (List Int)} {safe : Nat} {e : Nat × Nat} (h : Safe S st ep nx0 d ps safe e) (ks : List Bool) (hep : ep < 4294967296) (hS : 0 < S) (h0 : 0 < nx0) (hn : nx0 + safe < 18446744073709551616) (hl : safe ≤ 16 * S) :
    ∃ r b, pscan (vis (d.crash ks) S st) S ep nx0 = (tells ep nx0 (ps.take safe) ++ r, b) := by
  have hlen : (ps.take safe).length = safe := by rw [List.length_take]; have := h.1; omega
  cases hq : ps.take safe with
  | nil => exact ⟨_, _, rfl⟩
  | cons p r =>
    have hc := safe_crash h ks
    rw [hq] at hc hlen
    obtain ⟨f, hf⟩ := pscan_chain hep hS h0 hc (by rw [hlen]; exact hn) (by rw [hlen]; exact hl)
    exact ⟨_, _, hf (by simp)⟩
/-- Each record that is found has the epoch, and the number that is one more. -/
theorem scan_seqs (rd : Rd) (S ep : Nat) : ∀ (f nx j t : Nat), nx < 18446744073709551616 → ∀ (i : Nat) (g : Got), (scan rd S ep f nx j t).1[i]? = some g → g.e = ep ∧ g.s = adv nx i
  | 0, _, _, _, _, i, g, h => by simp [scan] at h
  | f + 1, nx, j, t, hn, i, g, h => by
    rw [scan_step] at h
    have key : ∀ (j t : Nat) (r : List Got × Nat), (atPlace rd ep nx j t).ok = true → r = scan rd S ep f (more nx) j (t + (atPlace rd ep nx j t).n) → (atPlace rd ep nx j t :: r.1)[i]? = some g → g.e = ep ∧ g.s = adv nx i := by
      intro j t r ho hr hg
      cases i with
      | zero =>
        obtain rfl : atPlace rd ep nx j t = g := by simpa using hg
        obtain ⟨_, _, h3, h4, _⟩ := at_ok ho
        exact ⟨h4, by rw [h3, adv_zero hn]⟩
      | succ i =>
        rw [List.getElem?_cons_succ, hr] at hg
        rw [← adv_more]
        exact scan_seqs rd S ep f (more nx) j _ (more_lt nx) i g hg
    split at h
    · simp at h
    · split at h
      · rename_i ho
        exact key j t _ ho rfl h
      · split at h
        · simp at h
        · split at h
          · rename_i ho
            exact key (j + 1) 0 _ ho (by rw [Nat.zero_add]) h
          · simp at h
theorem pscan_seqs {rd : Rd} {S ep nx : Nat} (hn : nx < 18446744073709551616) (i : Nat) (g : Got) (h : (pscan rd S ep nx).1[i]? = some g) : g.e = ep ∧ g.s = adv nx i := by
  unfold pscan cont at h
  split at h
  · exact scan_seqs rd S ep _ nx 0 0 hn i g h
  · simp at h
/-- Of another epoch nothing is found. -/
theorem pscan_other {n S st ep ep' nx0 nx : Nat} {d : Dsk} {j t : Nat} {ps : List (List Int)} {safe : Nat} (h : Kept n S st ep nx0 d j t ps safe) (hep : ep < 4294967296) (hn : nx0 + ps.length < 18446744073709551616) (hne : ep' ≠ ep) :
    pscan (vis d S st) S ep' nx = ([], 0) := by
  obtain ⟨-, -, k3, k4, k5, k6, -⟩ := h
  rw [pscan, cont_none]
  rw [← at_rights]
  cases ps with
  | nil =>
    obtain ⟨rfl, rfl⟩ : j = 0 ∧ t = 0 := by simpa [Chain] using k5
    rw [at_zero fun i _ hi => k6 0 i k3 hi (by omega)]
    rfl
  | cons p r =>
    have hn' : nx0 + (r.length + 1) < 18446744073709551616 := by simpa using hn
    obtain ⟨hr, ⟨h1, h2, _⟩ | ⟨h1, _⟩⟩ := k5
    · have hm := made_len (e := ep) hr
      have e : got (view (vis d S st) 0 0) = ⟨true, size p.length, nx0, ep, p⟩ := by
        rw [view_has h2 (by rw [hm]; exact h1), got_made hr (by simpa using (show nx0 < 18446744073709551616 by omega)) (by simpa using hep), hm]
      unfold atPlace
      rw [e, if_neg]
      · rfl
      · simp only [Bool.and_eq_true, decide_eq_true_eq]
        rintro ⟨_, _, h5⟩
        exact hne h5.symm
    · have := size_fits (show p.length ≤ 700 by simp [right] at hr; exact hr.1)
      omega
end Go.Proofs.Ythgafnommcodcaa.Wal
/-
  Where things are on a disk: facts on whole numbers and lists; nothing of a program is named here.
-/
namespace Go.Proofs.Ythgafnommcodcaa.Area

/-- A disk of so many sectors can be. -/
def fits (S : Int) : Bool := decide (64 ≤ S) && decide (S ≤ 512)
/-- How many segments; the error's number. -/
def cnt (S : Int) : Int := if fits S = true then (S - 32) / 16 else 0
def segE (S : Int) : Int := if fits S = true then 0 else 91
/-- There is such a segment; where it is, which one is behind it; the error's number. -/
def there (S k : Int) : Bool := fits S && (decide (0 ≤ k) && decide (k < (S - 32) / 16))
def plE (S k : Int) : Int := if there S k = true then 0 else 91
def plc (S k : Int) : Int := if there S k = true then 32 + k * 16 else 0
def nxt (S k : Int) : Int := if there S k = true then (if k + 1 = (S - 32) / 16 then 0 else k + 1) else 0
/-- How many from one to another one. -/
def way (n a b : Int) : Int := if a ≤ b then b - a + 1 else b - a + n + 1
def usd (S a b : Int) : Int := if (there S a && there S b) = true then way ((S - 32) / 16) a b else 0
def usE (S a b : Int) : Int := if (there S a && there S b) = true then 0 else 91
/-- Where a generation's slot is. -/
def slotAt (g : Int) : Int := g % 2 * 16

theorem fits_iff {S : Int} : fits S = true ↔ 64 ≤ S ∧ S ≤ 512 := by unfold fits; simp
theorem there_iff {S k : Int} : there S k = true ↔ (64 ≤ S ∧ S ≤ 512) ∧ 0 ≤ k ∧ k < (S - 32) / 16 := by unfold there; simp [fits_iff]
theorem cnt_ok {S : Int} (h : fits S = true) : cnt S = (S - 32) / 16 := if_pos h
theorem segE_ok {S : Int} (h : fits S = true) : segE S = 0 := if_pos h
theorem cnt_no {S : Int} (h : fits S = false) : cnt S = 0 := if_neg (by simp [h])
theorem segE_no {S : Int} (h : fits S = false) : segE S = 91 := if_neg (by simp [h])
theorem plE_ok {S k : Int} (h : there S k = true) : plE S k = 0 := if_pos h
theorem plc_ok {S k : Int} (h : there S k = true) : plc S k = 32 + k * 16 := if_pos h
theorem nxt_ok {S k : Int} (h : there S k = true) : nxt S k = if k + 1 = (S - 32) / 16 then 0 else k + 1 := if_pos h
theorem plE_no {S k : Int} (h : there S k = false) : plE S k = 91 := if_neg (by simp [h])
theorem plc_no {S k : Int} (h : there S k = false) : plc S k = 0 := if_neg (by simp [h])
theorem nxt_no {S k : Int} (h : there S k = false) : nxt S k = 0 := if_neg (by simp [h])
theorem usd_ok {S a b : Int} (ha : there S a = true) (hb : there S b = true) : usd S a b = way ((S - 32) / 16) a b := if_pos (by simp [ha, hb])
theorem usE_ok {S a b : Int} (ha : there S a = true) (hb : there S b = true) : usE S a b = 0 := if_pos (by simp [ha, hb])
theorem usd_no {S a b : Int} (h : there S a = false ∨ there S b = false) : usd S a b = 0 := if_neg (by rcases h with h | h <;> simp [h])
theorem usE_no {S a b : Int} (h : there S a = false ∨ there S b = false) : usE S a b = 91 := if_neg (by rcases h with h | h <;> simp [h])
theorem there_fits {S k : Int} (h : there S k = true) : fits S = true := fits_iff.2 (there_iff.1 h).1
theorem there_no {S k : Int} (h : there S k = false) (hf : fits S = true) : k < 0 ∨ (0 ≤ k ∧ (S - 32) / 16 ≤ k) := by
  have hn : ¬ there S k = true := by simp [h]
  rw [there_iff] at hn
  have := fits_iff.1 hf
  omega
theorem nofits {S : Int} (h : fits S = false) : S < 64 ∨ 512 < S := by
  have hn : ¬ fits S = true := by simp [h]
  rw [fits_iff] at hn
  omega
theorem nothere {S k : Int} (h : fits S = false) : there S k = false := by unfold there; rw [h]; rfl
end Go.Proofs.Ythgafnommcodcaa.Area
namespace Go.Proofs.Ythgafnommcodcaa.Area
open Go.RowKit Go.Proofs.Ythgafnommcodcaa.Mem
set_option maxRecDepth 100000
set_option maxHeartbeats 1000000

theorem area_Segs (S : Int) (w : World) :
    Calls Try.prog 35 #[.int .i64 S] w fun e w' => e = .returned (.tuple #[.int .i64 (cnt S), .int .i64 (segE S)]) ∧ w' = w := by
  cases hf : fits S with
  | true =>
    rw [cnt_ok hf, segE_ok hf]
    obtain ⟨h1, h2⟩ := fits_iff.1 hf
    clear hf
    go_enter Try.func35, Try.ntmps35
    go_wp2
    go_ret2
    exact ⟨rfl, rfl⟩
  | false =>
    rw [cnt_no hf, segE_no hf]
    have h := nofits hf
    clear hf
    rcases h with h | h
    · go_enter Try.func35, Try.ntmps35
      go_wp2
      go_ret2
      exact ⟨rfl, rfl⟩
    · go_enter Try.func35, Try.ntmps35
      go_wp2
      go_ret2
      exact ⟨rfl, rfl⟩
/-- How many there are, where there is such a one. -/
def amg (S k : Int) : Int := if there S k = true then (S - 32) / 16 else 0
theorem amg_ok {S k : Int} (h : there S k = true) : amg S k = (S - 32) / 16 := if_pos h
theorem amg_no {S k : Int} (h : there S k = false) : amg S k = 0 := if_neg (by simp [h])
theorem area_among (S k : Int) (w : World) :
    Calls Try.prog 61 #[.int .i64 S, .int .i64 k] w fun e w' => e = .returned (.tuple #[.int .i64 (amg S k), .int .i64 (plE S k)]) ∧ w' = w := by
  have hs := area_Segs S w
  cases ht : there S k with
  | true =>
    rw [amg_ok ht, plE_ok ht]
    obtain ⟨h1, h2, h3⟩ := there_iff.1 ht
    rw [cnt_ok (there_fits ht), segE_ok (there_fits ht)] at hs
    clear ht
    go_enter Try.func61, Try.ntmps61
    go_wp2_with (go_at_call 35; refine hs.mono ?_; rintro e w1 ⟨rfl, rfl⟩)
    go_ret2
    exact ⟨rfl, rfl⟩
  | false =>
    rw [amg_no ht, plE_no ht]
    cases hf : fits S with
    | false =>
      rw [cnt_no hf, segE_no hf] at hs
      clear ht hf
      go_enter Try.func61, Try.ntmps61
      go_wp2_with (go_at_call 35; refine hs.mono ?_; rintro e w1 ⟨rfl, rfl⟩)
      go_ret2
      exact ⟨rfl, rfl⟩
    | true =>
      rw [cnt_ok hf, segE_ok hf] at hs
      have h := there_no ht hf
      clear ht hf
      rcases h with h | ⟨h0, h⟩
      · go_enter Try.func61, Try.ntmps61
        go_wp2_with (go_at_call 35; refine hs.mono ?_; rintro e w1 ⟨rfl, rfl⟩)
        go_ret2
        exact ⟨rfl, rfl⟩
      · go_enter Try.func61, Try.ntmps61
        go_wp2_with (go_at_call 35; refine hs.mono ?_; rintro e w1 ⟨rfl, rfl⟩)
        go_ret2
        exact ⟨rfl, rfl⟩
theorem area_Seg (S k : Int) (w : World) :
    Calls Try.prog 58 #[.int .i64 S, .int .i64 k] w fun e w' => e = .returned (.tuple #[.int .i64 (plc S k), .int .i64 (plE S k)]) ∧ w' = w := by
  have hs := area_among S k w
  cases ht : there S k with
  | true =>
    rw [amg_ok ht, plE_ok ht] at hs
    rw [plc_ok ht, plE_ok ht]
    obtain ⟨h1, h2, h3⟩ := there_iff.1 ht
    clear ht
    go_enter Try.func58, Try.ntmps58
    go_wp2_with (go_at_call 61; refine hs.mono ?_; rintro e w1 ⟨rfl, rfl⟩)
    go_ret2
    exact ⟨rfl, rfl⟩
  | false =>
    rw [amg_no ht, plE_no ht] at hs
    rw [plc_no ht, plE_no ht]
    clear ht
    go_enter Try.func58, Try.ntmps58
    go_wp2_with (go_at_call 61; refine hs.mono ?_; rintro e w1 ⟨rfl, rfl⟩)
    go_ret2
    exact ⟨rfl, rfl⟩
theorem area_Next (S k : Int) (w : World) :
    Calls Try.prog 39 #[.int .i64 S, .int .i64 k] w fun e w' => e = .returned (.tuple #[.int .i64 (nxt S k), .int .i64 (plE S k)]) ∧ w' = w := by
  have hs := area_among S k w
  cases ht : there S k with
  | true =>
    rw [amg_ok ht, plE_ok ht] at hs
    rw [nxt_ok ht, plE_ok ht]
    obtain ⟨⟨h1, h2⟩, h3, h4⟩ := there_iff.1 ht
    have h5 : (S - 32) / 16 ≤ 30 := by omega
    clear ht
    generalize (S - 32) / 16 = n at *
    by_cases hk : k + 1 = n
    · subst hk
      rw [if_pos rfl]
      have hm : (k + 1).tmod (k + 1) = 0 := Int.tmod_self
      go_enter Try.func39, Try.ntmps39
      go_wp2_with (go_at_call 61; refine hs.mono ?_; rintro e w1 ⟨rfl, rfl⟩)
      go_ret2
      exact ⟨rfl, rfl⟩
    · rw [if_neg hk]
      have hm : (k + 1).tmod n = k + 1 := by rw [Int.tmod_eq_emod_of_nonneg (by omega)]; exact Int.emod_eq_of_lt (by omega) (by omega)
      go_enter Try.func39, Try.ntmps39
      go_wp2_with (go_at_call 61; refine hs.mono ?_; rintro e w1 ⟨rfl, rfl⟩)
      go_ret2
      exact ⟨rfl, rfl⟩
  | false =>
    rw [amg_no ht, plE_no ht] at hs
    rw [nxt_no ht, plE_no ht]
    clear ht
    go_enter Try.func39, Try.ntmps39
    go_wp2_with (go_at_call 61; refine hs.mono ?_; rintro e w1 ⟨rfl, rfl⟩)
    go_ret2
    exact ⟨rfl, rfl⟩
theorem area_Used (S a b : Int) (w : World) :
    Calls Try.prog 56 #[.int .i64 S, .int .i64 a, .int .i64 b] w fun e w' => e = .returned (.tuple #[.int .i64 (usd S a b), .int .i64 (usE S a b)]) ∧ w' = w := by
  have ha := area_among S a w
  have hb := area_among S b w
  cases ta : there S a with
  | false =>
    rw [usd_no (.inl ta), usE_no (.inl ta)]
    rw [amg_no ta, plE_no ta] at ha
    clear hb ta
    go_enter Try.func56, Try.ntmps56
    go_wp2_with (go_at_call 61; refine ha.mono ?_; rintro e w1 ⟨rfl, rfl⟩)
    go_ret2
    exact ⟨rfl, rfl⟩
  | true =>
    rw [amg_ok ta, plE_ok ta] at ha
    cases tb : there S b with
    | false =>
      rw [usd_no (.inr tb), usE_no (.inr tb)]
      rw [amg_no tb, plE_no tb] at hb
      clear ta tb
      go_enter Try.func56, Try.ntmps56
      go_wp2_with (go_at_call 61; (first | ((with_reducible refine ha.mono ?_); rintro e w1 ⟨rfl, rfl⟩) | ((with_reducible refine hb.mono ?_); rintro e w1 ⟨rfl, rfl⟩)))
      go_ret2
      exact ⟨rfl, rfl⟩
    | true =>
      rw [usd_ok ta tb, usE_ok ta tb]
      rw [amg_ok tb, plE_ok tb] at hb
      obtain ⟨⟨h1, h2⟩, h3, h4⟩ := there_iff.1 ta
      obtain ⟨_, h5, h6⟩ := there_iff.1 tb
      have h7 : (S - 32) / 16 ≤ 30 := by omega
      clear ta tb
      generalize (S - 32) / 16 = n at *
      by_cases hab : a ≤ b
      · have hd : decide (b - a < 0) = false := by simp; omega
        rw [way, if_pos hab]
        go_enter Try.func56, Try.ntmps56
        go_wp2_with (go_at_call 61; (first | ((with_reducible refine ha.mono ?_); rintro e w1 ⟨rfl, rfl⟩) | ((with_reducible refine hb.mono ?_); rintro e w1 ⟨rfl, rfl⟩)))
        go_ret2
        exact ⟨rfl, rfl⟩
      · have hd : decide (b - a < 0) = true := by simp; omega
        rw [way, if_neg hab]
        go_enter Try.func56, Try.ntmps56
        go_wp2_with (go_at_call 61; (first | ((with_reducible refine ha.mono ?_); rintro e w1 ⟨rfl, rfl⟩) | ((with_reducible refine hb.mono ?_); rintro e w1 ⟨rfl, rfl⟩)))
        go_ret2
        exact ⟨rfl, rfl⟩
end Go.Proofs.Ythgafnommcodcaa.Area
