/-
  Sectors, writes, and a disk as lists: what the programs do, in plain words. Nothing of a program is named here.
-/
import Derived.Test.YthgafnommcodcaaFramePlain
namespace Go.Proofs.Ythgafnommcodcaa.Disk
open Go.Proofs.Ythgafnommcodcaa.Frame (Sec zero)

def one (b : Int) : Sec := ⟨b :: List.replicate 63 0, by simp⟩
def two (b c : Int) : Sec := ⟨b :: c :: List.replicate 62 0, by simp⟩
/-- A write: its place, and what is to be there. -/
abbrev Wr := Int × Sec
/-- A disk: what is stable, what is pending, is it down, how many acts are left. -/
structure Dsk where
  st : List Sec
  pe : List Wr
  dn : Bool
  lf : Int
/-- Every pending write has its place. -/
def Dsk.ok (d : Dsk) : Prop := d.st.length ≤ 512 ∧ d.pe.length ≤ 1000 ∧ (∀ x ∈ d.pe, 0 ≤ x.1 ∧ x.1 < d.st.length) ∧ -1 ≤ d.lf ∧ d.lf ≤ 9223372036854775807
def fresh (n : Nat) : Dsk := ⟨List.replicate n zero, [], false, -1⟩
def clamp (x : Int) : Nat := (min (max x 0) 512).toNat
def has (n : Nat) (i : Int) : Bool := decide (0 ≤ i) && decide (i < n)
/-- The last write of a place. -/
def last : List Wr → Int → Option Sec
  | [], _ => none
  | x :: r, i => match last r i with
    | some s => some s
    | none => if x.1 = i then some x.2 else none
def stab (st : List Sec) (i : Int) : Sec × Int := if has st.length i then (st.getD i.toNat zero, 0) else (zero, 71)
def Dsk.read (d : Dsk) (i : Int) : Sec × Int := match last d.pe i with
  | some s => (s, 0)
  | none => stab d.st i
/-- Is an act refused? And the disk behind it. -/
def Dsk.no (d : Dsk) : Bool := d.dn || decide (d.lf = 0)
def Dsk.acted (d : Dsk) : Dsk := if d.no then { d with dn := true } else { d with lf := if 0 < d.lf then d.lf - 1 else d.lf }
def Dsk.err (d : Dsk) : Int := if d.no then 72 else 0
/-- Some of the writes, from number n on, are stable. -/
def settle (f : Nat → Bool) : Nat → List Wr → List Sec → List Sec
  | _, [], st => st
  | n, x :: r, st => settle f (n + 1) r (if f n then st.set x.1.toNat x.2 else st)
def keeps (ks : List Bool) (n : Nat) : Bool := ks.getD n false
def Dsk.settled (d : Dsk) (f : Nat → Bool) : Dsk := { d with st := settle f 0 d.pe d.st, pe := [] }
def Dsk.put (d : Dsk) (i : Int) (s : Sec) : Dsk := if has d.st.length i then (if d.no then d.acted else { d.acted with pe := d.pe ++ [(i, s)] }) else d
def Dsk.putE (d : Dsk) (i : Int) : Int := if has d.st.length i then d.err else 71
def Dsk.sync (d : Dsk) : Dsk := if d.no then d.acted else d.acted.settled fun _ => true
def Dsk.breaks (d : Dsk) (n : Int) : Dsk := { d with lf := max n (-1) }
def Dsk.crash (d : Dsk) (ks : List Bool) : Dsk := { d.settled (keeps ks) with dn := false, lf := -1 }

theorem settle_len (f : Nat → Bool) : ∀ (n : Nat) (l : List Wr) (st : List Sec), (settle f n l st).length = st.length
  | _, [], _ => rfl
  | n, x :: r, st => by
    unfold settle
    rw [settle_len f (n + 1) r]
    split <;> simp
theorem settle_app (f : Nat → Bool) : ∀ (n : Nat) (l : List Wr) (x : Wr) (st : List Sec), settle f n (l ++ [x]) st = (if f (n + l.length) then (settle f n l st).set x.1.toNat x.2 else settle f n l st)
  | n, [], x, st => by simp [settle]
  | n, y :: r, x, st => by
    show settle f (n + 1) (r ++ [x]) _ = _
    rw [settle_app f (n + 1) r x]
    have : n + 1 + r.length = n + (y :: r).length := by simp; omega
    rw [this]
    rfl
theorem last_app : ∀ (l : List Wr) (x : Wr) (i : Int), last (l ++ [x]) i = if x.1 = i then some x.2 else last l i
  | [], x, i => by simp [last]
  | y :: r, x, i => by
    show (match last (r ++ [x]) i with | some s => some s | none => if y.1 = i then some y.2 else none) = _
    rw [last_app r x i]
    by_cases h : x.1 = i
    · simp [h]
    · simp [h, last]
theorem acted_ok {d : Dsk} (h : d.ok) : d.acted.ok := by
  obtain ⟨h1, h2, h3, h4, h5⟩ := h
  unfold Dsk.acted
  split
  · exact ⟨h1, h2, h3, h4, h5⟩
  · refine ⟨h1, h2, h3, ?_, ?_⟩ <;> (simp only; split <;> omega)
theorem acted_st (d : Dsk) : d.acted.st = d.st := by unfold Dsk.acted; split <;> rfl
theorem acted_pe (d : Dsk) : d.acted.pe = d.pe := by unfold Dsk.acted; split <;> rfl
theorem settled_ok {d : Dsk} (h : d.ok) (f : Nat → Bool) : (d.settled f).ok := by
  obtain ⟨h1, _, _, h4, h5⟩ := h
  exact ⟨by simp only [Dsk.settled, settle_len]; exact h1, by simp [Dsk.settled], by simp [Dsk.settled], h4, h5⟩
theorem sync_ok {d : Dsk} (h : d.ok) : d.sync.ok := by
  unfold Dsk.sync
  split
  · exact acted_ok h
  · exact settled_ok (acted_ok h) _
theorem crash_ok {d : Dsk} (h : d.ok) (ks : List Bool) : (d.crash ks).ok := by
  obtain ⟨h1, h2, h3, _, _⟩ := settled_ok h (keeps ks)
  exact ⟨h1, h2, h3, by simp [Dsk.crash], by simp [Dsk.crash]⟩
theorem breaks_ok {d : Dsk} (h : d.ok) {n : Int} (hn : Inty n) : (d.breaks n).ok := by
  obtain ⟨h1, h2, h3, _, _⟩ := h
  obtain ⟨n1, n2⟩ := hn
  exact ⟨h1, h2, h3, by simp only [Dsk.breaks]; omega, by simp only [Dsk.breaks]; omega⟩
theorem put_ok {d : Dsk} (h : d.ok) (i : Int) (s : Sec) (hl : d.pe.length < 1000) : (d.put i s).ok := by
  have h' := acted_ok h
  unfold Dsk.put
  split
  · rename_i hh
    split
    · exact h'
    · obtain ⟨h1, h2, h3, h4, h5⟩ := h'
      refine ⟨h1, by simp; omega, ?_, h4, h5⟩
      intro x hx
      simp only [List.mem_append, List.mem_singleton] at hx
      simp only [acted_st]
      rcases hx with hx | rfl
      · exact h.2.2.1 x hx
      · simp [has] at hh; exact hh
  · exact h
theorem fresh_ok {n : Nat} (hn : n ≤ 512) : (fresh n).ok := ⟨by simp [fresh, hn], by simp [fresh], by simp [fresh], by simp [fresh], by simp [fresh]⟩
theorem put_len (d : Dsk) (i : Int) (s : Sec) : (d.put i s).pe.length ≤ d.pe.length + 1 ∧ (d.put i s).st = d.st := by
  unfold Dsk.put
  split
  · split
    · simp [acted_pe, acted_st]
    · simp [acted_st]
  · simp
theorem sync_len (d : Dsk) : d.sync.pe.length ≤ d.pe.length ∧ d.sync.st.length = d.st.length := by
  unfold Dsk.sync
  split
  · simp [acted_pe, acted_st]
  · simp [Dsk.settled, settle_len, acted_st]
end Go.Proofs.Ythgafnommcodcaa.Disk
