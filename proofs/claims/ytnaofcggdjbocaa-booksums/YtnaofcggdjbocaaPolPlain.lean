/-
  Policies: which can be, their numbers, the policy of numbers, which can be together. Whole numbers and lists alone.
-/
import Derived.Test.YtnaofcggdjbocaaAddrPlain
import Derived.Test.YtnaofcggdjbocaaKinds
namespace Go.Proofs.Ytnaofcggdjbocaa.Policy
open Go.Proofs.Ytnaofcggdjbocaa.Addr

/-- A policy: whose, which network (its address's number, its bits), and seven numbers. -/
structure Po where
  s : Int
  N : Nat
  b : Int
  x0 : Nat
  x1 : Nat
  x2 : Nat
  x3 : Nat
  x4 : Nat
  x5 : Nat
  x6 : Nat
def zeroP : Po := ⟨0, 0, 0, 0, 0, 0, 0, 0, 0, 0⟩
/-- Such that a program can hold it. -/
def PoOk (p : Po) : Prop := Inty p.s ∧ p.N < 4294967296 ∧ Inty p.b ∧ p.x0 < 18446744073709551616 ∧ p.x1 < 18446744073709551616 ∧ p.x2 < 18446744073709551616 ∧ p.x3 < 18446744073709551616 ∧ p.x4 < 18446744073709551616 ∧ p.x5 < 18446744073709551616 ∧ p.x6 < 18446744073709551616
def lowP (p : Po) : Bool := decide (p.x0 ≤ 281474976710656) && decide (p.x1 ≤ 281474976710656) && decide (p.x2 ≤ 281474976710656) && decide (p.x3 ≤ 281474976710656) && decide (p.x4 ≤ 281474976710656) && decide (p.x5 ≤ 281474976710656) && decide (p.x6 ≤ 281474976710656)
def rightP (p : Po) : Bool := decide (1 ≤ p.s) && decide (p.s ≤ 255) && rightN p.N p.b && lowP p && decide (1500 ≤ p.x5) && decide (1500 ≤ p.x6)
def numsL (p : Po) : List Int := [p.s, p.N, p.b, p.x0, p.x1, p.x2, p.x3, p.x4, p.x5, p.x6]
def numsP (p : Po) : List Int := if rightP p = true then numsL p else []
/-- The policy that ten numbers would be. -/
def asP (l : List Int) : Po := ⟨l.getD 0 0, (l.getD 1 0).toNat, l.getD 2 0, (l.getD 3 0).toNat, (l.getD 4 0).toNat, (l.getD 5 0).toNat, (l.getD 6 0).toNat, (l.getD 7 0).toNat, (l.getD 8 0).toNat, (l.getD 9 0).toNat⟩
def isP (l : List Int) : Bool := decide (l.length = 10) && decide (l.getD 1 0 ≤ 4294967295) && rightP (asP l)
def ofP (l : List Int) : Po := if isP l = true then asP l else zeroP
def ofE (l : List Int) : Int := if isP l = true then 0 else 111
theorem low_iff {p : Po} : lowP p = true ↔ p.x0 ≤ 281474976710656 ∧ p.x1 ≤ 281474976710656 ∧ p.x2 ≤ 281474976710656 ∧ p.x3 ≤ 281474976710656 ∧ p.x4 ≤ 281474976710656 ∧ p.x5 ≤ 281474976710656 ∧ p.x6 ≤ 281474976710656 := by
  unfold lowP
  simp only [Bool.and_eq_true, decide_eq_true_eq, and_assoc]
theorem rightP_iff {p : Po} : rightP p = true ↔ 1 ≤ p.s ∧ p.s ≤ 255 ∧ rightN p.N p.b = true ∧ lowP p = true ∧ 1500 ≤ p.x5 ∧ 1500 ≤ p.x6 := by
  unfold rightP
  simp only [Bool.and_eq_true, decide_eq_true_eq, and_assoc]
theorem bits_of {N : Nat} {b : Int} (h : rightN N b = true) : 0 ≤ b ∧ b ≤ 32 := by
  obtain ⟨k, hk, rfl, _⟩ := right_iff.1 h
  omega
theorem asP_nums (p : Po) : asP (numsL p) = p := by
  obtain ⟨s, N, b, x0, x1, x2, x3, x4, x5, x6⟩ := p
  simp [asP, numsL]
theorem list10 {α : Type} (l : List α) (h : l.length = 10) : ∃ c0 c1 c2 c3 c4 c5 c6 c7 c8 c9, l = [c0, c1, c2, c3, c4, c5, c6, c7, c8, c9] := by
  match l, h with
  | [c0, c1, c2, c3, c4, c5, c6, c7, c8, c9], _ => exact ⟨c0, c1, c2, c3, c4, c5, c6, c7, c8, c9, rfl⟩
theorem nums_asP {l : List Int} (h : l.length = 10) (h0 : ∀ c ∈ l, 0 ≤ c) : numsL (asP l) = l := by
  obtain ⟨c0, c1, c2, c3, c4, c5, c6, c7, c8, c9, rfl⟩ := list10 l h
  have k : ∀ {c : Int}, c ∈ [c0, c1, c2, c3, c4, c5, c6, c7, c8, c9] → ((c.toNat : Nat) : Int) = c := fun hc => Int.toNat_of_nonneg (h0 _ hc)
  simp only [asP, numsL, List.getD_cons_zero, List.getD_cons_succ]
  rw [k (c := c1) (by simp), k (c := c3) (by simp), k (c := c4) (by simp), k (c := c5) (by simp), k (c := c6) (by simp), k (c := c7) (by simp), k (c := c8) (by simp), k (c := c9) (by simp)]
theorem isP_nums {p : Po} (h : rightP p = true) (hN : p.N < 4294967296) : isP (numsL p) = true := by
  unfold isP
  rw [asP_nums, h]
  simp [numsL]
  omega
theorem isP_iff {l : List Int} : isP l = true ↔ l.length = 10 ∧ l.getD 1 0 ≤ 4294967295 ∧ rightP (asP l) = true := by
  unfold isP
  simp only [Bool.and_eq_true, decide_eq_true_eq, and_assoc]
theorem nums_inj {p q : Po} (h : numsL p = numsL q) : p = q := by rw [← asP_nums p, h, asP_nums]
theorem nums_len (p : Po) : (numsL p).length = 10 := rfl
theorem numsP_len (p : Po) : (numsP p).length ≤ 10 := by unfold numsP; split <;> simp [numsL]

/-! ### Together -/
/-- Whose network it is. -/
def kof (p : Po) : Nat × Int := (p.N, p.b)
/-- May it stand behind the other one? -/
def Bef (p q : Po) : Prop := p.s < q.s ∧ kof p ≠ kof q
def Tog (l : List Po) : Prop := l.length ≤ 8 ∧ (∀ p ∈ l, rightP p = true) ∧ l.Pairwise Bef
/-- The same, as far as it is asked of one behind the other. -/
def stepB (last : Int) (seen : List (Nat × Int)) (p : Po) : Bool := rightP p && !decide (p.s ≤ last) && !decide (kof p ∈ seen)
def walkB : Int → List (Nat × Int) → List Po → Bool
  | _, _, [] => true
  | last, seen, p :: r => stepB last seen p && walkB p.s (kof p :: seen) r
theorem step_iff {last : Int} {seen : List (Nat × Int)} {p : Po} : stepB last seen p = true ↔ rightP p = true ∧ last < p.s ∧ kof p ∉ seen := by
  unfold stepB
  simp only [Bool.and_eq_true, Bool.not_eq_true', decide_eq_false_iff_not, Int.not_le, and_assoc]
theorem walk_iff : ∀ (l : List Po) (last : Int) (seen : List (Nat × Int)), walkB last seen l = true ↔ (∀ p ∈ l, rightP p = true) ∧ l.Pairwise Bef ∧ (∀ p ∈ l, last < p.s ∧ kof p ∉ seen)
  | [], last, seen => by simp [walkB]
  | p :: r, last, seen => by
    unfold walkB
    rw [Bool.and_eq_true, step_iff, walk_iff r p.s (kof p :: seen)]
    simp only [List.mem_cons, forall_eq_or_imp, List.pairwise_cons, not_or]
    constructor
    · rintro ⟨⟨h1, h2, h3⟩, h4, h5, h6⟩
      exact ⟨⟨h1, h4⟩, ⟨fun q hq => ⟨(h6 q hq).1, fun e => (h6 q hq).2.1 e.symm⟩, h5⟩, ⟨h2, h3⟩, fun q hq => ⟨by have := (h6 q hq).1; omega, (h6 q hq).2.2⟩⟩
    · rintro ⟨⟨h1, h4⟩, ⟨h7, h5⟩, ⟨h2, h3⟩, h8⟩
      exact ⟨⟨h1, h2, h3⟩, h4, h5, fun q hq => ⟨(h7 q hq).1, fun e => (h7 q hq).2 e.symm, (h8 q hq).2⟩⟩
def allB (l : List Po) : Bool := decide (l.length ≤ 8) && walkB 0 [] l
theorem all_iff {l : List Po} : allB l = true ↔ Tog l := by
  unfold allB Tog
  rw [Bool.and_eq_true, decide_eq_true_eq, walk_iff]
  constructor
  · rintro ⟨h1, h2, h3, _⟩; exact ⟨h1, h2, h3⟩
  · rintro ⟨h1, h2, h3⟩; exact ⟨h1, h2, h3, fun p hp => ⟨by have := (rightP_iff.1 (h2 p hp)).1; omega, by simp⟩⟩
def allE (l : List Po) : Int := if allB l = true then 0 else 111
/-- Some of them can be together, too. -/
theorem tog_sub {l m : List Po} (h : Tog l) (hs : List.Sublist m l) : Tog m :=
  ⟨Nat.le_trans hs.length_le h.1, fun p hp => h.2.1 p (hs.subset hp), h.2.2.sublist hs⟩
theorem less_sub (l : List Po) {a b : Nat} (h : a ≤ b) : List.Sublist (l.take a ++ l.drop b) l := by
  have h1 : List.Sublist (l.drop b) (l.drop a) := by
    rw [show b = a + (b - a) by omega, ← List.drop_drop]
    exact List.drop_sublist _ _
  have := List.Sublist.append (List.Sublist.refl (l.take a)) h1
  rwa [List.take_append_drop] at this
/-- With one twice they can't. -/
theorem twice_no {l : List Po} {a b : Nat} (h : a < b) (hb : b ≤ l.length) : ¬ Tog (l.take b ++ l.drop a) := by
  rintro ⟨_, _, h3⟩
  obtain ⟨x, hx⟩ : ∃ x, l[a]? = some x := ⟨_, List.getElem?_eq_getElem (by omega)⟩
  have h1 : x ∈ l.take b := List.mem_of_getElem? (i := a) (by rw [List.getElem?_take, if_pos h]; exact hx)
  have h2 : x ∈ l.drop a := List.mem_of_getElem? (i := 0) (by rw [List.getElem?_drop]; exact hx)
  have := (List.pairwise_append.1 h3).2.2 x h1 x h2
  exact absurd this.1 (by omega)
end Go.Proofs.Ytnaofcggdjbocaa.Policy
