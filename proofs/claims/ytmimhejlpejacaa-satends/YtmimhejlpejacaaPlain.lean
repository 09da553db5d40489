/-
  Plain arithmetic of numbers that stay at their ends: definitions and facts on whole numbers; nothing of the program is named here.
-/
import Derived.WalkKit
import Derived.Lib.ItoaNum
namespace Go.Proofs.Ytmimhejlpejacaa.Sat

/-- The sum, at most the greatest number. -/
def sadd (a b : Int) : Int := if a + b ≤ 18446744073709551615 then a + b else 18446744073709551615
/-- The difference, at least nothing. -/
def ssub (a b : Int) : Int := if a < b then 0 else a - b
/-- The product, at most the greatest number. -/
def smul (a b : Int) : Int := if a * b ≤ 18446744073709551615 then a * b else 18446744073709551615
/-- A level behind some ticks. -/
def sfill (l r t m : Int) : Int := min (sadd l (smul r t)) m
/-- -1, 0 or 1, as one is below the other. -/
def scmp (a b : Int) : Int := if a < b then -1 else if b < a then 1 else 0

/-- A word of 64 bits. -/
def Word (x : Int) : Prop := 0 ≤ x ∧ x ≤ 18446744073709551615
instance (x : Int) : Decidable (Word x) := by unfold Word; exact inferInstance

theorem sadd_word {a b : Int} (ha : Word a) (hb : Word b) : Word (sadd a b) := by
  obtain ⟨_, _⟩ := ha; obtain ⟨_, _⟩ := hb; unfold sadd Word; split <;> constructor <;> omega
theorem ssub_word {a b : Int} (ha : Word a) (hb : Word b) : Word (ssub a b) := by
  obtain ⟨_, _⟩ := ha; obtain ⟨_, _⟩ := hb; unfold ssub Word; split <;> constructor <;> omega
theorem smul_word {a b : Int} (ha : Word a) (hb : Word b) : Word (smul a b) := by
  have := Int.mul_nonneg ha.1 hb.1
  unfold smul Word; split <;> constructor <;> omega
theorem min_word {a b : Int} (ha : Word a) (hb : Word b) : Word (min a b) := by
  obtain ⟨_, _⟩ := ha; obtain ⟨_, _⟩ := hb; constructor <;> omega
theorem sfill_word {l r t m : Int} (hl : Word l) (hr : Word r) (ht : Word t) (hm : Word m) : Word (sfill l r t m) :=
  min_word (sadd_word hl (smul_word hr ht)) hm

/-- The two halves of a product. -/
def hi (a b : Int) : Int := a * b / 18446744073709551616
def lo (a b : Int) : Int := a * b % 18446744073709551616
theorem hi_zero {a b : Int} (ha : Word a) (hb : Word b) (h : a * b ≤ 18446744073709551615) : hi a b = 0 := by
  have := Int.mul_nonneg ha.1 hb.1
  unfold hi; omega
theorem lo_zero {a b : Int} (ha : Word a) (hb : Word b) (h : a * b ≤ 18446744073709551615) : lo a b = a * b := by
  have := Int.mul_nonneg ha.1 hb.1
  unfold lo; omega
theorem hi_pos {a b : Int} (h : ¬ a * b ≤ 18446744073709551615) : ¬ hi a b = 0 := by
  unfold hi; omega
theorem scmp_hilo (a b c d : Int) : scmp (a * b) (c * d) = if hi a b = hi c d then scmp (lo a b) (lo c d) else scmp (hi a b) (hi c d) := by
  unfold hi lo scmp
  generalize a * b = x
  generalize c * d = y
  split <;> (repeat' split) <;> omega

/-- An int. -/
def Inty (n : Int) : Prop := -9223372036854775808 ≤ n ∧ n ≤ 9223372036854775807
instance (n : Int) : Decidable (Inty n) := by unfold Inty; exact inferInstance
/-- A number as an int, 0 if there is none; whether there is one; an int as a number. -/
def sint (a : Int) : Int := if 9223372036854775807 < a then 0 else a
def fits (a : Int) : Bool := decide (a ≤ 9223372036854775807)
def suint (n : Int) : Int := if n < 0 then 0 else n
/-- How many bits. -/
def slog (a : Int) : Int := (Lib.bitLen a.toNat : Int)
/-- Over a power of two; times a power of two, at most the greatest number. -/
def sshr (a n : Int) : Int := if n < 0 then a else a / 2 ^ n.toNat
def sshl (a n : Int) : Int := if n < 0 then a else if a * 2 ^ n.toNat ≤ 18446744073709551615 then a * 2 ^ n.toNat else 18446744073709551615

theorem slog_bounds {a : Int} (ha : Word a) (hz : ¬ a = 0) : 1 ≤ slog a ∧ slog a ≤ 64 ∧ (2 : Int) ^ ((slog a).toNat - 1) ≤ a ∧ a < 2 ^ (slog a).toNat := by
  obtain ⟨h0, h1⟩ := ha
  obtain ⟨A, rfl⟩ := Int.eq_ofNat_of_zero_le h0
  have hA : A < 2 ^ 64 := by omega
  obtain ⟨p, q, r⟩ := Lib.bitLenAux_bounds 64 A hA (by omega)
  have hL : Lib.bitLenAux 64 A ≤ 64 := Lib.bitLen_le A 64 (Nat.le_refl _) hA
  unfold slog Lib.bitLen
  simp only [Int.toNat_natCast]
  generalize Lib.bitLenAux 64 A = L at *
  refine ⟨by omega, by omega, ?_, ?_⟩
  · have : ((2 ^ (L - 1) : Nat) : Int) ≤ A := by omega
    simpa using this
  · have : (A : Int) < ((2 ^ L : Nat) : Int) := by omega
    simpa using this

theorem two_pow_pos (k : Nat) : (0 : Int) < 2 ^ k := Int.pow_pos (by decide)
theorem two_pow_le {j k : Nat} (h : j ≤ k) : (2 : Int) ^ j ≤ 2 ^ k := by
  have := Nat.pow_le_pow_right (n := 2) (by decide) h
  have e : ((2 ^ j : Nat) : Int) ≤ ((2 ^ k : Nat) : Int) := by omega
  simpa using e

theorem sshl_over {a n : Int} (ha : Word a) (hz : ¬ a = 0) (hb : 64 - slog a < n) : sshl a n = 18446744073709551615 := by
  obtain ⟨l1, l2, l3, l4⟩ := slog_bounds ha hz
  have hn : ¬ n < 0 := by omega
  have hk : 64 ≤ ((slog a).toNat - 1) + n.toNat := by omega
  have hp : (2 : Int) ^ 64 ≤ 2 ^ ((slog a).toNat - 1) * 2 ^ n.toNat := by
    rw [← Int.pow_add]; exact two_pow_le hk
  have hq : (2 : Int) ^ ((slog a).toNat - 1) * 2 ^ n.toNat ≤ a * 2 ^ n.toNat :=
    Int.mul_le_mul_of_nonneg_right l3 (Int.le_of_lt (two_pow_pos _))
  have h64 : (2 : Int) ^ 64 = 18446744073709551616 := by decide
  unfold sshl
  rw [if_neg hn, if_neg (by omega)]

theorem sshl_in {a n : Int} (ha : Word a) (hn : ¬ n < 0) (hb : ¬ 64 - slog a < n) : sshl a n = a * 2 ^ n.toNat ∧ a * 2 ^ n.toNat ≤ 18446744073709551615 := by
  have key : a * 2 ^ n.toNat ≤ 18446744073709551615 := by
    by_cases hz : a = 0
    · subst hz; simp
    obtain ⟨l1, l2, l3, l4⟩ := slog_bounds ha hz
    have hk : (slog a).toNat + n.toNat ≤ 64 := by omega
    have hp : (2 : Int) ^ (slog a).toNat * 2 ^ n.toNat ≤ 2 ^ 64 := by
      rw [← Int.pow_add]; exact two_pow_le hk
    have hq : a * 2 ^ n.toNat < 2 ^ (slog a).toNat * 2 ^ n.toNat :=
      Int.mul_lt_mul_of_pos_right l4 (two_pow_pos _)
    have h64 : (2 : Int) ^ 64 = 18446744073709551616 := by decide
    omega
  exact ⟨by unfold sshl; rw [if_neg hn, if_pos key], key⟩

theorem shr_min {a n : Int} (ha : Word a) (hn : ¬ n < 0) : a / 2 ^ min n.toNat 64 = sshr a n := by
  unfold sshr; rw [if_neg hn]
  by_cases h : n.toNat ≤ 64
  · rw [Nat.min_eq_left h]
  · rw [Nat.min_eq_right (by omega)]
    have h1 : (2 : Int) ^ 64 ≤ 2 ^ n.toNat := two_pow_le (by omega)
    have h64 : (2 : Int) ^ 64 = 18446744073709551616 := by decide
    rw [Int.ediv_eq_zero_of_lt ha.1 (by have := ha.2; omega), Int.ediv_eq_zero_of_lt ha.1 (by have := ha.2; omega)]
end Go.Proofs.Ytmimhejlpejacaa.Sat
