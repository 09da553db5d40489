/-
  Plain arithmetic of numbers that stay at their ends: definitions and facts on whole numbers; nothing of the program is named here.
-/
import Derived.WalkKit
import Derived.Lib.ItoaNum
namespace Go.Proofs.Ytmimhejlpejacab.Sat

/-- The sum, at most the greatest number. -/
def sadd (a b : Int) : Int := if a + b ≤ 18446744073709551615 then a + b else 18446744073709551615
/-- The difference, at least nothing. -/
def ssub (a b : Int) : Int := if a < b then 0 else a - b
/-- The product, at most the greatest number. -/
def smul (a b : Int) : Int := if a * b ≤ 18446744073709551615 then a * b else 18446744073709551615
/-- A level behind some ticks. -/
def sfill (l r t m : Int) : Int := min (sadd l (smul r t)) m
/-- -1, 0 or 1, as one is below the other. -/
def scmp (a b : Int) : Int := if a < b then -1 else if b < a then 1 else 0

/-- A word of 64 bits. -/
def Word (x : Int) : Prop := 0 ≤ x ∧ x ≤ 18446744073709551615

theorem sadd_word {a b : Int} (ha : Word a) (hb : Word b) : Word (sadd a b) := by
  obtain ⟨_, _⟩ := ha; obtain ⟨_, _⟩ := hb; unfold sadd Word; split <;> constructor <;> omega
theorem ssub_word {a b : Int} (ha : Word a) (hb : Word b) : Word (ssub a b) := by
  obtain ⟨_, _⟩ := ha; obtain ⟨_, _⟩ := hb; unfold ssub Word; split <;> constructor <;> omega
theorem smul_word {a b : Int} (ha : Word a) (hb : Word b) : Word (smul a b) := by
  have := Int.mul_nonneg ha.1 hb.1
  unfold smul Word; split <;> constructor <;> omega
theorem min_word {a b : Int} (ha : Word a) (hb : Word b) : Word (min a b) := by
  obtain ⟨_, _⟩ := ha; obtain ⟨_, _⟩ := hb; constructor <;> omega
theorem sfill_word {l r t m : Int} (hl : Word l) (hr : Word r) (ht : Word t) (hm : Word m) : Word (sfill l r t m) :=
  min_word (sadd_word hl (smul_word hr ht)) hm

/-- The two halves of a product. -/
def hi (a b : Int) : Int := a * b / 18446744073709551616
def lo (a b : Int) : Int := a * b % 18446744073709551616
theorem hi_zero {a b : Int} (ha : Word a) (hb : Word b) (h : a * b ≤ 18446744073709551615) : hi a b = 0 := by
  have := Int.mul_nonneg ha.1 hb.1
  unfold hi; omega
theorem lo_zero {a b : Int} (ha : Word a) (hb : Word b) (h : a * b ≤ 18446744073709551615) : lo a b = a * b := by
  have := Int.mul_nonneg ha.1 hb.1
  unfold lo; omega
theorem hi_pos {a b : Int} (h : ¬ a * b ≤ 18446744073709551615) : ¬ hi a b = 0 := by
  unfold hi; omega
theorem scmp_hilo (a b c d : Int) : scmp (a * b) (c * d) = if hi a b = hi c d then scmp (lo a b) (lo c d) else scmp (hi a b) (hi c d) := by
  unfold hi lo scmp
  generalize a * b = x
  generalize c * d = y
  split <;> (repeat' split) <;> omega

/-- An int. -/
def Inty (n : Int) : Prop := -9223372036854775808 ≤ n ∧ n ≤ 9223372036854775807
/-- A number as an int, 0 if there is none; whether there is one; an int as a number. -/
def sint (a : Int) : Int := if 9223372036854775807 < a then 0 else a
def fits (a : Int) : Bool := decide (a ≤ 9223372036854775807)
def suint (n : Int) : Int := if n < 0 then 0 else n
/-- How many bits. -/
def slog (a : Int) : Int := (Lib.bitLen a.toNat : Int)
/-- Over a power of two; times a power of two, at most the greatest number. -/
def sshr (a n : Int) : Int := if n < 0 then a else a / 2 ^ n.toNat
def sshl (a n : Int) : Int := if n < 0 then a else if a * 2 ^ n.toNat ≤ 18446744073709551615 then a * 2 ^ n.toNat else 18446744073709551615

theorem slog_bounds {a : Int} (ha : Word a) (hz : ¬ a = 0) : 1 ≤ slog a ∧ slog a ≤ 64 ∧ (2 : Int) ^ ((slog a).toNat - 1) ≤ a ∧ a < 2 ^ (slog a).toNat := by
  obtain ⟨h0, h1⟩ := ha
  obtain ⟨A, rfl⟩ := Int.eq_ofNat_of_zero_le h0
  have hA : A < 2 ^ 64 := by omega
  obtain ⟨p, q, r⟩ := Lib.bitLenAux_bounds 64 A hA (by omega)
  have hL : Lib.bitLenAux 64 A ≤ 64 := Lib.bitLen_le A 64 (Nat.le_refl _) hA
  unfold slog Lib.bitLen
  simp only [Int.toNat_natCast]
  generalize Lib.bitLenAux 64 A = L at *
  refine ⟨by omega, by omega, ?_, ?_⟩
  · have : ((2 ^ (L - 1) : Nat) : Int) ≤ A := by omega
    simpa using this
  · have : (A : Int) < ((2 ^ L : Nat) : Int) := by omega
    simpa using this

theorem two_pow_pos (k : Nat) : (0 : Int) < 2 ^ k := Int.pow_pos (by decide)
theorem two_pow_le {j k : Nat} (h : j ≤ k) : (2 : Int) ^ j ≤ 2 ^ k := by
  have := Nat.pow_le_pow_right (n := 2) (by decide) h
  have e : ((2 ^ j : Nat) : Int) ≤ ((2 ^ k : Nat) : Int) := by omega
  simpa using e

theorem sshl_over {a n : Int} (ha : Word a) (hz : ¬ a = 0) (hb : 64 - slog a < n) : sshl a n = 18446744073709551615 := by
  obtain ⟨l1, l2, l3, l4⟩ := slog_bounds ha hz
  have hn : ¬ n < 0 := by omega
  have hk : 64 ≤ ((slog a).toNat - 1) + n.toNat := by omega
  have hp : (2 : Int) ^ 64 ≤ 2 ^ ((slog a).toNat - 1) * 2 ^ n.toNat := by
    rw [← Int.pow_add]; exact two_pow_le hk
  have hq : (2 : Int) ^ ((slog a).toNat - 1) * 2 ^ n.toNat ≤ a * 2 ^ n.toNat :=
    Int.mul_le_mul_of_nonneg_right l3 (Int.le_of_lt (two_pow_pos _))
  have h64 : (2 : Int) ^ 64 = 18446744073709551616 := by decide
  unfold sshl
  rw [if_neg hn, if_neg (by omega)]

theorem sshl_in {a n : Int} (ha : Word a) (hn : ¬ n < 0) (hb : ¬ 64 - slog a < n) : sshl a n = a * 2 ^ n.toNat ∧ a * 2 ^ n.toNat ≤ 18446744073709551615 := by
  have key : a * 2 ^ n.toNat ≤ 18446744073709551615 := by
    by_cases hz : a = 0
    · subst hz; simp
    obtain ⟨l1, l2, l3, l4⟩ := slog_bounds ha hz
    have hk : (slog a).toNat + n.toNat ≤ 64 := by omega
    have hp : (2 : Int) ^ (slog a).toNat * 2 ^ n.toNat ≤ 2 ^ 64 := by
      rw [← Int.pow_add]; exact two_pow_le hk
    have hq : a * 2 ^ n.toNat < 2 ^ (slog a).toNat * 2 ^ n.toNat :=
      Int.mul_lt_mul_of_pos_right l4 (two_pow_pos _)
    have h64 : (2 : Int) ^ 64 = 18446744073709551616 := by decide
    omega
  exact ⟨by unfold sshl; rw [if_neg hn, if_pos key], key⟩

theorem shr_min {a n : Int} (ha : Word a) (hn : ¬ n < 0) : a / 2 ^ min n.toNat 64 = sshr a n := by
  unfold sshr; rw [if_neg hn]
  by_cases h : n.toNat ≤ 64
  · rw [Nat.min_eq_left h]
  · rw [Nat.min_eq_right (by omega)]
    have h1 : (2 : Int) ^ 64 ≤ 2 ^ n.toNat := two_pow_le (by omega)
    have h64 : (2 : Int) ^ 64 = 18446744073709551616 := by decide
    rw [Int.ediv_eq_zero_of_lt ha.1 (by have := ha.2; omega), Int.ediv_eq_zero_of_lt ha.1 (by have := ha.2; omega)]

/-! Doubling and halving, one step after the other. -/
theorem sshl_nat (a : Int) (j : Nat) : sshl a j = if a * 2 ^ j ≤ 18446744073709551615 then a * 2 ^ j else 18446744073709551615 := by
  unfold sshl; rw [if_neg (by omega)]; simp
theorem sshl_word {a : Int} (ha : Word a) (j : Nat) : Word (sshl a j) := by
  have := Int.mul_nonneg ha.1 (Int.le_of_lt (two_pow_pos j))
  rw [sshl_nat]; split <;> constructor <;> omega
theorem sshl_succ {a : Int} (ha : Word a) (j : Nat) : sadd (sshl a j) (sshl a j) = sshl a ((j + 1 : Nat) : Int) := by
  have h := Int.mul_nonneg ha.1 (Int.le_of_lt (two_pow_pos j))
  rw [sshl_nat, sshl_nat, Int.pow_succ, ← Int.mul_assoc]
  generalize a * 2 ^ j = p at *
  unfold sadd
  repeat' split
  all_goals omega
theorem sshl_all {a n : Int} (ha : Word a) {j : Nat} (h1 : j ≤ 64) (h2 : j = 0 ∨ (j : Int) ≤ n) (h3 : ¬ ((j : Int) < n ∧ (j : Int) < 64)) : sshl a j = sshl a n := by
  by_cases hz : a = 0
  · subst hz; unfold sshl; simp
  by_cases hn : n < 0
  · have : j = 0 := by omega
    subst this
    obtain ⟨a0, a1⟩ := ha
    have e : sshl a n = a := by unfold sshl; rw [if_pos hn]
    rw [e, sshl_nat, if_pos (by simpa using a1)]; simp
  by_cases hj : (j : Int) = n
  · rw [hj]
  · have hl := slog_bounds ha hz
    rw [sshl_over ha hz (by omega), sshl_over ha hz (by omega)]
theorem sshr_nat (a : Int) (j : Nat) : sshr a j = a / 2 ^ j := by
  unfold sshr; rw [if_neg (by omega)]; simp
theorem sshr_word {a : Int} (ha : Word a) (j : Nat) : Word (sshr a j) := by
  obtain ⟨a0, a1⟩ := ha
  rw [sshr_nat]
  have h1 := Int.ediv_le_self (2 ^ j) a0
  have h2 := Int.ediv_nonneg a0 (Int.le_of_lt (two_pow_pos j))
  exact ⟨by omega, by omega⟩
theorem sshr_succ (a : Int) (j : Nat) : sshr a j / 2 = sshr a ((j + 1 : Nat) : Int) := by
  rw [sshr_nat, sshr_nat, Int.pow_succ, Int.ediv_ediv_of_nonneg (Int.le_of_lt (two_pow_pos j))]
theorem sshr_all {a n : Int} (ha : Word a) {j : Nat} (h1 : j ≤ 64) (h2 : j = 0 ∨ (j : Int) ≤ n) (h3 : ¬ ((j : Int) < n ∧ (j : Int) < 64)) : sshr a j = sshr a n := by
  by_cases hn : n < 0
  · have : j = 0 := by omega
    subst this
    unfold sshr; rw [if_pos hn, if_neg (by omega)]; simp
  by_cases hj : (j : Int) = n
  · rw [hj]
  · rw [← shr_min ha hn, ← shr_min ha (n := (j : Int)) (by omega)]
    have e1 : min n.toNat 64 = 64 := by omega
    have e2 : min (j : Int).toNat 64 = 64 := by omega
    rw [e1, e2]
theorem slog_nonneg (a : Int) : 0 ≤ slog a := by unfold slog; omega
theorem slog_zero : slog 0 = 0 := by decide
theorem slog_le {a : Int} (ha : Word a) : slog a ≤ 64 := by
  by_cases hz : a = 0
  · subst hz; decide
  · exact (slog_bounds ha hz).2.1
theorem slog_half {a : Int} (ha : Word a) (h : 0 < a) : slog a = 1 + slog (a / 2) := by
  obtain ⟨a0, a1⟩ := ha
  obtain ⟨A, rfl⟩ := Int.eq_ofNat_of_zero_le a0
  unfold slog
  have e : ((A : Int) / 2).toNat = A / 2 := by omega
  rw [e, Int.toNat_natCast, Lib.bitLen_half A (by omega) (by omega)]
  omega

/-- A part of 32 bits; four parts as a number. -/
def Part (x : Int) : Prop := 0 ≤ x ∧ x < 4294967296
def val (a b c d : Int) : Int := a + 4294967296 * b + 18446744073709551616 * c + 79228162514264337593543950336 * d
/-- A number of any size, at most the greatest one. -/
def scut (v : Int) : Int := if v ≤ 18446744073709551615 then v else 18446744073709551615

theorem part_mod (x : Int) : Part (x % 4294967296) := ⟨by omega, by omega⟩
theorem part_zero : Part 0 := ⟨by decide, by decide⟩
theorem part_div {x : Int} (h0 : 0 ≤ x) (h : x ≤ 18446744073709551615) : Part (x / 4294967296) := ⟨by omega, by omega⟩

theorem plus_val {x0 x1 x2 x3 y0 y1 y2 y3 : Int} (a0 : Part x0) (a1 : Part x1) (a2 : Part x2) (a3 : Part x3) (b0 : Part y0) (b1 : Part y1) (b2 : Part y2) (b3 : Part y3)
    (h : val x0 x1 x2 x3 + val y0 y1 y2 y3 < 340282366920938463463374607431768211456) :
    val ((x0 + y0) % 4294967296) ((x1 + y1 + (x0 + y0) / 4294967296) % 4294967296) ((x2 + y2 + (x1 + y1 + (x0 + y0) / 4294967296) / 4294967296) % 4294967296)
      ((x3 + y3 + (x2 + y2 + (x1 + y1 + (x0 + y0) / 4294967296) / 4294967296) / 4294967296) % 4294967296) = val x0 x1 x2 x3 + val y0 y1 y2 y3 := by
  obtain ⟨_, _⟩ := a0; obtain ⟨_, _⟩ := a1; obtain ⟨_, _⟩ := a2; obtain ⟨_, _⟩ := a3
  obtain ⟨_, _⟩ := b0; obtain ⟨_, _⟩ := b1; obtain ⟨_, _⟩ := b2; obtain ⟨_, _⟩ := b3
  unfold val at *
  omega

theorem val_zero : val 0 0 0 0 = 0 := rfl
theorem val_lo (p : Int) : val (p % 4294967296) (p / 4294967296) 0 0 = p := by unfold val; omega
theorem val_mid (p : Int) : val 0 (p % 4294967296) (p / 4294967296) 0 = 4294967296 * p := by unfold val; omega
theorem val_top (p : Int) : val 0 0 (p % 4294967296) (p / 4294967296) = 18446744073709551616 * p := by unfold val; omega

/-- The four products of the halves make the product. -/
theorem times_val (a b : Int) : a % 4294967296 * (b % 4294967296) + 4294967296 * (a % 4294967296 * (b / 4294967296)) + 4294967296 * (a / 4294967296 * (b % 4294967296)) + 18446744073709551616 * (a / 4294967296 * (b / 4294967296)) = a * b := by
  have ea : a = 4294967296 * (a / 4294967296) + a % 4294967296 := by omega
  have eb : b = 4294967296 * (b / 4294967296) + b % 4294967296 := by omega
  generalize a / 4294967296 = u at *
  generalize a % 4294967296 = v at *
  generalize b / 4294967296 = s at *
  generalize b % 4294967296 = t at *
  subst ea; subst eb
  rw [Int.add_mul, Int.mul_add, Int.mul_add, Int.mul_assoc 4294967296 u (4294967296 * s), Int.mul_left_comm u 4294967296 s, Int.mul_assoc 4294967296 u t, Int.mul_left_comm v 4294967296 s]
  omega

/-- A product of two parts is a word. -/
theorem part_mul {x y : Int} (hx : Part x) (hy : Part y) : 0 ≤ x * y ∧ x * y ≤ 18446744065119617025 := by
  obtain ⟨x0, x1⟩ := hx; obtain ⟨y0, y1⟩ := hy
  refine ⟨Int.mul_nonneg x0 y0, ?_⟩
  have h1 : x * y ≤ 4294967295 * y := Int.mul_le_mul_of_nonneg_right (by omega) y0
  omega

/-- The four parts of a number. -/
def d0 (v : Int) : Int := v % 4294967296
def d1 (v : Int) : Int := v / 4294967296 % 4294967296
def d2 (v : Int) : Int := v / 18446744073709551616 % 4294967296
def d3 (v : Int) : Int := v / 79228162514264337593543950336 % 4294967296
/-- A number that has four parts. -/
def Four (v : Int) : Prop := 0 ≤ v ∧ v < 340282366920938463463374607431768211456
theorem part_d0 (v : Int) : Part (d0 v) := part_mod _
theorem part_d1 (v : Int) : Part (d1 v) := part_mod _
theorem part_d2 (v : Int) : Part (d2 v) := part_mod _
theorem part_d3 (v : Int) : Part (d3 v) := part_mod _
theorem val_d {v : Int} (h : Four v) : val (d0 v) (d1 v) (d2 v) (d3 v) = v := by
  obtain ⟨_, _⟩ := h
  unfold val d0 d1 d2 d3; omega
theorem d_val {z0 z1 z2 z3 : Int} (a0 : Part z0) (a1 : Part z1) (a2 : Part z2) (a3 : Part z3) : d0 (val z0 z1 z2 z3) = z0 ∧ d1 (val z0 z1 z2 z3) = z1 ∧ d2 (val z0 z1 z2 z3) = z2 ∧ d3 (val z0 z1 z2 z3) = z3 := by
  obtain ⟨_, _⟩ := a0; obtain ⟨_, _⟩ := a1; obtain ⟨_, _⟩ := a2; obtain ⟨_, _⟩ := a3
  unfold val d0 d1 d2 d3
  refine ⟨by omega, by omega, by omega, by omega⟩
theorem four_word {a : Int} (h : Word a) : Four a := by obtain ⟨_, _⟩ := h; exact ⟨by omega, by omega⟩
theorem four_mul {a b : Int} (ha : Word a) (hb : Word b) : Four (a * b) := by
  obtain ⟨a0, a1⟩ := ha; obtain ⟨b0, b1⟩ := hb
  refine ⟨Int.mul_nonneg a0 b0, ?_⟩
  have h1 : a * b ≤ 18446744073709551615 * b := Int.mul_le_mul_of_nonneg_right a1 b0
  omega
theorem four_fill {l r t : Int} (hl : Word l) (hr : Word r) (ht : Word t) : Four (l + r * t) := by
  obtain ⟨a0, a1⟩ := hr; obtain ⟨b0, b1⟩ := ht; obtain ⟨c0, c1⟩ := hl
  have h0 := Int.mul_nonneg a0 b0
  have h1 : r * t ≤ 18446744073709551615 * t := Int.mul_le_mul_of_nonneg_right a1 b0
  exact ⟨by omega, by omega⟩
/-- A level behind some ticks, by the whole sum. -/
theorem sfill_lt {l r t m : Int} (hl : Word l) (hr : Word r) (ht : Word t) (hm : Word m) : sfill l r t m = if scmp (l + r * t) m < 0 then scut (l + r * t) else m := by
  obtain ⟨c0, c1⟩ := hl; obtain ⟨e0, e1⟩ := hm
  have h0 := Int.mul_nonneg hr.1 ht.1
  unfold sfill smul sadd scmp scut
  generalize r * t = p at *
  repeat' split
  all_goals omega

theorem sfill_eq {l r t m : Int} (hl : Word l) (hr : Word r) (ht : Word t) (hm : Word m) : sfill l r t m = min (l + r * t) m := by
  obtain ⟨c0, c1⟩ := hl; obtain ⟨e0, e1⟩ := hm
  have h0 := Int.mul_nonneg hr.1 ht.1
  unfold sfill smul sadd
  generalize r * t = p at *
  repeat' split
  all_goals omega
/-- Ticks in parts. -/
theorem fill_parts {l r p q m : Int} (hl : Word l) (hr : Word r) (hp : Word p) (hq : Word q) (hpq : Word (p + q)) (hm : Word m) (h : l ≤ m) :
    sfill (sfill l r p m) r q m = sfill l r (p + q) m ∧ l ≤ sfill l r (p + q) m ∧ sfill l r (p + q) m ≤ m := by
  have w1 := sfill_word hl hr hp hm
  rw [sfill_eq w1 hr hq hm, sfill_eq hl hr hp hm, sfill_eq hl hr hpq hm, Int.mul_add]
  have h0 := Int.mul_nonneg hr.1 hp.1
  have h1 := Int.mul_nonneg hr.1 hq.1
  generalize r * p = u at *
  generalize r * q = v at *
  refine ⟨by omega, by omega, by omega⟩

/-! What was not cut off comes back; a number lies between the powers of two that its bits tell. -/
theorem back_up {a n : Int} (hn : ¬ n < 0) (h : ¬ sshl a n = 18446744073709551615) : sshr (sshl a n) n = a := by
  have e : sshl a n = a * 2 ^ n.toNat := by
    unfold sshl at h ⊢
    rw [if_neg hn] at h ⊢
    split at h
    · rename_i k; rw [if_pos k]
    · exact absurd rfl h
  rw [e]; unfold sshr; rw [if_neg hn]
  exact Int.mul_ediv_cancel a (by have := two_pow_pos n.toNat; omega)
theorem log_zero {a : Int} (ha : Word a) : sshr a (slog a) = 0 := by
  have h := slog_nonneg a
  unfold sshr; rw [if_neg (by omega)]
  by_cases hz : a = 0
  · subst hz; simp
  · exact Int.ediv_eq_zero_of_lt ha.1 (slog_bounds ha hz).2.2.2
theorem log_one {a : Int} (ha : Word a) (hz : ¬ a = 0) : sshr a (slog a - 1) = 1 := by
  obtain ⟨l1, l2, l3, l4⟩ := slog_bounds ha hz
  unfold sshr; rw [if_neg (by omega)]
  have e : (slog a - 1).toNat = (slog a).toNat - 1 := by omega
  rw [e]
  have e2 : (slog a).toNat = ((slog a).toNat - 1) + 1 := by omega
  rw [e2, Int.pow_succ] at l4
  generalize (2 : Int) ^ ((slog a).toNat - 1) = p at *
  have hp : 0 < p := by omega
  apply Int.le_antisymm
  · have : a / p < 2 := Int.ediv_lt_of_lt_mul hp (by omega)
    omega
  · exact Int.le_ediv_of_mul_le hp (by omega)

/-! One order of products. -/
theorem scmp_bounds (x y : Int) : -1 ≤ scmp x y ∧ scmp x y ≤ 1 := by
  unfold scmp
  repeat' split
  all_goals omega
theorem scmp_turn (x y : Int) : -scmp y x = scmp x y := by
  unfold scmp
  repeat' split
  all_goals omega
theorem scmp_self (x : Int) : scmp x x = 0 := by
  unfold scmp
  repeat' split
  all_goals omega
theorem scmp_more {a b m : Int} (ha : Word a) (hb : Word b) (hm : Word m) : scmp (a * b) (sadd a m * b) ≤ 0 ∧ smul a b ≤ smul (sadd a m) b := by
  have h : a ≤ sadd a m := by obtain ⟨_, _⟩ := ha; obtain ⟨_, _⟩ := hm; unfold sadd; split <;> omega
  have h2 : a * b ≤ sadd a m * b := Int.mul_le_mul_of_nonneg_right h hb.1
  constructor
  · unfold scmp; repeat' split
    all_goals omega
  · unfold smul; repeat' split
    all_goals omega

/-! Sums and products of three. -/
theorem sadd_assoc {a b c : Int} (ha : Word a) (hb : Word b) (hc : Word c) : sadd (sadd a b) c = sadd a (sadd b c) := by
  obtain ⟨_, _⟩ := ha; obtain ⟨_, _⟩ := hb; obtain ⟨_, _⟩ := hc
  unfold sadd; repeat' split
  all_goals omega
theorem smul_comm (a b : Int) : smul a b = smul b a := by unfold smul; rw [Int.mul_comm]
theorem smul_min (x y : Int) : smul x y = min (x * y) 18446744073709551615 := by unfold smul; split <;> omega
theorem smul_left {p c : Int} (hp : 0 ≤ p) (hc : 1 ≤ c) : smul (min p 18446744073709551615) c = min (p * c) 18446744073709551615 := by
  rw [smul_min]
  by_cases h : p ≤ 18446744073709551615
  · rw [show min p 18446744073709551615 = p by omega]
  · have h1 : p * 1 ≤ p * c := Int.mul_le_mul_of_nonneg_left hc hp
    rw [show min p 18446744073709551615 = 18446744073709551615 by omega]
    omega
theorem smul_assoc {a b c : Int} (ha : 1 ≤ a) (hb : 1 ≤ b) (hc : 1 ≤ c) : smul (smul a b) c = smul a (smul b c) := by
  have h1 := Int.mul_nonneg (a := a) (b := b) (by omega) (by omega)
  have h2 := Int.mul_nonneg (a := b) (b := c) (by omega) (by omega)
  rw [smul_min a b, smul_left h1 hc, smul_comm a, smul_min b c, smul_left h2 ha, Int.mul_assoc, Int.mul_comm a]
theorem sadd_back {a b : Int} (ha : Word a) (hb : Word b) (h : ¬ sadd a b = 18446744073709551615) : ssub (sadd a b) b = a ∧ ssub (sadd a b) a = b := by
  obtain ⟨_, _⟩ := ha; obtain ⟨_, _⟩ := hb
  unfold sadd at *
  split at h
  · rename_i k; rw [if_pos k]; unfold ssub; rw [if_neg (by omega), if_neg (by omega)]; constructor <;> omega
  · exact absurd rfl h
end Go.Proofs.Ytmimhejlpejacab.Sat
