/-
  Addresses as numbers, and networks of them: whole numbers alone; nothing of a program is named here.
-/
import GoSem.Claim
namespace Go.Proofs.Ytnaofcggdjbocaa.Addr

/-! ### Numbers -/
/-- The number's first k bits of 32. -/
def cutN (N k : Nat) : Nat := N / 2 ^ (32 - k) * 2 ^ (32 - k)
def held (b : Int) : Nat := (min (max b 0) 32).toNat
def rightN (N : Nat) (b : Int) : Bool := decide (((held b : Nat) : Int) = b) && decide (cutN N (held b) = N)
def inN (A N : Nat) (b : Int) : Bool := rightN N b && decide (cutN A (held b) = N)
def withinN (N : Nat) (b : Int) (M : Nat) (c : Int) : Bool := rightN N b && inN N M c && decide (c ≤ b)

theorem held_le (b : Int) : held b ≤ 32 := by unfold held; omega
theorem held_nat {k : Nat} (h : k ≤ 32) : held (k : Int) = k := by unfold held; omega
theorem cutN_le (N k : Nat) : cutN N k ≤ N := Nat.div_mul_le_self _ _
theorem cutN_lt {N : Nat} (h : N < 4294967296) (k : Nat) : cutN N k < 4294967296 := Nat.lt_of_le_of_lt (cutN_le N k) h
theorem cutN_zero {N : Nat} (h : N < 4294967296) : cutN N 0 = 0 := by
  unfold cutN; rw [Nat.div_eq_of_lt (by simpa using h), Nat.zero_mul]
theorem cutN_all (N : Nat) : cutN N 32 = N := by simp [cutN]
theorem pow_split {i j : Nat} (h : i ≤ j) (hj : j ≤ 32) : 2 ^ (32 - i) = 2 ^ (j - i) * 2 ^ (32 - j) := by
  rw [← Nat.pow_add]; congr 1; omega
/-- Cut once more, at no more bits. -/
theorem cut_cut (N : Nat) {i j : Nat} (h : i ≤ j) (hj : j ≤ 32) : cutN (cutN N j) i = cutN N i := by
  unfold cutN
  rw [pow_split h hj, Nat.mul_comm (2 ^ (j - i)), ← Nat.div_div_eq_div_mul, Nat.mul_div_cancel _ (Nat.two_pow_pos _), ← Nat.div_div_eq_div_mul]
/-- Cut once more, at no fewer bits. -/
theorem cut_more (N : Nat) {i j : Nat} (h : i ≤ j) (hj : j ≤ 32) : cutN (cutN N i) j = cutN N i := by
  unfold cutN
  rw [pow_split h hj, ← Nat.mul_assoc, Nat.mul_div_cancel _ (Nat.two_pow_pos _)]
theorem cut_self (N k : Nat) (hk : k ≤ 32) : cutN (cutN N k) k = cutN N k := cut_cut N (Nat.le_refl _) hk
theorem right_iff {N : Nat} {b : Int} : rightN N b = true ↔ ∃ k : Nat, k ≤ 32 ∧ b = k ∧ cutN N k = N := by
  unfold rightN
  simp only [Bool.and_eq_true, decide_eq_true_eq]
  constructor
  · rintro ⟨h1, h2⟩; exact ⟨held b, held_le b, h1.symm, h2⟩
  · rintro ⟨k, hk, rfl, h⟩; rw [held_nat hk]; exact ⟨rfl, h⟩
theorem in_iff {A N : Nat} {b : Int} : inN A N b = true ↔ ∃ k : Nat, k ≤ 32 ∧ b = k ∧ cutN A k = N := by
  unfold inN
  simp only [Bool.and_eq_true, decide_eq_true_eq, right_iff]
  constructor
  · rintro ⟨⟨k, hk, rfl, h⟩, h2⟩; rw [held_nat hk] at h2; exact ⟨k, hk, rfl, h2⟩
  · rintro ⟨k, hk, rfl, rfl⟩; rw [held_nat hk]; exact ⟨⟨k, hk, rfl, cut_self _ _ hk⟩, rfl⟩
theorem within_iff {N M : Nat} {b c : Int} : withinN N b M c = true ↔ ∃ i j : Nat, i ≤ 32 ∧ b = i ∧ c = j ∧ j ≤ i ∧ cutN N i = N ∧ cutN N j = M := by
  unfold withinN
  simp only [Bool.and_eq_true, decide_eq_true_eq, right_iff, in_iff]
  constructor
  · rintro ⟨⟨⟨i, hi, rfl, h1⟩, j, hj, rfl, h2⟩, h3⟩; exact ⟨i, j, hi, rfl, rfl, by omega, h1, h2⟩
  · rintro ⟨i, j, hi, rfl, rfl, hij, h1, h2⟩; exact ⟨⟨⟨i, hi, rfl, h1⟩, j, by omega, rfl, h2⟩, by omega⟩

/-- The number whose first k bits are set: that of all bits, cut. -/
theorem mask_eq {k : Nat} (hk : k ≤ 32) : cutN 4294967295 k = 4294967296 - 2 ^ (32 - k) := by
  have : ∀ k ≤ 32, cutN 4294967295 k = 4294967296 - 2 ^ (32 - k) := by decide +kernel
  exact this k hk
theorem and_mask {N : Nat} (hN : N < 4294967296) {k : Nat} (hk : k ≤ 32) : N &&& cutN 4294967295 k = cutN N k := by
  have e : cutN 4294967295 k = (2 ^ k - 1) <<< (32 - k) := by
    rw [mask_eq hk, Nat.shiftLeft_eq, Nat.sub_mul, ← Nat.pow_add, show k + (32 - k) = 32 by omega]; simp
  rw [e]
  unfold cutN
  rw [← Nat.shiftRight_eq_div_pow, ← Nat.shiftLeft_eq]
  apply Nat.eq_of_testBit_eq
  intro i
  rw [Nat.testBit_and, Nat.testBit_shiftLeft, Nat.testBit_shiftLeft, Nat.testBit_two_pow_sub_one, Nat.testBit_shiftRight]
  by_cases h : 32 - k ≤ i
  · rw [show 32 - k + (i - (32 - k)) = i by omega]
    by_cases hi : i < 32
    · simp [h, show i - (32 - k) < k by omega]
    · have : N.testBit i = false := Nat.testBit_lt_two_pow (Nat.lt_of_lt_of_le hN (by
        have : 2 ^ 32 ≤ 2 ^ i := Nat.pow_le_pow_right (by decide) (by omega)
        simpa using this))
      simp [this]
  · simp [h]

/-! ### Bytes -/
def b0 (N : Nat) : Nat := N / 16777216 % 256
def b1 (N : Nat) : Nat := N / 65536 % 256
def b2 (N : Nat) : Nat := N / 256 % 256
def b3 (N : Nat) : Nat := N % 256
theorem b0_lt (N : Nat) : b0 N < 256 := Nat.mod_lt _ (by decide)
theorem b1_lt (N : Nat) : b1 N < 256 := Nat.mod_lt _ (by decide)
theorem b2_lt (N : Nat) : b2 N < 256 := Nat.mod_lt _ (by decide)
theorem b3_lt (N : Nat) : b3 N < 256 := Nat.mod_lt _ (by decide)
theorem bytes_num {N : Nat} (h : N < 4294967296) : b0 N * 16777216 + b1 N * 65536 + b2 N * 256 + b3 N = N := by
  unfold b0 b1 b2 b3; omega
theorem num_bytes {a b c d : Nat} (ha : a < 256) (hb : b < 256) (hc : c < 256) (hd : d < 256) :
    b0 (a * 16777216 + b * 65536 + c * 256 + d) = a ∧ b1 (a * 16777216 + b * 65536 + c * 256 + d) = b ∧ b2 (a * 16777216 + b * 65536 + c * 256 + d) = c ∧ b3 (a * 16777216 + b * 65536 + c * 256 + d) = d := by
  unfold b0 b1 b2 b3; omega
theorem bytes_inj {N M : Nat} (hN : N < 4294967296) (hM : M < 4294967296) (h0 : b0 N = b0 M) (h1 : b1 N = b1 M) (h2 : b2 N = b2 M) (h3 : b3 N = b3 M) : N = M := by
  rw [← bytes_num hN, ← bytes_num hM, h0, h1, h2, h3]
theorem and_b0 (N M : Nat) : b0 (N &&& M) = b0 N &&& b0 M := by
  unfold b0; rw [show 16777216 = 2 ^ 24 from rfl, show 256 = 2 ^ 8 from rfl, Nat.and_div_two_pow, Nat.and_mod_two_pow]
theorem and_b1 (N M : Nat) : b1 (N &&& M) = b1 N &&& b1 M := by
  unfold b1; rw [show 65536 = 2 ^ 16 from rfl, show 256 = 2 ^ 8 from rfl, Nat.and_div_two_pow, Nat.and_mod_two_pow]
theorem and_b2 (N M : Nat) : b2 (N &&& M) = b2 N &&& b2 M := by
  unfold b2; rw [show 256 = 2 ^ 8 from rfl, Nat.and_div_two_pow, Nat.and_mod_two_pow]
theorem and_b3 (N M : Nat) : b3 (N &&& M) = b3 N &&& b3 M := by
  unfold b3; rw [show 256 = 2 ^ 8 from rfl, Nat.and_mod_two_pow]

/-! ### How networks lie -/
theorem apart_or {A N M : Nat} {b c : Int} (h1 : inN A N b = true) (h2 : inN A M c = true) : withinN N b M c = true ∨ withinN M c N b = true := by
  obtain ⟨i, hi, rfl, rfl⟩ := in_iff.1 h1
  obtain ⟨j, hj, rfl, rfl⟩ := in_iff.1 h2
  by_cases h : j ≤ i
  · exact Or.inl (within_iff.2 ⟨i, j, hi, rfl, rfl, h, cut_self _ _ hi, cut_cut A h hi⟩)
  · exact Or.inr (within_iff.2 ⟨j, i, hj, rfl, rfl, by omega, cut_self _ _ hj, cut_cut A (by omega) hj⟩)
theorem in_wider {A N M : Nat} {b c : Int} (h1 : withinN N b M c = true) (h2 : inN A N b = true) : inN A M c = true := by
  obtain ⟨i, j, hi, rfl, rfl, hij, h3, rfl⟩ := within_iff.1 h1
  obtain ⟨k, hk, e, rfl⟩ := in_iff.1 h2
  obtain rfl : i = k := by omega
  exact in_iff.2 ⟨j, by omega, rfl, (cut_cut A hij hi).symm⟩
theorem within_anti {N M : Nat} {b c : Int} (h1 : withinN N b M c = true) (h2 : withinN M c N b = true) : N = M ∧ b = c := by
  obtain ⟨i, j, hi, rfl, rfl, hij, h3, rfl⟩ := within_iff.1 h1
  obtain ⟨k, l, hk, e1, e2, hkl, h5, h6⟩ := within_iff.1 h2
  obtain rfl : i = j := by omega
  exact ⟨h3.symm, rfl⟩
theorem within_self {N : Nat} {b : Int} (h : rightN N b = true) : withinN N b N b = true := by
  obtain ⟨k, hk, rfl, e⟩ := right_iff.1 h
  exact within_iff.2 ⟨k, k, hk, rfl, rfl, Nat.le_refl _, e, e⟩
theorem in_self {N : Nat} {b : Int} (h : rightN N b = true) : inN N N b = true := by
  obtain ⟨k, hk, rfl, e⟩ := right_iff.1 h
  exact in_iff.2 ⟨k, hk, rfl, e⟩
theorem within_whole {N : Nat} {b : Int} (hN : N < 4294967296) (h : rightN N b = true) : withinN N b 0 0 = true := by
  obtain ⟨k, hk, rfl, e⟩ := right_iff.1 h
  exact within_iff.2 ⟨k, 0, hk, rfl, rfl, Nat.zero_le _, e, cutN_zero hN⟩
/-- With one of its counted bits turned an address is in the network no more. -/
theorem turned_cut (N : Nat) {k : Nat} : cutN (N ^^^ 2 ^ (32 - k)) k ≠ cutN N k := by
  intro h
  unfold cutN at h
  have h2 := Nat.eq_of_mul_eq_mul_right (Nat.two_pow_pos _) h
  rw [Nat.xor_div_two_pow, Nat.div_self (Nat.two_pow_pos _)] at h2
  have h3 := congrArg (fun x => Nat.testBit x 0) h2
  simp at h3
  omega
theorem turned_lt {N : Nat} (hN : N < 4294967296) {k : Nat} (h1 : 1 ≤ k) (hk : k ≤ 32) : N ^^^ 2 ^ (32 - k) < 4294967296 := by
  have := Nat.xor_lt_two_pow (n := 32) (x := N) (y := 2 ^ (32 - k)) (by simpa using hN) (Nat.pow_lt_pow_right (by decide) (by omega))
  simpa using this
/-- A network lies in another, if its first and its last address do. -/
def lastN (N : Nat) (k : Nat) : Nat := N + (4294967295 - cutN 4294967295 k)
theorem lastN_lt {N k : Nat} (hN : N < 4294967296) (hk : k ≤ 32) (h : cutN N k = N) : lastN N k < 4294967296 := by
  unfold lastN
  rw [mask_eq hk]
  have hp : 2 ^ (32 - k) ≤ 2 ^ 32 := Nat.pow_le_pow_right (by decide) (by omega)
  have hp0 := Nat.two_pow_pos (32 - k)
  have h2 : N + 2 ^ (32 - k) ≤ 2 ^ 32 := by
    have e : N = N / 2 ^ (32 - k) * 2 ^ (32 - k) := h.symm
    have e2 : 2 ^ 32 = 2 ^ k * 2 ^ (32 - k) := by rw [← Nat.pow_add]; congr 1; omega
    have h3 : N / 2 ^ (32 - k) < 2 ^ k := by
      rw [Nat.div_lt_iff_lt_mul hp0, ← e2]; simpa using hN
    have h4 := Nat.mul_le_mul_right (2 ^ (32 - k)) (Nat.succ_le_of_lt h3)
    rw [Nat.succ_mul, ← e, ← e2] at h4
    exact h4
  simp only [Nat.reducePow] at hp h2
  omega
theorem ends_iff {N M i j : Nat} (hi : i ≤ 32) (hj : j ≤ 32) (hn : cutN N i = N) : (cutN N j = M ∧ cutN (lastN N i) j = M) ↔ (cutN N j = M ∧ j ≤ i) := by
  have hp0 := Nat.two_pow_pos (32 - i)
  have el : lastN N i = N + (2 ^ (32 - i) - 1) := by
    unfold lastN
    rw [mask_eq hi]
    have hp : 2 ^ (32 - i) ≤ 2 ^ 32 := Nat.pow_le_pow_right (by decide) (by omega)
    simp only [Nat.reducePow] at hp
    omega
  have hc : cutN (lastN N i) i = N := by
    rw [el]
    have e : N = N / 2 ^ (32 - i) * 2 ^ (32 - i) := hn.symm
    unfold cutN
    rw [e, Nat.add_comm (_ * _), Nat.add_mul_div_right _ _ hp0, Nat.div_eq_of_lt (Nat.sub_lt hp0 (by decide)), Nat.zero_add]
  constructor
  · rintro ⟨h1, h2⟩
    refine ⟨h1, Nat.le_of_not_lt fun hlt => ?_⟩
    have hm : cutN N j = N := by rw [← hn]; exact cut_more N (by omega) hj
    have h3 : cutN (lastN N i) j = N := by rw [h2, ← h1, hm]
    have hq := Nat.two_pow_pos (32 - j)
    have h4 := Nat.div_add_mod (lastN N i) (2 ^ (32 - j))
    have h5 := Nat.mod_lt (lastN N i) hq
    unfold cutN at h3
    rw [Nat.mul_comm, h3, el] at h4
    have h6 : 2 * 2 ^ (32 - j) ≤ 2 ^ (32 - i) := by
      rw [← Nat.pow_succ']; exact Nat.pow_le_pow_right (by decide) (by omega)
    rw [el] at h5
    omega
  · rintro ⟨h1, h2⟩
    refine ⟨h1, ?_⟩
    rw [← cut_cut (lastN N i) h2 hi, hc, h1]
end Go.Proofs.Ytnaofcggdjbocaa.Addr
