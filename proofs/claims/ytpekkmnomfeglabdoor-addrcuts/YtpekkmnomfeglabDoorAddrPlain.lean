/-
  Addresses as numbers, networks of them, and their texts: whole numbers and lists of bytes alone; nothing of a program is named here.
-/
import Derived.Lib.AtoiAll
import Derived.Lib.ItoaNum
import Derived.Lib.Split
import Derived.Lib.Join
namespace Go.Proofs.YtpekkmnomfeglabDoor.Addr

/-! ### Numbers -/
/-- The number's first k bits of 32. -/
def cutN (N k : Nat) : Nat := N / 2 ^ (32 - k) * 2 ^ (32 - k)
def held (b : Int) : Nat := (min (max b 0) 32).toNat
def rightN (N : Nat) (b : Int) : Bool := decide (((held b : Nat) : Int) = b) && decide (cutN N (held b) = N)
def inN (A N : Nat) (b : Int) : Bool := rightN N b && decide (cutN A (held b) = N)
def withinN (N : Nat) (b : Int) (M : Nat) (c : Int) : Bool := rightN N b && inN N M c && decide (c ≤ b)

theorem held_le (b : Int) : held b ≤ 32 := by unfold held; omega
theorem held_nat {k : Nat} (h : k ≤ 32) : held (k : Int) = k := by unfold held; omega
theorem cutN_le (N k : Nat) : cutN N k ≤ N := Nat.div_mul_le_self _ _
theorem cutN_lt {N : Nat} (h : N < 4294967296) (k : Nat) : cutN N k < 4294967296 := Nat.lt_of_le_of_lt (cutN_le N k) h
theorem cutN_zero {N : Nat} (h : N < 4294967296) : cutN N 0 = 0 := by
  unfold cutN; rw [Nat.div_eq_of_lt (by simpa using h), Nat.zero_mul]
theorem cutN_all (N : Nat) : cutN N 32 = N := by simp [cutN]
theorem pow_split {i j : Nat} (h : i ≤ j) (hj : j ≤ 32) : 2 ^ (32 - i) = 2 ^ (j - i) * 2 ^ (32 - j) := by
  rw [← Nat.pow_add]; congr 1; omega
/-- Cut once more, at no more bits. -/
theorem cut_cut (N : Nat) {i j : Nat} (h : i ≤ j) (hj : j ≤ 32) : cutN (cutN N j) i = cutN N i := by
  unfold cutN
  rw [pow_split h hj, Nat.mul_comm (2 ^ (j - i)), ← Nat.div_div_eq_div_mul, Nat.mul_div_cancel _ (Nat.two_pow_pos _), ← Nat.div_div_eq_div_mul]
/-- Cut once more, at no fewer bits. -/
theorem cut_more (N : Nat) {i j : Nat} (h : i ≤ j) (hj : j ≤ 32) : cutN (cutN N i) j = cutN N i := by
  unfold cutN
  rw [pow_split h hj, ← Nat.mul_assoc, Nat.mul_div_cancel _ (Nat.two_pow_pos _)]
theorem cut_self (N k : Nat) (hk : k ≤ 32) : cutN (cutN N k) k = cutN N k := cut_cut N (Nat.le_refl _) hk
theorem right_iff {N : Nat} {b : Int} : rightN N b = true ↔ ∃ k : Nat, k ≤ 32 ∧ b = k ∧ cutN N k = N := by
  unfold rightN
  simp only [Bool.and_eq_true, decide_eq_true_eq]
  constructor
  · rintro ⟨h1, h2⟩; exact ⟨held b, held_le b, h1.symm, h2⟩
  · rintro ⟨k, hk, rfl, h⟩; rw [held_nat hk]; exact ⟨rfl, h⟩
theorem in_iff {A N : Nat} {b : Int} : inN A N b = true ↔ ∃ k : Nat, k ≤ 32 ∧ b = k ∧ cutN A k = N := by
  unfold inN
  simp only [Bool.and_eq_true, decide_eq_true_eq, right_iff]
  constructor
  · rintro ⟨⟨k, hk, rfl, h⟩, h2⟩; rw [held_nat hk] at h2; exact ⟨k, hk, rfl, h2⟩
  · rintro ⟨k, hk, rfl, rfl⟩; rw [held_nat hk]; exact ⟨⟨k, hk, rfl, cut_self _ _ hk⟩, rfl⟩
theorem within_iff {N M : Nat} {b c : Int} : withinN N b M c = true ↔ ∃ i j : Nat, i ≤ 32 ∧ b = i ∧ c = j ∧ j ≤ i ∧ cutN N i = N ∧ cutN N j = M := by
  unfold withinN
  simp only [Bool.and_eq_true, decide_eq_true_eq, right_iff, in_iff]
  constructor
  · rintro ⟨⟨⟨i, hi, rfl, h1⟩, j, hj, rfl, h2⟩, h3⟩; exact ⟨i, j, hi, rfl, rfl, by omega, h1, h2⟩
  · rintro ⟨i, j, hi, rfl, rfl, hij, h1, h2⟩; exact ⟨⟨⟨i, hi, rfl, h1⟩, j, by omega, rfl, h2⟩, by omega⟩

/-- The number whose first k bits are set: that of all bits, cut. -/
theorem mask_eq {k : Nat} (hk : k ≤ 32) : cutN 4294967295 k = 4294967296 - 2 ^ (32 - k) := by
  have : ∀ k ≤ 32, cutN 4294967295 k = 4294967296 - 2 ^ (32 - k) := by decide +kernel
  exact this k hk
theorem and_mask {N : Nat} (hN : N < 4294967296) {k : Nat} (hk : k ≤ 32) : N &&& cutN 4294967295 k = cutN N k := by
  have e : cutN 4294967295 k = (2 ^ k - 1) <<< (32 - k) := by
    rw [mask_eq hk, Nat.shiftLeft_eq, Nat.sub_mul, ← Nat.pow_add, show k + (32 - k) = 32 by omega]; simp
  rw [e]
  unfold cutN
  rw [← Nat.shiftRight_eq_div_pow, ← Nat.shiftLeft_eq]
  apply Nat.eq_of_testBit_eq
  intro i
  rw [Nat.testBit_and, Nat.testBit_shiftLeft, Nat.testBit_shiftLeft, Nat.testBit_two_pow_sub_one, Nat.testBit_shiftRight]
  by_cases h : 32 - k ≤ i
  · rw [show 32 - k + (i - (32 - k)) = i by omega]
    by_cases hi : i < 32
    · simp [h, show i - (32 - k) < k by omega]
    · have : N.testBit i = false := Nat.testBit_lt_two_pow (Nat.lt_of_lt_of_le hN (by
        have : 2 ^ 32 ≤ 2 ^ i := Nat.pow_le_pow_right (by decide) (by omega)
        simpa using this))
      simp [this]
  · simp [h]

/-! ### Bytes -/
def b0 (N : Nat) : Nat := N / 16777216 % 256
def b1 (N : Nat) : Nat := N / 65536 % 256
def b2 (N : Nat) : Nat := N / 256 % 256
def b3 (N : Nat) : Nat := N % 256
theorem b0_lt (N : Nat) : b0 N < 256 := Nat.mod_lt _ (by decide)
theorem b1_lt (N : Nat) : b1 N < 256 := Nat.mod_lt _ (by decide)
theorem b2_lt (N : Nat) : b2 N < 256 := Nat.mod_lt _ (by decide)
theorem b3_lt (N : Nat) : b3 N < 256 := Nat.mod_lt _ (by decide)
theorem bytes_num {N : Nat} (h : N < 4294967296) : b0 N * 16777216 + b1 N * 65536 + b2 N * 256 + b3 N = N := by
  unfold b0 b1 b2 b3; omega
theorem num_bytes {a b c d : Nat} (ha : a < 256) (hb : b < 256) (hc : c < 256) (hd : d < 256) :
    b0 (a * 16777216 + b * 65536 + c * 256 + d) = a ∧ b1 (a * 16777216 + b * 65536 + c * 256 + d) = b ∧ b2 (a * 16777216 + b * 65536 + c * 256 + d) = c ∧ b3 (a * 16777216 + b * 65536 + c * 256 + d) = d := by
  unfold b0 b1 b2 b3; omega
theorem bytes_inj {N M : Nat} (hN : N < 4294967296) (hM : M < 4294967296) (h0 : b0 N = b0 M) (h1 : b1 N = b1 M) (h2 : b2 N = b2 M) (h3 : b3 N = b3 M) : N = M := by
  rw [← bytes_num hN, ← bytes_num hM, h0, h1, h2, h3]
theorem and_b0 (N M : Nat) : b0 (N &&& M) = b0 N &&& b0 M := by
  unfold b0; rw [show 16777216 = 2 ^ 24 from rfl, show 256 = 2 ^ 8 from rfl, Nat.and_div_two_pow, Nat.and_mod_two_pow]
theorem and_b1 (N M : Nat) : b1 (N &&& M) = b1 N &&& b1 M := by
  unfold b1; rw [show 65536 = 2 ^ 16 from rfl, show 256 = 2 ^ 8 from rfl, Nat.and_div_two_pow, Nat.and_mod_two_pow]
theorem and_b2 (N M : Nat) : b2 (N &&& M) = b2 N &&& b2 M := by
  unfold b2; rw [show 256 = 2 ^ 8 from rfl, Nat.and_div_two_pow, Nat.and_mod_two_pow]
theorem and_b3 (N M : Nat) : b3 (N &&& M) = b3 N &&& b3 M := by
  unfold b3; rw [show 256 = 2 ^ 8 from rfl, Nat.and_mod_two_pow]

/-! ### How networks lie -/
theorem apart_or {A N M : Nat} {b c : Int} (h1 : inN A N b = true) (h2 : inN A M c = true) : withinN N b M c = true ∨ withinN M c N b = true := by
  obtain ⟨i, hi, rfl, rfl⟩ := in_iff.1 h1
  obtain ⟨j, hj, rfl, rfl⟩ := in_iff.1 h2
  by_cases h : j ≤ i
  · exact Or.inl (within_iff.2 ⟨i, j, hi, rfl, rfl, h, cut_self _ _ hi, cut_cut A h hi⟩)
  · exact Or.inr (within_iff.2 ⟨j, i, hj, rfl, rfl, by omega, cut_self _ _ hj, cut_cut A (by omega) hj⟩)
theorem in_wider {A N M : Nat} {b c : Int} (h1 : withinN N b M c = true) (h2 : inN A N b = true) : inN A M c = true := by
  obtain ⟨i, j, hi, rfl, rfl, hij, h3, rfl⟩ := within_iff.1 h1
  obtain ⟨k, hk, e, rfl⟩ := in_iff.1 h2
  obtain rfl : i = k := by omega
  exact in_iff.2 ⟨j, by omega, rfl, (cut_cut A hij hi).symm⟩
theorem within_anti {N M : Nat} {b c : Int} (h1 : withinN N b M c = true) (h2 : withinN M c N b = true) : N = M ∧ b = c := by
  obtain ⟨i, j, hi, rfl, rfl, hij, h3, rfl⟩ := within_iff.1 h1
  obtain ⟨k, l, hk, e1, e2, hkl, h5, h6⟩ := within_iff.1 h2
  obtain rfl : i = j := by omega
  exact ⟨h3.symm, rfl⟩
theorem within_self {N : Nat} {b : Int} (h : rightN N b = true) : withinN N b N b = true := by
  obtain ⟨k, hk, rfl, e⟩ := right_iff.1 h
  exact within_iff.2 ⟨k, k, hk, rfl, rfl, Nat.le_refl _, e, e⟩
theorem in_self {N : Nat} {b : Int} (h : rightN N b = true) : inN N N b = true := by
  obtain ⟨k, hk, rfl, e⟩ := right_iff.1 h
  exact in_iff.2 ⟨k, hk, rfl, e⟩
theorem within_whole {N : Nat} {b : Int} (hN : N < 4294967296) (h : rightN N b = true) : withinN N b 0 0 = true := by
  obtain ⟨k, hk, rfl, e⟩ := right_iff.1 h
  exact within_iff.2 ⟨k, 0, hk, rfl, rfl, Nat.zero_le _, e, cutN_zero hN⟩
/-- With one of its counted bits turned an address is in the network no more. -/
theorem turned_cut (N : Nat) {k : Nat} : cutN (N ^^^ 2 ^ (32 - k)) k ≠ cutN N k := by
  intro h
  unfold cutN at h
  have h2 := Nat.eq_of_mul_eq_mul_right (Nat.two_pow_pos _) h
  rw [Nat.xor_div_two_pow, Nat.div_self (Nat.two_pow_pos _)] at h2
  have h3 := congrArg (fun x => Nat.testBit x 0) h2
  simp at h3
  omega
theorem turned_lt {N : Nat} (hN : N < 4294967296) {k : Nat} (h1 : 1 ≤ k) (hk : k ≤ 32) : N ^^^ 2 ^ (32 - k) < 4294967296 := by
  have := Nat.xor_lt_two_pow (n := 32) (x := N) (y := 2 ^ (32 - k)) (by simpa using hN) (Nat.pow_lt_pow_right (by decide) (by omega))
  simpa using this
/-- A network lies in another, if its first and its last address do. -/
def lastN (N : Nat) (k : Nat) : Nat := N + (4294967295 - cutN 4294967295 k)
theorem lastN_lt {N k : Nat} (hN : N < 4294967296) (hk : k ≤ 32) (h : cutN N k = N) : lastN N k < 4294967296 := by
  unfold lastN
  rw [mask_eq hk]
  have hp : 2 ^ (32 - k) ≤ 2 ^ 32 := Nat.pow_le_pow_right (by decide) (by omega)
  have hp0 := Nat.two_pow_pos (32 - k)
  have h2 : N + 2 ^ (32 - k) ≤ 2 ^ 32 := by
    have e : N = N / 2 ^ (32 - k) * 2 ^ (32 - k) := h.symm
    have e2 : 2 ^ 32 = 2 ^ k * 2 ^ (32 - k) := by rw [← Nat.pow_add]; congr 1; omega
    have h3 : N / 2 ^ (32 - k) < 2 ^ k := by
      rw [Nat.div_lt_iff_lt_mul hp0, ← e2]; simpa using hN
    have h4 := Nat.mul_le_mul_right (2 ^ (32 - k)) (Nat.succ_le_of_lt h3)
    rw [Nat.succ_mul, ← e, ← e2] at h4
    exact h4
  simp only [Nat.reducePow] at hp h2
  omega
theorem ends_iff {N M i j : Nat} (hi : i ≤ 32) (hj : j ≤ 32) (hn : cutN N i = N) : (cutN N j = M ∧ cutN (lastN N i) j = M) ↔ (cutN N j = M ∧ j ≤ i) := by
  have hp0 := Nat.two_pow_pos (32 - i)
  have el : lastN N i = N + (2 ^ (32 - i) - 1) := by
    unfold lastN
    rw [mask_eq hi]
    have hp : 2 ^ (32 - i) ≤ 2 ^ 32 := Nat.pow_le_pow_right (by decide) (by omega)
    simp only [Nat.reducePow] at hp
    omega
  have hc : cutN (lastN N i) i = N := by
    rw [el]
    have e : N = N / 2 ^ (32 - i) * 2 ^ (32 - i) := hn.symm
    unfold cutN
    rw [e, Nat.add_comm (_ * _), Nat.add_mul_div_right _ _ hp0, Nat.div_eq_of_lt (Nat.sub_lt hp0 (by decide)), Nat.zero_add]
  constructor
  · rintro ⟨h1, h2⟩
    refine ⟨h1, Nat.le_of_not_lt fun hlt => ?_⟩
    have hm : cutN N j = N := by rw [← hn]; exact cut_more N (by omega) hj
    have h3 : cutN (lastN N i) j = N := by rw [h2, ← h1, hm]
    have hq := Nat.two_pow_pos (32 - j)
    have h4 := Nat.div_add_mod (lastN N i) (2 ^ (32 - j))
    have h5 := Nat.mod_lt (lastN N i) hq
    unfold cutN at h3
    rw [Nat.mul_comm, h3, el] at h4
    have h6 : 2 * 2 ^ (32 - j) ≤ 2 ^ (32 - i) := by
      rw [← Nat.pow_succ']; exact Nat.pow_le_pow_right (by decide) (by omega)
    rw [el] at h5
    omega
  · rintro ⟨h1, h2⟩
    refine ⟨h1, ?_⟩
    rw [← cut_cut (lastN N i) h2 hi, hc, h1]

/-! ### Digits -/
/-- Up to three digits. -/
def dec3 (n : Nat) : List UInt8 :=
  if n < 10 then [UInt8.ofNat (48 + n)] else if n < 100 then [UInt8.ofNat (48 + n / 10), UInt8.ofNat (48 + n % 10)] else [UInt8.ofNat (48 + n / 100), UInt8.ofNat (48 + n / 10 % 10), UInt8.ofNat (48 + n % 10)]
theorem itoa_dec3 {n : Nat} (h : n < 1000) : Lib.itoa (n : Int) = dec3 n := by
  unfold Lib.itoa dec3
  rw [if_neg (by omega), Int.toNat_natCast]
  by_cases h1 : n < 10
  · rw [if_pos h1, Lib.decDigits, dif_pos h1]
  · rw [if_neg h1, Lib.decDigits, dif_neg h1]
    by_cases h2 : n < 100
    · rw [if_pos h2, Lib.decDigits, dif_pos (by omega)]; rfl
    · rw [if_neg h2, Lib.decDigits, dif_neg (by omega), Lib.decDigits, dif_pos (by omega), Nat.div_div_eq_div_mul]; rfl
theorem dec3_digits : ∀ n < 256, ∀ c ∈ dec3 n, 48 ≤ c.toNat ∧ c.toNat ≤ 57 := by decide +kernel
theorem dec3_pos (n : Nat) : 1 ≤ (dec3 n).length ∧ (dec3 n).length ≤ 3 := by
  unfold dec3; split
  · simp
  · split <;> simp
theorem dec3_atoi : ∀ n < 256, Lib.atoiAll (dec3 n) = .ok (n : Int) := by decide +kernel
/-- The texts. -/
def txt (N : Nat) : List UInt8 := dec3 (b0 N) ++ 46 :: (dec3 (b1 N) ++ 46 :: (dec3 (b2 N) ++ 46 :: dec3 (b3 N)))
def netTxt (N k : Nat) : List UInt8 := txt N ++ 47 :: dec3 k
theorem txt_len (N : Nat) : 7 ≤ (txt N).length ∧ (txt N).length ≤ 15 := by
  have h0 := dec3_pos (b0 N); have h1 := dec3_pos (b1 N); have h2 := dec3_pos (b2 N); have h3 := dec3_pos (b3 N)
  unfold txt
  simp only [List.length_append, List.length_cons]
  omega
theorem txt_join (N : Nat) : Lib.join [dec3 (b0 N), dec3 (b1 N), dec3 (b2 N), dec3 (b3 N)] [46] = txt N := by
  simp [Lib.join_cons, Lib.joinTail, txt]

/-! ### The numbers in a text -/
def isDig (c : UInt8) : Bool := decide (48 ≤ c.toNat) && decide (c.toNat ≤ 57)
def more (n : Nat) (c : UInt8) : Nat := if n < 1000 then 10 * n + (c.toNat - 48) else n
def nums (pre : List Nat) (n : Nat) : List UInt8 → List Nat
  | [] => pre ++ [n]
  | c :: r => if isDig c then nums pre (more n c) r else nums (pre ++ [n]) 0 r
theorem nums_digits (pre : List Nat) (r : List UInt8) : ∀ (ds : List UInt8) (n : Nat), (∀ c ∈ ds, 48 ≤ c.toNat ∧ c.toNat ≤ 57) → nums pre n (ds ++ r) = nums pre (ds.foldl more n) r
  | [], _, _ => rfl
  | d :: ds, n, h => by
    have hd := h d (by simp)
    rw [List.cons_append, nums, if_pos (by simp [isDig, hd.1, hd.2]), nums_digits pre r ds _ (fun c hc => h c (by simp [hc]))]
    rfl
theorem dec3_fold : ∀ n < 256, (dec3 n).foldl more 0 = n := by decide +kernel
theorem nums_dec3 (pre : List Nat) (r : List UInt8) {m : Nat} (h : m < 256) : nums pre 0 (dec3 m ++ r) = nums pre m r := by
  rw [nums_digits pre r _ 0 (dec3_digits m h), dec3_fold m h]
theorem nums_sep (pre : List Nat) (n : Nat) (r : List UInt8) {c : UInt8} (h : isDig c = false) : nums pre n (c :: r) = nums (pre ++ [n]) 0 r := by
  rw [nums, if_neg (by simp [h])]
theorem nums_end (pre : List Nat) {m : Nat} (h : m < 256) : nums pre 0 (dec3 m) = pre ++ [m] := by
  have := nums_dec3 pre [] h
  rw [List.append_nil] at this
  rw [this]; rfl
theorem nums_txt (N : Nat) : nums [] 0 (txt N) = [b0 N, b1 N, b2 N, b3 N] := by
  unfold txt
  rw [nums_dec3 _ _ (b0_lt N), nums_sep _ _ _ (by decide), nums_dec3 _ _ (b1_lt N), nums_sep _ _ _ (by decide), nums_dec3 _ _ (b2_lt N), nums_sep _ _ _ (by decide), nums_end _ (b3_lt N)]
  rfl
theorem nums_net (N : Nat) {k : Nat} (hk : k < 256) : nums [] 0 (netTxt N k) = [b0 N, b1 N, b2 N, b3 N, k] := by
  unfold netTxt txt
  simp only [List.append_assoc, List.cons_append]
  rw [nums_dec3 _ _ (b0_lt N), nums_sep _ _ _ (by decide), nums_dec3 _ _ (b1_lt N), nums_sep _ _ _ (by decide), nums_dec3 _ _ (b2_lt N), nums_sep _ _ _ (by decide), nums_dec3 _ _ (b3_lt N), nums_sep _ _ _ (by decide), nums_end _ hk]
  rfl
theorem nums_le (l : List UInt8) : ∀ (pre : List Nat) (n : Nat), (∀ x ∈ pre, x < 10009) → n < 10009 → ∀ x ∈ nums pre n l, x < 10009 := by
  induction l with
  | nil => intro pre n hp hn x hx; simp only [nums, List.mem_append, List.mem_singleton] at hx; exact hx.elim (hp x) (fun e => e ▸ hn)
  | cons c r ih =>
    intro pre n hp hn x hx
    rw [nums] at hx
    split at hx
    · rename_i hd
      refine ih pre _ hp ?_ x hx
      simp [isDig] at hd
      unfold more; split <;> omega
    · refine ih _ 0 ?_ (by omega) x hx
      intro y hy
      simp only [List.mem_append, List.mem_singleton] at hy
      exact hy.elim (hp y) (fun e => e ▸ hn)
theorem txt_inj {N M : Nat} (hN : N < 4294967296) (hM : M < 4294967296) (h : txt N = txt M) : N = M := by
  have := congrArg (nums [] 0) h
  rw [nums_txt, nums_txt] at this
  simp only [List.cons.injEq, and_true] at this
  exact bytes_inj hN hM this.1 this.2.1 this.2.2.1 this.2.2.2
theorem net_inj {N M k l : Nat} (hN : N < 4294967296) (hM : M < 4294967296) (hk : k < 256) (hl : l < 256) (h : netTxt N k = netTxt M l) : N = M ∧ k = l := by
  have := congrArg (nums [] 0) h
  rw [nums_net _ hk, nums_net _ hl] at this
  simp only [List.cons.injEq, and_true] at this
  exact ⟨bytes_inj hN hM this.1 this.2.1 this.2.2.1 this.2.2.2.1, this.2.2.2.2⟩

/-! ### Cutting a text -/
theorem index_one (c : UInt8) : ∀ (a r : List UInt8), c ∉ a → Lib.index (a ++ c :: r) [c] = a.length
  | [], r, _ => by simp [Lib.index, List.isPrefixOf]
  | x :: a, r, h => by
    simp only [List.mem_cons, not_or] at h
    have ih := index_one c a r h.2
    rw [List.cons_append, Lib.index]
    have hp : [c].isPrefixOf (x :: (a ++ c :: r)) = false := by simp [List.isPrefixOf, h.1]
    rw [hp, ih]
    simp
theorem index_not (c : UInt8) : ∀ (a : List UInt8), c ∉ a → Lib.index a [c] = -1
  | [], _ => by simp [Lib.index]
  | x :: a, h => by
    simp only [List.mem_cons, not_or] at h
    have ih := index_not c a h.2
    rw [Lib.index]
    have hp : [c].isPrefixOf (x :: a) = false := by simp [List.isPrefixOf, h.1]
    rw [hp, ih]
    simp
theorem index_split (c : UInt8) : ∀ (s : List UInt8), c ∈ s → ∃ a r, s = a ++ c :: r ∧ c ∉ a
  | [], h => by simp at h
  | x :: s, h => by
    by_cases hx : c = x
    · exact ⟨[], s, by simp [hx], by simp⟩
    · obtain ⟨a, r, e, ha⟩ := index_split c s (by simpa [hx] using h)
      exact ⟨x :: a, r, by simp [e], by simp [hx, ha]⟩
theorem split_hit (c : UInt8) (k : Nat) (a r : List UInt8) (h : c ∉ a) : Lib.splitK [c] 0 (k + 1) (a ++ c :: r) = a :: Lib.splitK [c] 0 k r := by
  rw [Lib.splitK, index_one c a r h]
  have hm : ¬ (((a.length : Nat) : Int) == -1) = true := by rw [beq_iff_eq]; omega
  rw [if_neg hm]
  simp
theorem split_miss (c : UInt8) (k : Nat) (a : List UInt8) (h : c ∉ a) : Lib.splitK [c] 0 k a = [a] := by
  cases k with
  | zero => rfl
  | succ k => rw [Lib.splitK, index_not c a h]; simp
/-- The pieces, joined again. -/
theorem join_split (c : UInt8) : ∀ (k : Nat) (s : List UInt8), Lib.join (Lib.splitK [c] 0 k s) [c] = s
  | 0, s => Lib.join_one s _
  | k + 1, s => by
    by_cases h : c ∈ s
    · obtain ⟨a, r, rfl, ha⟩ := index_split c s h
      rw [split_hit c k a r ha, Lib.join_cons]
      have ih := join_split c k r
      cases hs : Lib.splitK [c] 0 k r with
      | nil =>
        exfalso
        cases k with
        | zero => simp [Lib.splitK] at hs
        | succ k =>
          rw [Lib.splitK] at hs
          split at hs <;> simp at hs
      | cons x t =>
        rw [hs, Lib.join_cons] at ih
        rw [← ih]
        simp [Lib.joinTail]
    · rw [split_miss c _ s h, Lib.join_one]
theorem no_sep {m : Nat} (h : m < 256) {c : UInt8} (hc : isDig c = false) : c ∉ dec3 m := by
  intro hm
  have := dec3_digits m h c hm
  simp [isDig, this.1, this.2] at hc
theorem split_txt (N : Nat) : Lib.splitK [46] 0 4 (txt N) = [dec3 (b0 N), dec3 (b1 N), dec3 (b2 N), dec3 (b3 N)] := by
  unfold txt
  rw [split_hit _ _ _ _ (no_sep (b0_lt N) (by decide)), split_hit _ _ _ _ (no_sep (b1_lt N) (by decide)), split_hit _ _ _ _ (no_sep (b2_lt N) (by decide)), split_miss _ _ _ (no_sep (b3_lt N) (by decide))]
theorem cut_net (N k : Nat) : Lib.cut (netTxt N k) [47] = (txt N, dec3 k, true) := by
  have hn : (47 : UInt8) ∉ txt N := by
    unfold txt
    simp only [List.mem_append, List.mem_cons, not_or]
    exact ⟨no_sep (b0_lt N) (by decide), by decide, no_sep (b1_lt N) (by decide), by decide, no_sep (b2_lt N) (by decide), by decide, no_sep (b3_lt N) (by decide)⟩
  unfold Lib.cut netTxt
  rw [index_one _ _ _ hn]
  simp
theorem cut_some {s : List UInt8} (h : (Lib.cut s [47]).2.2 = true) : s = (Lib.cut s [47]).1 ++ 47 :: (Lib.cut s [47]).2.1 := by
  by_cases hm : (47 : UInt8) ∈ s
  · obtain ⟨a, r, rfl, ha⟩ := index_split 47 s hm
    unfold Lib.cut
    rw [index_one _ _ _ ha]
    simp
  · unfold Lib.cut at h
    rw [index_not _ _ hm] at h
    simp at h
end Go.Proofs.YtpekkmnomfeglabDoor.Addr
