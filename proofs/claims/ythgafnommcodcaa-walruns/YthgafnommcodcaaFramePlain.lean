/-
  Records, their bytes, and sectors as lists: what the programs do, in plain words. Nothing of a program is named here.
-/
import GoSem.Claim
import Derived.Laws.BitsAllLaws
/-
  The ranges of the kinds of integers that the programs handle; nothing of a program is named here.
-/
namespace Go.Proofs.Ythgafnommcodcaa
def Word (x : Int) : Prop := 0 ≤ x ∧ x ≤ 18446744073709551615
def Half (x : Int) : Prop := 0 ≤ x ∧ x < 4294967296
def Inty (n : Int) : Prop := -9223372036854775808 ≤ n ∧ n ≤ 9223372036854775807
def Byte (c : Int) : Prop := 0 ≤ c ∧ c < 256
theorem word_of_wf {x : Int} (h : (Lit.int .u64 x).wf = true) : Word x := by
  simp [Lit.wf, IntKind.min, IntKind.max, IntKind.signed, IntKind.bits] at h
  exact ⟨by omega, by omega⟩
theorem half_of_wf {x : Int} (h : (Lit.int .u32 x).wf = true) : Half x := by
  simp [Lit.wf, IntKind.min, IntKind.max, IntKind.signed, IntKind.bits] at h
  exact ⟨by omega, by omega⟩
theorem inty_of_wf {x : Int} (h : (Lit.int .i64 x).wf = true) : Inty x := by
  simp [Lit.wf, IntKind.min, IntKind.max, IntKind.signed, IntKind.bits] at h
  exact ⟨by omega, by omega⟩
theorem byte_of_wf {x : Int} (h : (Lit.int .u8 x).wf = true) : Byte x := by
  simp [Lit.wf, IntKind.min, IntKind.max, IntKind.signed, IntKind.bits] at h
  exact ⟨by omega, by omega⟩
end Go.Proofs.Ythgafnommcodcaa
/-
  Plain facts on the division of polynomials bit by bit: definitions and facts on words of 32 bits and lists of bytes; nothing of the program is named here.
-/
namespace Go.Proofs.Ythgafnommcodcaa.Crc

/-- What is divided by, without its highest term. -/
def poly : BitVec 32 := 79764919#32
/-- One bit more. -/
def step (s : BitVec 32) (b : Bool) : BitVec 32 := (s <<< 1) ^^^ (if s.msb ^^ b then poly else 0#32)
theorem step_xor (s t : BitVec 32) (a b : Bool) : step (s ^^^ t) (a ^^ b) = step s a ^^^ step t b := by
  unfold step
  rw [BitVec.shiftLeft_xor_distrib, BitVec.msb_xor]
  cases s.msb <;> cases t.msb <;> cases a <;> cases b <;> simp [BitVec.xor_assoc]
  all_goals first
    | (rw [BitVec.xor_comm poly]; done)
    | (rw [← BitVec.xor_assoc poly, BitVec.xor_comm poly, BitVec.xor_assoc, BitVec.xor_self, BitVec.xor_zero]; done)
    | skip
theorem step_zero : step 0#32 false = 0#32 := by decide
theorem step_nil {s : BitVec 32} (h : step s false = 0#32) : s = 0#32 := by
  unfold step at h
  by_cases hm : s.msb = true
  · have h0 := congrArg (fun x : BitVec 32 => x.getLsbD 0) h
    simp [hm, poly] at h0
  · simp only [Bool.not_eq_true] at hm
    rw [hm] at h
    simp at h
    apply BitVec.eq_of_getLsbD_eq
    intro i hi
    by_cases h31 : i = 31
    · subst h31
      rw [BitVec.msb_eq_getLsbD_last] at hm
      simpa using hm
    · have := congrArg (fun x : BitVec 32 => x.getLsbD (i + 1)) h
      simp only [BitVec.getLsbD_shiftLeft] at this
      simpa [show i + 1 < 32 by omega, -BitVec.getLsbD_eq_getElem] using this

/-- The bits of f, the first n of them, one behind the other. -/
def run (f : Nat → Bool) (s : BitVec 32) : Nat → BitVec 32
  | 0 => s
  | n + 1 => step (run f s n) (f n)
theorem run_xor (f g : Nat → Bool) (s t : BitVec 32) : ∀ n, run (fun i => f i ^^ g i) (s ^^^ t) n = run f s n ^^^ run g t n
  | 0 => rfl
  | n + 1 => by simp only [run]; rw [run_xor f g s t n, step_xor]
theorem run_congr {f g : Nat → Bool} (s : BitVec 32) : ∀ n, (∀ i, i < n → f i = g i) → run f s n = run g s n
  | 0, _ => rfl
  | n + 1, h => by simp only [run]; rw [run_congr s n (fun i hi => h i (by omega)), h n (by omega)]
theorem run_add (f : Nat → Bool) (s : BitVec 32) (m : Nat) : ∀ n, run f s (m + n) = run (fun i => f (m + i)) (run f s m) n
  | 0 => rfl
  | n + 1 => by rw [← Nat.add_assoc]; simp only [run]; rw [run_add f s m n]
/-- Nothing but zeros. -/
def zeros (s : BitVec 32) (n : Nat) : BitVec 32 := run (fun _ => false) s n
theorem zeros_nil : ∀ (n : Nat) (s : BitVec 32), zeros s n = 0#32 → s = 0#32
  | 0, _, h => h
  | n + 1, s, h => zeros_nil n s (step_nil h)
theorem zeros_zero : ∀ n : Nat, zeros 0#32 n = 0#32
  | 0 => rfl
  | n + 1 => by
    have := zeros_zero n
    unfold zeros at this ⊢
    simp only [run]
    rw [this, step_zero]
theorem step_own (v : BitVec 32) : step v v.msb = v <<< 1 := by simp [step]
theorem msb_shl (v : BitVec 32) (k : Nat) : (v <<< k).msb = v.getMsbD k := by
  rw [BitVec.msb_eq_getMsbD_zero, BitVec.getMsbD_shiftLeft]
  simp
/-- Bits that are laid over the word at once. -/
theorem feed (f : Nat → Bool) (s v : BitVec 32) : ∀ k, (∀ i, i < k → f i = v.getMsbD i) → zeros (s ^^^ v) k = run f s k ^^^ (v <<< k)
  | 0, _ => by simp [zeros, run]
  | k + 1, h => by
    have ih := feed f s v k (fun i hi => h i (by omega))
    unfold zeros at ih ⊢
    simp only [run]
    rw [ih]
    have e : step (run f s k ^^^ v <<< k) (f k ^^ f k) = step (run f s k) (f k) ^^^ step (v <<< k) (f k) := step_xor _ _ _ _
    rw [Bool.xor_self] at e
    rw [e, h k (by omega), ← msb_shl, step_own, BitVec.shiftLeft_add]

/-- Bit n of bytes, from the highest on. -/
def bit (zs : List Int) (n : Nat) : Bool := (zs.getD (n / 8) 0).toNat.testBit (7 - n % 8)
/-- One byte more. -/
def up (c : Int) : BitVec 32 := BitVec.ofNat 32 (c.toNat * 16777216)
def take (s : BitVec 32) (c : Int) : BitVec 32 := zeros (s ^^^ up c) 8
/-- The state behind bytes. -/
def crcs (s : BitVec 32) (zs : List Int) : BitVec 32 := zs.foldl take s
theorem up_bit {c : Int} (hc : Byte c) (i : Nat) (hi : i < 8) : (up c).getMsbD i = c.toNat.testBit (7 - i) := by
  obtain ⟨n, rfl⟩ := Int.eq_ofNat_of_zero_le hc.1
  have hn : n < 256 := by have := hc.2; omega
  unfold up
  rw [BitVec.getMsbD, BitVec.getLsbD_ofNat, show ((n : Int).toNat * 16777216) = n * 2 ^ 24 by simp, Nat.testBit_mul_two_pow]
  simp [show i < 32 by omega, show 24 ≤ 31 - i by omega, show 31 - i < 32 by omega, show 31 - i - 24 = 7 - i by omega]
theorem up_gone {c : Int} (hc : Byte c) : (up c) <<< 8 = 0#32 := by
  obtain ⟨n, rfl⟩ := Int.eq_ofNat_of_zero_le hc.1
  unfold up
  apply BitVec.eq_of_toNat_eq
  simp [Nat.shiftLeft_eq]
  omega
theorem take_run {c : Int} (hc : Byte c) (s : BitVec 32) (f : Nat → Bool) (hf : ∀ i, i < 8 → f i = c.toNat.testBit (7 - i)) : take s c = run f s 8 := by
  unfold take
  rw [feed f s (up c) 8 (fun i hi => by rw [hf i hi, up_bit hc i hi]), up_gone hc, BitVec.xor_zero]
theorem bit_cons (c : Int) (zs : List Int) (i : Nat) : bit (c :: zs) (8 + i) = bit zs i := by
  unfold bit
  rw [show (8 + i) / 8 = i / 8 + 1 by omega, show (8 + i) % 8 = i % 8 by omega]
  rfl
theorem crcs_run : ∀ (zs : List Int) (s : BitVec 32), (∀ c ∈ zs, Byte c) → crcs s zs = run (bit zs) s (8 * zs.length)
  | [], s, _ => rfl
  | c :: zs, s, h => by
    have ih := crcs_run zs (take s c) (fun d hd => h d (by simp [hd]))
    rw [List.length_cons, show 8 * (zs.length + 1) = 8 + 8 * zs.length by omega, run_add, run_congr (g := bit zs) _ _ (fun i _ => bit_cons c zs i)]
    rw [← take_run (h c (by simp)) s (bit (c :: zs)) (fun i hi => by
      unfold bit
      rw [show i / 8 = 0 by omega, show i % 8 = i by omega]
      rfl)]
    exact ih
theorem crcs_append (s : BitVec 32) (xs ys : List Int) : crcs s (xs ++ ys) = crcs (crcs s xs) ys := by simp [crcs]
theorem crcs_snoc (s : BitVec 32) (xs : List Int) (c : Int) : crcs s (xs ++ [c]) = take (crcs s xs) c := by simp [crcs]

/-- All ones. -/
def ones : BitVec 32 := 4294967295#32
theorem ones_not (s : BitVec 32) : s ^^^ ones = ~~~ s := by
  have e : ones = BitVec.allOnes 32 := by decide
  rw [e, BitVec.xor_allOnes]
/-- The sum of bytes. -/
def sum (zs : List Int) : BitVec 32 := ~~~ crcs ones zs
/-- A word in four bytes, the highest first. -/
def four (v : BitVec 32) : List Int := [((v.toNat / 16777216 : Nat) : Int), ((v.toNat / 65536 % 256 : Nat) : Int), ((v.toNat / 256 % 256 : Nat) : Int), ((v.toNat % 256 : Nat) : Int)]
theorem four_bytes (v : BitVec 32) : ∀ c ∈ four v, Byte c := by
  have := v.isLt
  intro c hc
  simp only [four, List.mem_cons, List.not_mem_nil, or_false] at hc
  rcases hc with rfl | rfl | rfl | rfl <;> exact ⟨by omega, by omega⟩
theorem four_bit (v : BitVec 32) (i : Nat) (hi : i < 32) : bit (four v) i = v.getMsbD i := by
  have e : v.getMsbD i = v.toNat.testBit (31 - i) := by simp [BitVec.getMsbD, hi, BitVec.getLsbD]
  rw [e]
  unfold bit four
  have key : ∀ a : Nat, (((v.toNat / 2 ^ a % 256 : Nat) : Int).toNat).testBit (7 - i % 8) = v.toNat.testBit (a + (7 - i % 8)) := by
    intro a
    rw [Int.toNat_natCast, show (256 : Nat) = 2 ^ 8 by rfl, Nat.testBit_mod_two_pow, Nat.testBit_div_two_pow, Nat.add_comm]
    simp [show 7 - i % 8 < 8 by omega]
  have hlt := v.isLt
  have c : i / 8 = 0 ∨ i / 8 = 1 ∨ i / 8 = 2 ∨ i / 8 = 3 := by omega
  rcases c with c | c | c | c <;> rw [c]
  · have k := key 24
    rw [Nat.mod_eq_of_lt (by omega)] at k
    rw [show 31 - i = 24 + (7 - i % 8) by omega]
    exact k
  · rw [show 31 - i = 16 + (7 - i % 8) by omega]
    exact key 16
  · rw [show 31 - i = 8 + (7 - i % 8) by omega]
    exact key 8
  · rw [show 31 - i = 0 + (7 - i % 8) by omega]
    have k := key 0
    simpa using k
theorem shl_all (v : BitVec 32) : v <<< 32 = 0#32 := BitVec.shiftLeft_eq_zero (by decide)
theorem crcs_four (s v : BitVec 32) : crcs s (four v) = zeros (s ^^^ v) 32 := by
  rw [crcs_run _ _ (four_bytes v), show 8 * (four v).length = 32 by rfl, feed (bit (four v)) s v 32 (fun i hi => four_bit v i hi), shl_all, BitVec.xor_zero]

/-- Bytes and their sum. -/
def sealed (zs : List Int) : List Int := zs ++ four (sum zs)
/-- The state behind every seal. -/
theorem crcs_sealed (zs : List Int) : crcs ones (sealed zs) = zeros ones 32 := by
  unfold sealed
  rw [crcs_append, crcs_four]
  congr 1
  unfold sum
  rw [← ones_not, ← BitVec.xor_assoc, BitVec.xor_self, BitVec.zero_xor]
/-- The bits of a mask, from the place at on. -/
def turned (mask : BitVec 32) (at_ : Nat) (i : Nat) : Bool := decide (at_ ≤ i) && mask.getMsbD (i - at_)
/-- No burst is overlooked. -/
theorem finds {xs ys : List Int} (hx : ∀ c ∈ xs, Byte c) (hy : ∀ c ∈ ys, Byte c) (hl : ys.length = xs.length) (mask : BitVec 32) (at_ : Nat)
    (hb : ∀ i, i < 8 * xs.length → bit ys i = (bit xs i ^^ turned mask at_ i)) (ha : at_ ≤ 8 * xs.length) (ht : ∀ i, 8 * xs.length ≤ i → turned mask at_ i = false)
    (he : crcs ones xs = crcs ones ys) : mask = 0#32 := by
  rw [crcs_run _ _ hx, crcs_run _ _ hy, hl] at he
  have h1 : run (turned mask at_) 0#32 (8 * xs.length) = 0#32 := by
    have e := run_xor (bit xs) (bit ys) ones ones (8 * xs.length)
    rw [← he, BitVec.xor_self, BitVec.xor_self] at e
    exact Eq.trans (run_congr _ _ (fun i hi => by rw [hb i hi]; cases bit xs i <;> simp)) e
  have h2 : run (turned mask at_) 0#32 (8 * xs.length + 32) = 0#32 := by
    rw [run_add, h1, run_congr (g := fun _ => false) _ _ (fun i _ => ht _ (by omega))]
    exact zeros_zero 32
  obtain ⟨m, hm⟩ : ∃ m, 8 * xs.length + 32 = at_ + (32 + m) := ⟨8 * xs.length - at_, by omega⟩
  rw [hm, run_add, run_congr (f := turned mask at_) (g := fun _ => false) _ at_ (fun i hi => by simp [turned]; omega)] at h2
  have h3 := zeros_zero at_
  unfold zeros at h3
  rw [h3, run_add, run_congr (f := fun i => turned mask at_ (at_ + (32 + i))) (g := fun _ => false) _ m (fun i _ => by simp [turned, BitVec.getMsbD]; omega)] at h2
  have h4 := zeros_nil m _ h2
  have h5 := feed (fun i => turned mask at_ (at_ + i)) 0#32 mask 32 (fun i _ => by simp [turned])
  rw [h4, shl_all, BitVec.xor_zero, BitVec.zero_xor] at h5
  exact zeros_nil 32 _ h5

/-- One bit turned. -/
def turn (zs : List Int) (n : Nat) : List Int := zs.set (n / 8) (((zs.getD (n / 8) 0).toNat ^^^ 2 ^ (7 - n % 8) : Nat) : Int)
theorem turn_length (zs : List Int) (n : Nat) : (turn zs n).length = zs.length := by simp [turn]
theorem getD_byte {zs : List Int} (h : ∀ c ∈ zs, Byte c) (i : Nat) : Byte (zs.getD i 0) := by
  rw [List.getD_eq_getElem?_getD]
  by_cases hi : i < zs.length
  · simp only [hi, List.getElem?_eq_getElem, Option.getD_some]
    exact h _ (List.getElem_mem _)
  · simp only [Nat.not_lt.1 hi, List.getElem?_eq_none, Option.getD_none]
    exact ⟨by omega, by omega⟩
theorem xor_byte {c : Int} (hc : Byte c) (j : Nat) (hj : j < 8) : Byte ((c.toNat ^^^ 2 ^ j : Nat) : Int) := by
  have h1 : c.toNat < 2 ^ 8 := by have := hc.2; omega
  have h2 : 2 ^ j < 2 ^ 8 := Nat.pow_lt_pow_right (by decide) hj
  have := Nat.xor_lt_two_pow h1 h2
  exact ⟨by omega, by omega⟩
theorem turn_bytes {zs : List Int} (h : ∀ c ∈ zs, Byte c) (n : Nat) : ∀ c ∈ turn zs n, Byte c := by
  intro c hc
  unfold turn at hc
  rcases List.mem_or_eq_of_mem_set hc with hc | rfl
  · exact h c hc
  · exact xor_byte (getD_byte h _) _ (by omega)
theorem turn_bit {zs : List Int} {n : Nat} (hn : n < 8 * zs.length) (i : Nat) : bit (turn zs n) i = (bit zs i ^^ decide (i = n)) := by
  unfold bit turn
  by_cases h : i / 8 = n / 8
  · rw [h]
    have hl : n / 8 < zs.length := by omega
    have e : (zs.set (n / 8) (((zs.getD (n / 8) 0).toNat ^^^ 2 ^ (7 - n % 8) : Nat) : Int)).getD (n / 8) 0 = (((zs.getD (n / 8) 0).toNat ^^^ 2 ^ (7 - n % 8) : Nat) : Int) := by
      simp [hl]
    rw [e, Int.toNat_natCast, Nat.testBit_xor, Nat.testBit_two_pow]
    congr 1
    apply decide_eq_decide.2
    omega
  · have e : (zs.set (n / 8) (((zs.getD (n / 8) 0).toNat ^^^ 2 ^ (7 - n % 8) : Nat) : Int)).getD (i / 8) 0 = zs.getD (i / 8) 0 := by
      simp only [List.getD_eq_getElem?_getD]
      rw [List.getElem?_set_ne (by omega)]
    rw [e, decide_eq_false (by omega : ¬ i = n), Bool.xor_false]
/-- The first k bits of a mask, laid over bytes from bit at_ on. -/
def burst (mask : BitVec 32) (at_ : Nat) (zs : List Int) : Nat → List Int
  | 0 => zs
  | k + 1 => if mask.getMsbD k then turn (burst mask at_ zs k) (at_ + k) else burst mask at_ zs k
theorem burst_length (mask : BitVec 32) (at_ : Nat) (zs : List Int) : ∀ k, (burst mask at_ zs k).length = zs.length
  | 0 => rfl
  | k + 1 => by
    simp only [burst]
    split
    · rw [turn_length, burst_length mask at_ zs k]
    · exact burst_length mask at_ zs k
theorem burst_bytes (mask : BitVec 32) (at_ : Nat) {zs : List Int} (h : ∀ c ∈ zs, Byte c) : ∀ k, ∀ c ∈ burst mask at_ zs k, Byte c
  | 0 => h
  | k + 1 => by
    simp only [burst]
    split
    · exact turn_bytes (burst_bytes mask at_ h k) _
    · exact burst_bytes mask at_ h k
/-- All that the mask turns is there. -/
def Fits (mask : BitVec 32) (at_ n : Nat) : Prop := ∀ k, mask.getMsbD k = true → at_ + k < 8 * n
theorem burst_bit {mask : BitVec 32} {at_ : Nat} {zs : List Int} (hf : Fits mask at_ zs.length) (i : Nat) : ∀ k, bit (burst mask at_ zs k) i = (bit zs i ^^ (turned mask at_ i && decide (i < at_ + k)))
  | 0 => by
    simp only [burst, turned]
    by_cases h : at_ ≤ i
    · simp [show ¬ i < at_ by omega]
    · simp [h]
  | k + 1 => by
    simp only [burst]
    have ih := burst_bit hf i k
    by_cases hk : mask.getMsbD k = true
    · rw [if_pos hk, turn_bit (by rw [burst_length]; exact hf k hk), ih]
      unfold turned
      by_cases he : i = at_ + k
      · subst he
        simp [hk]
      · rw [decide_eq_false he, show decide (i < at_ + (k + 1)) = decide (i < at_ + k) from decide_eq_decide.2 (by omega), Bool.xor_false]
    · rw [if_neg hk, ih]
      unfold turned
      by_cases he : i = at_ + k
      · subst he
        simp [hk]
      · rw [show decide (i < at_ + (k + 1)) = decide (i < at_ + k) from decide_eq_decide.2 (by omega)]
theorem burst_all {mask : BitVec 32} {at_ : Nat} {zs : List Int} (hf : Fits mask at_ zs.length) (i : Nat) : bit (burst mask at_ zs 32) i = (bit zs i ^^ turned mask at_ i) := by
  rw [burst_bit hf i 32]
  congr 1
  unfold turned
  by_cases h : i < at_ + 32
  · simp [h]
  · simp [BitVec.getMsbD, show ¬ i - at_ < 32 by omega]
/-- Bytes are their bits. -/
theorem ext_bits {xs ys : List Int} (hx : ∀ c ∈ xs, Byte c) (hy : ∀ c ∈ ys, Byte c) (hl : xs.length = ys.length) (h : ∀ i, bit xs i = bit ys i) : xs = ys := by
  apply List.ext_getElem hl
  intro j h1 h2
  have bx := hx _ (List.getElem_mem h1)
  have byy := hy _ (List.getElem_mem h2)
  have e : (xs[j]).toNat = (ys[j]).toNat := by
    apply Nat.eq_of_testBit_eq
    intro k
    by_cases hk : k < 8
    · have := h (8 * j + (7 - k))
      unfold bit at this
      rw [show (8 * j + (7 - k)) / 8 = j by omega, show 7 - (8 * j + (7 - k)) % 8 = k by omega] at this
      simpa [List.getD_eq_getElem?_getD, h1, h2] using this
    · have p : 2 ^ 8 ≤ 2 ^ k := Nat.pow_le_pow_right (by decide) (by omega)
      rw [Nat.testBit_lt_two_pow (by have := bx.2; omega), Nat.testBit_lt_two_pow (by have := byy.2; omega)]
  have := bx.1
  have := byy.1
  omega
theorem burst_twice {mask : BitVec 32} {at_ : Nat} {zs : List Int} (hz : ∀ c ∈ zs, Byte c) (hf : Fits mask at_ zs.length) : burst mask at_ (burst mask at_ zs 32) 32 = zs := by
  have hl := burst_length mask at_ zs 32
  apply ext_bits (burst_bytes mask at_ (burst_bytes mask at_ hz 32) 32) hz
  · rw [burst_length, hl]
  · intro i
    rw [burst_all (by rw [hl]; exact hf), burst_all hf, Bool.xor_assoc, Bool.xor_self, Bool.xor_false]
/-- Bytes in which bits are turned, if all of them are there. -/
def room (mask : BitVec 32) (at_ : Int) (n : Nat) : Bool := decide (0 ≤ at_) && (List.range 32).all (fun k => !mask.getMsbD k || decide (at_ + (k : Int) < 8 * (n : Int)))
theorem room_iff (mask : BitVec 32) (at_ : Int) (n : Nat) : room mask at_ n = true ↔ 0 ≤ at_ ∧ ∀ k : Nat, k < 32 → mask.getMsbD k = true → at_ + (k : Int) < 8 * (n : Int) := by
  simp only [room, Bool.and_eq_true, decide_eq_true_eq, List.all_eq_true, List.mem_range, Bool.or_eq_true, Bool.not_eq_true']
  refine and_congr_right fun _ => ⟨fun h k hk hm => ?_, fun h k hk => ?_⟩
  · rcases h k hk with h | h
    · rw [h] at hm; simp at hm
    · exact h
  · cases hm : mask.getMsbD k with
    | false => exact .inl rfl
    | true => exact .inr (h k hk hm)
def bursts (mask : BitVec 32) (at_ : Int) (zs : List Int) : List Int := if room mask at_ zs.length = true then burst mask at_.toNat zs 32 else zs
theorem bursts_length (mask : BitVec 32) (at_ : Int) (zs : List Int) : (bursts mask at_ zs).length = zs.length := by
  unfold bursts
  split
  · exact burst_length _ _ _ _
  · rfl
theorem bursts_bytes (mask : BitVec 32) (at_ : Int) {zs : List Int} (h : ∀ c ∈ zs, Byte c) : ∀ c ∈ bursts mask at_ zs, Byte c := by
  unfold bursts
  split
  · exact burst_bytes _ _ h _
  · exact h
theorem fits_of {mask : BitVec 32} {at_ : Int} {n : Nat} (hr : room mask at_ n = true) : Fits mask at_.toNat n := by
  have h := (room_iff mask at_ n).1 hr
  intro k hk
  by_cases h32 : k < 32
  · have := h.2 k h32 hk
    have := h.1
    omega
  · simp [BitVec.getMsbD, h32] at hk
theorem bursts_twice (mask : BitVec 32) (at_ : Int) {zs : List Int} (hz : ∀ c ∈ zs, Byte c) : bursts mask at_ (bursts mask at_ zs) = zs := by
  have hl := bursts_length mask at_ zs
  by_cases h : room mask at_ zs.length = true
  · have e : bursts mask at_ zs = burst mask at_.toNat zs 32 := if_pos h
    have h' := h
    rw [← hl] at h'
    rw [show bursts mask at_ (bursts mask at_ zs) = burst mask at_.toNat (bursts mask at_ zs) 32 from if_pos h', e]
    exact burst_twice hz (fits_of h)
  · have e : bursts mask at_ zs = zs := if_neg h
    rw [e, e]
/-- A seal in which bits were turned is a seal only if it is as it was. -/
theorem seal_found (mask : BitVec 32) (at_ : Int) {zs xs : List Int} (hz : ∀ c ∈ zs, Byte c) (h : bursts mask at_ (sealed zs) = sealed xs) : bursts mask at_ (sealed zs) = sealed zs := by
  have hb : ∀ c ∈ sealed zs, Byte c := by
    intro c hc
    rcases List.mem_append.1 hc with hc | hc
    · exact hz c hc
    · exact four_bytes _ c hc
  by_cases hf : room mask at_ (sealed zs).length = true
  · have e : bursts mask at_ (sealed zs) = burst mask at_.toNat (sealed zs) 32 := if_pos hf
    have hF := fits_of hf
    by_cases hm : mask = 0#32
    · subst hm
      rw [e]
      apply ext_bits (burst_bytes _ _ hb _) hb (burst_length _ _ _ _)
      intro i
      rw [burst_all hF]
      simp [turned]
    · exfalso
      apply hm
      have c1 := crcs_sealed zs
      have c2 := crcs_sealed xs
      rw [← h] at c2
      have hat : at_.toNat ≤ 8 * (sealed zs).length := by
        apply Nat.le_of_not_lt
        intro hc
        apply hm
        apply BitVec.eq_of_getMsbD_eq
        intro i hi
        have := hF i
        cases hv : mask.getMsbD i with
        | false => simp
        | true => have := hF i hv; omega
      refine finds hb (bursts_bytes mask at_ hb) (bursts_length _ _ _) mask at_.toNat (fun i _ => ?_) hat (fun i hi => ?_) (c1.trans c2.symm)
      · rw [e]; exact burst_all hF i
      · unfold turned
        by_cases hai : at_.toNat ≤ i
        · cases hv : mask.getMsbD (i - at_.toNat) with
          | false => simp
          | true => have := hF _ hv; omega
        · simp [hai]
  · exact if_neg hf
/-- Three texts at once. -/
theorem crcs_three {xs as bs cs : List Int} (hx : ∀ c ∈ xs, Byte c) (ha : ∀ c ∈ as, Byte c) (hb : ∀ c ∈ bs, Byte c) (hc : ∀ c ∈ cs, Byte c) (la : as.length = xs.length) (lb : bs.length = xs.length) (lc : cs.length = xs.length)
    (h : ∀ i, i < 8 * xs.length → bit xs i = ((bit as i ^^ bit bs i) ^^ bit cs i)) : sum xs = (sum as ^^^ sum bs) ^^^ sum cs := by
  unfold sum
  rw [← ones_not, ← ones_not, ← ones_not, ← ones_not, crcs_run _ _ hx, crcs_run _ _ ha, crcs_run _ _ hb, crcs_run _ _ hc, la, lb, lc, run_congr _ _ h]
  have e1 := run_xor (bit as) (bit bs) ones ones (8 * xs.length)
  have e2 := run_xor (fun i => bit as i ^^ bit bs i) (bit cs) (ones ^^^ ones) ones (8 * xs.length)
  rw [e1, BitVec.xor_self, BitVec.zero_xor] at e2
  rw [e2]
  generalize run (bit as) ones (8 * xs.length) = A
  generalize run (bit bs) ones (8 * xs.length) = B
  generalize run (bit cs) ones (8 * xs.length) = C
  apply BitVec.eq_of_getLsbD_eq
  intro i _
  simp only [BitVec.getLsbD_xor]
  cases A.getLsbD i <;> cases B.getLsbD i <;> cases C.getLsbD i <;> cases ones.getLsbD i <;> rfl
end Go.Proofs.Ythgafnommcodcaa.Crc
namespace Go.Proofs.Ythgafnommcodcaa.Frame
open Go.Proofs.Ythgafnommcodcaa.Crc

/-- A number's last bytes, the highest first; and the number of bytes. -/
def be : Nat → Nat → List Int
  | 0, _ => []
  | k + 1, n => be k (n / 256) ++ [((n % 256 : Nat) : Int)]
def num (l : List Int) : Nat := l.foldl (fun a c => a * 256 + c.toNat) 0
theorem be_len : ∀ k n, (be k n).length = k
  | 0, _ => rfl
  | k + 1, n => by simp [be, be_len k]
theorem be_front : ∀ k n, be (k + 1) n = ((n / 256 ^ k % 256 : Nat) : Int) :: be k n
  | 0, n => by simp [be]
  | k + 1, n => by
    rw [be, be_front k (n / 256), be, Nat.div_div_eq_div_mul, Nat.pow_succ, Nat.mul_comm (256 ^ k) 256]
    simp
theorem be_bytes : ∀ k n, ∀ c ∈ be k n, Byte c
  | 0, _ => by simp [be]
  | k + 1, n => by
    intro c hc
    rcases List.mem_append.1 hc with hc | hc
    · exact be_bytes k _ c hc
    · simp at hc; subst hc; constructor <;> omega
theorem num_snoc (l : List Int) (c : Int) : num (l ++ [c]) = num l * 256 + c.toNat := by simp [num]
theorem num_be : ∀ k n, n < 256 ^ k → num (be k n) = n
  | 0, n, h => by simp at h; subst h; rfl
  | k + 1, n, h => by
    rw [be, num_snoc, num_be k (n / 256) (Nat.div_lt_of_lt_mul (by rw [Nat.mul_comm, ← Nat.pow_succ]; exact h))]
    have : ((n % 256 : Nat) : Int).toNat = n % 256 := by omega
    rw [this]
    omega
theorem num_fold : ∀ (l : List Int) (a : Nat), l.foldl (fun a c => a * 256 + c.toNat) a = a * 256 ^ l.length + num l
  | [], a => by simp [num]
  | c :: r, a => by
    have e : num (c :: r) = c.toNat * 256 ^ r.length + num r := by
      show List.foldl _ 0 (c :: r) = _
      rw [List.foldl_cons, num_fold r (0 * 256 + c.toNat)]
      simp
    rw [List.foldl_cons, num_fold r, e, List.length_cons, Nat.pow_succ, Nat.add_mul, Nat.mul_comm (256 ^ r.length) 256, Nat.mul_assoc]
    omega
theorem num_cons (c : Int) (l : List Int) : num (c :: l) = c.toNat * 256 ^ l.length + num l := by
  rw [num, List.foldl_cons, num_fold]; simp
theorem num_lt : ∀ l : List Int, (∀ c ∈ l, Byte c) → num l < 256 ^ l.length
  | [], _ => by simp [num]
  | c :: r, h => by
    have h1 := num_lt r fun x hx => h x (by simp [hx])
    have h2 := h c (by simp)
    have h3 : c.toNat + 1 ≤ 256 := by have := h2.1; have := h2.2; omega
    rw [num_cons, List.length_cons, Nat.pow_succ, Nat.mul_comm (256 ^ r.length) 256]
    have h4 : (c.toNat + 1) * 256 ^ r.length ≤ 256 * 256 ^ r.length := Nat.mul_le_mul_right _ h3
    rw [Nat.add_mul] at h4
    omega

/-- A sector: sixty-four bytes. -/
abbrev Sec := {l : List Int // l.length = 64}
def zero : Sec := ⟨List.replicate 64 0, by simp⟩
def flat (l : List Sec) : List Int := l.flatMap (·.1)
/-- Bytes in so many sectors, what is left filled up with zeros. -/
def pad (l : List Int) : Sec := ⟨(l ++ List.replicate 64 0).take 64, by simp⟩
def secs : Nat → List Int → List Sec
  | 0, _ => []
  | n + 1, b => pad b :: secs n (b.drop 64)
theorem secs_len : ∀ n b, (secs n b).length = n
  | 0, _ => rfl
  | n + 1, b => by simp [secs, secs_len n]
theorem flat_len : ∀ l : List Sec, (flat l).length = 64 * l.length
  | [] => rfl
  | s :: r => by
    have h := flat_len r
    have h2 := s.2
    simp only [flat, List.flatMap_cons, List.length_append, List.length_cons] at h ⊢
    omega
theorem flat_app (l k : List Sec) : flat (l ++ k) = flat l ++ flat k := by simp [flat]
theorem flat_secs : ∀ (n : Nat) (b : List Int), b.length ≤ 64 * n → flat (secs n b) = b ++ List.replicate (64 * n - b.length) 0
  | 0, b, h => by
    have : b = [] := List.eq_nil_of_length_eq_zero (by omega)
    subst this; rfl
  | n + 1, b, h => by
    have e : flat (secs (n + 1) b) = (pad b).1 ++ flat (secs n (b.drop 64)) := by simp [flat, secs]
    rw [e, flat_secs n (b.drop 64) (by simp; omega)]
    show (b ++ List.replicate 64 0).take 64 ++ _ = _
    rcases Nat.le_total 64 b.length with hb | hb
    · rw [List.take_append_of_le_length hb, ← List.append_assoc, List.take_append_drop, List.length_drop]
      congr 2
      omega
    · rw [List.drop_of_length_le hb, List.take_append, List.take_of_length_le hb, List.take_replicate, List.append_assoc, List.nil_append, List.replicate_append_replicate]
      simp only [List.length_nil]
      congr 2
      omega
/-- How many sectors so many bytes of payload need. -/
def size (m : Nat) : Nat := if m ≤ 700 then (m + 81) / 64 else 0
/-- The bytes of a record. -/
def plain (s e : Nat) (p : List Int) : List Int := be 2 p.length ++ (be 8 s ++ (be 4 e ++ p))
def all (s e : Nat) (p : List Int) : List Int := sealed (plain s e p)
def right (s : Nat) (p : List Int) : Bool := decide (p.length ≤ 700) && decide (0 < s)
def made (s e : Nat) (p : List Int) : List Sec := if right s p then secs (size p.length) (all s e p) else []
def fault (s : Nat) (p : List Int) : Int := if right s p then 0 else 81
theorem plain_len (s e : Nat) (p : List Int) : (plain s e p).length = p.length + 14 := by simp [plain, be_len]; omega
theorem all_len (s e : Nat) (p : List Int) : (all s e p).length = p.length + 18 := by
  unfold all sealed four
  rw [List.length_append, plain_len]; rfl
theorem plain_bytes {s e : Nat} {p : List Int} (h : ∀ c ∈ p, Byte c) : ∀ c ∈ plain s e p, Byte c := by
  intro c hc
  simp only [plain, List.mem_append] at hc
  rcases hc with hc | hc | hc | hc
  · exact be_bytes _ _ c hc
  · exact be_bytes _ _ c hc
  · exact be_bytes _ _ c hc
  · exact h c hc
theorem made_len {s e : Nat} {p : List Int} (h : right s p = true) : (made s e p).length = size p.length := by simp [made, h, secs_len]
theorem size_fits {m : Nat} (h : m ≤ 700) : m + 18 ≤ 64 * size m ∧ 64 * size m < m + 18 + 64 ∧ 0 < size m ∧ size m ≤ 12 := by
  unfold size; rw [if_pos h]; omega
theorem flat_made {s e : Nat} {p : List Int} (h : right s p = true) : flat (made s e p) = all s e p ++ List.replicate (64 * size p.length - (p.length + 18)) 0 := by
  have h7 : p.length ≤ 700 := by simp [right] at h; exact h.1
  rw [made, if_pos h, flat_secs _ _ (by rw [all_len]; exact (size_fits h7).1), all_len]
/-- A record, how many sectors it has, and whether there is one. -/
structure Got where
  ok : Bool
  n : Nat
  s : Nat
  e : Nat
  p : List Int
def nought : Got := ⟨false, 0, 0, 0, []⟩
/-- What the fields say. -/
def long (b : List Int) : Nat := num (b.take 2)
def seqOf (b : List Int) : Nat := num ((b.drop 2).take 8)
def epochOf (b : List Int) : Nat := num ((b.drop 10).take 4)
def payOf (b : List Int) : List Int := (b.drop 14).take (long b)
def roomy (l : List Sec) : Bool := decide (0 < l.length) && (decide (0 < size (long (flat l))) && decide (size (long (flat l)) ≤ l.length))
def opens (l : List Sec) : Bool := roomy l && (right (seqOf (flat l)) (payOf (flat l)) && decide (made (seqOf (flat l)) (epochOf (flat l)) (payOf (flat l)) = l.take (size (long (flat l)))))
def got (l : List Sec) : Got := if opens l then ⟨true, size (long (flat l)), seqOf (flat l), epochOf (flat l), payOf (flat l)⟩ else nought
theorem long_of (s e : Nat) (p X : List Int) (h : p.length ≤ 700) : long (plain s e p ++ X) = p.length := by
  have : (plain s e p ++ X).take 2 = be 2 p.length := by
    rw [plain, List.append_assoc]
    exact List.take_left' (be_len _ _)
  rw [long, this, num_be _ _ (by omega)]
theorem seq_of (s e : Nat) (p X : List Int) (h : s < 256 ^ 8) : seqOf (plain s e p ++ X) = s := by
  have : ((plain s e p ++ X).drop 2).take 8 = be 8 s := by
    rw [plain, List.append_assoc, List.drop_left' (be_len _ _), List.append_assoc]
    exact List.take_left' (be_len _ _)
  rw [seqOf, this, num_be _ _ h]
theorem epoch_of (s e : Nat) (p X : List Int) (h : e < 256 ^ 4) : epochOf (plain s e p ++ X) = e := by
  have : ((plain s e p ++ X).drop 10).take 4 = be 4 e := by
    rw [plain, List.append_assoc, List.append_assoc, ← List.append_assoc, List.drop_left' (by simp [be_len]), List.append_assoc]
    exact List.take_left' (be_len _ _)
  rw [epochOf, this, num_be _ _ h]
theorem pay_of (s e : Nat) (p X : List Int) (h : p.length ≤ 700) : payOf (plain s e p ++ X) = p := by
  have : (plain s e p ++ X).drop 14 = p ++ X := by
    have e1 : plain s e p ++ X = (be 2 p.length ++ (be 8 s ++ be 4 e)) ++ (p ++ X) := by simp [plain]
    rw [e1]
    exact List.drop_left' (by simp [be_len])
  rw [payOf, this, long_of s e p X h]
  exact List.take_left' rfl
/-- What is made is opened, whatever is behind. -/
theorem got_made {s e : Nat} {p : List Int} (hr : right s p = true) (hs : s < 256 ^ 8) (he : e < 256 ^ 4) (more : List Sec) : got (made s e p ++ more) = ⟨true, (made s e p).length, s, e, p⟩ := by
  have h7 : p.length ≤ 700 := by simp [right] at hr; exact hr.1
  obtain ⟨X, hX⟩ : ∃ X, flat (made s e p ++ more) = plain s e p ++ X := by
    refine ⟨four (sum (plain s e p)) ++ (List.replicate (64 * size p.length - (p.length + 18)) 0 ++ flat more), ?_⟩
    rw [flat_app, flat_made hr, all, sealed]
    simp
  have hf := size_fits h7
  have h1 : long (flat (made s e p ++ more)) = p.length := by rw [hX]; exact long_of s e p X h7
  have h2 : seqOf (flat (made s e p ++ more)) = s := by rw [hX]; exact seq_of s e p X hs
  have h3 : epochOf (flat (made s e p ++ more)) = e := by rw [hX]; exact epoch_of s e p X he
  have h4 : payOf (flat (made s e p ++ more)) = p := by rw [hX]; exact pay_of s e p X h7
  have hl := made_len (e := e) hr
  have ho : opens (made s e p ++ more) = true := by
    unfold opens roomy
    rw [h1, h2, h3, h4, hr, List.take_left' hl]
    simp
    omega
  rw [got, if_pos ho, h1, h2, h3, h4, hl]
theorem flat_take (l : List Sec) (k : Nat) : flat (l.take k) = (flat l).take (64 * k) := by
  rcases Nat.le_total l.length k with h | h
  · rw [List.take_of_length_le h, List.take_of_length_le (by rw [flat_len]; omega)]
  · have e : flat l = flat (l.take k) ++ flat (l.drop k) := by rw [← flat_app, List.take_append_drop]
    rw [e, List.take_left' (by rw [flat_len, List.length_take]; omega)]
/-- With fewer it isn't opened. -/
theorem opens_less {s e : Nat} {p : List Int} (hr : right s p = true) {k : Nat} (hk : k < (made s e p).length) : opens ((made s e p).take k) = false := by
  have h7 : p.length ≤ 700 := by simp [right] at hr; exact hr.1
  rcases Nat.eq_zero_or_pos k with h0 | h0
  · subst h0; simp [opens, roomy]
  · have e1 : long (flat ((made s e p).take k)) = p.length := by
      have : (flat ((made s e p).take k)).take 2 = (flat (made s e p)).take 2 := by rw [flat_take, List.take_take]; congr 1; omega
      have h1 : long (flat (made s e p)) = p.length := by
        rw [flat_made hr, all, sealed, List.append_assoc]; exact long_of s e p _ h7
      rw [long, this]; exact h1
    rw [made_len hr] at hk
    unfold opens roomy
    rw [e1]
    have : decide (size p.length ≤ ((made s e p).take k).length) = false := decide_eq_false (by rw [List.length_take]; omega)
    rw [this]
    simp
theorem got_less {s e : Nat} {p : List Int} (hr : right s p = true) {k : Nat} (hk : k < (made s e p).length) : (got ((made s e p).take k)).ok = false := by
  rw [got, if_neg (by rw [opens_less hr hk]; simp)]; rfl
theorem zeros_num : ∀ n, num (List.replicate n 0) = 0
  | 0 => rfl
  | n + 1 => by rw [List.replicate_succ, num_cons, zeros_num n]; simp
theorem flat_zero (n : Nat) : flat (List.replicate n zero) = List.replicate (64 * n) 0 := by
  induction n with
  | zero => rfl
  | succ n ih =>
    have : flat (List.replicate (n + 1) zero) = zero.1 ++ flat (List.replicate n zero) := by simp [flat, List.replicate_succ]
    rw [this, ih]
    show List.replicate 64 0 ++ _ = _
    rw [List.replicate_append_replicate]
    congr 1
    omega
theorem got_zero (n : Nat) : got (List.replicate n zero) = nought := by
  have h : seqOf (flat (List.replicate n zero)) = 0 := by
    rw [flat_zero, seqOf, List.drop_replicate, List.take_replicate, zeros_num]
  rw [got, if_neg]
  unfold opens right
  rw [h]
  simp
end Go.Proofs.Ythgafnommcodcaa.Frame
