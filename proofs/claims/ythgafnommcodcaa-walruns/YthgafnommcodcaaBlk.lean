/-
  A block of memory that is known whole: its cells, and what becomes of them behind calls and stores. Nothing of a program is named here.
-/
import GoSem.Claim
import Derived.Laws.BitsAllLaws
import Derived.Test.YthgafnommcodcaaProg
import Derived.WalkKit
import Derived.Lib.Bytes
import Derived.Laws.BytesArg
import Derived.Laws.BitsLemmas
import Derived.WalkSpells
import Derived.WalkLawsBesides
import Derived.Below
import Derived.OwnWalk
import Derived.Deep.Draws
import Derived.Laws.AppendOwnNone
import Derived.Laws.CopyOwn
/-
  The ranges of the kinds of integers that the programs handle; nothing of a program is named here.
-/
namespace Go.Proofs.Ythgafnommcodcaa
def Word (x : Int) : Prop := 0 ≤ x ∧ x ≤ 18446744073709551615
def Half (x : Int) : Prop := 0 ≤ x ∧ x < 4294967296
def Inty (n : Int) : Prop := -9223372036854775808 ≤ n ∧ n ≤ 9223372036854775807
def Byte (c : Int) : Prop := 0 ≤ c ∧ c < 256
theorem word_of_wf {x : Int} (h : (Lit.int .u64 x).wf = true) : Word x := by
  simp [Lit.wf, IntKind.min, IntKind.max, IntKind.signed, IntKind.bits] at h
  exact ⟨by omega, by omega⟩
theorem half_of_wf {x : Int} (h : (Lit.int .u32 x).wf = true) : Half x := by
  simp [Lit.wf, IntKind.min, IntKind.max, IntKind.signed, IntKind.bits] at h
  exact ⟨by omega, by omega⟩
theorem inty_of_wf {x : Int} (h : (Lit.int .i64 x).wf = true) : Inty x := by
  simp [Lit.wf, IntKind.min, IntKind.max, IntKind.signed, IntKind.bits] at h
  exact ⟨by omega, by omega⟩
theorem byte_of_wf {x : Int} (h : (Lit.int .u8 x).wf = true) : Byte x := by
  simp [Lit.wf, IntKind.min, IntKind.max, IntKind.signed, IntKind.bits] at h
  exact ⟨by omega, by omega⟩
end Go.Proofs.Ythgafnommcodcaa
/-
  Plain facts on the division of polynomials bit by bit: definitions and facts on words of 32 bits and lists of bytes; nothing of the program is named here.
-/
namespace Go.Proofs.Ythgafnommcodcaa.Crc

/-- What is divided by, without its highest term. -/
def poly : BitVec 32 := 79764919#32
/-- One bit more. -/
def step (s : BitVec 32) (b : Bool) : BitVec 32 := (s <<< 1) ^^^ (if s.msb ^^ b then poly else 0#32)
theorem step_xor (s t : BitVec 32) (a b : Bool) : step (s ^^^ t) (a ^^ b) = step s a ^^^ step t b := by
  unfold step
  rw [BitVec.shiftLeft_xor_distrib, BitVec.msb_xor]
  cases s.msb <;> cases t.msb <;> cases a <;> cases b <;> simp [BitVec.xor_assoc]
  all_goals first
    | (rw [BitVec.xor_comm poly]; done)
    | (rw [← BitVec.xor_assoc poly, BitVec.xor_comm poly, BitVec.xor_assoc, BitVec.xor_self, BitVec.xor_zero]; done)
    | skip
theorem step_zero : step 0#32 false = 0#32 := by decide
theorem step_nil {s : BitVec 32} (h : step s false = 0#32) : s = 0#32 := by
  unfold step at h
  by_cases hm : s.msb = true
  · have h0 := congrArg (fun x : BitVec 32 => x.getLsbD 0) h
    simp [hm, poly] at h0
  · simp only [Bool.not_eq_true] at hm
    rw [hm] at h
    simp at h
    apply BitVec.eq_of_getLsbD_eq
    intro i hi
    by_cases h31 : i = 31
    · subst h31
      rw [BitVec.msb_eq_getLsbD_last] at hm
      simpa using hm
    · have := congrArg (fun x : BitVec 32 => x.getLsbD (i + 1)) h
      simp only [BitVec.getLsbD_shiftLeft] at this
      simpa [show i + 1 < 32 by omega, -BitVec.getLsbD_eq_getElem] using this

/-- The bits of f, the first n of them, one behind the other. -/
def run (f : Nat → Bool) (s : BitVec 32) : Nat → BitVec 32
  | 0 => s
  | n + 1 => step (run f s n) (f n)
theorem run_xor (f g : Nat → Bool) (s t : BitVec 32) : ∀ n, run (fun i => f i ^^ g i) (s ^^^ t) n = run f s n ^^^ run g t n
  | 0 => rfl
  | n + 1 => by simp only [run]; rw [run_xor f g s t n, step_xor]
theorem run_congr {f g : Nat → Bool} (s : BitVec 32) : ∀ n, (∀ i, i < n → f i = g i) → run f s n = run g s n
  | 0, _ => rfl
  | n + 1, h => by simp only [run]; rw [run_congr s n (fun i hi => h i (by omega)), h n (by omega)]
theorem run_add (f : Nat → Bool) (s : BitVec 32) (m : Nat) : ∀ n, run f s (m + n) = run (fun i => f (m + i)) (run f s m) n
  | 0 => rfl
  | n + 1 => by rw [← Nat.add_assoc]; simp only [run]; rw [run_add f s m n]
/-- Nothing but zeros. -/
def zeros (s : BitVec 32) (n : Nat) : BitVec 32 := run (fun _ => false) s n
theorem zeros_nil : ∀ (n : Nat) (s : BitVec 32), zeros s n = 0#32 → s = 0#32
  | 0, _, h => h
  | n + 1, s, h => zeros_nil n s (step_nil h)
theorem zeros_zero : ∀ n : Nat, zeros 0#32 n = 0#32
  | 0 => rfl
  | n + 1 => by
    have := zeros_zero n
    unfold zeros at this ⊢
    simp only [run]
    rw [this, step_zero]
theorem step_own (v : BitVec 32) : step v v.msb = v <<< 1 := by simp [step]
theorem msb_shl (v : BitVec 32) (k : Nat) : (v <<< k).msb = v.getMsbD k := by
  rw [BitVec.msb_eq_getMsbD_zero, BitVec.getMsbD_shiftLeft]
  simp
/-- Bits that are laid over the word at once. -/
theorem feed (f : Nat → Bool) (s v : BitVec 32) : ∀ k, (∀ i, i < k → f i = v.getMsbD i) → zeros (s ^^^ v) k = run f s k ^^^ (v <<< k)
  | 0, _ => by simp [zeros, run]
  | k + 1, h => by
    have ih := feed f s v k (fun i hi => h i (by omega))
    unfold zeros at ih ⊢
    simp only [run]
    rw [ih]
    have e : step (run f s k ^^^ v <<< k) (f k ^^ f k) = step (run f s k) (f k) ^^^ step (v <<< k) (f k) := step_xor _ _ _ _
    rw [Bool.xor_self] at e
    rw [e, h k (by omega), ← msb_shl, step_own, BitVec.shiftLeft_add]

/-- Bit n of bytes, from the highest on. -/
def bit (zs : List Int) (n : Nat) : Bool := (zs.getD (n / 8) 0).toNat.testBit (7 - n % 8)
/-- One byte more. -/
def up (c : Int) : BitVec 32 := BitVec.ofNat 32 (c.toNat * 16777216)
def take (s : BitVec 32) (c : Int) : BitVec 32 := zeros (s ^^^ up c) 8
/-- The state behind bytes. -/
def crcs (s : BitVec 32) (zs : List Int) : BitVec 32 := zs.foldl take s
theorem up_bit {c : Int} (hc : Byte c) (i : Nat) (hi : i < 8) : (up c).getMsbD i = c.toNat.testBit (7 - i) := by
  obtain ⟨n, rfl⟩ := Int.eq_ofNat_of_zero_le hc.1
  have hn : n < 256 := by have := hc.2; omega
  unfold up
  rw [BitVec.getMsbD, BitVec.getLsbD_ofNat, show ((n : Int).toNat * 16777216) = n * 2 ^ 24 by simp, Nat.testBit_mul_two_pow]
  simp [show i < 32 by omega, show 24 ≤ 31 - i by omega, show 31 - i < 32 by omega, show 31 - i - 24 = 7 - i by omega]
theorem up_gone {c : Int} (hc : Byte c) : (up c) <<< 8 = 0#32 := by
  obtain ⟨n, rfl⟩ := Int.eq_ofNat_of_zero_le hc.1
  unfold up
  apply BitVec.eq_of_toNat_eq
  simp [Nat.shiftLeft_eq]
  omega
theorem take_run {c : Int} (hc : Byte c) (s : BitVec 32) (f : Nat → Bool) (hf : ∀ i, i < 8 → f i = c.toNat.testBit (7 - i)) : take s c = run f s 8 := by
  unfold take
  rw [feed f s (up c) 8 (fun i hi => by rw [hf i hi, up_bit hc i hi]), up_gone hc, BitVec.xor_zero]
theorem bit_cons (c : Int) (zs : List Int) (i : Nat) : bit (c :: zs) (8 + i) = bit zs i := by
  unfold bit
  rw [show (8 + i) / 8 = i / 8 + 1 by omega, show (8 + i) % 8 = i % 8 by omega]
  rfl
theorem crcs_run : ∀ (zs : List Int) (s : BitVec 32), (∀ c ∈ zs, Byte c) → crcs s zs = run (bit zs) s (8 * zs.length)
  | [], s, _ => rfl
  | c :: zs, s, h => by
    have ih := crcs_run zs (take s c) (fun d hd => h d (by simp [hd]))
    rw [List.length_cons, show 8 * (zs.length + 1) = 8 + 8 * zs.length by omega, run_add, run_congr (g := bit zs) _ _ (fun i _ => bit_cons c zs i)]
    rw [← take_run (h c (by simp)) s (bit (c :: zs)) (fun i hi => by
      unfold bit
      rw [show i / 8 = 0 by omega, show i % 8 = i by omega]
      rfl)]
    exact ih
theorem crcs_append (s : BitVec 32) (xs ys : List Int) : crcs s (xs ++ ys) = crcs (crcs s xs) ys := by simp [crcs]
theorem crcs_snoc (s : BitVec 32) (xs : List Int) (c : Int) : crcs s (xs ++ [c]) = take (crcs s xs) c := by simp [crcs]

/-- All ones. -/
def ones : BitVec 32 := 4294967295#32
theorem ones_not (s : BitVec 32) : s ^^^ ones = ~~~ s := by
  have e : ones = BitVec.allOnes 32 := by decide
  rw [e, BitVec.xor_allOnes]
/-- The sum of bytes. -/
def sum (zs : List Int) : BitVec 32 := ~~~ crcs ones zs
/-- A word in four bytes, the highest first. -/
def four (v : BitVec 32) : List Int := [((v.toNat / 16777216 : Nat) : Int), ((v.toNat / 65536 % 256 : Nat) : Int), ((v.toNat / 256 % 256 : Nat) : Int), ((v.toNat % 256 : Nat) : Int)]
theorem four_bytes (v : BitVec 32) : ∀ c ∈ four v, Byte c := by
  have := v.isLt
  intro c hc
  simp only [four, List.mem_cons, List.not_mem_nil, or_false] at hc
  rcases hc with rfl | rfl | rfl | rfl <;> exact ⟨by omega, by omega⟩
theorem four_bit (v : BitVec 32) (i : Nat) (hi : i < 32) : bit (four v) i = v.getMsbD i := by
  have e : v.getMsbD i = v.toNat.testBit (31 - i) := by simp [BitVec.getMsbD, hi, BitVec.getLsbD]
  rw [e]
  unfold bit four
  have key : ∀ a : Nat, (((v.toNat / 2 ^ a % 256 : Nat) : Int).toNat).testBit (7 - i % 8) = v.toNat.testBit (a + (7 - i % 8)) := by
    intro a
    rw [Int.toNat_natCast, show (256 : Nat) = 2 ^ 8 by rfl, Nat.testBit_mod_two_pow, Nat.testBit_div_two_pow, Nat.add_comm]
    simp [show 7 - i % 8 < 8 by omega]
  have hlt := v.isLt
  have c : i / 8 = 0 ∨ i / 8 = 1 ∨ i / 8 = 2 ∨ i / 8 = 3 := by omega
  rcases c with c | c | c | c <;> rw [c]
  · have k := key 24
    rw [Nat.mod_eq_of_lt (by omega)] at k
    rw [show 31 - i = 24 + (7 - i % 8) by omega]
    exact k
  · rw [show 31 - i = 16 + (7 - i % 8) by omega]
    exact key 16
  · rw [show 31 - i = 8 + (7 - i % 8) by omega]
    exact key 8
  · rw [show 31 - i = 0 + (7 - i % 8) by omega]
    have k := key 0
    simpa using k
theorem shl_all (v : BitVec 32) : v <<< 32 = 0#32 := BitVec.shiftLeft_eq_zero (by decide)
theorem crcs_four (s v : BitVec 32) : crcs s (four v) = zeros (s ^^^ v) 32 := by
  rw [crcs_run _ _ (four_bytes v), show 8 * (four v).length = 32 by rfl, feed (bit (four v)) s v 32 (fun i hi => four_bit v i hi), shl_all, BitVec.xor_zero]

/-- Bytes and their sum. -/
def sealed (zs : List Int) : List Int := zs ++ four (sum zs)
/-- The state behind every seal. -/
theorem crcs_sealed (zs : List Int) : crcs ones (sealed zs) = zeros ones 32 := by
  unfold sealed
  rw [crcs_append, crcs_four]
  congr 1
  unfold sum
  rw [← ones_not, ← BitVec.xor_assoc, BitVec.xor_self, BitVec.zero_xor]
/-- The bits of a mask, from the place at on. -/
def turned (mask : BitVec 32) (at_ : Nat) (i : Nat) : Bool := decide (at_ ≤ i) && mask.getMsbD (i - at_)
/-- No burst is overlooked. -/
theorem finds {xs ys : List Int} (hx : ∀ c ∈ xs, Byte c) (hy : ∀ c ∈ ys, Byte c) (hl : ys.length = xs.length) (mask : BitVec 32) (at_ : Nat)
    (hb : ∀ i, i < 8 * xs.length → bit ys i = (bit xs i ^^ turned mask at_ i)) (ha : at_ ≤ 8 * xs.length) (ht : ∀ i, 8 * xs.length ≤ i → turned mask at_ i = false)
    (he : crcs ones xs = crcs ones ys) : mask = 0#32 := by
  rw [crcs_run _ _ hx, crcs_run _ _ hy, hl] at he
  have h1 : run (turned mask at_) 0#32 (8 * xs.length) = 0#32 := by
    have e := run_xor (bit xs) (bit ys) ones ones (8 * xs.length)
    rw [← he, BitVec.xor_self, BitVec.xor_self] at e
    exact Eq.trans (run_congr _ _ (fun i hi => by rw [hb i hi]; cases bit xs i <;> simp)) e
  have h2 : run (turned mask at_) 0#32 (8 * xs.length + 32) = 0#32 := by
    rw [run_add, h1, run_congr (g := fun _ => false) _ _ (fun i _ => ht _ (by omega))]
    exact zeros_zero 32
  obtain ⟨m, hm⟩ : ∃ m, 8 * xs.length + 32 = at_ + (32 + m) := ⟨8 * xs.length - at_, by omega⟩
  rw [hm, run_add, run_congr (f := turned mask at_) (g := fun _ => false) _ at_ (fun i hi => by simp [turned]; omega)] at h2
  have h3 := zeros_zero at_
  unfold zeros at h3
  rw [h3, run_add, run_congr (f := fun i => turned mask at_ (at_ + (32 + i))) (g := fun _ => false) _ m (fun i _ => by simp [turned, BitVec.getMsbD]; omega)] at h2
  have h4 := zeros_nil m _ h2
  have h5 := feed (fun i => turned mask at_ (at_ + i)) 0#32 mask 32 (fun i _ => by simp [turned])
  rw [h4, shl_all, BitVec.xor_zero, BitVec.zero_xor] at h5
  exact zeros_nil 32 _ h5

/-- One bit turned. -/
def turn (zs : List Int) (n : Nat) : List Int := zs.set (n / 8) (((zs.getD (n / 8) 0).toNat ^^^ 2 ^ (7 - n % 8) : Nat) : Int)
theorem turn_length (zs : List Int) (n : Nat) : (turn zs n).length = zs.length := by simp [turn]
theorem getD_byte {zs : List Int} (h : ∀ c ∈ zs, Byte c) (i : Nat) : Byte (zs.getD i 0) := by
  rw [List.getD_eq_getElem?_getD]
  by_cases hi : i < zs.length
  · simp only [hi, List.getElem?_eq_getElem, Option.getD_some]
    exact h _ (List.getElem_mem _)
  · simp only [Nat.not_lt.1 hi, List.getElem?_eq_none, Option.getD_none]
    exact ⟨by omega, by omega⟩
theorem xor_byte {c : Int} (hc : Byte c) (j : Nat) (hj : j < 8) : Byte ((c.toNat ^^^ 2 ^ j : Nat) : Int) := by
  have h1 : c.toNat < 2 ^ 8 := by have := hc.2; omega
  have h2 : 2 ^ j < 2 ^ 8 := Nat.pow_lt_pow_right (by decide) hj
  have := Nat.xor_lt_two_pow h1 h2
  exact ⟨by omega, by omega⟩
theorem turn_bytes {zs : List Int} (h : ∀ c ∈ zs, Byte c) (n : Nat) : ∀ c ∈ turn zs n, Byte c := by
  intro c hc
  unfold turn at hc
  rcases List.mem_or_eq_of_mem_set hc with hc | rfl
  · exact h c hc
  · exact xor_byte (getD_byte h _) _ (by omega)
theorem turn_bit {zs : List Int} {n : Nat} (hn : n < 8 * zs.length) (i : Nat) : bit (turn zs n) i = (bit zs i ^^ decide (i = n)) := by
  unfold bit turn
  by_cases h : i / 8 = n / 8
  · rw [h]
    have hl : n / 8 < zs.length := by omega
    have e : (zs.set (n / 8) (((zs.getD (n / 8) 0).toNat ^^^ 2 ^ (7 - n % 8) : Nat) : Int)).getD (n / 8) 0 = (((zs.getD (n / 8) 0).toNat ^^^ 2 ^ (7 - n % 8) : Nat) : Int) := by
      simp [hl]
    rw [e, Int.toNat_natCast, Nat.testBit_xor, Nat.testBit_two_pow]
    congr 1
    apply decide_eq_decide.2
    omega
  · have e : (zs.set (n / 8) (((zs.getD (n / 8) 0).toNat ^^^ 2 ^ (7 - n % 8) : Nat) : Int)).getD (i / 8) 0 = zs.getD (i / 8) 0 := by
      simp only [List.getD_eq_getElem?_getD]
      rw [List.getElem?_set_ne (by omega)]
    rw [e, decide_eq_false (by omega : ¬ i = n), Bool.xor_false]
/-- The first k bits of a mask, laid over bytes from bit at_ on. -/
def burst (mask : BitVec 32) (at_ : Nat) (zs : List Int) : Nat → List Int
  | 0 => zs
  | k + 1 => if mask.getMsbD k then turn (burst mask at_ zs k) (at_ + k) else burst mask at_ zs k
theorem burst_length (mask : BitVec 32) (at_ : Nat) (zs : List Int) : ∀ k, (burst mask at_ zs k).length = zs.length
  | 0 => rfl
  | k + 1 => by
    simp only [burst]
    split
    · rw [turn_length, burst_length mask at_ zs k]
    · exact burst_length mask at_ zs k
theorem burst_bytes (mask : BitVec 32) (at_ : Nat) {zs : List Int} (h : ∀ c ∈ zs, Byte c) : ∀ k, ∀ c ∈ burst mask at_ zs k, Byte c
  | 0 => h
  | k + 1 => by
    simp only [burst]
    split
    · exact turn_bytes (burst_bytes mask at_ h k) _
    · exact burst_bytes mask at_ h k
/-- All that the mask turns is there. -/
def Fits (mask : BitVec 32) (at_ n : Nat) : Prop := ∀ k, mask.getMsbD k = true → at_ + k < 8 * n
theorem burst_bit {mask : BitVec 32} {at_ : Nat} {zs : List Int} (hf : Fits mask at_ zs.length) (i : Nat) : ∀ k, bit (burst mask at_ zs k) i = (bit zs i ^^ (turned mask at_ i && decide (i < at_ + k)))
  | 0 => by
    simp only [burst, turned]
    by_cases h : at_ ≤ i
    · simp [show ¬ i < at_ by omega]
    · simp [h]
  | k + 1 => by
    simp only [burst]
    have ih := burst_bit hf i k
    by_cases hk : mask.getMsbD k = true
    · rw [if_pos hk, turn_bit (by rw [burst_length]; exact hf k hk), ih]
      unfold turned
      by_cases he : i = at_ + k
      · subst he
        simp [hk]
      · rw [decide_eq_false he, show decide (i < at_ + (k + 1)) = decide (i < at_ + k) from decide_eq_decide.2 (by omega), Bool.xor_false]
    · rw [if_neg hk, ih]
      unfold turned
      by_cases he : i = at_ + k
      · subst he
        simp [hk]
      · rw [show decide (i < at_ + (k + 1)) = decide (i < at_ + k) from decide_eq_decide.2 (by omega)]
theorem burst_all {mask : BitVec 32} {at_ : Nat} {zs : List Int} (hf : Fits mask at_ zs.length) (i : Nat) : bit (burst mask at_ zs 32) i = (bit zs i ^^ turned mask at_ i) := by
  rw [burst_bit hf i 32]
  congr 1
  unfold turned
  by_cases h : i < at_ + 32
  · simp [h]
  · simp [BitVec.getMsbD, show ¬ i - at_ < 32 by omega]
/-- Bytes are their bits. -/
theorem ext_bits {xs ys : List Int} (hx : ∀ c ∈ xs, Byte c) (hy : ∀ c ∈ ys, Byte c) (hl : xs.length = ys.length) (h : ∀ i, bit xs i = bit ys i) : xs = ys := by
  apply List.ext_getElem hl
  intro j h1 h2
  have bx := hx _ (List.getElem_mem h1)
  have byy := hy _ (List.getElem_mem h2)
  have e : (xs[j]).toNat = (ys[j]).toNat := by
    apply Nat.eq_of_testBit_eq
    intro k
    by_cases hk : k < 8
    · have := h (8 * j + (7 - k))
      unfold bit at this
      rw [show (8 * j + (7 - k)) / 8 = j by omega, show 7 - (8 * j + (7 - k)) % 8 = k by omega] at this
      simpa [List.getD_eq_getElem?_getD, h1, h2] using this
    · have p : 2 ^ 8 ≤ 2 ^ k := Nat.pow_le_pow_right (by decide) (by omega)
      rw [Nat.testBit_lt_two_pow (by have := bx.2; omega), Nat.testBit_lt_two_pow (by have := byy.2; omega)]
  have := bx.1
  have := byy.1
  omega
theorem burst_twice {mask : BitVec 32} {at_ : Nat} {zs : List Int} (hz : ∀ c ∈ zs, Byte c) (hf : Fits mask at_ zs.length) : burst mask at_ (burst mask at_ zs 32) 32 = zs := by
  have hl := burst_length mask at_ zs 32
  apply ext_bits (burst_bytes mask at_ (burst_bytes mask at_ hz 32) 32) hz
  · rw [burst_length, hl]
  · intro i
    rw [burst_all (by rw [hl]; exact hf), burst_all hf, Bool.xor_assoc, Bool.xor_self, Bool.xor_false]
/-- Bytes in which bits are turned, if all of them are there. -/
def room (mask : BitVec 32) (at_ : Int) (n : Nat) : Bool := decide (0 ≤ at_) && (List.range 32).all (fun k => !mask.getMsbD k || decide (at_ + (k : Int) < 8 * (n : Int)))
theorem room_iff (mask : BitVec 32) (at_ : Int) (n : Nat) : room mask at_ n = true ↔ 0 ≤ at_ ∧ ∀ k : Nat, k < 32 → mask.getMsbD k = true → at_ + (k : Int) < 8 * (n : Int) := by
  simp only [room, Bool.and_eq_true, decide_eq_true_eq, List.all_eq_true, List.mem_range, Bool.or_eq_true, Bool.not_eq_true']
  refine and_congr_right fun _ => ⟨fun h k hk hm => ?_, fun h k hk => ?_⟩
  · rcases h k hk with h | h
    · rw [h] at hm; simp at hm
    · exact h
  · cases hm : mask.getMsbD k with
    | false => exact .inl rfl
    | true => exact .inr (h k hk hm)
def bursts (mask : BitVec 32) (at_ : Int) (zs : List Int) : List Int := if room mask at_ zs.length = true then burst mask at_.toNat zs 32 else zs
theorem bursts_length (mask : BitVec 32) (at_ : Int) (zs : List Int) : (bursts mask at_ zs).length = zs.length := by
  unfold bursts
  split
  · exact burst_length _ _ _ _
  · rfl
theorem bursts_bytes (mask : BitVec 32) (at_ : Int) {zs : List Int} (h : ∀ c ∈ zs, Byte c) : ∀ c ∈ bursts mask at_ zs, Byte c := by
  unfold bursts
  split
  · exact burst_bytes _ _ h _
  · exact h
theorem fits_of {mask : BitVec 32} {at_ : Int} {n : Nat} (hr : room mask at_ n = true) : Fits mask at_.toNat n := by
  have h := (room_iff mask at_ n).1 hr
  intro k hk
  by_cases h32 : k < 32
  · have := h.2 k h32 hk
    have := h.1
    omega
  · simp [BitVec.getMsbD, h32] at hk
theorem bursts_twice (mask : BitVec 32) (at_ : Int) {zs : List Int} (hz : ∀ c ∈ zs, Byte c) : bursts mask at_ (bursts mask at_ zs) = zs := by
  have hl := bursts_length mask at_ zs
  by_cases h : room mask at_ zs.length = true
  · have e : bursts mask at_ zs = burst mask at_.toNat zs 32 := if_pos h
    have h' := h
    rw [← hl] at h'
    rw [show bursts mask at_ (bursts mask at_ zs) = burst mask at_.toNat (bursts mask at_ zs) 32 from if_pos h', e]
    exact burst_twice hz (fits_of h)
  · have e : bursts mask at_ zs = zs := if_neg h
    rw [e, e]
/-- A seal in which bits were turned is a seal only if it is as it was. -/
theorem seal_found (mask : BitVec 32) (at_ : Int) {zs xs : List Int} (hz : ∀ c ∈ zs, Byte c) (h : bursts mask at_ (sealed zs) = sealed xs) : bursts mask at_ (sealed zs) = sealed zs := by
  have hb : ∀ c ∈ sealed zs, Byte c := by
    intro c hc
    rcases List.mem_append.1 hc with hc | hc
    · exact hz c hc
    · exact four_bytes _ c hc
  by_cases hf : room mask at_ (sealed zs).length = true
  · have e : bursts mask at_ (sealed zs) = burst mask at_.toNat (sealed zs) 32 := if_pos hf
    have hF := fits_of hf
    by_cases hm : mask = 0#32
    · subst hm
      rw [e]
      apply ext_bits (burst_bytes _ _ hb _) hb (burst_length _ _ _ _)
      intro i
      rw [burst_all hF]
      simp [turned]
    · exfalso
      apply hm
      have c1 := crcs_sealed zs
      have c2 := crcs_sealed xs
      rw [← h] at c2
      have hat : at_.toNat ≤ 8 * (sealed zs).length := by
        apply Nat.le_of_not_lt
        intro hc
        apply hm
        apply BitVec.eq_of_getMsbD_eq
        intro i hi
        have := hF i
        cases hv : mask.getMsbD i with
        | false => simp
        | true => have := hF i hv; omega
      refine finds hb (bursts_bytes mask at_ hb) (bursts_length _ _ _) mask at_.toNat (fun i _ => ?_) hat (fun i hi => ?_) (c1.trans c2.symm)
      · rw [e]; exact burst_all hF i
      · unfold turned
        by_cases hai : at_.toNat ≤ i
        · cases hv : mask.getMsbD (i - at_.toNat) with
          | false => simp
          | true => have := hF _ hv; omega
        · simp [hai]
  · exact if_neg hf
/-- Three texts at once. -/
theorem crcs_three {xs as bs cs : List Int} (hx : ∀ c ∈ xs, Byte c) (ha : ∀ c ∈ as, Byte c) (hb : ∀ c ∈ bs, Byte c) (hc : ∀ c ∈ cs, Byte c) (la : as.length = xs.length) (lb : bs.length = xs.length) (lc : cs.length = xs.length)
    (h : ∀ i, i < 8 * xs.length → bit xs i = ((bit as i ^^ bit bs i) ^^ bit cs i)) : sum xs = (sum as ^^^ sum bs) ^^^ sum cs := by
  unfold sum
  rw [← ones_not, ← ones_not, ← ones_not, ← ones_not, crcs_run _ _ hx, crcs_run _ _ ha, crcs_run _ _ hb, crcs_run _ _ hc, la, lb, lc, run_congr _ _ h]
  have e1 := run_xor (bit as) (bit bs) ones ones (8 * xs.length)
  have e2 := run_xor (fun i => bit as i ^^ bit bs i) (bit cs) (ones ^^^ ones) ones (8 * xs.length)
  rw [e1, BitVec.xor_self, BitVec.zero_xor] at e2
  rw [e2]
  generalize run (bit as) ones (8 * xs.length) = A
  generalize run (bit bs) ones (8 * xs.length) = B
  generalize run (bit cs) ones (8 * xs.length) = C
  apply BitVec.eq_of_getLsbD_eq
  intro i _
  simp only [BitVec.getLsbD_xor]
  cases A.getLsbD i <;> cases B.getLsbD i <;> cases C.getLsbD i <;> cases ones.getLsbD i <;> rfl
end Go.Proofs.Ythgafnommcodcaa.Crc
/-
  Records, their bytes, and sectors as lists: what the programs do, in plain words. Nothing of a program is named here.
-/
namespace Go.Proofs.Ythgafnommcodcaa.Frame
open Go.Proofs.Ythgafnommcodcaa.Crc

/-- A number's last bytes, the highest first; and the number of bytes. -/
def be : Nat → Nat → List Int
  | 0, _ => []
  | k + 1, n => be k (n / 256) ++ [((n % 256 : Nat) : Int)]
def num (l : List Int) : Nat := l.foldl (fun a c => a * 256 + c.toNat) 0
theorem be_len : ∀ k n, (be k n).length = k
  | 0, _ => rfl
  | k + 1, n => by simp [be, be_len k]
theorem be_front : ∀ k n, be (k + 1) n = ((n / 256 ^ k % 256 : Nat) : Int) :: be k n
  | 0, n => by simp [be]
  | k + 1, n => by
    rw [be, be_front k (n / 256), be, Nat.div_div_eq_div_mul, Nat.pow_succ, Nat.mul_comm (256 ^ k) 256]
    simp
theorem be_bytes : ∀ k n, ∀ c ∈ be k n, Byte c
  | 0, _ => by simp [be]
  | k + 1, n => by
    intro c hc
    rcases List.mem_append.1 hc with hc | hc
    · exact be_bytes k _ c hc
    · simp at hc; subst hc; constructor <;> omega
theorem num_snoc (l : List Int) (c : Int) : num (l ++ [c]) = num l * 256 + c.toNat := by simp [num]
theorem num_be : ∀ k n, n < 256 ^ k → num (be k n) = n
  | 0, n, h => by simp at h; subst h; rfl
  | k + 1, n, h => by
    rw [be, num_snoc, num_be k (n / 256) (Nat.div_lt_of_lt_mul (by rw [Nat.mul_comm, ← Nat.pow_succ]; exact h))]
    have : ((n % 256 : Nat) : Int).toNat = n % 256 := by omega
    rw [this]
    omega
theorem num_fold : ∀ (l : List Int) (a : Nat), l.foldl (fun a c => a * 256 + c.toNat) a = a * 256 ^ l.length + num l
  | [], a => by simp [num]
  | c :: r, a => by
    have e : num (c :: r) = c.toNat * 256 ^ r.length + num r := by
      show List.foldl _ 0 (c :: r) = _
      rw [List.foldl_cons, num_fold r (0 * 256 + c.toNat)]
      simp
    rw [List.foldl_cons, num_fold r, e, List.length_cons, Nat.pow_succ, Nat.add_mul, Nat.mul_comm (256 ^ r.length) 256, Nat.mul_assoc]
    omega
theorem num_cons (c : Int) (l : List Int) : num (c :: l) = c.toNat * 256 ^ l.length + num l := by
  rw [num, List.foldl_cons, num_fold]; simp
theorem num_lt : ∀ l : List Int, (∀ c ∈ l, Byte c) → num l < 256 ^ l.length
  | [], _ => by simp [num]
  | c :: r, h => by
    have h1 := num_lt r fun x hx => h x (by simp [hx])
    have h2 := h c (by simp)
    have h3 : c.toNat + 1 ≤ 256 := by have := h2.1; have := h2.2; omega
    rw [num_cons, List.length_cons, Nat.pow_succ, Nat.mul_comm (256 ^ r.length) 256]
    have h4 : (c.toNat + 1) * 256 ^ r.length ≤ 256 * 256 ^ r.length := Nat.mul_le_mul_right _ h3
    rw [Nat.add_mul] at h4
    omega

/-- A sector: sixty-four bytes. -/
abbrev Sec := {l : List Int // l.length = 64}
def zero : Sec := ⟨List.replicate 64 0, by simp⟩
def flat (l : List Sec) : List Int := l.flatMap (·.1)
/-- Bytes in so many sectors, what is left filled up with zeros. -/
def pad (l : List Int) : Sec := ⟨(l ++ List.replicate 64 0).take 64, by simp⟩
def secs : Nat → List Int → List Sec
  | 0, _ => []
  | n + 1, b => pad b :: secs n (b.drop 64)
theorem secs_len : ∀ n b, (secs n b).length = n
  | 0, _ => rfl
  | n + 1, b => by simp [secs, secs_len n]
theorem flat_len : ∀ l : List Sec, (flat l).length = 64 * l.length
  | [] => rfl
  | s :: r => by
    have h := flat_len r
    have h2 := s.2
    simp only [flat, List.flatMap_cons, List.length_append, List.length_cons] at h ⊢
    omega
theorem flat_app (l k : List Sec) : flat (l ++ k) = flat l ++ flat k := by simp [flat]
theorem flat_secs : ∀ (n : Nat) (b : List Int), b.length ≤ 64 * n → flat (secs n b) = b ++ List.replicate (64 * n - b.length) 0
  | 0, b, h => by
    have : b = [] := List.eq_nil_of_length_eq_zero (by omega)
    subst this; rfl
  | n + 1, b, h => by
    have e : flat (secs (n + 1) b) = (pad b).1 ++ flat (secs n (b.drop 64)) := by simp [flat, secs]
    rw [e, flat_secs n (b.drop 64) (by simp; omega)]
    show (b ++ List.replicate 64 0).take 64 ++ _ = _
    rcases Nat.le_total 64 b.length with hb | hb
    · rw [List.take_append_of_le_length hb, ← List.append_assoc, List.take_append_drop, List.length_drop]
      congr 2
      omega
    · rw [List.drop_of_length_le hb, List.take_append, List.take_of_length_le hb, List.take_replicate, List.append_assoc, List.nil_append, List.replicate_append_replicate]
      simp only [List.length_nil]
      congr 2
      omega
/-- How many sectors so many bytes of payload need. -/
def size (m : Nat) : Nat := if m ≤ 700 then (m + 81) / 64 else 0
/-- The bytes of a record. -/
def plain (s e : Nat) (p : List Int) : List Int := be 2 p.length ++ (be 8 s ++ (be 4 e ++ p))
def all (s e : Nat) (p : List Int) : List Int := sealed (plain s e p)
def right (s : Nat) (p : List Int) : Bool := decide (p.length ≤ 700) && decide (0 < s)
def made (s e : Nat) (p : List Int) : List Sec := if right s p then secs (size p.length) (all s e p) else []
def fault (s : Nat) (p : List Int) : Int := if right s p then 0 else 81
theorem plain_len (s e : Nat) (p : List Int) : (plain s e p).length = p.length + 14 := by simp [plain, be_len]; omega
theorem all_len (s e : Nat) (p : List Int) : (all s e p).length = p.length + 18 := by
  unfold all sealed four
  rw [List.length_append, plain_len]; rfl
theorem plain_bytes {s e : Nat} {p : List Int} (h : ∀ c ∈ p, Byte c) : ∀ c ∈ plain s e p, Byte c := by
  intro c hc
  simp only [plain, List.mem_append] at hc
  rcases hc with hc | hc | hc | hc
  · exact be_bytes _ _ c hc
  · exact be_bytes _ _ c hc
  · exact be_bytes _ _ c hc
  · exact h c hc
theorem made_len {s e : Nat} {p : List Int} (h : right s p = true) : (made s e p).length = size p.length := by simp [made, h, secs_len]
theorem size_fits {m : Nat} (h : m ≤ 700) : m + 18 ≤ 64 * size m ∧ 64 * size m < m + 18 + 64 ∧ 0 < size m ∧ size m ≤ 12 := by
  unfold size; rw [if_pos h]; omega
theorem flat_made {s e : Nat} {p : List Int} (h : right s p = true) : flat (made s e p) = all s e p ++ List.replicate (64 * size p.length - (p.length + 18)) 0 := by
  have h7 : p.length ≤ 700 := by simp [right] at h; exact h.1
  rw [made, if_pos h, flat_secs _ _ (by rw [all_len]; exact (size_fits h7).1), all_len]
/-- A record, how many sectors it has, and whether there is one. -/
structure Got where
  ok : Bool
  n : Nat
  s : Nat
  e : Nat
  p : List Int
def nought : Got := ⟨false, 0, 0, 0, []⟩
/-- What the fields say. -/
def long (b : List Int) : Nat := num (b.take 2)
def seqOf (b : List Int) : Nat := num ((b.drop 2).take 8)
def epochOf (b : List Int) : Nat := num ((b.drop 10).take 4)
def payOf (b : List Int) : List Int := (b.drop 14).take (long b)
def roomy (l : List Sec) : Bool := decide (0 < l.length) && (decide (0 < size (long (flat l))) && decide (size (long (flat l)) ≤ l.length))
def opens (l : List Sec) : Bool := roomy l && (right (seqOf (flat l)) (payOf (flat l)) && decide (made (seqOf (flat l)) (epochOf (flat l)) (payOf (flat l)) = l.take (size (long (flat l)))))
def got (l : List Sec) : Got := if opens l then ⟨true, size (long (flat l)), seqOf (flat l), epochOf (flat l), payOf (flat l)⟩ else nought
theorem long_of (s e : Nat) (p X : List Int) (h : p.length ≤ 700) : long (plain s e p ++ X) = p.length := by
  have : (plain s e p ++ X).take 2 = be 2 p.length := by
    rw [plain, List.append_assoc]
    exact List.take_left' (be_len _ _)
  rw [long, this, num_be _ _ (by omega)]
theorem seq_of (s e : Nat) (p X : List Int) (h : s < 256 ^ 8) : seqOf (plain s e p ++ X) = s := by
  have : ((plain s e p ++ X).drop 2).take 8 = be 8 s := by
    rw [plain, List.append_assoc, List.drop_left' (be_len _ _), List.append_assoc]
    exact List.take_left' (be_len _ _)
  rw [seqOf, this, num_be _ _ h]
theorem epoch_of (s e : Nat) (p X : List Int) (h : e < 256 ^ 4) : epochOf (plain s e p ++ X) = e := by
  have : ((plain s e p ++ X).drop 10).take 4 = be 4 e := by
    rw [plain, List.append_assoc, List.append_assoc, ← List.append_assoc, List.drop_left' (by simp [be_len]), List.append_assoc]
    exact List.take_left' (be_len _ _)
  rw [epochOf, this, num_be _ _ h]
theorem pay_of (s e : Nat) (p X : List Int) (h : p.length ≤ 700) : payOf (plain s e p ++ X) = p := by
  have : (plain s e p ++ X).drop 14 = p ++ X := by
    have e1 : plain s e p ++ X = (be 2 p.length ++ (be 8 s ++ be 4 e)) ++ (p ++ X) := by simp [plain]
    rw [e1]
    exact List.drop_left' (by simp [be_len])
  rw [payOf, this, long_of s e p X h]
  exact List.take_left' rfl
/-- What is made is opened, whatever is behind. -/
theorem got_made {s e : Nat} {p : List Int} (hr : right s p = true) (hs : s < 256 ^ 8) (he : e < 256 ^ 4) (more : List Sec) : got (made s e p ++ more) = ⟨true, (made s e p).length, s, e, p⟩ := by
  have h7 : p.length ≤ 700 := by simp [right] at hr; exact hr.1
  obtain ⟨X, hX⟩ : ∃ X, flat (made s e p ++ more) = plain s e p ++ X := by
    refine ⟨four (sum (plain s e p)) ++ (List.replicate (64 * size p.length - (p.length + 18)) 0 ++ flat more), ?_⟩
    rw [flat_app, flat_made hr, all, sealed]
    simp
  have hf := size_fits h7
  have h1 : long (flat (made s e p ++ more)) = p.length := by rw [hX]; exact long_of s e p X h7
  have h2 : seqOf (flat (made s e p ++ more)) = s := by rw [hX]; exact seq_of s e p X hs
  have h3 : epochOf (flat (made s e p ++ more)) = e := by rw [hX]; exact epoch_of s e p X he
  have h4 : payOf (flat (made s e p ++ more)) = p := by rw [hX]; exact pay_of s e p X h7
  have hl := made_len (e := e) hr
  have ho : opens (made s e p ++ more) = true := by
    unfold opens roomy
    rw [h1, h2, h3, h4, hr, List.take_left' hl]
    simp
    omega
  rw [got, if_pos ho, h1, h2, h3, h4, hl]
theorem flat_take (l : List Sec) (k : Nat) : flat (l.take k) = (flat l).take (64 * k) := by
  rcases Nat.le_total l.length k with h | h
  · rw [List.take_of_length_le h, List.take_of_length_le (by rw [flat_len]; omega)]
  · have e : flat l = flat (l.take k) ++ flat (l.drop k) := by rw [← flat_app, List.take_append_drop]
    rw [e, List.take_left' (by rw [flat_len, List.length_take]; omega)]
/-- With fewer it isn't opened. -/
theorem opens_less {s e : Nat} {p : List Int} (hr : right s p = true) {k : Nat} (hk : k < (made s e p).length) : opens ((made s e p).take k) = false := by
  have h7 : p.length ≤ 700 := by simp [right] at hr; exact hr.1
  rcases Nat.eq_zero_or_pos k with h0 | h0
  · subst h0; simp [opens, roomy]
  · have e1 : long (flat ((made s e p).take k)) = p.length := by
      have : (flat ((made s e p).take k)).take 2 = (flat (made s e p)).take 2 := by rw [flat_take, List.take_take]; congr 1; omega
      have h1 : long (flat (made s e p)) = p.length := by
        rw [flat_made hr, all, sealed, List.append_assoc]; exact long_of s e p _ h7
      rw [long, this]; exact h1
    rw [made_len hr] at hk
    unfold opens roomy
    rw [e1]
    have : decide (size p.length ≤ ((made s e p).take k).length) = false := decide_eq_false (by rw [List.length_take]; omega)
    rw [this]
    simp
theorem got_less {s e : Nat} {p : List Int} (hr : right s p = true) {k : Nat} (hk : k < (made s e p).length) : (got ((made s e p).take k)).ok = false := by
  rw [got, if_neg (by rw [opens_less hr hk]; simp)]; rfl
theorem zeros_num : ∀ n, num (List.replicate n 0) = 0
  | 0 => rfl
  | n + 1 => by rw [List.replicate_succ, num_cons, zeros_num n]; simp
theorem flat_zero (n : Nat) : flat (List.replicate n zero) = List.replicate (64 * n) 0 := by
  induction n with
  | zero => rfl
  | succ n ih =>
    have : flat (List.replicate (n + 1) zero) = zero.1 ++ flat (List.replicate n zero) := by simp [flat, List.replicate_succ]
    rw [this, ih]
    show List.replicate 64 0 ++ _ = _
    rw [List.replicate_append_replicate]
    congr 1
    omega
theorem got_zero (n : Nat) : got (List.replicate n zero) = nought := by
  have h : seqOf (flat (List.replicate n zero)) = 0 := by
    rw [flat_zero, seqOf, List.drop_replicate, List.take_replicate, zeros_num]
  rw [got, if_neg]
  unfold opens right
  rw [h]
  simp
end Go.Proofs.Ythgafnommcodcaa.Frame
/-
  Slices of integers in memory: what it is that one reads as a list of numbers, and what becomes of it behind calls, cuts and appends.
-/
namespace Go.Proofs.Ythgafnommcodcaa.Mem
open Go.RowKit

/-- The slice at p, of this capacity, reads as these numbers. -/
def Reads (k : IntKind) (w : World) (p : Option Addr) (cap : Nat) (zs : List Int) : Prop :=
  zs.length ≤ cap ∧ cap ≤ maxLen ∧ (p = none → cap = 0) ∧
  (0 < zs.length → ∃ b o, p = some ⟨b, o, none⟩ ∧ b < w.heap.size ∧ ∀ i, i < zs.length → w.cell? ⟨b, o + i, none⟩ = some (.int k (zs.getD i 0)))

theorem Reads.below {k : IntKind} {w w' : World} {p : Option Addr} {cap : Nat} {zs : List Int} (h : Reads k w p cap zs) (hb : Below w.heap.size w w') : Reads k w' p cap zs := by
  obtain ⟨h1, h2, h3, h4⟩ := h
  refine ⟨h1, h2, h3, fun hz => ?_⟩
  obtain ⟨b, o, e, hlt, hc⟩ := h4 hz
  exact ⟨b, o, e, Nat.lt_of_lt_of_le hlt hb.size, fun i hi => (hb.cell (p := ⟨b, o + i, none⟩) hlt).trans (hc i hi)⟩
theorem bnew (w : World) (o : Obj) : Below w.heap.size w (w.alloc o) := (Below.refl _ _).alloc (Nat.le_refl _) o
theorem Reads.alloc {k : IntKind} {w : World} {p : Option Addr} {cap : Nat} {zs : List Int} (h : Reads k w p cap zs) (o : Obj) : Reads k (w.alloc o) p cap zs := h.below (bnew w o)
theorem Reads.drew {k : IntKind} {w : World} {p : Option Addr} {cap : Nat} {zs : List Int} (h : Reads k w p cap zs) : Reads k w.drew p cap zs := h.below ((Below.refl _ _).drew)
theorem bdrewN (w : World) (n : Nat) : Below w.heap.size w (w.drewN n) := ⟨rfl, rfl, rfl, Nat.le_refl _, fun _ _ => rfl⟩
theorem Reads.drewN {k : IntKind} {w : World} {p : Option Addr} {cap : Nat} {zs : List Int} (h : Reads k w p cap zs) (n : Nat) : Reads k (w.drewN n) p cap zs := h.below (bdrewN w n)
theorem Reads.nil (k : IntKind) (w : World) : Reads k w none 0 [] := ⟨Nat.le_refl _, Nat.zero_le _, fun _ => rfl, fun h => absurd h (Nat.lt_irrefl 0)⟩
/-- One behind the other. -/
theorem bnext {a b c : World} (h : Below a.heap.size a b) (k : Below b.heap.size b c) : Below a.heap.size a c := h.trans (k.mono h.size)

/-- The string of bytes. -/
def str (xs : List Int) : ByteArray := strOfNums xs
theorem conv {w : World} {p : Option Addr} {cap n : Nat} {zs : List Int} (h : Reads .u8 w p cap zs) (hn : zs.length = n) :
    (convert 48 9 (.slice p n cap)).run Try.prog w = .ok (.string (str zs)) w := by
  rcases Nat.eq_zero_or_pos n with h0 | h0
  · subst h0
    obtain rfl : zs = [] := List.eq_nil_of_length_eq_zero hn
    rw [run_convert_bytes_string w 48 9 5 _ 0 cap Try.underlying48 Try.underlying5 Try.underlying9]
    cases p <;> simp [Conv.bytesToString, loadCells]
    all_goals rfl
  · obtain ⟨b, o, rfl, _, hc⟩ := h.2.2.2 (by omega)
    exact run_convert_bytes_arg (P := Try.prog) w 48 5 Try.underlying48 Try.underlying5 b o n cap zs hn (by subst hn; exact hc) 9 Try.underlying9
theorem bytes_inj : ∀ {xs ys : List Int}, (∀ c ∈ xs, Byte c) → (∀ c ∈ ys, Byte c) → Lib.bytesOf xs = Lib.bytesOf ys → xs = ys
  | [], [], _, _, _ => rfl
  | [], _ :: _, _, _, h => by simp [Lib.bytesOf] at h
  | _ :: _, [], _, _, h => by simp [Lib.bytesOf] at h
  | x :: xs, y :: ys, hx, hy, h => by
    simp only [Lib.bytesOf, List.map_cons, List.cons.injEq] at h
    obtain ⟨x0, x1⟩ := hx x (by simp)
    obtain ⟨y0, y1⟩ := hy y (by simp)
    have e : x = y := by
      have := congrArg UInt8.toNat h.1
      simp only [UInt8.toNat_ofNat', Nat.reducePow] at this
      omega
    rw [e, bytes_inj (fun c hc => hx c (by simp [hc])) (fun c hc => hy c (by simp [hc])) h.2]
theorem bytes_eq {xs ys : List Int} (hx : ∀ c ∈ xs, Byte c) (hy : ∀ c ∈ ys, Byte c) : (Lib.bytesOf xs == Lib.bytesOf ys) = decide (xs = ys) := by
  by_cases h : xs = ys
  · subst h; simp
  · rw [decide_eq_false h]
    simpa using fun e => h (bytes_inj hx hy e)
theorem str_eq {xs ys : List Int} (hx : ∀ c ∈ xs, Byte c) (hy : ∀ c ∈ ys, Byte c) : ((str xs).toList == (str ys).toList) = decide (xs = ys) := by
  unfold str
  rw [Lib.strOfNums_toList, Lib.strOfNums_toList, bytes_eq hx hy]

/-- What the call has built by itself is read. -/
theorem own_reads {w : World} {B n : Nat} {e : TypeId} {v : Value} {k : IntKind} {xs : List Int} (h : w.ownsRow B e 1 v n (xs.map (Value.int k))) :
    n = xs.length ∧ ∃ p cap, v = .slice p xs.length cap ∧ Reads k w p cap xs := by
  have hn : n = xs.length := by have := h.1; simp at this; omega
  subst hn
  refine ⟨rfl, ?_⟩
  rcases h.2 with ⟨rfl, h0⟩ | ⟨g, cap, cur, rfl, hb, hg, hc, hm, hs, ht⟩
  · have : xs = [] := List.eq_nil_of_length_eq_zero h0
    subst this
    exact ⟨none, 0, rfl, Reads.nil _ _⟩
  · refine ⟨some ⟨g, 0, none⟩, cap, rfl, hc, hm, fun h => by simp at h, fun hz => ⟨g, 0, rfl, (Array.getElem?_eq_some_iff.1 hg).1, fun i hi => ?_⟩⟩
    have := h.cellAt i (by simpa using hi)
    rw [Nat.zero_add, this]
    simp [hi]
theorem own_reads_pos {w : World} {B n : Nat} {e : TypeId} {v : Value} {k : IntKind} {xs : List Int} (h : w.ownsRow B e 1 v n (xs.map (Value.int k))) (hp : 0 < xs.length) :
    ∃ g cap, v = .slice (some ⟨g, 0, none⟩) xs.length cap ∧ Reads k w (some ⟨g, 0, none⟩) cap xs := by
  obtain ⟨_, p, cap, hv, hr⟩ := own_reads h
  rcases h.2 with ⟨rfl, h0⟩ | ⟨g, cap', cur, rfl, _⟩
  · simp at hv
    omega
  · simp only [Value.slice.injEq] at hv
    obtain ⟨rfl, _, rfl⟩ := hv
    exact ⟨g, cap', by simp; omega, hr⟩

/-- A slice that is typed out. -/
theorem lit_reads {k : IntKind} {e : TypeId} {w : World} {cs : Array Value} {n : Nat} {zs : List Int} (hcs : cs = (zs.map (Value.int k)).toArray) (hn : n = zs.length) (hl : zs.length ≤ 1000) :
    Reads k (w.alloc (.cells cs e)) (some ⟨w.heap.size, 0, none⟩) n zs := by
  subst hcs hn
  have h := World.ownsRow_lit (base := 0) (e := e) (size := 1) w (zs.map (Value.int k)).toArray zs.length (Nat.zero_le _) (by unfold maxLen; omega) (by simp)
  simp only at h
  obtain ⟨_, p, cap, hv, hr⟩ := own_reads h
  simp only [Value.slice.injEq] at hv
  obtain ⟨rfl, _, rfl⟩ := hv
  exact hr

/-- Its cells, as an append asks for them. -/
theorem reads_news {k : IntKind} {w : World} {b o cap : Nat} {zs : List Int} (h : Reads k w (some ⟨b, o, none⟩) cap zs) :
    ∀ j u, (zs.map (Value.int k))[j]? = some u → w.cell? ((⟨b, o, none⟩ : Addr).add j) = some u := by
  intro j u hu
  have hj : j < zs.length := by
    have := (List.getElem?_eq_some_iff.1 hu).1
    simpa using this
  obtain ⟨b', o', e, _, hc⟩ := h.2.2.2 (by omega)
  simp only [Option.some.injEq, Addr.mk.injEq, and_true] at e
  obtain ⟨rfl, rfl⟩ := e
  rw [Addr.add_lit, hc j hj, ← hu]
  simp [hj]

/-- A slice from some element on. -/
def cutP (p : Option Addr) (cap l : Nat) : Option Addr := if cap = l then p else p.map (·.add l)
theorem Reads.cut {k : IntKind} {w : World} {p : Option Addr} {cap : Nat} {zs : List Int} (h : Reads k w p cap zs) (l : Nat) (hl : l ≤ zs.length) : Reads k w (cutP p cap l) (cap - l) (zs.drop l) := by
  obtain ⟨h1, h2, h3, h4⟩ := h
  refine ⟨by simp; omega, by omega, fun hp => ?_, fun hz => ?_⟩
  · unfold cutP at hp
    split at hp
    · omega
    · have := h3 (by simpa using hp); omega
  · simp only [List.length_drop] at hz
    obtain ⟨b, o, rfl, hlt, hc⟩ := h4 (by omega)
    refine ⟨b, o + l, ?_, hlt, fun i hi => ?_⟩
    · unfold cutP
      rw [if_neg (by omega)]
      simp [Addr.add_lit]
    · simp only [List.length_drop] at hi
      rw [Nat.add_assoc, hc (l + i) (by omega)]
      simp
/-- A slice up to some element. -/
theorem Reads.upto {k : IntKind} {w : World} {p : Option Addr} {cap : Nat} {zs : List Int} (h : Reads k w p cap zs) (l : Nat) : Reads k w p cap (zs.take l) := by
  obtain ⟨h1, h2, h3, h4⟩ := h
  refine ⟨by simp; omega, h2, h3, fun hz => ?_⟩
  simp only [List.length_take] at hz
  obtain ⟨b, o, rfl, hlt, hc⟩ := h4 (by omega)
  refine ⟨b, o, rfl, hlt, fun i hi => ?_⟩
  simp only [List.length_take] at hi
  rw [hc i (by omega)]
  simp [List.getD, show i < l by omega]
theorem run_from (w : World) (p : Option Addr) (n cap l : Nat) (hl : l ≤ n) :
    (Instr.slice 48 (.slice p n cap) (some (.int .i64 (l : Int))) none none).run Try.prog w = .ok (.slice (cutP p cap l) (n - l) (cap - l)) w := by
  have ht : Try.prog.underlying 48 = some (.slice (Try.prog.elem 48)) := by simp [Program.elem, Try.underlying48]
  have he : Try.prog.elem 48 = 5 := by simp [Program.elem, Try.underlying48]
  rw [run_slice_l w 48 p n cap ht .i64 (l : Int) (by omega) (by omega), he, Try.sizeOf5]
  simp [Result.andThen, sliced, cutP]
theorem run_upto (w : World) (b o n cap l : Nat) (hl : l ≤ cap) :
    (Instr.slice 48 (.slice (some ⟨b, o, none⟩) n cap) none (some (.int .i64 (l : Int))) none).run Try.prog w = .ok (.slice (some ⟨b, o, none⟩) l cap) w := by
  have ht : Try.prog.underlying 48 = some (.slice (Try.prog.elem 48)) := by simp [Program.elem, Try.underlying48]
  have he : Try.prog.elem 48 = 5 := by simp [Program.elem, Try.underlying48]
  rw [run_slice_h w 48 _ n cap ht .i64 (l : Int) (by omega) (by omega), he, Try.sizeOf5]
  simp [Result.andThen, sliced, Addr.add_lit]

/-- What is the call's own stays so behind calls of others. -/
theorem own_below {B n size : Nat} {e : TypeId} {w w' : World} {v : Value} {xs : List Value} (h : w.ownsRow B e size v n xs) (hb : Below w.heap.size w w') : w'.ownsRow B e size v n xs := by
  refine ⟨h.1, ?_⟩
  rcases h.2 with h0 | ⟨g, cap, cur, hv, hg, hh, r⟩
  · exact .inl h0
  · exact .inr ⟨g, cap, cur, hv, hg, (hb.block g (Array.getElem?_eq_some_iff.1 hh).1).trans hh, r⟩
/-- How long a slice is. -/
def sliceLen : Value → Nat
  | .slice _ n _ => n
  | _ => 0

/-- Behind an append to what is the call's own. -/
theorem grew {k : IntKind} {B n : Nat} {e : TypeId} {w wr w1 : World} {u v : Value} {ys zs : List Int} {o : Obj} (hB : B ≤ w.heap.size) (hnx : Below B w wr) (hown : wr.ownsRow B e 1 u ys.length (ys.map (Value.int k)))
    (hown1 : w1.ownsRow B e 1 v n (ys.map (Value.int k) ++ zs.map (Value.int k))) (hg : (wr.alloc o).grownBy w1 u.ownBlock) :
    w1.ownsRow B e 1 v (ys ++ zs).length ((ys ++ zs).map (Value.int k)) ∧ Below B w w1 := by
  have hs := hnx.size
  refine ⟨?_, (hnx.alloc (by omega) o).grown hg (by simp; omega) fun g hg => (hown.lt g hg).1⟩
  have hn : n = (ys ++ zs).length := by have := hown1.1; simp at this ⊢; omega
  rw [← hn, List.map_append]
  exact hown1
theorem grew0 {k : IntKind} {B n : Nat} {e : TypeId} {w wr w1 : World} {u v : Value} {ys zs : List Int} (hB : B ≤ w.heap.size) (hnx : Below B w wr) (hown : wr.ownsRow B e 1 u ys.length (ys.map (Value.int k)))
    (hown1 : w1.ownsRow B e 1 v n (ys.map (Value.int k) ++ zs.map (Value.int k))) (hg : wr.grownBy w1 u.ownBlock) :
    w1.ownsRow B e 1 v (ys ++ zs).length ((ys ++ zs).map (Value.int k)) ∧ Below B w w1 := by
  have hs := hnx.size
  refine ⟨?_, hnx.grown hg (by omega) fun g hg => (hown.lt g hg).1⟩
  have hn : n = (ys ++ zs).length := by have := hown1.1; simp at this ⊢; omega
  rw [← hn, List.map_append]
  exact hown1
theorem one_cell {w : World} {e : TypeId} {k : IntKind} {x : Int} : ∀ j u, [Value.int k x][j]? = some u → (w.alloc (.cells #[.int k x] e)).cell? ((⟨w.heap.size, 0, none⟩ : Addr).add j) = some u := by
  intro j u hj
  match j, hj with
  | 0, hj => simp at hj; subst hj; simp [Addr.add]
theorem one_one {k : IntKind} {x : Int} : ∀ u ∈ [Value.int k x], u.oneCell' = true := by
  intro u hu; simp at hu; subst hu; rfl

/-- An append of what is read to what is the call's own, whatever the address. -/
theorem wpList_append_reads {P : Program} (w : World) {ops : Array Oper} {rest : List Oper} {o : Oper} {a : Act} {Q : Exit → Act → World → Prop} (hgd : o.guard = none) (s x : Operand) (t : TypeId)
    (ho : o.op = .call { callee := .builtin .append, args := #[s, x], argTypes := #[t, t] })
    (base : Nat) (e : TypeId) (i : TypeInfo) (z : Value) (bytes : Nat) (k : IntKind) (ht : P.underlying t = some (.slice e)) (hi : P.info? e = some i) (hz : i.zero = some z)
    (hsize : i.size = 1) (hby : i.bytes = bytes) (hzs : z.cells.size = 1)
    (v : Value) (n : Nat) (xs : List Value) (hs : a.eval s = v) (hown : w.ownsRow base e 1 v n xs)
    (p : Option Addr) (m c : Nat) (zs : List Int) (hx : a.eval x = .slice p m c) (hm : zs.length = m) (hr : Reads k w p c zs)
    (h63 : n + m ≤ maxLen) (hbytes : (n + m) * bytes ≤ 140737488355328) (hbase : base ≤ w.heap.size)
    (h : ∀ v' w', w'.ownsRow base e 1 v' (n + m) (xs ++ zs.map (Value.int k)) → w.grownBy w' v.ownBlock → wpList P ops Q rest (a.put o.dst v') w') : wpList P ops Q (o :: rest) a w := by
  cases p with
  | none =>
    have hc := hr.2.2.1 rfl
    have h1 := hr.1
    subst hc
    have hz0 : zs = [] := List.eq_nil_of_length_eq_zero (by omega)
    subst hz0
    have hm0 : m = 0 := by simpa using hm.symm
    subst hm0
    exact wpList_append_own_none hgd s x t ho base e i 1 ht hi v n xs hs hown hx (h v w (by simpa using hown) (World.grownBy.refl _ _))
  | some ad =>
    refine wpList_append_own w hgd s x t ho base e i z 1 bytes ht hi hz hsize hby hzs (by decide) v n xs hs hown ad m c (zs.map (Value.int k)) hx (by simp [hm]) (fun j u hu => ?_) (ints_oneCell _ _) h63 hbytes hbase fun v' w' h1 h2 _ => h v' w' h1 h2
    have hj : j < zs.length := by
      have := (List.getElem?_eq_some_iff.1 hu).1
      simpa using this
    obtain ⟨b', o', e', _, hc⟩ := hr.2.2.2 (by omega)
    simp only [Option.some.injEq] at e'
    subst e'
    rw [Addr.add_lit, hc j hj, ← hu]
    simp [hj]
/-- A slice of nothing that is typed out. -/
theorem lit_none {k : IntKind} {e : TypeId} (w : World) : (w.alloc (.cells #[] e)).ownsRow w.heap.size e 1 (.slice (some ⟨w.heap.size, 0, none⟩) 0 0) ([] : List Int).length (([] : List Int).map (Value.int k)) :=
  World.ownsRow_lit w #[] 0 (Nat.le_refl _) (by decide) rfl

/-- What a reading hands over of a slice that came in. -/
theorem row_reads {k : IntKind} {w : World} {a : Option Addr} {len cap : Nat} {zs : List Int}
    (h : (a = none ∧ len = 0 ∧ cap = 0 ∧ zs = []) ∨ ∃ x, a = some x ∧ len ≤ cap ∧ cap ≤ maxLen ∧ zs.length = cap ∧ (∀ i, i < zs.length → w.cell? (x.add i) = some (.int k (zs.getD i 0))) ∧ ∀ n ∈ zs, (Lit.int k n).wf = true) :
    ∃ ys : List Int, ys.length = len ∧ Reads k w a cap ys ∧ ∀ n ∈ ys, (Lit.int k n).wf = true := by
  rcases h with ⟨rfl, rfl, rfl, rfl⟩ | ⟨x, rfl, h1, h2, h3, h4, h5⟩
  · exact ⟨[], rfl, Reads.nil _ _, by simp⟩
  · refine ⟨zs.take len, by simp; omega, ⟨by simp; omega, h2, fun h => by simp at h, fun hz => ?_⟩, fun n hn => h5 n (List.mem_of_mem_take hn)⟩
    simp only [List.length_take] at hz
    have h0 := h4 0 (by omega)
    obtain ⟨b, o, s⟩ := x
    obtain rfl : s = none := by simpa [Addr.add] using World.cell?_spot h0
    refine ⟨b, o, rfl, ?_, fun i hi => ?_⟩
    · have := World.block_lt_of_cell? w _ h0
      simpa [Addr.add] using this
    · simp only [List.length_take] at hi
      rw [← Addr.add_lit, h4 i (by omega)]
      simp [List.getD, show i < len by omega]

/-- The rows of the table. -/
theorem info_byte : (Try.prog.info? 5).map (fun i => (i.zero, i.size, i.bytes)) = some (some (.int .u8 0), 1, 1) := by kernel_rfl

theorem ret_int {k : IntKind} {a b : Int} (h : a = b) : Ending.returned (.int k a) = .returned (.int k b) := by rw [h]
end Go.Proofs.Ythgafnommcodcaa.Mem
namespace Go.Proofs.Ythgafnommcodcaa.Mem
open Go.RowKit

/-- Block g holds just these cells, none of them frozen. -/
def Blk (w : World) (g : Nat) (t : TypeId) (cs : List Value) : Prop := w.heap[g]? = some (.cells cs.toArray t (0, 0))
section
variable {w w' : World} {g : Nat} {t : TypeId} {cs : List Value}
theorem Blk.cell (h : Blk w g t cs) (i : Nat) : w.cell? ⟨g, i, none⟩ = cs[i]? := by
  rw [cell_of_row w g i cs.toArray t (0, 0) h]; simp
theorem Blk.frozen (h : Blk w g t cs) (i : Nat) : w.frozen? ⟨g, i, none⟩ = false := frozen_of_row w g i cs.toArray t h
theorem Blk.lt (h : Blk w g t cs) : g < w.heap.size := (Array.getElem?_eq_some_iff.1 h).1
theorem Blk.below (h : Blk w g t cs) (hb : Below w.heap.size w w') : Blk w' g t cs := (hb.block g h.lt).trans h
theorem Blk.kept (h : Blk w g t cs) {row : Option Nat} (hg : w.grownBy w' row) (hne : some g ≠ row) : Blk w' g t cs := (hg.block g h.lt hne).trans h
theorem Blk.alloc (h : Blk w g t cs) (o : Obj) : Blk (w.alloc o) g t cs := h.below (bnew w o)
theorem Blk.drew (h : Blk w g t cs) : Blk w.drew g t cs := h
theorem Blk.new (w : World) (a : Array Value) (t : TypeId) : Blk (w.alloc (.cells a t)) w.heap.size t a.toList := by
  unfold Blk; rw [Array.toArray_toList]; exact heap_alloc_new w _
theorem Blk.new1 (w : World) {G : Nat} (hG : w.heap.size = G) (a : Array Value) (t : TypeId) : Blk (w.alloc (.cells a t)) G t a.toList := hG ▸ Blk.new w a t
theorem Blk.put (h : Blk w g t cs) (i : Nat) (v : Value) : Blk (w.setCell ⟨g, i, none⟩ v) g t (cs.set i v) := by
  have := heap_setCell_same w g i cs.toArray t v h
  unfold Blk
  rw [this]
  simp
theorem Blk.other (h : Blk w g t cs) {p : Addr} (hp : g ≠ p.block) (v : Value) : Blk (w.setCell p v) g t cs := (Below.heap_setCell w p v g hp).trans h
theorem only_put (w : World) (p : Addr) (v : Value) : w.grownBy (w.setCell p v) (some p.block) :=
  ⟨rfl, rfl, rfl, by simp, fun k _ hk => heap_setCell_other w p k v (fun e => hk (by simp [e]))⟩
/-- Some of its cells, one behind the other. -/
theorem Blk.part (h : Blk w g t cs) (o : Nat) (us rest : List Value) (hd : cs.drop o = us ++ rest) : ∀ j v, us[j]? = some v → w.cell? ((⟨g, o, none⟩ : Addr).add j) = some v := by
  intro j v hj
  rw [Addr.add_lit, h.cell, ← List.getElem?_drop, hd, List.getElem?_append_left (List.getElem?_eq_some_iff.1 hj).1]
  exact hj
/-- Bytes in a block of their own are read. -/
theorem Blk.reads {k : IntKind} {zs : List Int} (h : Blk w g t (zs.map (Value.int k))) (hn : zs.length ≤ 100000) : Reads k w (some ⟨g, 0, none⟩) zs.length zs := by
  refine ⟨Nat.le_refl _, by unfold maxLen; omega, fun h => by simp at h, fun _ => ⟨g, 0, rfl, h.lt, fun i hi => ?_⟩⟩
  rw [Nat.zero_add, h.cell i]
  simp [hi]
end
/-- What only block g has turned in is new elsewhere. -/
theorem Reads.kept {k : IntKind} {w w' : World} {p : Option Addr} {cap g : Nat} {zs : List Int} (h : Reads k w p cap zs) (hg : w.grownBy w' (some g)) (hne : 0 < zs.length → ∀ a, p = some a → a.block ≠ g) : Reads k w' p cap zs := by
  obtain ⟨h1, h2, h3, h4⟩ := h
  refine ⟨h1, h2, h3, fun hz => ?_⟩
  obtain ⟨b, o, e, hlt, hc⟩ := h4 hz
  exact ⟨b, o, e, Nat.lt_of_lt_of_le hlt hg.size, fun i hi => hg.cell (hc i hi) (by have := hne hz _ e; simpa using this)⟩
/-- A copy into a block that is known whole. -/
theorem wpList_copy_blk {P : Program} {w : World} {ops : Array Oper} {rest : List Oper} {o : Oper} {a : Act} {Q : Exit → Act → World → Prop} (hgd : o.guard = none) (d s : Operand) (dT sT : TypeId)
    (ho : o.op = .call { callee := .builtin .copy, args := #[d, s], argTypes := #[dT, sT] }) (elem : TypeId) (hu : P.underlying dT = some (.slice elem)) (hsz : (P.info? elem).map (·.size) = some 1)
    (dp sp : Option Addr) (dLen dCap sLen sCap : Nat) (hd : a.eval d = .slice dp dLen dCap) (hs : a.eval s = .slice sp sLen sCap)
    (g off : Nat) (cur : List Value) (t : TypeId) (hg : Blk w g t cur) (cs : List Value) (hn : cs.length = Nat.min sLen dLen)
    (hpos : 0 < cs.length → dp = some ⟨g, off, none⟩ ∧ ∃ ad, sp = some ad ∧ ∀ j v, cs[j]? = some v → w.cell? (ad.add j) = some v)
    (hfit : off + cs.length ≤ cur.length) (h1 : ∀ v ∈ cs, v.oneCell' = true)
    (h : ∀ w', Blk w' g t (splice cur off cs) → w.grownBy w' (some g) → wpList P ops Q rest (a.put o.dst (goInt cs.length)) w') :
    wpList P ops Q (o :: rest) a w := by
  by_cases h0 : cs.length = 0
  · obtain rfl : cs = [] := List.eq_nil_of_length_eq_zero h0
    refine wpList_copy_nothing hgd d s dT sT ho elem hu hsz dp sp dLen dCap sLen sCap hd hs (by simpa using hn.symm) ?_
    exact h w (by unfold Blk at hg ⊢; simpa [splice] using hg) (World.grownBy.refl _ _)
  · obtain ⟨rfl, ad, rfl, hsrc⟩ := hpos (by omega)
    refine wpList_copy_own hgd d s dT sT ho elem hu hsz g off dLen dCap ad sLen sCap hd hs cur.toArray t hg cs hn hsrc (by simpa using hfit) h1 ?_
    exact h _ (show _ = _ by simpa [splice] using setRow_heap w g _ _ t _ hg) ⟨rfl, rfl, rfl, by simp [World.setRow], fun k _ hk => setRow_other w g k _ (fun e => hk (by simp [e]))⟩
/-- The same as what it runs to. -/
theorem run_copy_blk {P : Program} (w : World) (dT sT ty elem : TypeId) (hu : P.underlying dT = some (.slice elem)) (hsz : (P.info? elem).map (·.size) = some 1)
    (dp sp : Option Addr) (dLen dCap sLen sCap : Nat) (g off : Nat) (cur : List Value) (t : TypeId) (hg : Blk w g t cur) (cs : List Value) (hn : cs.length = Nat.min sLen dLen)
    (hpos : 0 < cs.length → dp = some ⟨g, off, none⟩ ∧ ∃ ad, sp = some ad ∧ ∀ j v, cs[j]? = some v → w.cell? (ad.add j) = some v)
    (hfit : off + cs.length ≤ cur.length) (h1 : ∀ v ∈ cs, v.oneCell' = true) :
    ∃ w', (Builtin.copy_ #[dT, sT] ty #[.slice dp dLen dCap, .slice sp sLen sCap]).run P w = .ok (goInt cs.length) w' ∧ Blk w' g t (splice cur off cs) ∧ w.grownBy w' (some g) := by
  by_cases h0 : cs.length = 0
  · obtain rfl : cs = [] := List.eq_nil_of_length_eq_zero h0
    exact ⟨w, run_copy_none (P := P) w dT sT ty elem dp sp dLen dCap sLen sCap hu hsz (by simpa using hn.symm), by unfold Blk at hg ⊢; simpa [splice] using hg, World.grownBy.refl _ _⟩
  · obtain ⟨rfl, ad, rfl, hsrc⟩ := hpos (by omega)
    exact ⟨_, run_copy_row (P := P) w dT sT ty elem g off dLen dCap ad sLen sCap cur.toArray t cs hu hsz hg hn hsrc (by simpa using hfit) h1, show _ = _ by simpa [splice] using setRow_heap w g _ _ t _ hg, ⟨rfl, rfl, rfl, by simp [World.setRow], fun k _ hk => setRow_other w g k _ (fun e => hk (by simp [e]))⟩⟩
/-- The same as one operation. -/
theorem wp_copy_blk {P : Program} {w : World} {o : Oper} {a : Act} {K : Act → World → Prop} {Q : Exit → Act → World → Prop} (d s : Operand) (dT sT : TypeId)
    (ho : o.op = .call { callee := .builtin .copy, args := #[d, s], argTypes := #[dT, sT] }) (elem : TypeId) (hu : P.underlying dT = some (.slice elem)) (hsz : (P.info? elem).map (·.size) = some 1)
    (dp sp : Option Addr) (dLen dCap sLen sCap : Nat) (hd : a.eval d = .slice dp dLen dCap) (hs : a.eval s = .slice sp sLen sCap)
    (g off : Nat) (cur : List Value) (t : TypeId) (hg : Blk w g t cur) (cs : List Value) (hn : cs.length = Nat.min sLen dLen)
    (hpos : 0 < cs.length → dp = some ⟨g, off, none⟩ ∧ ∃ ad, sp = some ad ∧ ∀ j v, cs[j]? = some v → w.cell? (ad.add j) = some v)
    (hfit : off + cs.length ≤ cur.length) (h1 : ∀ v ∈ cs, v.oneCell' = true)
    (h : ∀ w', Blk w' g t (splice cur off cs) → w.grownBy w' (some g) → K (a.put o.dst (goInt cs.length)) w') :
    Oper.wp P o a w K Q := by
  by_cases h0 : cs.length = 0
  · obtain rfl : cs = [] := List.eq_nil_of_length_eq_zero h0
    have hrun := run_copy_none (P := P) w dT sT o.type elem dp sp dLen dCap sLen sCap hu hsz (by simpa using hn.symm)
    unfold Oper.wp
    simp [execOp, ho, resolve, invoke, builtin, hd, hs, hrun, Result.andThen]
    exact h w (by unfold Blk at hg ⊢; simpa [splice] using hg) (World.grownBy.refl _ _)
  · obtain ⟨rfl, ad, rfl, hsrc⟩ := hpos (by omega)
    have hrun := run_copy_row (P := P) w dT sT o.type elem g off dLen dCap ad sLen sCap cur.toArray t cs hu hsz hg hn hsrc (by simpa using hfit) h1
    unfold Oper.wp
    simp [execOp, ho, resolve, invoke, builtin, hd, hs, hrun, Result.andThen]
    exact h _ (show _ = _ by simpa [splice] using setRow_heap w g _ _ t _ hg) ⟨rfl, rfl, rfl, by simp [World.setRow], fun k _ hk => setRow_other w g k _ (fun e => hk (by simp [e]))⟩
/-- The same as one step of a region that draws its order. -/
theorem step_copy_blk {P : Program} {ops : Array Oper} {w : World} {o : Oper} {a : Act} {K : Act → World → Prop} {Q : Exit → Act → World → Prop} {E : Prop} (hgd : o.guard = none) (d s : Operand) (dT sT : TypeId)
    (ho : o.op = .call { callee := .builtin .copy, args := #[d, s], argTypes := #[dT, sT] }) (elem : TypeId) (hu : P.underlying dT = some (.slice elem)) (hsz : (P.info? elem).map (·.size) = some 1)
    (dp sp : Option Addr) (dLen dCap sLen sCap : Nat) (hd : a.eval d = .slice dp dLen dCap) (hs : a.eval s = .slice sp sLen sCap)
    (g off : Nat) (cur : List Value) (t : TypeId) (hg : Blk w g t cur) (cs : List Value) (hn : cs.length = Nat.min sLen dLen)
    (hpos : 0 < cs.length → dp = some ⟨g, off, none⟩ ∧ ∃ ad, sp = some ad ∧ ∀ j v, cs[j]? = some v → w.cell? (ad.add j) = some v)
    (hfit : off + cs.length ≤ cur.length) (h1 : ∀ v ∈ cs, v.oneCell' = true)
    (h : ∀ w', Blk w' g t (splice cur off cs) → w.grownBy w' (some g) → K (a.put o.dst (goInt cs.length)) w') :
    if Region.wanted o (yielded ops a.tmps) = true then Oper.wp P o a w K Q else E := by
  rw [if_pos (show Region.wanted o (yielded ops a.tmps) = true by simp [Region.wanted, hgd])]
  exact wp_copy_blk d s dT sT ho elem hu hsz dp sp dLen dCap sLen sCap hd hs g off cur t hg cs hn hpos hfit h1 h
/-- A slice that is made. -/
theorem run_make_blk {P : Program} (w : World) (t e : TypeId) (i : TypeInfo) (k : IntKind) (ht : P.underlying t = some (.slice e)) (hi : P.info? e = some i) (hz : i.zero = some (.int k 0)) (hsize : i.size = 1) (hby : i.bytes = 1) (n : Nat) (hn : n ≤ 100000) :
    ∃ w', (Instr.makeSlice t (.int .i64 (n : Int)) (.int .i64 (n : Int))).run P w = .ok (.slice (some ⟨w.heap.size, 0, none⟩) n n) w' ∧ Blk w' w.heap.size e ((List.replicate n (0 : Int)).map (Value.int k)) ∧ w.grownBy w' none := by
  obtain ⟨w', hr, ho, hg⟩ := run_make_full (P := P) w w.heap.size t e i (.int k 0) 1 ht hi hz hsize .i64 .i64 n (by rw [hby]; omega) (by unfold maxLen; omega) (Nat.le_refl _)
  refine ⟨w', hr, ?_, hg⟩
  rcases ho.2 with ⟨h, _⟩ | ⟨g, cap, cur, hv, _, hh, _, _, hs, htk⟩
  · simp at h
  · simp only [Value.slice.injEq, Option.some.injEq, Addr.mk.injEq, and_true, true_and] at hv
    obtain ⟨rfl, rfl⟩ := hv
    unfold Blk
    rw [hh]
    have e1 : cur.toList = (madeCells #[Value.int k 0] n).toList := by
      rw [List.take_of_length_le (by rw [Array.length_toList, hs]; exact Nat.le_refl _)] at htk
      simpa [Value.cells] using htk
    rw [toList_madeCells_one] at e1
    have e2 : cur = (List.replicate n (Value.int k 0)).toArray := by rw [← e1]
    rw [e2]
    simp
/-- What is read lies elsewhere than what is made later. -/
theorem Reads.apart {k : IntKind} {w : World} {p : Option Addr} {cap g : Nat} {zs : List Int} (h : Reads k w p cap zs) (hg : w.heap.size ≤ g) : 0 < zs.length → ∀ a, p = some a → a.block ≠ g := by
  intro hz a ha
  obtain ⟨b, o, e, hlt, _⟩ := h.2.2.2 hz
  rw [e] at ha
  obtain rfl := Option.some.inj ha
  exact fun q => by simp only at q; omega
/-- An append of what is read to what is the call's own, as what it runs to, and as one step of a region that draws its order. -/
theorem run_append_reads {P : Program} (w : World) (t ty : TypeId) (base : Nat) (e : TypeId) (i : TypeInfo) (k : IntKind) (ht : P.underlying t = some (.slice e)) (hi : P.info? e = some i) (hz : i.zero = some (.int k 0)) (hsize : i.size = 1) (hby : i.bytes = 1)
    (v : Value) (n : Nat) (xs : List Value) (hown : w.ownsRow base e 1 v n xs) (p : Option Addr) (m c : Nat) (zs : List Int) (hm : zs.length = m) (hr : Reads k w p c zs) (h63 : n + m ≤ 100000) (hbase : base ≤ w.heap.size) :
    ∃ v' w', (Builtin.append_ #[t, t] ty #[v, .slice p m c]).run P w = .ok v' w' ∧ w'.ownsRow base e 1 v' (n + m) (xs ++ zs.map (Value.int k)) ∧ w.grownBy w' v.ownBlock := by
  cases p with
  | none =>
    have hc := hr.2.2.1 rfl
    have h1 := hr.1
    subst hc
    obtain rfl : zs = [] := List.eq_nil_of_length_eq_zero (by omega)
    obtain rfl : m = 0 := by simpa using hm.symm
    exact ⟨v, w, run_append_owned_none w base t ty e i 1 ht hi v n xs hown, by simpa using hown, World.grownBy.refl _ _⟩
  | some ad =>
    obtain ⟨v', w', h1, h2, h3, _⟩ := run_append_own (P := P) w base t ty e i (.int k 0) 1 1 ht hi hz hsize hby rfl (by decide) v n xs hown ad m c (zs.map (Value.int k)) (by simp [hm]) (fun j u hu => by
      have hj : j < zs.length := by
        have := (List.getElem?_eq_some_iff.1 hu).1
        simpa using this
      obtain ⟨b', o', e', _, hc⟩ := hr.2.2.2 (by omega)
      simp only [Option.some.injEq] at e'
      subst e'
      rw [Addr.add_lit, hc j hj, ← hu]
      simp [hj]) (ints_oneCell _ _) (by unfold maxLen; omega) (by omega) hbase
    exact ⟨v', w', h1, h2, h3⟩
theorem step_append_reads {P : Program} {ops : Array Oper} {w : World} {o : Oper} {a : Act} {K : Act → World → Prop} {Q : Exit → Act → World → Prop} {E : Prop} (hgd : o.guard = none) (s x : Operand) (t : TypeId)
    (ho : o.op = .call { callee := .builtin .append, args := #[s, x], argTypes := #[t, t] }) (base : Nat) (e : TypeId) (i : TypeInfo) (k : IntKind) (ht : P.underlying t = some (.slice e)) (hi : P.info? e = some i) (hz : i.zero = some (.int k 0)) (hsize : i.size = 1) (hby : i.bytes = 1)
    (v : Value) (n : Nat) (xs : List Value) (hs : a.eval s = v) (hown : w.ownsRow base e 1 v n xs) (p : Option Addr) (m c : Nat) (zs : List Int) (hx : a.eval x = .slice p m c) (hm : zs.length = m) (hr : Reads k w p c zs) (h63 : n + m ≤ 100000) (hbase : base ≤ w.heap.size)
    (h : ∀ v' w', w'.ownsRow base e 1 v' (n + m) (xs ++ zs.map (Value.int k)) → w.grownBy w' v.ownBlock → K (a.put o.dst v') w') :
    if Region.wanted o (yielded ops a.tmps) = true then Oper.wp P o a w K Q else E := by
  rw [if_pos (show Region.wanted o (yielded ops a.tmps) = true by simp [Region.wanted, hgd])]
  obtain ⟨v', w', hrun, h1, h2⟩ := run_append_reads (P := P) w t o.type base e i k ht hi hz hsize hby v n xs hown p m c zs hm hr h63 hbase
  unfold Oper.wp
  simp [execOp, ho, resolve, invoke, builtin, hs, hx, hrun, Result.andThen]
  exact h v' w' h1 h2
/-- What is read, as a copy asks for it. -/
theorem reads_pos {k : IntKind} {w : World} {p : Option Addr} {cap : Nat} {zs : List Int} (h : Reads k w p cap zs) (hp : 0 < (zs.map (Value.int k)).length) :
    ∃ ad, p = some ad ∧ ∀ j v, (zs.map (Value.int k))[j]? = some v → w.cell? (ad.add j) = some v := by
  obtain ⟨b, o, rfl, _, _⟩ := h.2.2.2 (by simpa using hp)
  exact ⟨_, rfl, reads_news h⟩
end Go.Proofs.Ythgafnommcodcaa.Mem
