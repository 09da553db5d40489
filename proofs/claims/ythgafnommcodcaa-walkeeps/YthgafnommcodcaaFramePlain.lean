/-
  Records, their bytes, and sectors as lists: what the programs do, in plain words. Nothing of a program is named here.
-/
import Derived.Test.YthgafnommcodcaaCrcPlain
namespace Go.Proofs.Ythgafnommcodcaa.Frame
open Go.Proofs.Ythgafnommcodcaa.Crc

/-- A number's last bytes, the highest first; and the number of bytes. -/
def be : Nat → Nat → List Int
  | 0, _ => []
  | k + 1, n => be k (n / 256) ++ [((n % 256 : Nat) : Int)]
def num (l : List Int) : Nat := l.foldl (fun a c => a * 256 + c.toNat) 0
theorem be_len : ∀ k n, (be k n).length = k
  | 0, _ => rfl
  | k + 1, n => by simp [be, be_len k]
theorem be_front : ∀ k n, be (k + 1) n = ((n / 256 ^ k % 256 : Nat) : Int) :: be k n
  | 0, n => by simp [be]
  | k + 1, n => by
    rw [be, be_front k (n / 256), be, Nat.div_div_eq_div_mul, Nat.pow_succ, Nat.mul_comm (256 ^ k) 256]
    simp
theorem be_bytes : ∀ k n, ∀ c ∈ be k n, Byte c
  | 0, _ => by simp [be]
  | k + 1, n => by
    intro c hc
    rcases List.mem_append.1 hc with hc | hc
    · exact be_bytes k _ c hc
    · simp at hc; subst hc; constructor <;> omega
theorem num_snoc (l : List Int) (c : Int) : num (l ++ [c]) = num l * 256 + c.toNat := by simp [num]
theorem num_be : ∀ k n, n < 256 ^ k → num (be k n) = n
  | 0, n, h => by simp at h; subst h; rfl
  | k + 1, n, h => by
    rw [be, num_snoc, num_be k (n / 256) (Nat.div_lt_of_lt_mul (by rw [Nat.mul_comm, ← Nat.pow_succ]; exact h))]
    have : ((n % 256 : Nat) : Int).toNat = n % 256 := by omega
    rw [this]
    omega
theorem num_fold : ∀ (l : List Int) (a : Nat), l.foldl (fun a c => a * 256 + c.toNat) a = a * 256 ^ l.length + num l
  | [], a => by simp [num]
  | c :: r, a => by
    have e : num (c :: r) = c.toNat * 256 ^ r.length + num r := by
      show List.foldl _ 0 (c :: r) = _
      rw [List.foldl_cons, num_fold r (0 * 256 + c.toNat)]
      simp
    rw [List.foldl_cons, num_fold r, e, List.length_cons, Nat.pow_succ, Nat.add_mul, Nat.mul_comm (256 ^ r.length) 256, Nat.mul_assoc]
    omega
theorem num_cons (c : Int) (l : List Int) : num (c :: l) = c.toNat * 256 ^ l.length + num l := by
  rw [num, List.foldl_cons, num_fold]; simp
theorem num_lt : ∀ l : List Int, (∀ c ∈ l, Byte c) → num l < 256 ^ l.length
  | [], _ => by simp [num]
  | c :: r, h => by
    have h1 := num_lt r fun x hx => h x (by simp [hx])
    have h2 := h c (by simp)
    have h3 : c.toNat + 1 ≤ 256 := by have := h2.1; have := h2.2; omega
    rw [num_cons, List.length_cons, Nat.pow_succ, Nat.mul_comm (256 ^ r.length) 256]
    have h4 : (c.toNat + 1) * 256 ^ r.length ≤ 256 * 256 ^ r.length := Nat.mul_le_mul_right _ h3
    rw [Nat.add_mul] at h4
    omega

/-- A sector: sixty-four bytes. -/
abbrev Sec := {l : List Int // l.length = 64}
def zero : Sec := ⟨List.replicate 64 0, by simp⟩
def flat (l : List Sec) : List Int := l.flatMap (·.1)
/-- Bytes in so many sectors, what is left filled up with zeros. -/
def pad (l : List Int) : Sec := ⟨(l ++ List.replicate 64 0).take 64, by simp⟩
def secs : Nat → List Int → List Sec
  | 0, _ => []
  | n + 1, b => pad b :: secs n (b.drop 64)
theorem secs_len : ∀ n b, (secs n b).length = n
  | 0, _ => rfl
  | n + 1, b => by simp [secs, secs_len n]
theorem flat_len : ∀ l : List Sec, (flat l).length = 64 * l.length
  | [] => rfl
  | s :: r => by
    have h := flat_len r
    have h2 := s.2
    simp only [flat, List.flatMap_cons, List.length_append, List.length_cons] at h ⊢
    omega
theorem flat_app (l k : List Sec) : flat (l ++ k) = flat l ++ flat k := by simp [flat]
theorem flat_secs : ∀ (n : Nat) (b : List Int), b.length ≤ 64 * n → flat (secs n b) = b ++ List.replicate (64 * n - b.length) 0
  | 0, b, h => by
    have : b = [] := List.eq_nil_of_length_eq_zero (by omega)
    subst this; rfl
  | n + 1, b, h => by
    have e : flat (secs (n + 1) b) = (pad b).1 ++ flat (secs n (b.drop 64)) := by simp [flat, secs]
    rw [e, flat_secs n (b.drop 64) (by simp; omega)]
    show (b ++ List.replicate 64 0).take 64 ++ _ = _
    rcases Nat.le_total 64 b.length with hb | hb
    · rw [List.take_append_of_le_length hb, ← List.append_assoc, List.take_append_drop, List.length_drop]
      congr 2
      omega
    · rw [List.drop_of_length_le hb, List.take_append, List.take_of_length_le hb, List.take_replicate, List.append_assoc, List.nil_append, List.replicate_append_replicate]
      simp only [List.length_nil]
      congr 2
      omega
/-- How many sectors so many bytes of payload need. -/
def size (m : Nat) : Nat := if m ≤ 700 then (m + 81) / 64 else 0
/-- The bytes of a record. -/
def plain (s e : Nat) (p : List Int) : List Int := be 2 p.length ++ (be 8 s ++ (be 4 e ++ p))
def all (s e : Nat) (p : List Int) : List Int := sealed (plain s e p)
def right (s : Nat) (p : List Int) : Bool := decide (p.length ≤ 700) && decide (0 < s)
def made (s e : Nat) (p : List Int) : List Sec := if right s p then secs (size p.length) (all s e p) else []
def fault (s : Nat) (p : List Int) : Int := if right s p then 0 else 81
theorem plain_len (s e : Nat) (p : List Int) : (plain s e p).length = p.length + 14 := by simp [plain, be_len]; omega
theorem all_len (s e : Nat) (p : List Int) : (all s e p).length = p.length + 18 := by
  unfold all sealed four
  rw [List.length_append, plain_len]; rfl
theorem plain_bytes {s e : Nat} {p : List Int} (h : ∀ c ∈ p, Byte c) : ∀ c ∈ plain s e p, Byte c := by
  intro c hc
  simp only [plain, List.mem_append] at hc
  rcases hc with hc | hc | hc | hc
  · exact be_bytes _ _ c hc
  · exact be_bytes _ _ c hc
  · exact be_bytes _ _ c hc
  · exact h c hc
theorem made_len {s e : Nat} {p : List Int} (h : right s p = true) : (made s e p).length = size p.length := by simp [made, h, secs_len]
theorem size_fits {m : Nat} (h : m ≤ 700) : m + 18 ≤ 64 * size m ∧ 64 * size m < m + 18 + 64 ∧ 0 < size m ∧ size m ≤ 12 := by
  unfold size; rw [if_pos h]; omega
theorem flat_made {s e : Nat} {p : List Int} (h : right s p = true) : flat (made s e p) = all s e p ++ List.replicate (64 * size p.length - (p.length + 18)) 0 := by
  have h7 : p.length ≤ 700 := by simp [right] at h; exact h.1
  rw [made, if_pos h, flat_secs _ _ (by rw [all_len]; exact (size_fits h7).1), all_len]
/-- A record, how many sectors it has, and whether there is one. -/
structure Got where
  ok : Bool
  n : Nat
  s : Nat
  e : Nat
  p : List Int
def nought : Got := ⟨false, 0, 0, 0, []⟩
/-- What the fields say. -/
def long (b : List Int) : Nat := num (b.take 2)
def seqOf (b : List Int) : Nat := num ((b.drop 2).take 8)
def epochOf (b : List Int) : Nat := num ((b.drop 10).take 4)
def payOf (b : List Int) : List Int := (b.drop 14).take (long b)
def roomy (l : List Sec) : Bool := decide (0 < l.length) && (decide (0 < size (long (flat l))) && decide (size (long (flat l)) ≤ l.length))
def opens (l : List Sec) : Bool := roomy l && (right (seqOf (flat l)) (payOf (flat l)) && decide (made (seqOf (flat l)) (epochOf (flat l)) (payOf (flat l)) = l.take (size (long (flat l)))))
def got (l : List Sec) : Got := if opens l then ⟨true, size (long (flat l)), seqOf (flat l), epochOf (flat l), payOf (flat l)⟩ else nought
theorem long_of (s e : Nat) (p X : List Int) (h : p.length ≤ 700) : long (plain s e p ++ X) = p.length := by
  have : (plain s e p ++ X).take 2 = be 2 p.length := by
    rw [plain, List.append_assoc]
    exact List.take_left' (be_len _ _)
  rw [long, this, num_be _ _ (by omega)]
theorem seq_of (s e : Nat) (p X : List Int) (h : s < 256 ^ 8) : seqOf (plain s e p ++ X) = s := by
  have : ((plain s e p ++ X).drop 2).take 8 = be 8 s := by
    rw [plain, List.append_assoc, List.drop_left' (be_len _ _), List.append_assoc]
    exact List.take_left' (be_len _ _)
  rw [seqOf, this, num_be _ _ h]
theorem epoch_of (s e : Nat) (p X : List Int) (h : e < 256 ^ 4) : epochOf (plain s e p ++ X) = e := by
  have : ((plain s e p ++ X).drop 10).take 4 = be 4 e := by
    rw [plain, List.append_assoc, List.append_assoc, ← List.append_assoc, List.drop_left' (by simp [be_len]), List.append_assoc]
    exact List.take_left' (be_len _ _)
  rw [epochOf, this, num_be _ _ h]
theorem pay_of (s e : Nat) (p X : List Int) (h : p.length ≤ 700) : payOf (plain s e p ++ X) = p := by
  have : (plain s e p ++ X).drop 14 = p ++ X := by
    have e1 : plain s e p ++ X = (be 2 p.length ++ (be 8 s ++ be 4 e)) ++ (p ++ X) := by simp [plain]
    rw [e1]
    exact List.drop_left' (by simp [be_len])
  rw [payOf, this, long_of s e p X h]
  exact List.take_left' rfl
/-- What is made is opened, whatever is behind. -/
theorem got_made {s e : Nat} {p : List Int} (hr : right s p = true) (hs : s < 256 ^ 8) (he : e < 256 ^ 4) (more : List Sec) : got (made s e p ++ more) = ⟨true, (made s e p).length, s, e, p⟩ := by
  have h7 : p.length ≤ 700 := by simp [right] at hr; exact hr.1
  obtain ⟨X, hX⟩ : ∃ X, flat (made s e p ++ more) = plain s e p ++ X := by
    refine ⟨four (sum (plain s e p)) ++ (List.replicate (64 * size p.length - (p.length + 18)) 0 ++ flat more), ?_⟩
    rw [flat_app, flat_made hr, all, sealed]
    simp
  have hf := size_fits h7
  have h1 : long (flat (made s e p ++ more)) = p.length := by rw [hX]; exact long_of s e p X h7
  have h2 : seqOf (flat (made s e p ++ more)) = s := by rw [hX]; exact seq_of s e p X hs
  have h3 : epochOf (flat (made s e p ++ more)) = e := by rw [hX]; exact epoch_of s e p X he
  have h4 : payOf (flat (made s e p ++ more)) = p := by rw [hX]; exact pay_of s e p X h7
  have hl := made_len (e := e) hr
  have ho : opens (made s e p ++ more) = true := by
    unfold opens roomy
    rw [h1, h2, h3, h4, hr, List.take_left' hl]
    simp
    omega
  rw [got, if_pos ho, h1, h2, h3, h4, hl]
theorem flat_take (l : List Sec) (k : Nat) : flat (l.take k) = (flat l).take (64 * k) := by
  rcases Nat.le_total l.length k with h | h
  · rw [List.take_of_length_le h, List.take_of_length_le (by rw [flat_len]; omega)]
  · have e : flat l = flat (l.take k) ++ flat (l.drop k) := by rw [← flat_app, List.take_append_drop]
    rw [e, List.take_left' (by rw [flat_len, List.length_take]; omega)]
/-- With fewer it isn't opened. -/
theorem opens_less {s e : Nat} {p : List Int} (hr : right s p = true) {k : Nat} (hk : k < (made s e p).length) : opens ((made s e p).take k) = false := by
  have h7 : p.length ≤ 700 := by simp [right] at hr; exact hr.1
  rcases Nat.eq_zero_or_pos k with h0 | h0
  · subst h0; simp [opens, roomy]
  · have e1 : long (flat ((made s e p).take k)) = p.length := by
      have : (flat ((made s e p).take k)).take 2 = (flat (made s e p)).take 2 := by rw [flat_take, List.take_take]; congr 1; omega
      have h1 : long (flat (made s e p)) = p.length := by
        rw [flat_made hr, all, sealed, List.append_assoc]; exact long_of s e p _ h7
      rw [long, this]; exact h1
    rw [made_len hr] at hk
    unfold opens roomy
    rw [e1]
    have : decide (size p.length ≤ ((made s e p).take k).length) = false := decide_eq_false (by rw [List.length_take]; omega)
    rw [this]
    simp
theorem got_less {s e : Nat} {p : List Int} (hr : right s p = true) {k : Nat} (hk : k < (made s e p).length) : (got ((made s e p).take k)).ok = false := by
  rw [got, if_neg (by rw [opens_less hr hk]; simp)]; rfl
theorem zeros_num : ∀ n, num (List.replicate n 0) = 0
  | 0 => rfl
  | n + 1 => by rw [List.replicate_succ, num_cons, zeros_num n]; simp
theorem flat_zero (n : Nat) : flat (List.replicate n zero) = List.replicate (64 * n) 0 := by
  induction n with
  | zero => rfl
  | succ n ih =>
    have : flat (List.replicate (n + 1) zero) = zero.1 ++ flat (List.replicate n zero) := by simp [flat, List.replicate_succ]
    rw [this, ih]
    show List.replicate 64 0 ++ _ = _
    rw [List.replicate_append_replicate]
    congr 1
    omega
theorem got_zero (n : Nat) : got (List.replicate n zero) = nought := by
  have h : seqOf (flat (List.replicate n zero)) = 0 := by
    rw [flat_zero, seqOf, List.drop_replicate, List.take_replicate, zeros_num]
  rw [got, if_neg]
  unfold opens right
  rw [h]
  simp
end Go.Proofs.Ythgafnommcodcaa.Frame
