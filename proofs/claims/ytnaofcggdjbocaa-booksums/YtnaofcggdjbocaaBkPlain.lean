/-
  Books: which can be, their numbers, the book of numbers, what comes of a commit, a lease, a period. Whole numbers and lists alone.
-/
import Derived.Test.YtnaofcggdjbocaaKinds
import Derived.WalkKit
import Derived.Lib.ItoaNum
import Derived.Laws.BitsLemmas
import Derived.Test.YtnaofcggdjbocaaPolSat
/-
  Plain facts on numbers as groups of seven bits: definitions and facts on whole numbers and lists; nothing of the program is named here.
-/
namespace Go.Proofs.Ytnaofcggdjbocaa.Leb

/-- A number as groups of seven bits, the lowest first. -/
def putF : Nat → Int → List Int
  | 0, n => [n]
  | k + 1, n => if n < 128 then [n] else (128 + n % 128) :: putF k (n / 128)
def put (n : Int) : List Int := putF n.toNat n
theorem putF_small {n : Int} (h : n < 128) : ∀ k : Nat, putF k n = [n]
  | 0 => rfl
  | _ + 1 => by simp only [putF]; rw [if_pos h]
theorem putF_enough : ∀ (k j : Nat) (n : Int), n.toNat ≤ k → n.toNat ≤ j → putF k n = putF j n
  | 0, j, n, hk, _ => by rw [putF_small (by omega), putF_small (by omega)]
  | k + 1, 0, n, _, hj => by rw [putF_small (by omega), putF_small (by omega)]
  | k + 1, j + 1, n, hk, hj => by
    by_cases h : n < 128
    · rw [putF_small h, putF_small h]
    · simp only [putF]
      rw [if_neg h, if_neg h, putF_enough k j (n / 128) (by omega) (by omega)]
theorem put_small {n : Int} (h : n < 128) : put n = [n] := putF_small h _
theorem put_big {n : Int} (h : ¬ n < 128) : put n = (128 + n % 128) :: put (n / 128) := by
  obtain ⟨k, hk⟩ : ∃ k, n.toNat = k + 1 := ⟨n.toNat - 1, by omega⟩
  unfold put
  rw [hk]
  simp only [putF]
  rw [if_neg h, putF_enough k (n / 128).toNat (n / 128) (by omega) (by omega)]

/-- Induction along the groups. -/
theorem put_ind {p : Int → Prop} (small : ∀ n, 0 ≤ n → n < 128 → p n) (big : ∀ n, 128 ≤ n → p (n / 128) → p n) : ∀ (k : Nat) (n : Int), 0 ≤ n → n.toNat ≤ k → p n
  | 0, n, h0, hk => small n h0 (by omega)
  | k + 1, n, h0, hk => by
    by_cases h : n < 128
    · exact small n h0 h
    · exact big n (by omega) (put_ind small big k (n / 128) (by omega) (by omega))
theorem put_induct {p : Int → Prop} (small : ∀ n, 0 ≤ n → n < 128 → p n) (big : ∀ n, 128 ≤ n → p (n / 128) → p n) (n : Int) (h : 0 ≤ n) : p n := put_ind small big n.toNat n h (Nat.le_refl _)

/-- The number of groups of seven bits. -/
def val : List Int → Int
  | [] => 0
  | c :: r => c % 128 + 128 * val r
theorem val_nonneg : ∀ l : List Int, 0 ≤ val l
  | [] => by simp [val]
  | c :: r => by have := val_nonneg r; simp only [val]; omega
theorem val_put (n : Int) (h : 0 ≤ n) : val (put n) = n := by
  refine put_induct (p := fun n => val (put n) = n) (fun n h0 h1 => ?_) (fun n h0 ih => ?_) n h
  · rw [put_small h1]; simp only [val]; omega
  · rw [put_big (by omega)]; simp only [val]; rw [ih]; omega
theorem put_bytes (n : Int) (h : 0 ≤ n) : ∀ c ∈ put n, Byte c := by
  refine put_induct (p := fun n => ∀ c ∈ put n, Byte c) (fun n h0 h1 => ?_) (fun n h0 ih => ?_) n h
  · rw [put_small h1]; simp; exact ⟨h0, by omega⟩
  · rw [put_big (by omega)]; simp only [List.mem_cons, forall_eq_or_imp]; exact ⟨⟨by omega, by omega⟩, ih⟩
theorem put_pos (n : Int) : 0 < (put n).length := by
  by_cases h : n < 128
  · rw [put_small h]; simp
  · rw [put_big h]; simp

theorem pow_pos (k : Nat) : (0 : Int) < 128 ^ k := Int.pow_pos (by decide)
theorem put_len (k : Nat) : ∀ n : Int, 0 ≤ n → ((put n).length ≤ k + 1 ↔ n < 128 ^ (k + 1)) := by
  induction k with
  | zero =>
    intro n h
    by_cases h1 : n < 128
    · rw [put_small h1]; simp; omega
    · rw [put_big h1]; have := put_pos (n / 128); simp; constructor
      · intro h2; rw [h2] at this; simp at this
      · omega
  | succ k ih =>
    intro n h
    have hp : (128 : Int) ^ (k + 1 + 1) = 128 * 128 ^ (k + 1) := by rw [Int.pow_succ, Int.mul_comm]
    have hq := pow_pos (k + 1)
    by_cases h1 : n < 128
    · rw [put_small h1]; simp; rw [hp]; omega
    · rw [put_big h1, List.length_cons, Nat.add_le_add_iff_right, ih (n / 128) (by omega), hp]
      omega
theorem put_le {n : Int} (h : Word n) : (put n).length ≤ 10 := (put_len 9 n h.1).2 (by have := h.2; omega)
theorem put_mono {a b : Int} (h0 : 0 ≤ a) (h : a ≤ b) : (put a).length ≤ (put b).length := by
  obtain ⟨k, hk⟩ : ∃ k, (put b).length = k + 1 := ⟨(put b).length - 1, by have := put_pos b; omega⟩
  rw [hk, put_len k a h0]
  have := (put_len k b (by omega)).1 (by omega)
  omega
theorem put_more {n : Int} {k : Nat} (h : 0 ≤ n) (hk : k + 1 < (put n).length) : 128 ^ (k + 1) ≤ n := by
  have := (put_len k n h)
  omega

/-- How many bytes from the first on have their highest bit set. -/
def lead : List Int → Nat
  | [] => 0
  | c :: r => if c < 128 then 0 else lead r + 1
theorem lead_le : ∀ l : List Int, lead l ≤ l.length
  | [] => by simp [lead]
  | c :: r => by have := lead_le r; simp only [lead]; split <;> simp <;> omega
theorem lead_step : ∀ (l : List Int) (k : Nat), k ≤ lead l → k < l.length → 128 ≤ l.getD k 0 → k + 1 ≤ lead l
  | [], k, _, h, _ => by simp at h
  | c :: r, 0, _, _, h => by
    simp only [lead]
    rw [if_neg (by simpa using h)]
    omega
  | c :: r, k + 1, h1, h2, h3 => by
    simp only [lead] at h1 ⊢
    split at h1
    · omega
    · rename_i hc
      rw [if_neg hc]
      have := lead_step r k (by omega) (by simpa using h2) (by simpa using h3)
      omega
theorem lead_stop : ∀ (l : List Int) (k : Nat), k ≤ lead l → k < l.length → l.getD k 0 < 128 → lead l = k
  | [], k, _, h, _ => by simp at h
  | c :: r, 0, _, _, h => by
    simp only [lead]
    rw [if_pos (by simpa using h)]
  | c :: r, k + 1, h1, h2, h3 => by
    simp only [lead] at h1 ⊢
    split at h1
    · omega
    · rename_i hc
      rw [if_neg hc]
      have := lead_stop r k (by omega) (by simpa using h2) (by simpa using h3)
      omega
theorem lead_put (n : Int) (h : 0 ≤ n) (t : List Int) : lead (put n ++ t) + 1 = (put n).length := by
  refine put_induct (p := fun n => lead (put n ++ t) + 1 = (put n).length) (fun n h0 h1 => ?_) (fun n h0 ih => ?_) n h
  · rw [put_small h1]; simp [lead, h1]
  · rw [put_big (by omega)]
    simp only [List.cons_append, lead, List.length_cons]
    rw [if_neg (by omega), ih]

theorem lead_before : ∀ (l : List Int) (k : Nat), k < lead l → 128 ≤ l.getD k 0
  | [], k, h => by simp [lead] at h
  | c :: r, 0, h => by
    simp only [lead] at h
    split at h
    · omega
    · simp; omega
  | c :: r, k + 1, h => by
    simp only [lead] at h
    split at h
    · omega
    · simpa using lead_before r k (by omega)
theorem lead_at : ∀ l : List Int, lead l < l.length → l.getD (lead l) 0 < 128
  | [], h => by simp at h
  | c :: r, h => by
    simp only [lead] at h ⊢
    split at h
    · rename_i hc
      rw [if_pos hc]; simpa using hc
    · rename_i hc
      rw [if_neg hc]
      simpa using lead_at r (by simpa using h)
theorem put_high {n : Int} (h : 0 ≤ n) {k : Nat} (hk : k + 1 < (put n).length) : 128 ≤ (put n).getD k 0 := by
  have h1 := lead_put n h []
  rw [List.append_nil] at h1
  exact lead_before _ k (by omega)
theorem put_low {n : Int} (h : 0 ≤ n) {k : Nat} (hk : k + 1 = (put n).length) : (put n).getD k 0 < 128 := by
  have h1 := lead_put n h []
  rw [List.append_nil] at h1
  have h2 : lead (put n) = k := by omega
  rw [← h2]
  exact lead_at _ (by omega)

/-- What Get gives: the number, how many bytes it has, the error's number. -/
def gotOf (p : List Int) : Int × Int × Int := if put (val p % 18446744073709551616) = p then (val p % 18446744073709551616, (p.length : Int), 0) else (0, 0, 21)
def lget (l : List Int) : Int × Int × Int := if lead l < l.length ∧ lead l < 10 then gotOf (l.take (lead l + 1)) else (0, 0, 21)
theorem lget_put {n : Int} (h : Word n) (t : List Int) : lget (put n ++ t) = (n, ((put n).length : Int), 0) := by
  have h1 := lead_put n h.1 t
  have h2 := put_le h
  have h3 : n % 18446744073709551616 = n := by have := h.1; have := h.2; omega
  unfold lget
  rw [if_pos ⟨by simp; omega, by omega⟩, h1, List.take_left]
  unfold gotOf
  rw [val_put n h.1, h3, if_pos rfl]
theorem lget_cases (l : List Int) : lget l = (0, 0, 21) ∨ ∃ n : Int, Word n ∧ (put n).length ≤ l.length ∧ l.take (put n).length = put n ∧ lget l = (n, ((put n).length : Int), 0) := by
  unfold lget
  split
  · rename_i h
    unfold gotOf
    split
    · rename_i hp
      refine .inr ⟨val (l.take (lead l + 1)) % 18446744073709551616, ⟨by omega, by omega⟩, ?_, ?_, ?_⟩
      · rw [hp]; simp; omega
      · rw [hp, List.length_take, Nat.min_eq_left (by omega)]
      · rw [hp]
    · exact .inl rfl
  · exact .inl rfl
theorem lget_nil : lget [] = (0, 0, 21) := by simp [lget, lead]
theorem lget_word (l : List Int) : Word (lget l).1 := by
  rcases lget_cases l with h | ⟨n, hn, _, _, h⟩
  · rw [h]; exact ⟨by decide, by decide⟩
  · rw [h]; exact hn

/-- A loop's number behind k bytes. -/
theorem val_take : ∀ (l : List Int) (k : Nat), k < l.length → val (l.take (k + 1)) = val (l.take k) + 128 ^ k * (l.getD k 0 % 128)
  | [], k, h => by simp at h
  | c :: r, 0, _ => by simp [val]
  | c :: r, k + 1, h => by
    have ih := val_take r k (by simpa using h)
    rw [List.take_succ_cons, List.take_succ_cons]
    simp only [val, List.getD_cons_succ]
    rw [ih, Int.pow_succ, Int.mul_add, Int.add_assoc]
    congr 2
    rw [Int.mul_comm (128 ^ k) 128, Int.mul_assoc]
theorem val_lt : ∀ (l : List Int) (k : Nat), l.length ≤ k → val l < 128 ^ k
  | [], k, _ => by have := pow_pos k; simpa [val] using this
  | c :: r, 0, h => by simp at h
  | c :: r, k + 1, h => by
    have ih := val_lt r k (by simpa using h)
    have hp : (128 : Int) ^ (k + 1) = 128 * 128 ^ k := by rw [Int.pow_succ, Int.mul_comm]
    simp only [val]; rw [hp]; omega

/-- From the highest group down. -/
theorem val_from (l : List Int) (k : Nat) (h : k < l.length) : val (l.drop k) = l.getD k 0 % 128 + 128 * val (l.drop (k + 1)) := by
  rw [List.drop_eq_getElem_cons h]
  simp [val, h]

/-- Numbers one behind the other. -/
def nums : List Int → List Int
  | [] => []
  | n :: r => put n ++ nums r
theorem nums_snoc : ∀ (l : List Int) (n : Int), nums (l ++ [n]) = nums l ++ put n
  | [], n => by simp [nums]
  | m :: r, n => by simp [nums, nums_snoc r n]
theorem nums_take (l : List Int) (k : Nat) (h : k < l.length) : nums (l.take (k + 1)) = nums (l.take k) ++ put (l.getD k 0) := by
  rw [List.take_succ_eq_append_getElem h, nums_snoc]
  simp [h]
theorem nums_append : ∀ (a b : List Int), nums (a ++ b) = nums a ++ nums b
  | [], b => by simp [nums]
  | n :: r, b => by simp [nums, nums_append r b]
theorem nums_bytes : ∀ l : List Int, (∀ n ∈ l, Word n) → ∀ c ∈ nums l, Byte c
  | [], _ => by simp [nums]
  | n :: r, h => by
    intro c hc
    simp only [nums, List.mem_append] at hc
    rcases hc with hc | hc
    · exact put_bytes n (h n (by simp)).1 c hc
    · exact nums_bytes r (fun m hm => h m (by simp [hm])) c hc
theorem nums_len : ∀ l : List Int, (∀ n ∈ l, Word n) → (nums l).length ≤ 10 * l.length
  | [], _ => by simp [nums]
  | n :: r, h => by
    have h1 := put_le (h n (by simp))
    have h2 := nums_len r (fun m hm => h m (by simp [hm]))
    simp only [nums, List.length_append, List.length_cons]
    omega

/-- The numbers of bytes, one by one: so many more, from what bytes on, behind what numbers. -/
def allF : Nat → List Int → List Int → List Int × Int
  | 0, _, out => (out, 0)
  | _ + 1, [], out => (out, 0)
  | f + 1, c :: r, out => if (lget (c :: r)).2.2 ≠ 0 ∨ out.length = 128 then ([], 21) else allF f ((c :: r).drop (lget (c :: r)).2.1.toNat) (out ++ [(lget (c :: r)).1])
def lall (l : List Int) : List Int × Int := allF l.length l []
theorem allF_nil (f : Nat) (out : List Int) : allF f [] out = (out, 0) := by cases f <;> rfl
theorem allF_bad {f : Nat} {l out : List Int} (hl : 0 < l.length) (h : (lget l).2.2 ≠ 0 ∨ out.length = 128) : allF (f + 1) l out = ([], 21) := by
  cases l with
  | nil => simp at hl
  | cons c r => simp only [allF]; rw [if_pos h]
theorem allF_good {f : Nat} {l out : List Int} (hl : 0 < l.length) (h : ¬ ((lget l).2.2 ≠ 0 ∨ out.length = 128)) : allF (f + 1) l out = allF f (l.drop (lget l).2.1.toNat) (out ++ [(lget l).1]) := by
  cases l with
  | nil => simp at hl
  | cons c r => simp only [allF]; rw [if_neg h]

/-- There and back. -/
theorem allF_nums : ∀ (l : List Int) (f : Nat) (out : List Int), (∀ n ∈ l, Word n) → out.length + l.length ≤ 128 → (nums l).length ≤ f → allF f (nums l) out = (out ++ l, 0)
  | [], f, out, _, _, _ => by simp [nums, allF_nil]
  | n :: r, f, out, h, h1, h2 => by
    have hp := put_pos n
    simp only [nums, List.length_append, List.length_cons] at h1 h2 ⊢
    obtain ⟨g, rfl⟩ : ∃ g, f = g + 1 := ⟨f - 1, by omega⟩
    have hg := lget_put (h n (by simp)) (nums r)
    rw [allF_good (by simp; omega) (by rw [hg]; simp; omega), hg]
    simp only [Int.toNat_natCast, List.drop_left]
    rw [allF_nums r g (out ++ [n]) (fun m hm => h m (by simp [hm])) (by simp; omega) (by omega)]
    simp
theorem lall_nums (l : List Int) (h : ∀ n ∈ l, Word n) (hl : l.length ≤ 128) : lall (nums l) = (l, 0) := by
  unfold lall
  rw [allF_nums l _ [] h (by simpa using hl) (Nat.le_refl _)]
  simp
theorem allF_back : ∀ (f : Nat) (l out m : List Int), (∀ n ∈ out, Word n) → out.length ≤ 128 → l.length ≤ f → allF f l out = (m, 0) → nums m = nums out ++ l ∧ (∀ n ∈ m, Word n) ∧ m.length ≤ 128
  | 0, l, out, m, ho, hc, hl, h => by
    have hl0 : l = [] := List.eq_nil_of_length_eq_zero (by omega)
    simp only [allF, Prod.mk.injEq, and_true] at h
    subst h hl0
    exact ⟨by simp, ho, hc⟩
  | f + 1, [], out, m, ho, hc, hl, h => by
    simp only [allF, Prod.mk.injEq, and_true] at h
    subst h
    exact ⟨by simp, ho, hc⟩
  | f + 1, c :: r, out, m, ho, hc, hl, h => by
    by_cases hb : (lget (c :: r)).2.2 ≠ 0 ∨ out.length = 128
    · rw [allF_bad (by simp) hb] at h; simp at h
    · rw [allF_good (by simp) hb] at h
      rcases lget_cases (c :: r) with hg | ⟨n, hn, hl1, ht, hg⟩
      · rw [hg] at hb; simp at hb
      · rw [hg] at h hb
        simp only [Int.toNat_natCast] at h
        have hp := put_pos n
        obtain ⟨a1, a2, a3⟩ := allF_back f ((c :: r).drop (put n).length) (out ++ [n]) m (fun k hk => by
          simp only [List.mem_append, List.mem_singleton] at hk
          rcases hk with hk | hk
          · exact ho k hk
          · rw [hk]; exact hn) (by simp at hb ⊢; omega) (by rw [List.length_drop]; omega) h
        refine ⟨?_, a2, a3⟩
        rw [a1, nums_snoc, List.append_assoc]
        congr 1
        conv => lhs; lhs; rw [← ht]
        exact List.take_append_drop _ _
theorem allF_err : ∀ (f : Nat) (l out : List Int), (allF f l out).2 = 0 ∨ allF f l out = ([], 21)
  | 0, _, _ => .inl rfl
  | _ + 1, [], _ => .inl rfl
  | f + 1, c :: r, out => by
    by_cases hb : (lget (c :: r)).2.2 ≠ 0 ∨ out.length = 128
    · exact .inr (allF_bad (by simp) hb)
    · rw [allF_good (by simp) hb]; exact allF_err f _ _
theorem lall_back (l : List Int) : lall l = ([], 21) ∨ ∃ m, lall l = (m, 0) ∧ nums m = l ∧ (∀ n ∈ m, Word n) ∧ m.length ≤ 128 := by
  rcases allF_err l.length l [] with h | h
  · obtain ⟨a1, a2, a3⟩ := allF_back l.length l [] (lall l).1 (by simp) (by simp) (Nat.le_refl _) (by unfold lall; rw [← h])
    exact .inr ⟨(lall l).1, by unfold lall; rw [← h], by simpa [nums] using a1, a2, a3⟩
  · exact .inl h

/-- No number's bytes are the beginning of another one's. -/
theorem put_apart {a b : Int} (ha : Word a) (hb : Word b) (h : ¬ a = b) : ¬ (put a).take (min (put a).length (put b).length) = (put b).take (min (put a).length (put b).length) := by
  intro e
  apply h
  rcases Nat.le_total (put a).length (put b).length with hl | hl
  · rw [Nat.min_eq_left hl, List.take_length] at e
    have h1 := lget_put ha ((put b).drop (put a).length)
    have h2 := lget_put hb []
    conv at h1 => lhs; arg 1; lhs; rw [e]
    rw [List.take_append_drop] at h1
    rw [List.append_nil, h1] at h2
    exact (Prod.mk.inj h2).1
  · rw [Nat.min_eq_right hl, List.take_length] at e
    have h1 := lget_put hb ((put a).drop (put b).length)
    have h2 := lget_put ha []
    conv at h1 => lhs; arg 1; lhs; rw [← e]
    rw [List.take_append_drop] at h1
    rw [List.append_nil, h1] at h2
    exact (Prod.mk.inj h2).1.symm

/-- How many bytes, by the number of bits. -/
def slog (a : Int) : Int := (Lib.bitLen a.toNat : Int)
def size (n : Int) : Int := max 1 ((slog n + 6) / 7)
theorem two_pow_lt {j k : Nat} (h : (2 : Int) ^ j < 2 ^ k) : j < k := by
  rcases Nat.lt_or_ge j k with g | g
  · exact g
  · have := Nat.pow_le_pow_right (n := 2) (by decide) g
    have e : ((2 ^ k : Nat) : Int) ≤ ((2 ^ j : Nat) : Int) := by omega
    simp at e
    omega
theorem slog_bounds {a : Int} (ha : Word a) (hz : ¬ a = 0) : 1 ≤ slog a ∧ slog a ≤ 64 ∧ (2 : Int) ^ ((slog a).toNat - 1) ≤ a ∧ a < 2 ^ (slog a).toNat := by
  obtain ⟨h0, h1⟩ := ha
  obtain ⟨A, rfl⟩ := Int.eq_ofNat_of_zero_le h0
  have hA : A < 2 ^ 64 := by omega
  obtain ⟨p, q, r⟩ := Lib.bitLenAux_bounds 64 A hA (by omega)
  have hL : Lib.bitLenAux 64 A ≤ 64 := Lib.bitLen_le A 64 (Nat.le_refl _) hA
  unfold slog Lib.bitLen
  simp only [Int.toNat_natCast]
  generalize Lib.bitLenAux 64 A = L at *
  refine ⟨by omega, by omega, ?_, ?_⟩
  · have : ((2 ^ (L - 1) : Nat) : Int) ≤ A := by omega
    simpa using this
  · have : (A : Int) < ((2 ^ L : Nat) : Int) := by omega
    simpa using this
theorem slog_le {a : Int} (ha : Word a) : 0 ≤ slog a ∧ slog a ≤ 64 := by
  by_cases hz : a = 0
  · subst hz; decide
  · have := slog_bounds ha hz; omega
theorem pow128 (k : Nat) : (128 : Int) ^ k = 2 ^ (7 * k) := by
  rw [Int.pow_mul]; rfl
theorem size_put {n : Int} (h : Word n) : size n = ((put n).length : Int) := by
  by_cases hz : n = 0
  · subst hz; rw [put_small (by decide)]; decide
  obtain ⟨l1, l2, l3, l4⟩ := slog_bounds h hz
  obtain ⟨k, hk⟩ : ∃ k, (put n).length = k + 1 := ⟨(put n).length - 1, by have := put_pos n; omega⟩
  have u := (put_len k n h.1).1 (by omega)
  rw [pow128] at u
  have hu : (slog n).toNat - 1 < 7 * (k + 1) := two_pow_lt (by omega)
  have hd : 7 * k < (slog n).toNat := by
    by_cases hk0 : k = 0
    · omega
    obtain ⟨j, rfl⟩ : ∃ j, k = j + 1 := ⟨k - 1, by omega⟩
    have d := put_more (k := j) h.1 (by omega)
    rw [pow128] at d
    exact two_pow_lt (by omega)
  unfold size
  rw [hk]
  omega

/-- Ints as numbers. -/
def zig (n : Int) : Int := if n < 0 then -2 * n - 1 else 2 * n
def zag (u : Int) : Int := if u % 2 = 1 then -(u / 2) - 1 else u / 2
theorem zag_zig (n : Int) : zag (zig n) = n := by unfold zag zig; split <;> split <;> omega
theorem zig_zag {u : Int} (h : 0 ≤ u) : zig (zag u) = u := by unfold zag zig; split <;> split <;> omega
theorem zig_word {n : Int} (h : Inty n) : Word (zig n) := by obtain ⟨h1, h2⟩ := h; unfold zig Word; split <;> constructor <;> omega
theorem zag_inty {u : Int} (h : Word u) : Inty (zag u) := by obtain ⟨h1, h2⟩ := h; unfold zag Inty; split <;> constructor <;> omega

set_option maxRecDepth 100000 in
/-- Bits of a byte. -/
theorem low_of_byte {c : Int} (h : Byte c) : bits .andNot .u8 c 128 = c % 128 := by
  have key : ∀ a : Fin 256, bits .andNot .u8 ((a.val : Nat) : Int) 128 = ((a.val : Nat) : Int) % 128 := by decide
  obtain ⟨h0, h1⟩ := h
  obtain ⟨a, rfl⟩ := Int.eq_ofNat_of_zero_le h0
  exact key ⟨a, by omega⟩
set_option maxRecDepth 100000 in
theorem high_of_byte {c : Int} (h : Byte c) : bits .or .u8 c 128 = 128 + c % 128 := by
  have key : ∀ a : Fin 256, bits .or .u8 ((a.val : Nat) : Int) 128 = 128 + ((a.val : Nat) : Int) % 128 := by decide
  obtain ⟨h0, h1⟩ := h
  obtain ⟨a, rfl⟩ := Int.eq_ofNat_of_zero_le h0
  exact key ⟨a, by omega⟩
theorem wraps_u64 (n : Int) (h₀ : 0 ≤ n) (h₁ : n < 2 ^ 64) : IntKind.u64.wrap n = n := by rw [IntKind.wrap_u64]; omega
/-- A group is laid above the others. -/
theorem join_groups (l : List Int) (k : Nat) (hk : k ≤ 9) (hl : k < l.length) :
    bits .or .u64 (val (l.take k) % 18446744073709551616) (IntKind.u64.wrap (l.getD k 0 % 128 * 2 ^ (7 * k))) = val (l.take (k + 1)) % 18446744073709551616 := by
  have hv0 := val_nonneg (l.take k)
  have hv1 := val_lt (l.take k) k (by simp; omega)
  have hp : (128 : Int) ^ k ≤ 9223372036854775808 := by
    have h9 : (128 : Int) ^ 9 = 9223372036854775808 := by decide
    rw [← h9]
    have := Nat.pow_le_pow_right (n := 128) (by decide) hk
    have e : ((128 ^ k : Nat) : Int) ≤ ((128 ^ 9 : Nat) : Int) := by omega
    simpa using e
  have hm : val (l.take k) % 18446744073709551616 = val (l.take k) := by omega
  have hc0 : 0 ≤ l.getD k 0 % 128 := by omega
  have h64 : (18446744073709551616 : Int) = 2 ^ (64 - 7 * k) * 2 ^ (7 * k) := by
    rw [← Int.pow_add]
    have : 64 - 7 * k + 7 * k = 64 := by omega
    rw [this]; decide
  rw [val_take l k hl, hm, pow128, Int.mul_comm (2 ^ (7 * k)), IntKind.wrap_u64]
  rw [pow128] at hv1 hp
  have hcomm : ∀ x y : Int, bits .or .u64 x y = bits .or .u64 y x := fun x y => by simp only [bits, BitVec.or_comm]
  have hz : (l.getD k 0 % 128 * 2 ^ (7 * k)) % 18446744073709551616 % 2 ^ (7 * k) = 0 := by
    rw [Int.emod_emod_of_dvd _ (by rw [h64]; exact Int.dvd_mul_left ..)]
    exact Int.mul_emod_left ..
  rw [hcomm, bits_join .u64 64 (by decide) wraps_u64 (7 * k) _ _ (by omega) hz (by omega) hv0 hv1 (by omega)]
  have hsum : l.getD k 0 % 128 * 2 ^ (7 * k) % 18446744073709551616 + val (l.take k) < 18446744073709551616 := by
    have hdiv : ∃ q : Int, l.getD k 0 % 128 * 2 ^ (7 * k) % 18446744073709551616 = q * 2 ^ (7 * k) := ⟨_ / 2 ^ (7 * k), by
      have := Int.mul_ediv_add_emod (l.getD k 0 % 128 * 2 ^ (7 * k) % 18446744073709551616) (2 ^ (7 * k))
      rw [hz, Int.add_zero, Int.mul_comm] at this
      exact this.symm⟩
    obtain ⟨q, hq⟩ := hdiv
    have hlt : l.getD k 0 % 128 * 2 ^ (7 * k) % 18446744073709551616 < 18446744073709551616 := by omega
    rw [hq] at hlt ⊢
    have hq1 : q * 2 ^ (7 * k) < 2 ^ (64 - 7 * k) * 2 ^ (7 * k) := by rw [← h64]; exact hlt
    have hq2 : q < 2 ^ (64 - 7 * k) := Int.lt_of_mul_lt_mul_right hq1 (Int.le_of_lt (Int.pow_pos (by decide)))
    have hq3 : (q + 1) * 2 ^ (7 * k) ≤ 2 ^ (64 - 7 * k) * 2 ^ (7 * k) := Int.mul_le_mul_of_nonneg_right (by omega) (Int.le_of_lt (Int.pow_pos (by decide)))
    rw [← h64, Int.add_mul, Int.one_mul] at hq3
    omega
  omega
end Go.Proofs.Ytnaofcggdjbocaa.Leb
/-
  Events: which can be, their numbers and bytes, the event of bytes. Whole numbers and lists alone.
-/
namespace Go.Proofs.Ytnaofcggdjbocaa.Event
open Go.Proofs.Ytnaofcggdjbocaa.Policy

/-- An event. -/
structure Ev where
  k : Int
  s : Int
  ps : List Po
  ds : List Int
  g : Int
  t : Int
def zeroE : Ev := ⟨0, 0, [], [], 0, 0⟩
/-- Such that a program can hold it. -/
def EvOk (e : Ev) : Prop := Inty e.k ∧ Inty e.s ∧ (∀ p ∈ e.ps, PoOk p) ∧ (∀ d ∈ e.ds, Inty d) ∧ Word e.g ∧ Word e.t
def eqL : List Po → List Po → Bool
  | [], [] => true
  | [], _ :: _ => false
  | _ :: _, [] => false
  | p :: a, q :: b => eqB p q && eqL a b
theorem eqL_iff : ∀ {a b : List Po}, eqL a b = true ↔ a = b
  | [], [] => by simp [eqL]
  | [], _ :: _ => by simp [eqL]
  | _ :: _, [] => by simp [eqL]
  | p :: a, q :: b => by simp [eqL, eqB_iff, eqL_iff]
def sameE (a b : Ev) : Bool := decide (a.k = b.k) && decide (a.s = b.s) && decide (a.g = b.g) && decide (a.t = b.t) && eqL a.ps b.ps && decide (a.ds = b.ds)
theorem sameE_iff {a b : Ev} : sameE a b = true ↔ a = b := by
  obtain ⟨k, s, ps, ds, g, t⟩ := a
  obtain ⟨k', s', ps', ds', g', t'⟩ := b
  unfold sameE
  simp only [Bool.and_eq_true, decide_eq_true_eq, Ev.mk.injEq, eqL_iff]
  constructor
  · rintro ⟨⟨⟨⟨⟨h1, h2⟩, h3⟩, h4⟩, h5⟩, h6⟩; exact ⟨h1, h2, h5, h6, h3, h4⟩
  · rintro ⟨h1, h2, h5, h6, h3, h4⟩; exact ⟨⟨⟨⟨⟨h1, h2⟩, h3⟩, h4⟩, h5⟩, h6⟩
def commitE (ps : List Po) (ds : List Int) : Ev := ⟨1, 0, ps, ds, 0, 0⟩
def leaseE (s g : Int) : Ev := ⟨2, s, [], [], g, 0⟩
def periodE (t : Int) : Ev := ⟨3, 0, [], [], 0, t⟩
def subB (n : Int) : Bool := decide (1 ≤ n) && decide (n ≤ 255)
def valB (n : Int) : Bool := decide (1 ≤ n) && decide (n ≤ 281474976710656)
theorem subB_iff {n : Int} : subB n = true ↔ 1 ≤ n ∧ n ≤ 255 := by unfold subB; simp
theorem valB_iff {n : Int} : valB n = true ↔ 1 ≤ n ∧ n ≤ 281474976710656 := by unfold valB; simp
def dropF : Int → List Int → Bool
  | _, [] => true
  | last, d :: r => subB d && !decide (d ≤ last) && dropF d r
def dropB (l : List Int) : Bool := decide (l.length ≤ 8) && dropF 0 l
theorem dropF_sub : ∀ {l : List Int} {last : Int}, dropF last l = true → ∀ d ∈ l, subB d = true
  | [], _, _ => by simp
  | x :: r, last, h => by
    simp only [dropF, Bool.and_eq_true] at h
    intro d hd
    rcases List.mem_cons.1 hd with rfl | hd
    · exact h.1.1
    · exact dropF_sub h.2 d hd
def apartB (ps : List Po) (ds : List Int) : Bool := ps.all fun p => !decide (p.s ∈ ds)
def comB (ps : List Po) (ds : List Int) : Bool := decide (0 < ps.length + ds.length) && allB ps && dropB ds && apartB ps ds
def rightE (e : Ev) : Bool := if e.k = 1 then sameE e (commitE e.ps e.ds) && comB e.ps e.ds else if e.k = 2 then sameE e (leaseE e.s e.g) && subB e.s && valB e.g else if e.k = 3 then sameE e (periodE e.t) && valB e.t else false
theorem right_iff {e : Ev} : rightE e = true ↔ (∃ ps ds, e = commitE ps ds ∧ comB ps ds = true) ∨ (∃ s g, e = leaseE s g ∧ subB s = true ∧ valB g = true) ∨ (∃ t, e = periodE t ∧ valB t = true) := by
  unfold rightE
  constructor
  · intro h
    split at h
    · rw [Bool.and_eq_true, sameE_iff] at h
      exact .inl ⟨_, _, h.1, h.2⟩
    · split at h
      · rw [Bool.and_eq_true, Bool.and_eq_true, sameE_iff] at h
        exact .inr (.inl ⟨_, _, h.1.1, h.1.2, h.2⟩)
      · split at h
        · rw [Bool.and_eq_true, sameE_iff] at h
          exact .inr (.inr ⟨_, h.1, h.2⟩)
        · cases h
  · rintro (⟨ps, ds, rfl, h⟩ | ⟨s, g, rfl, h1, h2⟩ | ⟨t, rfl, h⟩)
    · rw [if_pos (show (commitE ps ds).k = 1 from rfl), Bool.and_eq_true, sameE_iff]; exact ⟨rfl, h⟩
    · rw [if_neg (by simp [leaseE]), if_pos (show (leaseE s g).k = 2 from rfl), Bool.and_eq_true, Bool.and_eq_true, sameE_iff]; exact ⟨⟨rfl, h1⟩, h2⟩
    · rw [if_neg (by simp [periodE]), if_neg (by simp [periodE]), if_pos (show (periodE t).k = 3 from rfl), Bool.and_eq_true, sameE_iff]; exact ⟨rfl, h⟩
theorem com_iff {ps : List Po} {ds : List Int} : comB ps ds = true ↔ 0 < ps.length + ds.length ∧ Tog ps ∧ ds.length ≤ 8 ∧ dropF 0 ds = true ∧ apartB ps ds = true := by
  unfold comB dropB
  simp only [Bool.and_eq_true, decide_eq_true_eq, all_iff, and_assoc]

/-! ### Numbers -/
def numsE (e : Ev) : List Int := if e.k = 2 then [2, e.s, e.g] else if e.k = 3 then [3, e.t] else 1 :: (e.ds.length : Int) :: (e.ds ++ e.ps.flatMap numsL)
theorem nums_commit (ps : List Po) (ds : List Int) : numsE (commitE ps ds) = 1 :: (ds.length : Int) :: (ds ++ ps.flatMap numsL) := rfl
theorem nums_lease (s g : Int) : numsE (leaseE s g) = [2, s, g] := rfl
theorem nums_period (t : Int) : numsE (periodE t) = [3, t] := rfl
theorem flat_len : ∀ ps : List Po, (ps.flatMap numsL).length = 10 * ps.length
  | [] => rfl
  | p :: r => by rw [List.flatMap_cons, List.length_append, flat_len r, Policy.nums_len, List.length_cons]; omega
theorem pol_small {p : Po} (h : rightP p = true) (ho : PoOk p) : ∀ n ∈ numsL p, 0 ≤ n ∧ n ≤ 281474976710656 := by
  obtain ⟨h1, h2, h3, h4, h5, h6⟩ := rightP_iff.1 h
  obtain ⟨l0, l1, l2, l3, l4, l5, l6⟩ := low_iff.1 h4
  have hb := bits_of h3
  have hN := ho.2.1
  intro n hn
  simp only [numsL, List.mem_cons, List.not_mem_nil, or_false] at hn
  rcases hn with rfl | rfl | rfl | rfl | rfl | rfl | rfl | rfl | rfl | rfl <;> omega
theorem right_small {e : Ev} (h : rightE e = true) (ho : ∀ p ∈ e.ps, PoOk p) : ∀ n ∈ numsE e, 0 ≤ n ∧ n ≤ 281474976710656 := by
  rcases right_iff.1 h with ⟨ps, ds, rfl, hc⟩ | ⟨s, g, rfl, h1, h2⟩ | ⟨t, rfl, h1⟩
  · obtain ⟨_, ht, h8, hd, _⟩ := com_iff.1 hc
    rw [nums_commit]
    intro n hn
    simp only [List.mem_cons, List.mem_append, List.mem_flatMap] at hn
    rcases hn with rfl | rfl | hn | ⟨p, hp, hn⟩
    · omega
    · omega
    · have := subB_iff.1 (dropF_sub hd n hn); omega
    · exact pol_small (ht.2.1 p hp) (ho p hp) n hn
  · have := subB_iff.1 h1; have := valB_iff.1 h2
    intro n hn
    simp only [nums_lease, List.mem_cons, List.not_mem_nil, or_false] at hn
    rcases hn with rfl | rfl | rfl <;> omega
  · have := valB_iff.1 h1
    intro n hn
    simp only [nums_period, List.mem_cons, List.not_mem_nil, or_false] at hn
    rcases hn with rfl | rfl <;> omega
theorem right_words {e : Ev} (h : rightE e = true) (ho : ∀ p ∈ e.ps, PoOk p) : ∀ n ∈ numsE e, Word n := fun n hn => by
  have := right_small h ho n hn
  exact ⟨by omega, by omega⟩
theorem right_len {e : Ev} (h : rightE e = true) : 2 ≤ (numsE e).length ∧ (numsE e).length ≤ 90 := by
  rcases right_iff.1 h with ⟨ps, ds, rfl, hc⟩ | ⟨s, g, rfl, h1, h2⟩ | ⟨t, rfl, h1⟩
  · obtain ⟨_, ht, h8, hd, _⟩ := com_iff.1 hc
    have := ht.1
    rw [nums_commit]
    simp only [List.length_cons, List.length_append, flat_len]
    omega
  · simp [nums_lease]
  · simp [nums_period]
/-- Its bytes. -/
def bytesE (e : Ev) : List Int := if rightE e = true then Leb.nums (numsE e) else []
def errE (e : Ev) : Int := if rightE e = true then 0 else 121
theorem nums7 : ∀ l : List Int, (∀ n ∈ l, 0 ≤ n ∧ n ≤ 281474976710656) → (Leb.nums l).length ≤ 7 * l.length
  | [], _ => by simp [Leb.nums]
  | n :: r, h => by
    have h1 := h n (by simp)
    have h2 := (Leb.put_len 6 n h1.1).2 (by omega)
    have h3 := nums7 r (fun m hm => h m (by simp [hm]))
    simp only [Leb.nums, List.length_append, List.length_cons]
    omega
theorem right_room {e : Ev} (h : rightE e = true) (ho : ∀ p ∈ e.ps, PoOk p) : (Leb.nums (numsE e)).length ≤ 630 := by
  have h1 := nums7 _ (right_small h ho)
  have h2 := (right_len h).2
  omega
theorem right_all {e : Ev} (h : rightE e = true) (ho : ∀ p ∈ e.ps, PoOk p) : Leb.lall (Leb.nums (numsE e)) = (numsE e, 0) :=
  Leb.lall_nums _ (right_words h ho) (by have := (right_len h).2; omega)
/-- The policies of so many tens of numbers. -/
def polsF : Nat → List Int → List Po
  | 0, _ => []
  | f + 1, l => asP (l.take 10) :: polsF f (l.drop 10)
theorem polsF_flat : ∀ ps : List Po, polsF ps.length (ps.flatMap numsL) = ps
  | [] => rfl
  | p :: r => by
    have h := Policy.nums_len p
    rw [List.flatMap_cons, List.length_cons, polsF, List.take_left' h, List.drop_left' h, asP_nums, polsF_flat r]
theorem flat_inj {ps qs : List Po} (h : ps.flatMap numsL = qs.flatMap numsL) : ps = qs := by
  have hl : ps.length = qs.length := by have := congrArg List.length h; rw [flat_len, flat_len] at this; omega
  rw [← polsF_flat ps, ← polsF_flat qs, h, hl]
theorem numsE_inj {a b : Ev} (ha : rightE a = true) (hb : rightE b = true) (h : numsE a = numsE b) : a = b := by
  rcases right_iff.1 ha with ⟨ps, ds, rfl, _⟩ | ⟨s, g, rfl, _, _⟩ | ⟨t, rfl, _⟩ <;> rcases right_iff.1 hb with ⟨ps', ds', rfl, _⟩ | ⟨s', g', rfl, _, _⟩ | ⟨t', rfl, _⟩
  · rw [nums_commit, nums_commit] at h
    simp only [List.cons.injEq, true_and] at h
    have hl : ds.length = ds'.length := by omega
    obtain ⟨h1, h2⟩ := List.append_inj h.2 hl
    rw [h1, flat_inj h2]
  · simp [nums_commit, nums_lease] at h
  · simp [nums_commit, nums_period] at h
  · simp [nums_commit, nums_lease] at h
  · simp only [nums_lease, List.cons.injEq, and_true, true_and] at h; rw [h.1, h.2]
  · simp [nums_lease, nums_period] at h
  · simp [nums_commit, nums_period] at h
  · simp [nums_lease, nums_period] at h
  · simp only [nums_period, List.cons.injEq, and_true, true_and] at h; rw [h]
theorem bytes_inj {a b : Ev} (ha : rightE a = true) (hb : rightE b = true) (hao : ∀ p ∈ a.ps, PoOk p) (hbo : ∀ p ∈ b.ps, PoOk p) (h : Leb.nums (numsE a) = Leb.nums (numsE b)) : a = b := by
  have h1 := right_all ha hao
  rw [h, right_all hb hbo] at h1
  exact numsE_inj ha hb (Prod.mk.inj h1).1.symm

/-! ### What is read -/
def putsA : Nat → List Int → List Po → Option (List Po)
  | 0, _, out => some out
  | f + 1, l, out => if l.length = 0 then some out else if isP (l.take 10) = true then putsA f (l.drop 10) (out ++ [asP (l.take 10)]) else none
def putsO (l : List Int) : Option (List Po) := putsA l.length l []
theorem putsA_nil (f : Nat) (out : List Po) : putsA f [] out = some out := by cases f <;> rfl
theorem putsA_good {f : Nat} {l : List Int} {out : List Po} (hl : 0 < l.length) (h : isP (l.take 10) = true) : putsA (f + 1) l out = putsA f (l.drop 10) (out ++ [asP (l.take 10)]) := by
  simp only [putsA]; rw [if_neg (by omega), if_pos h]
theorem putsA_bad {f : Nat} {l : List Int} {out : List Po} (hl : 0 < l.length) (h : ¬ isP (l.take 10) = true) : putsA (f + 1) l out = none := by
  simp only [putsA]; rw [if_neg (by omega), if_neg h]
theorem asP_ok {l : List Int} (h : isP l = true) (h0 : ∀ n ∈ l, Word n) : PoOk (asP l) := by
  obtain ⟨hl, h1, hr⟩ := isP_iff.1 h
  obtain ⟨r1, r2, r3, r4, r5, r6⟩ := rightP_iff.1 hr
  obtain ⟨l0, l1, l2, l3, l4, l5, l6⟩ := low_iff.1 r4
  have hb := bits_of r3
  refine ⟨⟨by omega, by omega⟩, ?_, ⟨by omega, by omega⟩, by omega, by omega, by omega, by omega, by omega, by omega, by omega⟩
  obtain ⟨c0, c1, c2, c3, c4, c5, c6, c7, c8, c9, rfl⟩ := list10 l hl
  have := h0 c1 (by simp)
  simp only [List.getD_cons_zero, List.getD_cons_succ] at h1
  simp only [asP, List.getD_cons_zero, List.getD_cons_succ]
  have := this.1
  omega
theorem putsA_back : ∀ (f : Nat) (l : List Int) (out ps : List Po), (∀ n ∈ l, Word n) → l.length ≤ f → (∀ p ∈ out, PoOk p) → putsA f l out = some ps → ps.flatMap numsL = out.flatMap numsL ++ l ∧ ∀ p ∈ ps, PoOk p
  | 0, l, out, ps, _, hf, ho, h => by
    obtain rfl : l = [] := List.eq_nil_of_length_eq_zero (by omega)
    simp only [putsA, Option.some.injEq] at h
    subst h
    exact ⟨by simp, ho⟩
  | f + 1, l, out, ps, hw, hf, ho, h => by
    by_cases hl : 0 < l.length
    · by_cases hp : isP (l.take 10) = true
      · rw [putsA_good hl hp] at h
        have hw2 : ∀ n ∈ l.take 10, Word n := fun n hn => hw n (List.mem_of_mem_take hn)
        obtain ⟨h1, h2⟩ := putsA_back f (l.drop 10) (out ++ [asP (l.take 10)]) ps (fun n hn => hw n (List.mem_of_mem_drop hn)) (by simp; omega) (fun p hp' => by
          rcases List.mem_append.1 hp' with hp' | hp'
          · exact ho p hp'
          · rw [List.mem_singleton.1 hp']; exact asP_ok hp hw2) h
        refine ⟨?_, h2⟩
        rw [h1, List.flatMap_append, List.append_assoc]
        congr 1
        rw [List.flatMap_cons, List.flatMap_nil, List.append_nil, nums_asP (isP_iff.1 hp).1 (fun c hc => (hw2 c hc).1), List.take_append_drop]
      · rw [putsA_bad hl hp] at h; cases h
    · obtain rfl : l = [] := List.eq_nil_of_length_eq_zero (by omega)
      rw [putsA_nil, Option.some.injEq] at h
      subst h
      exact ⟨by simp, ho⟩
theorem putsA_there : ∀ (ps : List Po) (f : Nat) (out : List Po), (∀ p ∈ ps, rightP p = true ∧ PoOk p) → (ps.flatMap numsL).length ≤ f → putsA f (ps.flatMap numsL) out = some (out ++ ps)
  | [], f, out, _, _ => by rw [List.flatMap_nil, putsA_nil, List.append_nil]
  | p :: r, f, out, h, hf => by
    have hp := h p (by simp)
    have hl := Policy.nums_len p
    rw [List.flatMap_cons] at hf ⊢
    rw [List.length_append, hl] at hf
    obtain ⟨g, rfl⟩ : ∃ g, f = g + 1 := ⟨f - 1, by omega⟩
    have ht : (numsL p ++ r.flatMap numsL).take 10 = numsL p := List.take_left' hl
    have hd : (numsL p ++ r.flatMap numsL).drop 10 = r.flatMap numsL := List.drop_left' hl
    rw [putsA_good (by rw [List.length_append, hl]; omega) (by rw [ht]; exact isP_nums hp.1 hp.2.2.1), ht, hd, asP_nums, putsA_there r g _ (fun q hq => h q (by simp [hq])) (by omega), List.append_assoc]
    rfl
def comO (first : Int) (rest : List Int) : Option Ev := if fits first = true ∧ sint first ≤ rest.length then (putsO (rest.drop (sint first).toNat)).map (fun ps => commitE ps ((rest.take (sint first).toNat).map sint)) else none
def ofO (kind first : Int) (rest : List Int) : Option Ev := if kind = 1 then comO first rest else if kind = 2 then (if rest.length = 1 then some (leaseE (sint first) (rest.getD 0 0)) else none) else if kind = 3 then (if rest.length = 0 then some (periodE first) else none) else none
def readO (bs : List Int) : Option Ev := if (Leb.lall bs).2 = 0 ∧ 2 ≤ (Leb.lall bs).1.length then (ofO ((Leb.lall bs).1.getD 0 0) ((Leb.lall bs).1.getD 1 0) ((Leb.lall bs).1.drop 2)).filter rightE else none
/-- These bytes were made of it. -/
def Wrote (bs : List Int) (e : Ev) : Prop := (∀ p ∈ e.ps, PoOk p) ∧ rightE e = true ∧ Leb.nums (numsE e) = bs
theorem wrote_inj {bs : List Int} {a b : Ev} (ha : Wrote bs a) (hb : Wrote bs b) : a = b := bytes_inj ha.2.1 hb.2.1 ha.1 hb.1 (ha.2.2.trans hb.2.2.symm)
theorem wrote_all {bs : List Int} {e : Ev} (h : Wrote bs e) : Leb.lall bs = (numsE e, 0) := by rw [← h.2.2]; exact right_all h.2.1 h.1
theorem sint_of {x : Int} (_ : 0 ≤ x) (h : 1 ≤ sint x) : sint x = x := by
  unfold sint at h ⊢
  split at h
  · omega
  · rename_i hx
    rw [if_neg hx]
theorem sint_small {x : Int} (h : x ≤ 9223372036854775807) : sint x = x := by unfold sint; rw [if_neg (by omega)]
theorem two_of {l : List Int} (h : 2 ≤ l.length) : ∃ a b r, l = a :: b :: r := by
  match l, h with
  | a :: b :: r, _ => exact ⟨a, b, r, rfl⟩
theorem read_some {bs : List Int} {e : Ev} (h : readO bs = some e) : Wrote bs e := by
  unfold readO at h
  split at h
  case isFalse => cases h
  case isTrue hc =>
    obtain ⟨h0, h2⟩ := hc
    rcases Leb.lall_back bs with hb | ⟨l, hl, hn, hw, h128⟩
    · rw [hb] at h0; cases h0
    · rw [hl] at h h2
      simp only at h h2
      obtain ⟨a, b, r, rfl⟩ := two_of h2
      simp only [List.getD_cons_zero, List.getD_cons_succ, List.drop_succ_cons, List.drop_zero] at h
      rw [Option.filter_eq_some_iff] at h
      obtain ⟨h, hr⟩ := h
      have ha := hw a (by simp)
      have hb := hw b (by simp)
      have hwr : ∀ n ∈ r, Word n := fun n hn => hw n (by simp [hn])
      unfold ofO at h
      split at h
      case isTrue h1 =>
        subst h1
        unfold comO at h
        split at h
        case isFalse => cases h
        case isTrue hf =>
          obtain ⟨hfit, hle⟩ := hf
          have hbi : sint b = b := sint_small (by unfold fits at hfit; simpa using hfit)
          rw [hbi] at h hle
          obtain ⟨ps, hps, rfl⟩ := Option.map_eq_some_iff.1 h
          obtain ⟨q1, q2⟩ := putsA_back _ _ _ _ (fun n hn => hwr n (List.mem_of_mem_drop hn)) (Nat.le_refl _) (by simp) hps
          have hc := (right_iff.1 hr)
          have hcom : comB ps ((r.take b.toNat).map sint) = true := by
            rcases hc with ⟨ps', ds', he, hc⟩ | ⟨s, g, he, _⟩ | ⟨t, he, _⟩
            · simp only [commitE, Ev.mk.injEq, true_and, and_true] at he
              rw [he.1, he.2]; exact hc
            · simp [commitE, leaseE] at he
            · simp [commitE, periodE] at he
          obtain ⟨_, _, _, hd, _⟩ := com_iff.1 hcom
          have hds : (r.take b.toNat).map sint = r.take b.toNat := by
            have : (r.take b.toNat).map sint = (r.take b.toNat).map id := List.map_congr_left fun x hx => by
              have h1 := subB_iff.1 (dropF_sub hd (sint x) (List.mem_map_of_mem hx))
              exact sint_of (hwr x (List.mem_of_mem_take hx)).1 h1.1
            rw [this, List.map_id]
          refine ⟨q2, hr, ?_⟩
          rw [← hn, nums_commit, hds, q1, List.flatMap_nil, List.nil_append, List.take_append_drop, List.length_take]
          have h0b := hb.1
          congr 3
          omega
      case isFalse =>
        split at h
        case isTrue h1 =>
          subst h1
          split at h
          case isFalse => cases h
          case isTrue hl1 =>
            simp only [Option.some.injEq] at h
            subst h
            obtain ⟨x, rfl⟩ := List.length_eq_one_iff.1 hl1
            simp only [List.getD_cons_zero] at hr ⊢
            have hs : subB (sint b) = true := by
              rcases right_iff.1 hr with ⟨ps', ds', he, _⟩ | ⟨s, g, he, hs, _⟩ | ⟨t, he, _⟩
              · simp [commitE, leaseE] at he
              · simp only [leaseE, Ev.mk.injEq, true_and, and_true] at he
                rw [he.1]; exact hs
              · simp [leaseE, periodE] at he
            have hbi := sint_of hb.1 (subB_iff.1 hs).1
            rw [hbi] at hr ⊢
            exact ⟨by simp [leaseE], hr, by rw [nums_lease]; exact hn⟩
        case isFalse =>
          split at h
          case isTrue h1 =>
            subst h1
            split at h
            case isFalse => cases h
            case isTrue hl0 =>
              obtain rfl : r = [] := List.eq_nil_of_length_eq_zero hl0
              simp only [Option.some.injEq] at h
              subst h
              exact ⟨by simp [periodE], hr, by rw [nums_period]; exact hn⟩
          case isFalse => cases h
theorem some_read {bs : List Int} {e : Ev} (h : Wrote bs e) : readO bs = some e := by
  have hall := wrote_all h
  obtain ⟨ho, hr, _⟩ := h
  unfold readO
  rw [hall, if_pos ⟨rfl, (right_len hr).1⟩, Option.filter_eq_some_iff]
  refine ⟨?_, hr⟩
  rcases right_iff.1 hr with ⟨ps, ds, rfl, hc⟩ | ⟨s, g, rfl, h1, h2⟩ | ⟨t, rfl, h1⟩
  · obtain ⟨_, ht, h8, hd, _⟩ := com_iff.1 hc
    simp only [nums_commit, List.getD_cons_zero, List.getD_cons_succ, List.drop_succ_cons, List.drop_zero]
    unfold ofO comO
    have hs : sint (ds.length : Int) = ds.length := sint_small (by omega)
    have hf : fits (ds.length : Int) = true := by unfold fits; simp; omega
    rw [if_pos rfl, hs, if_pos ⟨hf, by rw [List.length_append]; omega⟩, Int.toNat_natCast, List.take_left, List.drop_left]
    have hp : putsO (ps.flatMap numsL) = some ps := by
      unfold putsO
      rw [putsA_there ps _ [] (fun p hp => ⟨ht.2.1 p hp, ho p hp⟩) (Nat.le_refl _), List.nil_append]
    have hm : ds.map sint = ds := by
      have : ds.map sint = ds.map id := List.map_congr_left fun x hx => by
        have := subB_iff.1 (dropF_sub hd x hx)
        exact sint_small (by omega)
      rw [this, List.map_id]
    rw [hp, hm]
    rfl
  · have := subB_iff.1 h1
    simp only [nums_lease, List.getD_cons_zero, List.getD_cons_succ, List.drop_succ_cons, List.drop_zero]
    unfold ofO
    rw [if_neg (by decide), if_pos rfl, if_pos (show [g].length = 1 from rfl), sint_small (by omega)]
    rfl
  · simp only [nums_period, List.getD_cons_zero, List.getD_cons_succ, List.drop_succ_cons, List.drop_zero]
    unfold ofO
    rw [if_neg (by decide), if_neg (by decide), if_pos rfl, if_pos (show ([] : List Int).length = 0 from rfl)]
theorem none_read {bs : List Int} (h : ∀ e, ¬ Wrote bs e) : readO bs = none := by
  cases hr : readO bs with
  | none => rfl
  | some e => exact absurd (read_some hr) (h e)
end Go.Proofs.Ytnaofcggdjbocaa.Event
namespace Go.Proofs.Ytnaofcggdjbocaa.Book
open Go.Proofs.Ytnaofcggdjbocaa.Policy Go.Proofs.Ytnaofcggdjbocaa.Event

/-- An entry: a policy and what is granted. -/
structure En where
  p : Po
  g : Int
structure Bk where
  t : Int
  es : List En
def zeroB : Bk := ⟨0, []⟩
def zeroN : En := ⟨zeroP, 0⟩
def EnOk (e : En) : Prop := PoOk e.p ∧ Word e.g
def BkOk (b : Bk) : Prop := Word b.t ∧ ∀ e ∈ b.es, EnOk e
def eqE (a b : En) : Bool := eqB a.p b.p && decide (a.g = b.g)
theorem eqE_iff {a b : En} : eqE a b = true ↔ a = b := by
  obtain ⟨p, g⟩ := a
  obtain ⟨q, h⟩ := b
  simp [eqE, eqB_iff]
def eqEs : List En → List En → Bool
  | [], [] => true
  | [], _ :: _ => false
  | _ :: _, [] => false
  | a :: r, b :: s => eqE a b && eqEs r s
theorem eqEs_iff : ∀ {a b : List En}, eqEs a b = true ↔ a = b
  | [], [] => by simp [eqEs]
  | [], _ :: _ => by simp [eqEs]
  | _ :: _, [] => by simp [eqEs]
  | p :: a, q :: b => by simp [eqEs, eqE_iff, eqEs_iff]
def sameB (a b : Bk) : Bool := decide (a.t = b.t) && eqEs a.es b.es
theorem sameB_iff {a b : Bk} : sameB a b = true ↔ a = b := by
  obtain ⟨t, es⟩ := a
  obtain ⟨u, fs⟩ := b
  simp [sameB, eqEs_iff]
/-- An entry's policies; what each is granted is no more than may be. -/
def pols (es : List En) : List Po := es.map En.p
def lowG (es : List En) : Bool := es.all fun e => decide (e.g ≤ 281474976710656)
def rightB (b : Bk) : Bool := valB b.t && allB (pols b.es) && lowG b.es
theorem rightB_iff {b : Bk} : rightB b = true ↔ (1 ≤ b.t ∧ b.t ≤ 281474976710656) ∧ Tog (pols b.es) ∧ ∀ e ∈ b.es, e.g ≤ 281474976710656 := by
  unfold rightB lowG
  simp only [Bool.and_eq_true, valB_iff, all_iff, List.all_eq_true, decide_eq_true_eq, and_assoc]
theorem rightB_len {b : Bk} (h : rightB b = true) : b.es.length ≤ 8 := by
  have := (rightB_iff.1 h).2.1.1
  simpa [pols] using this

/-! ### Numbers -/
def numsEn (e : En) : List Int := numsL e.p ++ [e.g]
theorem numsEn_len (e : En) : (numsEn e).length = 11 := rfl
def numsB (b : Bk) : List Int := b.t :: b.es.flatMap numsEn
theorem ents_len : ∀ es : List En, (es.flatMap numsEn).length = 11 * es.length
  | [] => rfl
  | e :: r => by rw [List.flatMap_cons, List.length_append, ents_len r, numsEn_len, List.length_cons]; omega
theorem numsB_small {b : Bk} (h : rightB b = true) (ho : BkOk b) : ∀ n ∈ numsB b, 0 ≤ n ∧ n ≤ 281474976710656 := by
  obtain ⟨ht, htog, hg⟩ := rightB_iff.1 h
  intro n hn
  simp only [numsB, List.mem_cons, List.mem_flatMap] at hn
  rcases hn with rfl | ⟨e, he, hn⟩
  · omega
  · simp only [numsEn, List.mem_append, List.mem_singleton] at hn
    rcases hn with hn | rfl
    · exact pol_small (htog.2.1 e.p (List.mem_map_of_mem he)) (ho.2 e he).1 n hn
    · exact ⟨(ho.2 e he).2.1, hg e he⟩
theorem numsB_words {b : Bk} (h : rightB b = true) (ho : BkOk b) : ∀ n ∈ numsB b, Word n := fun n hn => by
  have := numsB_small h ho n hn
  exact ⟨by omega, by omega⟩
theorem numsB_len {b : Bk} (h : rightB b = true) : 1 ≤ (numsB b).length ∧ (numsB b).length ≤ 89 := by
  have := rightB_len h
  simp only [numsB, List.length_cons, ents_len]
  omega
def bytesB (b : Bk) : List Int := if rightB b = true then Leb.nums (numsB b) else []
def errB (b : Bk) : Int := if rightB b = true then 0 else 131
/-- A policy's bytes are at most fifty-seven, a book's at most 519. -/
theorem pol_room {p : Po} (h : rightP p = true) (ho : PoOk p) : (Leb.nums (numsL p)).length ≤ 57 := by
  obtain ⟨h1, h2, h3, h4, -, -⟩ := rightP_iff.1 h
  obtain ⟨l0, l1, l2, l3, l4, l5, l6⟩ := low_iff.1 h4
  have hb := bits_of h3
  have hN := ho.2.1
  have k0 := (Leb.put_len 1 p.s (by omega)).2 (by omega)
  have k1 := (Leb.put_len 4 (p.N : Int) (by omega)).2 (by omega)
  have k2 := (Leb.put_len 0 p.b hb.1).2 (by omega)
  have k3 := (Leb.put_len 6 (p.x0 : Int) (by omega)).2 (by omega)
  have k4 := (Leb.put_len 6 (p.x1 : Int) (by omega)).2 (by omega)
  have k5 := (Leb.put_len 6 (p.x2 : Int) (by omega)).2 (by omega)
  have k6 := (Leb.put_len 6 (p.x3 : Int) (by omega)).2 (by omega)
  have k7 := (Leb.put_len 6 (p.x4 : Int) (by omega)).2 (by omega)
  have k8 := (Leb.put_len 6 (p.x5 : Int) (by omega)).2 (by omega)
  have k9 := (Leb.put_len 6 (p.x6 : Int) (by omega)).2 (by omega)
  simp only [numsL, Leb.nums, List.length_append, List.length_nil]
  omega
theorem ents_room : ∀ es : List En, (∀ e ∈ es, rightP e.p = true ∧ EnOk e ∧ e.g ≤ 281474976710656) → (Leb.nums (es.flatMap numsEn)).length ≤ 64 * es.length
  | [], _ => by simp [Leb.nums]
  | e :: r, h => by
    obtain ⟨h1, h2, h3⟩ := h e (by simp)
    have k1 := pol_room h1 h2.1
    have k2 := (Leb.put_len 6 e.g h2.2.1).2 (by omega)
    have k3 := ents_room r (fun x hx => h x (by simp [hx]))
    rw [List.flatMap_cons, Leb.nums_append, numsEn, Leb.nums_append]
    simp only [Leb.nums, List.append_nil, List.length_append, List.length_cons]
    omega
theorem book_room {b : Bk} (h : rightB b = true) (ho : BkOk b) : (Leb.nums (numsB b)).length ≤ 519 := by
  obtain ⟨ht, htog, hg⟩ := rightB_iff.1 h
  have k1 := (Leb.put_len 6 b.t (by omega)).2 (by omega)
  have k2 := ents_room b.es (fun e he => ⟨htog.2.1 e.p (List.mem_map_of_mem he), ho.2 e he, hg e he⟩)
  have k3 := rightB_len h
  simp only [numsB, Leb.nums, List.length_append]
  omega
theorem all_of {b : Bk} (h : rightB b = true) (ho : BkOk b) : Leb.lall (Leb.nums (numsB b)) = (numsB b, 0) :=
  Leb.lall_nums _ (numsB_words h ho) (by have := (numsB_len h).2; omega)
/-- The entries of so many elevens of numbers. -/
def asN (l : List Int) : En := ⟨asP (l.take 10), l.getD 10 0⟩
theorem asN_nums (e : En) : asN (numsEn e) = e := by
  obtain ⟨p, g⟩ := e
  have hl := Policy.nums_len p
  unfold asN numsEn
  rw [List.take_left' hl, asP_nums]
  simp [List.getD, hl]
def entsF : Nat → List Int → List En
  | 0, _ => []
  | f + 1, l => asN (l.take 11) :: entsF f (l.drop 11)
theorem entsF_flat : ∀ es : List En, entsF es.length (es.flatMap numsEn) = es
  | [] => rfl
  | e :: r => by
    have h := numsEn_len e
    rw [List.flatMap_cons, List.length_cons, entsF, List.take_left' h, List.drop_left' h, asN_nums, entsF_flat r]
theorem ents_inj {es fs : List En} (h : es.flatMap numsEn = fs.flatMap numsEn) : es = fs := by
  have hl : es.length = fs.length := by have := congrArg List.length h; rw [ents_len, ents_len] at this; omega
  rw [← entsF_flat es, ← entsF_flat fs, h, hl]
theorem numsB_inj {a b : Bk} (h : numsB a = numsB b) : a = b := by
  obtain ⟨t, es⟩ := a
  obtain ⟨u, fs⟩ := b
  simp only [numsB, List.cons.injEq] at h
  rw [h.1, ents_inj h.2]
theorem bytesB_inj {a b : Bk} (ha : rightB a = true) (hb : rightB b = true) (hao : BkOk a) (hbo : BkOk b) (h : Leb.nums (numsB a) = Leb.nums (numsB b)) : a = b := by
  have h1 := all_of ha hao
  rw [h, all_of hb hbo] at h1
  exact numsB_inj (Prod.mk.inj h1).1.symm

/-! ### What is read -/
def isN (l : List Int) : Bool := decide (11 ≤ l.length) && isP (l.take 10)
def entsA : Nat → List Int → List En → Option (List En)
  | 0, _, out => some out
  | f + 1, l, out => if l.length = 0 then some out else if isN l = true then entsA f (l.drop 11) (out ++ [asN (l.take 11)]) else none
def entsO (l : List Int) : Option (List En) := entsA l.length l []
theorem entsA_nil (f : Nat) (out : List En) : entsA f [] out = some out := by cases f <;> rfl
theorem entsA_good {f : Nat} {l : List Int} {out : List En} (hl : 0 < l.length) (h : isN l = true) : entsA (f + 1) l out = entsA f (l.drop 11) (out ++ [asN (l.take 11)]) := by
  simp only [entsA]; rw [if_neg (by omega), if_pos h]
theorem entsA_bad {f : Nat} {l : List Int} {out : List En} (hl : 0 < l.length) (h : ¬ isN l = true) : entsA (f + 1) l out = none := by
  simp only [entsA]; rw [if_neg (by omega), if_neg h]
theorem isN_iff {l : List Int} : isN l = true ↔ 11 ≤ l.length ∧ isP (l.take 10) = true := by
  unfold isN; simp only [Bool.and_eq_true, decide_eq_true_eq]
theorem take11 {l : List Int} (h : 11 ≤ l.length) : l.take 11 = l.take 10 ++ [l.getD 10 0] := by
  rw [List.take_succ_eq_append_getElem (show 10 < l.length by omega)]
  simp [List.getD, show 10 < l.length by omega]
theorem asN_ok {l : List Int} (h : isN l = true) (h0 : ∀ n ∈ l, Word n) : EnOk (asN (l.take 11)) ∧ numsEn (asN (l.take 11)) = l.take 11 ∧ rightP (asN (l.take 11)).p = true := by
  obtain ⟨h1, h2⟩ := isN_iff.1 h
  have e1 : (l.take 11).take 10 = l.take 10 := by rw [List.take_take]; rfl
  have e2 : (l.take 11).getD 10 0 = l.getD 10 0 := by simp [List.getD]
  have hw : ∀ n ∈ l.take 10, Word n := fun n hn => h0 n (List.mem_of_mem_take hn)
  have hg : Word (l.getD 10 0) := by
    simp only [List.getD, List.getElem?_eq_getElem (show 10 < l.length by omega), Option.getD_some]
    exact h0 _ (List.getElem_mem _)
  unfold asN numsEn
  rw [e1, e2]
  refine ⟨⟨asP_ok h2 hw, hg⟩, ?_, (isP_iff.1 h2).2.2⟩
  rw [nums_asP (isP_iff.1 h2).1 (fun c hc => (hw c hc).1), take11 h1]
theorem entsA_back : ∀ (f : Nat) (l : List Int) (out es : List En), (∀ n ∈ l, Word n) → l.length ≤ f → (∀ e ∈ out, EnOk e) → entsA f l out = some es → es.flatMap numsEn = out.flatMap numsEn ++ l ∧ ∀ e ∈ es, EnOk e
  | 0, l, out, es, _, hf, ho, h => by
    obtain rfl : l = [] := List.eq_nil_of_length_eq_zero (by omega)
    simp only [entsA, Option.some.injEq] at h
    subst h
    exact ⟨by simp, ho⟩
  | f + 1, l, out, es, hw, hf, ho, h => by
    by_cases hl : 0 < l.length
    · by_cases hp : isN l = true
      · rw [entsA_good hl hp] at h
        obtain ⟨k1, k2, -⟩ := asN_ok hp hw
        obtain ⟨h1, h2⟩ := entsA_back f (l.drop 11) (out ++ [asN (l.take 11)]) es (fun n hn => hw n (List.mem_of_mem_drop hn)) (by simp; omega) (fun e he => by
          rcases List.mem_append.1 he with he | he
          · exact ho e he
          · rw [List.mem_singleton.1 he]; exact k1) h
        refine ⟨?_, h2⟩
        rw [h1, List.flatMap_append, List.append_assoc]
        congr 1
        rw [List.flatMap_cons, List.flatMap_nil, List.append_nil, k2, List.take_append_drop]
      · rw [entsA_bad hl hp] at h; cases h
    · obtain rfl : l = [] := List.eq_nil_of_length_eq_zero (by omega)
      rw [entsA_nil, Option.some.injEq] at h
      subst h
      exact ⟨by simp, ho⟩
theorem entsA_there : ∀ (es : List En) (f : Nat) (out : List En), (∀ e ∈ es, rightP e.p = true ∧ EnOk e) → (es.flatMap numsEn).length ≤ f → entsA f (es.flatMap numsEn) out = some (out ++ es)
  | [], f, out, _, _ => by rw [List.flatMap_nil, entsA_nil, List.append_nil]
  | e :: r, f, out, h, hf => by
    obtain ⟨h1, h2⟩ := h e (by simp)
    have hl := numsEn_len e
    rw [List.flatMap_cons] at hf ⊢
    rw [List.length_append, hl] at hf
    obtain ⟨g, rfl⟩ : ∃ g, f = g + 1 := ⟨f - 1, by omega⟩
    have ht : (numsEn e ++ r.flatMap numsEn).take 11 = numsEn e := List.take_left' hl
    have hd : (numsEn e ++ r.flatMap numsEn).drop 11 = r.flatMap numsEn := List.drop_left' hl
    have hn : isN (numsEn e ++ r.flatMap numsEn) = true := by
      refine isN_iff.2 ⟨by rw [List.length_append, hl]; omega, ?_⟩
      rw [numsEn, List.append_assoc, List.take_left' (Policy.nums_len e.p)]
      exact isP_nums h1 h2.1.2.1
    rw [entsA_good (by rw [List.length_append, hl]; omega) hn, ht, hd, asN_nums, entsA_there r g _ (fun q hq => h q (by simp [hq])) (by omega), List.append_assoc]
    rfl
def readB (bs : List Int) : Option Bk := if (Leb.lall bs).2 = 0 ∧ 1 ≤ (Leb.lall bs).1.length then ((entsO ((Leb.lall bs).1.drop 1)).map (Bk.mk ((Leb.lall bs).1.getD 0 0))).filter rightB else none
/-- These bytes were made of it. -/
def WroteB (bs : List Int) (b : Bk) : Prop := BkOk b ∧ rightB b = true ∧ Leb.nums (numsB b) = bs
theorem wroteB_inj {bs : List Int} {a b : Bk} (ha : WroteB bs a) (hb : WroteB bs b) : a = b := bytesB_inj ha.2.1 hb.2.1 ha.1 hb.1 (ha.2.2.trans hb.2.2.symm)
theorem wroteB_all {bs : List Int} {b : Bk} (h : WroteB bs b) : Leb.lall bs = (numsB b, 0) := by rw [← h.2.2]; exact all_of h.2.1 h.1
theorem readB_some {bs : List Int} {b : Bk} (h : readB bs = some b) : WroteB bs b := by
  unfold readB at h
  split at h
  case isFalse => cases h
  case isTrue hc =>
    obtain ⟨h0, h1⟩ := hc
    rcases Leb.lall_back bs with hb | ⟨l, hl, hn, hw, -⟩
    · rw [hb] at h0; cases h0
    · rw [hl] at h h1
      simp only at h h1
      obtain ⟨a, r, rfl⟩ : ∃ a r, l = a :: r := by
        cases l with
        | nil => simp at h1
        | cons a r => exact ⟨a, r, rfl⟩
      simp only [List.getD_cons_zero, List.drop_succ_cons, List.drop_zero] at h
      rw [Option.filter_eq_some_iff] at h
      obtain ⟨h, hr⟩ := h
      obtain ⟨es, hes, rfl⟩ := Option.map_eq_some_iff.1 h
      obtain ⟨q1, q2⟩ := entsA_back _ _ _ _ (fun n hn => hw n (by simp [hn])) (Nat.le_refl _) (by simp) hes
      refine ⟨⟨hw a (by simp), q2⟩, hr, ?_⟩
      rw [← hn, numsB, q1]
      rfl
theorem some_readB {bs : List Int} {b : Bk} (h : WroteB bs b) : readB bs = some b := by
  have hall := wroteB_all h
  obtain ⟨ho, hr, _⟩ := h
  obtain ⟨-, htog, -⟩ := rightB_iff.1 hr
  unfold readB
  rw [hall, if_pos ⟨rfl, (numsB_len hr).1⟩, Option.filter_eq_some_iff]
  refine ⟨?_, hr⟩
  obtain ⟨t, es⟩ := b
  have hp : entsO (es.flatMap numsEn) = some es := by
    unfold entsO
    rw [entsA_there es _ [] (fun e he => ⟨htog.2.1 e.p (List.mem_map_of_mem he), ho.2 e he⟩) (Nat.le_refl _), List.nil_append]
  simp only [numsB, List.getD_cons_zero, List.drop_succ_cons, List.drop_zero]
  rw [hp]
  rfl
theorem none_readB {bs : List Int} (h : ∀ b, ¬ WroteB bs b) : readB bs = none := by
  cases hr : readB bs with
  | none => rfl
  | some b => exact absurd (readB_some hr) (h b)

/-! ### Finding; what comes of an event -/
def look (es : List En) (s : Int) : Option En := es.find? fun e => decide (e.p.s = s)
def lookP (ps : List Po) (s : Int) : Option Po := ps.find? fun p => decide (p.s = s)
/-- By Sub, rising. -/
def Rising (es : List En) : Prop := es.Pairwise fun a b => a.p.s < b.p.s
theorem tog_rising {es : List En} (h : Tog (pols es)) : Rising es := by
  have := h.2.2
  unfold pols at this
  rw [List.pairwise_map] at this
  exact this.imp fun hb => hb.1
theorem look_mem {es : List En} {s : Int} {e : En} (h : look es s = some e) : e ∈ es ∧ e.p.s = s := by
  have h2 := List.find?_some h
  exact ⟨List.mem_of_find?_eq_some h, by simpa using h2⟩
theorem look_of : ∀ {es : List En}, Rising es → ∀ {e : En}, e ∈ es → look es e.p.s = some e
  | [], _, e, h => by simp at h
  | a :: r, hr, e, h => by
    have hr' := List.pairwise_cons.1 hr
    rcases List.mem_cons.1 h with rfl | h
    · simp [look]
    · have h1 := hr'.1 e h
      unfold look
      rw [List.find?_cons_of_neg (by simp; omega)]
      exact look_of hr'.2 h
theorem look_none {es : List En} {s : Int} (h : ∀ e ∈ es, e.p.s ≠ s) : look es s = none := by
  unfold look
  rw [List.find?_eq_none]
  intro e he
  simpa using h e he
/-- Two that rise and have the same entries are the same. -/
theorem rising_ext : ∀ {a b : List En}, Rising a → Rising b → (∀ s, look a s = look b s) → a = b
  | [], [], _, _, _ => rfl
  | [], y :: s, _, hb, h => by
    have := h y.p.s
    rw [look_of hb (by simp)] at this
    simp [look] at this
  | x :: r, [], ha, _, h => by
    have := h x.p.s
    rw [look_of ha (by simp)] at this
    simp [look] at this
  | x :: r, y :: s, ha, hb, h => by
    have ha' := List.pairwise_cons.1 ha
    have hb' := List.pairwise_cons.1 hb
    have h1 := h x.p.s
    rw [look_of ha (by simp)] at h1
    have h2 := h y.p.s
    rw [look_of hb (by simp)] at h2
    obtain ⟨m1, -⟩ := look_mem h1.symm
    obtain ⟨m2, -⟩ := look_mem h2
    have hxy : x = y := by
      rcases List.mem_cons.1 m1 with e | m1
      · exact e
      · rcases List.mem_cons.1 m2 with e | m2
        · exact e.symm
        · have k1 := hb'.1 x m1
          have k2 := ha'.1 y m2
          omega
    subst hxy
    rw [rising_ext ha'.2 hb'.2 fun u => ?_]
    have hu := h u
    by_cases hx : x.p.s = u
    · subst hx
      rw [look_none fun e he => by have := ha'.1 e he; omega, look_none fun e he => by have := hb'.1 e he; omega]
    · unfold look at hu ⊢
      rwa [List.find?_cons_of_neg (by simpa using hx), List.find?_cons_of_neg (by simpa using hx)] at hu
/-- What there is of a Sub behind a commit. -/
def news (es : List En) (ps : List Po) (ds : List Int) (s : Int) : Option En := if s ∈ ds then none else match lookP ps s with
  | some p => some ⟨p, ((look es s).map En.g).getD 0⟩
  | none => look es s
def comE (es : List En) (ps : List Po) (ds : List Int) : List En := (List.range 255).filterMap fun (i : Nat) => news es ps ds ((i : Int) + 1)
theorem lookP_mem {ps : List Po} {s : Int} {p : Po} (h : lookP ps s = some p) : p ∈ ps ∧ p.s = s := by
  have h2 := List.find?_some h
  exact ⟨List.mem_of_find?_eq_some h, by simpa using h2⟩
theorem news_sub {es : List En} {ps : List Po} {ds : List Int} {s : Int} {e : En} (h : news es ps ds s = some e) : e.p.s = s := by
  unfold news at h
  split at h
  · cases h
  · split at h
    · rename_i p hp
      simp only [Option.some.injEq] at h
      rw [← h]
      exact (lookP_mem hp).2
    · exact (look_mem h).2
theorem com_rising (es : List En) (ps : List Po) (ds : List Int) : Rising (comE es ps ds) := by
  unfold Rising comE
  rw [List.pairwise_filterMap]
  refine List.Pairwise.imp ?_ (List.pairwise_lt_range (n := 255))
  intro i j hij a ha b hb
  rw [news_sub ha, news_sub hb]
  omega
theorem com_look (es : List En) (ps : List Po) (ds : List Int) {s : Int} (h1 : 1 ≤ s) (h2 : s ≤ 255) : look (comE es ps ds) s = news es ps ds s := by
  obtain ⟨i, rfl⟩ : ∃ i : Nat, s = (i : Int) + 1 := ⟨(s - 1).toNat, by omega⟩
  cases hn : news es ps ds ((i : Int) + 1) with
  | some e =>
    have hm : e ∈ comE es ps ds := List.mem_filterMap.2 ⟨i, List.mem_range.2 (by omega), hn⟩
    have := look_of (com_rising es ps ds) hm
    rwa [news_sub hn] at this
  | none =>
    refine look_none fun e he hs => ?_
    obtain ⟨j, -, hj⟩ := List.mem_filterMap.1 he
    have := news_sub hj
    have : j = i := by omega
    subst this
    rw [hn] at hj
    cases hj
/-- Whatever else rises and has just these is it. -/
theorem com_is {es out : List En} {ps : List Po} {ds : List Int} (hr : Rising out) (hs : ∀ e ∈ out, 1 ≤ e.p.s ∧ e.p.s ≤ 255) (h : ∀ s, 1 ≤ s → s ≤ 255 → look out s = news es ps ds s) : out = comE es ps ds := by
  refine rising_ext hr (com_rising _ _ _) fun s => ?_
  by_cases h1 : 1 ≤ s ∧ s ≤ 255
  · rw [h s h1.1 h1.2, com_look _ _ _ h1.1 h1.2]
  · rw [look_none fun e he q => h1 (by have := hs e he; omega), look_none fun e he q => h1 ?_]
    obtain ⟨j, hj, hn⟩ := List.mem_filterMap.1 he
    have := news_sub hn
    have := List.mem_range.1 hj
    omega
/-- May these be dropped? -/
def dropsIn (es : List En) (ds : List Int) : Bool := ds.all fun d => (look es d).isSome
def leaseIn (es : List En) (s g : Int) : Bool := match look es s with
  | some e => decide (e.g ≤ g) && decide (g ≤ (e.p.x4 : Int))
  | none => false
def leaseE1 (es : List En) (s g : Int) : List En := es.map fun e => if e.p.s = s then ⟨e.p, g⟩ else e
def rollE (es : List En) : List En := es.map fun e => ⟨e.p, 0⟩
/-- What comes of an event, if it can be. -/
def applyO (b : Bk) (e : Ev) : Option Bk := if rightB b = true ∧ rightE e = true then
  (if e.k = 1 then (if dropsIn b.es e.ds = true ∧ rightB ⟨b.t, comE b.es e.ps e.ds⟩ = true then some ⟨b.t, comE b.es e.ps e.ds⟩ else none)
   else if e.k = 2 then (if leaseIn b.es e.s e.g = true then some ⟨b.t, leaseE1 b.es e.s e.g⟩ else none)
   else (if e.t = b.t + 1 then some ⟨e.t, rollE b.es⟩ else none)) else none
theorem look_map {es : List En} {f : En → En} (hf : ∀ e, (f e).p.s = e.p.s) (s : Int) : look (es.map f) s = (look es s).map f := by
  unfold look
  rw [List.find?_map]
  congr 2
  funext e
  simp [hf]
theorem pols_map {es : List En} {f : En → En} (hf : ∀ e, (f e).p = e.p) : pols (es.map f) = pols es := by
  unfold pols
  rw [List.map_map]
  exact List.map_congr_left fun e _ => hf e
theorem lease_p (s g : Int) (e : En) : (if e.p.s = s then (⟨e.p, g⟩ : En) else e).p = e.p := by split <;> rfl
/-- What comes of it is right. -/
theorem apply_right {b c : Bk} {e : Ev} (h : applyO b e = some c) : rightB c = true := by
  unfold applyO at h
  split at h
  case isFalse => cases h
  case isTrue hc =>
    obtain ⟨hb, he⟩ := hc
    obtain ⟨ht, htog, hg⟩ := rightB_iff.1 hb
    split at h
    · split at h
      · rename_i h2
        simp only [Option.some.injEq] at h
        rw [← h]
        exact h2.2
      · cases h
    · rename_i hk1
      split at h
      · rename_i hk2
        split at h
        · simp only [Option.some.injEq] at h
          subst h
          have hv : valB e.g = true := by
            rcases right_iff.1 he with ⟨ps, ds, rfl, _⟩ | ⟨s, g, rfl, _, hg⟩ | ⟨t, rfl, _⟩
            · exact absurd rfl hk1
            · exact hg
            · simp [periodE] at hk2
          refine rightB_iff.2 ⟨ht, ?_, fun x hx => ?_⟩
          · rw [leaseE1, pols_map (lease_p _ _)]; exact htog
          · obtain ⟨y, hy, rfl⟩ := List.mem_map.1 hx
            split
            · exact (valB_iff.1 hv).2
            · exact hg y hy
        · cases h
      · rename_i hk2
        split at h
        · rename_i htt
          simp only [Option.some.injEq] at h
          subst h
          have hv : valB e.t = true := by
            rcases right_iff.1 he with ⟨ps, ds, rfl, _⟩ | ⟨s, g, rfl, _, hg⟩ | ⟨t, rfl, ht⟩
            · exact absurd rfl hk1
            · exact absurd rfl hk2
            · exact ht
          refine rightB_iff.2 ⟨valB_iff.1 hv, ?_, fun x hx => ?_⟩
          · rw [rollE, pols_map (f := fun e => (⟨e.p, 0⟩ : En)) (fun _ => rfl)]; exact htog
          · obtain ⟨y, hy, rfl⟩ := List.mem_map.1 hx
            simp
        · cases h
end Go.Proofs.Ytnaofcggdjbocaa.Book
