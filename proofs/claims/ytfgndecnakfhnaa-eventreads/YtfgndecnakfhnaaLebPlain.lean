/-
  Plain facts on numbers as groups of seven bits: definitions and facts on whole numbers and lists; nothing of the program is named here.
-/
import Derived.Test.YtfgndecnakfhnaaKinds
import Derived.WalkKit
import Derived.Lib.ItoaNum
import Derived.Laws.BitsLemmas
namespace Go.Proofs.Ytfgndecnakfhnaa.Leb

/-- A number as groups of seven bits, the lowest first. -/
def putF : Nat → Int → List Int
  | 0, n => [n]
  | k + 1, n => if n < 128 then [n] else (128 + n % 128) :: putF k (n / 128)
def put (n : Int) : List Int := putF n.toNat n
theorem putF_small {n : Int} (h : n < 128) : ∀ k : Nat, putF k n = [n]
  | 0 => rfl
  | _ + 1 => by simp only [putF]; rw [if_pos h]
theorem putF_enough : ∀ (k j : Nat) (n : Int), n.toNat ≤ k → n.toNat ≤ j → putF k n = putF j n
  | 0, j, n, hk, _ => by rw [putF_small (by omega), putF_small (by omega)]
  | k + 1, 0, n, _, hj => by rw [putF_small (by omega), putF_small (by omega)]
  | k + 1, j + 1, n, hk, hj => by
    by_cases h : n < 128
    · rw [putF_small h, putF_small h]
    · simp only [putF]
      rw [if_neg h, if_neg h, putF_enough k j (n / 128) (by omega) (by omega)]
theorem put_small {n : Int} (h : n < 128) : put n = [n] := putF_small h _
theorem put_big {n : Int} (h : ¬ n < 128) : put n = (128 + n % 128) :: put (n / 128) := by
  obtain ⟨k, hk⟩ : ∃ k, n.toNat = k + 1 := ⟨n.toNat - 1, by omega⟩
  unfold put
  rw [hk]
  simp only [putF]
  rw [if_neg h, putF_enough k (n / 128).toNat (n / 128) (by omega) (by omega)]

/-- Induction along the groups. -/
theorem put_ind {p : Int → Prop} (small : ∀ n, 0 ≤ n → n < 128 → p n) (big : ∀ n, 128 ≤ n → p (n / 128) → p n) : ∀ (k : Nat) (n : Int), 0 ≤ n → n.toNat ≤ k → p n
  | 0, n, h0, hk => small n h0 (by omega)
  | k + 1, n, h0, hk => by
    by_cases h : n < 128
    · exact small n h0 h
    · exact big n (by omega) (put_ind small big k (n / 128) (by omega) (by omega))
theorem put_induct {p : Int → Prop} (small : ∀ n, 0 ≤ n → n < 128 → p n) (big : ∀ n, 128 ≤ n → p (n / 128) → p n) (n : Int) (h : 0 ≤ n) : p n := put_ind small big n.toNat n h (Nat.le_refl _)

/-- The number of groups of seven bits. -/
def val : List Int → Int
  | [] => 0
  | c :: r => c % 128 + 128 * val r
theorem val_nonneg : ∀ l : List Int, 0 ≤ val l
  | [] => by simp [val]
  | c :: r => by have := val_nonneg r; simp only [val]; omega
theorem val_put (n : Int) (h : 0 ≤ n) : val (put n) = n := by
  refine put_induct (p := fun n => val (put n) = n) (fun n h0 h1 => ?_) (fun n h0 ih => ?_) n h
  · rw [put_small h1]; simp only [val]; omega
  · rw [put_big (by omega)]; simp only [val]; rw [ih]; omega
theorem put_bytes (n : Int) (h : 0 ≤ n) : ∀ c ∈ put n, Byte c := by
  refine put_induct (p := fun n => ∀ c ∈ put n, Byte c) (fun n h0 h1 => ?_) (fun n h0 ih => ?_) n h
  · rw [put_small h1]; simp; exact ⟨h0, by omega⟩
  · rw [put_big (by omega)]; simp only [List.mem_cons, forall_eq_or_imp]; exact ⟨⟨by omega, by omega⟩, ih⟩
theorem put_pos (n : Int) : 0 < (put n).length := by
  by_cases h : n < 128
  · rw [put_small h]; simp
  · rw [put_big h]; simp

theorem pow_pos (k : Nat) : (0 : Int) < 128 ^ k := Int.pow_pos (by decide)
theorem put_len (k : Nat) : ∀ n : Int, 0 ≤ n → ((put n).length ≤ k + 1 ↔ n < 128 ^ (k + 1)) := by
  induction k with
  | zero =>
    intro n h
    by_cases h1 : n < 128
    · rw [put_small h1]; simp; omega
    · rw [put_big h1]; have := put_pos (n / 128); simp; constructor
      · intro h2; rw [h2] at this; simp at this
      · omega
  | succ k ih =>
    intro n h
    have hp : (128 : Int) ^ (k + 1 + 1) = 128 * 128 ^ (k + 1) := by rw [Int.pow_succ, Int.mul_comm]
    have hq := pow_pos (k + 1)
    by_cases h1 : n < 128
    · rw [put_small h1]; simp; rw [hp]; omega
    · rw [put_big h1, List.length_cons, Nat.add_le_add_iff_right, ih (n / 128) (by omega), hp]
      omega
theorem put_le {n : Int} (h : Word n) : (put n).length ≤ 10 := (put_len 9 n h.1).2 (by have := h.2; omega)
theorem put_mono {a b : Int} (h0 : 0 ≤ a) (h : a ≤ b) : (put a).length ≤ (put b).length := by
  obtain ⟨k, hk⟩ : ∃ k, (put b).length = k + 1 := ⟨(put b).length - 1, by have := put_pos b; omega⟩
  rw [hk, put_len k a h0]
  have := (put_len k b (by omega)).1 (by omega)
  omega
theorem put_more {n : Int} {k : Nat} (h : 0 ≤ n) (hk : k + 1 < (put n).length) : 128 ^ (k + 1) ≤ n := by
  have := (put_len k n h)
  omega

/-- How many bytes from the first on have their highest bit set. -/
def lead : List Int → Nat
  | [] => 0
  | c :: r => if c < 128 then 0 else lead r + 1
theorem lead_le : ∀ l : List Int, lead l ≤ l.length
  | [] => by simp [lead]
  | c :: r => by have := lead_le r; simp only [lead]; split <;> simp <;> omega
theorem lead_step : ∀ (l : List Int) (k : Nat), k ≤ lead l → k < l.length → 128 ≤ l.getD k 0 → k + 1 ≤ lead l
  | [], k, _, h, _ => by simp at h
  | c :: r, 0, _, _, h => by
    simp only [lead]
    rw [if_neg (by simpa using h)]
    omega
  | c :: r, k + 1, h1, h2, h3 => by
    simp only [lead] at h1 ⊢
    split at h1
    · omega
    · rename_i hc
      rw [if_neg hc]
      have := lead_step r k (by omega) (by simpa using h2) (by simpa using h3)
      omega
theorem lead_stop : ∀ (l : List Int) (k : Nat), k ≤ lead l → k < l.length → l.getD k 0 < 128 → lead l = k
  | [], k, _, h, _ => by simp at h
  | c :: r, 0, _, _, h => by
    simp only [lead]
    rw [if_pos (by simpa using h)]
  | c :: r, k + 1, h1, h2, h3 => by
    simp only [lead] at h1 ⊢
    split at h1
    · omega
    · rename_i hc
      rw [if_neg hc]
      have := lead_stop r k (by omega) (by simpa using h2) (by simpa using h3)
      omega
theorem lead_put (n : Int) (h : 0 ≤ n) (t : List Int) : lead (put n ++ t) + 1 = (put n).length := by
  refine put_induct (p := fun n => lead (put n ++ t) + 1 = (put n).length) (fun n h0 h1 => ?_) (fun n h0 ih => ?_) n h
  · rw [put_small h1]; simp [lead, h1]
  · rw [put_big (by omega)]
    simp only [List.cons_append, lead, List.length_cons]
    rw [if_neg (by omega), ih]

theorem lead_before : ∀ (l : List Int) (k : Nat), k < lead l → 128 ≤ l.getD k 0
  | [], k, h => by simp [lead] at h
  | c :: r, 0, h => by
    simp only [lead] at h
    split at h
    · omega
    · simp; omega
  | c :: r, k + 1, h => by
    simp only [lead] at h
    split at h
    · omega
    · simpa using lead_before r k (by omega)
theorem lead_at : ∀ l : List Int, lead l < l.length → l.getD (lead l) 0 < 128
  | [], h => by simp at h
  | c :: r, h => by
    simp only [lead] at h ⊢
    split at h
    · rename_i hc
      rw [if_pos hc]; simpa using hc
    · rename_i hc
      rw [if_neg hc]
      simpa using lead_at r (by simpa using h)
theorem put_high {n : Int} (h : 0 ≤ n) {k : Nat} (hk : k + 1 < (put n).length) : 128 ≤ (put n).getD k 0 := by
  have h1 := lead_put n h []
  rw [List.append_nil] at h1
  exact lead_before _ k (by omega)
theorem put_low {n : Int} (h : 0 ≤ n) {k : Nat} (hk : k + 1 = (put n).length) : (put n).getD k 0 < 128 := by
  have h1 := lead_put n h []
  rw [List.append_nil] at h1
  have h2 : lead (put n) = k := by omega
  rw [← h2]
  exact lead_at _ (by omega)

/-- What Get gives: the number, how many bytes it has, the error's number. -/
def gotOf (p : List Int) : Int × Int × Int := if put (val p % 18446744073709551616) = p then (val p % 18446744073709551616, (p.length : Int), 0) else (0, 0, 21)
def lget (l : List Int) : Int × Int × Int := if lead l < l.length ∧ lead l < 10 then gotOf (l.take (lead l + 1)) else (0, 0, 21)
theorem lget_put {n : Int} (h : Word n) (t : List Int) : lget (put n ++ t) = (n, ((put n).length : Int), 0) := by
  have h1 := lead_put n h.1 t
  have h2 := put_le h
  have h3 : n % 18446744073709551616 = n := by have := h.1; have := h.2; omega
  unfold lget
  rw [if_pos ⟨by simp; omega, by omega⟩, h1, List.take_left]
  unfold gotOf
  rw [val_put n h.1, h3, if_pos rfl]
theorem lget_cases (l : List Int) : lget l = (0, 0, 21) ∨ ∃ n : Int, Word n ∧ (put n).length ≤ l.length ∧ l.take (put n).length = put n ∧ lget l = (n, ((put n).length : Int), 0) := by
  unfold lget
  split
  · rename_i h
    unfold gotOf
    split
    · rename_i hp
      refine .inr ⟨val (l.take (lead l + 1)) % 18446744073709551616, ⟨by omega, by omega⟩, ?_, ?_, ?_⟩
      · rw [hp]; simp; omega
      · rw [hp, List.length_take, Nat.min_eq_left (by omega)]
      · rw [hp]
    · exact .inl rfl
  · exact .inl rfl
theorem lget_nil : lget [] = (0, 0, 21) := by simp [lget, lead]
theorem lget_word (l : List Int) : Word (lget l).1 := by
  rcases lget_cases l with h | ⟨n, hn, _, _, h⟩
  · rw [h]; exact ⟨by decide, by decide⟩
  · rw [h]; exact hn

/-- A loop's number behind k bytes. -/
theorem val_take : ∀ (l : List Int) (k : Nat), k < l.length → val (l.take (k + 1)) = val (l.take k) + 128 ^ k * (l.getD k 0 % 128)
  | [], k, h => by simp at h
  | c :: r, 0, _ => by simp [val]
  | c :: r, k + 1, h => by
    have ih := val_take r k (by simpa using h)
    rw [List.take_succ_cons, List.take_succ_cons]
    simp only [val, List.getD_cons_succ]
    rw [ih, Int.pow_succ, Int.mul_add, Int.add_assoc]
    congr 2
    rw [Int.mul_comm (128 ^ k) 128, Int.mul_assoc]
theorem val_lt : ∀ (l : List Int) (k : Nat), l.length ≤ k → val l < 128 ^ k
  | [], k, _ => by have := pow_pos k; simpa [val] using this
  | c :: r, 0, h => by simp at h
  | c :: r, k + 1, h => by
    have ih := val_lt r k (by simpa using h)
    have hp : (128 : Int) ^ (k + 1) = 128 * 128 ^ k := by rw [Int.pow_succ, Int.mul_comm]
    simp only [val]; rw [hp]; omega

/-- From the highest group down. -/
theorem val_from (l : List Int) (k : Nat) (h : k < l.length) : val (l.drop k) = l.getD k 0 % 128 + 128 * val (l.drop (k + 1)) := by
  rw [List.drop_eq_getElem_cons h]
  simp [val, h]

/-- Numbers one behind the other. -/
def nums : List Int → List Int
  | [] => []
  | n :: r => put n ++ nums r
theorem nums_snoc : ∀ (l : List Int) (n : Int), nums (l ++ [n]) = nums l ++ put n
  | [], n => by simp [nums]
  | m :: r, n => by simp [nums, nums_snoc r n]
theorem nums_take (l : List Int) (k : Nat) (h : k < l.length) : nums (l.take (k + 1)) = nums (l.take k) ++ put (l.getD k 0) := by
  rw [List.take_succ_eq_append_getElem h, nums_snoc]
  simp [h]
theorem nums_append : ∀ (a b : List Int), nums (a ++ b) = nums a ++ nums b
  | [], b => by simp [nums]
  | n :: r, b => by simp [nums, nums_append r b]
theorem nums_bytes : ∀ l : List Int, (∀ n ∈ l, Word n) → ∀ c ∈ nums l, Byte c
  | [], _ => by simp [nums]
  | n :: r, h => by
    intro c hc
    simp only [nums, List.mem_append] at hc
    rcases hc with hc | hc
    · exact put_bytes n (h n (by simp)).1 c hc
    · exact nums_bytes r (fun m hm => h m (by simp [hm])) c hc
theorem nums_len : ∀ l : List Int, (∀ n ∈ l, Word n) → (nums l).length ≤ 10 * l.length
  | [], _ => by simp [nums]
  | n :: r, h => by
    have h1 := put_le (h n (by simp))
    have h2 := nums_len r (fun m hm => h m (by simp [hm]))
    simp only [nums, List.length_append, List.length_cons]
    omega

/-- The numbers of bytes, one by one: so many more, from what bytes on, behind what numbers. -/
def allF : Nat → List Int → List Int → List Int × Int
  | 0, _, out => (out, 0)
  | _ + 1, [], out => (out, 0)
  | f + 1, c :: r, out => if (lget (c :: r)).2.2 ≠ 0 ∨ out.length = 128 then ([], 21) else allF f ((c :: r).drop (lget (c :: r)).2.1.toNat) (out ++ [(lget (c :: r)).1])
def lall (l : List Int) : List Int × Int := allF l.length l []
theorem allF_nil (f : Nat) (out : List Int) : allF f [] out = (out, 0) := by cases f <;> rfl
theorem allF_bad {f : Nat} {l out : List Int} (hl : 0 < l.length) (h : (lget l).2.2 ≠ 0 ∨ out.length = 128) : allF (f + 1) l out = ([], 21) := by
  cases l with
  | nil => simp at hl
  | cons c r => simp only [allF]; rw [if_pos h]
theorem allF_good {f : Nat} {l out : List Int} (hl : 0 < l.length) (h : ¬ ((lget l).2.2 ≠ 0 ∨ out.length = 128)) : allF (f + 1) l out = allF f (l.drop (lget l).2.1.toNat) (out ++ [(lget l).1]) := by
  cases l with
  | nil => simp at hl
  | cons c r => simp only [allF]; rw [if_neg h]

/-- There and back. -/
theorem allF_nums : ∀ (l : List Int) (f : Nat) (out : List Int), (∀ n ∈ l, Word n) → out.length + l.length ≤ 128 → (nums l).length ≤ f → allF f (nums l) out = (out ++ l, 0)
  | [], f, out, _, _, _ => by simp [nums, allF_nil]
  | n :: r, f, out, h, h1, h2 => by
    have hp := put_pos n
    simp only [nums, List.length_append, List.length_cons] at h1 h2 ⊢
    obtain ⟨g, rfl⟩ : ∃ g, f = g + 1 := ⟨f - 1, by omega⟩
    have hg := lget_put (h n (by simp)) (nums r)
    rw [allF_good (by simp; omega) (by rw [hg]; simp; omega), hg]
    simp only [Int.toNat_natCast, List.drop_left]
    rw [allF_nums r g (out ++ [n]) (fun m hm => h m (by simp [hm])) (by simp; omega) (by omega)]
    simp
theorem lall_nums (l : List Int) (h : ∀ n ∈ l, Word n) (hl : l.length ≤ 128) : lall (nums l) = (l, 0) := by
  unfold lall
  rw [allF_nums l _ [] h (by simpa using hl) (Nat.le_refl _)]
  simp
theorem allF_back : ∀ (f : Nat) (l out m : List Int), (∀ n ∈ out, Word n) → out.length ≤ 128 → l.length ≤ f → allF f l out = (m, 0) → nums m = nums out ++ l ∧ (∀ n ∈ m, Word n) ∧ m.length ≤ 128
  | 0, l, out, m, ho, hc, hl, h => by
    have hl0 : l = [] := List.eq_nil_of_length_eq_zero (by omega)
    simp only [allF, Prod.mk.injEq, and_true] at h
    subst h hl0
    exact ⟨by simp, ho, hc⟩
  | f + 1, [], out, m, ho, hc, hl, h => by
    simp only [allF, Prod.mk.injEq, and_true] at h
    subst h
    exact ⟨by simp, ho, hc⟩
  | f + 1, c :: r, out, m, ho, hc, hl, h => by
    by_cases hb : (lget (c :: r)).2.2 ≠ 0 ∨ out.length = 128
    · rw [allF_bad (by simp) hb] at h; simp at h
    · rw [allF_good (by simp) hb] at h
      rcases lget_cases (c :: r) with hg | ⟨n, hn, hl1, ht, hg⟩
      · rw [hg] at hb; simp at hb
      · rw [hg] at h hb
        simp only [Int.toNat_natCast] at h
        have hp := put_pos n
        obtain ⟨a1, a2, a3⟩ := allF_back f ((c :: r).drop (put n).length) (out ++ [n]) m (fun k hk => by
          simp only [List.mem_append, List.mem_singleton] at hk
          rcases hk with hk | hk
          · exact ho k hk
          · rw [hk]; exact hn) (by simp at hb ⊢; omega) (by rw [List.length_drop]; omega) h
        refine ⟨?_, a2, a3⟩
        rw [a1, nums_snoc, List.append_assoc]
        congr 1
        conv => lhs; lhs; rw [← ht]
        exact List.take_append_drop _ _
theorem allF_err : ∀ (f : Nat) (l out : List Int), (allF f l out).2 = 0 ∨ allF f l out = ([], 21)
  | 0, _, _ => .inl rfl
  | _ + 1, [], _ => .inl rfl
  | f + 1, c :: r, out => by
    by_cases hb : (lget (c :: r)).2.2 ≠ 0 ∨ out.length = 128
    · exact .inr (allF_bad (by simp) hb)
    · rw [allF_good (by simp) hb]; exact allF_err f _ _
theorem lall_back (l : List Int) : lall l = ([], 21) ∨ ∃ m, lall l = (m, 0) ∧ nums m = l ∧ (∀ n ∈ m, Word n) ∧ m.length ≤ 128 := by
  rcases allF_err l.length l [] with h | h
  · obtain ⟨a1, a2, a3⟩ := allF_back l.length l [] (lall l).1 (by simp) (by simp) (Nat.le_refl _) (by unfold lall; rw [← h])
    exact .inr ⟨(lall l).1, by unfold lall; rw [← h], by simpa [nums] using a1, a2, a3⟩
  · exact .inl h

/-- No number's bytes are the beginning of another one's. -/
theorem put_apart {a b : Int} (ha : Word a) (hb : Word b) (h : ¬ a = b) : ¬ (put a).take (min (put a).length (put b).length) = (put b).take (min (put a).length (put b).length) := by
  intro e
  apply h
  rcases Nat.le_total (put a).length (put b).length with hl | hl
  · rw [Nat.min_eq_left hl, List.take_length] at e
    have h1 := lget_put ha ((put b).drop (put a).length)
    have h2 := lget_put hb []
    conv at h1 => lhs; arg 1; lhs; rw [e]
    rw [List.take_append_drop] at h1
    rw [List.append_nil, h1] at h2
    exact (Prod.mk.inj h2).1
  · rw [Nat.min_eq_right hl, List.take_length] at e
    have h1 := lget_put hb ((put a).drop (put b).length)
    have h2 := lget_put ha []
    conv at h1 => lhs; arg 1; lhs; rw [← e]
    rw [List.take_append_drop] at h1
    rw [List.append_nil, h1] at h2
    exact (Prod.mk.inj h2).1.symm

/-- How many bytes, by the number of bits. -/
def slog (a : Int) : Int := (Lib.bitLen a.toNat : Int)
def size (n : Int) : Int := max 1 ((slog n + 6) / 7)
theorem two_pow_lt {j k : Nat} (h : (2 : Int) ^ j < 2 ^ k) : j < k := by
  rcases Nat.lt_or_ge j k with g | g
  · exact g
  · have := Nat.pow_le_pow_right (n := 2) (by decide) g
    have e : ((2 ^ k : Nat) : Int) ≤ ((2 ^ j : Nat) : Int) := by omega
    simp at e
    omega
theorem slog_bounds {a : Int} (ha : Word a) (hz : ¬ a = 0) : 1 ≤ slog a ∧ slog a ≤ 64 ∧ (2 : Int) ^ ((slog a).toNat - 1) ≤ a ∧ a < 2 ^ (slog a).toNat := by
  obtain ⟨h0, h1⟩ := ha
  obtain ⟨A, rfl⟩ := Int.eq_ofNat_of_zero_le h0
  have hA : A < 2 ^ 64 := by omega
  obtain ⟨p, q, r⟩ := Lib.bitLenAux_bounds 64 A hA (by omega)
  have hL : Lib.bitLenAux 64 A ≤ 64 := Lib.bitLen_le A 64 (Nat.le_refl _) hA
  unfold slog Lib.bitLen
  simp only [Int.toNat_natCast]
  generalize Lib.bitLenAux 64 A = L at *
  refine ⟨by omega, by omega, ?_, ?_⟩
  · have : ((2 ^ (L - 1) : Nat) : Int) ≤ A := by omega
    simpa using this
  · have : (A : Int) < ((2 ^ L : Nat) : Int) := by omega
    simpa using this
theorem slog_le {a : Int} (ha : Word a) : 0 ≤ slog a ∧ slog a ≤ 64 := by
  by_cases hz : a = 0
  · subst hz; decide
  · have := slog_bounds ha hz; omega
theorem pow128 (k : Nat) : (128 : Int) ^ k = 2 ^ (7 * k) := by
  rw [Int.pow_mul]; rfl
theorem size_put {n : Int} (h : Word n) : size n = ((put n).length : Int) := by
  by_cases hz : n = 0
  · subst hz; rw [put_small (by decide)]; decide
  obtain ⟨l1, l2, l3, l4⟩ := slog_bounds h hz
  obtain ⟨k, hk⟩ : ∃ k, (put n).length = k + 1 := ⟨(put n).length - 1, by have := put_pos n; omega⟩
  have u := (put_len k n h.1).1 (by omega)
  rw [pow128] at u
  have hu : (slog n).toNat - 1 < 7 * (k + 1) := two_pow_lt (by omega)
  have hd : 7 * k < (slog n).toNat := by
    by_cases hk0 : k = 0
    · omega
    obtain ⟨j, rfl⟩ : ∃ j, k = j + 1 := ⟨k - 1, by omega⟩
    have d := put_more (k := j) h.1 (by omega)
    rw [pow128] at d
    exact two_pow_lt (by omega)
  unfold size
  rw [hk]
  omega

/-- Ints as numbers. -/
def zig (n : Int) : Int := if n < 0 then -2 * n - 1 else 2 * n
def zag (u : Int) : Int := if u % 2 = 1 then -(u / 2) - 1 else u / 2
theorem zag_zig (n : Int) : zag (zig n) = n := by unfold zag zig; split <;> split <;> omega
theorem zig_zag {u : Int} (h : 0 ≤ u) : zig (zag u) = u := by unfold zag zig; split <;> split <;> omega
theorem zig_word {n : Int} (h : Inty n) : Word (zig n) := by obtain ⟨h1, h2⟩ := h; unfold zig Word; split <;> constructor <;> omega
theorem zag_inty {u : Int} (h : Word u) : Inty (zag u) := by obtain ⟨h1, h2⟩ := h; unfold zag Inty; split <;> constructor <;> omega

set_option maxRecDepth 100000 in
/-- Bits of a byte. -/
theorem low_of_byte {c : Int} (h : Byte c) : bits .andNot .u8 c 128 = c % 128 := by
  have key : ∀ a : Fin 256, bits .andNot .u8 ((a.val : Nat) : Int) 128 = ((a.val : Nat) : Int) % 128 := by decide
  obtain ⟨h0, h1⟩ := h
  obtain ⟨a, rfl⟩ := Int.eq_ofNat_of_zero_le h0
  exact key ⟨a, by omega⟩
set_option maxRecDepth 100000 in
theorem high_of_byte {c : Int} (h : Byte c) : bits .or .u8 c 128 = 128 + c % 128 := by
  have key : ∀ a : Fin 256, bits .or .u8 ((a.val : Nat) : Int) 128 = 128 + ((a.val : Nat) : Int) % 128 := by decide
  obtain ⟨h0, h1⟩ := h
  obtain ⟨a, rfl⟩ := Int.eq_ofNat_of_zero_le h0
  exact key ⟨a, by omega⟩
theorem wraps_u64 (n : Int) (h₀ : 0 ≤ n) (h₁ : n < 2 ^ 64) : IntKind.u64.wrap n = n := by rw [IntKind.wrap_u64]; omega
/-- A group is laid above the others. -/
theorem join_groups (l : List Int) (k : Nat) (hk : k ≤ 9) (hl : k < l.length) :
    bits .or .u64 (val (l.take k) % 18446744073709551616) (IntKind.u64.wrap (l.getD k 0 % 128 * 2 ^ (7 * k))) = val (l.take (k + 1)) % 18446744073709551616 := by
  have hv0 := val_nonneg (l.take k)
  have hv1 := val_lt (l.take k) k (by simp; omega)
  have hp : (128 : Int) ^ k ≤ 9223372036854775808 := by
    have h9 : (128 : Int) ^ 9 = 9223372036854775808 := by decide
    rw [← h9]
    have := Nat.pow_le_pow_right (n := 128) (by decide) hk
    have e : ((128 ^ k : Nat) : Int) ≤ ((128 ^ 9 : Nat) : Int) := by omega
    simpa using e
  have hm : val (l.take k) % 18446744073709551616 = val (l.take k) := by omega
  have hc0 : 0 ≤ l.getD k 0 % 128 := by omega
  have h64 : (18446744073709551616 : Int) = 2 ^ (64 - 7 * k) * 2 ^ (7 * k) := by
    rw [← Int.pow_add]
    have : 64 - 7 * k + 7 * k = 64 := by omega
    rw [this]; decide
  rw [val_take l k hl, hm, pow128, Int.mul_comm (2 ^ (7 * k)), IntKind.wrap_u64]
  rw [pow128] at hv1 hp
  have hcomm : ∀ x y : Int, bits .or .u64 x y = bits .or .u64 y x := fun x y => by simp only [bits, BitVec.or_comm]
  have hz : (l.getD k 0 % 128 * 2 ^ (7 * k)) % 18446744073709551616 % 2 ^ (7 * k) = 0 := by
    rw [Int.emod_emod_of_dvd _ (by rw [h64]; exact Int.dvd_mul_left ..)]
    exact Int.mul_emod_left ..
  rw [hcomm, bits_join .u64 64 (by decide) wraps_u64 (7 * k) _ _ (by omega) hz (by omega) hv0 hv1 (by omega)]
  have hsum : l.getD k 0 % 128 * 2 ^ (7 * k) % 18446744073709551616 + val (l.take k) < 18446744073709551616 := by
    have hdiv : ∃ q : Int, l.getD k 0 % 128 * 2 ^ (7 * k) % 18446744073709551616 = q * 2 ^ (7 * k) := ⟨_ / 2 ^ (7 * k), by
      have := Int.mul_ediv_add_emod (l.getD k 0 % 128 * 2 ^ (7 * k) % 18446744073709551616) (2 ^ (7 * k))
      rw [hz, Int.add_zero, Int.mul_comm] at this
      exact this.symm⟩
    obtain ⟨q, hq⟩ := hdiv
    have hlt : l.getD k 0 % 128 * 2 ^ (7 * k) % 18446744073709551616 < 18446744073709551616 := by omega
    rw [hq] at hlt ⊢
    have hq1 : q * 2 ^ (7 * k) < 2 ^ (64 - 7 * k) * 2 ^ (7 * k) := by rw [← h64]; exact hlt
    have hq2 : q < 2 ^ (64 - 7 * k) := Int.lt_of_mul_lt_mul_right hq1 (Int.le_of_lt (Int.pow_pos (by decide)))
    have hq3 : (q + 1) * 2 ^ (7 * k) ≤ 2 ^ (64 - 7 * k) * 2 ^ (7 * k) := Int.mul_le_mul_of_nonneg_right (by omega) (Int.le_of_lt (Int.pow_pos (by decide)))
    rw [← h64, Int.add_mul, Int.one_mul] at hq3
    omega
  omega
end Go.Proofs.Ytfgndecnakfhnaa.Leb
