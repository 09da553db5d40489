/-
  The plain text of headers: the sum of bytes, the bytes of a packet, what is read out of bytes. Nothing of a program is named here.
-/
import Derived.Test.YtogijgpamdcjkaaKinds
namespace Go.Proofs.Ytogijgpamdcjkaa.Head

/-- The numbers of two bytes, added: a byte at an even place is the higher one. -/
def tot : Bool → List Int → Int
  | _, [] => 0
  | true, x :: r => 256 * x + tot false r
  | false, x :: r => x + tot true r
theorem tot_append : ∀ (b : Bool) (l m : List Int), tot b (l ++ m) = tot b l + tot (if l.length % 2 = 0 then b else !b) m
  | b, [], m => by simp [tot]
  | true, x :: r, m => by
    rw [List.cons_append, tot, tot, tot_append false r m, List.length_cons]
    by_cases h : r.length % 2 = 0
    · rw [if_pos h, if_neg (by omega)]; simp; omega
    · rw [if_neg h, if_pos (by omega)]; simp; omega
  | false, x :: r, m => by
    rw [List.cons_append, tot, tot, tot_append true r m, List.length_cons]
    by_cases h : r.length % 2 = 0
    · rw [if_pos h, if_neg (by omega)]; simp; omega
    · rw [if_neg h, if_pos (by omega)]; simp; omega
theorem tot_range : ∀ (b : Bool) {l : List Int}, (∀ c ∈ l, Byte c) → 0 ≤ tot b l ∧ tot b l ≤ 65280 * l.length
  | b, [], _ => by cases b <;> simp [tot]
  | true, x :: r, h => by
    have := tot_range false (l := r) (fun c hc => h c (by simp [hc]))
    have hx := h x (by simp)
    unfold Byte at hx
    simp only [tot, List.length_cons]
    omega
  | false, x :: r, h => by
    have := tot_range true (l := r) (fun c hc => h c (by simp [hc]))
    have hx := h x (by simp)
    unfold Byte at hx
    simp only [tot, List.length_cons]
    omega
theorem getD_byte {zs : List Int} (h : ∀ c ∈ zs, Byte c) (i : Nat) : Byte (zs.getD i 0) := by
  rw [List.getD_eq_getElem?_getD]
  cases hq : zs[i]? with
  | none => exact ⟨by simp, by simp⟩
  | some c => exact h c (List.mem_of_getElem? hq)
theorem take_snoc {zs : List Int} {k : Nat} (h : k < zs.length) : zs.take (k + 1) = zs.take k ++ [zs.getD k 0] := by
  rw [List.take_add_one]
  simp [List.getD_eq_getElem?_getD, h]
theorem tot_snoc {zs : List Int} {k : Nat} (h : k < zs.length) : tot true (zs.take (k + 1)) = tot true (zs.take k) + if k % 2 = 0 then 256 * zs.getD k 0 else zs.getD k 0 := by
  rw [take_snoc h, tot_append, List.length_take, Nat.min_eq_left (by omega)]
  split <;> simp [tot]

/-- What is above 65535 added once more, as long as there is anything. -/
def fold (s : Int) : Int := if s = 0 then 0 else (s - 1) % 65535 + 1
theorem fold_small {s : Int} (h0 : 0 ≤ s) (h1 : s ≤ 65535) : fold s = s := by
  unfold fold; split <;> omega
theorem fold_step {s : Int} (h : 65535 < s) : fold (s / 65536 + s % 65536) = fold s := by
  unfold fold
  rw [if_neg (by omega), if_neg (by omega)]
  omega
theorem fold_range {s : Int} (_h : 0 ≤ s) : 0 ≤ fold s ∧ fold s ≤ 65535 := by
  unfold fold; split <;> omega
theorem fold_less {s : Int} (h : 65535 < s) (h1 : s ≤ 131070) : fold s = s - 65535 := by
  unfold fold; rw [if_neg (by omega)]; omega
theorem fold_add {a b : Int} (ha : 0 ≤ a) (hb : 0 ≤ b) : fold (fold a + b) = fold (a + b) := by
  unfold fold
  by_cases h : a = 0
  · subst h; simp
  · rw [if_neg h]
    rw [if_neg (by omega), if_neg (by omega)]
    omega
theorem fold_pos {a : Int} (ha : 0 < a) : 1 ≤ fold a := by
  unfold fold; rw [if_neg (by omega)]; omega
/-- The sum. -/
def sumI (xs : List Int) : Int := 65535 - fold (tot true xs)
theorem sum_range {xs : List Int} (h : ∀ c ∈ xs, Byte c) : 0 ≤ sumI xs ∧ sumI xs ≤ 65535 := by
  have := fold_range (tot_range true h).1
  unfold sumI; omega

/-- A header without its options. -/
structure Hd where
  tos : Int
  id : Int
  fl : Int
  ttl : Int
  pr : Int
  s0 : Int
  s1 : Int
  s2 : Int
  s3 : Int
  d0 : Int
  d1 : Int
  d2 : Int
  d3 : Int
/-- Its bytes: m bytes of options follow, it is part of so many bytes, and it has this sum. -/
def hdr (h : Hd) (m all s : Int) : List Int :=
  [69 + m / 4, h.tos, all / 256, all % 256, h.id / 256, h.id % 256, h.fl / 256, h.fl % 256, h.ttl, h.pr, s / 256, s % 256, h.s0, h.s1, h.s2, h.s3, h.d0, h.d1, h.d2, h.d3]
def header (h : Hd) (os : List Int) (all s : Int) : List Int := hdr h os.length all s ++ os
def allOf (os ps : List Int) : Int := 20 + os.length + ps.length
def sumOf (h : Hd) (os ps : List Int) : Int := sumI (header h os (allOf os ps) 0)
def packet (h : Hd) (os ps : List Int) : List Int := header h os (allOf os ps) (sumOf h os ps) ++ ps
theorem hdr_length (h : Hd) (m all s : Int) : (hdr h m all s).length = 20 := rfl
theorem header_length (h : Hd) (os : List Int) (all s : Int) : (header h os all s).length = 20 + os.length := by
  unfold header; rw [List.length_append, hdr_length]
theorem packet_length (h : Hd) (os ps : List Int) : (packet h os ps).length = 20 + os.length + ps.length := by
  unfold packet; rw [List.length_append, header_length]

/-- Whether all are from 0 to so much. -/
def upB (m : Int) (ns : List Int) : Bool := ns.all fun n => decide (0 ≤ n) && decide (n ≤ m)
/-- Whether a header with m bytes of options can be. -/
def rightB (h : Hd) (m : Nat) : Bool := upB 255 [h.tos, h.ttl, h.pr] && upB 65535 [h.id, h.fl] && decide (m ≤ 40) && decide (m % 4 = 0)
/-- The addresses are bytes. -/
def Ads (h : Hd) : Prop := Byte h.s0 ∧ Byte h.s1 ∧ Byte h.s2 ∧ Byte h.s3 ∧ Byte h.d0 ∧ Byte h.d1 ∧ Byte h.d2 ∧ Byte h.d3
theorem right_iff {h : Hd} {m : Nat} : rightB h m = true ↔ (0 ≤ h.tos ∧ h.tos ≤ 255) ∧ (0 ≤ h.ttl ∧ h.ttl ≤ 255) ∧ (0 ≤ h.pr ∧ h.pr ≤ 255) ∧ (0 ≤ h.id ∧ h.id ≤ 65535) ∧ (0 ≤ h.fl ∧ h.fl ≤ 65535) ∧ m ≤ 40 ∧ m % 4 = 0 := by
  simp [rightB, upB]
  constructor
  · rintro ⟨⟨⟨⟨a, b, c⟩, d, e⟩, f⟩, g⟩; exact ⟨a, b, c, d, e, f, g⟩
  · rintro ⟨a, b, c, d, e, f, g⟩; exact ⟨⟨⟨⟨a, b, c⟩, d, e⟩, f⟩, g⟩
theorem hdr_bytes {h : Hd} {m : Nat} (hr : rightB h m = true) (ha : Ads h) {all s : Int} (h0 : 0 ≤ all) (h1 : all ≤ 65535) (h2 : 0 ≤ s) (h3 : s ≤ 65535) : ∀ c ∈ hdr h m all s, Byte c := by
  obtain ⟨a, b, c, d, e, f, g⟩ := right_iff.1 hr
  unfold Ads Byte at ha
  intro x hx
  simp only [hdr, List.mem_cons, List.not_mem_nil, or_false] at hx
  unfold Byte
  rcases hx with rfl | rfl | rfl | rfl | rfl | rfl | rfl | rfl | rfl | rfl | rfl | rfl | rfl | rfl | rfl | rfl | rfl | rfl | rfl | rfl <;> omega
theorem header_bytes {h : Hd} {os : List Int} (hr : rightB h os.length = true) (ha : Ads h) (ho : ∀ c ∈ os, Byte c) {all s : Int} (h0 : 0 ≤ all) (h1 : all ≤ 65535) (h2 : 0 ≤ s) (h3 : s ≤ 65535) : ∀ c ∈ header h os all s, Byte c := by
  intro x hx
  rcases List.mem_append.1 hx with hx | hx
  · exact hdr_bytes hr ha h0 h1 h2 h3 x hx
  · exact ho x hx
theorem tot_header (h : Hd) (os : List Int) (all s : Int) : tot true (header h os all s) = tot true (header h os all 0) + s := by
  unfold header
  rw [tot_append, tot_append, hdr_length, hdr_length]
  simp only [hdr, tot]
  omega
theorem sum_bounds {h : Hd} {os ps : List Int} (hr : rightB h os.length = true) (ha : Ads h) (ho : ∀ c ∈ os, Byte c) (hl : 20 + os.length + ps.length ≤ 1500) : 0 ≤ sumOf h os ps ∧ sumOf h os ps ≤ 65535 := by
  have hA : allOf os ps = ((20 + os.length + ps.length : Nat) : Int) := by unfold allOf; omega
  exact sum_range (header_bytes hr ha ho (by omega) (by omega) (by omega) (by omega))
theorem packet_bytes {h : Hd} {os ps : List Int} (hr : rightB h os.length = true) (ha : Ads h) (ho : ∀ c ∈ os, Byte c) (hp : ∀ c ∈ ps, Byte c) (hl : 20 + os.length + ps.length ≤ 1500) : ∀ c ∈ packet h os ps, Byte c := by
  have hs := sum_bounds (ps := ps) hr ha ho hl
  have hA : allOf os ps = ((20 + os.length + ps.length : Nat) : Int) := by unfold allOf; omega
  intro x hx
  rcases List.mem_append.1 hx with hx | hx
  · exact header_bytes hr ha ho (by omega) (by omega) hs.1 hs.2 x hx
  · exact hp x hx

/-- What is read out of bytes. -/
def hsz (xs : List Int) : Nat := (xs.getD 0 0 % 16 * 4).toNat
def num (xs : List Int) (i : Nat) : Int := 256 * xs.getD i 0 + xs.getD (i + 1) 0
def fitB (xs : List Int) : Bool := decide (20 ≤ hsz xs) && decide (hsz xs ≤ xs.length) && decide (num xs 2 = xs.length) && decide (xs.length ≤ 1500)
def faultE (xs : List Int) : Int :=
  if xs.length < 20 then 51 else if xs.getD 0 0 / 16 ≠ 4 then 52 else if fitB xs = false then 53 else if sumI (xs.take (hsz xs)) ≠ 0 then 54 else 0
def hdOf (xs : List Int) : Hd := ⟨xs.getD 1 0, num xs 4, num xs 6, xs.getD 8 0, xs.getD 9 0, xs.getD 12 0, xs.getD 13 0, xs.getD 14 0, xs.getD 15 0, xs.getD 16 0, xs.getD 17 0, xs.getD 18 0, xs.getD 19 0⟩
def opts (xs : List Int) : List Int := (xs.take (hsz xs)).drop 20
def pay (xs : List Int) : List Int := xs.drop (hsz xs)
theorem fit_iff {xs : List Int} : fitB xs = true ↔ 20 ≤ hsz xs ∧ hsz xs ≤ xs.length ∧ num xs 2 = xs.length ∧ xs.length ≤ 1500 := by
  simp [fitB, and_assoc]
theorem fault_ok {xs : List Int} : faultE xs = 0 ↔ 20 ≤ xs.length ∧ xs.getD 0 0 / 16 = 4 ∧ fitB xs = true ∧ sumI (xs.take (hsz xs)) = 0 := by
  unfold faultE
  by_cases h1 : xs.length < 20
  · rw [if_pos h1]; simp; omega
  · rw [if_neg h1]
    by_cases h2 : xs.getD 0 0 / 16 = 4
    · rw [if_neg (by simpa using h2)]
      by_cases h3 : fitB xs = false
      · rw [if_pos h3]; simp [h3]
      · rw [if_neg h3]
        by_cases h4 : sumI (xs.take (hsz xs)) = 0
        · rw [if_neg (by simpa using h4)]
          simp only [true_iff]
          exact ⟨by omega, h2, by simpa using h3, h4⟩
        · rw [if_pos h4]; simp [h4]
    · rw [if_pos h2]; simp; intro _ h; exact absurd h h2
theorem fault_cases (xs : List Int) : faultE xs = 51 ∨ faultE xs = 52 ∨ faultE xs = 53 ∨ faultE xs = 54 ∨ faultE xs = 0 := by
  unfold faultE
  repeat' split
  all_goals simp
theorem pay_length (xs : List Int) : (pay xs).length = xs.length - hsz xs := by unfold pay; simp
theorem opts_length {xs : List Int} (h : hsz xs ≤ xs.length) : (opts xs).length = hsz xs - 20 := by unfold opts; simp; omega
end Go.Proofs.Ytogijgpamdcjkaa.Head
