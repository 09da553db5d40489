/-
  A table that is filled with networks one by one, each its place's: plain facts.
-/
import Derived.Test.YtdpigcfchjpofaaRoutePlain
namespace Go.Proofs.Ytdpigcfchjpofaa.Route
open Go.Proofs.Ytdpigcfchjpofaa.Addr

def nth (xs : List Nt) (i : Nat) : Nt := xs.getD i (0, 0)
def ent (xs : List Nt) (i : Nat) : Rt := ((nth xs i).1, (nth xs i).2, (i : Int))
def fill (xs : List Nt) : Nat → List Rt
  | 0 => []
  | i + 1 => setM (fill xs i) (ent xs i)
theorem nth_get {xs : List Nt} {i : Nat} {k : Nt} (h : xs[i]? = some k) : nth xs i = k := by simp [nth, h]
theorem nth_ok {xs : List Nt} (h : ∀ k ∈ xs, NOk k) {i : Nat} (hi : i < xs.length) : NOk (nth xs i) := by
  have e : xs[i]? = some xs[i] := List.getElem?_eq_getElem hi
  rw [nth_get e]
  exact h _ (List.mem_of_getElem? e)
theorem ent_ok {xs : List Nt} (h : ∀ k ∈ xs, NOk k) {i : Nat} (hi : i < xs.length) (hl : xs.length ≤ 1000) : ROk (ent xs i) := by
  refine ⟨nth_ok h hi, ?_⟩
  simp only [ent, Inty]
  omega
theorem kof_ent (xs : List Nt) (i : Nat) : kof (ent xs i) = nth xs i := rfl
theorem good_fill {xs : List Nt} (h : ∀ k ∈ xs, NOk k) (hl : xs.length ≤ 1000) : ∀ {i : Nat}, i ≤ xs.length → Good (fill xs i)
  | 0, _ => good_nil
  | i + 1, hi => good_set (good_fill h hl (by omega)) (ent_ok h (by omega) hl)
theorem len_fill {xs : List Nt} (h : ∀ k ∈ xs, NOk k) (hl : xs.length ≤ 1000) : ∀ {i : Nat}, i ≤ xs.length → (fill xs i).length ≤ i
  | 0, _ => Nat.le_refl _
  | i + 1, hi => by
    have h1 := len_fill h hl (i := i) (by omega)
    have h2 := len_set_le (good_fill h hl (i := i) (by omega)).1 (ent xs i)
    simp only [fill]
    omega
/-- Where there is room a network is set just if it is right. -/
theorem fill_ok {xs : List Nt} (h : ∀ k ∈ xs, NOk k) (hl : xs.length ≤ 64) {i : Nat} (hi : i < xs.length) : setOk (fill xs i) (ent xs i) = rightN (nth xs i).1 (nth xs i).2 := by
  have h1 := len_fill h (by omega) (i := i) (by omega)
  have h2 : (fill xs i).length < 64 := by omega
  have h3 : (0 : Int) ≤ (i : Int) := by omega
  simp [setOk, ent, h2, h3]
/-- What is in it: of each right network the last one's place. -/
theorem mem_fill {xs : List Nt} (h : ∀ k ∈ xs, NOk k) (hl : xs.length ≤ 64) : ∀ {i : Nat}, i ≤ xs.length → ∀ {x : Rt}, x ∈ fill xs i ↔ ∃ j, j < i ∧ x = ent xs j ∧ rightN x.1 x.2.1 = true ∧ ∀ l, j < l → l < i → nth xs l ≠ kof x
  | 0, _, x => by simp [fill]
  | i + 1, hi, x => by
    have ih := mem_fill h hl (i := i) (by omega) (x := x)
    have hok := fill_ok h hl (i := i) (by omega)
    have hs : fill xs (i + 1) = setM (fill xs i) (ent xs i) := rfl
    rw [hs]
    unfold setM
    by_cases hr : rightN (nth xs i).1 (nth xs i).2 = true
    · rw [if_pos (by rw [hok]; exact hr), mem_ins, kof_ent, ih]
      constructor
      · rintro (rfl | ⟨⟨j, hj, rfl, h1, h2⟩, hne⟩)
        · exact ⟨i, by omega, rfl, hr, fun l h1 h2 => by omega⟩
        · refine ⟨j, by omega, rfl, h1, fun l hl1 hl2 => ?_⟩
          rcases Nat.lt_or_ge l i with h3 | h3
          · exact h2 l hl1 h3
          · obtain rfl : l = i := by omega
            exact fun e => hne e.symm
      · rintro ⟨j, hj, rfl, h1, h2⟩
        rcases Nat.lt_or_ge j i with h3 | h3
        · exact .inr ⟨⟨j, h3, rfl, h1, fun l hl1 hl2 => h2 l hl1 (by omega)⟩, fun e => h2 i h3 (by omega) e.symm⟩
        · obtain rfl : j = i := by omega
          exact .inl rfl
    · rw [if_neg (by rw [hok]; exact hr), ih]
      constructor
      · rintro ⟨j, hj, rfl, h1, h2⟩
        refine ⟨j, by omega, rfl, h1, fun l hl1 hl2 => ?_⟩
        rcases Nat.lt_or_ge l i with h3 | h3
        · exact h2 l hl1 h3
        · obtain rfl : l = i := by omega
          intro e
          rw [e] at hr
          exact hr h1
      · rintro ⟨j, hj, rfl, h1, h2⟩
        have hji : j ≠ i := fun e => by subst e; exact hr h1
        exact ⟨j, by omega, rfl, h1, fun l hl1 hl2 => h2 l hl1 (by omega)⟩
/-! ### RouteBack -/
theorem back_has {M : List Rt} {r : Rt} (h : hasM M (kof r) = false) : hasM (setM M r) (kof r) = setOk M r := by
  unfold setM
  cases ho : setOk M r
  · simp [h]
  · simp [has_ins]
theorem back_del {M : List Rt} {r : Rt} (hM : Sorted M) (h : hasM M (kof r) = false) : delM (setM M r) (kof r) = M := by
  unfold setM
  cases ho : setOk M r
  · simp [del_none h]
  · simp only [if_true]
    refine sorted_eq (sorted_del (sorted_ins hM r) _) hM fun x => ?_
    rw [mem_del, mem_ins]
    constructor
    · rintro ⟨rfl | hx, hne⟩
      · exact absurd rfl hne
      · exact hx.1
    · intro hx
      have : kof x ≠ kof r := fun e => by rw [show hasM M (kof r) = true from has_iff.2 ⟨x, hx, e⟩] at h; cases h
      exact ⟨.inr ⟨hx, this⟩, this⟩
theorem fill_not {xs : List Nt} (h : ∀ k ∈ xs, NOk k) (hl : xs.length ≤ 64) {i : Nat} (hi : i ≤ xs.length) {k : Nt} (hk : ∀ j, j < i → nth xs j ≠ k) : hasM (fill xs i) k = false := by
  cases hc : hasM (fill xs i) k
  · rfl
  · obtain ⟨x, hx, rfl⟩ := has_iff.1 hc
    obtain ⟨j, hj, rfl, _⟩ := (mem_fill h hl hi).1 hx
    exact absurd (kof_ent xs j).symm (hk j hj)
/-! ### RouteLongest -/
theorem longest_found {xs : List Nt} (h : ∀ k ∈ xs, NOk k) (hl : xs.length ≤ 64) {A : Nat} {r : Rt} (hf : findM (fill xs xs.length) A = some r) :
    ∃ j, j < xs.length ∧ r = ent xs j ∧ inN A r.1 r.2.1 = true := by
  have hb := (best_find (fill xs xs.length) A).2 r hf
  obtain ⟨j, hj, rfl, _⟩ := (mem_fill h hl (Nat.le_refl _)).1 hb.1
  exact ⟨j, hj, rfl, hb.2.1⟩
theorem last_of {xs : List Nt} (n : Nat) : ∀ (i : Nat), i < n → ∃ j, i ≤ j ∧ j < n ∧ nth xs j = nth xs i ∧ ∀ l, j < l → l < n → nth xs l ≠ nth xs i := by
  induction n with
  | zero => intro i hi; omega
  | succ n ih =>
    intro i hi
    by_cases e : nth xs n = nth xs i
    · exact ⟨n, by omega, by omega, e, fun l h1 h2 => by omega⟩
    · have hin : i < n := by
        rcases Nat.lt_or_ge i n with h1 | h1
        · exact h1
        · obtain rfl : i = n := by omega
          exact absurd rfl e
      obtain ⟨j, h1, h2, h3, h4⟩ := ih i hin
      refine ⟨j, h1, by omega, h3, fun l hl1 hl2 => ?_⟩
      rcases Nat.lt_or_ge l n with h5 | h5
      · exact h4 l hl1 h5
      · obtain rfl : l = n := by omega
        exact e
theorem right_of_in {A N : Nat} {b : Int} (h : inN A N b = true) : rightN N b = true := by
  unfold inN at h
  simp only [Bool.and_eq_true] at h
  exact h.1
theorem longest_all {xs : List Nt} (h : ∀ k ∈ xs, NOk k) (hl : xs.length ≤ 64) {A i : Nat} (hi : i < xs.length) (hin : inN A (nth xs i).1 (nth xs i).2 = true) :
    ∃ r, findM (fill xs xs.length) A = some r ∧ (nth xs i).2 ≤ r.2.1 ∧ (nth xs i = kof r → (i : Int) ≤ r.2.2) := by
  obtain ⟨j, h1, h2, h3, h4⟩ := last_of (xs := xs) xs.length i hi
  have hm : ent xs j ∈ fill xs xs.length := (mem_fill h hl (Nat.le_refl _)).2 ⟨j, h2, rfl, by
    have := right_of_in hin
    rw [← h3] at this
    exact this, fun l hl1 hl2 => by rw [kof_ent, h3]; exact h4 l hl1 hl2⟩
  have hij : inN A (ent xs j).1 (ent xs j).2.1 = true := by simp only [ent, h3]; exact hin
  have hb := best_find (fill xs xs.length) A
  cases hf : findM (fill xs xs.length) A with
  | none =>
    rw [hf] at hb
    have := hb.1 rfl _ hm
    rw [hij] at this
    cases this
  | some r =>
    rw [hf] at hb
    obtain ⟨hr, hri, hrm⟩ := hb.2 r rfl
    have h5 := hrm _ hm hij
    simp only [ent, h3] at h5
    refine ⟨r, rfl, h5, fun e => ?_⟩
    have : r = ent xs j := sorted_inj (good_fill h (by omega) (Nat.le_refl _)).1 hr hm (by rw [kof_ent, h3]; exact e.symm)
    rw [this]
    simp only [ent]
    omega
end Go.Proofs.Ytdpigcfchjpofaa.Route
