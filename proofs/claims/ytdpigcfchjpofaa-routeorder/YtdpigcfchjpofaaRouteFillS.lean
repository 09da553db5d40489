/-
  A table that is filled in whichever order: plain facts.
-/
import Derived.Test.YtdpigcfchjpofaaRouteFill
namespace Go.Proofs.Ytdpigcfchjpofaa.Route
open Go.Proofs.Ytdpigcfchjpofaa.Addr

def fillS (xs : List Nt) (s : Nat → Nat) : Nat → List Rt
  | 0 => []
  | i + 1 => setM (fillS xs s i) (ent xs (s i))
def rot (n t j : Nat) : Nat := if n ≤ j + t then j + t - n else j + t
theorem rot_lt {n t j : Nat} (ht : t < n) (hj : j < n) : rot n t j < n := by unfold rot; split <;> omega
theorem rot_inj {n t j l : Nat} (hj : j < n) (hl : l < n) (h : rot n t j = rot n t l) : j = l := by
  unfold rot at h; split at h <;> split at h <;> omega
theorem rot_all {n t j : Nat} (ht : t < n) (hj : j < n) : ∃ l, l < n ∧ rot n t l = j := by
  by_cases h : t ≤ j
  · exact ⟨j - t, by omega, by unfold rot; split <;> omega⟩
  · exact ⟨j + n - t, by omega, by unfold rot; split <;> omega⟩
section
variable {xs : List Nt} {s : Nat → Nat}
theorem good_fillS (h : ∀ k ∈ xs, NOk k) (hl : xs.length ≤ 1000) (hs : ∀ j, j < xs.length → s j < xs.length) : ∀ {i : Nat}, i ≤ xs.length → Good (fillS xs s i)
  | 0, _ => good_nil
  | i + 1, hi => good_set (good_fillS h hl hs (by omega)) (ent_ok h (hs i (by omega)) hl)
theorem len_fillS (h : ∀ k ∈ xs, NOk k) (hl : xs.length ≤ 1000) (hs : ∀ j, j < xs.length → s j < xs.length) : ∀ {i : Nat}, i ≤ xs.length → (fillS xs s i).length ≤ i
  | 0, _ => Nat.le_refl _
  | i + 1, hi => by
    have h1 := len_fillS h hl hs (i := i) (by omega)
    have h2 := len_set_le (good_fillS h hl hs (i := i) (by omega)).1 (ent xs (s i))
    simp only [fillS]
    omega
theorem mem_fillS (h : ∀ k ∈ xs, NOk k) (hl : xs.length ≤ 64) (hs : ∀ j, j < xs.length → s j < xs.length) (hi : ∀ j l, j < xs.length → l < xs.length → s j = s l → j = l) (hd : ∀ a b, a < xs.length → b < a → nth xs a ≠ nth xs b) :
    ∀ {i : Nat}, i ≤ xs.length → ∀ {x : Rt}, x ∈ fillS xs s i ↔ ∃ j, j < i ∧ x = ent xs (s j) ∧ rightN x.1 x.2.1 = true
  | 0, _, x => by simp [fillS]
  | i + 1, hin, x => by
    have ih := mem_fillS h hl hs hi hd (i := i) (by omega) (x := x)
    have h1 := len_fillS h (by omega) hs (i := i) (by omega)
    have h2 : (fillS xs s i).length < 64 := by omega
    have h3 : (0 : Int) ≤ ((s i : Nat) : Int) := by omega
    have hok : setOk (fillS xs s i) (ent xs (s i)) = rightN (nth xs (s i)).1 (nth xs (s i)).2 := by simp [setOk, ent, h2, h3]
    have hst : fillS xs s (i + 1) = setM (fillS xs s i) (ent xs (s i)) := rfl
    rw [hst]
    unfold setM
    by_cases hr : rightN (nth xs (s i)).1 (nth xs (s i)).2 = true
    · rw [if_pos (by rw [hok]; exact hr), mem_ins, kof_ent, ih]
      constructor
      · rintro (rfl | ⟨⟨j, hj, rfl, h4⟩, _⟩)
        · exact ⟨i, by omega, rfl, hr⟩
        · exact ⟨j, by omega, rfl, h4⟩
      · rintro ⟨j, hj, rfl, h4⟩
        rcases Nat.lt_or_ge j i with h5 | h5
        · refine .inr ⟨⟨j, h5, rfl, h4⟩, ?_⟩
          rw [kof_ent]
          have hne : s j ≠ s i := fun e => by have := hi j i (by omega) (by omega) e; omega
          rcases Nat.lt_or_ge (s j) (s i) with h6 | h6
          · exact (hd (s i) (s j) (hs i (by omega)) h6).symm
          · exact hd (s j) (s i) (hs j (by omega)) (by omega)
        · obtain rfl : j = i := by omega
          exact .inl rfl
    · rw [if_neg (by rw [hok]; exact hr), ih]
      constructor
      · rintro ⟨j, hj, rfl, h4⟩
        exact ⟨j, by omega, rfl, h4⟩
      · rintro ⟨j, hj, rfl, h4⟩
        have hji : j ≠ i := fun e => by subst e; exact hr h4
        exact ⟨j, by omega, rfl, h4⟩
theorem fill_order (h : ∀ k ∈ xs, NOk k) (hl : xs.length ≤ 64) {t : Nat} (ht : t < xs.length) (hd : ∀ a b, a < xs.length → b < a → nth xs a ≠ nth xs b) : fillS xs (fun j => j) xs.length = fillS xs (rot xs.length t) xs.length := by
  have g1 := good_fillS (s := fun j => j) h (by omega) (fun j hj => hj) (Nat.le_refl _)
  have g2 := good_fillS (s := rot xs.length t) h (by omega) (fun j hj => rot_lt ht hj) (Nat.le_refl _)
  refine sorted_eq g1.1 g2.1 fun x => ?_
  rw [mem_fillS h hl (fun j hj => hj) (fun j l _ _ e => e) hd (Nat.le_refl _), mem_fillS h hl (fun j hj => rot_lt ht hj) (fun j l hj hl e => rot_inj hj hl e) hd (Nat.le_refl _)]
  constructor
  · rintro ⟨j, hj, e, hr⟩
    obtain ⟨l, hl, rfl⟩ := rot_all ht hj
    exact ⟨l, hl, e, hr⟩
  · rintro ⟨j, hj, e, hr⟩
    exact ⟨_, rot_lt ht hj, e, hr⟩
end
end Go.Proofs.Ytdpigcfchjpofaa.Route
