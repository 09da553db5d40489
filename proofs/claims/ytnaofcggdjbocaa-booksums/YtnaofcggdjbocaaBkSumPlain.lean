/-
  What comes of an event: the period, what was granted, what is granted. Lists alone.
-/
import Derived.Test.YtnaofcggdjbocaaBkChange
namespace Go.Proofs.Ytnaofcggdjbocaa.Book
open Go.RowKit Go.Proofs.Ytnaofcggdjbocaa.Mem Go.Proofs.Ytnaofcggdjbocaa.Policy Go.Proofs.Ytnaofcggdjbocaa.Event

/-- An entry of what came of it, held against what was there. -/
def Fits (b c : Bk) (e : Ev) (x : En) : Prop :=
  (c.t = b.t → ∀ y, look b.es x.p.s = some y → y.g ≤ x.g) ∧ (c.t ≠ b.t → x.g = 0) ∧ (look b.es x.p.s = none → x.g = 0) ∧ (e.k = 2 → e.s = x.p.s → x.g ≤ (x.p.x4 : Int) ∧ x.g = e.g)
theorem com_mem {es : List En} {ps : List Po} {ds : List Int} {x : En} (h : x ∈ comE es ps ds) : news es ps ds x.p.s = some x := by
  obtain ⟨i, -, hi⟩ := List.mem_filterMap.1 h
  rw [news_sub hi]
  exact hi
theorem sums {b c : Bk} {e : Ev} (h : applyO b e = some c) : (c.t = b.t ∨ c.t = b.t + 1) ∧ ∀ x ∈ c.es, Fits b c e x := by
  unfold applyO at h
  split at h
  case isFalse => cases h
  case isTrue hc =>
    obtain ⟨hb, he⟩ := hc
    have hrise := tog_rising (rightB_iff.1 hb).2.1
    split at h
    · rename_i hk
      split at h
      · simp only [Option.some.injEq] at h
        subst h
        refine ⟨.inl rfl, fun x hx => ⟨fun _ y hy => ?_, fun h => absurd rfl h, fun hn => ?_, fun h2 => by omega⟩⟩
        · have hn := com_mem hx
          unfold news at hn
          split at hn
          · cases hn
          · split at hn
            · simp only [Option.some.injEq] at hn
              rw [← hn]
              simp only at hy ⊢
              rw [← hn] at hy
              simp only at hy
              rename_i p hp
              have := (lookP_mem hp).2
              rw [← hn] at this
              simp only at this
              rw [← hn]
              simp only
              rw [hy]
              simp
            · rw [hn] at hy
              obtain rfl := Option.some.inj hy
              exact Int.le_refl _
        · have hm := com_mem hx
          unfold news at hm
          split at hm
          · cases hm
          · split at hm
            · rw [hn] at hm
              simp only [Option.map_none, Option.getD_none, Option.some.injEq] at hm
              rw [← hm]
            · rw [hn] at hm; cases hm
      · cases h
    · rename_i hk1
      split at h
      · rename_i hk2
        split at h
        · rename_i hl
          simp only [Option.some.injEq] at h
          subst h
          refine ⟨.inl rfl, fun x hx => ?_⟩
          obtain ⟨y, hy, rfl⟩ := List.mem_map.1 hx
          have hly := look_of hrise hy
          unfold leaseIn at hl
          unfold Fits
          rw [lease_p]
          simp only
          refine ⟨fun _ z hz => ?_, fun h => absurd rfl h, fun hn => (by rw [hly] at hn; cases hn), fun _ hs => ?_⟩
          · rw [hly] at hz
            obtain rfl := Option.some.inj hz
            split
            · rename_i hs
              rw [← hs, hly] at hl
              simp at hl
              exact hl.1
            · exact Int.le_refl _
          · rw [hs, hly] at hl
            simp at hl
            rw [if_pos hs.symm]
            exact ⟨hl.2, rfl⟩
        · cases h
      · split at h
        · rename_i hk2 ht
          simp only [Option.some.injEq] at h
          subst h
          refine ⟨.inr ht, fun x hx => ?_⟩
          obtain ⟨y, hy, rfl⟩ := List.mem_map.1 hx
          exact ⟨fun h => by simp only at h; omega, fun _ => rfl, fun _ => rfl, fun h => absurd h hk2⟩
        · cases h
/-- An event in memory: where its lists are, and what it is. -/
def hl (a : Eh × Ev) : List Value := el a.1
theorem hl_len (a : Eh × Ev) : (hl a).length = 6 := rfl
def HOk (w : World) (a : Eh × Ev) : Prop := Is w a.1 a.2 ∧ EvOk a.2
end Go.Proofs.Ytnaofcggdjbocaa.Book
