/-
  What comes of a book and an event that a program can hold is one that it can hold. Lists alone.
-/
import Derived.Test.YtnaofcggdjbocaaBkOne
namespace Go.Proofs.Ytnaofcggdjbocaa.Book
open Go.Proofs.Ytnaofcggdjbocaa.Mem Go.Proofs.Ytnaofcggdjbocaa.Policy Go.Proofs.Ytnaofcggdjbocaa.Event

theorem news_okB {es : List En} {ps : List Po} {ds : List Int} {s : Int} {e : En} (oe : ∀ e ∈ es, EnOk e) (op : ∀ p ∈ ps, PoOk p) (h : news es ps ds s = some e) : EnOk e := by
  unfold news at h
  split at h
  · cases h
  · split at h
    · rename_i p hp
      simp only [Option.some.injEq] at h
      subst h
      refine ⟨op p (lookP_mem hp).1, ?_⟩
      simp only
      cases hl : look es s with
      | none => exact ⟨by decide, by decide⟩
      | some x => exact (oe x (look_mem hl).1).2
    · exact oe e (look_mem h).1
theorem comE_okB {es : List En} {ps : List Po} {ds : List Int} (oe : ∀ e ∈ es, EnOk e) (op : ∀ p ∈ ps, PoOk p) : ∀ e ∈ comE es ps ds, EnOk e := by
  intro e he
  obtain ⟨i, -, hi⟩ := List.mem_filterMap.1 he
  exact news_okB oe op hi
theorem comE_len (es : List En) (ps : List Po) (ds : List Int) : (comE es ps ds).length ≤ 255 := by
  unfold comE
  have := List.length_filterMap_le (fun (i : Nat) => news es ps ds ((i : Int) + 1)) (List.range 255)
  simpa using this
theorem apply_okB {b c : Bk} {e : Ev} (ob : ∀ x ∈ b.es, EnOk x) (op : ∀ p ∈ e.ps, PoOk p) (og : Word e.g) (h : applyO b e = some c) : (∀ x ∈ c.es, EnOk x) ∧ c.es.length ≤ b.es.length + 255 := by
  unfold applyO at h
  split at h
  case isFalse => cases h
  case isTrue hc =>
    split at h
    · split at h
      · simp only [Option.some.injEq] at h
        subst h
        refine ⟨comE_okB ob op, ?_⟩
        have h2 := comE_len b.es e.ps e.ds
        simp only
        omega
      · cases h
    · split at h
      · split at h
        · simp only [Option.some.injEq] at h
          subst h
          refine ⟨fun x hx => ?_, by simp [leaseE1]⟩
          obtain ⟨y, hy, rfl⟩ := List.mem_map.1 hx
          split
          · exact ⟨(ob y hy).1, og⟩
          · exact ob y hy
        · cases h
      · split at h
        · simp only [Option.some.injEq] at h
          subst h
          refine ⟨fun x hx => ?_, by simp [rollE]⟩
          obtain ⟨y, hy, rfl⟩ := List.mem_map.1 hx
          exact ⟨(ob y hy).1, show Word 0 from ⟨by decide, by decide⟩⟩
        · cases h
theorem app_okB {b : Bk} {e : Ev} (ob : ∀ x ∈ b.es, EnOk x) (op : ∀ p ∈ e.ps, PoOk p) (og : Word e.g) : (∀ x ∈ (appB b e).es, EnOk x) ∧ (appB b e).es.length ≤ b.es.length + 255 := by
  cases h : applyO b e with
  | none => rw [(app_none h).1]; exact ⟨ob, by omega⟩
  | some c => rw [(app_some h).1]; exact apply_okB ob op og h
end Go.Proofs.Ytnaofcggdjbocaa.Book
