/-
  Two commits that have to do with no subscriber in common. Lists alone.
-/
import Derived.Test.YtnaofcggdjbocabBkOne
namespace Go.Proofs.Ytnaofcggdjbocab.Book
open Go.Proofs.Ytnaofcggdjbocab.Policy Go.Proofs.Ytnaofcggdjbocab.Event

/-- What there is of a Sub behind a commit, by what there was. -/
def newO (ps : List Po) (ds : List Int) (s : Int) (o : Option En) : Option En := if s ∈ ds then none else match lookP ps s with
  | some p => some ⟨p, (o.map En.g).getD 0⟩
  | none => o
theorem news_is (es : List En) (ps : List Po) (ds : List Int) (s : Int) : news es ps ds s = newO ps ds s (look es s) := rfl
/-- With whom an event has to do. -/
def subsE (e : Ev) : List Int := e.ds ++ e.ps.map Po.s
theorem newO_out {e : Ev} {s : Int} (h : s ∉ subsE e) (o : Option En) : newO e.ps e.ds s o = o := by
  simp only [subsE, List.mem_append, not_or] at h
  unfold newO
  rw [if_neg h.1]
  split
  · rename_i p hp
    obtain ⟨h1, h2⟩ := lookP_mem hp
    exact absurd (List.mem_map.2 ⟨p, h1, h2⟩) h.2
  · rfl
theorem com_subs {es : List En} {ps : List Po} {ds : List Int} : ∀ e ∈ comE es ps ds, 1 ≤ e.p.s ∧ e.p.s ≤ 255 := fun e he => by
  obtain ⟨i, hi, hn⟩ := List.mem_filterMap.1 he
  have := news_sub hn
  have := List.mem_range.1 hi
  omega
theorem com_swap (es : List En) (x y : Ev) (h : ∀ s ∈ subsE x, s ∉ subsE y) : comE (comE es x.ps x.ds) y.ps y.ds = comE (comE es y.ps y.ds) x.ps x.ds := by
  refine com_is (com_rising _ _ _) com_subs fun s h1 h2 => ?_
  rw [com_look _ _ _ h1 h2, news_is, news_is, com_look _ _ _ h1 h2, com_look _ _ _ h1 h2, news_is, news_is]
  by_cases hx : s ∈ subsE x
  · rw [newO_out (h s hx), newO_out (h s hx)]
  · rw [newO_out hx, newO_out hx]
theorem commit_is {b c : Bk} {e : Ev} (hk : e.k = 1) (h : applyO b e = some c) : c = ⟨b.t, comE b.es e.ps e.ds⟩ := by
  unfold applyO at h
  split at h
  · skip
    split at h
    · exact (Option.some.inj h).symm
    · cases h
  · cases h
theorem swap {b c d g k : Bk} {x y : Ev} (hx : x.k = 1) (hy : y.k = 1) (h : ∀ s ∈ subsE x, s ∉ subsE y) (h1 : applyO b x = some c) (h2 : applyO c y = some d) (h3 : applyO b y = some g) (h4 : applyO g x = some k) : d = k := by
  rw [commit_is hy h2, commit_is hx h4, commit_is hx h1, commit_is hy h3]
  simp only [Bk.mk.injEq, true_and]
  exact com_swap _ _ _ h
end Go.Proofs.Ytnaofcggdjbocab.Book
