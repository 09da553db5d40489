/-
  What a commit comes to, as the program goes about it: one out after another, one in after another, then in order.
-/
import Derived.Test.YtnaofcggdjbocaaBkChange
namespace Go.Proofs.Ytnaofcggdjbocaa.Book
open Go.Proofs.Ytnaofcggdjbocaa.Policy Go.Proofs.Ytnaofcggdjbocaa.Event

/-- No two of the same Sub. -/
def Dis (es : List En) : Prop := es.Pairwise fun a b => a.p.s ≠ b.p.s
theorem dis_rising {es : List En} (h : Rising es) : Dis es := h.imp fun hb => by omega
theorem look_dis : ∀ {es : List En}, Dis es → ∀ {e : En}, e ∈ es → look es e.p.s = some e
  | [], _, e, h => by simp at h
  | a :: r, hr, e, h => by
    have hr' := List.pairwise_cons.1 hr
    rcases List.mem_cons.1 h with rfl | h
    · simp [look]
    · have h1 := hr'.1 e h
      unfold look
      rw [List.find?_cons_of_neg (by simpa using h1)]
      exact look_dis hr'.2 h
/-- What there is of each Sub is all there is to say. -/
theorem look_iff {es : List En} (h : Dis es) {s : Int} {e : En} : look es s = some e ↔ e ∈ es ∧ e.p.s = s := by
  constructor
  · exact look_mem
  · rintro ⟨h1, rfl⟩
    exact look_dis h h1
theorem look_mems {es fs : List En} (h1 : Dis es) (h2 : Dis fs) {s : Int} (h : ∀ e, e.p.s = s → (e ∈ es ↔ e ∈ fs)) : look es s = look fs s := by
  apply Option.ext
  intro e
  rw [look_iff h1, look_iff h2]
  constructor
  · rintro ⟨k1, k2⟩; exact ⟨(h e k2).1 k1, k2⟩
  · rintro ⟨k1, k2⟩; exact ⟨(h e k2).2 k1, k2⟩
theorem dis_at {es : List En} (h : Dis es) {i j : Nat} {a b : En} (hi : es[i]? = some a) (hj : es[j]? = some b) (hs : a.p.s = b.p.s) : i = j := by
  obtain ⟨h1, rfl⟩ := List.getElem?_eq_some_iff.1 hi
  obtain ⟨h2, rfl⟩ := List.getElem?_eq_some_iff.1 hj
  have hp := List.pairwise_iff_getElem.1 h
  rcases Nat.lt_trichotomy i j with k | k | k
  · exact absurd hs (hp i j h1 h2 k)
  · exact k
  · exact absurd hs.symm (hp j i h2 h1 k)

/-! ### One out -/
theorem out_dis {es : List En} (h : Dis es) (i : Nat) : Dis (es.eraseIdx i) := h.sublist (List.eraseIdx_sublist es i)
theorem out_look {es : List En} (h : Dis es) {i : Nat} {e : En} (hi : es[i]? = some e) (s : Int) : look (es.eraseIdx i) s = if s = e.p.s then none else look es s := by
  split
  · rename_i hs
    refine look_none fun x hx => ?_
    rw [hs]
    intro q
    obtain ⟨j, hj, hne⟩ := List.mem_eraseIdx_iff_getElem?.1 hx |> fun ⟨j, hj, hne⟩ => (⟨j, hne, hj⟩ : ∃ j, es[j]? = some x ∧ j ≠ i)
    exact hne (dis_at h hj hi q)
  · rename_i hs
    refine look_mems (out_dis h i) h fun x hx => ⟨fun k => List.mem_of_mem_eraseIdx k, fun k => ?_⟩
    obtain ⟨j, hj⟩ := List.mem_iff_getElem?.1 k
    refine List.mem_eraseIdx_iff_getElem?.2 ⟨j, ?_, hj⟩
    intro q
    subst q
    rw [hi] at hj
    rw [← Option.some.inj hj] at hx
    exact hs hx.symm
def dropAll : List En → List Int → Option (List En)
  | es, [] => some es
  | es, d :: r => if placeI es d < 0 then none else dropAll (es.eraseIdx (placeI es d).toNat) r
theorem drop_no {es : List En} {d : Int} {r : List Int} (h : placeI es d = -1) : dropAll es (d :: r) = none := by simp [dropAll, h]
theorem drop_go {es : List En} {d : Int} {r : List Int} {i : Nat} (h : placeI es d = i) : dropAll es (d :: r) = dropAll (es.eraseIdx i) r := by
  simp only [dropAll, h]
  rw [if_neg (by omega)]
  rfl
theorem drops_any : ∀ (ds : List Int) (es : List En), Dis es → ds.Nodup → (dropsIn es ds = false ∧ dropAll es ds = none) ∨ (dropsIn es ds = true ∧ ∃ L, dropAll es ds = some L ∧ Dis L ∧ (∀ e ∈ L, e ∈ es) ∧ ∀ s, look L s = if s ∈ ds then none else look es s)
  | [], es, hd, _ => .inr ⟨rfl, es, rfl, hd, fun _ h => h, fun s => by simp⟩
  | d :: r, es, hd, hn => by
    have hn' := List.nodup_cons.1 hn
    rcases place_is2 es d with ⟨hp, hlk, -⟩ | ⟨i, e, hp, hi, he, hlk, -⟩
    · exact .inl ⟨by simp [dropsIn, hlk], drop_no hp⟩
    · have hlo := out_look hd hi
      rw [he] at hlo
      have e1 : dropsIn es (d :: r) = dropsIn (es.eraseIdx i) r := by
        unfold dropsIn
        rw [List.all_cons, hlk]
        simp only [Option.isSome_some, Bool.true_and]
        rw [Bool.eq_iff_iff, List.all_eq_true, List.all_eq_true]
        refine forall_congr' fun x => forall_congr' fun hx => ?_
        rw [hlo x, if_neg (fun (q : x = d) => hn'.1 (q ▸ hx))]
      rw [e1, drop_go hp]
      rcases drops_any r (es.eraseIdx i) (out_dis hd i) hn'.2 with ⟨k1, k2⟩ | ⟨k1, L, k2, k3, k4, k5⟩
      · exact .inl ⟨k1, k2⟩
      · refine .inr ⟨k1, L, k2, k3, fun x hx => List.mem_of_mem_eraseIdx (k4 x hx), fun s => ?_⟩
        rw [k5 s, hlo s]
        by_cases h1 : s ∈ r
        · simp [h1]
        · by_cases h2 : s = d
          · simp [h2]
          · simp [h1, h2]

/-! ### One in -/
theorem set_mem {es : List En} {i : Nat} {e f x : En} (_hi : es[i]? = some e) (h : x ∈ es.set i f) : x = f ∨ x ∈ es := by
  rcases List.mem_or_eq_of_mem_set h with h | h
  · exact .inr h
  · exact .inl h
theorem put_dis {es : List En} (h : Dis es) (p : Po) : Dis (putE es p) := by
  rcases place_is2 es p.s with ⟨hp, hlk, hno⟩ | ⟨i, e, hp, hi, he, hlk, -⟩
  · rw [put_new hp]
    refine List.pairwise_append.2 ⟨h, by simp, fun a ha b hb => ?_⟩
    rw [List.mem_singleton.1 hb]
    exact hno a ha
  · rw [put_old hp hlk]
    have hl := (List.getElem?_eq_some_iff.1 hi).1
    have hx := (List.getElem?_eq_some_iff.1 hi).2
    have hpw := List.pairwise_iff_getElem.1 h
    refine List.pairwise_iff_getElem.2 fun a b ha hb hab => ?_
    have ha' : a < es.length := by simpa using ha
    have hb' : b < es.length := by simpa using hb
    have := hpw a b ha' hb' hab
    rw [List.getElem_set, List.getElem_set]
    by_cases q1 : i = a
    · rw [if_pos q1, if_neg (by omega)]
      subst q1
      rw [hx, he] at this
      exact this
    · rw [if_neg q1]
      by_cases q2 : i = b
      · rw [if_pos q2]
        subst q2
        rw [hx, he] at this
        exact this
      · rw [if_neg q2]; exact this
theorem put_mem {es : List En} {p : Po} {x : En} (h : x ∈ putE es p) : x = ⟨p, ((look es p.s).map En.g).getD 0⟩ ∨ x ∈ es := by
  rcases place_is2 es p.s with ⟨hp, hlk, -⟩ | ⟨i, e, hp, hi, he, hlk, -⟩
  · rw [put_new hp] at h
    rw [hlk]
    rcases List.mem_append.1 h with h | h
    · exact .inr h
    · exact .inl (List.mem_singleton.1 h)
  · rw [put_old hp hlk] at h
    rw [hlk]
    exact set_mem hi h
theorem put_len {es : List En} {p : Po} : (putE es p).length ≤ es.length + 1 := by
  unfold putE
  split <;> simp
theorem put_look {es : List En} (h : Dis es) (p : Po) (s : Int) : look (putE es p) s = if s = p.s then some ⟨p, ((look es p.s).map En.g).getD 0⟩ else look es s := by
  have hd := put_dis h p
  split
  · rename_i hs
    rw [look_iff hd]
    refine ⟨?_, hs.symm⟩
    rcases place_is2 es p.s with ⟨hp, hlk, -⟩ | ⟨i, e, hp, hi, he, hlk, -⟩
    · rw [put_new hp, hlk]; simp
    · rw [put_old hp hlk, hlk]
      exact List.mem_iff_getElem?.2 ⟨i, by rw [List.getElem?_set_self (List.getElem?_eq_some_iff.1 hi).1]; rfl⟩
  · rename_i hs
    refine look_mems hd h fun x hx => ⟨fun k => ?_, fun k => ?_⟩
    · rcases put_mem k with rfl | k
      · exact absurd hx.symm hs
      · exact k
    · rcases place_is2 es p.s with ⟨hp, hlk, -⟩ | ⟨i, e, hp, hi, he, hlk, -⟩
      · rw [put_new hp]; simp [k]
      · rw [put_old hp hlk]
        obtain ⟨j, hj⟩ := List.mem_iff_getElem?.1 k
        refine List.mem_iff_getElem?.2 ⟨j, ?_⟩
        rw [List.getElem?_set_ne, hj]
        intro q
        subst q
        rw [hi] at hj
        rw [← Option.some.inj hj, he] at hx
        exact hs hx.symm
def putAll (es : List En) (ps : List Po) : List En := ps.foldl putE es
theorem puts_any : ∀ (ps : List Po) (es : List En), Dis es → ps.Pairwise (fun a b => a.s ≠ b.s) → Dis (putAll es ps) ∧ (putAll es ps).length ≤ es.length + ps.length ∧ (∀ x ∈ putAll es ps, x ∈ es ∨ ∃ p ∈ ps, ∃ s, x = ⟨p, ((look es s).map En.g).getD 0⟩) ∧
    ∀ s, look (putAll es ps) s = match lookP ps s with
      | some p => some ⟨p, ((look es s).map En.g).getD 0⟩
      | none => look es s
  | [], es, hd, _ => ⟨hd, by simp [putAll], fun x h => .inl h, fun s => rfl⟩
  | p :: r, es, hd, hp => by
    have hp' := List.pairwise_cons.1 hp
    obtain ⟨k1, k2, k3, k4⟩ := puts_any r (putE es p) (put_dis hd p) hp'.2
    have hlo := put_look hd p
    refine ⟨k1, by have := put_len (es := es) (p := p); simp only [List.length_cons]; simp only [putAll, List.foldl_cons] at k2 ⊢; omega, fun x hx => ?_, fun s => ?_⟩
    · rcases k3 x hx with k | ⟨p', hp1, s, hs⟩
      · rcases put_mem k with k | k
        · exact .inr ⟨p, by simp, p.s, k⟩
        · exact .inl k
      · have hne := hp'.1 p' hp1
        by_cases q : s = p.s
        · rw [hlo s, if_pos q] at hs
          exact .inr ⟨p', by simp [hp1], p.s, by simpa using hs⟩
        · rw [hlo s, if_neg q] at hs
          exact .inr ⟨p', by simp [hp1], s, hs⟩
    · have e := k4 s
      change look (putAll (putE es p) r) s = _
      rw [e, hlo s]
      by_cases q : s = p.s
      · have hn : lookP r s = none := by
          unfold lookP
          rw [List.find?_eq_none]
          intro x hx
          have := hp'.1 x hx
          simp
          omega
        have hl : lookP (p :: r) s = some p := by simp [lookP, q]
        rw [hn, hl, if_pos q, q]
      · have hl : lookP (p :: r) s = lookP r s := by
          unfold lookP
          rw [List.find?_cons_of_neg (by simp; omega)]
        rw [hl, if_neg q]

/-! ### All of it -/
/-- What rises, and holds the same, is what a commit comes to. -/
theorem com_of {es L fs : List En} {ps : List Po} {ds : List Int} (hL : Dis L) (hlk : ∀ s, look L s = if s ∈ ds then none else look es s) (hps : ps.Pairwise (fun a b => a.s ≠ b.s)) (hap : ∀ p ∈ ps, p.s ∉ ds)
    (hr : ∀ e ∈ L, 1 ≤ e.p.s ∧ e.p.s ≤ 255) (hr2 : ∀ p ∈ ps, 1 ≤ p.s ∧ p.s ≤ 255) (hp : fs.Perm (putAll L ps)) (ho : fs.Pairwise fun a b => a.p.s ≤ b.p.s) : fs = comE es ps ds := by
  obtain ⟨k1, -, k3, k4⟩ := puts_any ps L hL hps
  have hmem : ∀ x, x ∈ fs ↔ x ∈ putAll L ps := fun x => hp.mem_iff
  have hdis : Dis fs := hp.symm.pairwise k1 (fun h => fun q => h q.symm)
  have hris : Rising fs := by
    refine List.pairwise_iff_getElem.2 fun i j hi hj hij => ?_
    have h1 := List.pairwise_iff_getElem.1 ho i j hi hj hij
    have h2 := List.pairwise_iff_getElem.1 hdis i j hi hj hij
    omega
  refine com_is hris (fun e he => ?_) fun s h1 h2 => ?_
  · rcases k3 e ((hmem e).1 he) with k | ⟨p, hp, s, rfl⟩
    · exact hr e k
    · exact hr2 p hp
  · rw [look_mems hdis k1 fun e _ => hmem e, k4 s, hlk s]
    unfold news
    cases hl : lookP ps s with
    | none => by_cases q : s ∈ ds <;> simp [q]
    | some p =>
      obtain ⟨m1, m2⟩ := lookP_mem hl
      have : s ∉ ds := m2 ▸ hap p m1
      simp [this]
end Go.Proofs.Ytnaofcggdjbocaa.Book
