/-
  Events: which can be, their numbers and bytes, the event of bytes. Whole numbers and lists alone.
-/
import Derived.Test.YtfgndecnakfhnaaPolSame
import Derived.Test.YtfgndecnakfhnaaPolSat
import Derived.Test.YtfgndecnakfhnaaLebPlain
namespace Go.Proofs.Ytfgndecnakfhnaa.Event
open Go.Proofs.Ytfgndecnakfhnaa.Policy

/-- An event. -/
structure Ev where
  k : Int
  s : Int
  ps : List Po
  ds : List Int
  g : Int
  t : Int
def zeroE : Ev := ⟨0, 0, [], [], 0, 0⟩
/-- Such that a program can hold it. -/
def EvOk (e : Ev) : Prop := Inty e.k ∧ Inty e.s ∧ (∀ p ∈ e.ps, PoOk p) ∧ (∀ d ∈ e.ds, Inty d) ∧ Word e.g ∧ Word e.t
def eqL : List Po → List Po → Bool
  | [], [] => true
  | [], _ :: _ => false
  | _ :: _, [] => false
  | p :: a, q :: b => eqB p q && eqL a b
theorem eqL_iff : ∀ {a b : List Po}, eqL a b = true ↔ a = b
  | [], [] => by simp [eqL]
  | [], _ :: _ => by simp [eqL]
  | _ :: _, [] => by simp [eqL]
  | p :: a, q :: b => by simp [eqL, eqB_iff, eqL_iff]
def sameE (a b : Ev) : Bool := decide (a.k = b.k) && decide (a.s = b.s) && decide (a.g = b.g) && decide (a.t = b.t) && eqL a.ps b.ps && decide (a.ds = b.ds)
theorem sameE_iff {a b : Ev} : sameE a b = true ↔ a = b := by
  obtain ⟨k, s, ps, ds, g, t⟩ := a
  obtain ⟨k', s', ps', ds', g', t'⟩ := b
  unfold sameE
  simp only [Bool.and_eq_true, decide_eq_true_eq, Ev.mk.injEq, eqL_iff]
  constructor
  · rintro ⟨⟨⟨⟨⟨h1, h2⟩, h3⟩, h4⟩, h5⟩, h6⟩; exact ⟨h1, h2, h5, h6, h3, h4⟩
  · rintro ⟨h1, h2, h5, h6, h3, h4⟩; exact ⟨⟨⟨⟨⟨h1, h2⟩, h3⟩, h4⟩, h5⟩, h6⟩
def commitE (ps : List Po) (ds : List Int) : Ev := ⟨1, 0, ps, ds, 0, 0⟩
def leaseE (s g : Int) : Ev := ⟨2, s, [], [], g, 0⟩
def periodE (t : Int) : Ev := ⟨3, 0, [], [], 0, t⟩
def subB (n : Int) : Bool := decide (1 ≤ n) && decide (n ≤ 255)
def valB (n : Int) : Bool := decide (1 ≤ n) && decide (n ≤ 281474976710656)
theorem subB_iff {n : Int} : subB n = true ↔ 1 ≤ n ∧ n ≤ 255 := by unfold subB; simp
theorem valB_iff {n : Int} : valB n = true ↔ 1 ≤ n ∧ n ≤ 281474976710656 := by unfold valB; simp
def dropF : Int → List Int → Bool
  | _, [] => true
  | last, d :: r => subB d && !decide (d ≤ last) && dropF d r
def dropB (l : List Int) : Bool := decide (l.length ≤ 8) && dropF 0 l
theorem dropF_sub : ∀ {l : List Int} {last : Int}, dropF last l = true → ∀ d ∈ l, subB d = true
  | [], _, _ => by simp
  | x :: r, last, h => by
    simp only [dropF, Bool.and_eq_true] at h
    intro d hd
    rcases List.mem_cons.1 hd with rfl | hd
    · exact h.1.1
    · exact dropF_sub h.2 d hd
def apartB (ps : List Po) (ds : List Int) : Bool := ps.all fun p => !decide (p.s ∈ ds)
def comB (ps : List Po) (ds : List Int) : Bool := decide (0 < ps.length + ds.length) && allB ps && dropB ds && apartB ps ds
def rightE (e : Ev) : Bool := if e.k = 1 then sameE e (commitE e.ps e.ds) && comB e.ps e.ds else if e.k = 2 then sameE e (leaseE e.s e.g) && subB e.s && valB e.g else if e.k = 3 then sameE e (periodE e.t) && valB e.t else false
theorem right_iff {e : Ev} : rightE e = true ↔ (∃ ps ds, e = commitE ps ds ∧ comB ps ds = true) ∨ (∃ s g, e = leaseE s g ∧ subB s = true ∧ valB g = true) ∨ (∃ t, e = periodE t ∧ valB t = true) := by
  unfold rightE
  constructor
  · intro h
    split at h
    · rw [Bool.and_eq_true, sameE_iff] at h
      exact .inl ⟨_, _, h.1, h.2⟩
    · split at h
      · rw [Bool.and_eq_true, Bool.and_eq_true, sameE_iff] at h
        exact .inr (.inl ⟨_, _, h.1.1, h.1.2, h.2⟩)
      · split at h
        · rw [Bool.and_eq_true, sameE_iff] at h
          exact .inr (.inr ⟨_, h.1, h.2⟩)
        · cases h
  · rintro (⟨ps, ds, rfl, h⟩ | ⟨s, g, rfl, h1, h2⟩ | ⟨t, rfl, h⟩)
    · rw [if_pos (show (commitE ps ds).k = 1 from rfl), Bool.and_eq_true, sameE_iff]; exact ⟨rfl, h⟩
    · rw [if_neg (by simp [leaseE]), if_pos (show (leaseE s g).k = 2 from rfl), Bool.and_eq_true, Bool.and_eq_true, sameE_iff]; exact ⟨⟨rfl, h1⟩, h2⟩
    · rw [if_neg (by simp [periodE]), if_neg (by simp [periodE]), if_pos (show (periodE t).k = 3 from rfl), Bool.and_eq_true, sameE_iff]; exact ⟨rfl, h⟩
theorem com_iff {ps : List Po} {ds : List Int} : comB ps ds = true ↔ 0 < ps.length + ds.length ∧ Tog ps ∧ ds.length ≤ 8 ∧ dropF 0 ds = true ∧ apartB ps ds = true := by
  unfold comB dropB
  simp only [Bool.and_eq_true, decide_eq_true_eq, all_iff, and_assoc]

/-! ### Numbers -/
def numsE (e : Ev) : List Int := if e.k = 2 then [2, e.s, e.g] else if e.k = 3 then [3, e.t] else 1 :: (e.ds.length : Int) :: (e.ds ++ e.ps.flatMap numsL)
theorem nums_commit (ps : List Po) (ds : List Int) : numsE (commitE ps ds) = 1 :: (ds.length : Int) :: (ds ++ ps.flatMap numsL) := rfl
theorem nums_lease (s g : Int) : numsE (leaseE s g) = [2, s, g] := rfl
theorem nums_period (t : Int) : numsE (periodE t) = [3, t] := rfl
theorem flat_len : ∀ ps : List Po, (ps.flatMap numsL).length = 10 * ps.length
  | [] => rfl
  | p :: r => by rw [List.flatMap_cons, List.length_append, flat_len r, Policy.nums_len, List.length_cons]; omega
theorem pol_small {p : Po} (h : rightP p = true) (ho : PoOk p) : ∀ n ∈ numsL p, 0 ≤ n ∧ n ≤ 281474976710656 := by
  obtain ⟨h1, h2, h3, h4, h5, h6⟩ := rightP_iff.1 h
  obtain ⟨l0, l1, l2, l3, l4, l5, l6⟩ := low_iff.1 h4
  have hb := bits_of h3
  have hN := ho.2.1
  intro n hn
  simp only [numsL, List.mem_cons, List.not_mem_nil, or_false] at hn
  rcases hn with rfl | rfl | rfl | rfl | rfl | rfl | rfl | rfl | rfl | rfl <;> omega
theorem right_small {e : Ev} (h : rightE e = true) (ho : ∀ p ∈ e.ps, PoOk p) : ∀ n ∈ numsE e, 0 ≤ n ∧ n ≤ 281474976710656 := by
  rcases right_iff.1 h with ⟨ps, ds, rfl, hc⟩ | ⟨s, g, rfl, h1, h2⟩ | ⟨t, rfl, h1⟩
  · obtain ⟨_, ht, h8, hd, _⟩ := com_iff.1 hc
    rw [nums_commit]
    intro n hn
    simp only [List.mem_cons, List.mem_append, List.mem_flatMap] at hn
    rcases hn with rfl | rfl | hn | ⟨p, hp, hn⟩
    · omega
    · omega
    · have := subB_iff.1 (dropF_sub hd n hn); omega
    · exact pol_small (ht.2.1 p hp) (ho p hp) n hn
  · have := subB_iff.1 h1; have := valB_iff.1 h2
    intro n hn
    simp only [nums_lease, List.mem_cons, List.not_mem_nil, or_false] at hn
    rcases hn with rfl | rfl | rfl <;> omega
  · have := valB_iff.1 h1
    intro n hn
    simp only [nums_period, List.mem_cons, List.not_mem_nil, or_false] at hn
    rcases hn with rfl | rfl <;> omega
theorem right_words {e : Ev} (h : rightE e = true) (ho : ∀ p ∈ e.ps, PoOk p) : ∀ n ∈ numsE e, Word n := fun n hn => by
  have := right_small h ho n hn
  exact ⟨by omega, by omega⟩
theorem right_len {e : Ev} (h : rightE e = true) : 2 ≤ (numsE e).length ∧ (numsE e).length ≤ 90 := by
  rcases right_iff.1 h with ⟨ps, ds, rfl, hc⟩ | ⟨s, g, rfl, h1, h2⟩ | ⟨t, rfl, h1⟩
  · obtain ⟨_, ht, h8, hd, _⟩ := com_iff.1 hc
    have := ht.1
    rw [nums_commit]
    simp only [List.length_cons, List.length_append, flat_len]
    omega
  · simp [nums_lease]
  · simp [nums_period]
/-- Its bytes. -/
def bytesE (e : Ev) : List Int := if rightE e = true then Leb.nums (numsE e) else []
def errE (e : Ev) : Int := if rightE e = true then 0 else 121
theorem nums7 : ∀ l : List Int, (∀ n ∈ l, 0 ≤ n ∧ n ≤ 281474976710656) → (Leb.nums l).length ≤ 7 * l.length
  | [], _ => by simp [Leb.nums]
  | n :: r, h => by
    have h1 := h n (by simp)
    have h2 := (Leb.put_len 6 n h1.1).2 (by omega)
    have h3 := nums7 r (fun m hm => h m (by simp [hm]))
    simp only [Leb.nums, List.length_append, List.length_cons]
    omega
theorem right_room {e : Ev} (h : rightE e = true) (ho : ∀ p ∈ e.ps, PoOk p) : (Leb.nums (numsE e)).length ≤ 630 := by
  have h1 := nums7 _ (right_small h ho)
  have h2 := (right_len h).2
  omega
theorem right_all {e : Ev} (h : rightE e = true) (ho : ∀ p ∈ e.ps, PoOk p) : Leb.lall (Leb.nums (numsE e)) = (numsE e, 0) :=
  Leb.lall_nums _ (right_words h ho) (by have := (right_len h).2; omega)
/-- The policies of so many tens of numbers. -/
def polsF : Nat → List Int → List Po
  | 0, _ => []
  | f + 1, l => asP (l.take 10) :: polsF f (l.drop 10)
theorem polsF_flat : ∀ ps : List Po, polsF ps.length (ps.flatMap numsL) = ps
  | [] => rfl
  | p :: r => by
    have h := Policy.nums_len p
    rw [List.flatMap_cons, List.length_cons, polsF, List.take_left' h, List.drop_left' h, asP_nums, polsF_flat r]
theorem flat_inj {ps qs : List Po} (h : ps.flatMap numsL = qs.flatMap numsL) : ps = qs := by
  have hl : ps.length = qs.length := by have := congrArg List.length h; rw [flat_len, flat_len] at this; omega
  rw [← polsF_flat ps, ← polsF_flat qs, h, hl]
theorem numsE_inj {a b : Ev} (ha : rightE a = true) (hb : rightE b = true) (h : numsE a = numsE b) : a = b := by
  rcases right_iff.1 ha with ⟨ps, ds, rfl, _⟩ | ⟨s, g, rfl, _, _⟩ | ⟨t, rfl, _⟩ <;> rcases right_iff.1 hb with ⟨ps', ds', rfl, _⟩ | ⟨s', g', rfl, _, _⟩ | ⟨t', rfl, _⟩
  · rw [nums_commit, nums_commit] at h
    simp only [List.cons.injEq, true_and] at h
    have hl : ds.length = ds'.length := by omega
    obtain ⟨h1, h2⟩ := List.append_inj h.2 hl
    rw [h1, flat_inj h2]
  · simp [nums_commit, nums_lease] at h
  · simp [nums_commit, nums_period] at h
  · simp [nums_commit, nums_lease] at h
  · simp only [nums_lease, List.cons.injEq, and_true, true_and] at h; rw [h.1, h.2]
  · simp [nums_lease, nums_period] at h
  · simp [nums_commit, nums_period] at h
  · simp [nums_lease, nums_period] at h
  · simp only [nums_period, List.cons.injEq, and_true, true_and] at h; rw [h]
theorem bytes_inj {a b : Ev} (ha : rightE a = true) (hb : rightE b = true) (hao : ∀ p ∈ a.ps, PoOk p) (hbo : ∀ p ∈ b.ps, PoOk p) (h : Leb.nums (numsE a) = Leb.nums (numsE b)) : a = b := by
  have h1 := right_all ha hao
  rw [h, right_all hb hbo] at h1
  exact numsE_inj ha hb (Prod.mk.inj h1).1.symm

/-! ### What is read -/
def putsA : Nat → List Int → List Po → Option (List Po)
  | 0, _, out => some out
  | f + 1, l, out => if l.length = 0 then some out else if isP (l.take 10) = true then putsA f (l.drop 10) (out ++ [asP (l.take 10)]) else none
def putsO (l : List Int) : Option (List Po) := putsA l.length l []
theorem putsA_nil (f : Nat) (out : List Po) : putsA f [] out = some out := by cases f <;> rfl
theorem putsA_good {f : Nat} {l : List Int} {out : List Po} (hl : 0 < l.length) (h : isP (l.take 10) = true) : putsA (f + 1) l out = putsA f (l.drop 10) (out ++ [asP (l.take 10)]) := by
  simp only [putsA]; rw [if_neg (by omega), if_pos h]
theorem putsA_bad {f : Nat} {l : List Int} {out : List Po} (hl : 0 < l.length) (h : ¬ isP (l.take 10) = true) : putsA (f + 1) l out = none := by
  simp only [putsA]; rw [if_neg (by omega), if_neg h]
theorem asP_ok {l : List Int} (h : isP l = true) (h0 : ∀ n ∈ l, Word n) : PoOk (asP l) := by
  obtain ⟨hl, h1, hr⟩ := isP_iff.1 h
  obtain ⟨r1, r2, r3, r4, r5, r6⟩ := rightP_iff.1 hr
  obtain ⟨l0, l1, l2, l3, l4, l5, l6⟩ := low_iff.1 r4
  have hb := bits_of r3
  refine ⟨⟨by omega, by omega⟩, ?_, ⟨by omega, by omega⟩, by omega, by omega, by omega, by omega, by omega, by omega, by omega⟩
  obtain ⟨c0, c1, c2, c3, c4, c5, c6, c7, c8, c9, rfl⟩ := list10 l hl
  have := h0 c1 (by simp)
  simp only [List.getD_cons_zero, List.getD_cons_succ] at h1
  simp only [asP, List.getD_cons_zero, List.getD_cons_succ]
  have := this.1
  omega
theorem putsA_back : ∀ (f : Nat) (l : List Int) (out ps : List Po), (∀ n ∈ l, Word n) → l.length ≤ f → (∀ p ∈ out, PoOk p) → putsA f l out = some ps → ps.flatMap numsL = out.flatMap numsL ++ l ∧ ∀ p ∈ ps, PoOk p
  | 0, l, out, ps, _, hf, ho, h => by
    obtain rfl : l = [] := List.eq_nil_of_length_eq_zero (by omega)
    simp only [putsA, Option.some.injEq] at h
    subst h
    exact ⟨by simp, ho⟩
  | f + 1, l, out, ps, hw, hf, ho, h => by
    by_cases hl : 0 < l.length
    · by_cases hp : isP (l.take 10) = true
      · rw [putsA_good hl hp] at h
        have hw2 : ∀ n ∈ l.take 10, Word n := fun n hn => hw n (List.mem_of_mem_take hn)
        obtain ⟨h1, h2⟩ := putsA_back f (l.drop 10) (out ++ [asP (l.take 10)]) ps (fun n hn => hw n (List.mem_of_mem_drop hn)) (by simp; omega) (fun p hp' => by
          rcases List.mem_append.1 hp' with hp' | hp'
          · exact ho p hp'
          · rw [List.mem_singleton.1 hp']; exact asP_ok hp hw2) h
        refine ⟨?_, h2⟩
        rw [h1, List.flatMap_append, List.append_assoc]
        congr 1
        rw [List.flatMap_cons, List.flatMap_nil, List.append_nil, nums_asP (isP_iff.1 hp).1 (fun c hc => (hw2 c hc).1), List.take_append_drop]
      · rw [putsA_bad hl hp] at h; cases h
    · obtain rfl : l = [] := List.eq_nil_of_length_eq_zero (by omega)
      rw [putsA_nil, Option.some.injEq] at h
      subst h
      exact ⟨by simp, ho⟩
theorem putsA_there : ∀ (ps : List Po) (f : Nat) (out : List Po), (∀ p ∈ ps, rightP p = true ∧ PoOk p) → (ps.flatMap numsL).length ≤ f → putsA f (ps.flatMap numsL) out = some (out ++ ps)
  | [], f, out, _, _ => by rw [List.flatMap_nil, putsA_nil, List.append_nil]
  | p :: r, f, out, h, hf => by
    have hp := h p (by simp)
    have hl := Policy.nums_len p
    rw [List.flatMap_cons] at hf ⊢
    rw [List.length_append, hl] at hf
    obtain ⟨g, rfl⟩ : ∃ g, f = g + 1 := ⟨f - 1, by omega⟩
    have ht : (numsL p ++ r.flatMap numsL).take 10 = numsL p := List.take_left' hl
    have hd : (numsL p ++ r.flatMap numsL).drop 10 = r.flatMap numsL := List.drop_left' hl
    rw [putsA_good (by rw [List.length_append, hl]; omega) (by rw [ht]; exact isP_nums hp.1 hp.2.2.1), ht, hd, asP_nums, putsA_there r g _ (fun q hq => h q (by simp [hq])) (by omega), List.append_assoc]
    rfl
def comO (first : Int) (rest : List Int) : Option Ev := if fits first = true ∧ sint first ≤ rest.length then (putsO (rest.drop (sint first).toNat)).map (fun ps => commitE ps ((rest.take (sint first).toNat).map sint)) else none
def ofO (kind first : Int) (rest : List Int) : Option Ev := if kind = 1 then comO first rest else if kind = 2 then (if rest.length = 1 then some (leaseE (sint first) (rest.getD 0 0)) else none) else if kind = 3 then (if rest.length = 0 then some (periodE first) else none) else none
def readO (bs : List Int) : Option Ev := if (Leb.lall bs).2 = 0 ∧ 2 ≤ (Leb.lall bs).1.length then (ofO ((Leb.lall bs).1.getD 0 0) ((Leb.lall bs).1.getD 1 0) ((Leb.lall bs).1.drop 2)).filter rightE else none
/-- These bytes were made of it. -/
def Wrote (bs : List Int) (e : Ev) : Prop := (∀ p ∈ e.ps, PoOk p) ∧ rightE e = true ∧ Leb.nums (numsE e) = bs
theorem wrote_inj {bs : List Int} {a b : Ev} (ha : Wrote bs a) (hb : Wrote bs b) : a = b := bytes_inj ha.2.1 hb.2.1 ha.1 hb.1 (ha.2.2.trans hb.2.2.symm)
theorem wrote_all {bs : List Int} {e : Ev} (h : Wrote bs e) : Leb.lall bs = (numsE e, 0) := by rw [← h.2.2]; exact right_all h.2.1 h.1
theorem sint_of {x : Int} (_ : 0 ≤ x) (h : 1 ≤ sint x) : sint x = x := by
  unfold sint at h ⊢
  split at h
  · omega
  · rename_i hx
    rw [if_neg hx]
theorem sint_small {x : Int} (h : x ≤ 9223372036854775807) : sint x = x := by unfold sint; rw [if_neg (by omega)]
theorem two_of {l : List Int} (h : 2 ≤ l.length) : ∃ a b r, l = a :: b :: r := by
  match l, h with
  | a :: b :: r, _ => exact ⟨a, b, r, rfl⟩
theorem read_some {bs : List Int} {e : Ev} (h : readO bs = some e) : Wrote bs e := by
  unfold readO at h
  split at h
  case isFalse => cases h
  case isTrue hc =>
    obtain ⟨h0, h2⟩ := hc
    rcases Leb.lall_back bs with hb | ⟨l, hl, hn, hw, h128⟩
    · rw [hb] at h0; cases h0
    · rw [hl] at h h2
      simp only at h h2
      obtain ⟨a, b, r, rfl⟩ := two_of h2
      simp only [List.getD_cons_zero, List.getD_cons_succ, List.drop_succ_cons, List.drop_zero] at h
      rw [Option.filter_eq_some_iff] at h
      obtain ⟨h, hr⟩ := h
      have ha := hw a (by simp)
      have hb := hw b (by simp)
      have hwr : ∀ n ∈ r, Word n := fun n hn => hw n (by simp [hn])
      unfold ofO at h
      split at h
      case isTrue h1 =>
        subst h1
        unfold comO at h
        split at h
        case isFalse => cases h
        case isTrue hf =>
          obtain ⟨hfit, hle⟩ := hf
          have hbi : sint b = b := sint_small (by unfold fits at hfit; simpa using hfit)
          rw [hbi] at h hle
          obtain ⟨ps, hps, rfl⟩ := Option.map_eq_some_iff.1 h
          obtain ⟨q1, q2⟩ := putsA_back _ _ _ _ (fun n hn => hwr n (List.mem_of_mem_drop hn)) (Nat.le_refl _) (by simp) hps
          have hc := (right_iff.1 hr)
          have hcom : comB ps ((r.take b.toNat).map sint) = true := by
            rcases hc with ⟨ps', ds', he, hc⟩ | ⟨s, g, he, _⟩ | ⟨t, he, _⟩
            · simp only [commitE, Ev.mk.injEq, true_and, and_true] at he
              rw [he.1, he.2]; exact hc
            · simp [commitE, leaseE] at he
            · simp [commitE, periodE] at he
          obtain ⟨_, _, _, hd, _⟩ := com_iff.1 hcom
          have hds : (r.take b.toNat).map sint = r.take b.toNat := by
            have : (r.take b.toNat).map sint = (r.take b.toNat).map id := List.map_congr_left fun x hx => by
              have h1 := subB_iff.1 (dropF_sub hd (sint x) (List.mem_map_of_mem hx))
              exact sint_of (hwr x (List.mem_of_mem_take hx)).1 h1.1
            rw [this, List.map_id]
          refine ⟨q2, hr, ?_⟩
          rw [← hn, nums_commit, hds, q1, List.flatMap_nil, List.nil_append, List.take_append_drop, List.length_take]
          have h0b := hb.1
          congr 3
          omega
      case isFalse =>
        split at h
        case isTrue h1 =>
          subst h1
          split at h
          case isFalse => cases h
          case isTrue hl1 =>
            simp only [Option.some.injEq] at h
            subst h
            obtain ⟨x, rfl⟩ := List.length_eq_one_iff.1 hl1
            simp only [List.getD_cons_zero] at hr ⊢
            have hs : subB (sint b) = true := by
              rcases right_iff.1 hr with ⟨ps', ds', he, _⟩ | ⟨s, g, he, hs, _⟩ | ⟨t, he, _⟩
              · simp [commitE, leaseE] at he
              · simp only [leaseE, Ev.mk.injEq, true_and, and_true] at he
                rw [he.1]; exact hs
              · simp [leaseE, periodE] at he
            have hbi := sint_of hb.1 (subB_iff.1 hs).1
            rw [hbi] at hr ⊢
            exact ⟨by simp [leaseE], hr, by rw [nums_lease]; exact hn⟩
        case isFalse =>
          split at h
          case isTrue h1 =>
            subst h1
            split at h
            case isFalse => cases h
            case isTrue hl0 =>
              obtain rfl : r = [] := List.eq_nil_of_length_eq_zero hl0
              simp only [Option.some.injEq] at h
              subst h
              exact ⟨by simp [periodE], hr, by rw [nums_period]; exact hn⟩
          case isFalse => cases h
theorem some_read {bs : List Int} {e : Ev} (h : Wrote bs e) : readO bs = some e := by
  have hall := wrote_all h
  obtain ⟨ho, hr, _⟩ := h
  unfold readO
  rw [hall, if_pos ⟨rfl, (right_len hr).1⟩, Option.filter_eq_some_iff]
  refine ⟨?_, hr⟩
  rcases right_iff.1 hr with ⟨ps, ds, rfl, hc⟩ | ⟨s, g, rfl, h1, h2⟩ | ⟨t, rfl, h1⟩
  · obtain ⟨_, ht, h8, hd, _⟩ := com_iff.1 hc
    simp only [nums_commit, List.getD_cons_zero, List.getD_cons_succ, List.drop_succ_cons, List.drop_zero]
    unfold ofO comO
    have hs : sint (ds.length : Int) = ds.length := sint_small (by omega)
    have hf : fits (ds.length : Int) = true := by unfold fits; simp; omega
    rw [if_pos rfl, hs, if_pos ⟨hf, by rw [List.length_append]; omega⟩, Int.toNat_natCast, List.take_left, List.drop_left]
    have hp : putsO (ps.flatMap numsL) = some ps := by
      unfold putsO
      rw [putsA_there ps _ [] (fun p hp => ⟨ht.2.1 p hp, ho p hp⟩) (Nat.le_refl _), List.nil_append]
    have hm : ds.map sint = ds := by
      have : ds.map sint = ds.map id := List.map_congr_left fun x hx => by
        have := subB_iff.1 (dropF_sub hd x hx)
        exact sint_small (by omega)
      rw [this, List.map_id]
    rw [hp, hm]
    rfl
  · have := subB_iff.1 h1
    simp only [nums_lease, List.getD_cons_zero, List.getD_cons_succ, List.drop_succ_cons, List.drop_zero]
    unfold ofO
    rw [if_neg (by decide), if_pos rfl, if_pos (show [g].length = 1 from rfl), sint_small (by omega)]
    rfl
  · simp only [nums_period, List.getD_cons_zero, List.getD_cons_succ, List.drop_succ_cons, List.drop_zero]
    unfold ofO
    rw [if_neg (by decide), if_neg (by decide), if_pos rfl, if_pos (show ([] : List Int).length = 0 from rfl)]
theorem none_read {bs : List Int} (h : ∀ e, ¬ Wrote bs e) : readO bs = none := by
  cases hr : readO bs with
  | none => rfl
  | some e => exact absurd (read_some hr) (h e)
end Go.Proofs.Ytfgndecnakfhnaa.Event
