/-
  The two disks go on alike; what of memory the document's one holds beside the program's.
-/
import Derived.Test.YthgafnommcodcaaDiskRef4
import Derived.Test.YthgafnommcodcaaDiskOpen
namespace Go.Proofs.Ythgafnommcodcaa.Disk
open Go.RowKit Go.Proofs.Ythgafnommcodcaa.Mem Go.Proofs.Ythgafnommcodcaa.Sect
open Go.Proofs.Ythgafnommcodcaa.Frame (Sec zero)
set_option maxRecDepth 100000

def Agree (d : Dsk) (r : Rfd) : Prop := d.st = r.st ∧ d.pe = r.pe ∧ d.dn = r.dn ∧ d.lf = (if r.ct then r.lf else -1)
theorem ag_no {d : Dsk} {r : Rfd} (h : Agree d r) : d.no = r.no := by
  obtain ⟨_, _, h3, h4⟩ := h
  unfold Dsk.no Rfd.no
  rw [h3, h4]
  cases r.ct <;> simp
theorem ag_err {d : Dsk} {r : Rfd} (h : Agree d r) : d.err = r.err := by unfold Dsk.err Rfd.err; rw [ag_no h]
theorem ag_acted {d : Dsk} {r : Rfd} (h : Agree d r) (ho : r.ok) : Agree d.acted r.acted := by
  have hn := ag_no h
  obtain ⟨h1, h2, h3, h4⟩ := h
  have hc := ho.2.2.2.2
  unfold Dsk.acted Rfd.acted
  rw [hn]
  split
  · exact ⟨h1, h2, rfl, h4⟩
  · rename_i hno
    refine ⟨h1, h2, h3, ?_⟩
    simp only
    rw [h4]
    cases hct : r.ct with
    | false => simp
    | true =>
      have h0 := hc hct
      have hne : r.lf ≠ 0 := fun q => hno (by simp [Rfd.no, hct, q])
      simp only [if_true]
      rw [if_pos (by omega)]
theorem ag_put {d : Dsk} {r : Rfd} (h : Agree d r) (ho : r.ok) (i : Int) (s : Sec) : Agree (d.put i s) (r.put i s) ∧ d.putE i = r.putE i := by
  have ha := ag_acted h ho
  have hn := ag_no h
  have he := ag_err h
  have hs := h.1
  unfold Dsk.put Rfd.put Dsk.putE Rfd.putE
  rw [hs, hn, he]
  refine ⟨?_, rfl⟩
  split
  · split
    · exact ha
    · exact ⟨ha.1, by simp only [h.2.1], ha.2.2.1, ha.2.2.2⟩
  · exact h
theorem ag_sync {d : Dsk} {r : Rfd} (h : Agree d r) (ho : r.ok) : Agree d.sync r.sync := by
  have ha := ag_acted h ho
  unfold Dsk.sync Rfd.sync
  rw [ag_no h]
  split
  · exact ha
  · exact ⟨by simp only [Dsk.settled, Rfd.settled, ha.1, ha.2.1], rfl, ha.2.2.1, ha.2.2.2⟩
theorem ag_breaks {d : Dsk} {r : Rfd} (h : Agree d r) (n : Int) : Agree (d.breaks n) (r.breaks n) := by
  refine ⟨h.1, h.2.1, h.2.2.1, ?_⟩
  simp only [Dsk.breaks, Rfd.breaks, decide_eq_true_eq]
  split <;> omega
theorem ag_crash {d : Dsk} {r : Rfd} (h : Agree d r) (ks : List Bool) : Agree (d.crash ks) (r.crash ks) := by
  refine ⟨?_, rfl, rfl, rfl⟩
  simp only [Dsk.crash, Dsk.settled, Rfd.crash, Rfd.settled, h.1, h.2.1]
theorem last_none : ∀ {l : List Wr} {i : Int}, (∀ x ∈ l, x.1 ≠ i) → last l i = none
  | [], _, _ => rfl
  | x :: r, i, h => by
    show (match last r i with | some s => some s | none => if x.1 = i then some x.2 else none) = none
    rw [last_none (fun y hy => h y (by simp [hy])), if_neg (h x (by simp))]
theorem ag_read {d : Dsk} {r : Rfd} (h : Agree d r) (hd : d.ok) (i : Int) : d.read i = r.read i := by
  unfold Dsk.read Rfd.read stab
  rw [← h.1, ← h.2.1]
  cases hh : has d.st.length i with
  | true =>
    simp only [if_true]
    cases last d.pe i <;> rfl
  | false =>
    rw [last_none (fun x hx q => by
      have := hd.2.2.1 x hx
      rw [q] at this
      simp only [has, Bool.and_eq_false_iff, decide_eq_false_iff_not] at hh
      omega)]
theorem rput_ok {r : Rfd} (h : r.ok) (i : Int) (s : Sec) (hl : r.pe.length < 1000) : (r.put i s).ok := by
  have h' := racted_ok h
  unfold Rfd.put
  split
  · rename_i hh
    split
    · exact h'
    · obtain ⟨h1, h2, h3, h4, h5⟩ := h'
      refine ⟨h1, by simp; omega, ?_, h4, h5⟩
      intro x hx
      simp only [List.mem_append, List.mem_singleton] at hx
      simp only [(racted_st r).1]
      rcases hx with hx | rfl
      · exact h.2.2.1 x hx
      · simp [has] at hh; exact hh
  · exact h
theorem rsettled_ok {r : Rfd} (h : r.ok) (f : Nat → Bool) : (r.settled f).ok := by
  obtain ⟨h1, _, _, h4, h5⟩ := h
  exact ⟨by simp only [Rfd.settled, settle_len]; exact h1, by simp [Rfd.settled], by simp [Rfd.settled], h4, h5⟩
theorem rsync_ok {r : Rfd} (h : r.ok) : r.sync.ok := by
  unfold Rfd.sync
  split
  · exact racted_ok h
  · exact rsettled_ok (racted_ok h) _
theorem rcrash_ok {r : Rfd} (h : r.ok) (ks : List Bool) : (r.crash ks).ok := by
  obtain ⟨h1, h2, h3, _, _⟩ := rsettled_ok h (keeps ks)
  exact ⟨h1, by simp [Rfd.crash], by simp [Rfd.crash], ⟨by simp [Rfd.crash], by simp [Rfd.crash]⟩, by simp [Rfd.crash]⟩
theorem rbreaks_ok {r : Rfd} (h : r.ok) {n : Int} (hn : Inty n) : (r.breaks n).ok := by
  obtain ⟨h1, h2, h3, _, _⟩ := h
  exact ⟨h1, h2, h3, hn, by simp [Rfd.breaks]⟩
/-- The document's disk in its variable at block G, apart from what is in S. -/
def Rb (S : Nat → Prop) (w : World) (G : Nat) (r : Rfd) (p : Option Addr) (c : Nat) (q : Option Addr) (e : Nat) : Prop :=
  Blk w G 39 (rl r p c q e) ∧ RK sc w p c r.st ∧ RK wc w q e r.pe ∧ Off (fun k => S k ∨ k = G) p r.st.length ∧ Off (fun k => S k ∨ k = G) q r.pe.length ∧ ¬ S G
section
variable {S S' : Nat → Prop} {w w' : World} {G : Nat} {r r' : Rfd} {p q p' q' : Option Addr} {c e c' e' : Nat}
theorem Rb.below (h : Rb S w G r p c q e) (hb : Below w.heap.size w w') : Rb S w' G r p c q e := ⟨h.1.below hb, h.2.1.below hb, h.2.2.1.below hb, h.2.2.2.1, h.2.2.2.2.1, h.2.2.2.2.2⟩
theorem off_more {T T' : Nat → Prop} {α : Type} {enc : α → List Value} {xs : List α} (h : Off T p xs.length) (hr : RK enc w p c xs) (hT : ∀ k, T' k → T k ∨ w.heap.size ≤ k) : Off T' p xs.length := fun hz a ha q => by
  obtain ⟨b, o, e, hlt, _⟩ := hr.2.2.2 hz
  rw [e] at ha
  obtain rfl := Option.some.inj ha
  rcases hT _ q with q | q
  · exact h hz _ e q
  · simp only at q; omega
theorem Rb.fr (h : Rb S w G r p c q e) (hF : Fr S w w') (hS : ∀ k, S' k → S k ∨ w.heap.size ≤ k) : Rb S' w' G r p c q e := by
  obtain ⟨h1, h2, h3, h4, h5, h6⟩ := h
  have hs : ∀ {n : Nat} {p : Option Addr}, Off (fun k => S k ∨ k = G) p n → Off S p n := fun h hz a ha q => h hz a ha (.inl q)
  have hT : ∀ k, (S' k ∨ k = G) → (S k ∨ k = G) ∨ w.heap.size ≤ k := fun k hk => by
    rcases hk with hk | hk
    · rcases hS k hk with h | h
      · exact .inl (.inl h)
      · exact .inr h
    · exact .inl (.inr hk)
  exact ⟨hF.blk h1 h6, RKfr h2 (hs h4) hF, RKfr h3 (hs h5) hF, off_more h4 h2 hT, off_more h5 h3 hT, fun q => by
    rcases hS _ q with q | q
    · exact h6 q
    · have := h1.lt; omega⟩
theorem off_new {T : Nat → Prop} {n n' : Nat} (h : Off T p n) (hT : ∀ k, T k → k < w.heap.size) (hn : (p' = p ∧ n' = n) ∨ ∀ a, p' = some a → w.heap.size ≤ a.block) : Off T p' n' := fun hz a ha q => by
  rcases hn with ⟨rfl, rfl⟩ | hn
  · exact h hz a ha q
  · have := hn a ha
    have := hT _ q
    omega
/-- The variable holds what a call has handed back. -/
theorem Rb.set {w0 : World} (h : Rb S w0 G r p c q e) (hS : ∀ k, S k → k < w0.heap.size) (_hB : Below w0.heap.size w0 w) (hX : Blk w' G 39 (rl r' p' c' q' e')) (hg : w.grownBy w' (some G)) (r1 : RK sc w p' c' r'.st) (r2 : RK wc w q' e' r'.pe)
    (n1 : (p' = p ∧ r'.st.length = r.st.length) ∨ ∀ a, p' = some a → w0.heap.size ≤ a.block) (n2 : (q' = q ∧ r'.pe.length = r.pe.length) ∨ ∀ a, q' = some a → w0.heap.size ≤ a.block) : Rb S w' G r' p' c' q' e' := by
  have hT : ∀ k, (S k ∨ k = G) → k < w0.heap.size := fun k hk => by
    rcases hk with hk | rfl
    · exact hS k hk
    · exact h.1.lt
  have o1 := off_new (T := fun k => S k ∨ k = G) h.2.2.2.1 hT n1
  have o2 := off_new (T := fun k => S k ∨ k = G) h.2.2.2.2.1 hT n2
  have hFr : Fr (fun k => S k ∨ k = G) w w' := Fr.of_grown hg (fun k hk => by simp at hk; exact .inr hk.symm)
  exact ⟨hX, RKfr r1 o1 hFr, RKfr r2 o2 hFr, o1, o2, h.2.2.2.2.2⟩
end
/-- An act's value. -/
def acv (a : Ac) : Value := .agg (ac a).toArray
theorem ac_one (a : Ac) : ∀ v ∈ ac a, v.oneCell' = true := by
  intro v hv
  simp only [ac, List.mem_cons, List.not_mem_nil, or_false] at hv
  rcases hv with rfl | rfl | rfl | rfl <;> rfl
section
variable {o : Oper} {a : Act} {w : World} {K : Act → World → Prop} {Q : Exit → Act → World → Prop}
end
section
variable {o : Oper} {a : Act} {w : World} {ops : Array Oper} {rest : List Oper} {Q : Exit → Act → World → Prop}
end
end Go.Proofs.Ythgafnommcodcaa.Disk
