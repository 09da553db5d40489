/-
  A region whose order is drawn, by what holds whichever operations have come up: as Inv has it, where an operation may name a later one that it need not wait for. Nothing of a program is named here.
-/
import Derived.Deep.RegionHeld
/-
  A region whose order is drawn, by what holds whichever operations have come up: one step an operation, not one walk an order. Nothing of a program is named here.
-/
namespace Go.Proofs.Ytnaofcggdjbocaa.Inv
open Go

section
variable {P : Program} {ops : Array Oper} {Q : Exit → Act → World → Prop} {I : (Nat → Bool) → Act → World → Prop}

/-- Every operation waits for earlier ones alone. -/
def lexical (ops : Array Oper) : Bool := (List.range ops.size).all fun i => ((ops[i]?).map fun o => o.after.all fun e => decide (e.on < i)).getD true
theorem lexical_spec (h : lexical ops = true) {i : Nat} {o : Oper} (ho : ops[i]? = some o) : ∀ e ∈ o.after, e.on < i := by
  intro e he
  unfold lexical at h
  have hi : i < ops.size := (Array.getElem?_eq_some_iff.1 ho).1
  have := List.all_eq_true.1 h i (List.mem_range.2 hi)
  rw [ho] at this
  simp only [Option.map_some, Option.getD_some, Array.all_eq_true_iff_forall_mem] at this
  simpa using this e he
theorem getD_of {listed : Array Bool} {i : Nat} (h : listed.getD i false = true) : listed.getD i true = true := by
  rcases Nat.lt_or_ge i listed.size with hi | hi
  · simp [hi] at h ⊢; exact h
  · simp [hi]
theorem all_of_ready_nil (hlex : lexical ops = true) {listed : Array Bool} (hsz : listed.size = ops.size) (h : Region.ready .any ops listed = []) : ∀ i, listed.getD i true = true := by
  intro i
  induction i using Nat.strongRecOn with
  | _ i ih =>
    cases hv : listed.getD i true with
    | true => rfl
    | false =>
      exfalso
      have hi : i < ops.size := by
        rcases Nat.lt_or_ge i listed.size with hi | hi
        · omega
        · simp [hi] at hv
      have ho : ops[i]? = some ops[i] := Array.getElem?_eq_getElem hi
      have hm : i ∈ Region.ready .any ops listed := mem_ready.2 ⟨hv, ops[i], ho, fun e he _ => by
        have hlt := lexical_spec hlex ho e he
        have := ih e.on hlt
        have hs : e.on < listed.size := by omega
        simp [hs] at this ⊢
        exact this⟩
      rw [h] at hm
      cases hm
/-- What is to be shown of the operations from number n on. -/
def Steps (P : Program) (ops : Array Oper) (Q : Exit → Act → World → Prop) (I : (Nat → Bool) → Act → World → Prop) (n : Nat) : Prop :=
  ∀ L a w i o, n ≤ i → I L a w → ops[i]? = some o → L i = false → (∀ e ∈ o.after, Region.binds .any e = true → L e.on = true) → wpOp P ops Q i (fun a' w' => I (fun j => if j = i then true else L j) a' w') a w
theorem Steps.nil {n : Nat} (h : ops.size ≤ n) : Steps P ops Q I n := fun L a w i o hn _ ho _ _ => by
  have := (Array.getElem?_eq_some_iff.1 ho).1
  omega
theorem Steps.cons {n : Nat} {o : Oper} (ho : ops[n]? = some o)
    (h : ∀ L a w, I L a w → L n = false → (∀ e ∈ o.after, Region.binds .any e = true → L e.on = true) → ∀ K' : Act → World → Prop, Shut (∀ a w, I (fun j => if j = n then true else L j) a w → K' a w) → if Region.wanted o (yielded ops a.tmps) = true then Oper.wp P o a w K' Q else K' (a.put o.dst undef) w)
    (hs : Steps P ops Q I (n + 1)) : Steps P ops Q I n := fun L a w i o' hn hI ho' hL hd => by
  by_cases hi : i = n
  · subst hi
    obtain rfl := Option.some.inj (ho.symm.trans ho')
    exact wpOp_step ho (fun K' hK => h L a w hI hL hd K' hK)
  · exact hs L a w i o' (by omega) hI ho' hL hd
theorem any_inv (hlex : lexical ops = true) (step : Steps P ops Q I 0) (done : ∀ L a w, I L a w → (∀ i, L i = true) → Q .normal a w) :
    ∀ (fuel : Nat) (listed : Array Bool) (a : Act) (w : World), listed.size = ops.size → listed.toList.count false ≤ fuel → I (fun i => listed.getD i true) a w → wpAny P .any ops Q fuel listed a w := by
  intro fuel
  induction fuel with
  | zero =>
    intro listed a w hsz hc hI
    have hr : Region.ready .any ops listed = [] := by
      apply List.eq_nil_iff_forall_not_mem.2
      intro i hi
      have hv := (mem_ready.1 hi).1
      have hmem : false ∈ listed.toList := by
        rcases Nat.lt_or_ge i listed.size with h | h
        · simp [h] at hv
          rw [← hv]
          simp
        · simp [h] at hv
      have := List.count_pos_iff.2 hmem
      omega
    exact ⟨hr, done _ _ _ hI (all_of_ready_nil hlex hsz hr)⟩
  | succ fuel ih =>
    intro listed a w hsz hc hI
    refine ⟨fun hr => done _ _ _ hI (all_of_ready_nil hlex hsz hr), fun i hi => ?_⟩
    obtain ⟨hv, o, ho, hall⟩ := mem_ready.1 hi
    have hlt : i < listed.size := by rw [hsz]; exact (Array.getElem?_eq_some_iff.1 ho).1
    refine wpOp_mono (fun a' w' h' => ih _ a' w' (by simpa using hsz) ?_ ?_) (step _ a w i o (Nat.zero_le _) hI ho hv (fun e he hb => getD_of (hall e he hb)))
    · rw [Array.toList_setIfInBounds, List.count_set (by simpa using hlt)]
      have : listed.toList[i]'(by simpa using hlt) = false := by simpa [hlt] using hv
      rw [this]
      change listed.toList.count false - 1 + 0 ≤ fuel
      omega
    · have e : (fun j => (listed.setIfInBounds i true).getD j true) = fun j => if j = i then true else listed.getD j true := by
        funext j
        by_cases hj : j = i
        · subst hj; simp
        · rw [if_neg hj, getD_set_ne true (Ne.symm hj)]
      rw [e]
      exact h'
/-- The law. -/
theorem region_inv {id : Nat} {a : Act} {w : World} (I : (Nat → Bool) → Act → World → Prop) (hm : P.follows .mixedOrders = true) (hlex : lexical ops = true) (h0 : I (fun i => decide (ops.size ≤ i)) a w.drew)
    (step : Steps P ops Q I 0) (done : ∀ L a w, I L a w → (∀ i, L i = true) → Q .normal a w) : (Code.region id ops true).wp P Q a w := by
  refine wp_region_any hm (any_inv hlex step done _ _ _ _ (by simp) ?_ ?_)
  · simp
  · have e : (fun i => (Array.replicate ops.size false).getD i true) = fun i => decide (ops.size ≤ i) := by
      funext i
      by_cases hi : i < ops.size
      · simp [hi]
      · have hle : ops.size ≤ i := by omega
        rw [decide_eq_true hle]
        simp [hle]
    rw [e]
    exact h0
end
end Go.Proofs.Ytnaofcggdjbocaa.Inv
namespace Go.Proofs.Ytnaofcggdjbocaa.Inv
open Go

section
variable {P : Program} {ops : Array Oper} {Q : Exit → Act → World → Prop} {I : (Nat → Bool) → Act → World → Prop}

/-- Every operation waits for earlier ones alone. -/
def lexB (ops : Array Oper) : Bool := (List.range ops.size).all fun i => ((ops[i]?).map fun o => o.after.all fun e => !(Region.binds .any e) || decide (e.on < i)).getD true
theorem lexB_spec (h : lexB ops = true) {i : Nat} {o : Oper} (ho : ops[i]? = some o) : ∀ e ∈ o.after, Region.binds .any e = true → e.on < i := by
  intro e he hb
  unfold lexB at h
  have hi : i < ops.size := (Array.getElem?_eq_some_iff.1 ho).1
  have := List.all_eq_true.1 h i (List.mem_range.2 hi)
  rw [ho] at this
  simp only [Option.map_some, Option.getD_some, Array.all_eq_true_iff_forall_mem] at this
  have h2 := this e he
  rw [hb] at h2
  simpa using h2
theorem all_of_ready_nilB (hlex : lexB ops = true) {listed : Array Bool} (hsz : listed.size = ops.size) (h : Region.ready .any ops listed = []) : ∀ i, listed.getD i true = true := by
  intro i
  induction i using Nat.strongRecOn with
  | _ i ih =>
    cases hv : listed.getD i true with
    | true => rfl
    | false =>
      exfalso
      have hi : i < ops.size := by
        rcases Nat.lt_or_ge i listed.size with hi | hi
        · omega
        · simp [hi] at hv
      have ho : ops[i]? = some ops[i] := Array.getElem?_eq_getElem hi
      have hm : i ∈ Region.ready .any ops listed := mem_ready.2 ⟨hv, ops[i], ho, fun e he hbn => by
        have hlt := lexB_spec hlex ho e he hbn
        have := ih e.on hlt
        have hs : e.on < listed.size := by omega
        simp [hs] at this ⊢
        exact this⟩
      rw [h] at hm
      cases hm
theorem any_invB (hlex : lexB ops = true) (step : Steps P ops Q I 0) (done : ∀ L a w, I L a w → (∀ i, L i = true) → Q .normal a w) :
    ∀ (fuel : Nat) (listed : Array Bool) (a : Act) (w : World), listed.size = ops.size → listed.toList.count false ≤ fuel → I (fun i => listed.getD i true) a w → wpAny P .any ops Q fuel listed a w := by
  intro fuel
  induction fuel with
  | zero =>
    intro listed a w hsz hc hI
    have hr : Region.ready .any ops listed = [] := by
      apply List.eq_nil_iff_forall_not_mem.2
      intro i hi
      have hv := (mem_ready.1 hi).1
      have hmem : false ∈ listed.toList := by
        rcases Nat.lt_or_ge i listed.size with h | h
        · simp [h] at hv
          rw [← hv]
          simp
        · simp [h] at hv
      have := List.count_pos_iff.2 hmem
      omega
    exact ⟨hr, done _ _ _ hI (all_of_ready_nilB hlex hsz hr)⟩
  | succ fuel ih =>
    intro listed a w hsz hc hI
    refine ⟨fun hr => done _ _ _ hI (all_of_ready_nilB hlex hsz hr), fun i hi => ?_⟩
    obtain ⟨hv, o, ho, hall⟩ := mem_ready.1 hi
    have hlt : i < listed.size := by rw [hsz]; exact (Array.getElem?_eq_some_iff.1 ho).1
    refine wpOp_mono (fun a' w' h' => ih _ a' w' (by simpa using hsz) ?_ ?_) (step _ a w i o (Nat.zero_le _) hI ho hv (fun e he hb => getD_of (hall e he hb)))
    · rw [Array.toList_setIfInBounds, List.count_set (by simpa using hlt)]
      have : listed.toList[i]'(by simpa using hlt) = false := by simpa [hlt] using hv
      rw [this]
      change listed.toList.count false - 1 + 0 ≤ fuel
      omega
    · have e : (fun j => (listed.setIfInBounds i true).getD j true) = fun j => if j = i then true else listed.getD j true := by
        funext j
        by_cases hj : j = i
        · subst hj; simp
        · rw [if_neg hj, getD_set_ne true (Ne.symm hj)]
      rw [e]
      exact h'
/-- The law. -/
theorem region_invB {id : Nat} {a : Act} {w : World} (I : (Nat → Bool) → Act → World → Prop) (hm : P.follows .mixedOrders = true) (hlex : lexB ops = true) (h0 : I (fun i => decide (ops.size ≤ i)) a w.drew)
    (step : Steps P ops Q I 0) (done : ∀ L a w, I L a w → (∀ i, L i = true) → Q .normal a w) : (Code.region id ops true).wp P Q a w := by
  refine wp_region_any hm (any_invB hlex step done _ _ _ _ (by simp) ?_ ?_)
  · simp
  · have e : (fun i => (Array.replicate ops.size false).getD i true) = fun i => decide (ops.size ≤ i) := by
      funext i
      by_cases hi : i < ops.size
      · simp [hi]
      · have hle : ops.size ≤ i := by omega
        rw [decide_eq_true hle]
        simp [hle]
    rw [e]
    exact h0
end
end Go.Proofs.Ytnaofcggdjbocaa.Inv
