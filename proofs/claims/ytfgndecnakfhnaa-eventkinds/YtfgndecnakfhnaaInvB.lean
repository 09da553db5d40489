/-
  A region whose order is drawn, by what holds whichever operations have come up: as Inv has it, where an operation may name a later one that it need not wait for. Nothing of a program is named here.
-/
import Derived.Test.YtfgndecnakfhnaaInv
namespace Go.Proofs.Ytfgndecnakfhnaa.Inv
open Go

section
variable {P : Program} {ops : Array Oper} {Q : Exit → Act → World → Prop} {I : (Nat → Bool) → Act → World → Prop}

/-- Every operation waits for earlier ones alone. -/
def lexB (ops : Array Oper) : Bool := (List.range ops.size).all fun i => ((ops[i]?).map fun o => o.after.all fun e => !(Region.binds .any e) || decide (e.on < i)).getD true
theorem lexB_spec (h : lexB ops = true) {i : Nat} {o : Oper} (ho : ops[i]? = some o) : ∀ e ∈ o.after, Region.binds .any e = true → e.on < i := by
  intro e he hb
  unfold lexB at h
  have hi : i < ops.size := (Array.getElem?_eq_some_iff.1 ho).1
  have := List.all_eq_true.1 h i (List.mem_range.2 hi)
  rw [ho] at this
  simp only [Option.map_some, Option.getD_some, Array.all_eq_true_iff_forall_mem] at this
  have h2 := this e he
  rw [hb] at h2
  simpa using h2
theorem all_of_ready_nilB (hlex : lexB ops = true) {listed : Array Bool} (hsz : listed.size = ops.size) (h : Region.ready .any ops listed = []) : ∀ i, listed.getD i true = true := by
  intro i
  induction i using Nat.strongRecOn with
  | _ i ih =>
    cases hv : listed.getD i true with
    | true => rfl
    | false =>
      exfalso
      have hi : i < ops.size := by
        rcases Nat.lt_or_ge i listed.size with hi | hi
        · omega
        · simp [hi] at hv
      have ho : ops[i]? = some ops[i] := Array.getElem?_eq_getElem hi
      have hm : i ∈ Region.ready .any ops listed := mem_ready.2 ⟨hv, ops[i], ho, fun e he hbn => by
        have hlt := lexB_spec hlex ho e he hbn
        have := ih e.on hlt
        have hs : e.on < listed.size := by omega
        simp [hs] at this ⊢
        exact this⟩
      rw [h] at hm
      cases hm
theorem any_invB (hlex : lexB ops = true) (step : Steps P ops Q I 0) (done : ∀ L a w, I L a w → (∀ i, L i = true) → Q .normal a w) :
    ∀ (fuel : Nat) (listed : Array Bool) (a : Act) (w : World), listed.size = ops.size → listed.toList.count false ≤ fuel → I (fun i => listed.getD i true) a w → wpAny P .any ops Q fuel listed a w := by
  intro fuel
  induction fuel with
  | zero =>
    intro listed a w hsz hc hI
    have hr : Region.ready .any ops listed = [] := by
      apply List.eq_nil_iff_forall_not_mem.2
      intro i hi
      have hv := (mem_ready.1 hi).1
      have hmem : false ∈ listed.toList := by
        rcases Nat.lt_or_ge i listed.size with h | h
        · simp [h] at hv
          rw [← hv]
          simp
        · simp [h] at hv
      have := List.count_pos_iff.2 hmem
      omega
    exact ⟨hr, done _ _ _ hI (all_of_ready_nilB hlex hsz hr)⟩
  | succ fuel ih =>
    intro listed a w hsz hc hI
    refine ⟨fun hr => done _ _ _ hI (all_of_ready_nilB hlex hsz hr), fun i hi => ?_⟩
    obtain ⟨hv, o, ho, hall⟩ := mem_ready.1 hi
    have hlt : i < listed.size := by rw [hsz]; exact (Array.getElem?_eq_some_iff.1 ho).1
    refine wpOp_mono (fun a' w' h' => ih _ a' w' (by simpa using hsz) ?_ ?_) (step _ a w i o (Nat.zero_le _) hI ho hv (fun e he hb => getD_of (hall e he hb)))
    · rw [Array.toList_setIfInBounds, List.count_set (by simpa using hlt)]
      have : listed.toList[i]'(by simpa using hlt) = false := by simpa [hlt] using hv
      rw [this]
      change listed.toList.count false - 1 + 0 ≤ fuel
      omega
    · have e : (fun j => (listed.setIfInBounds i true).getD j true) = fun j => if j = i then true else listed.getD j true := by
        funext j
        by_cases hj : j = i
        · subst hj; simp
        · rw [if_neg hj, getD_set_ne true (Ne.symm hj)]
      rw [e]
      exact h'
/-- The law. -/
theorem region_invB {id : Nat} {a : Act} {w : World} (I : (Nat → Bool) → Act → World → Prop) (hm : P.follows .mixedOrders = true) (hlex : lexB ops = true) (h0 : I (fun i => decide (ops.size ≤ i)) a w.drew)
    (step : Steps P ops Q I 0) (done : ∀ L a w, I L a w → (∀ i, L i = true) → Q .normal a w) : (Code.region id ops true).wp P Q a w := by
  refine wp_region_any hm (any_invB hlex step done _ _ _ _ (by simp) ?_ ?_)
  · simp
  · have e : (fun i => (Array.replicate ops.size false).getD i true) = fun i => decide (ops.size ≤ i) := by
      funext i
      by_cases hi : i < ops.size
      · simp [hi]
      · have hle : ops.size ≤ i := by omega
        rw [decide_eq_true hle]
        simp [hle]
    rw [e]
    exact h0
end
end Go.Proofs.Ytfgndecnakfhnaa.Inv
