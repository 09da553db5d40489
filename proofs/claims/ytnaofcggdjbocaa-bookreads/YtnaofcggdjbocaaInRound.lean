/-
  What holds of a region elsewhere holds of it in a round of a loop over a function. Nothing of a program is named here.
-/
import Derived.Test.YtnaofcggdjbocaaInvB
import Derived.RangeFuncCalls
import Derived.TacticsIn
import Derived.OrdersIn
namespace Go.Proofs.Ytnaofcggdjbocaa.Inv
open Go

section
variable {P : Program} {ops : Array Oper} {Q : Exit → Act → World → Prop} {n l : Nat}
/-- None of them is put off. -/
def plainB (o : Oper) : Bool := match o.op with
  | .defer _ => false
  | _ => true
theorem plain_of {o : Oper} (h : plainB o = true) : ∀ c, o.op ≠ .defer c := by
  intro c hc
  unfold plainB at h
  rw [hc] at h
  cases h
theorem rows_in {row : String} {args : Array Value} {w : World} {R : Value → World → Prop} (h : Rows P row args w R) : RowsIn (Fence.wide.inRound l) n P row args w R :=
  fun c cs _ => let ⟨v, w', r, s⟩ := h c cs; ⟨v, w', r, stepsIn_wide.2 s⟩
theorem upon_in {o : Oper} {a : Act} {K : Act → World → Prop} {r : Result Next} (h : o.upon P a K Q r) : o.uponIn (Fence.wide.inRound l) n P a K Q r := by
  cases r with
  | ok x w' =>
    cases x with
    | value v => exact h
    | skip => exact h
    | defer d => exact h
    | enter f args =>
      unfold Oper.uponIn
      exact ⟨fun q => by simp [Fence.wide, Fence.inRound] at q, CallsIn.inRound l (callsIn_wide.2 h)⟩
    | row row args =>
      unfold Oper.uponIn
      exact ⟨fun q => by simp [Fence.wide, Fence.inRound] at q, rows_in h⟩
    | _ => exact False.elim h
  | halt s w' =>
    cases s <;> first | exact h | exact False.elim h
theorem oper_in {o : Oper} {a : Act} {w : World} {K : Act → World → Prop} (hp : plainB o = true) (h : o.wp P a w K Q) : o.wpIn (Fence.wide.inRound l) n P a w K Q := by
  refine ⟨fun _ _ => trivial, ?_⟩
  have e : Oper.semAt (Fence.wide.inRound l).round a.eval o = execOp a.eval o := Oper.semAt_some l a.eval o (plain_of hp)
  rw [e]
  exact upon_in h
theorem list_in (hQ : ¬ LetsOut Q) : ∀ (rest : List Oper) (a : Act) (w : World), rest.all plainB = true → wpList P ops Q rest a w → wpListIn (Fence.wide.inRound l) n P ops Q rest a w
  | [], a, w, _, h => h
  | o :: rest, a, w, hp, h => by
    simp only [List.all_cons, Bool.and_eq_true] at hp
    unfold wpList at h
    unfold wpListIn
    split at h
    · rename_i hw
      rw [if_pos hw]
      rcases h with h | ⟨_, h⟩
      · exact Oper.wpIn_mono (fun a' w' h' => list_in hQ rest a' w' hp.2 h') (oper_in hp.1 h)
      · exact absurd h hQ
    · rename_i hw
      rw [if_neg hw]
      exact ⟨fun _ _ => trivial, list_in hQ rest _ _ hp.2 h⟩
theorem region_list_in {id : Nat} {a : Act} {w : World} (hQ : ¬ LetsOut Q) (hp : ops.toList.all plainB = true) (h : wpList P ops Q ops.toList a w) : (Code.region id ops false).wpIn (Fence.wide.inRound l) n P Q a w :=
  wpIn_region_list (list_in hQ _ _ _ hp h)
theorem op_in (hQ : ¬ LetsOut Q) (hp : ops.toList.all plainB = true) {i : Nat} {K : Act → World → Prop} {a : Act} {w : World} (h : wpOp P ops Q i K a w) : wpOpIn (Fence.wide.inRound l) n P ops Q i K a w := by
  unfold wpOp at h
  unfold wpOpIn
  cases ho : ops[i]? with
  | none => rw [ho] at h; exact h
  | some o =>
    rw [ho] at h
    simp only at h ⊢
    have hpo : plainB o = true := by
      have := List.all_eq_true.1 hp o (by
        have := Array.mem_of_getElem? ho
        simpa using this)
      exact this
    split at h
    · rename_i hw
      rw [if_pos hw]
      rcases h with h | ⟨_, h⟩
      · exact oper_in hpo h
      · exact absurd h hQ
    · rename_i hw
      rw [if_neg hw]
      exact ⟨fun _ _ => trivial, h⟩
theorem any_in (hQ : ¬ LetsOut Q) (hp : ops.toList.all plainB = true) {md : Region.Mode} : ∀ (fuel : Nat) (listed : Array Bool) (a : Act) (w : World), wpAny P md ops Q fuel listed a w → wpAnyIn (Fence.wide.inRound l) n P md ops Q fuel listed a w
  | 0, _, _, _, h => h
  | fuel + 1, _, _, _, h => ⟨h.1, fun i hi => op_in hQ hp (wpOp_mono (fun a' w' h' => any_in hQ hp fuel _ a' w' h') (h.2 i hi))⟩
/-- The law for regions that draw, in a round. -/
theorem region_invIn {id : Nat} {a : Act} {w : World} (hQ : ¬ LetsOut Q) (hp : ops.toList.all plainB = true) (I : (Nat → Bool) → Act → World → Prop) (hm : P.follows .mixedOrders = true) (hlex : lexB ops = true) (h0 : I (fun i => decide (ops.size ≤ i)) a w.drew)
    (step : Steps P ops Q I 0) (done : ∀ L a w, I L a w → (∀ i, L i = true) → Q .normal a w) : (Code.region id ops true).wpIn (Fence.wide.inRound l) n P Q a w := by
  refine wpIn_region_any hm (any_in hQ hp _ _ _ _ (any_invB hlex step done _ _ _ _ (by simp) ?_ ?_))
  · simp
  · have e : (fun i => (Array.replicate ops.size false).getD i true) = fun i => decide (ops.size ≤ i) := by
      funext i
      by_cases hi : i < ops.size
      · simp [hi]
      · have hle : ops.size ≤ i := by omega
        rw [decide_eq_true hle]
        simp [hle]
    rw [e]
    exact h0
end
end Go.Proofs.Ytnaofcggdjbocaa.Inv
