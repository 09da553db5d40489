/-
  Policies behind policies: append, of what is read to what is the call's own; a row of none.
-/
import Derived.Test.YtfgndecnakfhnaaPolMem
namespace Go.Proofs.Ytfgndecnakfhnaa.Policy
open Go.RowKit Go.Proofs.Ytfgndecnakfhnaa.Mem Go.Proofs.Ytfgndecnakfhnaa.Addr
set_option maxRecDepth 100000

theorem info_pol : ∃ i, Try.prog.info? 54 = some i ∧ i.zero = some (pv zeroP) ∧ i.size = 13 ∧ i.bytes = 80 := by
  have h : (Try.prog.info? 54).map (fun i => (i.zero, i.size, i.bytes)) = some (some (pv zeroP), 13, 80) := by kernel_rfl
  obtain ⟨i, hi, he⟩ := Option.map_eq_some_iff.1 h
  simp only [Prod.mk.injEq] at he
  exact ⟨i, hi, he⟩
theorem run_append_pol (w : World) (ty : TypeId) (base : Nat) (v : Value) (n : Nat) (xs : List Po) (hown : w.ownsRow base 54 13 v n (xs.flatMap pl)) (p : Option Addr) (m c : Nat) (zs : List Po) (hm : zs.length = m) (hr : RK pl w p c zs) (h63 : n + m ≤ 100000) (hbase : base ≤ w.heap.size) :
    ∃ v' w', (Builtin.append_ #[26, 26] ty #[v, .slice p m c]).run Try.prog w = .ok v' w' ∧ w'.ownsRow base 54 13 v' (n + m) ((xs ++ zs).flatMap pl) ∧ w.grownBy w' v.ownBlock := by
  obtain ⟨i, hi, hz, hs, hb⟩ := info_pol
  cases p with
  | none =>
    have hc := hr.2.2.1 rfl
    have h1 := hr.1
    subst hc
    obtain rfl : zs = [] := List.eq_nil_of_length_eq_zero (by omega)
    obtain rfl : m = 0 := by simpa using hm.symm
    exact ⟨v, w, run_append_owned_none w base 26 ty _ i 13 Try.underlying26 hi v n _ hown, by simpa using hown, World.grownBy.refl _ _⟩
  | some ad =>
    obtain ⟨v', w', h1, h2, h3, _⟩ := run_append_own (P := Try.prog) w base 26 ty _ i (pv zeroP) 13 80 Try.underlying26 hi hz hs hb rfl (by decide) v n _ hown ad m c (zs.flatMap pl) (by rw [len_flat pl_len, hm]) (fun j u hu => by
      have hl : 0 < zs.length := by
        rcases Nat.eq_zero_or_pos zs.length with q | q
        · obtain rfl := List.eq_nil_of_length_eq_zero q; simp at hu
        · exact q
      obtain ⟨b', o', e', _, hc⟩ := hr.2.2.2 hl
      simp only [Option.some.injEq] at e'
      subst e'
      rw [Addr.add_lit]
      exact hc j u hu) (fun u hu => by
      obtain ⟨y, _, hy⟩ := List.mem_flatMap.1 hu
      exact pl_one y u hy) (by unfold maxLen; omega) (by omega) hbase
    exact ⟨v', w', h1, by rw [List.flatMap_append]; exact h2, h3⟩
section
variable {o : Oper} {a : Act} {w : World} {K : Act → World → Prop} {ops : Array Oper} {rest : List Oper} {Q : Exit → Act → World → Prop}
theorem wp_append_pol (x y : Operand) (ho : o.op = .call { callee := .builtin .append, args := #[x, y], argTypes := #[26, 26] }) (base : Nat) (v : Value) (n : Nat) (xs : List Po) (hx : a.eval x = v) (hown : w.ownsRow base 54 13 v n (xs.flatMap pl)) (p : Option Addr) (m c : Nat) (zs : List Po) (hy : a.eval y = .slice p m c) (hm : zs.length = m) (hr : RK pl w p c zs) (h63 : n + m ≤ 100000) (hbase : base ≤ w.heap.size)
    (h : ∀ v' w', w'.ownsRow base 54 13 v' (n + m) ((xs ++ zs).flatMap pl) → w.grownBy w' v.ownBlock → K (a.put o.dst v') w') : o.wp Try.prog a w K Q := by
  obtain ⟨v', w', hrun, h1, h2⟩ := run_append_pol w o.type base v n xs hown p m c zs hm hr h63 hbase
  unfold Oper.wp
  simp [execOp, ho, resolve, invoke, builtin, hx, hy, hrun, Result.andThen]
  exact h v' w' h1 h2
theorem at_append_pol (x y : Operand) (ho : o.op = .call { callee := .builtin .append, args := #[x, y], argTypes := #[26, 26] }) (base : Nat) (v : Value) (n : Nat) (xs : List Po) (hx : a.eval x = v) (hown : w.ownsRow base 54 13 v n (xs.flatMap pl)) (p : Option Addr) (m c : Nat) (zs : List Po) (hy : a.eval y = .slice p m c) (hm : zs.length = m) (hr : RK pl w p c zs) (h63 : n + m ≤ 100000) (hbase : base ≤ w.heap.size) (hw : Region.wanted o (yielded ops a.tmps) = true)
    (h : ∀ v' w', w'.ownsRow base 54 13 v' (n + m) ((xs ++ zs).flatMap pl) → w.grownBy w' v.ownBlock → wpList Try.prog ops Q rest (a.put o.dst v') w') : wpList Try.prog ops Q (o :: rest) a w :=
  BigFrame.wpList_want hw fun _ hK => wp_append_pol x y ho base v n xs hx hown p m c zs hy hm hr h63 hbase (fun v2 w2 h1 h2 => hK _ _ (h v2 w2 h1 h2))
end
/-- From a lower block on. -/
theorem own_lower {w : World} {B B' : Nat} {e : TypeId} {k n : Nat} {v : Value} {xs : List Value} (h : w.ownsRow B e k v n xs) (hB : B' ≤ B) : w.ownsRow B' e k v n xs := by
  refine ⟨h.1, ?_⟩
  rcases h.2 with h | ⟨g, cap, cur, h1, h2, h3⟩
  · exact .inl h
  · exact .inr ⟨g, cap, cur, h1, by omega, h3⟩
/-- A row of none. -/
theorem none_own (w : World) : (w.alloc (.cells #[] 54)).ownsRow w.heap.size 54 13 (.slice (some ⟨w.heap.size, 0, none⟩) 0 0) 0 (([] : List Po).flatMap pl) := lit_none_k w
end Go.Proofs.Ytfgndecnakfhnaa.Policy
