/-
  The sum of any bytes: every input gives true.
-/
import Derived.Test.YtogijgpamdcjkaaHeadAlive
import Derived.Test.YtogijgpamdcjkaaHeadRef
namespace Go.Proofs.Ytogijgpamdcjkaa.Head
open Go.RowKit Go.Proofs.Ytogijgpamdcjkaa.Mem

/-- An append that has a guard which says yes. -/
theorem wpList_append_want {P : Program} {ops : Array Oper} {w : World} {rest : List Oper} {o : Oper} {a : Act} {Q : Exit → Act → World → Prop} (hw : Region.wanted o (yielded ops a.tmps) = true) (s x : Operand) (t : TypeId)
    (ho : o.op = .call { callee := .builtin .append, args := #[s, x], argTypes := #[t, t] }) (base : Nat) (e : TypeId) (i : TypeInfo) (k : IntKind) (ht : P.underlying t = some (.slice e)) (hi : P.info? e = some i) (hz : i.zero = some (.int k 0)) (hsize : i.size = 1) (hby : i.bytes = 1)
    (v : Value) (n : Nat) (xs : List Value) (hs : a.eval s = v) (hown : w.ownsRow base e 1 v n xs) (p : Option Addr) (m c : Nat) (zs : List Int) (hx : a.eval x = .slice p m c) (hm : zs.length = m) (hr : Reads k w p c zs) (h63 : n + m ≤ 100000) (hbase : base ≤ w.heap.size)
    (h : ∀ v' w', w'.ownsRow base e 1 v' (n + m) (xs ++ zs.map (Value.int k)) → w.grownBy w' v.ownBlock → wpList P ops Q rest (a.put o.dst v') w') : wpList P ops Q (o :: rest) a w := by
  refine BigFrame.wpList_want hw fun K hK => ?_
  obtain ⟨v', w', hrun, h1, h2⟩ := run_append_reads (P := P) w t o.type base e i k ht hi hz hsize hby v n xs hown p m c zs hm hr h63 hbase
  unfold Oper.wp
  simp [execOp, ho, resolve, invoke, builtin, hs, hx, hrun, Result.andThen]
  exact hK _ _ (h v' w' h1 h2)
set_option maxHeartbeats 1000000 in
theorem sums_any (p : Option Addr) (n c : Nat) (xs : List Int) (l : xs.length = n) (hx : ∀ c ∈ xs, Byte c) (w : World) (r : Reads .u8 w p c xs) :
    Calls Try.prog 4 #[.slice p n c] w fun e w' => e = .returned (.bool true) ∧ Below w.heap.size w w' := by
  obtain ⟨i0, hi, hz0, hz1, hz2⟩ := info_parts info_byte
  have ha := alive_any w
  have hn : n ≤ 9223372036854775807 := by
    have h1 := r.1
    have h2 := r.2.1
    unfold maxLen at h2
    omega
  by_cases h3 : n > 3000
  · go_enter Try.func4, Try.ntmps4
    go_wp2_with (go_at_call 11; refine ha.mono ?_; rintro e w1 ⟨rfl, hb1⟩)
    go_ret
    exact ⟨rfl, hb1⟩
  · have hs := sum_range hx
    have d3 : decide ((3000 : Int) < (n : Int)) = false := by simp; omega
    have d3n : decide (3000 < n) = false := by simp; omega
    go_enter Try.func4, Try.ntmps4
    go_wp2_with (first
      | (go_at_call 11; refine ha.mono ?_; rintro e w1 ⟨rfl, hb1⟩)
      | (at_builtin; refine wpList_append_want (by rfl) _ _ 24 rfl w1.heap.size 5 i0 .u8 Try.underlying24 hi hz0 hz1 hz2 (.slice (some ⟨w1.heap.size, 0, none⟩) 0 0) 0 [] rfl (lit_none (k := .u8) w1) p n c xs rfl l ((r.below hb1).alloc _) ?c3 ?c5 ?_))
    case c3 => omega
    case c5 => simp
    intro v2 w2 hown2 hg2
    obtain ⟨ho2, hb2⟩ := grew0 (ys := []) (zs := xs) (Nat.le_refl _) (bnew w1 _) (lit_none (k := .u8) w1) hown2 hg2
    rw [List.nil_append] at ho2
    obtain ⟨-, q, d, hv, hr⟩ := own_reads ho2
    rw [l] at hv
    subst hv
    clear hown2 hg2 ho2
    have hA := head_Sum q n d xs l hx (by omega) w2 hr
    have hB := ref_Sum p n c xs l hx (by omega) w2 ((r.below hb1).below hb2)
    generalize sumI xs = s at hA hB hs
    go_wp2_with (first
      | (go_at_call 12; refine hA.mono ?_; rintro e w3 ⟨rfl, rfl⟩)
      | (go_at_call 13; refine hB.mono ?_; rintro e w4 ⟨rfl, rfl⟩))
    go_ret
    exact ⟨rfl, bnext hb1 hb2⟩
end Go.Proofs.Ytogijgpamdcjkaa.Head
