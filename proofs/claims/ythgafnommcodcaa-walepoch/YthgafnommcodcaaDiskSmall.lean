/-
  The small functions of package disk: has, Len, Down, Break, act.
-/
import Derived.Test.YthgafnommcodcaaDiskVals
namespace Go.Proofs.Ythgafnommcodcaa.Disk
open Go.RowKit Go.Proofs.Ythgafnommcodcaa.Mem Go.Proofs.Ythgafnommcodcaa.Sect
open Go.Proofs.Ythgafnommcodcaa.Frame (Sec zero)
set_option maxRecDepth 100000

section
variable {S : Nat → Prop} {B g : Nat} {w w' : World} {d : Dsk}
/-- What one reads of it, and what it is once one of the two small cells has turned. -/
theorem Dk.parts (h : Dk B S w g d) : ∃ p c q e, Blk w g 83 [.slice p d.st.length c, .slice q d.pe.length e, .bool d.dn, .int .i64 d.lf] ∧ RK sc w p c d.st ∧ RK wc w q e d.pe ∧
    ∀ w' dn lf, Blk w' g 83 [.slice p d.st.length c, .slice q d.pe.length e, .bool dn, .int .i64 lf] → w.grownBy w' (some g) → Went B S w w' g { d with dn := dn, lf := lf } := by
  obtain ⟨vs, vp, h1, h2, h3, h4, h5, h6, h7⟩ := h
  have k2 := h2
  have k3 := h3
  obtain ⟨p, c, rfl, r1, _⟩ := own_rk sc_len (by decide) h2
  obtain ⟨q, e, rfl, r2, _⟩ := own_rk wc_len (by decide) h3
  exact ⟨p, c, q, e, h1, r1, r2, fun w' dn lf hb hg => ⟨S, ⟨_, _, hb, k2.kept hg (.inr fun q => (h5 g q).2 rfl), k3.kept hg (.inr fun q => (h6 g q).2.1 rfl), h4, h5, h6, fun k hk => ⟨(h7 k hk).1, Nat.lt_of_lt_of_le (h7 k hk).2 hg.size⟩⟩, Fr.of_grown hg (fun k hk => by simp at hk; subst hk; exact h4), fun k hk => .inl hk⟩⟩
end
theorem results_none {P : Program} {fn : Func} (h : fn.results = #[]) (tmps : Array Value) (w : World) : (results fn tmps).run P w = .ok (.tuple #[]) w := by simp [results, h]
theorem has_any {S : Nat → Prop} {B g : Nat} {w : World} {d : Dsk} (h : Dk B S w g d) (i : Int) :
    Calls Try.prog 57 #[.pointer (some ⟨g, 0, none⟩), .int .i64 i] w fun e w' => e = .returned (.bool (has d.st.length i)) ∧ w' = w := by
  obtain ⟨p, c, q, e, hb, _, _, _⟩ := h.parts
  have hc := hb.cell
  by_cases h0 : 0 ≤ i
  · have e0 : decide (0 ≤ i) = true := decide_eq_true h0
    go_enter Try.func57, Try.ntmps57
    go_wp2
    all_goals (go_ret; refine ⟨?_, rfl⟩; simp [has, h0])
  · have e0 : decide (0 ≤ i) = false := decide_eq_false h0
    go_enter Try.func57, Try.ntmps57
    go_wp2
    all_goals (go_ret; refine ⟨?_, rfl⟩; simp [has]; omega)
theorem len_any {S : Nat → Prop} {B g : Nat} {w : World} {d : Dsk} (h : Dk B S w g d) :
    Calls Try.prog 36 #[.pointer (some ⟨g, 0, none⟩)] w fun e w' => e = .returned (.int .i64 (d.st.length : Int)) ∧ w' = w := by
  obtain ⟨p, c, q, e, hb, _, _, _⟩ := h.parts
  have hc := hb.cell
  go_enter Try.func36, Try.ntmps36
  go_wp2
  go_ret
  exact ⟨rfl, rfl⟩
theorem down_any {S : Nat → Prop} {B g : Nat} {w : World} {d : Dsk} (h : Dk B S w g d) :
    Calls Try.prog 32 #[.pointer (some ⟨g, 0, none⟩)] w fun e w' => e = .returned (.bool d.dn) ∧ w' = w := by
  obtain ⟨p, c, q, e, hb, _, _, _⟩ := h.parts
  have hc := hb.cell
  go_enter Try.func32, Try.ntmps32
  go_wp2
  go_ret
  exact ⟨rfl, rfl⟩
theorem break_any {S : Nat → Prop} {B g : Nat} {w : World} {d : Dsk} (h : Dk B S w g d) (n : Int) :
    Calls Try.prog 21 #[.pointer (some ⟨g, 0, none⟩), .int .i64 n] w fun e w' => e = .returned (.tuple #[]) ∧ Went B S w w' g (d.breaks n) := by
  obtain ⟨p, c, q, e, hb, _, _, hk⟩ := h.parts
  have hc := hb.cell
  have hf := hb.frozen
  go_enter Try.func21, Try.ntmps21
  go_wp2
  all_goals refine ⟨rfl, .tuple #[], results_none rfl _ _, rfl, ?_⟩
  · rename_i hn
    have e1 : d.breaks n = { d with lf := -1 } := by simp only [Dsk.breaks]; congr 1; omega
    rw [e1]
    exact hk _ d.dn (-1) (hb.put 3 _) (only_put _ _ _)
  · rename_i hn
    have e1 : d.breaks n = { d with lf := n } := by simp only [Dsk.breaks]; congr 1; omega
    rw [e1]
    exact hk _ d.dn n (hb.put 3 _) (only_put _ _ _)
theorem act_any {S : Nat → Prop} {B g : Nat} {w : World} {d : Dsk} (h : Dk B S w g d) (hd : d.ok) :
    Calls Try.prog 68 #[.pointer (some ⟨g, 0, none⟩)] w fun e w' => e = .returned (.int .i64 d.err) ∧ Went B S w w' g d.acted := by
  obtain ⟨_, _, _, l1, l2⟩ := hd
  have hkeep := Went.keep h (Below.refl _ w)
  obtain ⟨p, c, q, e, hb, _, _, hk⟩ := h.parts
  obtain ⟨st, pe, dn, lf⟩ := d
  simp only at l1 l2 hb hk
  have hc := hb.cell
  have hf := hb.frozen
  cases dn with
  | true =>
    have e1 : Dsk.acted ⟨st, pe, true, lf⟩ = ⟨st, pe, true, lf⟩ := by simp [Dsk.acted, Dsk.no]
    have e2 : Dsk.err ⟨st, pe, true, lf⟩ = 72 := by simp [Dsk.err, Dsk.no]
    rw [e1, e2]
    go_enter Try.func68, Try.ntmps68
    go_wp2
    go_ret
    exact ⟨rfl, hkeep⟩
  | false =>
    by_cases h0 : lf = 0
    · subst h0
      have e1 : Dsk.acted ⟨st, pe, false, 0⟩ = ⟨st, pe, true, 0⟩ := by simp [Dsk.acted, Dsk.no]
      have e2 : Dsk.err ⟨st, pe, false, 0⟩ = 72 := by simp [Dsk.err, Dsk.no]
      rw [e1, e2]
      go_enter Try.func68, Try.ntmps68
      go_wp2
      go_ret
      exact ⟨rfl, hk _ true 0 (hb.put 2 _) (only_put _ _ _)⟩
    · have e2 : Dsk.err ⟨st, pe, false, lf⟩ = 0 := by simp [Dsk.err, Dsk.no, h0]
      have b0 : (lf == 0) = false := by simp [h0]
      rw [e2]
      by_cases hp : 0 < lf
      · have e1 : Dsk.acted ⟨st, pe, false, lf⟩ = ⟨st, pe, false, lf - 1⟩ := by simp [Dsk.acted, Dsk.no, h0, hp]
        have b1 : decide (0 < lf) = true := decide_eq_true hp
        have hw : IntKind.i64.wrap (lf - 1) = lf - 1 := wrap_int ⟨by omega, by omega⟩
        rw [e1]
        go_enter Try.func68, Try.ntmps68
        go_wp2
        go_ret
        exact ⟨rfl, hk _ false (lf - 1) (hb.put 3 _) (only_put _ _ _)⟩
      · have e1 : Dsk.acted ⟨st, pe, false, lf⟩ = ⟨st, pe, false, lf⟩ := by simp [Dsk.acted, Dsk.no, h0, hp]
        have b1 : decide (0 < lf) = false := decide_eq_false hp
        rw [e1]
        go_enter Try.func68, Try.ntmps68
        go_wp2
        go_ret
        exact ⟨rfl, hkeep⟩
end Go.Proofs.Ythgafnommcodcaa.Disk
