/-
  Sync, Crash.
-/
import Derived.Test.YthgafnommcodcaaDiskSettle
namespace Go.Proofs.Ythgafnommcodcaa.Disk
open Go.RowKit Go.Proofs.Ythgafnommcodcaa.Mem Go.Proofs.Ythgafnommcodcaa.Sect
open Go.Proofs.Ythgafnommcodcaa.Frame (Sec zero)
set_option maxRecDepth 100000

theorem Went.trans {B g : Nat} {S S1 : Nat → Prop} {w w1 w2 : World} {d : Dsk} (h1 : Fr S w w1) (hS : ∀ k, S1 k → S k ∨ w.heap.size ≤ k) (h2 : Went B S1 w1 w2 g d) : Went B S w w2 g d := by
  obtain ⟨S2, hD, hF, h3⟩ := h2
  refine ⟨S2, hD, h1.trans hF hS, fun k hk => ?_⟩
  rcases h3 k hk with h | h
  · exact hS k h
  · exact .inr (by have := h1.size; omega)
/-- Nothing of what is read here is in S. -/
def Off (S : Nat → Prop) (q : Option Addr) (n : Nat) : Prop := 0 < n → ∀ a, q = some a → ¬ S a.block
theorem RKfr {α : Type} {enc : α → List Value} {S : Nat → Prop} {w w' : World} {p : Option Addr} {cap : Nat} {xs : List α} (h : RK enc w p cap xs) (ho : Off S p xs.length) (hF : Fr S w w') : RK enc w' p cap xs := by
  obtain ⟨h1, h2, h3, h4⟩ := h
  refine ⟨h1, h2, h3, fun hz => ?_⟩
  obtain ⟨b, o, e, hlt, hc⟩ := h4 hz
  exact ⟨b, o, e, Nat.lt_of_lt_of_le hlt hF.size, fun j v hv => (World.cell?_of_block (w := w) (a := ⟨b, o + j, none⟩) (hF.2.2.2.2 b hlt (ho hz _ e))).trans (hc j v hv)⟩
def bc (b : Bool) : List Value := [.bool b]
theorem bc_len (b : Bool) : (bc b).length = 1 := rfl
theorem tells_all (S : Nat → Prop) (w : World) : Tells S w 69 #[] (fun _ => true) := by
  refine ⟨fun args w' => by rfl, fun n w' _ _ => ?_⟩
  show Calls Try.prog 69 #[.int .i64 (n : Int)] w' _
  go_enter Try.func69, Try.ntmps69
  go_wp2
  go_ret
  exact ⟨rfl, Below.refl _ _⟩
theorem tells_keep {S : Nat → Prop} {w : World} {G : Nat} {q : Option Addr} {c : Nat} {ks : List Bool} (hG : Blk w G 45 [.slice q ks.length c]) (hS : ¬ S G) (hr : RK bc w q c ks) (ho : Off S q ks.length) :
    Tells S w 53 #[.pointer (some ⟨G, 0, none⟩)] (keeps ks) := by
  refine ⟨fun args w' => by rfl, fun n w' _ hF => ?_⟩
  show Calls Try.prog 53 #[.int .i64 (n : Int), .pointer (some ⟨G, 0, none⟩)] w' _
  have hc := (hF.blk hG hS).cell
  have hr' := RKfr hr ho hF
  obtain ⟨m, hm⟩ : ∃ m, ks.length = m := ⟨_, rfl⟩
  rw [hm] at hc
  by_cases hn : n < m
  · have e1 : decide ((n : Int) < (m : Int)) = true := decide_eq_true (by omega)
    have e2 : decide (n < m) = true := decide_eq_true hn
    obtain ⟨x, hx⟩ : ∃ x, ks[n]? = some x := ⟨_, List.getElem?_eq_getElem (by omega)⟩
    obtain ⟨b, o, rfl, hcell⟩ := rk_range bc_len hr' hx
    have hk : w'.cell? ⟨b, o + n, none⟩ = some (.bool x) := by
      have := hcell 0 (.bool x) rfl
      simpa using this
    have hlt : (n : Int) < (m : Int) := by omega
    have hv : keeps ks n = x := by simp [keeps, hx]
    rw [hv]
    go_enter Try.func53, Try.ntmps53
    go_wp2
    go_ret
    exact ⟨rfl, Below.refl _ _⟩
  · have e1 : decide ((n : Int) < (m : Int)) = false := decide_eq_false (by omega)
    have e2 : decide (n < m) = false := decide_eq_false hn
    have hv : keeps ks n = false := by simp [keeps, List.getElem?_eq_none (show ks.length ≤ n by omega)]
    rw [hv]
    go_enter Try.func53, Try.ntmps53
    go_wp2
    go_ret
    exact ⟨rfl, Below.refl _ _⟩
theorem sync_any {S : Nat → Prop} {B g : Nat} {w : World} {d : Dsk} (h : Dk B S w g d) (hd : d.ok) :
    Calls Try.prog 49 #[.pointer (some ⟨g, 0, none⟩)] w fun e w' => e = .returned (.int .i64 d.err) ∧ Went B S w w' g d.sync := by
  have hact := act_any h hd
  cases hno : d.no with
  | true =>
    have e1 : d.err = 72 := by simp [Dsk.err, hno]
    have e2 : d.sync = d.acted := by simp [Dsk.sync, hno]
    rw [e1] at hact ⊢
    rw [e2]
    go_enter Try.func49, Try.ntmps49
    go_wp2_with (first
      | ((with_reducible refine hact.mono ?_); rintro e w1 ⟨rfl, hW1⟩))
    go_ret
    exact ⟨rfl, hW1⟩
  | false =>
    have e1 : d.err = 0 := by simp [Dsk.err, hno]
    have e2 : d.sync = d.acted.settled fun _ => true := by simp [Dsk.sync, hno]
    rw [e1] at hact ⊢
    rw [e2]
    go_enter Try.func49, Try.ntmps49
    go_wp2_with (first
      | ((with_reducible refine hact.mono ?_); rintro e w1 ⟨rfl, S1, hD1, hF1, hS1⟩)
      | ((with_reducible refine (settle_any hD1 (acted_ok hd) _ _ _ (tells_all S1 w1)).mono ?_); rintro e w2 ⟨rfl, hW2⟩))
    go_ret
    exact ⟨rfl, Went.trans hF1 hS1 hW2⟩
theorem grown2 {w a b : World} {g : Nat} (h : w.grownBy a (some g)) (k : a.grownBy b (some g)) : w.grownBy b (some g) :=
  ⟨k.os.trans h.os, k.tape.trans h.tape, k.output.trans h.output, Nat.le_trans h.size k.size, fun j hj hne => (k.block j (Nat.lt_of_lt_of_le hj h.size) hne).trans (h.block j hj hne)⟩
theorem crash_any {S : Nat → Prop} {B g : Nat} {w : World} {d : Dsk} (h : Dk B S w g d) (hd : d.ok) (q : Option Addr) (m c : Nat) (ks : List Bool) (hm : ks.length = m) (hr : RK bc w q c ks) (ho : Off S q m) :
    Calls Try.prog 23 #[.pointer (some ⟨g, 0, none⟩), .slice q m c] w fun e w' => e = .returned (.tuple #[]) ∧ Went B S w w' g (d.crash ks) := by
  subst hm
  have hb0 := bnew w (.cells #[.slice q ks.length c] 45)
  have ht := tells_keep (Blk.new w #[.slice q ks.length c] 45) (fun q => by have := h.lt _ q; omega) (hr.alloc _) ho
  have hset := settle_any (h.below hb0) hd _ _ _ ht
  go_enter Try.func23, Try.ntmps23
  go_wp2_with (first
    | ((with_reducible refine hset.mono ?_); rintro e w1 ⟨rfl, S1, hD1, hF1, hS1⟩; obtain ⟨p1, c1, q1, e1, hb1, _, _, hk1⟩ := hD1.parts; have hc1 := hb1.cell; have hz1 := hb1.frozen))
  have hgg : w1.grownBy ((w1.setCell ⟨g, 2, none⟩ (.bool false)).setCell ⟨g, 3, none⟩ (.int .i64 (-1))) (some g) := grown2 (only_put _ _ _) (only_put _ _ _)
  refine ⟨rfl, .tuple #[], results_none rfl _ _, rfl, ?_⟩
  exact Went.trans (Fr.of_below hb0 S) (fun _ h => .inl h) (Went.trans hF1 hS1 (hk1 _ false (-1) ((hb1.put 2 _).put 3 _) hgg))
end Go.Proofs.Ythgafnommcodcaa.Disk
