/-
  Worlds that have at most new blocks, behind a call: what was there is as it was.
-/
import Derived.WalkKit
import Derived.RowKit3
import Derived.Below
namespace Go.Proofs.Ytmimhejlpejacab.Sat
open Go.RowKit

/-- The world has at most new blocks. -/
def New (w w' : World) : Prop := Below w.heap.size w w' ∧ Grown w w'
theorem New.refl (w : World) : New w w := ⟨Below.refl _ _, Grown.refl _⟩
theorem New.size {w w' : World} (h : New w w') : w.heap.size ≤ w'.heap.size := h.1.size
theorem New.trans {a b c : World} (h : New a b) (k : New b c) : New a c := by
  refine ⟨h.1.trans (k.1.mono h.1.size), World.keptBut_trans h.2.1 k.2.1, fun p => (k.2.2.1 p).trans (h.2.2.1 p), Nat.le_trans h.2.2.2 k.2.2.2⟩
theorem New.alloc {a b : World} (h : New a b) (c : Array Value) (t : TypeId) : New a (b.alloc (.cells c t)) :=
  ⟨h.1.alloc h.1.size _, h.2.alloc _ _⟩
theorem New.cell {a b : World} (h : New a b) {k o : Nat} (hk : k < a.heap.size) : b.cell? ⟨k, o, none⟩ = a.cell? ⟨k, o, none⟩ := h.1.cell hk
theorem New.drew {a b : World} (h : New a b) : New a b.drew := ⟨h.1.drew, h.2.drew⟩
end Go.Proofs.Ytmimhejlpejacab.Sat
