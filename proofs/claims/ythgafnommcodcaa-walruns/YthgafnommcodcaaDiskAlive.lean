/-
  The chapter's own lines, walked.
-/
import Derived.Test.YthgafnommcodcaaDiskWrite
namespace Go.Proofs.Ythgafnommcodcaa.Disk
open Go.RowKit Go.Proofs.Ythgafnommcodcaa.Mem Go.Proofs.Ythgafnommcodcaa.Sect
open Go.Proofs.Ythgafnommcodcaa.Frame (Sec zero)
set_option maxRecDepth 100000

theorem flat_bools : ∀ ks : List Bool, ks.flatMap bc = ks.map Value.bool
  | [] => rfl
  | b :: r => by rw [List.flatMap_cons, flat_bools r]; rfl
theorem lit_bools (w : World) (ks : List Bool) (hk : ks.length ≤ 100) : RK bc (w.alloc (.cells (ks.map Value.bool).toArray 4)) (some ⟨w.heap.size, 0, none⟩) ks.length ks := by
  refine ⟨Nat.le_refl _, by unfold maxLen; omega, fun h => by simp at h, fun _ => ⟨w.heap.size, 0, rfl, by simp, fun j v hv => ?_⟩⟩
  have h := Blk.new w (ks.map Value.bool).toArray 4
  rw [Nat.zero_add, h.cell]
  rw [flat_bools] at hv
  simpa using hv
theorem bfr {w a b : World} {S : Nat → Prop} (h : Below w.heap.size w a) (hF : Fr S a b) (hS : ∀ k, S k → w.heap.size ≤ k) : Below w.heap.size w b := h.trans (hF.below hS h.size)
end Go.Proofs.Ythgafnommcodcaa.Disk
