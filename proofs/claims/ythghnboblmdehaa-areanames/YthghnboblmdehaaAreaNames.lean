/-
  The error and the sizes have their numbers.
-/
import Derived.Test.YthghnboblmdehaaAreaAlive
namespace Go.Proofs.Ythghnboblmdehaa.Area
open Go.RowKit Go.Proofs.Ythghnboblmdehaa.Mem
set_option maxRecDepth 100000
set_option maxHeartbeats 1000000

theorem names_any (w : World) : Calls Try.prog 3 #[] w fun e w' => e = .returned (.bool true) ∧ Below w.heap.size w w' := by
  have ha := alive_any w
  have h1 := area_Segs 63 w
  have h2 := area_Seg 64 2 w
  have h3 := area_Segs 512 w
  rw [show cnt 63 = 0 by decide, show segE 63 = 91 by decide] at h1
  rw [show plc 64 2 = 0 by decide, show plE 64 2 = 91 by decide] at h2
  rw [show cnt 512 = 30 by decide, show segE 512 = 0 by decide] at h3
  go_enter Try.func3, Try.ntmps3
  go_wp2_with (first
    | (go_at_call 9; refine ha.mono ?_; rintro e w1 ⟨rfl, hw⟩; rw [hw]; clear hw)
    | (go_at_call 8; refine h2.mono ?_; rintro e w1 ⟨rfl, hw⟩; rw [hw]; clear hw)
    | (go_at_call 7; (first | ((with_reducible refine h1.mono ?_); rintro e w1 ⟨rfl, hw⟩; rw [hw]; clear hw) | ((with_reducible refine h3.mono ?_); rintro e w1 ⟨rfl, hw⟩; rw [hw]; clear hw))))
  go_ret
  exact ⟨rfl, Below.refl _ _⟩
end Go.Proofs.Ythghnboblmdehaa.Area
