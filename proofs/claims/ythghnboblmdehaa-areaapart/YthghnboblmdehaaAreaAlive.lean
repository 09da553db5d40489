/-
  The chapter's example of layer 9 holds.
-/
import Derived.Test.YthghnboblmdehaaAreaCalls
namespace Go.Proofs.Ythghnboblmdehaa.Area
open Go.RowKit Go.Proofs.Ythghnboblmdehaa.Mem
set_option maxRecDepth 100000
set_option maxHeartbeats 1000000

theorem alive_any (w : World) : Calls Try.prog 9 #[] w fun e w' => e = .returned (.bool true) ∧ w' = w := by
  have h1 := area_Segs 64 w
  have h2 := area_Seg 64 0 w
  have h3 := area_Seg 64 1 w
  rw [show cnt 64 = 2 by decide, show segE 64 = 0 by decide] at h1
  rw [show plc 64 0 = 32 by decide, show plE 64 0 = 0 by decide] at h2
  rw [show plc 64 1 = 48 by decide, show plE 64 1 = 0 by decide] at h3
  go_enter Try.func9, Try.ntmps9
  go_wp2_with (first
    | (go_at_call 7; refine h1.mono ?_; rintro e w1 ⟨rfl, hw⟩; rw [hw]; clear hw)
    | (go_at_call 8; (first | ((with_reducible refine h2.mono ?_); rintro e w1 ⟨rfl, hw⟩; rw [hw]; clear hw) | ((with_reducible refine h3.mono ?_); rintro e w1 ⟨rfl, hw⟩; rw [hw]; clear hw))))
  go_ret
  exact ⟨rfl, rfl⟩
end Go.Proofs.Ythghnboblmdehaa.Area
