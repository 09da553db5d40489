/-
  Where anything is on any disk: every input gives true.
-/
import Derived.Test.YthghnboblmdehaaAreaAlive
import Derived.Test.YthghnboblmdehaaAreaRef
namespace Go.Proofs.Ythghnboblmdehaa.Area
open Go.RowKit Go.Proofs.Ythghnboblmdehaa.Mem
set_option maxRecDepth 100000
set_option maxHeartbeats 2000000

theorem places_any (S a b g : Int) (hg : Word g) (w : World) :
    Calls Try.prog 4 #[.int .i64 S, .agg #[.int .i64 a, .int .i64 b], .int .u64 g] w fun e w' => e = .returned (.bool true) ∧ Below w.heap.size w w' := by
  have ha := fun w => alive_any w
  have h1 := fun w => area_Segs S w
  have h2 := fun w => ref_Segs S w
  have h3 := fun w => area_Seg S a w
  have h4 := fun w => ref_Seg S a w
  have h5 := fun w => area_Next S a w
  have h6 := fun w => ref_Next S a w
  have h7 := fun w => area_Used S a b w
  have h8 := fun w => ref_Used S a b w
  have h9 := fun w => area_Slot g hg w
  have h0 := fun w => ref_Slot g hg w
  have hB := bnew w (.cells #[.int .i64 a, .int .i64 b] 27)
  go_enter Try.func4, Try.ntmps4
  go_wp2_with (first
    | (go_at_call 9; refine (ha _).mono ?_; rintro e w1 ⟨rfl, hw⟩; rw [hw]; clear hw)
    | (go_at_call 7; refine (h1 _).mono ?_; rintro e w1 ⟨rfl, hw⟩; rw [hw]; clear hw)
    | (go_at_call 10; refine (h2 _).mono ?_; rintro e w1 ⟨rfl, hw⟩; rw [hw]; clear hw)
    | (go_at_call 8; refine (h3 _).mono ?_; rintro e w1 ⟨rfl, hw⟩; rw [hw]; clear hw)
    | (go_at_call 11; refine (h4 _).mono ?_; rintro e w1 ⟨rfl, hw⟩; rw [hw]; clear hw)
    | (go_at_call 12; refine (h5 _).mono ?_; rintro e w1 ⟨rfl, hw⟩; rw [hw]; clear hw)
    | (go_at_call 13; refine (h6 _).mono ?_; rintro e w1 ⟨rfl, hw⟩; rw [hw]; clear hw)
    | (go_at_call 14; refine (h7 _).mono ?_; rintro e w1 ⟨rfl, hw⟩; rw [hw]; clear hw)
    | (go_at_call 15; refine (h8 _).mono ?_; rintro e w1 ⟨rfl, hw⟩; rw [hw]; clear hw)
    | (go_at_call 16; refine (h9 _).mono ?_; rintro e w1 ⟨rfl, hw⟩; rw [hw]; clear hw)
    | (go_at_call 17; refine (h0 _).mono ?_; rintro e w1 ⟨rfl, hw⟩; rw [hw]; clear hw))
  go_ret
  exact ⟨rfl, hB⟩
end Go.Proofs.Ythghnboblmdehaa.Area
