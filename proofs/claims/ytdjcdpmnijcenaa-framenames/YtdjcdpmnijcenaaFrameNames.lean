/-
  The error and the limit have their numbers; sizes at their ends.
-/
import Derived.Test.YtdjcdpmnijcenaaFrameAlive
namespace Go.Proofs.Ytdjcdpmnijcenaa.Frame
open Go.RowKit Go.Proofs.Ytdjcdpmnijcenaa.Mem Go.Proofs.Ytdjcdpmnijcenaa.Sect Go.Proofs.Ytdjcdpmnijcenaa.Crc
set_option maxRecDepth 100000

set_option maxHeartbeats 1000000 in
theorem names_any (w : World) : Calls Try.prog 3 #[] w fun e w' => e = .returned (.bool true) ∧ Below w.heap.size w w' := by
  have h1 := frame_Make_no 0 0 none 0 0 [] rfl (by decide) w
  have hS := fun x w => frame_Size x w
  have e1 : sizeI 46 = 1 := by decide
  have e2 : sizeI 47 = 2 := by decide
  have e3 : sizeI 700 = 12 := by decide
  have e4 : sizeI 701 = 0 := by decide
  have e5 : sizeI (-1) = 0 := by decide
  have ha := fun w => alive_any w
  go_enter Try.func3, Try.ntmps3
  go_wp2_with (go_at_call 9; refine h1.mono ?_; rintro e w1 ⟨rfl, hb1⟩)
  obtain ⟨w2, hmk, O2, G2⟩ := run_make_secs w1 3 3 rfl (by omega)
  have hb2 : Below w1.heap.size w1 w2 := (Below.refl _ _).grown G2 (Nat.le_refl _) (by simp)
  obtain ⟨q2, c2, hv, r2, _⟩ := own_rk sc_len (by decide) O2
  simp only [List.length_replicate, Value.slice.injEq] at hv
  obtain ⟨rfl, -, rfl⟩ := hv
  have hop := frame_Open _ 3 _ _ (by simp) (by omega) (fun s hs => by rw [List.eq_of_mem_replicate hs]; intro c hc; rw [List.eq_of_mem_replicate hc]; exact ⟨by decide, by decide⟩) w2 r2
  rw [got_zero] at hop
  unfold told nought at hop
  clear h1 O2 G2 r2
  go_wp2_with (first
    | (go_at_call 10; refine hop.mono ?_; rintro e w3 ⟨q3, c3, rfl, r3, hb3⟩)
    | (go_at_call 11; refine (ha _).mono ?_; rintro e w5 ⟨rfl, hb5⟩)
    | (go_at_call 12; refine (hS _ _).mono ?_; rintro e w6 ⟨rfl, rfl⟩))
  go_ret
  exact ⟨rfl, bnext (bal (bnext (bnext hb1 hb2) hb3) _) hb5⟩
end Go.Proofs.Ytdjcdpmnijcenaa.Frame
