/-
  What floodgateref01.Less gives.
-/
import Derived.Test.YtmimhejlpejacaaTimes
namespace Go.Proofs.Ytmimhejlpejacaa.Sat
open Go.RowKit Go.Shelf

set_option maxHeartbeats 1000000 in
/-- floodgateref01.Less. -/
theorem less_any (x0 x1 x2 x3 y0 y1 y2 y3 : Int) (a0 : Part x0) (a1 : Part x1) (a2 : Part x2) (a3 : Part x3) (b0 : Part y0) (b1 : Part y1) (b2 : Part y2) (b3 : Part y3) (w : World) :
    Calls Try.prog 36 #[.agg #[.int .u64 x0, .int .u64 x1, .int .u64 x2, .int .u64 x3], .agg #[.int .u64 y0, .int .u64 y1, .int .u64 y2, .int .u64 y3]] w fun e w' => e = .returned (.int .i64 (scmp (val x0 x1 x2 x3) (val y0 y1 y2 y3))) ∧ New w w' := by
  obtain ⟨p0, q0⟩ := a0; obtain ⟨p1, q1⟩ := a1; obtain ⟨p2, q2⟩ := a2; obtain ⟨p3, q3⟩ := a3
  obtain ⟨r0, s0⟩ := b0; obtain ⟨r1, s1⟩ := b1; obtain ⟨r2, s2⟩ := b2; obtain ⟨r3, s3⟩ := b3
  by_cases c3 : x3 < y3
  · have e1 : scmp (val x0 x1 x2 x3) (val y0 y1 y2 y3) = -1 := by unfold scmp val; rw [if_pos (by omega)]
    rw [e1]; clear e1
    go_enter Try.func36, Try.ntmps36
    go_wp2
    refine wp_loop_rounds 5 ?_
    rw [rounds_succ]
    go_wp2
    go_region
    go_wp2
    go_ret
    exact ⟨rfl, by repeat (first | with_reducible exact New.refl _ | with_reducible apply New.drew | with_reducible apply New.alloc)⟩
  by_cases d3 : y3 < x3
  · have e1 : scmp (val x0 x1 x2 x3) (val y0 y1 y2 y3) = 1 := by unfold scmp val; rw [if_neg (by omega), if_pos (by omega)]
    rw [e1]; clear e1
    go_enter Try.func36, Try.ntmps36
    go_wp2
    refine wp_loop_rounds 5 ?_
    rw [rounds_succ]
    go_wp2
    go_region
    go_wp2
    go_region
    go_wp2
    go_ret
    exact ⟨rfl, by repeat (first | with_reducible exact New.refl _ | with_reducible apply New.drew | with_reducible apply New.alloc)⟩
  obtain rfl : x3 = y3 := by omega
  by_cases c2 : x2 < y2
  · have e1 : scmp (val x0 x1 x2 x3) (val y0 y1 y2 x3) = -1 := by unfold scmp val; rw [if_pos (by omega)]
    rw [e1]; clear e1
    go_enter Try.func36, Try.ntmps36
    go_wp2
    refine wp_loop_rounds 5 ?_
    iterate 1 (rw [rounds_succ]; go_wp2; go_region; go_wp2; go_region; go_wp2)
    rw [rounds_succ]
    go_wp2
    go_region
    go_wp2
    go_ret
    exact ⟨rfl, by repeat (first | with_reducible exact New.refl _ | with_reducible apply New.drew | with_reducible apply New.alloc)⟩
  by_cases d2 : y2 < x2
  · have e1 : scmp (val x0 x1 x2 x3) (val y0 y1 y2 x3) = 1 := by unfold scmp val; rw [if_neg (by omega), if_pos (by omega)]
    rw [e1]; clear e1
    go_enter Try.func36, Try.ntmps36
    go_wp2
    refine wp_loop_rounds 5 ?_
    iterate 2 (rw [rounds_succ]; go_wp2; go_region; go_wp2; go_region; go_wp2)
    go_ret
    exact ⟨rfl, by repeat (first | with_reducible exact New.refl _ | with_reducible apply New.drew | with_reducible apply New.alloc)⟩
  obtain rfl : x2 = y2 := by omega
  by_cases c1 : x1 < y1
  · have e1 : scmp (val x0 x1 x2 x3) (val y0 y1 x2 x3) = -1 := by unfold scmp val; rw [if_pos (by omega)]
    rw [e1]; clear e1
    go_enter Try.func36, Try.ntmps36
    go_wp2
    refine wp_loop_rounds 5 ?_
    iterate 2 (rw [rounds_succ]; go_wp2; go_region; go_wp2; go_region; go_wp2)
    rw [rounds_succ]
    go_wp2
    go_region
    go_wp2
    go_ret
    exact ⟨rfl, by repeat (first | with_reducible exact New.refl _ | with_reducible apply New.drew | with_reducible apply New.alloc)⟩
  by_cases d1 : y1 < x1
  · have e1 : scmp (val x0 x1 x2 x3) (val y0 y1 x2 x3) = 1 := by unfold scmp val; rw [if_neg (by omega), if_pos (by omega)]
    rw [e1]; clear e1
    go_enter Try.func36, Try.ntmps36
    go_wp2
    refine wp_loop_rounds 5 ?_
    iterate 3 (rw [rounds_succ]; go_wp2; go_region; go_wp2; go_region; go_wp2)
    go_ret
    exact ⟨rfl, by repeat (first | with_reducible exact New.refl _ | with_reducible apply New.drew | with_reducible apply New.alloc)⟩
  obtain rfl : x1 = y1 := by omega
  by_cases c0 : x0 < y0
  · have e1 : scmp (val x0 x1 x2 x3) (val y0 x1 x2 x3) = -1 := by unfold scmp val; rw [if_pos (by omega)]
    rw [e1]; clear e1
    go_enter Try.func36, Try.ntmps36
    go_wp2
    refine wp_loop_rounds 5 ?_
    iterate 3 (rw [rounds_succ]; go_wp2; go_region; go_wp2; go_region; go_wp2)
    rw [rounds_succ]
    go_wp2
    go_region
    go_wp2
    go_ret
    exact ⟨rfl, by repeat (first | with_reducible exact New.refl _ | with_reducible apply New.drew | with_reducible apply New.alloc)⟩
  by_cases d0 : y0 < x0
  · have e1 : scmp (val x0 x1 x2 x3) (val y0 x1 x2 x3) = 1 := by unfold scmp val; rw [if_neg (by omega), if_pos (by omega)]
    rw [e1]; clear e1
    go_enter Try.func36, Try.ntmps36
    go_wp2
    refine wp_loop_rounds 5 ?_
    iterate 4 (rw [rounds_succ]; go_wp2; go_region; go_wp2; go_region; go_wp2)
    go_ret
    exact ⟨rfl, by repeat (first | with_reducible exact New.refl _ | with_reducible apply New.drew | with_reducible apply New.alloc)⟩
  obtain rfl : x0 = y0 := by omega
  have e1 : scmp (val x0 x1 x2 x3) (val x0 x1 x2 x3) = 0 := by unfold scmp; rw [if_neg (by omega), if_neg (by omega)]
  rw [e1]; clear e1
  go_enter Try.func36, Try.ntmps36
  go_wp2
  refine wp_loop_rounds 5 ?_
  iterate 4 (rw [rounds_succ]; go_wp2; go_region; go_wp2; go_region; go_wp2)
  rw [rounds_succ]
  go_wp2
  go_ret
  exact ⟨rfl, by repeat (first | with_reducible exact New.refl _ | with_reducible apply New.drew | with_reducible apply New.alloc)⟩

end Go.Proofs.Ytmimhejlpejacaa.Sat
