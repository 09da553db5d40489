/-
  RouteNames, walked.
-/
import Derived.Test.YtdpigcfchjpofaaRouteAlive
namespace Go.Proofs.Ytdpigcfchjpofaa.Route
open Go.RowKit Go.Maps Go.Proofs.Ytdpigcfchjpofaa.Mem Go.Proofs.Ytdpigcfchjpofaa.Addr

theorem names_Set1 {W : World} {g b : Nat} (h : TabAt W g b []) :
    Calls Try.prog 9 #[.pointer (some ⟨g, 0, none⟩), .agg #[.int .u8 0, .int .u8 0, .int .u8 0, .int .u8 0, .int .i64 33], .int .i64 1] W fun e w' => e = .returned (.int .i64 61) ∧ TabAt w' g b [] ∧ W.grownBy w' (some b) := by
  have h1 := route_Set h (r := (0, 33, 1)) (ok_lit (by decide) (by decide) (by decide)) (by decide)
  have e1 : setE [] (0, 33, 1) = 61 := by decide +kernel
  have e2 : setM [] (0, 33, 1) = [] := by decide +kernel
  rw [e1, e2] at h1
  exact h1
theorem names_Set2 {W : World} {g b : Nat} (h : TabAt W g b []) :
    Calls Try.prog 9 #[.pointer (some ⟨g, 0, none⟩), .agg #[.int .u8 0, .int .u8 0, .int .u8 0, .int .u8 0, .int .i64 0], .int .i64 (-1)] W fun e w' => e = .returned (.int .i64 61) ∧ TabAt w' g b [] ∧ W.grownBy w' (some b) := by
  have h1 := route_Set h (r := (0, 0, -1)) (ok_lit (by decide) (by decide) (by decide)) (by decide)
  have e1 : setE [] (0, 0, -1) = 61 := by decide +kernel
  have e2 : setM [] (0, 0, -1) = [] := by decide +kernel
  rw [e1, e2] at h1
  exact h1
theorem names_Len {W : World} {g b : Nat} (h : TabAt W g b []) : Calls Try.prog 11 #[.pointer (some ⟨g, 0, none⟩)] W fun e w' => e = .returned (.int .i64 0) ∧ w' = W := route_Len h
set_option maxRecDepth 100000 in
theorem names_walk (w : World) : Calls Try.prog 3 #[] w fun e w' => e = .returned (.bool true) ∧ Below w.heap.size w w' := by
  go_enter Try.func3, Try.ntmps3
  go_wp2_with (first
    | (go_at_call 8; refine (route_New _).mono ?_; rintro e w1 ⟨g, b, rfl, hT1, hg1, hb1, hbel1⟩)
    | ((with_reducible refine (names_Set1 hT1).mono ?_); rintro e w2 ⟨rfl, hT2, hg2⟩; have hbel2 := below_turn hbel1 hg2 hbel1.size hb1)
    | ((with_reducible refine (names_Set2 hT2).mono ?_); rintro e w3 ⟨rfl, hT3, hg3⟩; have hbel3 := below_turn hbel2 hg3 hbel2.size hb1)
    | (go_at_call 10; refine (alive_any _).mono ?_; rintro e w4 ⟨rfl, hb4⟩; have hT4 := hT3.below hb4)
    | ((with_reducible refine (names_Len hT4).mono ?_); rintro e w5 ⟨rfl, rfl⟩))
  go_ret
  exact ⟨rfl, bnext hbel3 hb4⟩
end Go.Proofs.Ytdpigcfchjpofaa.Route
