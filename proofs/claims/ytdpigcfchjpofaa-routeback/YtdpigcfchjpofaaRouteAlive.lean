/-
  The chapter's example: the statement's own first question.
-/
import Derived.Test.YtdpigcfchjpofaaRouteTab
import Derived.Test.YtdpigcfchjpofaaRouteFind
namespace Go.Proofs.Ytdpigcfchjpofaa.Route
open Go.RowKit Go.Maps Go.Proofs.Ytdpigcfchjpofaa.Mem Go.Proofs.Ytdpigcfchjpofaa.Addr

def r1 : Rt := (167772160, 8, 1)
def r2 : Rt := (167837696, 16, 2)
theorem ok_lit {N : Nat} {b c : Int} (h1 : N < 4294967296) (h2 : -9223372036854775808 ≤ b ∧ b ≤ 9223372036854775807) (h3 : -9223372036854775808 ≤ c ∧ c ≤ 9223372036854775807) : ROk (N, b, c) := ⟨⟨h1, h2⟩, h3⟩
theorem alive_Set1 {W : World} {g b : Nat} (h : TabAt W g b []) :
    Calls Try.prog 9 #[.pointer (some ⟨g, 0, none⟩), .agg #[.int .u8 10, .int .u8 0, .int .u8 0, .int .u8 0, .int .i64 8], .int .i64 1] W fun e w' => e = .returned (.int .i64 0) ∧ TabAt w' g b [r1] ∧ W.grownBy w' (some b) := by
  have h1 := route_Set h (r := r1) (ok_lit (by decide) (by decide) (by decide)) (by decide)
  have e1 : setE [] r1 = 0 := by decide +kernel
  have e2 : setM [] r1 = [r1] := by decide +kernel
  rw [e1, e2] at h1
  exact h1
theorem alive_Set2 {W : World} {g b : Nat} (h : TabAt W g b [r1]) :
    Calls Try.prog 9 #[.pointer (some ⟨g, 0, none⟩), .agg #[.int .u8 10, .int .u8 1, .int .u8 0, .int .u8 0, .int .i64 16], .int .i64 2] W fun e w' => e = .returned (.int .i64 0) ∧ TabAt w' g b [r1, r2] ∧ W.grownBy w' (some b) := by
  have h1 := route_Set h (r := r2) (ok_lit (by decide) (by decide) (by decide)) (by decide)
  have e1 : setE [r1] r2 = 0 := by decide +kernel
  have e2 : setM [r1] r2 = [r1, r2] := by decide +kernel
  rw [e1, e2] at h1
  exact h1
theorem alive_Find1 {W : World} {g b : Nat} (h : TabAt W g b [r1, r2]) :
    Calls Try.prog 15 #[.pointer (some ⟨g, 0, none⟩), .agg #[.int .u8 10, .int .u8 1, .int .u8 2, .int .u8 3]] W fun e w' => e = .returned (.tuple #[.agg #[.int .u8 10, .int .u8 1, .int .u8 0, .int .u8 0, .int .i64 16, .int .i64 2], .bool true]) ∧ Below W.heap.size W w' := by
  have h1 := route_Find h (A := 167838211) (by decide)
  have e1 : findM [r1, r2] 167838211 = some r2 := by decide +kernel
  rw [e1] at h1
  exact h1
theorem alive_Find2 {W : World} {g b : Nat} (h : TabAt W g b [r1, r2]) :
    Calls Try.prog 15 #[.pointer (some ⟨g, 0, none⟩), .agg #[.int .u8 10, .int .u8 2, .int .u8 2, .int .u8 3]] W fun e w' => e = .returned (.tuple #[.agg #[.int .u8 10, .int .u8 0, .int .u8 0, .int .u8 0, .int .i64 8, .int .i64 1], .bool true]) ∧ Below W.heap.size W w' := by
  have h1 := route_Find h (A := 167903747) (by decide)
  have e1 : findM [r1, r2] 167903747 = some r1 := by decide +kernel
  rw [e1] at h1
  exact h1
theorem alive_Find3 {W : World} {g b : Nat} (h : TabAt W g b [r1, r2]) :
    Calls Try.prog 15 #[.pointer (some ⟨g, 0, none⟩), .agg #[.int .u8 11, .int .u8 0, .int .u8 0, .int .u8 0]] W fun e w' => e = .returned (.tuple #[.agg #[.int .u8 0, .int .u8 0, .int .u8 0, .int .u8 0, .int .i64 0, .int .i64 0], .bool false]) ∧ Below W.heap.size W w' := by
  have h1 := route_Find h (A := 184549376) (by decide)
  have e1 : findM [r1, r2] 184549376 = none := by decide +kernel
  rw [e1] at h1
  exact h1
theorem alive_Len {W : World} {g b : Nat} (h : TabAt W g b [r1, r2]) : Calls Try.prog 11 #[.pointer (some ⟨g, 0, none⟩)] W fun e w' => e = .returned (.int .i64 2) ∧ w' = W := route_Len h
set_option maxRecDepth 100000 in
theorem alive_any (w : World) : Calls Try.prog 10 #[] w fun e w' => e = .returned (.bool true) ∧ Below w.heap.size w w' := by
  go_enter Try.func10, Try.ntmps10
  go_wp2_with (first
    | (go_at_call 8; refine (route_New _).mono ?_; rintro e w1 ⟨g, b, rfl, hT1, hg1, hb1, hbel1⟩)
    | ((with_reducible refine (alive_Set1 hT1).mono ?_); rintro e w2 ⟨rfl, hT2, hg2⟩; have hbel2 := below_turn hbel1 hg2 hbel1.size hb1)
    | ((with_reducible refine (alive_Set2 hT2).mono ?_); rintro e w3 ⟨rfl, hT3, hg3⟩; have hbel3 := below_turn hbel2 hg3 hbel2.size hb1)
    | ((with_reducible refine (alive_Find1 hT3).mono ?_); rintro e w4 ⟨rfl, hb4⟩; have hT4 := (hT3.below hb4).below (bnew _ (.cells #[.int .u8 10, .int .u8 1, .int .u8 0, .int .u8 0, .int .i64 16, .int .i64 2] 42)); have k4 := Blk.new w4 #[.int .u8 10, .int .u8 1, .int .u8 0, .int .u8 0, .int .i64 16, .int .i64 2] 42)
    | ((with_reducible refine (alive_Find2 hT4).mono ?_); rintro e w5 ⟨rfl, hb5⟩; have hT5 := (hT4.below hb5).below (bnew _ (.cells #[.int .u8 10, .int .u8 0, .int .u8 0, .int .u8 0, .int .i64 8, .int .i64 1] 42)); have k5 := Blk.new w5 #[.int .u8 10, .int .u8 0, .int .u8 0, .int .u8 0, .int .i64 8, .int .i64 1] 42; have k45 := (k4.below hb5).alloc (.cells #[.int .u8 10, .int .u8 0, .int .u8 0, .int .u8 0, .int .i64 8, .int .i64 1] 42))
    | ((with_reducible refine (alive_Find3 hT5).mono ?_); rintro e w6 ⟨rfl, hb6⟩; have hT6 := (hT5.below hb6).below (bnew _ (.cells #[.int .u8 0, .int .u8 0, .int .u8 0, .int .u8 0, .int .i64 0, .int .i64 0] 42)); have k46 := ((k45.below hb6).alloc (.cells #[.int .u8 0, .int .u8 0, .int .u8 0, .int .u8 0, .int .i64 0, .int .i64 0] 42)).cell; have k56 := ((k5.below hb6).alloc (.cells #[.int .u8 0, .int .u8 0, .int .u8 0, .int .u8 0, .int .i64 0, .int .i64 0] 42)).cell)
    | ((with_reducible refine (alive_Len hT6).mono ?_); rintro e w7 ⟨rfl, rfl⟩))
  go_ret
  exact ⟨rfl, (bnext (bal (bnext (bal (bnext hbel3 hb4) _) hb5) _) hb6).alloc (Nat.le_trans hbel3.size (Nat.le_trans hb4.size (Nat.le_trans (bnew w4 _).size (Nat.le_trans hb5.size (Nat.le_trans (bnew w5 _).size hb6.size))))) _⟩
end Go.Proofs.Ytdpigcfchjpofaa.Route
