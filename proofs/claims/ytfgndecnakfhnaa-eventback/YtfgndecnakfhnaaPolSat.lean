/-
  Numbers as ints, and ints as numbers: sat.Int, sat.Uint.
-/
import Derived.Test.YtfgndecnakfhnaaPolMem
namespace Go.Proofs.Ytfgndecnakfhnaa.Policy
open Go.RowKit Go.Proofs.Ytfgndecnakfhnaa.Mem Go.Proofs.Ytfgndecnakfhnaa.Addr

def sint (a : Int) : Int := if 9223372036854775807 < a then 0 else a
def fits (a : Int) : Bool := decide (a ≤ 9223372036854775807)
def suint (n : Int) : Int := if n < 0 then 0 else n
/-- sat.Int. -/
theorem int_any (a : Int) (ha : Word a) (w : World) :
    Calls Try.prog 54 #[.int .u64 a] w fun e w' => e = .returned (.tuple #[.int .i64 (sint a), .bool (fits a)]) ∧ w' = w := by
  obtain ⟨a0, a1⟩ := ha
  by_cases h : 9223372036854775807 < a
  · have e1 : sint a = 0 := by unfold sint; rw [if_pos h]
    have e2 : fits a = false := by unfold fits; simp; omega
    rw [e1, e2]
    go_enter Try.func54, Try.ntmps54
    go_wp2
    go_ret2
    exact ⟨rfl, rfl⟩
  · have e1 : sint a = a := by unfold sint; rw [if_neg h]
    have e2 : fits a = true := by unfold fits; simp; omega
    rw [e1, e2]; clear e1 e2
    go_enter Try.func54, Try.ntmps54
    go_wp2
    go_ret2
    exact ⟨rfl, rfl⟩

/-- sat.Uint. -/
theorem uint_any (n : Int) (hn : Inty n) (w : World) :
    Calls Try.prog 50 #[.int .i64 n] w fun e w' => e = .returned (.tuple #[.int .u64 (suint n), .bool (decide (0 ≤ n))]) ∧ w' = w := by
  obtain ⟨n0, n1⟩ := hn
  by_cases h : n < 0
  · have e1 : suint n = 0 := by unfold suint; rw [if_pos h]
    have e2 : decide (0 ≤ n) = false := by simp; omega
    rw [e1, e2]
    go_enter Try.func50, Try.ntmps50
    go_wp2
    go_ret2
    exact ⟨rfl, rfl⟩
  · have e1 : suint n = n := by unfold suint; rw [if_neg h]
    have e2 : decide (0 ≤ n) = true := by simp; omega
    rw [e1, e2]; clear e1 e2
    go_enter Try.func50, Try.ntmps50
    go_wp2
    go_ret2
    exact ⟨rfl, rfl⟩
end Go.Proofs.Ytfgndecnakfhnaa.Policy
