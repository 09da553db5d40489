/-
  The error has its number; a log that can't be is none.
-/
import Derived.Test.YthgafnommcodcaaWalAlive
namespace Go.Proofs.Ythgafnommcodcaa.Wal
open Go.RowKit Go.Proofs.Ythgafnommcodcaa.Mem Go.Proofs.Ythgafnommcodcaa.Sect Go.Proofs.Ythgafnommcodcaa.Frame Go.Proofs.Ythgafnommcodcaa.Disk Go.Proofs.Ythgafnommcodcaa.Area
set_option maxRecDepth 100000

theorem names_any (w : World) : Calls Try.prog 3 #[] w fun e w' => e = .returned (.bool true) ∧ Below w.heap.size w w' := by
  have hal := fun w => alive_any w
  have hn64 := fun w => new_any 64 w
  rw [show clamp 64 = 64 by decide] at hn64
  have hn10 := fun w => new_any 10 w
  rw [show clamp 10 = 10 by decide] at hn10
  have hs1 : ∀ {B S0 W g}, Dk B S0 W g (fresh 64) → Calls Try.prog 9 #[.pointer (some ⟨g, 0, none⟩), .int .u32 1, .int .u64 1, .int .i64 2] W fun e w' => e = .returned (.tuple #[.pointer none, .int .i64 91]) ∧ w' = W := fun h => wal_Start_no h 1 1 2 (by rw [show (fresh 64).st.length = 64 by rfl]; decide) (by decide)
  have hs2 : ∀ {B S0 W g}, Dk B S0 W g (fresh 64) → Calls Try.prog 9 #[.pointer (some ⟨g, 0, none⟩), .int .u32 1, .int .u64 0, .int .i64 0] W fun e w' => e = .returned (.tuple #[.pointer none, .int .i64 81]) ∧ w' = W := fun h => wal_Start_no h 1 0 0 (by rw [show (fresh 64).st.length = 64 by rfl]; decide) (by decide)
  have hs3 : ∀ {B S0 W g}, Dk B S0 W g (fresh 10) → Calls Try.prog 10 #[.pointer (some ⟨g, 0, none⟩), .int .u32 1, .int .u64 1, .int .i64 0] W fun e w' => e = .returned (.tuple #[.slice none 0 0, .int .i64 0, .int .i64 91]) ∧ w' = W := fun h => wal_Scan_no h 1 1 0 (by rw [show (fresh 10).st.length = 10 by rfl]; decide) (by decide)
  go_enter Try.func3, Try.ntmps3
  go_wp2_with (first
    | ((with_reducible refine (hn64 _).mono ?_); rintro e w1 ⟨g, S1, rfl, hD1, hB1⟩)
    | ((with_reducible refine (hs1 hD1).mono ?_); rintro e w2 ⟨rfl, hw⟩; rw [hw]; clear hw)
    | ((with_reducible refine (hs2 hD1).mono ?_); rintro e w2 ⟨rfl, hw⟩; rw [hw]; clear hw)
    | ((with_reducible refine (hn10 _).mono ?_); rintro e w3 ⟨g3, S3, rfl, hD3, hB3⟩)
    | ((with_reducible refine (hs3 hD3).mono ?_); rintro e w4 ⟨rfl, hw⟩; rw [hw]; clear hw)
    | ((with_reducible refine (hal _).mono ?_); rintro e w5 ⟨rfl, hB5⟩))
  go_ret
  exact ⟨rfl, bnext (bnext hB1 hB3) hB5⟩
end Go.Proofs.Ythgafnommcodcaa.Wal
