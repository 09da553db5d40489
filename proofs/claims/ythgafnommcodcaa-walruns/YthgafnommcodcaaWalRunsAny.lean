/-
  The walk of WalRuns, at whatever input.
-/
import Derived.Test.YthgafnommcodcaaWalRuns
import Derived.Test.YthgafnommcodcaaWalRunsEdge
namespace Go.Proofs.Ythgafnommcodcaa.Wal
open Go.RowKit Go.Proofs.Ythgafnommcodcaa.Mem Go.Proofs.Ythgafnommcodcaa.Sect Go.Proofs.Ythgafnommcodcaa.Frame Go.Proofs.Ythgafnommcodcaa.Disk Go.Proofs.Ythgafnommcodcaa.Area

theorem chk_vals (n k : Int) (s : Nat) : chk n k s = 0 ∨ chk n k s = 91 ∨ chk n k s = 81 := by
  unfold chk
  split
  · split
    · exact .inr (.inr rfl)
    · exact .inl rfl
  · exact .inr (.inl rfl)
theorem runs_any (x y0 y1 : Int) (q0 : Option Addr) (n0 c0 : Nat) (xs : List Ac) (hx : Inty x) (hy0 : Word y0) (hy1 : Word y1) (l : xs.length = n0) (w : World) (ra : RK ac w q0 c0 xs) (oa : ∀ a ∈ xs, AcOk w a ∧ Byte a.2.2.1) :
    Calls Try.prog 4 #[.int .i64 x, .agg #[.int .u64 y0, .int .u64 y1], .slice q0 n0 c0] w fun e w' => e = .returned (.bool true) ∧ Below w.heap.size w w' := by
  by_cases h : 140 < x ∨ 60 < n0 ∨ 100 < y1
  · exact runs_high x y0 y1 q0 n0 c0 w h
  · obtain ⟨s0, hs0⟩ := Int.eq_ofNat_of_zero_le hy0.1
    rcases chk_vals (clamp x : Int) (y1 - 1) s0 with hE | hE | hE
    · obtain ⟨st, hst⟩ := chk_nat hE
      rw [hst] at hE
      exact runs_walk x y0 y1 q0 n0 c0 xs w hx hy0 hy1 l ra oa (fun q => h (.inl q)) (fun q => h (.inr (.inl q))) (fun q => h (.inr (.inr q))) (clamp x) rfl st hst.symm s0 hs0.symm hE
    · exact runs_none x y0 y1 q0 n0 c0 w hy0 hy1 (fun q => h (.inl q)) (fun q => h (.inr (.inl q))) (fun q => h (.inr (.inr q))) (clamp x) rfl s0 hs0.symm hE (.inl rfl)
    · exact runs_none x y0 y1 q0 n0 c0 w hy0 hy1 (fun q => h (.inl q)) (fun q => h (.inr (.inl q))) (fun q => h (.inr (.inr q))) (clamp x) rfl s0 hs0.symm hE (.inr rfl)
end Go.Proofs.Ythgafnommcodcaa.Wal
