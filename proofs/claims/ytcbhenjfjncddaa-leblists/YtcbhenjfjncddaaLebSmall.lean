/-
  What package leb's Size, Zig and Zag give, and the chapter's examples.
-/
import Derived.Test.YtcbhenjfjncddaaLebGet
import Derived.Laws.BitsAllLaws
namespace Go.Proofs.Ytcbhenjfjncddaa.Leb
open Go.RowKit

/-- sat.Log. -/
theorem log_any (a : Int) (ha : Word a) (w : World) :
    Calls Try.prog 24 #[.int .u64 a] w fun e w' => e = .returned (.int .i64 (slog a)) ∧ w' = w := by
  obtain ⟨a0, a1⟩ := ha
  unfold slog
  go_enter Try.func24, Try.ntmps24
  go_wp2_with (go_at_call 27; refine (Try.bits_Len64 a _ a0 a1).mono ?_; rintro e w' ⟨rfl, rfl⟩)
  go_ret
  exact ⟨rfl, rfl⟩

/-- leb.Size. -/
theorem size_any (n : Int) (hn : Word n) (w : World) :
    Calls Try.prog 11 #[.int .u64 n] w fun e w' => e = .returned (.int .i64 ((put n).length : Int)) ∧ w' = w := by
  rw [← size_put hn]
  obtain ⟨l0, l1⟩ := slog_le hn
  unfold size
  go_enter Try.func11, Try.ntmps11
  go_wp2_with (go_at_call 24; refine (log_any n hn _).mono ?_; rintro e w' ⟨rfl, rfl⟩)
  go_ret
  exact ⟨ret_int (by omega), rfl⟩

/-- All bits turned round. -/
theorem not_u64 (x : Int) (h : Word x) : bits .xor .u64 18446744073709551615 x = 18446744073709551615 - x := by
  obtain ⟨h0, h1⟩ := h
  obtain ⟨X, rfl⟩ := Int.eq_ofNat_of_zero_le h0
  have e : BitVec.ofInt 64 18446744073709551615 = BitVec.allOnes 64 := by decide
  show IntKind.u64.wrap ((BitVec.ofInt 64 18446744073709551615 ^^^ BitVec.ofInt 64 (X : Int)).toNat : Int) = _
  rw [e, BitVec.allOnes_xor, BitVec.toNat_not, BitVec.ofInt_natCast, BitVec.toNat_ofNat, IntKind.wrap_u64]
  omega
theorem not_i64 (x : Int) (h0 : 0 ≤ x) (h1 : x ≤ 9223372036854775807) : bits .xor .i64 (-1) x = -x - 1 := by
  obtain ⟨X, rfl⟩ := Int.eq_ofNat_of_zero_le h0
  have e : BitVec.ofInt 64 (-1) = BitVec.allOnes 64 := by decide
  show IntKind.i64.wrap ((BitVec.ofInt 64 (-1) ^^^ BitVec.ofInt 64 (X : Int)).toNat : Int) = _
  rw [e, BitVec.allOnes_xor, BitVec.toNat_not, BitVec.ofInt_natCast, BitVec.toNat_ofNat, IntKind.wrap_i64]
  omega
theorem max_u64 : IntKind.u64.max = 18446744073709551615 := by decide

/-- leb.Zig. -/
theorem zig_any (n : Int) (hn : Inty n) (w : World) :
    Calls Try.prog 20 #[.int .i64 n] w fun e w' => e = .returned (.int .u64 (zig n)) ∧ w' = w := by
  obtain ⟨n0, n1⟩ := hn
  by_cases h : n < 0
  · go_enter Try.func20, Try.ntmps20
    go_wp2_with fail
    go_ret
    refine ⟨ret_int ?_, rfl⟩
    rw [max_u64, IntKind.wrap_u64, IntKind.wrap_u64, not_u64 _ ⟨by omega, by omega⟩]
    unfold zig
    rw [if_pos (by omega)]
    omega
  · go_enter Try.func20, Try.ntmps20
    go_wp2_with fail
    go_ret
    exact ⟨ret_int (by unfold zig; rw [if_neg (by omega)]; omega), rfl⟩

/-- leb.Zag. -/
theorem zag_any (u : Int) (hu : Word u) (w : World) :
    Calls Try.prog 22 #[.int .u64 u] w fun e w' => e = .returned (.int .i64 (zag u)) ∧ w' = w := by
  obtain ⟨u0, u1⟩ := hu
  have hand : bits .and .u64 u 1 = u % 2 := bits_mask .u64 64 (by decide) wraps_u64 1 (by decide) u u0 (by omega)
  by_cases h : u % 2 = 1
  · have h1 : (u % 2 == 1) = true := by simpa using h
    go_enter Try.func22, Try.ntmps22
    go_wp2_with fail
    go_ret
    refine ⟨ret_int ?_, rfl⟩
    rw [not_i64 _ (by omega) (by omega)]
    unfold zag
    rw [if_pos (by omega)]
  · have h1 : (u % 2 == 1) = false := by simpa using h
    go_enter Try.func22, Try.ntmps22
    go_wp2_with fail
    go_ret
    exact ⟨ret_int (by unfold zag; rw [if_neg (by omega)]), rfl⟩
end Go.Proofs.Ytcbhenjfjncddaa.Leb
