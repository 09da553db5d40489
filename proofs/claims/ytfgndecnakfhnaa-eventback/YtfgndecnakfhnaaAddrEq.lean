/-
  When two addresses, or two networks, are the same.
-/
import Derived.Test.YtfgndecnakfhnaaAddrBase
import Derived.ChangeKeysEq
import Derived.Laws.StructEq
namespace Go.Proofs.Ytfgndecnakfhnaa.Addr
open Go.RowKit Go.Proofs.Ytfgndecnakfhnaa.Mem

theorem cells_u8 : Try.prog.cellsOf 5 = 1 := by kernel_rfl
theorem info_u8 : ∃ i, Try.prog.info? 5 = some i := Option.isSome_iff_exists.1 (by kernel_rfl)
theorem eq4 (d : Nat) (v0 v1 v2 v3 u0 u1 u2 u3 : Int) (w : World) :
    (Op.equalIn (d + 2) 50 (.agg #[.int .u8 v0, .int .u8 v1, .int .u8 v2, .int .u8 v3]) (.agg #[.int .u8 u0, .int .u8 u1, .int .u8 u2, .int .u8 u3])).run Try.prog w = .ok (v0 == u0 && v1 == u1 && v2 == u2 && v3 == u3) w := by
  obtain ⟨i, hi⟩ := info_u8
  rw [run_equalIn_array w (d + 1) _ _ Try.underlying50 hi, cells_u8]
  have r : List.range 4 = [0, 1, 2, 3] := rfl
  rw [r]
  simp only [Op.eqItems]
  simp [go_sem, part, Try.sizeOf5, Try.isAgg5]
  by_cases h0 : v0 = u0 <;> by_cases h1 : v1 = u1 <;> by_cases h2 : v2 = u2 <;> by_cases h3 : v3 = u3 <;> simp [h0, h1, h2, h3]
theorem eq_bytes {N M : Nat} (hN : N < 4294967296) (hM : M < 4294967296) :
    (((b0 N : Nat) : Int) == ((b0 M : Nat) : Int) && ((b1 N : Nat) : Int) == ((b1 M : Nat) : Int) && ((b2 N : Nat) : Int) == ((b2 M : Nat) : Int) && ((b3 N : Nat) : Int) == ((b3 M : Nat) : Int)) = decide (N = M) := by
  by_cases h : N = M
  · subst h; simp
  · rw [decide_eq_false h]
    simp only [Bool.and_eq_false_iff, beq_eq_false_iff_ne, ne_eq, Int.natCast_inj]
    by_cases h0 : b0 N = b0 M
    · by_cases h1 : b1 N = b1 M
      · by_cases h2 : b2 N = b2 M
        · exact Or.inr fun h3 => h (bytes_inj hN hM h0 h1 h2 h3)
        · exact Or.inl (Or.inr h2)
      · exact Or.inl (Or.inl (Or.inr h1))
    · exact Or.inl (Or.inl (Or.inl h0))
theorem eq_adr {N M : Nat} (hN : N < 4294967296) (hM : M < 4294967296) (w : World) : (Op.equalIn 10000 50 (adr N) (adr M)).run Try.prog w = .ok (decide (N = M)) w := by
  unfold adr
  rw [eq4 9998, eq_bytes hN hM]
theorem stood_net : Try.prog.stoodInHeld 52 = false := by kernel_rfl
theorem eq_net {N M : Nat} {b c : Int} (hN : N < 4294967296) (hM : M < 4294967296) (w : World) : (Op.equalIn 10000 52 (net N b) (net M c)).run Try.prog w = .ok (decide (N = M) && decide (b = c)) w := by
  unfold net
  have hf : Try.prog.underlying 52 = some (.struct (Try.prog.fieldsOf 52)) := by simp [Program.fieldsOf, Try.underlying52]
  rw [run_equalIn_struct w 9999 _ _ _ hf stood_net]
  have e := eq_bytes hN hM
  have e4 := eq4 9997 (b0 N) (b1 N) (b2 N) (b3 N) (b0 M) (b1 M) (b2 M) (b3 M) w
  rw [e] at e4
  simp [Program.fieldsOf, Try.underlying52, Op.eqFields, part, Try.isAgg50, Try.sizeOf50, Try.isAgg3, go_sem, e4]
  by_cases h : N = M <;> by_cases h2 : b = c <;> simp [h, h2]
end Go.Proofs.Ytfgndecnakfhnaa.Addr
