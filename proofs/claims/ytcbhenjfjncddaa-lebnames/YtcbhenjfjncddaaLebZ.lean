/-
  The walks of LebNames and LebZigs: each returns true, whatever its arguments, and no memory that was there has turned.
-/
import Derived.Test.YtcbhenjfjncddaaLebAlive
namespace Go.Proofs.Ytcbhenjfjncddaa.Leb
open Go.RowKit

/-- The document's Zig. -/
theorem refZig_any (n : Int) (hn : Inty n) (w : World) :
    Calls Try.prog 21 #[.int .i64 n] w fun e w' => e = .returned (.int .u64 (zig n)) ∧ w' = w := by
  obtain ⟨n0, n1⟩ := hn
  by_cases h : n < 0
  · go_enter Try.func21, Try.ntmps21
    go_wp2_with fail
    go_ret
    exact ⟨ret_int (by unfold zig; rw [if_pos (by omega)]; omega), rfl⟩
  · go_enter Try.func21, Try.ntmps21
    go_wp2_with fail
    go_ret
    exact ⟨ret_int (by unfold zig; rw [if_neg (by omega)]), rfl⟩

theorem zigs_any (n u : Int) (hn : Inty n) (hu : Word u) (w : World) :
    Calls Try.prog 6 #[.int .i64 n, .int .u64 u] w fun e w' => e = .returned (.bool true) ∧ Below w.heap.size w w' := by
  have h1 := zig_word hn
  have h2 := zag_inty hu
  have h3 := zag_zig n
  have h4 := zig_zag hu.1
  go_enter Try.func6, Try.ntmps6
  go_wp2_with (first
    | (go_at_call 10; refine (alive_any _).mono ?_; rintro e w1 ⟨rfl, hb1⟩)
    | (go_at_call 20; refine (zig_any _ ?_ _).mono ?_; assumption; rintro e w2 ⟨rfl, rfl⟩)
    | (go_at_call 21; refine (refZig_any _ ?_ _).mono ?_; assumption; rintro e w2 ⟨rfl, rfl⟩)
    | (go_at_call 22; refine (zag_any _ ?_ _).mono ?_; assumption; rintro e w2 ⟨rfl, rfl⟩))
  go_ret
  exact ⟨rfl, by assumption⟩

theorem names_any (w : World) : Calls Try.prog 3 #[] w fun e w' => e = .returned (.bool true) ∧ Below w.heap.size w w' := by
  have h0 : Reads .u8 (w.alloc (.cells #[.int .u8 128, .int .u8 0] 5)) (some ⟨w.heap.size, 0, none⟩) 2 [128, 0] := lit_reads rfl rfl (by decide)
  have hg := get_any (some ⟨w.heap.size, 0, none⟩) 2 2 [128, 0] rfl (by intro c hc; simp at hc; rcases hc with rfl | rfl <;> exact ⟨by decide, by decide⟩) _ h0
  have e1 : lget [128, 0] = (0, 0, 21) := by
    have e2 : put 0 = [0] := put_small (by decide)
    simp [lget, lead, gotOf, val, e2]
  rw [e1] at hg
  unfold three at hg
  simp only at hg
  have hn := fun w => get_none none 0 w
  unfold three at hn
  simp only at hn
  have s0 := fun w => size_any 0 ⟨by decide, by decide⟩ w
  have s1 := fun w => size_any 18446744073709551615 ⟨by decide, by decide⟩ w
  have l0 : ((put 0).length : Int) = 1 := by rw [put_small (by decide)]; rfl
  have l1 : ((put 18446744073709551615).length : Int) = 10 := by rw [← size_put ⟨by decide, by decide⟩]; decide
  rw [l0] at s0
  rw [l1] at s1
  clear h0 e1 l0 l1
  go_enter Try.func3, Try.ntmps3
  go_wp2_with (first
    | (go_at_call 10; refine (alive_any _).mono ?_; rintro e w3 ⟨rfl, hb3⟩)
    | (go_at_call 9; first | (with_reducible refine hg.mono ?_; rintro e w1 ⟨rfl, hb1⟩) | (with_reducible refine (hn _).mono ?_; rintro e w2 ⟨rfl, hb2⟩))
    | (go_at_call 11; first | (with_reducible refine (s0 _).mono ?_; rintro e w4 ⟨rfl, rfl⟩) | (with_reducible refine (s1 _).mono ?_; rintro e w4 ⟨rfl, rfl⟩)))
  go_ret
  exact ⟨rfl, bnext (bnext (bnext (bnew w _) hb1) hb2) (by assumption)⟩
end Go.Proofs.Ytcbhenjfjncddaa.Leb
