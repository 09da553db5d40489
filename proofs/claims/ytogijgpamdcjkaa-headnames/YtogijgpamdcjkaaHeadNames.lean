/-
  The errors and the limits have their numbers; the sum of any bytes.
-/
import Derived.Test.YtogijgpamdcjkaaHeadAlive
namespace Go.Proofs.Ytogijgpamdcjkaa.Head
open Go.RowKit Go.Proofs.Ytogijgpamdcjkaa.Mem

theorem zero_bytes (n : Nat) : ∀ c ∈ List.replicate n (0 : Int), Byte c := by
  intro c hc
  rw [List.eq_of_mem_replicate hc]
  exact ⟨by decide, by decide⟩
theorem fault_none : faultE [] = 51 := by decide
theorem fault_zeros : faultE (List.replicate 20 0) = 52 := by decide
def badH : Hd := ⟨256, 0, 0, 0, 0, 0, 0, 0, 0, 0, 0, 0, 0⟩
set_option maxHeartbeats 1000000 in
theorem names_any (w : World) : Calls Try.prog 3 #[] w fun e w' => e = .returned (.bool true) ∧ Below w.heap.size w w' := by
  obtain ⟨i0, hi, hz0, hz1, hz2⟩ := info_parts info_byte
  have ha := fun w => alive_any w
  have h1 := read_err none 0 0 [] rfl no_bytes (by omega) 51 fault_none (by decide) w (Reads.nil _ _)
  have h2 := fun g W r => read_err (some ⟨g, 0, none⟩) 20 20 (List.replicate 20 0) rfl (zero_bytes 20) (by omega) 52 fault_zeros (by decide) W r
  have h3 := fun W => make_wrong badH none 0 0 none 0 0 (by omega) (by decide) W
  simp only [badH] at h3
  have hmk := fun W => run_make_blk (P := Try.prog) W 24 5 i0 .u8 Try.underlying24 hi hz0 hz1 hz2 20 (by omega)
  go_enter Try.func3, Try.ntmps3
  go_wp2_with (go_at_call 9; refine h1.mono ?_)
  rintro e w1 ⟨rfl, hb1⟩
  obtain ⟨w2, hm2, B2, G2⟩ := hmk (w1.alloc (.cells #[.int .i64 0, .int .i64 0, .int .i64 0, .int .i64 0, .int .i64 0, .int .u8 0, .int .u8 0, .int .u8 0, .int .u8 0, .int .u8 0, .int .u8 0, .int .u8 0, .int .u8 0, .slice none 0 0] 26))
  have hb2 : Below (w1.alloc (.cells #[.int .i64 0, .int .i64 0, .int .i64 0, .int .i64 0, .int .i64 0, .int .u8 0, .int .u8 0, .int .u8 0, .int .u8 0, .int .u8 0, .int .u8 0, .int .u8 0, .int .u8 0, .slice none 0 0] 26)).heap.size (w1.alloc (.cells #[.int .i64 0, .int .i64 0, .int .i64 0, .int .i64 0, .int .i64 0, .int .u8 0, .int .u8 0, .int .u8 0, .int .u8 0, .int .u8 0, .int .u8 0, .int .u8 0, .int .u8 0, .slice none 0 0] 26)) w2 := (Below.refl _ _).grown G2 (Nat.le_refl _) (by simp)
  have r2 := Blk.reads B2 (by simp)
  rw [World.size_alloc] at hm2 r2
  replace hm2 : (Instr.makeSlice 24 (.int .i64 20) (.int .i64 20)).run Try.prog _ = _ := hm2
  have h2' := h2 _ _ r2
  clear h1 h2 hmk G2 B2
  go_wp2_with (go_at_call 9; refine h2'.mono ?_)
  rintro e w3 ⟨rfl, hb3⟩
  go_wp2_with (first
    | (go_at_call 10; refine (h3 _).mono ?_; rintro e w4 ⟨rfl, hb4⟩)
    | (go_at_call 11; refine (ha _).mono ?_; rintro e w5 ⟨rfl, hb5⟩))
  go_ret
  exact ⟨rfl, bnext (bnext (bal (bnext (bnext (bal hb1 _) hb2) hb3) _) hb4) hb5⟩
end Go.Proofs.Ytogijgpamdcjkaa.Head
