/-
  The chapter's examples of layer 2 hold.
-/
import Derived.Test.YtcbhenjfjncddaaLebSmall
namespace Go.Proofs.Ytcbhenjfjncddaa.Leb
open Go.RowKit

theorem put_300 : put 300 = [172, 2] := by rw [put_big (by decide), put_small (by decide)]; rfl
theorem get_300 : lget [172, 2, 9] = (300, 2, 0) := by
  have := lget_put (n := 300) ⟨by decide, by decide⟩ [9]
  rw [put_300] at this
  exact this
theorem zig_one : zig (-1) = 1 := by decide
theorem zag_one : zag 1 = -1 := by decide

theorem alive_any (w : World) : Calls Try.prog 10 #[] w fun e w' => e = .returned (.bool true) ∧ Below w.heap.size w w' := by
  have h0 : Reads .u8 (w.alloc (.cells #[.int .u8 172, .int .u8 2, .int .u8 9] 5)) (some ⟨w.heap.size, 0, none⟩) 3 [172, 2, 9] := lit_reads rfl rfl (by decide)
  have hg := get_any (some ⟨w.heap.size, 0, none⟩) 3 3 [172, 2, 9] rfl (by intro c hc; simp at hc; rcases hc with rfl | rfl | rfl <;> exact ⟨by decide, by decide⟩) _ h0
  rw [get_300] at hg
  unfold three at hg
  simp only at hg
  have hp := fun w => put_any 300 ⟨by decide, by decide⟩ w
  rw [put_300] at hp
  have hz := fun w => zig_any (-1) ⟨by decide, by decide⟩ w
  rw [zig_one] at hz
  have hy := fun w => zag_any 1 ⟨by decide, by decide⟩ w
  rw [zag_one] at hy
  have hs : str [172, 2] = ⟨#[172, 2]⟩ := rfl
  clear h0
  go_enter Try.func10, Try.ntmps10
  go_wp2_with (first
    | (go_at_call 9; refine hg.mono ?_; rintro e w1 ⟨rfl, hb1⟩)
    | (go_at_call 14; refine (hp _).mono ?_; rintro e w2 ⟨g, cp, rfl, hr2, hb2⟩; have hcv := conv hr2 rfl; rw [hs] at hcv; simp only [List.length_cons, List.length_nil, Nat.zero_add, Nat.reduceAdd] at hcv)
    | (go_at_call 20; refine (hz _).mono ?_; rintro e w3 ⟨rfl, rfl⟩)
    | (go_at_call 22; refine (hy _).mono ?_; rintro e w4 ⟨rfl, rfl⟩))
  go_ret
  exact ⟨rfl, bnext (bnext (bnew w _) hb1) hb2⟩
end Go.Proofs.Ytcbhenjfjncddaa.Leb
