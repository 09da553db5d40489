/-
  The chapter's examples of layer 3 hold.
-/
import Derived.Test.YtfpgcebphfpkiaaCrcOf
import Derived.Lib.SlBytesConst
namespace Go.Proofs.Ytfpgcebphfpkiaa.Crc
open Go.RowKit Go.Proofs.Ytfpgcebphfpkiaa.Mem

/-- A slice that is typed out as a string of letters. -/
theorem const_reads {e : TypeId} {w : World} {cs : Array Value} {fr : Nat × Nat} {n : Nat} {zs : List Int} (hcs : cs = (zs.map (Value.int .u8)).toArray) (hn : n = zs.length) (hl : zs.length ≤ 1000) :
    Reads .u8 (w.alloc (.cells cs e fr)) (some ⟨w.heap.size, 0, none⟩) n zs := by
  subst hcs hn
  refine ⟨Nat.le_refl _, by unfold maxLen; omega, fun h => by simp at h, fun _ => ⟨_, _, rfl, by simp, fun i hi => ?_⟩⟩
  have hh := heap_alloc_new w (.cells (zs.map (Value.int .u8)).toArray e fr)
  rw [Nat.zero_add, World.cell?, hh]
  simp [hi]
def digits : List Int := [49, 50, 51, 52, 53, 54, 55, 56, 57]
theorem digits_sum : enc (sum digits) = 4236843288 := by decide +kernel
theorem digits_byte : ∀ c ∈ digits, Byte c := by
  intro c hc
  simp only [digits, List.mem_cons, List.not_mem_nil, or_false] at hc
  rcases hc with rfl | rfl | rfl | rfl | rfl | rfl | rfl | rfl | rfl <;> exact ⟨by decide, by decide⟩
theorem sealed_none : sealed [] = [0, 0, 0, 0] := by decide +kernel
theorem alive_any (w : World) : Calls Try.prog 6 #[] w fun e w' => e = .returned (.bool true) ∧ Below w.heap.size w w' := by
  have h9 : Reads .u8 (w.alloc (.cells #[.int .u8 49, .int .u8 50, .int .u8 51, .int .u8 52, .int .u8 53, .int .u8 54, .int .u8 55, .int .u8 56, .int .u8 57] 5 (9, 10))) (some ⟨w.heap.size, 0, none⟩) 9 digits := const_reads rfl rfl (by decide)
  have hO9 := crc_Of_one (some ⟨w.heap.size, 0, none⟩) 9 9 digits rfl digits_byte _ h9 (w.heap.size + 1) (by simp)
  rw [digits_sum] at hO9
  have hS := fun w => crc_Seal none 0 0 [] rfl (by intro c hc; cases hc) (by omega) w (Reads.nil _ _)
  rw [sealed_none] at hS
  have hs : str [0, 0, 0, 0] = ⟨#[0, 0, 0, 0]⟩ := rfl
  have h5 : ∀ (w : World) (g : Nat), w.heap.size = g → Calls Try.prog 9 #[.int .u32 (enc (sum [49, 50, 51, 52])), .slice (some ⟨g, 0, none⟩) 5 5] (w.alloc (.cells #[.int .u8 53, .int .u8 54, .int .u8 55, .int .u8 56, .int .u8 57] 5 (5, 6))) fun e w' => e = .returned (.int .u32 4236843288) ∧ w' = w.alloc (.cells #[.int .u8 53, .int .u8 54, .int .u8 55, .int .u8 56, .int .u8 57] 5 (5, 6)) := by
    intro w g hg
    subst hg
    have h := crc_More (sum [49, 50, 51, 52]) (some ⟨w.heap.size, 0, none⟩) 5 5 [53, 54, 55, 56, 57] rfl (fun c hc => digits_byte c (by simp [digits] at hc ⊢; omega)) _ (const_reads (w := w) (e := 5) (fr := (5, 6)) rfl rfl (by decide))
    rw [sum_more] at h
    have e : sum ([49, 50, 51, 52] ++ [53, 54, 55, 56, 57]) = sum digits := rfl
    rw [e, digits_sum] at h
    exact h
  have h4 : ∀ w : World, Calls Try.prog 8 #[.slice (some ⟨w.heap.size + 1, 0, none⟩) 1 1] ((w.alloc (.cells #[.int .u8 49, .int .u8 50, .int .u8 51, .int .u8 52] 5 (4, 5))).alloc (.cells #[.slice (some ⟨w.heap.size, 0, none⟩) 4 4] 22)) fun e w' => e = .returned (.int .u32 (enc (sum [49, 50, 51, 52]))) ∧ w' = (w.alloc (.cells #[.int .u8 49, .int .u8 50, .int .u8 51, .int .u8 52] 5 (4, 5))).alloc (.cells #[.slice (some ⟨w.heap.size, 0, none⟩) 4 4] 22) :=
    fun w => crc_Of_one (some ⟨w.heap.size, 0, none⟩) 4 4 [49, 50, 51, 52] rfl (fun c hc => digits_byte c (by simp [digits] at hc ⊢; omega)) _ (const_reads rfl rfl (by decide)) (w.heap.size + 1) (by simp)
  have hk : ∀ (w : World) (C : Array Value) (n c : Nat), (convert 22 22 (.slice (some ⟨w.heap.size, 0, none⟩) n c)).run Try.prog (w.alloc (.cells C 5)) = .ok (.slice (some ⟨w.heap.size, 0, none⟩) n c) (w.alloc (.cells C 5 (C.size, C.size + 1))) := fun w C n c => Lib.run_convert_bytes_const w _ _ C n c Try.underlying22 Try.underlying5
  have hk2 : ∀ (w : World) (A B : Obj) (C : Array Value) (n c : Nat), (convert 22 22 (.slice (some ⟨w.heap.size + 1 + 1, 0, none⟩) n c)).run Try.prog (((w.alloc A).alloc B).alloc (.cells C 5)) = .ok (.slice (some ⟨w.heap.size + 1 + 1, 0, none⟩) n c) (((w.alloc A).alloc B).alloc (.cells C 5 (C.size, C.size + 1))) := fun w A B C n c => by
    have h := hk ((w.alloc A).alloc B) C n c
    have e : ((w.alloc A).alloc B).heap.size = w.heap.size + 1 + 1 := by simp
    rw [e] at h
    exact h
  clear h9
  obtain ⟨F, hF⟩ : ∃ F, F = enc (sum [49, 50, 51, 52]) := ⟨_, rfl⟩
  rw [← hF] at h5 h4
  clear hF
  go_enter Try.func6, Try.ntmps6
  go_wp2_with (first
    | (go_at_call 8; (with_reducible refine hO9.mono ?_); rintro e w1 ⟨rfl, rfl⟩)
    | (go_at_call 12; (with_reducible refine (hS _).mono ?_); rintro e w2 ⟨q, d, rfl, hr2, hb2⟩; have hcv := conv hr2 rfl; rw [hs] at hcv; simp only [List.length_cons, List.length_nil, Nat.zero_add, Nat.reduceAdd] at hcv)
    | (go_at_call 8; (with_reducible refine (h4 _).mono ?_); rintro e w3 ⟨rfl, rfl⟩)
    | (go_at_call 9; (with_reducible refine (h5 _ _ (by simp)).mono ?_); rintro e w4 ⟨rfl, rfl⟩))
  go_ret
  exact ⟨rfl, bnext (bnext (bnext (bnext (bnext (bnew w _) (bnew _ _)) hb2) (bnew _ _)) (bnew _ _)) (bnew _ _)⟩
end Go.Proofs.Ytfpgcebphfpkiaa.Crc
