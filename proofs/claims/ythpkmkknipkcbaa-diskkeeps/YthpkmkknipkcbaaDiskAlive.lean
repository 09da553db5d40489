/-
  The chapter's own lines, walked.
-/
import Derived.Test.YthpkmkknipkcbaaDiskWrite
namespace Go.Proofs.Ythpkmkknipkcbaa.Disk
open Go.RowKit Go.Proofs.Ythpkmkknipkcbaa.Mem
set_option maxRecDepth 100000

theorem flat_bools : ∀ ks : List Bool, ks.flatMap bc = ks.map Value.bool
  | [] => rfl
  | b :: r => by rw [List.flatMap_cons, flat_bools r]; rfl
theorem lit_bools (w : World) (ks : List Bool) (hk : ks.length ≤ 100) : RK bc (w.alloc (.cells (ks.map Value.bool).toArray 4)) (some ⟨w.heap.size, 0, none⟩) ks.length ks := by
  refine ⟨Nat.le_refl _, by unfold maxLen; omega, fun h => by simp at h, fun _ => ⟨w.heap.size, 0, rfl, by simp, fun j v hv => ?_⟩⟩
  have h := Blk.new w (ks.map Value.bool).toArray 4
  rw [Nat.zero_add, h.cell]
  rw [flat_bools] at hv
  simpa using hv
theorem bfr {w a b : World} {S : Nat → Prop} (h : Below w.heap.size w a) (hF : Fr S a b) (hS : ∀ k, S k → w.heap.size ≤ k) : Below w.heap.size w b := h.trans (hF.below hS h.size)
theorem alive_any (w : World) : Calls Try.prog 10 #[] w fun e w' => e = .returned (.bool true) ∧ Below w.heap.size w w' := by
  have heq := eq_secs
  have hgd := eq_guard
  obtain ⟨d0, hd0⟩ : ∃ d0, d0 = fresh (clamp 2) := ⟨_, rfl⟩
  obtain ⟨d1, hd1⟩ : ∃ d1, d1 = d0.put 1 (one 1) := ⟨_, rfl⟩
  obtain ⟨d2, hd2⟩ : ∃ d2, d2 = d1.put 1 (one 2) := ⟨_, rfl⟩
  obtain ⟨d3, hd3⟩ : ∃ d3, d3 = d2.crash [true, false] := ⟨_, rfl⟩
  have o0 : d0.ok := by rw [hd0]; exact fresh_ok (by decide)
  have o1 : d1.ok := by rw [hd1]; exact put_ok o0 _ _ (by rw [hd0]; decide)
  have o2 : d2.ok := by rw [hd2]; exact put_ok o1 _ _ (by rw [hd1, hd0]; decide)
  have o3 : d3.ok := by rw [hd3]; exact crash_ok o2 _
  have e1 : d0.putE 1 = 0 := by rw [hd0]; rfl
  have e2 : d1.putE 1 = 0 := by rw [hd1, hd0]; rfl
  have e3 : d2.read 1 = (one 2, 0) := by rw [hd2, hd1, hd0]; rfl
  have e4 : d3.read 1 = (one 1, 0) := by rw [hd3, hd2, hd1, hd0]; rfl
  have e5 : d3.st.length = 2 := by rw [hd3, hd2, hd1, hd0]; rfl
  have hnew := new_any 2 w
  rw [← hd0] at hnew
  have hw1 : ∀ {B g S W}, Dk B S W g d0 → Calls Try.prog 15 #[.pointer (some ⟨g, 0, none⟩), .int .i64 1, secv (one 1)] W fun e w' => e = .returned (.int .i64 0) ∧ Went B S W w' g d1 := fun h => by
    have := write_any h o0 1 (one 1); rw [e1, ← hd1] at this; exact this
  have hw2 : ∀ {B g S W}, Dk B S W g d1 → Calls Try.prog 15 #[.pointer (some ⟨g, 0, none⟩), .int .i64 1, secv (one 2)] W fun e w' => e = .returned (.int .i64 0) ∧ Went B S W w' g d2 := fun h => by
    have := write_any h o1 1 (one 2); rw [e2, ← hd2] at this; exact this
  have hr1 : ∀ {B g S W}, Dk B S W g d2 → Calls Try.prog 8 #[.pointer (some ⟨g, 0, none⟩), .int .i64 1] W fun e w' => e = .returned (.tuple #[secv (one 2), .int .i64 0]) ∧ Below W.heap.size W w' := fun h => by
    have := read_any h o2 1; rw [e3] at this; exact this
  have hr2 : ∀ {B g S W}, Dk B S W g d3 → Calls Try.prog 8 #[.pointer (some ⟨g, 0, none⟩), .int .i64 1] W fun e w' => e = .returned (.tuple #[secv (one 1), .int .i64 0]) ∧ Below W.heap.size W w' := fun h => by
    have := read_any h o3 1; rw [e4] at this; exact this
  have hcr : ∀ {B g S W}, Dk B S W g d2 → Calls Try.prog 19 #[.pointer (some ⟨g, 0, none⟩), .slice (some ⟨W.heap.size, 0, none⟩) 2 2] (W.alloc (.cells #[.bool true, .bool false] 4)) fun e w' => e = .returned (.tuple #[]) ∧ Went B S (W.alloc (.cells #[.bool true, .bool false] 4)) w' g d3 := fun {B g S W} h => by
    have := crash_any (h.below (bnew W (.cells #[.bool true, .bool false] 4))) o2 (some ⟨W.heap.size, 0, none⟩) 2 2 [true, false] rfl (lit_bools W [true, false] (by decide)) (fun _ a ha q => by simp at ha; subst ha; exact Nat.lt_irrefl _ (h.lt _ q))
    rw [← hd3] at this; exact this
  have hln : ∀ {B g S W}, Dk B S W g d3 → Calls Try.prog 13 #[.pointer (some ⟨g, 0, none⟩)] W fun e w' => e = .returned (.int .i64 2) ∧ w' = W := fun h => by
    have := len_any h; rw [e5] at this; exact this
  clear e1 e2 e3 e4 e5 hd0 hd1 hd2 hd3
  go_enter Try.func10, Try.ntmps10
  go_wp2_with (first
    | ((with_reducible refine hnew.mono ?_); rintro e w1 ⟨g, S0, rfl, hD0, hb1⟩)
    | ((refine at_build1 _ _ (by rfl) (by rfl) (by rfl) ?_))
    | ((with_reducible refine (hw1 hD0).mono ?_); rintro e w2 ⟨rfl, S1, hD1, hF1, hS1⟩)
    | ((with_reducible refine (hw2 hD1).mono ?_); rintro e w3 ⟨rfl, S2, hD2, hF2, hS2⟩)
    | ((with_reducible refine (hr1 hD2).mono ?_); rintro e w4 ⟨rfl, hb4⟩)
    | (have _ := hb7; (refine at_alloc_sec (by rfl) (by rfl) ?_); intro W8 hY8 hB8 hz8)
    | ((refine at_alloc_sec (by rfl) (by rfl) ?_); intro W5 hY5 hB5 hz5)
    | ((refine at_store_sec _ _ _ _ _ (by rfl) (by rfl) (by rfl) hY8 (by rfl) ?_); intro V8 hX8 hg8 hq8; have hV8 := bnext hb7 (hB8.grown hg8 hB8.size (by simp)); have hX68 := hX6.below hV8; have hD8 := hD6.below hV8)
    | ((refine at_store_sec _ _ _ _ _ (by rfl) (by rfl) (by rfl) hY5 (by rfl) ?_); intro V5 hX5 hg5 hq5; have hV5 := bnext hb4 (hB5.grown hg5 hB5.size (by simp)); have hD5 := hD2.below hV5)
    | ((with_reducible refine (hcr hD5).mono ?_); rintro e w6 ⟨rfl, S6, hD6, hF6, hS6⟩; have hX6 := hF6.blk (hX5.alloc _) (fun q => Nat.lt_irrefl _ ((hD2.below hb4).lt _ q)))
    | ((with_reducible refine (hr2 hD6).mono ?_); rintro e w7 ⟨rfl, hb7⟩)
    | ((refine at_load_sec _ _ _ _ (by rfl) (by rfl) (blk_sec hX68) (by rfl) ?_))
    | ((refine at_load_sec _ _ _ _ (by rfl) (by rfl) (blk_sec hX8) (by rfl) ?_))
    | ((with_reducible refine (hln hD8).mono ?_); rintro e w9 ⟨rfl, rfl⟩))
  go_ret
  exact ⟨rfl, bnext (bfr (bnext (bnext (bfr (bfr hb1 hF1 hD0.base) hF2 hD1.base) hV5) (bnew _ _)) hF6 hD2.base) hV8⟩
end Go.Proofs.Ythpkmkknipkcbaa.Disk
