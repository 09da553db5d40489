/-
  The errors and the limits have their numbers.
-/
import Derived.Test.YthpkmkknipkcbaaDiskAlive
namespace Go.Proofs.Ythpkmkknipkcbaa.Disk
open Go.RowKit Go.Proofs.Ythpkmkknipkcbaa.Mem
set_option maxRecDepth 100000

theorem names_any (w : World) : Calls Try.prog 3 #[] w fun e w' => e = .returned (.bool true) ∧ Below w.heap.size w w' := by
  obtain ⟨d0, hd0⟩ : ∃ d0, d0 = fresh (clamp 1) := ⟨_, rfl⟩
  obtain ⟨d1, hd1⟩ : ∃ d1, d1 = d0.breaks 0 := ⟨_, rfl⟩
  obtain ⟨d2, hd2⟩ : ∃ d2, d2 = d1.sync := ⟨_, rfl⟩
  have o0 : d0.ok := by rw [hd0]; exact fresh_ok (by decide)
  have o1 : d1.ok := by rw [hd1]; exact breaks_ok o0 ⟨by decide, by decide⟩
  have e1 : d0.read 1 = (zero, 71) := by rw [hd0]; rfl
  have e2 : d1.err = 72 := by rw [hd1, hd0]; rfl
  have e3 : d2.dn = true := by rw [hd2, hd1, hd0]; rfl
  have hnew := new_any 1 w
  rw [← hd0] at hnew
  have hr1 : ∀ {B g S W}, Dk B S W g d0 → Calls Try.prog 8 #[.pointer (some ⟨g, 0, none⟩), .int .i64 1] W fun e w' => e = .returned (.tuple #[secv zero, .int .i64 71]) ∧ Below W.heap.size W w' := fun h => by
    have := read_any h o0 1; rw [e1] at this; exact this
  have hbr : ∀ {B g S W}, Dk B S W g d0 → Calls Try.prog 9 #[.pointer (some ⟨g, 0, none⟩), .int .i64 0] W fun e w' => e = .returned (.tuple #[]) ∧ Went B S W w' g d1 := fun h => by
    have := break_any h 0; rw [← hd1] at this; exact this
  have hsy : ∀ {B g S W}, Dk B S W g d1 → Calls Try.prog 11 #[.pointer (some ⟨g, 0, none⟩)] W fun e w' => e = .returned (.int .i64 72) ∧ Went B S W w' g d2 := fun h => by
    have := sync_any h o1; rw [e2, ← hd2] at this; exact this
  have hdn : ∀ {B g S W}, Dk B S W g d2 → Calls Try.prog 12 #[.pointer (some ⟨g, 0, none⟩)] W fun e w' => e = .returned (.bool true) ∧ w' = W := fun h => by
    have := down_any h; rw [e3] at this; exact this
  have hl1 : ∀ {B g S W}, Dk B S W g (fresh (clamp 9999)) → Calls Try.prog 13 #[.pointer (some ⟨g, 0, none⟩)] W fun e w' => e = .returned (.int .i64 512) ∧ w' = W := fun h => by
    have := len_any h; rw [show (fresh (clamp 9999)).st.length = 512 by simp [fresh]; decide] at this; exact this
  have hl2 : ∀ {B g S W}, Dk B S W g (fresh (clamp (-1))) → Calls Try.prog 13 #[.pointer (some ⟨g, 0, none⟩)] W fun e w' => e = .returned (.int .i64 0) ∧ w' = W := fun h => by
    have := len_any h; rw [show (fresh (clamp (-1))).st.length = 0 by simp [fresh]; decide] at this; exact this
  clear e1 e2 e3 hd0 hd1 hd2
  go_enter Try.func3, Try.ntmps3
  go_wp2_with (first
    | ((with_reducible refine hnew.mono ?_); rintro e w1 ⟨g, S0, rfl, hD0, hb1⟩)
    | ((with_reducible refine (hr1 hD0).mono ?_); rintro e w2 ⟨rfl, hb2⟩)
    | ((refine at_alloc_sec (by rfl) (by rfl) ?_); intro W3 hY3 hB3 hz3)
    | ((refine at_store_sec _ _ _ _ _ (by rfl) (by rfl) (by rfl) hY3 (by rfl) ?_); intro V3 hX3 hg3 hq3; have hV3 := bnext hb2 (hB3.grown hg3 hB3.size (by simp)); have hD3 := hD0.below hV3)
    | ((with_reducible refine (hbr hD3).mono ?_); rintro e w4 ⟨rfl, S4, hD4, hF4, hS4⟩)
    | ((with_reducible refine (alive_any _).mono ?_); rintro e w5 ⟨rfl, hb5⟩; have hD5 := hD4.below hb5)
    | ((with_reducible refine (hsy hD5).mono ?_); rintro e w6 ⟨rfl, S6, hD6, hF6, hS6⟩)
    | ((with_reducible refine (hdn hD6).mono ?_); rintro e w7 ⟨rfl, rfl⟩)
    | ((with_reducible refine (new_any 9999 _).mono ?_); rintro e w8 ⟨g8, S8, rfl, hD8, hb8⟩)
    | ((with_reducible refine (hl1 hD8).mono ?_); rintro e w9 ⟨rfl, rfl⟩)
    | ((with_reducible refine (new_any (-1) _).mono ?_); rintro e w10 ⟨g10, S10, rfl, hD10, hb10⟩)
    | ((with_reducible refine (hl2 hD10).mono ?_); rintro e w11 ⟨rfl, rfl⟩))
  go_ret
  exact ⟨rfl, bnext (bnext (bfr (bnext (bfr (bnext hb1 hV3) hF4 hD0.base) hb5) hF6 hD4.base) hb8) hb10⟩
end Go.Proofs.Ythpkmkknipkcbaa.Disk
