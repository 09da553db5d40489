/-
  The sum of any bytes, in any two parts, at once, or one behind the other: every input gives true.
-/
import Derived.Test.YtfpgcebphfpkiaaCrcAlive
import Derived.Test.YtfpgcebphfpkiaaCrcRef
namespace Go.Proofs.Ytfpgcebphfpkiaa.Crc
open Go.RowKit Go.Proofs.Ytfpgcebphfpkiaa.Mem

theorem crc_Of_two (p p' : Option Addr) (n n' c c' : Nat) (xs ys : List Int) (l : xs.length = n) (l' : ys.length = n') (hx : ∀ c ∈ xs, Byte c) (hy : ∀ c ∈ ys, Byte c) (w : World) (r : Reads .u8 w p c xs) (r' : Reads .u8 w p' c' ys) (g : Nat) (hg : w.heap.size = g) :
    Calls Try.prog 8 #[.slice (some ⟨g, 0, none⟩) 2 2] (w.alloc (.cells #[.slice p n c, .slice p' n' c'] 22)) fun e w' => e = .returned (.int .u32 (enc (sum (xs ++ ys)))) ∧ w' = w.alloc (.cells #[.slice p n c, .slice p' n' c'] 22) := by
  subst l l' hg
  have h := crc_Of (some ⟨w.heap.size, 0, none⟩) 2 2 [(p, c, xs), (p', c', ys)] rfl (by omega) (w.alloc (.cells #[.slice p xs.length c, .slice p' ys.length c'] 22))
    (fun _ => ⟨_, _, rfl, fun k x hk => by
      match k, hk with
      | 0, hk => simp at hk; subst hk; simp [partV]
      | 1, hk => simp at hk; subst hk; simp [partV]⟩)
    (fun x hm => by
      simp at hm
      rcases hm with rfl | rfl
      · exact ⟨r.alloc _, hx⟩
      · exact ⟨r'.alloc _, hy⟩)
  simpa [cat] using h
theorem crc_Of_none (w : World) : Calls Try.prog 8 #[.slice none 0 0] w fun e w' => e = .returned (.int .u32 (enc (sum []))) ∧ w' = w :=
  crc_Of none 0 0 [] rfl (by omega) w (fun h => absurd h (by simp)) (fun x hx => by cases hx)

set_option maxHeartbeats 1000000 in
theorem sums_any (p p' : Option Addr) (n n' c c' : Nat) (xs ys : List Int) (l : xs.length = n) (l' : ys.length = n') (hx : ∀ c ∈ xs, Byte c) (hy : ∀ c ∈ ys, Byte c) (w : World) (r : Reads .u8 w p c xs) (r' : Reads .u8 w p' c' ys) :
    Calls Try.prog 3 #[.slice p n c, .slice p' n' c'] w fun e w' => e = .returned (.bool true) ∧ Below w.heap.size w w' := by
  have ha := alive_any w
  by_cases h5 : n > 500 ∨ n' > 500
  · have d1 : (decide ((500 : Int) < (n : Int)) || decide ((500 : Int) < (n' : Int))) = true := by simp; omega
    by_cases h6 : n > 500
    · go_enter Try.func3, Try.ntmps3
      go_wp2_with (go_at_call 6; refine ha.mono ?_; rintro e w1 ⟨rfl, hb1⟩)
      go_ret
      exact ⟨rfl, hb1⟩
    · have h7 : n' > 500 := by omega
      go_enter Try.func3, Try.ntmps3
      go_wp2_with (go_at_call 6; refine ha.mono ?_; rintro e w1 ⟨rfl, hb1⟩)
      go_ret
      exact ⟨rfl, hb1⟩
  · obtain ⟨i0, hi, hz0, hz1, hz2⟩ := info_parts info_byte
    have h6 : ¬ n > 500 := by omega
    have h7 : ¬ n' > 500 := by omega
    have hall : ∀ c ∈ xs ++ ys, Byte c := by
      intro c hc
      rcases List.mem_append.1 hc with hc | hc
      · exact hx c hc
      · exact hy c hc
    have hlen : (xs ++ ys).length = n + n' := by simp [l, l']
    go_enter Try.func3, Try.ntmps3
    go_wp2_with (first
      | (go_at_call 6; refine ha.mono ?_; rintro e w1 ⟨rfl, hb1⟩; have h0 : (w1.alloc (.cells #[] 5)).ownsRow w1.heap.size 5 1 (.slice (some ⟨w1.heap.size, 0, none⟩) 0 0) ([] : List Int).length (([] : List Int).map (Value.int .u8)) := lit_none (k := .u8) w1)
      | (at_builtin; refine wpList_append_reads _ rfl _ _ 22 rfl w1.heap.size 5 i0 (.int .u8 0) 1 .u8 Try.underlying22 hi hz0 hz1 hz2 rfl (.slice (some ⟨w1.heap.size, 0, none⟩) 0 0) 0 [] rfl h0 p n c xs rfl l ((r.below hb1).alloc _) ?c3 ?c4 ?c5 ?_))
    case c3 => unfold maxLen; omega
    case c4 => omega
    case c5 => simp
    intro v2 w2 hown2 hg2
    obtain ⟨ho2, hb2⟩ := grew0 (ys := []) (zs := xs) (Nat.le_refl _) (bnew w1 _) h0 hown2 hg2
    rw [List.nil_append, l] at ho2
    clear hown2 hg2 h0
    have hr2 := ((r'.below hb1).below hb2)
    go_wp2_with (at_builtin; refine wpList_append_reads _ rfl _ _ 22 rfl w1.heap.size 5 i0 (.int .u8 0) 1 .u8 Try.underlying22 hi hz0 hz1 hz2 rfl v2 n (xs.map (Value.int .u8)) rfl ho2 p' n' c' ys rfl l' hr2 ?c3 ?c4 ?c5 ?_)
    case c3 => unfold maxLen; omega
    case c4 => omega
    case c5 => exact hb2.size
    intro v3 w3 hown3 hg3
    rw [← l] at ho2
    obtain ⟨ho3, hb3⟩ := grew0 (ys := xs) (zs := ys) (Nat.le_refl _) hb2 ho2 hown3 hg3
    obtain ⟨_, q, d, hv, hr⟩ := own_reads ho3
    rw [hlen] at hv
    subst hv
    clear hown3 hg3 ho2 ho3 hr2
    have hrx := (r.below hb1).below hb3
    have hry := (r'.below hb1).below hb3
    have hR := ref_Of q (n + n') d (xs ++ ys) hlen hall (by omega) w3 hr
    have hA := crc_Of_two p p' n n' c c' xs ys l l' hx hy w3 hrx hry _ rfl
    have hB := fun w' (h : Below w3.heap.size w3 w') g hg => crc_Of_one q (n + n') d (xs ++ ys) hlen hall w' (hr.below h) g hg
    have hC := fun w' (h : Below w3.heap.size w3 w') g hg => crc_Of_one p n c xs l hx w' (hrx.below h) g hg
    have hD := fun w' (h : Below w3.heap.size w3 w') => crc_More (sum xs) p' n' c' ys l' hy w' (hry.below h)
    simp only [sum_more] at hD
    have hE := fun w' => ref_Of none 0 0 [] rfl (by intro c hc; cases hc) (by omega) w' (Reads.nil _ _)
    have hF := crc_Of_none
    obtain ⟨Z, hZ⟩ : ∃ Z, Z = enc (sum (xs ++ ys)) := ⟨_, rfl⟩
    obtain ⟨Y, hY⟩ : ∃ Y, Y = enc (sum ([] : List Int)) := ⟨_, rfl⟩
    obtain ⟨X, hX⟩ : ∃ X, X = enc (sum xs) := ⟨_, rfl⟩
    simp only [← hZ] at hR hA hB hD
    simp only [← hY] at hE hF
    simp only [← hX] at hC hD
    clear hX hY hZ
    go_wp2_with (first
      | (go_at_call 7; (with_reducible refine hR.mono ?_); rintro e w4 ⟨rfl, rfl⟩)
      | (go_at_call 8; (with_reducible refine hA.mono ?_); rintro e w5 ⟨rfl, rfl⟩)
      | (go_at_call 8; (with_reducible refine (hB _ (bnew _ _) _ (by simp)).mono ?_); rintro e w6 ⟨rfl, rfl⟩)
      | (go_at_call 8; (with_reducible refine (hC _ (bnext (bnew _ _) (bnew _ _)) _ (by simp)).mono ?_); rintro e w7 ⟨rfl, rfl⟩)
      | (go_at_call 9; (with_reducible refine (hD _ (bnext (bnext (bnew _ _) (bnew _ _)) (bnew _ _))).mono ?_); rintro e w8 ⟨rfl, rfl⟩)
      | (go_at_call 8; (with_reducible refine (hF _).mono ?_); rintro e w9 ⟨rfl, rfl⟩)
      | (go_at_call 7; (with_reducible refine (hE _).mono ?_); rintro e w10 ⟨rfl, rfl⟩))
    go_ret
    exact ⟨rfl, bnext (bnext (bnext (bnext hb1 hb3) (bnew _ _)) (bnew _ _)) (bnew _ _)⟩
end Go.Proofs.Ytfpgcebphfpkiaa.Crc
