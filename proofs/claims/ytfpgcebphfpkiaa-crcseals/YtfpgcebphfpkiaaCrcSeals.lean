/-
  Any bytes and their sum, and the bytes of any seal: every input gives true.
-/
import Derived.Test.YtfpgcebphfpkiaaCrcAlive
import Derived.Test.YtfpgcebphfpkiaaCrcRefSeal
namespace Go.Proofs.Ytfpgcebphfpkiaa.Crc
open Go.RowKit Go.Proofs.Ytfpgcebphfpkiaa.Mem

/-- What is read all along the last statement: the bytes twice, and what was opened twice. -/
def Four (w : World) (p : Option Addr) (c : Nat) (q : Option Addr) (d : Nat) (xs : List Int) (x : Option Addr) (e : Nat) (y : Option Addr) (f : Nat) (os : List Int) (w' : World) : Prop :=
  Reads .u8 w' p c xs ∧ Reads .u8 w' q d xs ∧ Reads .u8 w' x e os ∧ Reads .u8 w' y f os ∧ Below w.heap.size w w'
theorem Four.next {w w1 w2 : World} {p q x y : Option Addr} {c d e f : Nat} {xs os : List Int} (h : Four w p c q d xs x e y f os w1) (hb : Below w1.heap.size w1 w2) : Four w p c q d xs x e y f os w2 :=
  ⟨h.1.below hb, h.2.1.below hb, h.2.2.1.below hb, h.2.2.2.1.below hb, bnext h.2.2.2.2 hb⟩
theorem Four.drew {w w1 : World} {p q x y : Option Addr} {c d e f : Nat} {xs os : List Int} (h : Four w p c q d xs x e y f os w1) : Four w p c q d xs x e y f os w1.drew := h.next (Below.refl _ _).drew

set_option maxHeartbeats 4000000 in
theorem seals_any (p : Option Addr) (n c : Nat) (xs : List Int) (l : xs.length = n) (hx : ∀ c ∈ xs, Byte c) (w : World) (r : Reads .u8 w p c xs) :
    Calls Try.prog 4 #[.slice p n c] w fun e w' => e = .returned (.bool true) ∧ Below w.heap.size w w' := by
  have ha := alive_any w
  by_cases h5 : n > 500
  · go_enter Try.func4, Try.ntmps4
    go_wp2_with (go_at_call 6; refine ha.mono ?_; rintro e w1 ⟨rfl, hb1⟩)
    go_ret
    exact ⟨rfl, hb1⟩
  · obtain ⟨i0, hi, hz0, hz1, hz2⟩ := info_parts info_byte
    have h6 : n ≤ 1000 := by omega
    go_enter Try.func4, Try.ntmps4
    go_wp2_with (first
      | (go_at_call 6; refine ha.mono ?_; rintro e w1 ⟨rfl, hb1⟩; have h0 : (w1.alloc (.cells #[] 5)).ownsRow w1.heap.size 5 1 (.slice (some ⟨w1.heap.size, 0, none⟩) 0 0) ([] : List Int).length (([] : List Int).map (Value.int .u8)) := lit_none (k := .u8) w1)
      | (at_builtin; refine wpList_append_reads _ rfl _ _ 22 rfl w1.heap.size 5 i0 (.int .u8 0) 1 .u8 Try.underlying22 hi hz0 hz1 hz2 rfl (.slice (some ⟨w1.heap.size, 0, none⟩) 0 0) 0 [] rfl h0 p n c xs rfl l ((r.below hb1).alloc _) ?c3 ?c4 ?c5 ?_))
    case c3 => unfold maxLen; omega
    case c4 => omega
    case c5 => simp
    intro v2 w2 hown2 hg2
    obtain ⟨ho2, hb2⟩ := grew0 (ys := []) (zs := xs) (Nat.le_refl _) (bnew w1 _) h0 hown2 hg2
    rw [List.nil_append] at ho2
    obtain ⟨_, q, d, hv, hr⟩ := own_reads ho2
    rw [l] at hv
    subst hv
    clear hown2 hg2 ho2 h0
    have hO := crc_Open q n d xs l hx h6 w2 hr
    have hQ := fun w' h => ref_Open p n c xs l hx h6 w' h
    obtain ⟨os, hos⟩ : ∃ os, os = opened xs := ⟨_, rfl⟩
    obtain ⟨m, hm⟩ : ∃ m, os.length = m := ⟨_, rfl⟩
    obtain ⟨B, hB⟩ : ∃ B, B = isSeal xs := ⟨_, rfl⟩
    have hob : ∀ c ∈ os, Byte c := by
      intro c hc
      rw [hos, opened] at hc
      split at hc
      · exact hx c (List.mem_of_mem_take hc)
      · cases hc
    simp only [← hos, ← hB, hm] at hO hQ
    obtain ⟨ss, hss⟩ : ∃ ss, ss = sealed xs := ⟨_, rfl⟩
    have hsl : ss.length = n + 4 := by rw [hss, sealed_length, l]
    have hsb : ∀ c ∈ ss, Byte c := by rw [hss]; exact sealed_bytes hx
    have hS1 := fun w' h => crc_Seal q n d xs l hx h6 w' h
    have hS2 := fun w' h => ref_Seal p n c xs l hx h6 w' h
    simp only [← hss] at hS1 hS2
    have t1 : ((str ss).toList == (str ss).toList) = true := by rw [str_eq hsb hsb]; simp
    have t2 : ((str os).toList == (str os).toList) = true := by rw [str_eq hob hob]; simp
    have t3 : ((str xs).toList == (str xs).toList) = true := by rw [str_eq hx hx]; simp
    have t4 : (B == B) = true := by simp
    clear hos hB hss hob hsb
    go_wp2_with (first
      | (go_at_call 10; refine hO.mono ?_; rintro e w3 ⟨q3, d3, rfl, hr3, hb3⟩)
      | (go_at_call 11; refine (hQ _ (((r.below hb1).below hb2).below hb3)).mono ?_; rintro e w4 ⟨q4, d4, rfl, hr4, hb4⟩; have hH : Four w p c q d xs q3 d3 q4 d4 os w4 := ⟨(((r.below hb1).below hb2).below hb3).below hb4, (hr.below hb3).below hb4, hr3.below hb4, hr4, bnext (bnext (bnext hb1 hb2) hb3) hb4⟩; have hHd := hH.drew; have k1 := conv hHd.1 l; have k2 := conv hHd.2.1 l; have k3 := conv hHd.2.2.1 hm; have k4 := conv hHd.2.2.2.1 hm))
    go_region_held (Four w p c q d xs q3 d3 q4 d4 os) (assumption)
      (first
      | (go_at_call 12; refine (hS1 _ ?_).mono ?_; exact (And.right (by assumption : Four w p c q d xs q3 d3 q4 d4 os _)).1; rintro e w6 ⟨q6, d6, rfl, hr6, hb6⟩; have hH6 := Four.next (by assumption) hb6; have k5 := conv hH6.1 l; have k6 := conv hH6.2.1 l; have k7 := conv hH6.2.2.1 hm; have k8 := conv hH6.2.2.2.1 hm; have k9 := conv hr6 hsl; (try have k10 := conv (hr7.below hb6) hsl))
      | (go_at_call 13; refine (hS2 _ ?_).mono ?_; exact And.left (by assumption : Four w p c q d xs q3 d3 q4 d4 os _); rintro e w7 ⟨q7, d7, rfl, hr7, hb7⟩; have hH7 := Four.next (by assumption) hb7; have j5 := conv hH7.1 l; have j6 := conv hH7.2.1 l; have j7 := conv hH7.2.2.1 hm; have j8 := conv hH7.2.2.2.1 hm; have j9 := conv hr7 hsl; (try have j10 := conv (hr6.below hb7) hsl)))
    all_goals
      go_wp2
      go_ret
      exact ⟨rfl, (by assumption : Four w p c q d xs q3 d3 q4 d4 os _).2.2.2.2⟩
end Go.Proofs.Ytfpgcebphfpkiaa.Crc
