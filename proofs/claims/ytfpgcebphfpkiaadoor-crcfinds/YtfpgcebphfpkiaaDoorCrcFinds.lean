/-
  No burst is overlooked: every input gives true.
-/
import Derived.Test.YtfpgcebphfpkiaaDoorCrcAlive
import Derived.Test.YtfpgcebphfpkiaaDoorCrcBurst
namespace Go.Proofs.YtfpgcebphfpkiaaDoor.Crc
open Go.RowKit Go.Proofs.YtfpgcebphfpkiaaDoor.Mem

theorem opened_sealed (xs : List Int) : isSeal (sealed xs) = true ∧ opened (sealed xs) = xs := by
  have hl := sealed_length xs
  have ht : (sealed xs).take ((sealed xs).length - 4) = xs := by
    rw [hl]
    unfold sealed
    simp
  have h1 : isSeal (sealed xs) = true := by
    unfold isSeal
    rw [ht]
    simp [hl]
  exact ⟨h1, by unfold opened; rw [h1, if_pos rfl, ht]⟩
/-- A seal in which bits were turned is a seal just where it is as it was. -/
theorem found (m : BitVec 32) (at_ : Int) {xs : List Int} (hx : ∀ c ∈ xs, Byte c) : isSeal (bursts m at_ (sealed xs)) = decide (sealed xs = bursts m at_ (sealed xs)) := by
  by_cases h : sealed xs = bursts m at_ (sealed xs)
  · rw [decide_eq_true h, ← h]
    exact (opened_sealed xs).1
  · rw [decide_eq_false h]
    cases hs : isSeal (bursts m at_ (sealed xs)) with
    | false => rfl
    | true =>
      exfalso
      unfold isSeal at hs
      simp only [Bool.and_eq_true, decide_eq_true_eq] at hs
      exact h (seal_found m at_ hx hs.2.symm).symm
set_option maxHeartbeats 1000000 in
theorem finds_any (p : Option Addr) (n c : Nat) (xs : List Int) (l : xs.length = n) (hx : ∀ c ∈ xs, Byte c) (at_ mask : Int) (ha : Inty at_) (hm : Half mask) (w : World) (r : Reads .u8 w p c xs) (ht : Table w) :
    Calls Tryd.prog 4 #[.slice p n c, .int .i64 at_, .int .u32 mask] w fun e w' => e = .returned (.bool true) ∧ Below w.heap.size w w' := by
  have hal := alive_any w
  obtain ⟨m, rfl⟩ := enc_of hm
  by_cases h5 : n > 500
  · go_enter Tryd.func4, Tryd.ntmps4
    go_wp2_with (go_at_call 6; refine hal.mono ?_; rintro e w1 ⟨rfl, hb1⟩)
    go_ret
    exact ⟨rfl, hb1⟩
  · have h6 : n ≤ 1000 := by omega
    have h7 : n + 4 ≤ 1000 := by omega
    have hS := fun w' h => crc_Seal p n c xs l hx h6 w' h
    have hsl : (sealed xs).length = n + 4 := by rw [sealed_length, l]
    have hbl : (bursts m at_ (sealed xs)).length = n + 4 := by rw [bursts_length, hsl]
    have hsb := sealed_bytes hx
    have hbb := bursts_bytes m at_ hsb
    have hB := fun q d w' h hT => crc_Burst q (n + 4) d (sealed xs) hsl hsb h7 at_ ha m w' h hT
    have hO1 := fun q d w' h => crc_Open q (n + 4) d (sealed xs) hsl hsb h7 w' h
    have hO2 := fun q d w' h => crc_Open q (n + 4) d (bursts m at_ (sealed xs)) hbl hbb h7 w' h
    have hf := found m at_ hx
    have he := str_eq hsb hbb
    rw [← hf] at he
    rw [(opened_sealed xs).1, (opened_sealed xs).2, l] at hO1
    obtain ⟨M, hM⟩ : ∃ M, M = enc m := ⟨_, rfl⟩
    rw [← hM] at hB ⊢
    obtain ⟨ys, hys⟩ : ∃ ys, ys = bursts m at_ (sealed xs) := ⟨_, rfl⟩
    rw [← hys] at hB hO2 he hbl
    obtain ⟨ss, hss⟩ : ∃ ss, ss = sealed xs := ⟨_, rfl⟩
    rw [← hss] at hB hO1 he hsl hS
    obtain ⟨b, hb⟩ : ∃ b, b = isSeal ys := ⟨_, rfl⟩
    rw [← hb] at hO2 he
    obtain ⟨os, hos⟩ : ∃ os, os = opened ys := ⟨_, rfl⟩
    rw [← hos] at hO2
    obtain ⟨k, hk⟩ : ∃ k, os.length = k := ⟨_, rfl⟩
    rw [hk] at hO2
    have t3 : ((str xs).toList == (str xs).toList) = true := by rw [str_eq hx hx]; simp
    clear hys hM hss hb hos hf hsb hbb
    go_enter Tryd.func4, Tryd.ntmps4
    go_wp2_with (first
      | (go_at_call 6; refine hal.mono ?_; rintro e w1 ⟨rfl, hb1⟩)
      | (go_at_call 9; refine (hS _ (r.below hb1)).mono ?_; rintro e w2 ⟨q2, d2, rfl, hr2, hb2⟩)
      | (go_at_call 7; refine (hB _ _ _ hr2 ((ht.below hb1).below hb2)).mono ?_; rintro e w3 ⟨q3, d3, rfl, hr3, hb3⟩)
      | (go_at_call 10; (with_reducible refine (hO1 q2 d2 _ (hr2.below hb3)).mono ?_); rintro e w4 ⟨q4, d4, rfl, hr4, hb4⟩)
      | (go_at_call 10; (with_reducible refine (hO2 q3 d3 _ (hr3.below hb4)).mono ?_); rintro e w5 ⟨q5, d5, rfl, hr5, hb5⟩; have k1 := conv (hr4.below hb5) l; have k2 := conv (((((r.below hb1).below hb2).below hb3).below hb4).below hb5) l; have k3 := conv (((hr2.below hb3).below hb4).below hb5) hsl; have k4 := conv ((hr3.below hb4).below hb5) hbl))
    go_ret
    exact ⟨rfl, bnext (bnext (bnext (bnext hb1 hb2) hb3) hb4) hb5⟩
end Go.Proofs.YtfpgcebphfpkiaaDoor.Crc
