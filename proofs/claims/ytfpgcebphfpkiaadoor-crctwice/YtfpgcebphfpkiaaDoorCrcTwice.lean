/-
  The same bits turned twice are as they were: every input gives true.
-/
import Derived.Test.YtfpgcebphfpkiaaDoorCrcAlive
import Derived.Test.YtfpgcebphfpkiaaDoorCrcBurst
import Derived.Deep.RegionHeld3
namespace Go.Proofs.YtfpgcebphfpkiaaDoor.Crc
open Go.RowKit Go.Proofs.YtfpgcebphfpkiaaDoor.Mem

/-- What is read all along the last statement. -/
def Keeps (w : World) (p : Option Addr) (c : Nat) (zs : List Int) (w' : World) : Prop := Reads .u8 w' p c zs ∧ Table w' ∧ Below w.heap.size w w'
theorem Keeps.next {w w1 w2 : World} {p : Option Addr} {c : Nat} {zs : List Int} (h : Keeps w p c zs w1) (hb : Below w1.heap.size w1 w2) : Keeps w p c zs w2 := ⟨h.1.below hb, h.2.1.below hb, bnext h.2.2 hb⟩
theorem Keeps.drew {w w1 : World} {p : Option Addr} {c : Nat} {zs : List Int} (h : Keeps w p c zs w1) : Keeps w p c zs w1.drew := h.next (Below.refl _ _).drew

set_option maxHeartbeats 2000000 in
theorem twice_any (p : Option Addr) (n c : Nat) (xs : List Int) (l : xs.length = n) (hx : ∀ c ∈ xs, Byte c) (at_ mask : Int) (ha : Inty at_) (hm : Half mask) (w : World) (r : Reads .u8 w p c xs) (ht : Table w) :
    Calls Tryd.prog 5 #[.slice p n c, .int .i64 at_, .int .u32 mask] w fun e w' => e = .returned (.bool true) ∧ Below w.heap.size w w' := by
  have hal := alive_any w
  obtain ⟨m, rfl⟩ := enc_of hm
  by_cases h5 : n > 500
  · go_enter Tryd.func5, Tryd.ntmps5
    go_wp2_with (go_at_call 6; refine hal.mono ?_; rintro e w1 ⟨rfl, hb1⟩)
    go_ret
    exact ⟨rfl, hb1⟩
  · have h6 : n ≤ 1000 := by omega
    have hB1 := fun w' (h : Keeps w p c xs w') => crc_Burst p n c xs l hx h6 at_ ha m w' h.1 h.2.1
    have hB2 := fun q d w' (h : Reads .u8 w' q d (bursts m at_ xs)) (hT : Table w') => crc_Burst q n d (bursts m at_ xs) (by rw [bursts_length, l]) (bursts_bytes m at_ hx) h6 at_ ha m w' h hT
    rw [bursts_twice m at_ hx] at hB2
    obtain ⟨M, hM⟩ : ∃ M, M = enc m := ⟨_, rfl⟩
    rw [← hM] at hB1 hB2 ⊢
    obtain ⟨ys, hys⟩ : ∃ ys, ys = bursts m at_ xs := ⟨_, rfl⟩
    rw [← hys] at hB1 hB2
    have t3 : ((str xs).toList == (str xs).toList) = true := by rw [str_eq hx hx]; simp
    clear hys hM
    go_enter Tryd.func5, Tryd.ntmps5
    go_wp2_with (go_at_call 6; refine hal.mono ?_; rintro e w1 ⟨rfl, hb1⟩; have hK : Keeps w p c xs w1 := ⟨r.below hb1, ht.below hb1, hb1⟩; have hKd := hK.drew; have k1 := conv hKd.1 l)
    go_region_held (Keeps w p c xs) (assumption)
      (first
      | (go_at_call 7; (with_reducible refine (hB1 _ (by assumption)).mono ?_); rintro e w3 ⟨q3, d3, rfl, hr3, hb3⟩; have hK3 := Keeps.next (by assumption) hb3; have hT3 := hK3.2.1; have k2 := conv hK3.1 l)
      | (go_at_call 7; (with_reducible refine (hB2 _ _ _ (by assumption) (by assumption)).mono ?_); rintro e w4 ⟨q4, d4, rfl, hr4, hb4⟩; have hK4 := Keeps.next (by assumption) hb4; have k3 := conv hK4.1 l; have k4 := conv hr4 l))
    all_goals
      go_wp2
      go_ret
      exact ⟨rfl, (by assumption : Keeps w p c xs _).2.2⟩
end Go.Proofs.YtfpgcebphfpkiaaDoor.Crc
