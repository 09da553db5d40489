/-
  Any bytes with any bits turned: every input gives true.
-/
import Derived.Test.YtfpgcebphfpkiaaDoorCrcAlive
import Derived.Test.YtfpgcebphfpkiaaDoorCrcRefBurst
import Derived.Deep.RegionHeld3
namespace Go.Proofs.YtfpgcebphfpkiaaDoor.Crc
open Go.RowKit Go.Proofs.YtfpgcebphfpkiaaDoor.Mem

/-- What is read all along the last statement. -/
def Both (w : World) (p : Option Addr) (c : Nat) (q : Option Addr) (d : Nat) (xs : List Int) (w' : World) : Prop := Reads .u8 w' p c xs ∧ Reads .u8 w' q d xs ∧ Table w' ∧ Below w.heap.size w w'
theorem Both.next {w w1 w2 : World} {p q : Option Addr} {c d : Nat} {xs : List Int} (h : Both w p c q d xs w1) (hb : Below w1.heap.size w1 w2) : Both w p c q d xs w2 := ⟨h.1.below hb, h.2.1.below hb, h.2.2.1.below hb, bnext h.2.2.2 hb⟩
theorem Both.drew {w w1 : World} {p q : Option Addr} {c d : Nat} {xs : List Int} (h : Both w p c q d xs w1) : Both w p c q d xs w1.drew := h.next (Below.refl _ _).drew

set_option maxHeartbeats 4000000 in
theorem bursts_any (p : Option Addr) (n c : Nat) (xs : List Int) (l : xs.length = n) (hx : ∀ c ∈ xs, Byte c) (at_ mask : Int) (ha : Inty at_) (hm : Half mask) (w : World) (r : Reads .u8 w p c xs) (ht : Table w) :
    Calls Tryd.prog 3 #[.slice p n c, .int .i64 at_, .int .u32 mask] w fun e w' => e = .returned (.bool true) ∧ Below w.heap.size w w' := by
  have hal := alive_any w
  obtain ⟨m, rfl⟩ := enc_of hm
  by_cases h5 : n > 500
  · go_enter Tryd.func3, Tryd.ntmps3
    go_wp2_with (go_at_call 6; refine hal.mono ?_; rintro e w1 ⟨rfl, hb1⟩)
    go_ret
    exact ⟨rfl, hb1⟩
  · obtain ⟨i0, hi, hz0, hz1, hz2⟩ := info_parts info_byte
    have h6 : n ≤ 1000 := by omega
    have hB1 := fun q d w' (h : Both w p c q d xs w') => crc_Burst q n d xs l hx h6 at_ ha m w' h.2.1 h.2.2.1
    have hB2 := fun q d w' (h : Both w p c q d xs w') => ref_Burst p n c xs l hx h6 at_ ha m w' h.1
    have hyb := bursts_bytes m at_ hx
    have hyl : (bursts m at_ xs).length = n := by rw [bursts_length, l]
    have t1 := str_eq hyb hyb
    rw [decide_eq_true rfl] at t1
    have t3 := str_eq hx hx
    rw [decide_eq_true rfl] at t3
    obtain ⟨M, hM⟩ : ∃ M, M = enc m := ⟨_, rfl⟩
    rw [← hM] at hB1 hB2 ⊢
    obtain ⟨ys, hys⟩ : ∃ ys, ys = bursts m at_ xs := ⟨_, rfl⟩
    rw [← hys] at hB1 hB2 t1 hyl
    clear hys hM hyb
    go_enter Tryd.func3, Tryd.ntmps3
    go_wp2_with (first
      | (go_at_call 6; refine hal.mono ?_; rintro e w1 ⟨rfl, hb1⟩; have h0 : (w1.alloc (.cells #[] 5)).ownsRow w1.heap.size 5 1 (.slice (some ⟨w1.heap.size, 0, none⟩) 0 0) ([] : List Int).length (([] : List Int).map (Value.int .u8)) := lit_none (k := .u8) w1)
      | (at_builtin; refine wpList_append_reads _ rfl _ _ 22 rfl w1.heap.size 5 i0 (.int .u8 0) 1 .u8 Tryd.underlying22 hi hz0 hz1 hz2 rfl (.slice (some ⟨w1.heap.size, 0, none⟩) 0 0) 0 [] rfl h0 p n c xs rfl l ((r.below hb1).alloc _) ?c3 ?c4 ?c5 ?_))
    case c3 => unfold maxLen; omega
    case c4 => omega
    case c5 => simp
    intro v2 w2 hown2 hg2
    obtain ⟨ho2, hb2⟩ := grew0 (ys := []) (zs := xs) (Nat.le_refl _) (bnew w1 _) h0 hown2 hg2
    rw [List.nil_append] at ho2
    obtain ⟨_, q, d, hv, hr⟩ := own_reads ho2
    rw [l] at hv
    subst hv
    clear hown2 hg2 ho2 h0
    have hK : Both w p c q d xs w2 := ⟨(r.below hb1).below hb2, hr, (ht.below hb1).below hb2, bnext hb1 hb2⟩
    have hKd := hK.drew
    have k1 := conv hKd.1 l
    have k2 := conv hKd.2.1 l
    go_wp2_with fail
    go_region_held (Both w p c q d xs) (assumption)
      (first
      | (go_at_call 7; (with_reducible refine (hB1 q d _ (by assumption)).mono ?_); rintro e w3 ⟨q3, d3, rfl, hr3, hb3⟩; have hK3 := Both.next (by assumption) hb3; have k3 := conv hK3.1 l; have k4 := conv hK3.2.1 l; have k5 := conv hr3 hyl)
      | (go_at_call 8; (with_reducible refine (hB2 q d _ (by assumption)).mono ?_); rintro e w4 ⟨q4, d4, rfl, hr4, hb4⟩; have hK4 := Both.next (by assumption) hb4; have k6 := conv hK4.1 l; have k7 := conv hK4.2.1 l; have k8 := conv hr4 hyl; (try have k9 := conv (hr3.below hb4) hyl)))
    all_goals
      go_wp2
      go_ret
      exact ⟨rfl, (by assumption : Both w p c q d xs _).2.2.2⟩
end Go.Proofs.YtfpgcebphfpkiaaDoor.Crc
