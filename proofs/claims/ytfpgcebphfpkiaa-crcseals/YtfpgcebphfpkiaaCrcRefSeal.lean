/-
  The document's Seal and Open, as they are typed out.
-/
import Derived.Test.YtfpgcebphfpkiaaCrcRef
import Derived.Deep.RegionHeld3
namespace Go.Proofs.Ytfpgcebphfpkiaa.Crc
open Go.RowKit Go.Proofs.Ytfpgcebphfpkiaa.Mem

/-- What is read all along a statement whose order is open. -/
def Kept (w : World) (p : Option Addr) (c : Nat) (zs : List Int) (w' : World) : Prop := Reads .u8 w' p c zs ∧ Below w.heap.size w w'
theorem Kept.next {w w1 w2 : World} {p : Option Addr} {c : Nat} {zs : List Int} (h : Kept w p c zs w1) (hb : Below w1.heap.size w1 w2) : Kept w p c zs w2 := ⟨h.1.below hb, bnext h.2 hb⟩
theorem Kept.drew {w w1 : World} {p : Option Addr} {c : Nat} {zs : List Int} (h : Kept w p c zs w1) : Kept w p c zs w1.drew := h.next (Below.refl _ _).drew

theorem ref_Seal (p : Option Addr) (n c : Nat) (xs : List Int) (l : xs.length = n) (hx : ∀ c ∈ xs, Byte c) (hn : n ≤ 1000) (w : World) (r : Reads .u8 w p c xs) :
    Calls Try.prog 13 #[.slice p n c] w fun e w' => ∃ q d, e = .returned (.slice q (n + 4) d) ∧ Reads .u8 w' q d (sealed xs) ∧ Below w.heap.size w w' := by
  obtain ⟨i0, hi, hz0, hz1, hz2⟩ := info_parts info_byte
  have hc := ref_Of p n c xs l hx hn w r
  have hs := enc_half (sum xs)
  obtain ⟨S, hS⟩ : ∃ S, S = enc (sum xs) := ⟨_, rfl⟩
  rw [← hS] at hs hc
  have hfour : [S / 16777216, S / 65536 % 256, S / 256 % 256, S % 256] = four (sum xs) := by
    rw [hS]
    unfold enc four
    simp
  clear hS
  have h0 : (w.alloc (.cells #[] 5)).ownsRow w.heap.size 5 1 (.slice (some ⟨w.heap.size, 0, none⟩) 0 0) ([] : List Int).length (([] : List Int).map (Value.int .u8)) := lit_none (k := .u8) w
  go_enter Try.func13, Try.ntmps13
  go_wp2_with (first
    | (go_at_call 7; refine hc.mono ?_; rintro e w1 ⟨rfl, rfl⟩)
    | (at_builtin; refine wpList_append_reads _ rfl _ _ 22 rfl w1.heap.size 5 i0 (.int .u8 0) 1 .u8 Try.underlying22 hi hz0 hz1 hz2 rfl (.slice (some ⟨w1.heap.size, 0, none⟩) 0 0) 0 [] rfl h0 p n c xs rfl l (r.alloc _) ?c3 ?c4 ?c5 ?_))
  case c3 => unfold maxLen; omega
  case c4 => omega
  case c5 => simp
  · intro v3 w3 hown3 hg3
    have R := grew0 (ys := []) (zs := xs) (Nat.le_refl _) (bnew w1 _) h0 hown3 hg3
    clear hown3 hg3 hc h0
    obtain ⟨hown3, hb3⟩ := R
    rw [List.nil_append, l] at hown3
    have hl4 : Reads .u8 (w3.alloc (.cells #[.int .u8 (S / 16777216), .int .u8 (S / 65536 % 256), .int .u8 (S / 256 % 256), .int .u8 (S % 256)] 5)) (some ⟨w3.heap.size, 0, none⟩) 4 [S / 16777216, S / 65536 % 256, S / 256 % 256, S % 256] := lit_reads rfl rfl (by simp)
    rw [hfour] at hl4
    go_wp2_with (at_builtin; refine wpList_append_reads _ rfl _ _ 22 rfl w1.heap.size 5 i0 (.int .u8 0) 1 .u8 Try.underlying22 hi hz0 hz1 hz2 rfl v3 n (xs.map (Value.int .u8)) rfl (hown3.alloc _) (some ⟨w3.heap.size, 0, none⟩) 4 4 (four (sum xs)) rfl rfl hl4 ?c3 ?c4 ?c5 ?_)
    case c3 => unfold maxLen; omega
    case c4 => omega
    case c5 => have := hb3.size; simp; omega
    · intro v4 w4 hown4 hg4
      rw [← l] at hown3
      have R := grew (ys := xs) (zs := four (sum xs)) (Nat.le_refl _) hb3 hown3 hown4 hg4
      clear hown3 hown4 hg4
      obtain ⟨hown4, hb4⟩ := R
      obtain ⟨_, q, d, hv, hrd⟩ := own_reads hown4
      rw [show (xs ++ four (sum xs)).length = n + 4 by rw [List.length_append, l]; rfl] at hv
      subst hv
      clear hown4
      go_wp2
      go_ret
      exact ⟨q, d, rfl, hrd, hb4⟩
set_option maxHeartbeats 2000000 in
theorem ref_Open (p : Option Addr) (n c : Nat) (zs : List Int) (l : zs.length = n) (hz : ∀ c ∈ zs, Byte c) (hn : n ≤ 1000) (w : World) (r : Reads .u8 w p c zs) :
    Calls Try.prog 11 #[.slice p n c] w fun e w' => ∃ q d, e = .returned (.tuple #[.slice q (opened zs).length d, .bool (isSeal zs)]) ∧ Reads .u8 w' q d (opened zs) ∧ Below w.heap.size w w' := by
  by_cases h4 : n < 4
  · have e1 : isSeal zs = false := by simp [isSeal]; omega
    have e2 : opened zs = [] := by simp [opened, e1]
    rw [e1, e2]
    have hg : decide ((n : Int) < 4) = true := by simp; omega
    go_enter Try.func11, Try.ntmps11
    go_wp2
    go_quiet (fail)
    go_wp2
    go_ret2
    exact ⟨_, _, rfl, Reads.nil _ _, bdrewN _ _⟩
  · obtain ⟨b, o, rfl, _, hcell⟩ := r.2.2.2 (by omega)
    obtain ⟨m, rfl⟩ : ∃ m, n = m + 4 := ⟨n - 4, by omega⟩
    have hcut := fun w => run_upto w b o (m + 4) c m (by have := r.1; omega)
    obtain ⟨T, hT⟩ : ∃ T, zs.take m = T := ⟨_, rfl⟩
    have ri : ∀ w', Kept w (some ⟨b, o, none⟩) c zs w' → Reads .u8 w' (some ⟨b, o, none⟩) c T := fun w' h => by rw [← hT]; exact h.1.upto m
    have hi : T.length = m := by rw [← hT]; simp; omega
    have bi : ∀ c ∈ T, Byte c := fun c hc => by rw [← hT] at hc; exact hz c (List.mem_of_mem_take hc)
    have hs := fun w' h => ref_Seal (some ⟨b, o, none⟩) m c T hi bi (by omega) w' (ri w' h)
    have hsl : (sealed T).length = m + 4 := by rw [sealed_length, hi]
    have hse := str_eq (sealed_bytes bi) hz
    have e1 : isSeal zs = decide (sealed T = zs) := by simp [isSeal, l, hT]
    have e2 : opened zs = if decide (sealed T = zs) then T else [] := by simp [opened, e1, l, hT]
    rw [e1, e2]
    clear hT
    have hK : Kept w (some ⟨b, o, none⟩) c zs w := ⟨r, Below.refl _ _⟩
    have hKd := hK.drew
    have hcv := conv hKd.1 l
    have hg : (4 : Int) ≤ (m : Int) + 4 := by omega
    have hg2 : decide ((m : Int) + 4 < 4) = false := by simp; omega
    have hwr : IntKind.i64.wrap (m : Int) = (m : Int) := by rw [IntKind.wrap_i64]; omega
    clear e1 e2 hcell
    by_cases hq : sealed T = zs
    · rw [decide_eq_true hq, if_pos rfl, hi]
      rw [decide_eq_true hq] at hse
      clear hq
      obtain ⟨i0, hin, hz0, hz1, hz2⟩ := info_parts info_byte
      go_enter Try.func11, Try.ntmps11
      go_wp2
      go_region_held (Kept w (some ⟨b, o, none⟩) c zs) (assumption)
        ((go_at_call 13; refine (hs _ (by assumption)).mono ?_; rintro e w1 ⟨q1, d1, rfl, hr1, hb1⟩; have hK1 := Kept.next (by assumption) hb1; have hcv1 := conv hr1 hsl; have hcv2 := conv hK1.1 l))
      all_goals
        have h0 : (w1.alloc (.cells #[] 5)).ownsRow w1.heap.size 5 1 (.slice (some ⟨w1.heap.size, 0, none⟩) 0 0) ([] : List Int).length (([] : List Int).map (Value.int .u8)) := lit_none (k := .u8) w1
        have hr0 := (ri w1 hK1).alloc (.cells #[] 5)
        go_wp2_with (at_builtin; refine wpList_append_reads _ rfl _ _ 22 rfl w1.heap.size 5 i0 (.int .u8 0) 1 .u8 Try.underlying22 hin hz0 hz1 hz2 rfl (.slice (some ⟨w1.heap.size, 0, none⟩) 0 0) 0 [] rfl h0 (some ⟨b, o, none⟩) m c T rfl hi hr0 ?c3 ?c4 ?c5 ?_)
        case c3 => unfold maxLen; omega
        case c4 => omega
        case c5 => simp
        · intro v3 w3 hown3 hg3
          have R := grew0 (ys := []) (zs := T) (Nat.le_refl _) (bnew w1 _) h0 hown3 hg3
          obtain ⟨hown3, hb3⟩ := R
          rw [List.nil_append, hi] at hown3
          obtain ⟨_, q3, d3, hv3, hr3⟩ := own_reads hown3
          rw [hi] at hv3
          subst hv3
          clear hg3
          go_wp2
          go_ret2
          exact ⟨q3, d3, rfl, hr3, bnext hK1.2 hb3⟩
    · rw [decide_eq_false hq, if_neg (by simp)]
      rw [decide_eq_false hq] at hse
      clear hq
      go_enter Try.func11, Try.ntmps11
      go_wp2
      go_region_held (Kept w (some ⟨b, o, none⟩) c zs) (assumption)
        ((go_at_call 13; refine (hs _ (by assumption)).mono ?_; rintro e w1 ⟨q1, d1, rfl, hr1, hb1⟩; have hK1 := Kept.next (by assumption) hb1; have hcv1 := conv hr1 hsl; have hcv2 := conv hK1.1 l))
      all_goals
        go_wp2
        go_ret2
        exact ⟨_, _, rfl, Reads.nil _ _, hK1.2⟩
end Go.Proofs.Ytfpgcebphfpkiaa.Crc
