/-
  The document's Seal and Open, as they are typed out.
-/
import Derived.Test.YthgafnommcodcaaCrcRef
import Derived.Deep.RegionHeld3
namespace Go.Proofs.Ythgafnommcodcaa.Crc
open Go.RowKit Go.Proofs.Ythgafnommcodcaa.Mem

/-- What is read all along a statement whose order is open. -/
def Kept (w : World) (p : Option Addr) (c : Nat) (zs : List Int) (w' : World) : Prop := Reads .u8 w' p c zs ∧ Below w.heap.size w w'
theorem Kept.next {w w1 w2 : World} {p : Option Addr} {c : Nat} {zs : List Int} (h : Kept w p c zs w1) (hb : Below w1.heap.size w1 w2) : Kept w p c zs w2 := ⟨h.1.below hb, bnext h.2 hb⟩
theorem Kept.drew {w w1 : World} {p : Option Addr} {c : Nat} {zs : List Int} (h : Kept w p c zs w1) : Kept w p c zs w1.drew := h.next (Below.refl _ _).drew

theorem ref_Seal (p : Option Addr) (n c : Nat) (xs : List Int) (l : xs.length = n) (hx : ∀ c ∈ xs, Byte c) (hn : n ≤ 1000) (w : World) (r : Reads .u8 w p c xs) :
    Calls Try.prog 67 #[.slice p n c] w fun e w' => ∃ q d, e = .returned (.slice q (n + 4) d) ∧ Reads .u8 w' q d (sealed xs) ∧ Below w.heap.size w w' := by
  obtain ⟨i0, hi, hz0, hz1, hz2⟩ := info_parts info_byte
  have hc := ref_Of p n c xs l hx hn w r
  have hs := enc_half (sum xs)
  obtain ⟨S, hS⟩ : ∃ S, S = enc (sum xs) := ⟨_, rfl⟩
  rw [← hS] at hs hc
  have hfour : [S / 16777216, S / 65536 % 256, S / 256 % 256, S % 256] = four (sum xs) := by
    rw [hS]
    unfold enc four
    simp
  clear hS
  have h0 : (w.alloc (.cells #[] 5)).ownsRow w.heap.size 5 1 (.slice (some ⟨w.heap.size, 0, none⟩) 0 0) ([] : List Int).length (([] : List Int).map (Value.int .u8)) := lit_none (k := .u8) w
  go_enter Try.func67, Try.ntmps67
  go_wp2_with (first
    | (go_at_call 77; refine hc.mono ?_; rintro e w1 ⟨rfl, rfl⟩)
    | (at_builtin; refine wpList_append_reads _ rfl _ _ 48 rfl w1.heap.size 5 i0 (.int .u8 0) 1 .u8 Try.underlying48 hi hz0 hz1 hz2 rfl (.slice (some ⟨w1.heap.size, 0, none⟩) 0 0) 0 [] rfl h0 p n c xs rfl l (r.alloc _) ?c3 ?c4 ?c5 ?_))
  case c3 => unfold maxLen; omega
  case c4 => omega
  case c5 => simp
  · intro v3 w3 hown3 hg3
    have R := grew0 (ys := []) (zs := xs) (Nat.le_refl _) (bnew w1 _) h0 hown3 hg3
    clear hown3 hg3 hc h0
    obtain ⟨hown3, hb3⟩ := R
    rw [List.nil_append, l] at hown3
    have hl4 : Reads .u8 (w3.alloc (.cells #[.int .u8 (S / 16777216), .int .u8 (S / 65536 % 256), .int .u8 (S / 256 % 256), .int .u8 (S % 256)] 5)) (some ⟨w3.heap.size, 0, none⟩) 4 [S / 16777216, S / 65536 % 256, S / 256 % 256, S % 256] := lit_reads rfl rfl (by simp)
    rw [hfour] at hl4
    go_wp2_with (at_builtin; refine wpList_append_reads _ rfl _ _ 48 rfl w1.heap.size 5 i0 (.int .u8 0) 1 .u8 Try.underlying48 hi hz0 hz1 hz2 rfl v3 n (xs.map (Value.int .u8)) rfl (hown3.alloc _) (some ⟨w3.heap.size, 0, none⟩) 4 4 (four (sum xs)) rfl rfl hl4 ?c3 ?c4 ?c5 ?_)
    case c3 => unfold maxLen; omega
    case c4 => omega
    case c5 => have := hb3.size; simp; omega
    · intro v4 w4 hown4 hg4
      rw [← l] at hown3
      have R := grew (ys := xs) (zs := four (sum xs)) (Nat.le_refl _) hb3 hown3 hown4 hg4
      clear hown3 hown4 hg4
      obtain ⟨hown4, hb4⟩ := R
      obtain ⟨_, q, d, hv, hrd⟩ := own_reads hown4
      rw [show (xs ++ four (sum xs)).length = n + 4 by rw [List.length_append, l]; rfl] at hv
      subst hv
      clear hown4
      go_wp2
      go_ret
      exact ⟨q, d, rfl, hrd, hb4⟩
end Go.Proofs.Ythgafnommcodcaa.Crc
