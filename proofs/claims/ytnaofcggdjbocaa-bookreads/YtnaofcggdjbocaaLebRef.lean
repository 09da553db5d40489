/-
  The document's own answers: what the reference's Put and Get give.
-/
import Derived.Test.YtnaofcggdjbocaaLebList
import Derived.Deep.RegionHeld3
namespace Go.Proofs.Ytnaofcggdjbocaa.Leb
open Go.RowKit Go.Proofs.Ytnaofcggdjbocaa.Mem
set_option maxRecDepth 100000

theorem refPut_rec (k : Nat) : ∀ (n : Int) (w : World), Word n → n.toNat ≤ k →
    Calls Try.prog 65 #[.int .u64 n] w fun e w' => ∃ v, e = .returned v ∧ w'.ownsRow w.heap.size 5 1 v (put n).length ((put n).map (Value.int .u8)) ∧ Below w.heap.size w w' := by
  induction k with
  | zero =>
    intro n w hn hk
    obtain ⟨n0, n1⟩ := hn
    have hs : n < 128 := by omega
    have ho := World.ownsRow_lit (base := w.heap.size) (e := 5) (size := 1) w #[.int .u8 n] 1 (Nat.le_refl _) (by decide) rfl
    rw [put_small hs]
    go_enter Try.func65, Try.ntmps65
    go_wp2_with fail
    go_ret
    exact ⟨_, rfl, ho, bnew w _⟩
  | succ k ih =>
    intro n w hn hk
    obtain ⟨n0, n1⟩ := hn
    obtain ⟨i0, hi, hz0, hz1, hz2⟩ := info_parts info_byte
    by_cases hs : n < 128
    · have ho := World.ownsRow_lit (base := w.heap.size) (e := 5) (size := 1) w #[.int .u8 n] 1 (Nat.le_refl _) (by decide) rfl
      rw [put_small hs]
      go_enter Try.func65, Try.ntmps65
      go_wp2_with fail
      go_ret
      exact ⟨_, rfl, ho, bnew w _⟩
    · have ho := World.ownsRow_lit (base := w.heap.size) (e := 5) (size := 1) w #[.int .u8 (128 + n % 128)] 1 (Nat.le_refl _) (by decide) rfl
      have hr := ih (n / 128) (w.alloc (.cells #[.int .u8 (128 + n % 128)] 5)) ⟨by omega, by omega⟩ (by omega)
      have hl := put_le (n := n / 128) ⟨by omega, by omega⟩
      rw [put_big hs]
      go_enter Try.func65, Try.ntmps65
      go_wp2_with (first
        | (go_at_call 65; refine hr.mono ?_; rintro e w1 ⟨v1, rfl, hown1, hb1⟩; obtain ⟨g, cp, hv1, hrd⟩ := own_reads_pos hown1 (put_pos _); rw [hv1])
        | (at_builtin; refine wpList_append_own _ rfl _ _ 37 rfl w.heap.size 5 i0 (.int .u8 0) 1 1 Try.underlying37 hi hz0 hz1 hz2 rfl (by decide) _ _ _ rfl (own_below ho hb1) ⟨g, 0, none⟩ (put (n / 128)).length cp ((put (n / 128)).map (Value.int .u8)) rfl (by simp) (reads_news hrd) (ints_oneCell _ _) ?c3 ?c4 ?c5 ?_))
      case c3 => unfold maxLen; omega
      case c4 => omega
      case c5 => have := hb1.size; simp at this; omega
      · intro v' w2 hown' hgrow _
        have hbw : Below w.heap.size w w1 := bnext (bnew w _) hb1
        have R := grew0 (k := .u8) (ys := [128 + n % 128]) (zs := put (n / 128)) (Nat.le_refl _) hbw (own_below ho hb1) hown' hgrow
        clear hown' hgrow hown1 hrd
        go_wp2_with fail
        go_ret
        exact ⟨v', rfl, R.1, R.2⟩

/-- The document's Put. -/
theorem refPut_any (n : Int) (hn : Word n) (w : World) :
    Calls Try.prog 65 #[.int .u64 n] w fun e w' => ∃ g cap, e = .returned (.slice (some ⟨g, 0, none⟩) (put n).length cap) ∧ Reads .u8 w' (some ⟨g, 0, none⟩) cap (put n) ∧ Below w.heap.size w w' := by
  refine (refPut_rec n.toNat n w hn (Nat.le_refl _)).mono ?_
  rintro e w' ⟨v, rfl, hown, hb⟩
  obtain ⟨g, cap, hv, hr⟩ := own_reads_pos hown (put_pos n)
  exact ⟨g, cap, by rw [hv], hr, hb⟩
end Go.Proofs.Ytnaofcggdjbocaa.Leb
