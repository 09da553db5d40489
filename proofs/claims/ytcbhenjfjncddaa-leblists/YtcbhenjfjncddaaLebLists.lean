/-
  The walk of LebLists: it returns true, whatever its arguments, and no memory that was there has turned.
-/
import Derived.Test.YtcbhenjfjncddaaLebRefList
import Derived.Test.YtcbhenjfjncddaaLebAlive
namespace Go.Proofs.Ytcbhenjfjncddaa.Leb
open Go.RowKit

/-- What is read all along a statement whose order is open. -/
def Held (w : World) (p : Option Addr) (c : Nat) (ls : List Int) (q1 : Option Addr) (c1 : Nat) (q2 : Option Addr) (c2 : Nat) (ms : List Int) (w' : World) : Prop :=
  Reads .u64 w' p c ls ∧ Reads .u64 w' q1 c1 ms ∧ Reads .u64 w' q2 c2 ms ∧ Below w.heap.size w w'
theorem Held.next {w w1 w2 : World} {p q1 q2 : Option Addr} {c c1 c2 : Nat} {ls ms : List Int} (h : Held w p c ls q1 c1 q2 c2 ms w1) (hb : Below w1.heap.size w1 w2) : Held w p c ls q1 c1 q2 c2 ms w2 :=
  ⟨h.1.below hb, h.2.1.below hb, h.2.2.1.below hb, bnext h.2.2.2 hb⟩
theorem Held.drew {w w1 : World} {p q1 q2 : Option Addr} {c c1 c2 : Nat} {ls ms : List Int} (h : Held w p c ls q1 c1 q2 c2 ms w1) : Held w p c ls q1 c1 q2 c2 ms w1.drew :=
  h.next (Below.refl _ _).drew

set_option maxHeartbeats 4000000 in
theorem lists_any (p : Option Addr) (m cap : Nat) (ls : List Int) (hm : ls.length = m) (hw : ∀ n ∈ ls, Word n) (p2 : Option Addr) (m2 cap2 : Nat) (zs : List Int) (hm2 : zs.length = m2) (hb : ∀ c ∈ zs, Byte c)
    (w : World) (hr : Reads .u64 w p cap ls) (hr2 : Reads .u8 w p2 cap2 zs) :
    Calls Try.prog 5 #[.slice p m cap, .slice p2 m2 cap2] w fun e w' => e = .returned (.bool true) ∧ Below w.heap.size w w' := by
  obtain ⟨i0, hi, hz0, hz1, hz2⟩ := info_parts info_byte
  by_cases hbig : 200 < m
  · have hbig' : (200 : Int) < (m : Int) := by omega
    go_enter Try.func5, Try.ntmps5
    go_wp2_with (go_at_call 10; refine (alive_any _).mono ?_; rintro e w1 ⟨rfl, hb1⟩)
    go_ret
    exact ⟨rfl, by assumption⟩
  have hbig' : ¬ (200 : Int) < (m : Int) := by omega
  by_cases hbig2 : 1000 < m2
  · have hbig2' : (1000 : Int) < (m2 : Int) := by omega
    go_enter Try.func5, Try.ntmps5
    go_wp2_with (go_at_call 10; refine (alive_any _).mono ?_; rintro e w1 ⟨rfl, hb1⟩)
    go_ret
    exact ⟨rfl, by assumption⟩
  have hbig2' : ¬ (1000 : Int) < (m2 : Int) := by omega
  obtain ⟨R, hR⟩ : ∃ R, R = lall zs := ⟨_, rfl⟩
  have hg := fun q c w h => all_any q m2 c zs hm2 hb w h
  have hg' := fun q c w h => refAll_any q m2 c zs hm2 (by omega) hb w h
  rw [← hR] at hg hg'
  clear hR
  obtain ⟨ms, er⟩ := R
  simp only at hg hg'
  have hle : m ≤ 200 := by omega
  go_enter Try.func5, Try.ntmps5
  go_wp2_with (first
    | (go_at_call 10; refine (alive_any _).mono ?_; rintro e w1 ⟨rfl, hb1⟩)
    | (at_builtin; refine wpList_append_reads _ rfl _ _ 26 rfl w1.heap.size 5 i0 (.int .u8 0) 1 .u8 Try.underlying26 hi hz0 hz1 hz2 rfl _ _ _ rfl (lit_none (k := .u8) w1) p2 m2 cap2 zs rfl hm2 ((hr2.below hb1).alloc _) ?c3 ?c4 ?c5 ?_))
  case c3 => unfold maxLen; simp; omega
  case c4 => simp; omega
  case c5 => simp
  · intro v' w2 hown' hgrow
    have R := grew0 (k := .u8) (ys := []) (zs := zs) (Nat.le_refl _) (bnew w1 _) (lit_none w1) hown' hgrow
    simp only [List.nil_append] at R
    obtain ⟨_, q, c, hv, hrd2⟩ := own_reads R.1
    have hb2 := R.2
    rw [hm2] at hv
    rw [hv]
    clear hown' hgrow R hv
    go_wp2_with (first
      | (go_at_call 15; refine (hg _ _ _ hrd2).mono ?_; rintro e w3 ⟨q3, c3, rfl, hrd3, hb3⟩; have hr3 := ((hr2.below hb1).below hb2).below hb3)
      | (go_at_call 16; refine (hg' _ _ _ hr3).mono ?_; rintro e w4 ⟨q4, c4, rfl, hrd4, hb4⟩; have hH : Held w p cap ls q3 c3 q4 c4 ms w4 := ⟨(((hr.below hb1).below hb2).below hb3).below hb4, hrd3.below hb4, hrd4, bnext (bnext (bnext hb1 hb2) hb3) hb4⟩; have hHd := hH.drew))
    go_region_held (Held w p cap ls q3 c3 q4 c4 ms) (assumption)
      (first
      | (go_at_call 17; refine (nums_any p m cap ls hm hle hw _ ?_).mono ?_; exact And.left (by assumption); rintro e w6 ⟨q6, c6, rfl, hrd6, hb6⟩; have hH6 := Held.next (by assumption) hb6; have hcv6 := conv hrd6 rfl; (try have hcv76 := conv (hrd7.below hb6) rfl))
      | (go_at_call 18; refine (refNums_any p m cap ls hm hle hw _ ?_).mono ?_; exact And.left (by assumption); rintro e w7 ⟨q7, c7, rfl, hrd7, hb7⟩; have hH7 := Held.next (by assumption) hb7; have hcv7 := conv hrd7 rfl; (try have hcv67 := conv (hrd6.below hb7) rfl))
      | (go_at_call 19; refine (same_any q3 q4 ms.length c3 c4 ms rfl _ ?_ ?_).mono ?_; exact (And.right (by assumption : Held w p cap ls q3 c3 q4 c4 ms _)).1; exact (And.right (by assumption : Held w p cap ls q3 c3 q4 c4 ms _)).2.1; rintro e w8 ⟨rfl, hb8⟩; have hH8 := Held.next (by assumption) hb8))
    all_goals
      go_wp2_with fail
      go_ret
      exact ⟨rfl, (by assumption : Held w p cap ls q3 c3 q4 c4 ms _).2.2.2⟩
end Go.Proofs.Ytcbhenjfjncddaa.Leb
