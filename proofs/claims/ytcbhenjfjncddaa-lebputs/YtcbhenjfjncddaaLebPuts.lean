/-
  The walk of LebPuts: it returns true, whatever its arguments, and no memory that was there has turned.
-/
import Derived.Test.YtcbhenjfjncddaaLebRefGet
import Derived.Test.YtcbhenjfjncddaaLebAlive
namespace Go.Proofs.Ytcbhenjfjncddaa.Leb
open Go.RowKit

set_option maxHeartbeats 1000000 in
theorem puts_any (n : Int) (hn : Word n) (p : Option Addr) (m cap : Nat) (zs : List Int) (hm : zs.length = m) (hb : ∀ c ∈ zs, Byte c) (w : World) (hr : Reads .u8 w p cap zs) :
    Calls Try.prog 4 #[.int .u64 n, .slice p m cap] w fun e w' => e = .returned (.bool true) ∧ Below w.heap.size w w' := by
  obtain ⟨i0, hi, hz0, hz1, hz2⟩ := info_parts info_byte
  by_cases hbig : 1000 < m
  · have hbig' : (1000 : Int) < (m : Int) := by omega
    go_enter Try.func4, Try.ntmps4
    go_wp2_with (go_at_call 10; refine (alive_any _).mono ?_; rintro e w1 ⟨rfl, hb1⟩)
    go_ret
    exact ⟨rfl, by assumption⟩
  · have hbig' : ¬ (1000 : Int) < (m : Int) := by omega
    obtain ⟨X, hX⟩ : ∃ X, X = lget zs := ⟨_, rfl⟩
    have hg := fun q c w h => get_any q m c zs hm hb w h
    have hg' := fun q c w h => refGet_any q m c zs hm hb w h
    rw [← hX] at hg hg'
    unfold three at hg hg'
    clear hX
    go_enter Try.func4, Try.ntmps4
    go_wp2_with (first
      | (go_at_call 10; refine (alive_any _).mono ?_; rintro e w1 ⟨rfl, hb1⟩)
      | (at_builtin; refine wpList_append_reads _ rfl _ _ 26 rfl w1.heap.size 5 i0 (.int .u8 0) 1 .u8 Try.underlying26 hi hz0 hz1 hz2 rfl _ _ _ rfl (lit_none (k := .u8) w1) p m cap zs rfl hm ((hr.below hb1).alloc _) ?c3 ?c4 ?c5 ?_))
    case c3 => unfold maxLen; simp; omega
    case c4 => simp; omega
    case c5 => simp
    · intro v' w2 hown' hgrow
      have R := grew0 (k := .u8) (ys := []) (zs := zs) (Nat.le_refl _) (bnew w1 _) (lit_none w1) hown' hgrow
      simp only [List.nil_append] at R
      obtain ⟨_, q, c, hv, hrd2⟩ := own_reads R.1
      have hb2 := R.2
      rw [hm] at hv
      rw [hv]
      clear hown' hgrow R hv
      go_wp2_with (first
        | (go_at_call 9; refine (hg _ _ _ hrd2).mono ?_; rintro e w3 ⟨rfl, hb3⟩; have hr3 := ((hr.below hb1).below hb2).below hb3)
        | (go_at_call 12; refine (hg' _ _ _ hr3).mono ?_; rintro e w4 ⟨rfl, hb4⟩)
        | (go_at_call 13; refine (refPut_any n hn _).mono ?_; rintro e w5 ⟨g, cp, rfl, hrd5, hb5⟩; have hcv5 := conv hrd5.drew rfl))
      go_region_held (fun w' => (convert 26 9 (.slice (some ⟨g, 0, none⟩) (put n).length cp)).run Try.prog w' = .ok (.string (str (put n))) w') (first | assumption | simp [go_sem, *])
        (first
        | (go_at_call 14; refine (put_any n hn _).mono ?_; rintro e w6 ⟨g6, cp6, rfl, hrd6, hb6⟩; have hcv6 := conv hrd6 rfl; have hcv7 := conv (hrd5.drew.below hb6) rfl)
        | (go_at_call 11; refine (size_any n hn _).mono ?_; rintro e w7 ⟨rfl, rfl⟩))
      go_wp2_with fail
      go_ret
      exact ⟨rfl, bnext (bnext (bnext (bnext (bnext hb1 hb2) hb3) hb4) hb5) ((Below.refl _ _).drew.trans (by assumption))⟩
end Go.Proofs.Ytcbhenjfjncddaa.Leb
