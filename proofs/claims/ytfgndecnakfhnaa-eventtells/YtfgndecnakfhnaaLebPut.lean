/-
  What package leb's add and Put give, for every input of their types: one contract a function.
-/
import Derived.Test.YtfgndecnakfhnaaLebMem
namespace Go.Proofs.Ytfgndecnakfhnaa.Leb
open Go.RowKit Go.Proofs.Ytfgndecnakfhnaa.Mem
set_option maxRecDepth 100000

theorem add_any (B : Nat) (v0 : Value) (xs : List Int) (n0 : Int) (hn0 : Word n0) (w : World) (hB : B ≤ w.heap.size) (hx : xs.length ≤ 100000)
    (hown0 : w.ownsRow B 5 1 v0 xs.length (xs.map (Value.int .u8))) :
    Calls Try.prog 36 #[v0, .int .u64 n0] w fun e w' => ∃ v, e = .returned v ∧ w'.ownsRow B 5 1 v (xs ++ put n0).length ((xs ++ put n0).map (Value.int .u8)) ∧ Below B w w' := by
  obtain ⟨i0, hi, hz0, hz1, hz2⟩ := info_parts info_byte
  have hp10 := put_le hn0
  go_enter Try.func36, Try.ntmps36
  go_wp2_with fail
  go_loopw [0, 1] (fun v n wr => ∃ (m : Int) (ys : List Int), Word m ∧ n = .int .u64 m ∧ wr.ownsRow B 5 1 v ys.length (ys.map (Value.int .u8)) ∧ ys ++ put m = xs ++ put n0 ∧ Below B w wr) (fun _ n _ => (intOf n).toNat)
  case atStart => exact ⟨n0, xs, hn0, rfl, hown0, rfl, Below.refl _ _⟩
  case round =>
    obtain ⟨m, ys, ⟨hm0, hm1⟩, rfl, hown, hys, hnx⟩ := hrel
    have HY : Hid (ys ++ put m = xs ++ put n0) := hys
    have hlen : ys.length ≤ 100010 := by
      have := congrArg List.length hys
      simp only [List.length_append] at this
      omega
    clear hys hown0
    by_cases hm : m < 128
    · go_wp2_with (at_builtin; refine wpList_append_own _ rfl _ _ 22 rfl B 5 i0 (.int .u8 0) 1 1 Try.underlying22 hi hz0 hz1 hz2 rfl (by decide) _ _ _ rfl (hown.alloc _) ⟨wr.heap.size, 0, none⟩ 1 1 [.int .u8 m] rfl rfl one_cell one_one ?c3 ?c4 ?c5 ?_)
      case c3 => unfold maxLen; omega
      case c4 => omega
      case c5 => have := hnx.size; simp; omega
      · intro v' w1 hown' hgrow _
        have R := grew (zs := [m]) hB hnx hown hown' hgrow
        rw [← put_small hm, HY.out] at R
        clear hown hown' hgrow
        go_wp2_with fail
        go_ret
        exact ⟨v', rfl, R.1, R.2⟩
    · have hor : bits .or .u8 (m % 256) 128 = 128 + m % 128 := by
        rw [high_of_byte ⟨by omega, by omega⟩]; omega
      have hor' : bits .or .u8 (IntKind.u8.wrap m) 128 = 128 + m % 128 := by
        rw [IntKind.wrap_u8]; exact hor
      go_wp2_with (at_builtin; refine wpList_append_own _ rfl _ _ 22 rfl B 5 i0 (.int .u8 0) 1 1 Try.underlying22 hi hz0 hz1 hz2 rfl (by decide) _ _ _ rfl (hown.alloc _) ⟨wr.heap.size, 0, none⟩ 1 1 [.int .u8 (128 + m % 128)] rfl rfl one_cell one_one ?d3 ?d4 ?d5 ?_)
      case d3 => unfold maxLen; omega
      case d4 => omega
      case d5 => have := hnx.size; simp; omega
      · intro v' w1 hown' hgrow _
        have R := grew (zs := [128 + m % 128]) hB hnx hown hown' hgrow
        clear hown hown' hgrow hor hor'
        go_wp2_with fail
        go_roundw
        case rel => exact ⟨m / 128, ys ++ [128 + m % 128], ⟨by omega, by omega⟩, by first | rfl | go_num, R.1, by rw [← HY.out, put_big (n := m) (by omega)]; simp, R.2⟩
        case measure => simp [intOf]; omega

theorem put_any (n : Int) (hn : Word n) (w : World) :
    Calls Try.prog 61 #[.int .u64 n] w fun e w' => ∃ g cap, e = .returned (.slice (some ⟨g, 0, none⟩) (put n).length cap) ∧ Reads .u8 w' (some ⟨g, 0, none⟩) cap (put n) ∧ Below w.heap.size w w' := by
  have hc := add_any w.heap.size (.slice none 0 0) [] n hn w (Nat.le_refl _) (by simp) (World.ownsRow_nil _ _ _ _)
  go_enter Try.func61, Try.ntmps61
  go_wp2_with (go_at_call 36; refine hc.mono ?_; rintro e w' ⟨v, rfl, hown, hb⟩)
  go_ret
  obtain ⟨g, cap, hv, hr⟩ := own_reads_pos hown (by simpa using put_pos n)
  exact ⟨g, cap, by rw [hv]; rfl, hr, hb⟩
end Go.Proofs.Ytfgndecnakfhnaa.Leb
