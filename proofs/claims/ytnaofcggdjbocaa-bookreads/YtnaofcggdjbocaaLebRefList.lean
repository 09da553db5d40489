/-
  The document's own answers: what the reference's Nums, All and SameList give.
-/
import Derived.Test.YtnaofcggdjbocaaLebRefGet
import Derived.Test.YtnaofcggdjbocaaLebList
import Derived.Deep.QuietTactic
import Derived.BigQuiet
namespace Go.Proofs.Ytnaofcggdjbocaa.Leb
open Go.RowKit Go.Proofs.Ytnaofcggdjbocaa.Mem
set_option maxRecDepth 100000

/-- The document's Nums. -/
theorem refNums_any (p : Option Addr) (m cap : Nat) (ls : List Int) (hm : ls.length = m) (h200 : m ≤ 200) (hw : ∀ n ∈ ls, Word n) (w : World) (hr : Reads .u64 w p cap ls) :
    Calls Try.prog 36 #[.slice p m cap] w fun e w' => ∃ q c, e = .returned (.slice q (nums ls).length c) ∧ Reads .u8 w' q c (nums ls) ∧ Below w.heap.size w w' := by
  obtain ⟨i0, hi, hz0, hz1, hz2⟩ := info_parts info_byte
  go_enter Try.func36, Try.ntmps36
  go_wp2_with fail
  go_loopw [3, 9] (fun v i wr => ∃ k : Nat, k ≤ m ∧ i = .int .i64 k ∧ wr.ownsRow w.heap.size 5 1 v (nums (ls.take k)).length ((nums (ls.take k)).map (Value.int .u8)) ∧ Below w.heap.size w wr) (fun _ i _ => m - (intOf i).toNat)
  case atStart => exact ⟨0, Nat.zero_le _, rfl, lit_none w, bnew w _⟩
  case round =>
    obtain ⟨k, hk, rfl, hown, hnx⟩ := hrel
    by_cases hlt : k < m
    · obtain ⟨b, o, rfl, _, hcell⟩ := (hr.below hnx).2.2.2 (by omega)
      obtain ⟨x, hx⟩ : ∃ x, x = ls.getD k 0 := ⟨_, rfl⟩
      have hck : wr.cell? ⟨b, o + k, none⟩ = some (.int .u64 x) := by rw [hx]; exact hcell k (by omega)
      have hxw : Word x := by
        rw [hx]
        simp only [List.getD, List.getElem?_eq_getElem (show k < ls.length by omega), Option.getD_some]
        exact hw _ (List.getElem_mem _)
      have hlen : (nums (ls.take k)).length ≤ 2000 := by
        have := nums_len (ls.take k) (fun n hn => hw n (List.mem_of_mem_take hn))
        rw [List.length_take] at this
        omega
      have hl10 := put_le hxw
      have HT : Hid (nums (ls.take (k + 1)) = nums (ls.take k) ++ put x) := by
        show nums (ls.take (k + 1)) = nums (ls.take k) ++ put x
        rw [hx]; exact nums_take ls k (by omega)
      obtain ⟨ys, hys⟩ : ∃ ys, ys = nums (ls.take k) := ⟨_, rfl⟩
      rw [← hys] at hown hlen HT
      clear hx hcell hys
      go_wp2_with (first
        | (go_at_call 65; refine (refPut_any x hxw _).mono ?_; rintro e w1 ⟨g, cp, rfl, hrd1, hb1⟩)
        | (at_builtin; refine wpList_append_own _ rfl _ _ 37 rfl w.heap.size 5 i0 (.int .u8 0) 1 1 Try.underlying37 hi hz0 hz1 hz2 rfl (by decide) _ _ _ rfl (own_below hown hb1) ⟨g, 0, none⟩ (put x).length cp ((put x).map (Value.int .u8)) rfl (by simp) (reads_news hrd1) (ints_oneCell _ _) ?c3 ?c4 ?c5 ?_))
      case c3 => unfold maxLen; omega
      case c4 => omega
      case c5 => have := hnx.size; have := hb1.size; omega
      · intro v' w2 hown' hgrow _
        have R := grew0 (k := .u8) (ys := ys) (zs := put x) (Nat.le_refl _) (hnx.trans (hb1.mono hnx.size)) (own_below hown hb1) hown' hgrow
        rw [← HT.out] at R
        clear hown' hgrow hown hrd1
        go_wp2_with fail
        go_roundw
        case rel => exact ⟨k + 1, by omega, by go_num, R.1, R.2⟩
        case measure => simp [intOf]; omega
    · have hk' : ls.take k = ls := List.take_of_length_le (by omega)
      rw [hk'] at hown
      obtain ⟨_, q, c, hv, hrd⟩ := own_reads hown
      subst hv
      clear hown hk'
      go_wp2_with fail
      go_ret
      exact ⟨q, c, rfl, hrd, hnx⟩

/-- The document's All. -/
theorem refAll_any (p : Option Addr) (m cap : Nat) (zs : List Int) (hm : zs.length = m) (h2000 : m ≤ 2000) (hb : ∀ c ∈ zs, Byte c) (w : World) (hr : Reads .u8 w p cap zs) :
    Calls Try.prog 42 #[.slice p m cap] w fun e w' => ∃ q c, e = .returned (.tuple #[.slice q (lall zs).1.length c, .int .i64 (lall zs).2]) ∧ Reads .u64 w' q c (lall zs).1 ∧ Below w.heap.size w w' := by
  obtain ⟨i0, hi, hz0, hz1, hz2⟩ := info_parts info_word
  obtain ⟨R, hR⟩ : ∃ R, R = lall zs := ⟨_, rfl⟩
  rw [← hR]
  have HR : Hid (R = lall zs) := hR
  clear hR
  go_enter Try.func42, Try.ntmps42
  go_wp2_with fail
  go_loopw [4, 5] (fun u i wr => ∃ (f t : Nat) (out : List Int), t ≤ m ∧ i = .int .i64 t ∧ wr.ownsRow w.heap.size 22 1 u out.length (out.map (Value.int .u64)) ∧
      Below w.heap.size w wr ∧ allF f (zs.drop t) out = R ∧ m - t ≤ f ∧ out.length ≤ 128) (fun _ i _ => m - (intOf i).toNat)
  case atStart => exact ⟨zs.length, 0, [], Nat.zero_le _, rfl, lit_none w, bnew w _, HR.out.symm, by omega, by simp⟩
  case round =>
    obtain ⟨f, t, out, ht, rfl, hown, hnx, hall, hf, ho⟩ := hrel
    have HA : Hid (allF f (zs.drop t) out = R) := hall
    clear hall
    by_cases hpos : t < m
    · obtain ⟨g, rfl⟩ : ∃ g, f = g + 1 := ⟨f - 1, by omega⟩
      have hn : (zs.drop t).length = m - t := by simp; omega
      have hby : ∀ y ∈ zs.drop t, Byte y := fun y hy => hb y (List.mem_of_mem_drop hy)
      have hget := refGet_any (cutP p cap t) (m - t) (cap - t) (zs.drop t) hn hby wr ((hr.cut t (by omega)).below hnx)
      have hcut := fun w => run_from w p m cap t (by omega)
      obtain ⟨_, q', c', hv, hrd'⟩ := own_reads hown
      subst hv
      rcases lget_cases (zs.drop t) with hbad | ⟨x, hx, hle, htk, hgood⟩
      · rw [hbad] at hget
        unfold three at hget
        have hres : R = ([], 21) := by rw [← HA.out, allF_bad (by omega) (by rw [hbad]; simp)]
        clear hown
        go_wp2_with (go_at_call 69; refine hget.mono ?_; rintro e w1 ⟨rfl, hb1⟩)
        go_ret2
        exact ⟨none, 0, by rw [hres]; rfl, by rw [hres]; exact Reads.nil _ _, hnx.trans (hb1.mono hnx.size)⟩
      · rw [hgood] at hget
        unfold three at hget
        by_cases hfull : out.length = 128
        · have hres : R = ([], 21) := by rw [← HA.out, allF_bad (by omega) (.inr hfull)]
          have hd : ((out.length : Int) == 128) = true := by simp; omega
          clear hown
          go_wp2_with (go_at_call 69; refine hget.mono ?_; rintro e w1 ⟨rfl, hb1⟩)
          go_ret2
          exact ⟨none, 0, by rw [hres]; rfl, by rw [hres]; exact Reads.nil _ _, hnx.trans (hb1.mono hnx.size)⟩
        · have HA' : Hid (allF g (zs.drop (t + (put x).length)) (out ++ [x]) = R) := by
            have := HA.out
            rw [allF_good (by omega) (by rw [hgood]; simp; exact hfull), hgood] at this
            show allF g (zs.drop (t + (put x).length)) (out ++ [x]) = R
            simpa [List.drop_drop] using this
          have hd : ((out.length : Int) == 128) = false := by simp; omega
          have hp := put_pos x
          obtain ⟨L, hL⟩ : ∃ L, L = (put x).length := ⟨_, rfl⟩
          rw [← hL] at hget HA' hle hp
          clear hL htk hgood HA hx
          go_wp2_with (first
            | (go_at_call 69; refine hget.mono ?_; rintro e w1 ⟨rfl, hb1⟩)
            | (at_builtin; refine wpList_append_own _ rfl _ _ 65 rfl w.heap.size 22 i0 (.int .u64 0) 1 8 Try.underlying65 hi hz0 hz1 hz2 rfl (by decide) _ _ _ rfl ((own_below hown hb1).alloc _) ⟨w1.heap.size, 0, none⟩ 1 1 [.int .u64 x] rfl rfl one_cell one_one ?c3 ?c4 ?c5 ?_))
          case c3 => unfold maxLen; omega
          case c4 => omega
          case c5 => have := hnx.size; have := hb1.size; simp; omega
          · intro v' w2 hown' hgrow _
            have hnx1 : Below w.heap.size w w1 := hnx.trans (hb1.mono hnx.size)
            have RR := grew (zs := [x]) (Nat.le_refl _) hnx1 (own_below hown hb1) hown' hgrow
            clear hown hown' hgrow
            go_wp2_with fail
            go_roundw
            case rel => exact ⟨g, t + L, out ++ [x], by omega, by go_num, RR.1, RR.2, HA'.out, by omega, by simp; omega⟩
            case measure => simp [intOf]; omega
    · have hd : zs.drop t = [] := List.drop_eq_nil_of_le (by omega)
      have hres : R = (out, 0) := by rw [← HA.out, hd, allF_nil]
      obtain ⟨_, q', c', hv, hrd'⟩ := own_reads hown
      subst hv
      clear hown hd
      go_wp2_with fail
      go_ret2
      exact ⟨q', c', rfl, hrd', hnx⟩

end Go.Proofs.Ytnaofcggdjbocaa.Leb
