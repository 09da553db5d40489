/-
  What package leb's Nums and All give, for lists of at most 200 numbers and for every slice of bytes.
-/
import Derived.Test.YtfgndecnakfhnaaLebGet
namespace Go.Proofs.Ytfgndecnakfhnaa.Leb
open Go.RowKit Go.Proofs.Ytfgndecnakfhnaa.Mem
set_option maxRecDepth 100000

/-- leb.Nums. -/
theorem nums_any (p : Option Addr) (m cap : Nat) (ls : List Int) (hm : ls.length = m) (h200 : m ≤ 200) (hw : ∀ n ∈ ls, Word n) (w : World) (hr : Reads .u64 w p cap ls) :
    Calls Try.prog 19 #[.slice p m cap] w fun e w' => ∃ q c, e = .returned (.slice q (nums ls).length c) ∧ Reads .u8 w' q c (nums ls) ∧ Below w.heap.size w w' := by
  go_enter Try.func19, Try.ntmps19
  go_wp2_with fail
  go_loopw [3, 8] (fun v i wr => ∃ k : Nat, k ≤ m ∧ i = .int .i64 k ∧ wr.ownsRow w.heap.size 5 1 v (nums (ls.take k)).length ((nums (ls.take k)).map (Value.int .u8)) ∧ Below w.heap.size w wr) (fun _ i _ => m - (intOf i).toNat)
  case atStart => exact ⟨0, Nat.zero_le _, rfl, World.ownsRow_nil _ _ _ _, Below.refl _ _⟩
  case round =>
    obtain ⟨k, hk, rfl, hown, hnx⟩ := hrel
    by_cases hlt : k < m
    · obtain ⟨b, o, rfl, _, hcell⟩ := (hr.below hnx).2.2.2 (by omega)
      obtain ⟨x, hx⟩ : ∃ x, x = ls.getD k 0 := ⟨_, rfl⟩
      have hck : wr.cell? ⟨b, o + k, none⟩ = some (.int .u64 x) := by rw [hx]; exact hcell k (by omega)
      have hxw : Word x := by
        rw [hx]
        simp only [List.getD, List.getElem?_eq_getElem (show k < ls.length by omega), Option.getD_some]
        exact hw _ (List.getElem_mem _)
      have hlen : (nums (ls.take k)).length ≤ 100000 := by
        have := nums_len (ls.take k) (fun n hn => hw n (List.mem_of_mem_take hn))
        rw [List.length_take] at this
        omega
      have hc := add_any w.heap.size u3 (nums (ls.take k)) x hxw wr hnx.size hlen hown
      rw [hx, ← nums_take ls k (by omega), ← hx] at hc
      clear hx hcell hown hlen
      go_wp2_with (go_at_call 36; refine hc.mono ?_; rintro e w1 ⟨v1, rfl, hown1, hb1⟩)
      go_roundw
      case rel => exact ⟨k + 1, by omega, by go_num, hown1, hnx.trans hb1⟩
      case measure => simp [intOf]; omega
    · have hk' : ls.take k = ls := List.take_of_length_le (by omega)
      rw [hk'] at hown
      obtain ⟨_, q, c, hv, hrd⟩ := own_reads hown
      subst hv
      clear hown hk'
      go_wp2_with fail
      go_ret
      exact ⟨q, c, rfl, hrd, hnx⟩

/-- leb.All. -/
theorem all_any (p : Option Addr) (m cap : Nat) (zs : List Int) (hm : zs.length = m) (hb : ∀ c ∈ zs, Byte c) (w : World) (hr : Reads .u8 w p cap zs) :
    Calls Try.prog 21 #[.slice p m cap] w fun e w' => ∃ q c, e = .returned (.tuple #[.slice q (lall zs).1.length c, .int .i64 (lall zs).2]) ∧ Reads .u64 w' q c (lall zs).1 ∧ Below w.heap.size w w' := by
  obtain ⟨i0, hi, hz0, hz1, hz2⟩ := info_parts info_word
  obtain ⟨R, hR⟩ : ∃ R, R = lall zs := ⟨_, rfl⟩
  rw [← hR]
  have HR : Hid (R = lall zs) := hR
  clear hR
  go_enter Try.func21, Try.ntmps21
  go_wp2_with fail
  go_loopw [0, 4] (fun v u wr => ∃ (f : Nat) (q : Option Addr) (n c : Nat) (rest out : List Int), rest.length = n ∧ v = .slice q n c ∧ Reads .u8 w q c rest ∧ (∀ x ∈ rest, Byte x) ∧ wr.ownsRow w.heap.size 28 1 u out.length (out.map (Value.int .u64)) ∧
      Below w.heap.size w wr ∧ allF f rest out = R ∧ n ≤ f ∧ out.length ≤ 128) (fun v _ _ => sliceLen v)
  case atStart => exact ⟨zs.length, p, m, cap, zs, [], hm, rfl, hr, hb, World.ownsRow_nil _ _ _ _, Below.refl _ _, HR.out.symm, by omega, by simp⟩
  case round =>
    obtain ⟨f, q, n, c, rest, out, hn, rfl, hrd, hby, hown, hnx, hall, hf, ho⟩ := hrel
    have HA : Hid (allF f rest out = R) := hall
    clear hall
    by_cases hpos : 0 < n
    · obtain ⟨g, rfl⟩ : ∃ g, f = g + 1 := ⟨f - 1, by omega⟩
      have hget := get_any q n c rest hn hby wr (hrd.below hnx)
      obtain ⟨_, q', c', hv, hrd'⟩ := own_reads hown
      subst hv
      rcases lget_cases rest with hbad | ⟨x, hx, hle, htk, hgood⟩
      · rw [hbad] at hget
        unfold three at hget
        have hres : R = ([], 21) := by rw [← HA.out, allF_bad (by omega) (by rw [hbad]; simp)]
        clear hown
        go_wp2_with (go_at_call 39; refine hget.mono ?_; rintro e w1 ⟨rfl, hb1⟩)
        go_ret2
        exact ⟨none, 0, by rw [hres]; rfl, by rw [hres]; exact Reads.nil _ _, hnx.trans (hb1.mono hnx.size)⟩
      · rw [hgood] at hget
        unfold three at hget
        by_cases hfull : out.length = 128
        · have hres : R = ([], 21) := by rw [← HA.out, allF_bad (by omega) (.inr hfull)]
          have hd : ((out.length : Int) == 128) = true := by simp; omega
          clear hown
          go_wp2_with (go_at_call 39; refine hget.mono ?_; rintro e w1 ⟨rfl, hb1⟩)
          go_ret2
          exact ⟨none, 0, by rw [hres]; rfl, by rw [hres]; exact Reads.nil _ _, hnx.trans (hb1.mono hnx.size)⟩
        · have HA' : Hid (allF g (rest.drop (put x).length) (out ++ [x]) = R) := by
            have := HA.out
            rw [allF_good (by omega) (by rw [hgood]; simp; exact hfull), hgood] at this
            show allF g (rest.drop (put x).length) (out ++ [x]) = R
            simpa using this
          have hd : ((out.length : Int) == 128) = false := by simp; omega
          have hp := put_pos x
          obtain ⟨L, hL⟩ : ∃ L, L = (put x).length := ⟨_, rfl⟩
          rw [← hL] at hget HA' hle hp
          have hcut := fun w => run_from w q n c L (by omega)
          have hrd2 := hrd.cut L hle
          have hlen : (rest.drop L).length = n - L := by simp; omega
          have hby2 : ∀ y ∈ rest.drop L, Byte y := fun y hy => hby y (List.mem_of_mem_drop hy)
          clear hL htk hgood HA hx
          go_wp2_with (first
            | (go_at_call 39; refine hget.mono ?_; rintro e w1 ⟨rfl, hb1⟩)
            | (at_builtin; refine wpList_append_own _ rfl _ _ 43 rfl w.heap.size 28 i0 (.int .u64 0) 1 8 Try.underlying43 hi hz0 hz1 hz2 rfl (by decide) _ _ _ rfl ((own_below hown hb1).alloc _) ⟨w1.heap.size, 0, none⟩ 1 1 [.int .u64 x] rfl rfl one_cell one_one ?c3 ?c4 ?c5 ?_))
          case c3 => unfold maxLen; omega
          case c4 => omega
          case c5 => have := hnx.size; have := hb1.size; simp; omega
          · intro v' w2 hown' hgrow _
            have hnx1 : Below w.heap.size w w1 := hnx.trans (hb1.mono hnx.size)
            have RR := grew (zs := [x]) (Nat.le_refl _) hnx1 (own_below hown hb1) hown' hgrow
            clear hown hown' hgrow
            go_wp2_with fail
            go_roundw
            case rel => exact ⟨g, cutP q c L, n - L, c - L, rest.drop L, out ++ [x], hlen, rfl, hrd2, hby2, RR.1, RR.2, HA'.out, by omega, by simp; omega⟩
            case measure => simp [sliceLen]; omega
    · obtain rfl : n = 0 := by omega
      obtain rfl : rest = [] := List.eq_nil_of_length_eq_zero hn
      have hres : R = (out, 0) := by rw [← HA.out, allF_nil]
      obtain ⟨_, q', c', hv, hrd'⟩ := own_reads hown
      subst hv
      clear hown
      go_wp2_with fail
      go_ret2
      exact ⟨q', c', rfl, hrd', hnx⟩
end Go.Proofs.Ytfgndecnakfhnaa.Leb
