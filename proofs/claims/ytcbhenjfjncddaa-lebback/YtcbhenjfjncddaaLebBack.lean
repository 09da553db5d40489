/-
  The walk of LebBack: it returns true, whatever its arguments, and no memory that was there has turned.
-/
import Derived.Test.YtcbhenjfjncddaaLebRefList
import Derived.Test.YtcbhenjfjncddaaLebAlive
namespace Go.Proofs.Ytcbhenjfjncddaa.Leb
open Go.RowKit

theorem nums_drop (ls : List Int) (k : Nat) : (nums ls).drop (nums (ls.take k)).length = nums (ls.drop k) := by
  conv => lhs; arg 2; rw [← List.take_append_drop k ls, nums_append]
  exact List.drop_left
theorem nums_at (ls : List Int) (k : Nat) (h : k < ls.length) : nums (ls.drop k) = put (ls.getD k 0) ++ nums (ls.drop (k + 1)) := by
  rw [List.drop_eq_getElem_cons h]
  simp [nums, h]
theorem nums_le (ls : List Int) (k : Nat) : (nums (ls.take k)).length ≤ (nums ls).length := by
  have h := congrArg List.length (nums_append (ls.take k) (ls.drop k))
  rw [List.take_append_drop] at h
  simp at h
  omega

/-- What is read all along the last statement. -/
def Kept (w : World) (p : Option Addr) (c : Nat) (zs : List Int) (q : Option Addr) (d : Nat) (ms : List Int) (w' : World) : Prop :=
  Reads .u8 w' p c zs ∧ Reads .u64 w' q d ms ∧ Below w.heap.size w w'
theorem Kept.next {w w1 w2 : World} {p q : Option Addr} {c d : Nat} {zs ms : List Int} (h : Kept w p c zs q d ms w1) (hb : Below w1.heap.size w1 w2) : Kept w p c zs q d ms w2 :=
  ⟨h.1.below hb, h.2.1.below hb, bnext h.2.2 hb⟩
theorem Kept.drew {w w1 : World} {p q : Option Addr} {c d : Nat} {zs ms : List Int} (h : Kept w p c zs q d ms w1) : Kept w p c zs q d ms w1.drew :=
  h.next (Below.refl _ _).drew

set_option maxHeartbeats 800000 in
theorem back_any (p : Option Addr) (m cap : Nat) (ls : List Int) (hm : ls.length = m) (hw : ∀ n ∈ ls, Word n) (p2 : Option Addr) (m2 cap2 : Nat) (zs : List Int) (hm2 : zs.length = m2) (hb : ∀ c ∈ zs, Byte c)
    (w : World) (hr : Reads .u64 w p cap ls) (hr2 : Reads .u8 w p2 cap2 zs) :
    Calls Try.prog 7 #[.slice p m cap, .slice p2 m2 cap2] w fun e w' => e = .returned (.bool true) ∧ Below w.heap.size w w' := by
  obtain ⟨i0, hi, hz0, hz1, hz2⟩ := info_parts info_byte
  by_cases hbig : 64 < m
  · have hbig' : (64 : Int) < (m : Int) := by omega
    go_enter Try.func7, Try.ntmps7
    go_wp2_with (go_at_call 10; refine (alive_any _).mono ?_; rintro e w1 ⟨rfl, hb1⟩)
    go_ret
    exact ⟨rfl, by assumption⟩
  have hbig' : ¬ (64 : Int) < (m : Int) := by omega
  by_cases hbig2 : 1000 < m2
  · have hbig2' : (1000 : Int) < (m2 : Int) := by omega
    go_enter Try.func7, Try.ntmps7
    go_wp2_with (go_at_call 10; refine (alive_any _).mono ?_; rintro e w1 ⟨rfl, hb1⟩)
    go_ret
    exact ⟨rfl, by assumption⟩
  have hbig2' : ¬ (1000 : Int) < (m2 : Int) := by omega
  have hle : m ≤ 200 := by omega
  have hxb := nums_bytes ls hw
  have hxl := nums_len ls hw
  obtain ⟨N, hN⟩ : ∃ N, (nums ls).length = N := ⟨_, rfl⟩
  have hnum := fun w h => nums_any p m cap ls hm hle hw w h
  have hall := fun q c w h => all_any q N c (nums ls) hN hxb w h
  rw [lall_nums ls hw (by omega)] at hall
  simp only at hall
  rw [hN] at hnum hxl
  rw [hm] at hall hxl
  go_enter Try.func7, Try.ntmps7
  go_wp2_with (first
    | (go_at_call 10; refine (alive_any _).mono ?_; rintro e w1 ⟨rfl, hb1⟩)
    | (go_at_call 17; refine (hnum _ (hr.below hb1)).mono ?_; rintro e w2 ⟨q1, c1, rfl, hrx, hb2⟩)
    | (go_at_call 15; refine (hall _ _ _ hrx).mono ?_; rintro e w3 ⟨q2, c2, rfl, hrk, hb3⟩)
    | (go_at_call 19; refine (same_any _ _ _ _ _ ls hm _ hrk (((hr.below hb1).below hb2).below hb3)).mono ?_; rintro e w4 ⟨rfl, hb4⟩))
  have hbw : Below w.heap.size w w4 := bnext (bnext (bnext hb1 hb2) hb3) hb4
  have hrx4 := (hrx.below hb3).below hb4
  have hr4 := hr.below hbw
  have hr24 := hr2.below hbw
  clear hb1 hb2 hb3 hb4 hrx hrk hr hr2 hnum hall
  go_loopw [8, 43] (fun t i wr => ∃ k : Nat, k ≤ m ∧ i = .int .i64 k ∧ t = .int .i64 ((nums (ls.take k)).length : Int) ∧ Below w4.heap.size w4 wr) (fun _ i _ => m - (intOf i).toNat)
  case atStart => exact ⟨0, Nat.zero_le _, rfl, rfl, Below.refl _ _⟩
  case round =>
    obtain ⟨k, hk, rfl, rfl, hnx⟩ := hrel
    by_cases hlt : k < m
    · obtain ⟨b, o, rfl, _, hcell⟩ := (hr4.below hnx).2.2.2 (by omega)
      obtain ⟨x, hx⟩ : ∃ x, x = ls.getD k 0 := ⟨_, rfl⟩
      have hck : wr.cell? ⟨b, o + k, none⟩ = some (.int .u64 x) := by rw [hx]; exact hcell k (by omega)
      have hxw : Word x := by
        rw [hx]
        simp only [List.getD, List.getElem?_eq_getElem (show k < ls.length by omega), Option.getD_some]
        exact hw _ (List.getElem_mem _)
      have h1 := nums_le ls (k + 1)
      have h2 := nums_le ls k
      have h3 := nums_take ls k (by omega)
      have h4 := nums_drop ls k
      have h5 := nums_at ls k (by omega)
      obtain ⟨L, hL⟩ : ∃ L, L = (nums (ls.take k)).length := ⟨_, rfl⟩
      obtain ⟨U, hU⟩ : ∃ U, U = (put x).length := ⟨_, rfl⟩
      rw [← hL]
      have hLU : (nums (ls.take (k + 1))).length = L + U := by rw [h3, List.length_append, hL, hU, hx]
      rw [← hL] at h2 h4
      rw [hLU, hN] at h1
      rw [hN] at h2
      rw [← hx] at h5
      have hrest : ((nums ls).drop L).length = N - L := by rw [List.length_drop, hN]
      have hrc := ((hrx4.below hnx).cut L (by omega)).alloc (.cells #[] 5)
      have hcut := fun w => run_from w q1 N c1 L (by omega)
      have hsz := fun w => size_any x hxw w
      rw [← hU] at hsz
      obtain ⟨rs, hrs⟩ : ∃ rs, rs = (nums ls).drop L := ⟨_, rfl⟩
      have hget : lget (rs ++ zs) = (x, (U : Int), 0) := by
        rw [hrs, h4, h5, List.append_assoc, lget_put hxw, hU]
      have hbys : ∀ c ∈ rs ++ zs, Byte c := fun c hc => by
        rcases List.mem_append.1 hc with hc | hc
        · rw [hrs] at hc; exact hxb c (List.mem_of_mem_drop hc)
        · exact hb c hc
      rw [← hrs] at hrc hrest
      have HLU : Hid ((nums (ls.take (k + 1))).length = L + U) := hLU
      clear hx hcell h3 h4 h5 hL hU hLU hrs
      go_wp2_with (at_builtin; refine wpList_append_reads _ rfl _ _ 26 rfl wr.heap.size 5 i0 (.int .u8 0) 1 .u8 Try.underlying26 hi hz0 hz1 hz2 rfl _ _ _ rfl (lit_none (k := .u8) wr) (cutP q1 c1 L) (N - L) (c1 - L) rs rfl hrest hrc ?c3 ?c4 ?c5 ?_)
      case c3 => unfold maxLen; simp; omega
      case c4 => simp; omega
      case c5 => simp
      · intro v1 w5 hown1 hgrow1
        have R1 := grew0 (k := .u8) (ys := []) (zs := rs) (Nat.le_refl _) (bnew wr _) (lit_none wr) hown1 hgrow1
        simp only [List.nil_append] at R1
        obtain ⟨R1o, R1b⟩ := R1
        clear hown1 hgrow1 hrc
        have hr25 := (hr24.below hnx).below R1b
        go_wp2_with (at_builtin; refine wpList_append_reads _ rfl _ _ 26 rfl wr.heap.size 5 i0 (.int .u8 0) 1 .u8 Try.underlying26 hi hz0 hz1 hz2 rfl v1 rs.length (rs.map (Value.int .u8)) rfl R1o p2 m2 cap2 zs rfl hm2 hr25 ?d3 ?d4 ?d5 ?_)
        case d3 => unfold maxLen; omega
        case d4 => omega
        case d5 => exact R1b.size
        · intro v2 w6 hown2 hgrow2
          have R2 := grew0 (k := .u8) (ys := rs) (zs := zs) (Nat.le_refl _) R1b R1o hown2 hgrow2
          obtain ⟨_, q, c, hv, hrd⟩ := own_reads R2.1
          have R2b := R2.2
          obtain ⟨M, hM⟩ : ∃ M, (rs ++ zs).length = M := ⟨_, rfl⟩
          rw [hM] at hv
          have hgt := get_any q M c (rs ++ zs) hM hbys w6 hrd
          rw [hget] at hgt
          unfold three at hgt
          rw [hv]
          clear hown2 hgrow2 R2 hv R1o R1b hrd hget hM
          go_wp2_with (first
            | (go_at_call 9; refine hgt.mono ?_; rintro e w7 ⟨rfl, hb7⟩)
            | (go_at_call 11; refine (hsz _).mono ?_; rintro e w8 ⟨rfl, hw8⟩; subst hw8))
          go_roundw
          case rel => exact ⟨k + 1, by omega, by go_num, by rw [HLU.out]; go_num, bnext hnx (bnext R2b (by assumption))⟩
          case measure => simp [intOf]; omega
    · have hk' : (nums (ls.take k)).length = N := by rw [List.take_of_length_le (by omega), hN]
      rw [hk']
      have hr2r := hr24.below hnx
      have hbr := bnext hbw hnx
      clear hk' hrx4 hr4 hr24 hbw hnx
      go_wp2_with (at_builtin; refine wpList_append_reads _ rfl _ _ 26 rfl wr.heap.size 5 i0 (.int .u8 0) 1 .u8 Try.underlying26 hi hz0 hz1 hz2 rfl _ _ _ rfl (lit_none (k := .u8) wr) p2 m2 cap2 zs rfl hm2 (hr2r.alloc _) ?e3 ?e4 ?e5 ?_)
      case e3 => unfold maxLen; simp; omega
      case e4 => simp; omega
      case e5 => simp
      · intro v1 w5 hown1 hgrow1
        have R1 := grew0 (k := .u8) (ys := []) (zs := zs) (Nat.le_refl _) (bnew wr _) (lit_none wr) hown1 hgrow1
        simp only [List.nil_append] at R1
        obtain ⟨R1o, R1b⟩ := R1
        obtain ⟨_, q, c, hv, hrd⟩ := own_reads R1o
        rw [hm2] at hv
        have hal := all_any q m2 c zs hm2 hb w5 hrd
        rw [hv]
        clear hown1 hgrow1 R1o hv hrd
        rcases lall_back zs with hbad | ⟨ms, hgood, hnm, hmw, hml⟩
        · rw [hbad] at hal
          go_wp2_with (go_at_call 15; refine hal.mono ?_; rintro e w6 ⟨q6, c6, rfl, hrd6, hb6⟩)
          go_quiet (fail)
          go_wp2_with fail
          go_ret
          exact ⟨rfl, bnext (bnext (bnext hbr R1b) (by assumption)) (bdrewN _ _)⟩
        · rw [hgood] at hal
          simp only at hal
          have hnu := fun q c w h => nums_any q ms.length c ms rfl (by omega) hmw w h
          rw [hnm, hm2] at hnu
          clear hgood hnm hmw
          go_wp2_with (go_at_call 15; refine hal.mono ?_; rintro e w6 ⟨q6, c6, rfl, hrd6, hb6⟩; have hK : Kept w p2 cap2 zs q6 c6 ms w6 := ⟨(hr2r.below R1b).below hb6, hrd6, bnext (bnext hbr R1b) hb6⟩; have hKd := hK.drew; have hcv0 := conv hKd.1 hm2)
          go_region_held (Kept w p2 cap2 zs q6 c6 ms) (assumption)
            ((go_at_call 17; refine (hnu _ _ _ ?_).mono ?_; exact (And.right (by assumption : Kept w p2 cap2 zs q6 c6 ms _)).1; rintro e w7 ⟨q7, c7, rfl, hrd7, hb7⟩; have hK7 := Kept.next (by assumption) hb7; have hcv7 := conv hrd7 hm2; have hcv8 := conv hK7.1 hm2))
          all_goals
            go_wp2_with fail
            go_ret
            exact ⟨rfl, (by assumption : Kept w p2 cap2 zs q6 c6 ms _).2.2⟩
end Go.Proofs.Ytcbhenjfjncddaa.Leb
