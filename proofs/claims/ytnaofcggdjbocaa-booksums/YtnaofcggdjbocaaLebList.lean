/-
  What package leb's Nums and All give, for lists of at most 200 numbers and for every slice of bytes.
-/
import Derived.Test.YtnaofcggdjbocaaLebMem
/-
  What package leb's add and Put give, for every input of their types: one contract a function.
-/
namespace Go.Proofs.Ytnaofcggdjbocaa.Leb
open Go.RowKit Go.Proofs.Ytnaofcggdjbocaa.Mem
set_option maxRecDepth 100000

theorem add_any (B : Nat) (v0 : Value) (xs : List Int) (n0 : Int) (hn0 : Word n0) (w : World) (hB : B ≤ w.heap.size) (hx : xs.length ≤ 100000)
    (hown0 : w.ownsRow B 5 1 v0 xs.length (xs.map (Value.int .u8))) :
    Calls Try.prog 62 #[v0, .int .u64 n0] w fun e w' => ∃ v, e = .returned v ∧ w'.ownsRow B 5 1 v (xs ++ put n0).length ((xs ++ put n0).map (Value.int .u8)) ∧ Below B w w' := by
  obtain ⟨i0, hi, hz0, hz1, hz2⟩ := info_parts info_byte
  have hp10 := put_le hn0
  go_enter Try.func62, Try.ntmps62
  go_wp2_with fail
  go_loopw [0, 1] (fun v n wr => ∃ (m : Int) (ys : List Int), Word m ∧ n = .int .u64 m ∧ wr.ownsRow B 5 1 v ys.length (ys.map (Value.int .u8)) ∧ ys ++ put m = xs ++ put n0 ∧ Below B w wr) (fun _ n _ => (intOf n).toNat)
  case atStart => exact ⟨n0, xs, hn0, rfl, hown0, rfl, Below.refl _ _⟩
  case round =>
    obtain ⟨m, ys, ⟨hm0, hm1⟩, rfl, hown, hys, hnx⟩ := hrel
    have HY : Hid (ys ++ put m = xs ++ put n0) := hys
    have hlen : ys.length ≤ 100010 := by
      have := congrArg List.length hys
      simp only [List.length_append] at this
      omega
    clear hys hown0
    by_cases hm : m < 128
    · go_wp2_with (at_builtin; refine wpList_append_own _ rfl _ _ 37 rfl B 5 i0 (.int .u8 0) 1 1 Try.underlying37 hi hz0 hz1 hz2 rfl (by decide) _ _ _ rfl (hown.alloc _) ⟨wr.heap.size, 0, none⟩ 1 1 [.int .u8 m] rfl rfl one_cell one_one ?c3 ?c4 ?c5 ?_)
      case c3 => unfold maxLen; omega
      case c4 => omega
      case c5 => have := hnx.size; simp; omega
      · intro v' w1 hown' hgrow _
        have R := grew (zs := [m]) hB hnx hown hown' hgrow
        rw [← put_small hm, HY.out] at R
        clear hown hown' hgrow
        go_wp2_with fail
        go_ret
        exact ⟨v', rfl, R.1, R.2⟩
    · have hor : bits .or .u8 (m % 256) 128 = 128 + m % 128 := by
        rw [high_of_byte ⟨by omega, by omega⟩]; omega
      have hor' : bits .or .u8 (IntKind.u8.wrap m) 128 = 128 + m % 128 := by
        rw [IntKind.wrap_u8]; exact hor
      go_wp2_with (at_builtin; refine wpList_append_own _ rfl _ _ 37 rfl B 5 i0 (.int .u8 0) 1 1 Try.underlying37 hi hz0 hz1 hz2 rfl (by decide) _ _ _ rfl (hown.alloc _) ⟨wr.heap.size, 0, none⟩ 1 1 [.int .u8 (128 + m % 128)] rfl rfl one_cell one_one ?d3 ?d4 ?d5 ?_)
      case d3 => unfold maxLen; omega
      case d4 => omega
      case d5 => have := hnx.size; simp; omega
      · intro v' w1 hown' hgrow _
        have R := grew (zs := [128 + m % 128]) hB hnx hown hown' hgrow
        clear hown hown' hgrow hor hor'
        go_wp2_with fail
        go_roundw
        case rel => exact ⟨m / 128, ys ++ [128 + m % 128], ⟨by omega, by omega⟩, by first | rfl | go_num, R.1, by rw [← HY.out, put_big (n := m) (by omega)]; simp, R.2⟩
        case measure => simp [intOf]; omega

theorem put_any (n : Int) (hn : Word n) (w : World) :
    Calls Try.prog 90 #[.int .u64 n] w fun e w' => ∃ g cap, e = .returned (.slice (some ⟨g, 0, none⟩) (put n).length cap) ∧ Reads .u8 w' (some ⟨g, 0, none⟩) cap (put n) ∧ Below w.heap.size w w' := by
  have hc := add_any w.heap.size (.slice none 0 0) [] n hn w (Nat.le_refl _) (by simp) (World.ownsRow_nil _ _ _ _)
  go_enter Try.func90, Try.ntmps90
  go_wp2_with (go_at_call 62; refine hc.mono ?_; rintro e w' ⟨v, rfl, hown, hb⟩)
  go_ret
  obtain ⟨g, cap, hv, hr⟩ := own_reads_pos hown (by simpa using put_pos n)
  exact ⟨g, cap, by rw [hv]; rfl, hr, hb⟩
end Go.Proofs.Ytnaofcggdjbocaa.Leb
/-
  What package leb's Get gives, for every slice of bytes.
-/
namespace Go.Proofs.Ytnaofcggdjbocaa.Leb
open Go.RowKit Go.Proofs.Ytnaofcggdjbocaa.Mem
set_option maxRecDepth 100000

theorem equal_any (p1 p2 : Option Addr) (n c m d : Nat) (xs ys : List Int) (w : World) (hx : xs.length = n) (hy : ys.length = m) (h1 : Reads .u8 w p1 c xs) (h2 : Reads .u8 w p2 d ys)
    (b1 : ∀ z ∈ xs, Byte z) (b2 : ∀ z ∈ ys, Byte z) :
    Calls Try.prog 89 #[.slice p1 n c, .slice p2 m d] w fun e w' => e = .returned (.bool (decide (xs = ys))) ∧ w' = w := by
  rw [← bytes_eq b1 b2]
  exact Try.bytes_Equal_all p1 p2 n c m d xs ys w hx hy (h1.bytesIn hx) (h2.bytesIn hy)

/-- Three results. -/
def three (x : Int × Int × Int) : Value := .tuple #[.int .u64 x.1, .int .i64 x.2.1, .int .i64 x.2.2]

theorem asPut_any (n : Int) (hn : Word n) (p : Option Addr) (m cap : Nat) (zs : List Int) (hm : zs.length = m) (hb : ∀ c ∈ zs, Byte c) (w : World) (hr : Reads .u8 w p cap zs) :
    Calls Try.prog 79 #[.int .u64 n, .slice p m cap] w fun e w' => e = .returned (three (if put n = zs then (n, (m : Int), 0) else (0, 0, 21))) ∧ Below w.heap.size w w' := by
  by_cases hq : put n = zs
  · have hd : decide (zs = put n) = true := by simp [hq]
    rw [if_pos hq]; clear hq
    go_enter Try.func79, Try.ntmps79
    go_wp2_with (first
      | (go_at_call 90; refine (put_any n hn _).mono ?_; rintro e w1 ⟨g, cp, rfl, hr1, hb1⟩)
      | (go_at_call 89; refine (equal_any _ _ _ _ _ _ zs (put n) _ hm rfl (hr.below hb1) hr1 hb (put_bytes n hn.1)).mono ?_; rintro e w2 ⟨rfl, hw2⟩; subst hw2))
    go_ret3
    exact ⟨rfl, hb1⟩
  · have hd : decide (zs = put n) = false := by simpa using fun e => hq e.symm
    rw [if_neg hq]; clear hq
    go_enter Try.func79, Try.ntmps79
    go_wp2_with (first
      | (go_at_call 90; refine (put_any n hn _).mono ?_; rintro e w1 ⟨g, cp, rfl, hr1, hb1⟩)
      | (go_at_call 89; refine (equal_any _ _ _ _ _ _ zs (put n) _ hm rfl (hr.below hb1) hr1 hb (put_bytes n hn.1)).mono ?_; rintro e w2 ⟨rfl, hw2⟩; subst hw2))
    go_ret3
    exact ⟨rfl, by assumption⟩

theorem getD_byte {zs : List Int} (hb : ∀ c ∈ zs, Byte c) (k : Nat) (hk : k < zs.length) : Byte (zs.getD k 0) := by
  simp only [List.getD, List.getElem?_eq_getElem hk, Option.getD_some]
  exact hb _ (List.getElem_mem hk)

theorem get_some (b o m cap : Nat) (zs : List Int) (hm : zs.length = m) (hb : ∀ c ∈ zs, Byte c) (w : World) (hr : Reads .u8 w (some ⟨b, o, none⟩) cap zs) (hpos : 0 < m) :
    Calls Try.prog 55 #[.slice (some ⟨b, o, none⟩) m cap] w fun e w' => e = .returned (three (lget zs)) ∧ Below w.heap.size w w' := by
  have hmc : m ≤ cap := by rw [← hm]; exact hr.1
  have hcm : cap ≤ 9223372036854775807 := hr.2.1
  obtain ⟨L, hL⟩ : ∃ L, L = min m 10 := ⟨_, rfl⟩
  have hLm : L ≤ m := by omega
  have hL10 : L ≤ 10 := by omega
  have hmin : min (m : Int) 10 = (L : Int) := by omega
  have hcut := run_upto w b o m cap L (by omega)
  have HL : Hid (L = min m 10) := hL
  clear hL
  have hlead := lead_le zs
  obtain ⟨X, hX⟩ : ∃ X, X = lget zs := ⟨_, rfl⟩
  rw [← hX]
  unfold three
  have HX : Hid (X = lget zs) := hX
  clear hX
  go_enter Try.func55, Try.ntmps55
  go_wp2_with fail
  go_loop [5, 14] (fun n i => ∃ k : Nat, k ≤ L ∧ k ≤ lead zs ∧ i = .int .i64 k ∧ n = .int .u64 (val (zs.take k) % 18446744073709551616)) (fun _ i => L - (intOf i).toNat)
  case atStart => exact ⟨0, by omega, by omega, rfl, rfl⟩
  case round =>
    obtain ⟨k, hk, hkl, rfl, rfl⟩ := hrel
    by_cases hlt : k < L
    · obtain ⟨c, hc⟩ : ∃ c, c = zs.getD k 0 := ⟨_, rfl⟩
      have hcb : Byte c := by rw [hc]; exact getD_byte hb k (by omega)
      have hck : w.cell? ⟨b, o + k, none⟩ = some (.int .u8 c) := by
        obtain ⟨b', o', hpe, _, hcell⟩ := hr.2.2.2 (by omega)
        simp only [Option.some.injEq, Addr.mk.injEq, and_true] at hpe
        obtain ⟨rfl, rfl⟩ := hpe
        rw [hc]; exact hcell k (by omega)
      have hlow := low_of_byte hcb
      obtain ⟨c0, c1⟩ := hcb
      obtain ⟨N, hN⟩ : ∃ N, N = val (zs.take (k + 1)) % 18446744073709551616 := ⟨_, rfl⟩
      have hjoin : bits .or .u64 (val (zs.take k) % 18446744073709551616) (IntKind.u64.wrap (c % 128 * 2 ^ (7 * k))) = N := by
        rw [hN, hc]; exact join_groups zs k (by omega) (by omega)
      have HC : Hid (c = zs.getD k 0) := hc
      have HN : Hid (N = val (zs.take (k + 1)) % 18446744073709551616) := hN
      clear hc hN
      by_cases hc128 : c < 128
      · have hl : lead zs = k := lead_stop zs k hkl (by omega) (by rw [← HC.out]; exact hc128)
        have hN64 : Word N := by rw [HN.out]; exact ⟨by omega, by omega⟩
        have hw := asPut_any N hN64 (some ⟨b, o, none⟩) (k + 1) cap (zs.take (k + 1)) (by simp; omega) (fun c hc => hb c (List.mem_of_mem_take hc)) w (hr.upto (k + 1))
        have hres : (if put N = zs.take (k + 1) then (N, ((k + 1 : Nat) : Int), 0) else (0, 0, 21)) = lget zs := by
          unfold lget
          rw [hl, if_pos (show k < zs.length ∧ k < 10 from ⟨by omega, by omega⟩)]
          unfold gotOf
          rw [← HN.out, List.length_take, Nat.min_eq_left (by omega)]
        rw [hres, ← HX.out] at hw
        clear hres hl hkl hlead
        unfold three at hw
        go_wp2_with (go_at_call 79; refine hw.mono ?_; rintro e w1 ⟨rfl, hb1⟩)
        go_ret3
        exact ⟨rfl, hb1⟩
      · have hl : k + 1 ≤ lead zs := lead_step zs k hkl (by omega) (by rw [← HC.out]; omega)
        go_wp2_with fail
        go_round
        case rel => exact ⟨k + 1, by omega, hl, by go_num, by rw [HN.out]⟩
        case measure => simp [intOf]; omega
    · have hres : lget zs = (0, 0, 21) := by
        unfold lget
        rw [if_neg]
        have := HL.out
        omega
      go_wp2_with fail
      go_ret3
      exact ⟨by rw [HX.out, hres]; rfl, Below.refl _ _⟩

/-- A slice of no bytes. -/
theorem get_none (p : Option Addr) (cap : Nat) (w : World) :
    Calls Try.prog 55 #[.slice p 0 cap] w fun e w' => e = .returned (three (0, 0, 21)) ∧ Below w.heap.size w w' := by
  obtain ⟨q, hcut⟩ : ∃ q, (Instr.slice 37 (.slice p 0 cap) none (some (.int .i64 0)) none).run Try.prog w = .ok (.slice q 0 cap) w := by
    have ht : Try.prog.underlying 37 = some (.slice (Try.prog.elem 37)) := by simp [Program.elem, Try.underlying37]
    have he : Try.prog.elem 37 = 5 := by simp [Program.elem, Try.underlying37]
    rw [run_slice_h w 37 _ 0 cap ht .i64 0 (by omega) (by omega), he, Try.sizeOf5]
    exact ⟨_, rfl⟩
  unfold three
  go_enter Try.func55, Try.ntmps55
  go_wp2_with fail
  refine wp_loop_rounds 1 ?_
  rw [rounds_succ]
  go_wp2_with fail
  go_ret3
  exact ⟨rfl, Below.refl _ _⟩

/-- leb.Get. -/
theorem get_any (p : Option Addr) (m cap : Nat) (zs : List Int) (hm : zs.length = m) (hb : ∀ c ∈ zs, Byte c) (w : World) (hr : Reads .u8 w p cap zs) :
    Calls Try.prog 55 #[.slice p m cap] w fun e w' => e = .returned (three (lget zs)) ∧ Below w.heap.size w w' := by
  by_cases hpos : 0 < m
  · obtain ⟨b, o, rfl, _, _⟩ := hr.2.2.2 (by omega)
    exact get_some b o m cap zs hm hb w hr hpos
  · obtain rfl : m = 0 := by omega
    obtain rfl : zs = [] := List.eq_nil_of_length_eq_zero hm
    rw [lget_nil]
    exact get_none p cap w
end Go.Proofs.Ytnaofcggdjbocaa.Leb
namespace Go.Proofs.Ytnaofcggdjbocaa.Leb
open Go.RowKit Go.Proofs.Ytnaofcggdjbocaa.Mem
set_option maxRecDepth 100000

/-- leb.Nums. -/
theorem nums_any (p : Option Addr) (m cap : Nat) (ls : List Int) (hm : ls.length = m) (h200 : m ≤ 200) (hw : ∀ n ∈ ls, Word n) (w : World) (hr : Reads .u64 w p cap ls) :
    Calls Try.prog 34 #[.slice p m cap] w fun e w' => ∃ q c, e = .returned (.slice q (nums ls).length c) ∧ Reads .u8 w' q c (nums ls) ∧ Below w.heap.size w w' := by
  go_enter Try.func34, Try.ntmps34
  go_wp2_with fail
  go_loopw [3, 8] (fun v i wr => ∃ k : Nat, k ≤ m ∧ i = .int .i64 k ∧ wr.ownsRow w.heap.size 5 1 v (nums (ls.take k)).length ((nums (ls.take k)).map (Value.int .u8)) ∧ Below w.heap.size w wr) (fun _ i _ => m - (intOf i).toNat)
  case atStart => exact ⟨0, Nat.zero_le _, rfl, World.ownsRow_nil _ _ _ _, Below.refl _ _⟩
  case round =>
    obtain ⟨k, hk, rfl, hown, hnx⟩ := hrel
    by_cases hlt : k < m
    · obtain ⟨b, o, rfl, _, hcell⟩ := (hr.below hnx).2.2.2 (by omega)
      obtain ⟨x, hx⟩ : ∃ x, x = ls.getD k 0 := ⟨_, rfl⟩
      have hck : wr.cell? ⟨b, o + k, none⟩ = some (.int .u64 x) := by rw [hx]; exact hcell k (by omega)
      have hxw : Word x := by
        rw [hx]
        simp only [List.getD, List.getElem?_eq_getElem (show k < ls.length by omega), Option.getD_some]
        exact hw _ (List.getElem_mem _)
      have hlen : (nums (ls.take k)).length ≤ 100000 := by
        have := nums_len (ls.take k) (fun n hn => hw n (List.mem_of_mem_take hn))
        rw [List.length_take] at this
        omega
      have hc := add_any w.heap.size u3 (nums (ls.take k)) x hxw wr hnx.size hlen hown
      rw [hx, ← nums_take ls k (by omega), ← hx] at hc
      clear hx hcell hown hlen
      go_wp2_with (go_at_call 62; refine hc.mono ?_; rintro e w1 ⟨v1, rfl, hown1, hb1⟩)
      go_roundw
      case rel => exact ⟨k + 1, by omega, by go_num, hown1, hnx.trans hb1⟩
      case measure => simp [intOf]; omega
    · have hk' : ls.take k = ls := List.take_of_length_le (by omega)
      rw [hk'] at hown
      obtain ⟨_, q, c, hv, hrd⟩ := own_reads hown
      subst hv
      clear hown hk'
      go_wp2_with fail
      go_ret
      exact ⟨q, c, rfl, hrd, hnx⟩

/-- leb.All. -/
theorem all_any (p : Option Addr) (m cap : Nat) (zs : List Int) (hm : zs.length = m) (hb : ∀ c ∈ zs, Byte c) (w : World) (hr : Reads .u8 w p cap zs) :
    Calls Try.prog 26 #[.slice p m cap] w fun e w' => ∃ q c, e = .returned (.tuple #[.slice q (lall zs).1.length c, .int .i64 (lall zs).2]) ∧ Reads .u64 w' q c (lall zs).1 ∧ Below w.heap.size w w' := by
  obtain ⟨i0, hi, hz0, hz1, hz2⟩ := info_parts info_word
  obtain ⟨R, hR⟩ : ∃ R, R = lall zs := ⟨_, rfl⟩
  rw [← hR]
  have HR : Hid (R = lall zs) := hR
  clear hR
  go_enter Try.func26, Try.ntmps26
  go_wp2_with fail
  go_loopw [0, 4] (fun v u wr => ∃ (f : Nat) (q : Option Addr) (n c : Nat) (rest out : List Int), rest.length = n ∧ v = .slice q n c ∧ Reads .u8 w q c rest ∧ (∀ x ∈ rest, Byte x) ∧ wr.ownsRow w.heap.size 22 1 u out.length (out.map (Value.int .u64)) ∧
      Below w.heap.size w wr ∧ allF f rest out = R ∧ n ≤ f ∧ out.length ≤ 128) (fun v _ _ => sliceLen v)
  case atStart => exact ⟨zs.length, p, m, cap, zs, [], hm, rfl, hr, hb, World.ownsRow_nil _ _ _ _, Below.refl _ _, HR.out.symm, by omega, by simp⟩
  case round =>
    obtain ⟨f, q, n, c, rest, out, hn, rfl, hrd, hby, hown, hnx, hall, hf, ho⟩ := hrel
    have HA : Hid (allF f rest out = R) := hall
    clear hall
    by_cases hpos : 0 < n
    · obtain ⟨g, rfl⟩ : ∃ g, f = g + 1 := ⟨f - 1, by omega⟩
      have hget := get_any q n c rest hn hby wr (hrd.below hnx)
      obtain ⟨_, q', c', hv, hrd'⟩ := own_reads hown
      subst hv
      rcases lget_cases rest with hbad | ⟨x, hx, hle, htk, hgood⟩
      · rw [hbad] at hget
        unfold three at hget
        have hres : R = ([], 21) := by rw [← HA.out, allF_bad (by omega) (by rw [hbad]; simp)]
        clear hown
        go_wp2_with (go_at_call 55; refine hget.mono ?_; rintro e w1 ⟨rfl, hb1⟩)
        go_ret2
        exact ⟨none, 0, by rw [hres]; rfl, by rw [hres]; exact Reads.nil _ _, hnx.trans (hb1.mono hnx.size)⟩
      · rw [hgood] at hget
        unfold three at hget
        by_cases hfull : out.length = 128
        · have hres : R = ([], 21) := by rw [← HA.out, allF_bad (by omega) (.inr hfull)]
          have hd : ((out.length : Int) == 128) = true := by simp; omega
          clear hown
          go_wp2_with (go_at_call 55; refine hget.mono ?_; rintro e w1 ⟨rfl, hb1⟩)
          go_ret2
          exact ⟨none, 0, by rw [hres]; rfl, by rw [hres]; exact Reads.nil _ _, hnx.trans (hb1.mono hnx.size)⟩
        · have HA' : Hid (allF g (rest.drop (put x).length) (out ++ [x]) = R) := by
            have := HA.out
            rw [allF_good (by omega) (by rw [hgood]; simp; exact hfull), hgood] at this
            show allF g (rest.drop (put x).length) (out ++ [x]) = R
            simpa using this
          have hd : ((out.length : Int) == 128) = false := by simp; omega
          have hp := put_pos x
          obtain ⟨L, hL⟩ : ∃ L, L = (put x).length := ⟨_, rfl⟩
          rw [← hL] at hget HA' hle hp
          have hcut := fun w => run_from w q n c L (by omega)
          have hrd2 := hrd.cut L hle
          have hlen : (rest.drop L).length = n - L := by simp; omega
          have hby2 : ∀ y ∈ rest.drop L, Byte y := fun y hy => hby y (List.mem_of_mem_drop hy)
          clear hL htk hgood HA hx
          go_wp2_with (first
            | (go_at_call 55; refine hget.mono ?_; rintro e w1 ⟨rfl, hb1⟩)
            | (at_builtin; refine wpList_append_own _ rfl _ _ 65 rfl w.heap.size 22 i0 (.int .u64 0) 1 8 Try.underlying65 hi hz0 hz1 hz2 rfl (by decide) _ _ _ rfl ((own_below hown hb1).alloc _) ⟨w1.heap.size, 0, none⟩ 1 1 [.int .u64 x] rfl rfl one_cell one_one ?c3 ?c4 ?c5 ?_))
          case c3 => unfold maxLen; omega
          case c4 => omega
          case c5 => have := hnx.size; have := hb1.size; simp; omega
          · intro v' w2 hown' hgrow _
            have hnx1 : Below w.heap.size w w1 := hnx.trans (hb1.mono hnx.size)
            have RR := grew (zs := [x]) (Nat.le_refl _) hnx1 (own_below hown hb1) hown' hgrow
            clear hown hown' hgrow
            go_wp2_with fail
            go_roundw
            case rel => exact ⟨g, cutP q c L, n - L, c - L, rest.drop L, out ++ [x], hlen, rfl, hrd2, hby2, RR.1, RR.2, HA'.out, by omega, by simp; omega⟩
            case measure => simp [sliceLen]; omega
    · obtain rfl : n = 0 := by omega
      obtain rfl : rest = [] := List.eq_nil_of_length_eq_zero hn
      have hres : R = (out, 0) := by rw [← HA.out, allF_nil]
      obtain ⟨_, q', c', hv, hrd'⟩ := own_reads hown
      subst hv
      clear hown
      go_wp2_with fail
      go_ret2
      exact ⟨q', c', rfl, hrd', hnx⟩
end Go.Proofs.Ytnaofcggdjbocaa.Leb
