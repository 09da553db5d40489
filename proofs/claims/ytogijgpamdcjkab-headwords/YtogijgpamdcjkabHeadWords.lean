/-
  The order of the pairs of bytes doesn't matter to a sum; bytes with their sum behind them have the sum 0. Every input gives true.
-/
import Derived.Test.YtogijgpamdcjkabHeadAlive
import Derived.Test.YtogijgpamdcjkabHeadFacts
namespace Go.Proofs.Ytogijgpamdcjkab.Head
open Go.RowKit Go.Proofs.Ytogijgpamdcjkab.Mem

theorem sum_rot {xs : List Int} {t : Nat} (h2 : xs.length % 2 = 0) (ht : 2 * t ≤ xs.length) : sumI (xs.drop (2 * t) ++ xs.take (2 * t)) = sumI xs := by
  have e : tot true xs = tot true (xs.take (2 * t) ++ xs.drop (2 * t)) := by rw [List.take_append_drop]
  unfold sumI
  rw [e, tot_append, tot_append, if_pos (by rw [List.length_drop]; omega), if_pos (by rw [List.length_take]; omega), Int.add_comm]
theorem sum_behind {xs : List Int} (hx : ∀ c ∈ xs, Byte c) (h2 : xs.length % 2 = 0) : sumI (xs ++ [sumI xs / 256, sumI xs % 256]) = 0 := by
  have hT := (tot_range true hx).1
  have e : tot true (xs ++ [sumI xs / 256, sumI xs % 256]) = tot true xs + (65535 - fold (tot true xs)) := by
    rw [tot_append, if_pos h2]
    simp only [tot]
    unfold sumI
    omega
  have := fold_full hT
  unfold sumI at e ⊢
  rw [e, this]
  rfl
theorem run_upto_any (w : World) (p : Option Addr) (n cap l : Nat) (hl : l ≤ cap) :
    (Instr.slice 24 (.slice p n cap) none (some (.int .i64 (l : Int))) none).run Try.prog w = .ok (.slice (cutP p cap 0) l cap) w := by
  have ht : Try.prog.underlying 24 = some (.slice (Try.prog.elem 24)) := by simp [Program.elem, Try.underlying24]
  have he : Try.prog.elem 24 = 5 := by simp [Program.elem, Try.underlying24]
  rw [run_slice_h w 24 p n cap ht .i64 (l : Int) (by omega) (by omega), he, Try.sizeOf5]
  simp [Result.andThen, sliced, cutP]
set_option maxHeartbeats 2000000 in
set_option maxRecDepth 100000 in
theorem words_any (p : Option Addr) (n c : Nat) (xs : List Int) (l : xs.length = n) (hx : ∀ c ∈ xs, Byte c) (i : Int) (w : World) (r : Reads .u8 w p c xs) :
    Calls Try.prog 4 #[.slice p n c, .int .i64 i] w fun e w' => e = .returned (.bool true) ∧ Below w.heap.size w w' := by
  obtain ⟨i0, hi, hz0, hz1, hz2⟩ := info_parts info_byte
  have hal := alive_any w
  have hn : n ≤ 9223372036854775807 := by have h1 := r.1; have h2 := r.2.1; unfold maxLen at h2; omega
  by_cases g1 : 2000 < n
  · go_enter Try.func4, Try.ntmps4
    go_wp2_with (go_at_call 5; refine hal.mono ?_; rintro e w1 ⟨rfl, hb1⟩)
    go_ret
    exact ⟨rfl, hb1⟩
  by_cases g2 : n % 2 ≠ 0
  · have d2 : ((n : Int) % 2 != 0) = true := by simp; omega
    go_enter Try.func4, Try.ntmps4
    go_wp2_with (go_at_call 5; refine hal.mono ?_; rintro e w1 ⟨rfl, hb1⟩)
    go_ret
    exact ⟨rfl, hb1⟩
  have d2 : ((n : Int) % 2 != 0) = false := by simp; omega
  by_cases g3 : i < 0
  · go_enter Try.func4, Try.ntmps4
    go_wp2_with (go_at_call 5; refine hal.mono ?_; rintro e w1 ⟨rfl, hb1⟩)
    go_ret
    exact ⟨rfl, hb1⟩
  by_cases g4 : (n : Int) / 2 < i
  · go_enter Try.func4, Try.ntmps4
    go_wp2_with (go_at_call 5; refine hal.mono ?_; rintro e w1 ⟨rfl, hb1⟩)
    go_ret
    exact ⟨rfl, hb1⟩
  obtain ⟨t, rfl⟩ := Int.eq_ofNat_of_zero_le (show 0 ≤ i by omega)
  obtain ⟨L, hL⟩ : ∃ L : Nat, 2 * t = L := ⟨_, rfl⟩
  have hL1 : 2 * (t : Int) = (L : Int) := by omega
  have hLn : L ≤ n := by omega
  have hwl : IntKind.i64.wrap (L : Int) = (L : Int) := by simp [IntKind.wrap, IntKind.bits, IntKind.signed]; omega
  have hcf := fun w => run_from w p n c L hLn
  have hcu := fun w => run_upto_any w p n c L (by have := r.1; omega)
  have hrt := sum_rot (xs := xs) (t := t) (by omega) (by omega)
  have hbh := sum_behind hx (by omega)
  rw [hL] at hrt
  have hs := sum_range hx
  obtain ⟨cp, hcp⟩ : ∃ cp, cp = cutP p c L := ⟨_, rfl⟩
  obtain ⟨cu, hcuq⟩ : ∃ cu, cu = cutP p c 0 := ⟨_, rfl⟩
  rw [← hcp] at hcf
  rw [← hcuq] at hcu
  have ra : ∀ W, Reads .u8 W p c xs → Reads .u8 W cp (c - L) (xs.drop L) := fun W h => by rw [hcp]; exact h.cut L (by omega)
  have rb : ∀ W, Reads .u8 W p c xs → Reads .u8 W cu c (xs.take L) := fun W h => by rw [hcuq]; exact (h.upto L).cut 0 (Nat.zero_le _)
  have hla : (xs.drop L).length = n - L := by simp; omega
  have hlb : (xs.take L).length = L := by simp; omega
  have hyb : ∀ c ∈ xs.drop L ++ xs.take L, Byte c := by
    intro c hc
    rcases List.mem_append.1 hc with hc | hc
    · exact hx c (List.mem_of_mem_drop hc)
    · exact hx c (List.mem_of_mem_take hc)
  have hyl : (xs.drop L ++ xs.take L).length = n := by rw [List.length_append]; omega
  have hS1 := fun u uc W r => head_Sum u n uc (xs.drop L ++ xs.take L) hyl hyb (by omega) W r
  rw [hrt] at hS1
  have hS2 := fun W r => head_Sum p n c xs l hx (by omega) W r
  have hzb : ∀ c ∈ xs ++ [sumI xs / 256, sumI xs % 256], Byte c := by
    intro c hc
    rcases List.mem_append.1 hc with hc | hc
    · exact hx c hc
    · simp only [List.mem_cons, List.not_mem_nil, or_false] at hc
      unfold Byte
      rcases hc with rfl | rfl <;> omega
  have hzl : (xs ++ [sumI xs / 256, sumI xs % 256]).length = n + 2 := by rw [List.length_append, l]; rfl
  have hS3 := fun u uc W r => head_Sum u (n + 2) uc (xs ++ [sumI xs / 256, sumI xs % 256]) hzl hzb (by omega) W r
  rw [hbh] at hS3
  generalize sumI xs = s at hS1 hS2 hS3 hs
  have HYL : Hid ((xs.drop L ++ xs.take L).length = n) := hyl
  clear hrt hbh hzb hzl hyb hL g2 hcp hcuq hyl
  go_enter Try.func4, Try.ntmps4
  go_wp2_with (go_at_call 5; refine hal.mono ?_; rintro e w1 ⟨rfl, hb1⟩)
  have r1 : Reads .u8 w1.drew p c xs := (r.below hb1).drew
  have ra1 := ra _ r1
  have hB2 : ∀ (o : Obj) (w2 : World) (_q : Nat), (w1.drew.alloc o).grownBy w2 (some w1.heap.size) → Below w1.heap.size w1.drew w2 := fun o w2 _ hg => ((Below.refl _ w1.drew).alloc (Nat.le_refl _) _).grown hg (by simp) (fun k hk => Nat.le_of_eq (Option.some.inj hk))
  go_region_law (first
    | (refine step_append_reads rfl (.tmp 30) (.tmp 34) 24 rfl w1.heap.size 5 i0 .u8 Try.underlying24 hi hz0 hz1 hz2 (.slice (some ⟨w1.heap.size, 0, none⟩) 0 0) 0 [] (by simp [Act.eval]) (lit_none (k := .u8) w1.drew) cp (n - L) (c - L) (xs.drop L) (by simp [Act.eval]) hla (ra1.alloc _) (by omega) (by simp) ?_; intro v2 w2 own2 hg2)
    | (refine step_append_reads rfl (.tmp 35) (.tmp 39) 24 rfl w1.heap.size 5 i0 .u8 Try.underlying24 hi hz0 hz1 hz2 v2 (0 + (n - L)) ([] ++ (xs.drop L).map (Value.int .u8)) (by simp [Act.eval]) own2 cu L c (xs.take L) (by simp [Act.eval]) hlb (rb _ (r1.below (hB2 _ _ 0 hg2))) (by omega) (hB2 _ _ 0 hg2).size ?_; intro v3 w3 own3 hg3; have hb3 : Below w1.heap.size w1.drew w3 := (hB2 _ _ 0 hg2).grown hg3 (by have := (hB2 _ _ 0 hg2).size; exact this) (fun k hk => (own2.lt k hk).1)))
  replace own3 : w3.ownsRow w1.heap.size 5 1 v3 (0 + (n - L) + L) ((xs.drop L ++ xs.take L).map (Value.int .u8)) := by rw [List.map_append]; simpa using own3
  obtain ⟨-, q3, d3, hv3, r3⟩ := own_reads own3
  rw [HYL.out] at hv3
  subst hv3
  have hw3 : Below w.heap.size w w3 := bnext hb1 (bnext (show Below w1.heap.size w1 w1.drew from (Below.refl _ _).drew) hb3)
  have rp3 := r.below hw3
  have hS2' := hS2 w3 rp3
  clear own3 own2 hg2 hg3 hb3 ra1 r1 ra rb hla hlb hB2
  go_wp2_with (first
    | (go_at_call 9; refine hS2'.mono ?_; rintro e w4 ⟨rfl, rfl⟩)
    | (at_builtin; refine wpList_append_reads _ rfl _ _ 24 rfl w4.heap.size 5 i0 (.int .u8 0) 1 .u8 Try.underlying24 hi hz0 hz1 hz2 rfl (.slice (some ⟨w4.heap.size, 0, none⟩) 0 0) 0 [] rfl (lit_none (k := .u8) w4) p n c xs rfl l (rp3.alloc _) ?c3 ?c4 ?c5 ?_))
  case c3 => unfold maxLen; omega
  case c4 => omega
  case c5 => simp
  intro v5 w5 own5 hg5
  obtain ⟨ho5, hb5⟩ := grew0 (ys := []) (zs := xs) (Nat.le_refl _) (bnew w4 _) (lit_none (k := .u8) w4) own5 hg5
  rw [List.nil_append, l] at ho5
  have hl2 : Reads .u8 (w5.alloc (.cells #[.int .u8 (s / 256), .int .u8 (s % 256)] 5)) (some ⟨w5.heap.size, 0, none⟩) 2 [s / 256, s % 256] := lit_reads rfl rfl (by simp)
  clear own5 hg5
  go_wp2_with (at_builtin; refine wpList_append_reads _ rfl _ _ 24 rfl w4.heap.size 5 i0 (.int .u8 0) 1 .u8 Try.underlying24 hi hz0 hz1 hz2 rfl v5 n (xs.map (Value.int .u8)) rfl (ho5.alloc _) (some ⟨w5.heap.size, 0, none⟩) 2 2 [s / 256, s % 256] rfl rfl hl2 ?c3 ?c4 ?c5 ?_)
  case c3 => unfold maxLen; omega
  case c4 => omega
  case c5 => have := hb5.size; simp; omega
  intro v6 w6 own6 hg6
  rw [← l] at ho5
  obtain ⟨ho6, hb6⟩ := grew (ys := xs) (zs := [s / 256, s % 256]) (Nat.le_refl _) hb5 ho5 own6 hg6
  obtain ⟨-, q6, d6, hv6, r6⟩ := own_reads ho6
  rw [show (xs ++ [s / 256, s % 256]).length = n + 2 by rw [List.length_append, l]; rfl] at hv6
  subst hv6
  clear own6 hg6 ho5 ho6 hl2
  have hS1' := hS1 _ _ w6 (r3.below hb6)
  have hS3' := hS3 _ _ w6 r6
  go_wp2_with (first
    | (go_at_call 9; (with_reducible refine hS1'.mono ?_); rintro e w7 ⟨rfl, rfl⟩)
    | (go_at_call 9; (with_reducible refine hS3'.mono ?_); rintro e w8 ⟨rfl, rfl⟩))
  go_ret
  exact ⟨rfl, bnext hw3 hb6⟩
end Go.Proofs.Ytogijgpamdcjkab.Head
