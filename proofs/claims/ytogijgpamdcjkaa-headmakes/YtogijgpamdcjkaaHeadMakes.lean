/-
  The packet of any header and payload: every input gives true.
-/
import Derived.Test.YtogijgpamdcjkaaHeadRefBoth
namespace Go.Proofs.Ytogijgpamdcjkaa.Head
open Go.RowKit Go.Proofs.Ytogijgpamdcjkaa.Mem

set_option maxHeartbeats 2000000 in
theorem makes_any (h : Hd) (q : Option Addr) (m c : Nat) (os : List Int) (lo : os.length = m) (p : Option Addr) (n d : Nat) (ps : List Int) (lp : ps.length = n) (ha : Ads h) (ho : ∀ c ∈ os, Byte c) (hp : ∀ c ∈ ps, Byte c) (w : World) (ro : Reads .u8 w q c os) (rp : Reads .u8 w p d ps) :
    Calls Try.prog 5 #[.agg #[.int .i64 h.tos, .int .i64 h.id, .int .i64 h.fl, .int .i64 h.ttl, .int .i64 h.pr, .int .u8 h.s0, .int .u8 h.s1, .int .u8 h.s2, .int .u8 h.s3, .int .u8 h.d0, .int .u8 h.d1, .int .u8 h.d2, .int .u8 h.d3, .slice q m c], .slice p n d] w fun e w' => e = .returned (.bool true) ∧ Below w.heap.size w w' := by
  obtain ⟨i0, hi, hz0, hz1, hz2⟩ := info_parts info_byte
  have hal := alive_any (w.alloc (.cells #[.int .i64 h.tos, .int .i64 h.id, .int .i64 h.fl, .int .i64 h.ttl, .int .i64 h.pr, .int .u8 h.s0, .int .u8 h.s1, .int .u8 h.s2, .int .u8 h.s3, .int .u8 h.d0, .int .u8 h.d1, .int .u8 h.d2, .int .u8 h.d3, .slice q m c] 26))
  have hm : m ≤ 9223372036854775807 := by have h1 := ro.1; have h2 := ro.2.1; unfold maxLen at h2; omega
  have hn : n ≤ 9223372036854775807 := by have h1 := rp.1; have h2 := rp.2.1; unfold maxLen at h2; omega
  have hz := fun w1 (hb : Below (w.alloc (.cells #[.int .i64 h.tos, .int .i64 h.id, .int .i64 h.fl, .int .i64 h.ttl, .int .i64 h.pr, .int .u8 h.s0, .int .u8 h.s1, .int .u8 h.s2, .int .u8 h.s3, .int .u8 h.d0, .int .u8 h.d1, .int .u8 h.d2, .int .u8 h.d3, .slice q m c] 26)).heap.size (w.alloc (.cells #[.int .i64 h.tos, .int .i64 h.id, .int .i64 h.fl, .int .i64 h.ttl, .int .i64 h.pr, .int .u8 h.s0, .int .u8 h.s1, .int .u8 h.s2, .int .u8 h.s3, .int .u8 h.d0, .int .u8 h.d1, .int .u8 h.d2, .int .u8 h.d3, .slice q m c] 26)) w1) => (Blk.new w #[.int .i64 h.tos, .int .i64 h.id, .int .i64 h.fl, .int .i64 h.ttl, .int .i64 h.pr, .int .u8 h.s0, .int .u8 h.s1, .int .u8 h.s2, .int .u8 h.s3, .int .u8 h.d0, .int .u8 h.d1, .int .u8 h.d2, .int .u8 h.d3, .slice q m c] 26).below hb
  by_cases h3 : n > 3000
  · go_enter Try.func5, Try.ntmps5
    go_wp2_with (go_at_call 11; refine hal.mono ?_; rintro e w1 ⟨rfl, hb1⟩)
    go_ret
    exact ⟨rfl, bnext (bnew _ _) hb1⟩
  by_cases h4 : m > 3000
  · go_enter Try.func5, Try.ntmps5
    go_wp2_with (go_at_call 11; refine hal.mono ?_; rintro e w1 ⟨rfl, hb1⟩; have kz := (hz _ hb1).cell)
    go_ret
    exact ⟨rfl, bnext (bnew _ _) hb1⟩
  have hA := fun u uc W ro rp => make_any h q m c os lo u n uc ps lp (by omega) ha ho W ro rp
  have hB := fun W ro rp => ref_make_any h q m c os lo p n d ps lp (by omega) ha ho W ro rp
  have hyb := made_bytes (h := h) ha ho hp
  generalize made h os ps = ys at hA hB hyb
  generalize madeE h os ps = E at hA hB
  have t1 : ((str ys).toList == (str ys).toList) = true := by rw [str_eq hyb hyb]; simp
  have t2 : ((str ps).toList == (str ps).toList) = true := by rw [str_eq hp hp]; simp
  obtain ⟨K, hK⟩ : ∃ K, ys.length = K := ⟨_, rfl⟩
  unfold MakeAns at hA hB
  rw [hK] at hA hB
  go_enter Try.func5, Try.ntmps5
  go_wp2_with (first
    | (go_at_call 11; refine hal.mono ?_; rintro e w1 ⟨rfl, hb1⟩; have kz := (hz _ hb1).cell)
    | (at_builtin; refine wpList_append_reads _ rfl _ _ 24 rfl w1.heap.size 5 i0 (.int .u8 0) 1 .u8 Try.underlying24 hi hz0 hz1 hz2 rfl (.slice (some ⟨w1.heap.size, 0, none⟩) 0 0) 0 [] rfl (lit_none (k := .u8) w1) p n d ps rfl lp (((rp.alloc _).below hb1).alloc _) ?c3 ?c4 ?c5 ?_))
  case c3 => unfold maxLen; omega
  case c4 => omega
  case c5 => simp
  intro v2 w2 hown2 hg2
  obtain ⟨ho2, hb2⟩ := grew0 (ys := []) (zs := ps) (Nat.le_refl _) (bnew w1 _) (lit_none (k := .u8) w1) hown2 hg2
  rw [List.nil_append] at ho2
  obtain ⟨-, u, uc, hv, r2⟩ := own_reads ho2
  rw [lp] at hv
  subst hv
  clear hown2 hg2 ho2 kz
  have Y2 := (hz _ hb1).below hb2
  have k2 := Y2.cell
  have ro2 := ((ro.alloc _).below hb1).below hb2
  have rp2 := ((rp.alloc _).below hb1).below hb2
  go_wp2_with (go_at_call 10; refine (hA u uc _ ro2 r2).mono ?_)
  rintro e w3 ⟨q3, d3, rfl, r3, hb3⟩
  have k3 := (Y2.below hb3).cell
  clear k2
  go_wp2_with (go_at_call 14; refine (hB _ (ro2.below hb3) (rp2.below hb3)).mono ?_)
  rintro e w4 ⟨q4, d4, rfl, r4, hb4⟩
  have c1 := conv (r3.below hb4) hK
  have c2 := conv r4 hK
  have c3 := conv ((r2.below hb3).below hb4) lp
  have c4 := conv ((rp2.below hb3).below hb4) lp
  clear k3
  go_wp2
  go_ret
  exact ⟨rfl, bnext (bnext (bnext (bnext (bnew _ _) hb1) hb2) hb3) hb4⟩
end Go.Proofs.Ytogijgpamdcjkaa.Head
