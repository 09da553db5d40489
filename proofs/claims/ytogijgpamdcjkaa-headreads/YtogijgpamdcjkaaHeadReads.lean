/-
  The header and the payload of any bytes, and any packet one hop later: every input gives true.
-/
import Derived.Test.YtogijgpamdcjkaaHeadRefBoth
namespace Go.Proofs.Ytogijgpamdcjkaa.Head
open Go.RowKit Go.Proofs.Ytogijgpamdcjkaa.Mem

set_option maxHeartbeats 2000000 in
theorem reads_any (p : Option Addr) (n c : Nat) (xs : List Int) (l : xs.length = n) (hx : ∀ c ∈ xs, Byte c) (w : World) (r : Reads .u8 w p c xs) :
    Calls Try.prog 6 #[.slice p n c] w fun e w' => e = .returned (.bool true) ∧ Below w.heap.size w w' := by
  obtain ⟨i0, hi, hz0, hz1, hz2⟩ := info_parts info_byte
  have hal := alive_any w
  have hn : n ≤ 9223372036854775807 := by have h1 := r.1; have h2 := r.2.1; unfold maxLen at h2; omega
  by_cases h3 : n > 3000
  · go_enter Try.func6, Try.ntmps6
    go_wp2_with (go_at_call 11; refine hal.mono ?_; rintro e w1 ⟨rfl, hb1⟩)
    go_ret
    exact ⟨rfl, hb1⟩
  have hA := fun u uc W r => read_any u n uc xs l hx W r
  have hB := fun W r => ref_read_any p n c xs l hx W r
  have hC := fun u uc W r => hop_any u n uc xs l hx W r
  have hD := fun W r => ref_hop_any p n c xs l hx W r
  have hS := fun q q' qc qc' W r r' => ref_Same (rdH xs) q q' _ qc qc' (rdO xs) rfl (rdO_bytes hx) W r r'
  have b1 := rdP_bytes hx
  have b2 := hopX_bytes hx
  generalize rdH xs = h at hA hB hS
  generalize rdO xs = os at hA hB hS
  generalize rdP xs = ps at hA hB b1
  generalize faultE xs = E at hA hB
  generalize hopX xs = ys at hC hD b2
  generalize hopE xs = F at hC hD
  have t1 : ((str ps).toList == (str ps).toList) = true := by rw [str_eq b1 b1]; simp
  have t2 : ((str ys).toList == (str ys).toList) = true := by rw [str_eq b2 b2]; simp
  have t3 : ((str xs).toList == (str xs).toList) = true := by rw [str_eq hx hx]; simp
  obtain ⟨K, hK⟩ : ∃ K, ps.length = K := ⟨_, rfl⟩
  obtain ⟨M, hM⟩ : ∃ M, os.length = M := ⟨_, rfl⟩
  obtain ⟨J, hJ⟩ : ∃ J, ys.length = J := ⟨_, rfl⟩
  unfold ReadAns at hA hB
  unfold MakeAns at hC hD
  rw [hK, hM] at hA hB
  rw [hJ] at hC hD
  rw [hM] at hS
  go_enter Try.func6, Try.ntmps6
  go_wp2_with (first
    | (go_at_call 11; refine hal.mono ?_; rintro e w1 ⟨rfl, hb1⟩)
    | (at_builtin; refine wpList_append_reads _ rfl _ _ 24 rfl w1.heap.size 5 i0 (.int .u8 0) 1 .u8 Try.underlying24 hi hz0 hz1 hz2 rfl (.slice (some ⟨w1.heap.size, 0, none⟩) 0 0) 0 [] rfl (lit_none (k := .u8) w1) p n c xs rfl l ((r.below hb1).alloc _) ?c3 ?c4 ?c5 ?_))
  case c3 => unfold maxLen; omega
  case c4 => omega
  case c5 => simp
  intro v2 w2 hown2 hg2
  obtain ⟨ho2, hb2⟩ := grew0 (ys := []) (zs := xs) (Nat.le_refl _) (bnew w1 _) (lit_none (k := .u8) w1) hown2 hg2
  rw [List.nil_append] at ho2
  obtain ⟨-, u, uc, hv, r2⟩ := own_reads ho2
  rw [l] at hv
  subst hv
  clear hown2 hg2 ho2
  have rp2 := (r.below hb1).below hb2
  have hw2 := bnext hb1 hb2
  go_wp2_with (go_at_call 9; refine (hA u uc _ r2).mono ?_)
  rintro e w3 ⟨oq, oc, pq, pc, rfl, ro3, rp3, hb3⟩
  have hb3' := bal hb3 (.cells #[.int .i64 h.tos, .int .i64 h.id, .int .i64 h.fl, .int .i64 h.ttl, .int .i64 h.pr, .int .u8 h.s0, .int .u8 h.s1, .int .u8 h.s2, .int .u8 h.s3, .int .u8 h.d0, .int .u8 h.d1, .int .u8 h.d2, .int .u8 h.d3, .slice oq M oc] 26)
  have Y3 := Blk.new w3 #[.int .i64 h.tos, .int .i64 h.id, .int .i64 h.fl, .int .i64 h.ttl, .int .i64 h.pr, .int .u8 h.s0, .int .u8 h.s1, .int .u8 h.s2, .int .u8 h.s3, .int .u8 h.d0, .int .u8 h.d1, .int .u8 h.d2, .int .u8 h.d3, .slice oq M oc] 26
  go_wp2_with (go_at_call 15; refine (hB _ (rp2.below hb3')).mono ?_)
  rintro e w4 ⟨oq', oc', pq', pc', rfl, ro4, rp4, hb4⟩
  have hb4' := bal hb4 (.cells #[.int .i64 h.tos, .int .i64 h.id, .int .i64 h.fl, .int .i64 h.ttl, .int .i64 h.pr, .int .u8 h.s0, .int .u8 h.s1, .int .u8 h.s2, .int .u8 h.s3, .int .u8 h.d0, .int .u8 h.d1, .int .u8 h.d2, .int .u8 h.d3, .slice oq' M oc'] 26)
  have Y4 := Blk.new w4 #[.int .i64 h.tos, .int .i64 h.id, .int .i64 h.fl, .int .i64 h.ttl, .int .i64 h.pr, .int .u8 h.s0, .int .u8 h.s1, .int .u8 h.s2, .int .u8 h.s3, .int .u8 h.d0, .int .u8 h.d1, .int .u8 h.d2, .int .u8 h.d3, .slice oq' M oc'] 26
  go_wp2_with (go_at_call 16; refine (hC u uc _ ((r2.below hb3').below hb4')).mono ?_)
  rintro e w5 ⟨q5, d5, rfl, r5, hb5⟩
  go_wp2_with (go_at_call 17; refine (hD _ (((rp2.below hb3').below hb4').below hb5)).mono ?_)
  rintro e w6 ⟨q6, d6, rfl, r6, hb6⟩
  have Y3' := ((Y3.below hb4').below hb5).below hb6
  have Y4' := (Y4.below hb5).below hb6
  have k3 := Y3'.cell
  have k4 := Y4'.cell
  have hb46 := bnext (bnext hb4' hb5) hb6
  have hS' := hS oq oq' oc oc' w6 ((ro3.alloc _).below hb46) (((ro4.alloc _).below hb5).below hb6)
  go_wp2_with (go_at_call 18; refine hS'.mono ?_)
  rintro e w7 ⟨rfl, hb7⟩
  have c1 := conv (((rp3.alloc _).below hb46).below hb7) hK
  have c2 := conv ((((rp4.alloc _).below hb5).below hb6).below hb7) hK
  have c3 := conv ((r5.below hb6).below hb7) hJ
  have c4 := conv (r6.below hb7) hJ
  have c5 := conv (((r2.below hb3').below hb46).below hb7) l
  have c6 := conv (((rp2.below hb3').below hb46).below hb7) l
  clear k3 k4
  go_wp2
  go_ret
  exact ⟨rfl, bnext (bnext (bnext hw2 hb3') hb46) hb7⟩
end Go.Proofs.Ytogijgpamdcjkaa.Head
