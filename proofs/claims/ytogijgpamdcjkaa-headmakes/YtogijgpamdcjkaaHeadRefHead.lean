/-
  The document's answers, as they are typed out: header.
-/
import Derived.Test.YtogijgpamdcjkaaHeadRef
import Derived.Test.YtogijgpamdcjkaaHeadFill
import Derived.Deep.RegionHeldLaw
namespace Go.Proofs.Ytogijgpamdcjkaa.Head
open Go.RowKit Go.Proofs.Ytogijgpamdcjkaa.Mem

/-- What stands all along: a header in its block, its options, and what was there before. -/
def HdS (h : Hd) (q : Option Addr) (m c : Nat) (os : List Int) (w : World) (G : Nat) (W : World) : Prop :=
  Blk W G 26 (hcs h q m c) ∧ Reads .u8 W q c os ∧ Below w.heap.size w W
section
variable {h : Hd} {q : Option Addr} {m c : Nat} {os : List Int} {w : World} {G : Nat} {W W' : World}
theorem HdS.next (s : HdS h q m c os w G W) (hb : Below W.heap.size W W') : HdS h q m c os w G W' := ⟨s.1.below hb, s.2.1.below hb, bnext s.2.2 hb⟩
theorem HdS.drew (s : HdS h q m c os w G W) : HdS h q m c os w G W.drew := s.next (Below.refl _ _).drew
theorem HdS.grown (r : Reads .u8 w q c os) (hG : G = w.heap.size) (s : HdS h q m c os w G W) {row : Option Nat} (hg : W.grownBy W' row) (hr : ∀ k, row = some k → w.heap.size + 1 ≤ k) : HdS h q m c os w G W' := by
  refine ⟨s.1.kept hg (fun e => ?_), ?_, s.2.2.grown hg s.2.2.size (fun k hk => by have := hr k hk; omega)⟩
  · have := hr G e.symm; omega
  · cases row with
    | none =>
      have hb : Below W.heap.size W W' := (Below.refl _ _).grown hg (Nat.le_refl _) (by simp)
      exact s.2.1.below hb
    | some k => exact s.2.1.kept hg (r.apart (by have := hr k rfl; omega))
/-- With the cells of the numbers. -/
theorem HdS.full (s : HdS h q m c os w G W) : HdS h q m c os w G W ∧ W.cell? ⟨G, 1, none⟩ = some (.int .i64 h.id) ∧ W.cell? ⟨G, 2, none⟩ = some (.int .i64 h.fl) := ⟨s, s.1.cell 1, s.1.cell 2⟩
end
theorem part_reads {W : World} {G : Nat} {t : TypeId} {cs : List Value} (B : Blk W G t cs) (o : Nat) (zs : List Int) (rest : List Value) (hd : cs.drop o = bs zs ++ rest) (hl : zs.length ≤ 1000) : Reads .u8 W (some ⟨G, o, none⟩) zs.length zs := by
  refine ⟨Nat.le_refl _, by unfold maxLen; omega, fun h => by simp at h, fun _ => ⟨G, o, rfl, B.lt, fun i hi => ?_⟩⟩
  have := B.part o (bs zs) rest hd i (.int .u8 (zs.getD i 0)) (by simp [bs, hi])
  rw [Addr.add_lit] at this
  exact this
theorem bs_append (xs zs : List Int) : bs xs ++ zs.map (Value.int .u8) = bs (xs ++ zs) := by simp [bs]
theorem ref_two' (v : Int) (h0 : 0 ≤ v) (h1 : v ≤ 65535) (w : World) :
    Calls Try.prog 30 #[.int .i64 v] w fun e w' => ∃ g, e = .returned (.slice (some ⟨g, 0, none⟩) 2 2) ∧ Reads .u8 w' (some ⟨g, 0, none⟩) 2 [v / 256, v % 256] ∧ Below w.heap.size w w' :=
  (ref_two v h0 h1 w).mono fun _ _ ⟨he, hw⟩ => ⟨_, he, by rw [hw]; exact lit_reads rfl rfl (by simp), by rw [hw]; exact bnew _ _⟩
theorem own_row {w W : World} {v : Value} {n : Nat} {xs : List Value} (h : W.ownsRow (w.heap.size + 1) 5 1 v n xs) : ∀ k, v.ownBlock = some k → w.heap.size + 1 ≤ k := fun k hk => (h.lt k hk).1
theorem own_len {W : World} {B n : Nat} {v : Value} {xs : List Int} (h : W.ownsRow B 5 1 v n (xs.map (Value.int .u8))) : n = xs.length := by have := h.1; simp at this; omega
set_option maxHeartbeats 2000000 in
set_option maxRecDepth 100000 in
theorem ref_header (h : Hd) (q : Option Addr) (m c : Nat) (os : List Int) (lo : os.length = m) (hr : rightB h m = true) (all s : Int) (hl0 : 0 ≤ all) (hl1 : all ≤ 65535) (hs0 : 0 ≤ s) (hs1 : s ≤ 65535) (w : World) (ro : Reads .u8 w q c os) :
    Calls Try.prog 27 #[.agg #[.int .i64 h.tos, .int .i64 h.id, .int .i64 h.fl, .int .i64 h.ttl, .int .i64 h.pr, .int .u8 h.s0, .int .u8 h.s1, .int .u8 h.s2, .int .u8 h.s3, .int .u8 h.d0, .int .u8 h.d1, .int .u8 h.d2, .int .u8 h.d3, .slice q m c], .int .i64 all, .int .i64 s] w fun e w' => ∃ v, e = .returned v ∧ w'.ownsRow (w.heap.size + 1) 5 1 v (20 + m) (bs (header h os all s)) ∧ Below w.heap.size w w' := by
  obtain ⟨⟨a0, a1⟩, ⟨b0, b1⟩, ⟨c0, c1⟩, ⟨d0, d1⟩, ⟨e0, e1⟩, hm40, hm4⟩ := right_iff.1 hr
  obtain ⟨i0, hi, hz0, hz1, hz2⟩ := info_parts info_byte
  have S0 : HdS h q m c os w w.heap.size (w.alloc (.cells #[.int .i64 h.tos, .int .i64 h.id, .int .i64 h.fl, .int .i64 h.ttl, .int .i64 h.pr, .int .u8 h.s0, .int .u8 h.s1, .int .u8 h.s2, .int .u8 h.s3, .int .u8 h.d0, .int .u8 h.d1, .int .u8 h.d2, .int .u8 h.d3, .slice q m c] 26)) := ⟨Blk.new w _ _, ro.alloc _, bnew _ _⟩
  have hown : ((w.alloc (.cells #[.int .i64 h.tos, .int .i64 h.id, .int .i64 h.fl, .int .i64 h.ttl, .int .i64 h.pr, .int .u8 h.s0, .int .u8 h.s1, .int .u8 h.s2, .int .u8 h.s3, .int .u8 h.d0, .int .u8 h.d1, .int .u8 h.d2, .int .u8 h.d3, .slice q m c] 26)).alloc (.cells #[.int .u8 (69 + (m : Int) / 4), .int .u8 h.tos] 5)).ownsRow (w.heap.size + 1) 5 1 (.slice (some ⟨w.heap.size + 1, 0, none⟩) 2 2) 2 (bs [69 + (m : Int) / 4, h.tos]) := by
    have := World.ownsRow_lit (base := w.heap.size + 1) (e := 5) (size := 1) (w.alloc (.cells #[.int .i64 h.tos, .int .i64 h.id, .int .i64 h.fl, .int .i64 h.ttl, .int .i64 h.pr, .int .u8 h.s0, .int .u8 h.s1, .int .u8 h.s2, .int .u8 h.s3, .int .u8 h.d0, .int .u8 h.d1, .int .u8 h.d2, .int .u8 h.d3, .slice q m c] 26)) #[.int .u8 (69 + (m : Int) / 4), .int .u8 h.tos] 2 (by simp) (by unfold maxLen; omega) rfl
    simpa [bs] using this
  replace S0 := S0.next (bnew _ (.cells #[.int .u8 (69 + (m : Int) / 4), .int .u8 h.tos] 5))
  have t1 := fun W => ref_two' all hl0 hl1 W
  have t2 := fun W => ref_two' h.id d0 d1 W
  have t3 := fun W => ref_two' h.fl e0 e1 W
  have t4 := fun W => ref_two' s hs0 hs1 W
  go_enter Try.func27, Try.ntmps27
  go_wp2
  generalize hW : (w.alloc (.cells #[.int .i64 h.tos, .int .i64 h.id, .int .i64 h.fl, .int .i64 h.ttl, .int .i64 h.pr, .int .u8 h.s0, .int .u8 h.s1, .int .u8 h.s2, .int .u8 h.s3, .int .u8 h.d0, .int .u8 h.d1, .int .u8 h.d2, .int .u8 h.d3, .slice q m c] 26)).alloc (.cells #[.int .u8 (69 + (m : Int) / 4), .int .u8 h.tos] 5) = W at hown S0 ⊢
  replace hown := hown.drew
  have hS1 := S0.drew.full
  clear hW
  go_region_held_law (fun W' => HdS h q m c os w w.heap.size W' ∧ W'.cell? ⟨w.heap.size, 1, none⟩ = some (.int .i64 h.id) ∧ W'.cell? ⟨w.heap.size, 2, none⟩ = some (.int .i64 h.fl)) (assumption)
    (first
      | (go_at_call 30; (with_reducible refine (t1 _).mono ?_); rintro e w6 ⟨g6, rfl, hR, hb6⟩; replace hown := own_below hown hb6; replace hS1 := (hS1.1.next hb6).full; clear hb6)
      | (go_at_call 30; (with_reducible refine (t2 _).mono ?_); rintro e w6 ⟨g6, rfl, hR, hb6⟩; replace hown := own_below hown hb6; replace hS1 := (hS1.1.next hb6).full; clear hb6)
      | (go_at_call 30; (with_reducible refine (t3 _).mono ?_); rintro e w6 ⟨g6, rfl, hR, hb6⟩; replace hown := own_below hown hb6; replace hS1 := (hS1.1.next hb6).full; clear hb6)
      | (refine step_append_reads rfl _ _ 24 rfl (w.heap.size + 1) 5 i0 .u8 Try.underlying24 hi hz0 hz1 hz2 _ _ _ (by simp [Act.eval, Act.put]) hown _ 2 2 _ (by simp [Act.eval, Act.put]) rfl hR (by omega) hS1.1.1.lt ?_; intro v7 w7 hown7 hg7; rw [bs_append] at hown7; replace hS1 := (HdS.grown ro rfl hS1.1 hg7 (own_row hown)).full; replace hown := hown7; clear hown7 hg7 hR))
  clear t1 t2 t3
  replace hS1 := hS1.1
  have k7 := hS1.1.cell
  simp only [hcs] at k7
  go_wp2_with (at_builtin; refine wpList_append_reads _ rfl _ _ 24 rfl (w.heap.size + 1) 5 i0 (.int .u8 0) 1 .u8 Try.underlying24 hi hz0 hz1 hz2 rfl _ _ _ rfl (hown.alloc _) _ 2 2 _ rfl rfl (lit_reads (zs := [h.ttl, h.pr]) rfl rfl (by simp)) ?c3 ?c4 ?c5 ?_)
  case c3 => unfold maxLen; omega
  case c4 => omega
  case c5 => have := hS1.1.lt; simp; omega
  intro v9 w9 hown9 hg9
  replace hown9 : w9.ownsRow (w.heap.size + 1) 5 1 v9 10 (bs [69 + (m : Int) / 4, h.tos, all / 256, all % 256, h.id / 256, h.id % 256, h.fl / 256, h.fl % 256, h.ttl, h.pr]) := hown9
  replace hS1 := HdS.grown ro rfl (hS1.next (bnew _ _)) hg9 (own_row (hown.alloc (.cells #[.int .u8 h.ttl, .int .u8 h.pr] 5)))
  replace hown := hown9
  clear hown9 hg9 k7
  go_wp2_with (go_at_call 30; refine (t4 _).mono ?_)
  rintro e w10 ⟨g10, rfl, hR, hb10⟩
  replace hown := own_below hown hb10
  replace hS1 := hS1.next hb10
  clear hb10 t4
  go_wp2_with (at_builtin; refine wpList_append_reads _ rfl _ _ 24 rfl (w.heap.size + 1) 5 i0 (.int .u8 0) 1 .u8 Try.underlying24 hi hz0 hz1 hz2 rfl _ _ _ rfl hown _ 2 2 _ rfl rfl hR ?c3 ?c4 ?c5 ?_)
  case c3 => unfold maxLen; omega
  case c4 => omega
  case c5 => have := hS1.1.lt; omega
  intro v11 w11 hown11 hg11
  replace hown11 : w11.ownsRow (w.heap.size + 1) 5 1 v11 12 (bs [69 + (m : Int) / 4, h.tos, all / 256, all % 256, h.id / 256, h.id % 256, h.fl / 256, h.fl % 256, h.ttl, h.pr, s / 256, s % 256]) := hown11
  replace hS1 := HdS.grown ro rfl hS1 hg11 (own_row hown)
  replace hown := hown11.drew
  replace hS1 := hS1.drew
  clear hown11 hg11 hR
  go_wp2
  go_region_law (first
    | (refine step_append_reads rfl (.tmp 42) (.tmp 44) 24 rfl (w.heap.size + 1) 5 i0 .u8 Try.underlying24 hi hz0 hz1 hz2 _ _ _ (by simp [Act.eval, Act.put]) hown (some ⟨w.heap.size, 5, none⟩) 4 4 [h.s0, h.s1, h.s2, h.s3] (by simp [Act.eval, Act.put]) rfl (part_reads hS1.1 5 _ _ rfl (by simp)) (by omega) hS1.1.lt ?_; intro v12 w12 hown12 hg12; rw [bs_append] at hown12; replace hS1 := HdS.grown ro rfl hS1 hg12 (own_row hown); replace hown := hown12; clear hown12 hg12)
    | (refine step_append_reads rfl (.tmp 45) (.tmp 47) 24 rfl (w.heap.size + 1) 5 i0 .u8 Try.underlying24 hi hz0 hz1 hz2 _ _ _ (by simp [Act.eval]) hown (some ⟨w.heap.size, 9, none⟩) 4 4 [h.d0, h.d1, h.d2, h.d3] (by simp [Act.eval]) rfl (part_reads hS1.1 9 _ _ rfl (by simp)) (by omega) hS1.1.lt ?_; intro v13 w13 hown13 hg13; rw [bs_append] at hown13; replace hS1 := HdS.grown ro rfl hS1 hg13 (own_row hown); replace hown := hown13; clear hown13 hg13))
  have k13 := hS1.1.cell
  simp only [hcs] at k13
  go_wp2_with (at_builtin; refine wpList_append_reads _ rfl _ _ 24 rfl (w.heap.size + 1) 5 i0 (.int .u8 0) 1 .u8 Try.underlying24 hi hz0 hz1 hz2 rfl _ _ _ rfl hown _ m c _ rfl lo hS1.2.1 ?c3 ?c4 ?c5 ?_)
  case c3 => unfold maxLen; omega
  case c4 => omega
  case c5 => have := hS1.1.lt; omega
  intro v14 w14 hown14 hg14
  rw [bs_append] at hown14
  replace hS1 := HdS.grown ro rfl hS1 hg14 (own_row hown)
  have hfin : w14.ownsRow (w.heap.size + 1) 5 1 v14 (20 + m) (bs (header h os all s)) := by
    have e : header h os all s = hdr h m all s ++ os := by unfold header; rw [lo]
    rw [e]
    exact hown14
  go_wp2
  go_ret
  exact ⟨v14, rfl, hfin, hS1.2.2⟩
end Go.Proofs.Ytogijgpamdcjkaa.Head
