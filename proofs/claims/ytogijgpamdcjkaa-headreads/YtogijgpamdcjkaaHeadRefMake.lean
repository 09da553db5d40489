/-
  The document's answers, as they are typed out: Make.
-/
import Derived.Test.YtogijgpamdcjkaaHeadRefHead
namespace Go.Proofs.Ytogijgpamdcjkaa.Head
open Go.RowKit Go.Proofs.Ytogijgpamdcjkaa.Mem
set_option linter.unusedVariables false

theorem ref_header' (h : Hd) (q : Option Addr) (m c : Nat) (os : List Int) (lo : os.length = m) (hr : rightB h m = true) (all s : Int) (hl0 : 0 ≤ all) (hl1 : all ≤ 65535) (hs0 : 0 ≤ s) (hs1 : s ≤ 65535) (w : World) (ro : Reads .u8 w q c os) :
    Calls Try.prog 27 #[.agg #[.int .i64 h.tos, .int .i64 h.id, .int .i64 h.fl, .int .i64 h.ttl, .int .i64 h.pr, .int .u8 h.s0, .int .u8 h.s1, .int .u8 h.s2, .int .u8 h.s3, .int .u8 h.d0, .int .u8 h.d1, .int .u8 h.d2, .int .u8 h.d3, .slice q m c], .int .i64 all, .int .i64 s] w fun e w' => ∃ g d, e = .returned (.slice (some ⟨g, 0, none⟩) (20 + m) d) ∧ w'.ownsRow w.heap.size 5 1 (.slice (some ⟨g, 0, none⟩) (20 + m) d) (20 + m) (bs (header h os all s)) ∧ Reads .u8 w' (some ⟨g, 0, none⟩) d (header h os all s) ∧ Below w.heap.size w w' := by
  refine (ref_header h q m c os lo hr all s hl0 hl1 hs0 hs1 w ro).mono ?_
  rintro e w' ⟨v, rfl, ho, hb⟩
  have hl := header_length h os all s
  obtain ⟨g, d, hv, hrd⟩ := own_reads_pos (xs := header h os all s) ho (by omega)
  rw [hl, lo] at hv
  subst hv
  exact ⟨g, d, rfl, ⟨ho.1, by
    rcases ho.2 with h0 | ⟨g', cap, cur, hv, hg, r⟩
    · exact .inl h0
    · exact .inr ⟨g', cap, cur, hv, by omega, r⟩⟩, hrd, hb⟩
theorem ref_make_wrong (h : Hd) (q : Option Addr) (m c : Nat) (p : Option Addr) (n d : Nat) (hm : m ≤ 9223372036854775807) (hr : rightB h m = false) (w : World) :
    Calls Try.prog 14 #[.agg #[.int .i64 h.tos, .int .i64 h.id, .int .i64 h.fl, .int .i64 h.ttl, .int .i64 h.pr, .int .u8 h.s0, .int .u8 h.s1, .int .u8 h.s2, .int .u8 h.s3, .int .u8 h.d0, .int .u8 h.d1, .int .u8 h.d2, .int .u8 h.d3, .slice q m c], .slice p n d] w fun e w' => e = .returned (.tuple #[.slice none 0 0, .int .i64 55]) ∧ Below w.heap.size w w' := by
  have hc := fun W => ref_Right h q m c hm W
  rw [hr] at hc
  go_enter Try.func14, Try.ntmps14
  go_wp2_with (go_at_call 26; refine (hc _).mono ?_; rintro e w1 ⟨rfl, hb1⟩)
  go_ret2
  exact ⟨rfl, bnext (bnew _ _) hb1⟩
theorem ref_make_long (h : Hd) (q : Option Addr) (m c : Nat) (p : Option Addr) (n d : Nat) (hr : rightB h m = true) (hn : n ≤ 100000) (hl : 1500 < 20 + m + n) (w : World) :
    Calls Try.prog 14 #[.agg #[.int .i64 h.tos, .int .i64 h.id, .int .i64 h.fl, .int .i64 h.ttl, .int .i64 h.pr, .int .u8 h.s0, .int .u8 h.s1, .int .u8 h.s2, .int .u8 h.s3, .int .u8 h.d0, .int .u8 h.d1, .int .u8 h.d2, .int .u8 h.d3, .slice q m c], .slice p n d] w fun e w' => e = .returned (.tuple #[.slice none 0 0, .int .i64 55]) ∧ Below w.heap.size w w' := by
  have hm40 := (right_iff.1 hr).2.2.2.2.2.1
  have hc := fun W => ref_Right h q m c (by omega) W
  rw [hr] at hc
  have hz := fun w1 (hb : Below (w.alloc (.cells #[.int .i64 h.tos, .int .i64 h.id, .int .i64 h.fl, .int .i64 h.ttl, .int .i64 h.pr, .int .u8 h.s0, .int .u8 h.s1, .int .u8 h.s2, .int .u8 h.s3, .int .u8 h.d0, .int .u8 h.d1, .int .u8 h.d2, .int .u8 h.d3, .slice q m c] 26)).heap.size (w.alloc (.cells #[.int .i64 h.tos, .int .i64 h.id, .int .i64 h.fl, .int .i64 h.ttl, .int .i64 h.pr, .int .u8 h.s0, .int .u8 h.s1, .int .u8 h.s2, .int .u8 h.s3, .int .u8 h.d0, .int .u8 h.d1, .int .u8 h.d2, .int .u8 h.d3, .slice q m c] 26)) w1) => (Blk.new w #[.int .i64 h.tos, .int .i64 h.id, .int .i64 h.fl, .int .i64 h.ttl, .int .i64 h.pr, .int .u8 h.s0, .int .u8 h.s1, .int .u8 h.s2, .int .u8 h.s3, .int .u8 h.d0, .int .u8 h.d1, .int .u8 h.d2, .int .u8 h.d3, .slice q m c] 26).below hb
  go_enter Try.func14, Try.ntmps14
  go_wp2_with (go_at_call 26; refine (hc _).mono ?_; rintro e w1 ⟨rfl, hb1⟩; have kz := (hz _ hb1).cell)
  go_ret2
  exact ⟨rfl, bnext (bnew _ _) hb1⟩
set_option maxHeartbeats 2000000 in
set_option maxRecDepth 100000 in
theorem ref_make_ok (h : Hd) (q : Option Addr) (m c : Nat) (os : List Int) (lo : os.length = m) (p : Option Addr) (n d : Nat) (ps : List Int) (lp : ps.length = n) (N : Nat) (hN : 20 + m + n = N) (hr : rightB h m = true) (ha : Ads h) (ho : ∀ c ∈ os, Byte c) (hl : N ≤ 1500)
    (w : World) (ro : Reads .u8 w q c os) (rp : Reads .u8 w p d ps) :
    Calls Try.prog 14 #[.agg #[.int .i64 h.tos, .int .i64 h.id, .int .i64 h.fl, .int .i64 h.ttl, .int .i64 h.pr, .int .u8 h.s0, .int .u8 h.s1, .int .u8 h.s2, .int .u8 h.s3, .int .u8 h.d0, .int .u8 h.d1, .int .u8 h.d2, .int .u8 h.d3, .slice q m c], .slice p n d] w fun e w' => ∃ g cp, e = .returned (.tuple #[.slice (some ⟨g, 0, none⟩) N cp, .int .i64 0]) ∧ Reads .u8 w' (some ⟨g, 0, none⟩) cp (packet h os ps) ∧ Below w.heap.size w w' := by
  obtain ⟨i0, hi, hz0, hz1, hz2⟩ := info_parts info_byte
  have hm40 := (right_iff.1 hr).2.2.2.2.2.1
  have hc := fun W => ref_Right h q m c (by omega) W
  rw [hr] at hc
  have hF1 : 20 + (m : Int) + (n : Int) = (N : Int) := by omega
  have hall : allOf os ps = (N : Int) := by unfold allOf; omega
  have hH : ∀ s, (header h os N s).length = 20 + m := fun s => by rw [header_length]; omega
  have hr' : rightB h os.length = true := by rw [lo]; exact hr
  have hbH : ∀ c ∈ header h os N 0, Byte c := header_bytes hr' ha ho (by omega) (by omega) (by omega) (by omega)
  obtain ⟨s, hs⟩ : ∃ s, s = sumI (header h os N 0) := ⟨_, rfl⟩
  have hs2 : 0 ≤ s ∧ s ≤ 65535 := by rw [hs]; exact sum_range hbH
  have hpk : bs (header h os N s ++ ps) = bs (packet h os ps) := by unfold packet sumOf; rw [hall, hs]
  have HPK : Hid (bs (header h os N s ++ ps) = bs (packet h os ps)) := hpk
  have hlk : (packet h os ps).length = N := by rw [packet_length]; omega
  have c0 := fun W r => ref_header' h q m c os lo hr N 0 (by omega) (by omega) (by omega) (by omega) W r
  have c1 := fun W r => ref_header' h q m c os lo hr N s (by omega) (by omega) hs2.1 hs2.2 W r
  have cs := fun g cp W r => ref_Sum (some ⟨g, 0, none⟩) (20 + m) cp (header h os N 0) (hH 0) hbH (by omega) W r
  rw [← hs] at cs
  have hz := fun w1 (hb : Below (w.alloc (.cells #[.int .i64 h.tos, .int .i64 h.id, .int .i64 h.fl, .int .i64 h.ttl, .int .i64 h.pr, .int .u8 h.s0, .int .u8 h.s1, .int .u8 h.s2, .int .u8 h.s3, .int .u8 h.d0, .int .u8 h.d1, .int .u8 h.d2, .int .u8 h.d3, .slice q m c] 26)).heap.size (w.alloc (.cells #[.int .i64 h.tos, .int .i64 h.id, .int .i64 h.fl, .int .i64 h.ttl, .int .i64 h.pr, .int .u8 h.s0, .int .u8 h.s1, .int .u8 h.s2, .int .u8 h.s3, .int .u8 h.d0, .int .u8 h.d1, .int .u8 h.d2, .int .u8 h.d3, .slice q m c] 26)) w1) => (Blk.new w #[.int .i64 h.tos, .int .i64 h.id, .int .i64 h.fl, .int .i64 h.ttl, .int .i64 h.pr, .int .u8 h.s0, .int .u8 h.s1, .int .u8 h.s2, .int .u8 h.s3, .int .u8 h.d0, .int .u8 h.d1, .int .u8 h.d2, .int .u8 h.d3, .slice q m c] 26).below hb
  clear hs hpk hall
  go_enter Try.func14, Try.ntmps14
  go_wp2_with (go_at_call 26; refine (hc _).mono ?_; rintro e w1 ⟨rfl, hb1⟩; have kz := (hz _ hb1).cell)
  have hS1 : HdS h q m c os w w.heap.size w1.drew := HdS.drew ⟨hz _ hb1, (ro.alloc _).below hb1, bnext (bnew _ _) hb1⟩
  have rq1 : Reads .u8 w1.drew q c os := hS1.2.1
  have rp1 : Reads .u8 w1.drew p d ps := ((rp.alloc _).below hb1).drew
  have hfull : HdS h q m c os w w.heap.size w1.drew ∧ ∀ i, w1.drew.cell? ⟨w.heap.size, i, none⟩ = [.int .i64 h.tos, .int .i64 h.id, .int .i64 h.fl, .int .i64 h.ttl, .int .i64 h.pr, .int .u8 h.s0, .int .u8 h.s1, .int .u8 h.s2, .int .u8 h.s3, .int .u8 h.d0, .int .u8 h.d1, .int .u8 h.d2, .int .u8 h.d3, .slice q m c][i]? := ⟨hS1, hS1.1.cell⟩
  clear kz hz hc hb1
  go_region_held_law (fun W' => HdS h q m c os w w.heap.size W' ∧ ∀ i, W'.cell? ⟨w.heap.size, i, none⟩ = [.int .i64 h.tos, .int .i64 h.id, .int .i64 h.fl, .int .i64 h.ttl, .int .i64 h.pr, .int .u8 h.s0, .int .u8 h.s1, .int .u8 h.s2, .int .u8 h.s3, .int .u8 h.d0, .int .u8 h.d1, .int .u8 h.d2, .int .u8 h.d3, .slice q m c][i]?) (assumption)
    (first
      | (go_at_call 27; (with_reducible refine (c0 _ rq1).mono ?_); rintro e w6 ⟨g6, d6, rfl, own6, R6, hb6⟩; replace rp1 := rp1.below hb6; replace rq1 := rq1.below hb6; replace hS1 := hS1.next hb6; have hfull2 : HdS h q m c os w w.heap.size w6 ∧ ∀ i, w6.cell? ⟨w.heap.size, i, none⟩ = [.int .i64 h.tos, .int .i64 h.id, .int .i64 h.fl, .int .i64 h.ttl, .int .i64 h.pr, .int .u8 h.s0, .int .u8 h.s1, .int .u8 h.s2, .int .u8 h.s3, .int .u8 h.d0, .int .u8 h.d1, .int .u8 h.d2, .int .u8 h.d3, .slice q m c][i]? := ⟨hS1, hS1.1.cell⟩)
      | (go_at_call 13; (with_reducible refine (cs g6 d6 _ R6).mono ?_); rintro e w7 ⟨rfl, rfl⟩)
      | (go_at_call 27; (with_reducible refine (c1 _ rq1).mono ?_); rintro e w8 ⟨g8, d8, rfl, own8, R8, hb8⟩; replace rp1 := rp1.below hb8; replace rq1 := rq1.below hb8; have hlo8 := hb8.size; have hS7 := hS1; replace hS1 := hS1.next hb8; have hfull3 : HdS h q m c os w w.heap.size w8 ∧ ∀ i, w8.cell? ⟨w.heap.size, i, none⟩ = [.int .i64 h.tos, .int .i64 h.id, .int .i64 h.fl, .int .i64 h.ttl, .int .i64 h.pr, .int .u8 h.s0, .int .u8 h.s1, .int .u8 h.s2, .int .u8 h.s3, .int .u8 h.d0, .int .u8 h.d1, .int .u8 h.d2, .int .u8 h.d3, .slice q m c][i]? := ⟨hS1, hS1.1.cell⟩)
      | (refine step_append_reads rfl (.tmp 32) (.tmp 33) 24 rfl w7.heap.size 5 i0 .u8 Try.underlying24 hi hz0 hz1 hz2 _ _ _ (by simp [Act.eval]) own8 p n d ps (by simp [Act.eval]) lp rp1 (by omega) hlo8 ?_; intro v9 w9 own9 hg9; have hS9 := HdS.grown ro rfl hS1 hg9 (fun k hk => by have := (own8.lt k hk).1; have := hS7.1.lt; omega); have hfull4 : HdS h q m c os w w.heap.size w9 ∧ ∀ i, w9.cell? ⟨w.heap.size, i, none⟩ = [.int .i64 h.tos, .int .i64 h.id, .int .i64 h.fl, .int .i64 h.ttl, .int .i64 h.pr, .int .u8 h.s0, .int .u8 h.s1, .int .u8 h.s2, .int .u8 h.s3, .int .u8 h.d0, .int .u8 h.d1, .int .u8 h.d2, .int .u8 h.d3, .slice q m c][i]? := ⟨hS9, hS9.1.cell⟩))
  rw [bs_append, HPK.out] at own9
  obtain ⟨gf, cf, hv, R9⟩ := own_reads_pos (xs := packet h os ps) own9 (by omega)
  rw [hlk] at hv
  subst hv
  clear own9 hg9
  go_wp2
  exact bodyPost_ret (v := .tuple #[.slice (some ⟨gf, 0, none⟩) N cf, .int .i64 0]) (by simp [results, Try.results14, go_sem]) rfl ⟨gf, cf, rfl, R9, hS9.2.2⟩
end Go.Proofs.Ytogijgpamdcjkaa.Head
