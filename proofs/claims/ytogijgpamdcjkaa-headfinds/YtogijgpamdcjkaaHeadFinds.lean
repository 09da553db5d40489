/-
  One byte is found: every input gives true.
-/
import Derived.Test.YtogijgpamdcjkaaHeadBoth
import Derived.Test.YtogijgpamdcjkaaHeadFound
namespace Go.Proofs.Ytogijgpamdcjkaa.Head
open Go.RowKit Go.Proofs.Ytogijgpamdcjkaa.Mem

theorem data_bytes : ∀ c ∈ ([100, 97, 116, 97] : List Int), Byte c := by
  intro c hc
  simp only [List.mem_cons, List.not_mem_nil, or_false] at hc
  rcases hc with rfl | rfl | rfl | rfl <;> exact ⟨by decide, by decide⟩
set_option maxHeartbeats 2000000 in
set_option maxRecDepth 100000 in
theorem finds_any (h : Hd) (q : Option Addr) (m c : Nat) (os : List Int) (lo : os.length = m) (ha : Ads h) (ho : ∀ c ∈ os, Byte c) (i : Int) (v : Int) (hv : Byte v) (w : World) (ro : Reads .u8 w q c os) :
    Calls Try.prog 8 #[.agg #[.int .i64 h.tos, .int .i64 h.id, .int .i64 h.fl, .int .i64 h.ttl, .int .i64 h.pr, .int .u8 h.s0, .int .u8 h.s1, .int .u8 h.s2, .int .u8 h.s3, .int .u8 h.d0, .int .u8 h.d1, .int .u8 h.d2, .int .u8 h.d3, .slice q m c], .int .i64 i, .int .u8 v] w fun e w' => e = .returned (.bool true) ∧ Below w.heap.size w w' := by
  have hal := alive_any (w.alloc (.cells #[.int .i64 h.tos, .int .i64 h.id, .int .i64 h.fl, .int .i64 h.ttl, .int .i64 h.pr, .int .u8 h.s0, .int .u8 h.s1, .int .u8 h.s2, .int .u8 h.s3, .int .u8 h.d0, .int .u8 h.d1, .int .u8 h.d2, .int .u8 h.d3, .slice q m c] 26))
  have hm : m ≤ 9223372036854775807 := by have h1 := ro.1; have h2 := ro.2.1; unfold maxLen at h2; omega
  have hz := fun w1 (hb : Below (w.alloc (.cells #[.int .i64 h.tos, .int .i64 h.id, .int .i64 h.fl, .int .i64 h.ttl, .int .i64 h.pr, .int .u8 h.s0, .int .u8 h.s1, .int .u8 h.s2, .int .u8 h.s3, .int .u8 h.d0, .int .u8 h.d1, .int .u8 h.d2, .int .u8 h.d3, .slice q m c] 26)).heap.size (w.alloc (.cells #[.int .i64 h.tos, .int .i64 h.id, .int .i64 h.fl, .int .i64 h.ttl, .int .i64 h.pr, .int .u8 h.s0, .int .u8 h.s1, .int .u8 h.s2, .int .u8 h.s3, .int .u8 h.d0, .int .u8 h.d1, .int .u8 h.d2, .int .u8 h.d3, .slice q m c] 26)) w1) => (Blk.new w #[.int .i64 h.tos, .int .i64 h.id, .int .i64 h.fl, .int .i64 h.ttl, .int .i64 h.pr, .int .u8 h.s0, .int .u8 h.s1, .int .u8 h.s2, .int .u8 h.s3, .int .u8 h.d0, .int .u8 h.d1, .int .u8 h.d2, .int .u8 h.d3, .slice q m c] 26).below hb
  by_cases hb : madeB h os [100, 97, 116, 97] = true
  · obtain ⟨hr, hl⟩ := madeB_iff.1 hb
    obtain ⟨N, hN⟩ : ∃ N, 20 + m + 4 = N := ⟨_, rfl⟩
    have hpl : (packet h os [100, 97, 116, 97]).length = N := by rw [packet_length]; simp; omega
    have hmk := fun g W r => make_ok h q m c os lo (some ⟨g, 0, none⟩) 4 4 [100, 97, 116, 97] rfl N hN (by rw [← lo]; exact hr) ha ho (by simp at hl; omega) W r
    have hpb := packet_bytes (ps := [100, 97, 116, 97]) hr ha ho data_bytes hl
    have hfd := fun (i : Nat) => found (i := i) (v := v) hr ha ho data_bytes hl hv
    generalize packet h os [100, 97, 116, 97] = pk at hmk hpl hpb hfd
    have hN15 : N ≤ 1500 := by simp at hl; omega
    clear hr hl hb
    go_enter Try.func8, Try.ntmps8
    go_wp2_with (go_at_call 11; refine hal.mono ?_; rintro e w1 ⟨rfl, hb1⟩; have kz := (hz _ hb1).cell; have hk := conv_const w1)
    have r1 : Reads .u8 (w1.alloc (.cells #[.int .u8 100, .int .u8 97, .int .u8 116, .int .u8 97] 5 (4, 5))) (some ⟨w1.heap.size, 0, none⟩) 4 [100, 97, 116, 97] := const_reads rfl rfl (by decide)
    have hmk1 := hmk _ _ (((ro.alloc _).below hb1).alloc _) r1
    clear hmk hal
    go_wp2_with (go_at_call 10; refine hmk1.mono ?_)
    rintro e w2 ⟨g, rfl, hg, B2, hb2⟩
    have hsz1 := hb1.size
    simp only [World.size_alloc] at hg hsz1
    have hw2 : Below w.heap.size w w2 := bnext (bnext (bnext (bnew _ _) hb1) (bnew _ _)) hb2
    have Y2 := ((hz _ hb1).alloc (.cells #[.int .u8 100, .int .u8 97, .int .u8 116, .int .u8 97] 5 (4, 5))).below hb2
    have hN4 : (N : Int) - 4 = (20 + m : Nat) := by omega
    clear kz hk hmk1 r1
    by_cases i0 : i < 0
    · go_wp2
      go_ret
      exact ⟨rfl, hw2⟩
    by_cases i1 : (N : Int) - 4 ≤ i
    · go_wp2
      go_ret
      exact ⟨rfl, hw2⟩
    obtain ⟨j, rfl⟩ := Int.eq_ofNat_of_zero_le (show 0 ≤ i by omega)
    have hjN : j < N := by omega
    have cj := B2.cell j
    have fj := B2.frozen j
    have hgt : (bs pk)[j]? = some (.int .u8 (pk.getD j 0)) := by
      unfold bs
      rw [List.getElem?_map, List.getElem?_eq_getElem (by omega), List.getD_eq_getElem?_getD, List.getElem?_eq_getElem (by omega)]
      rfl
    rw [hgt] at cj
    by_cases hx : pk.getD j 0 = v
    · have dx : (pk.getD j 0 == v) = true := beq_iff_eq.2 hx
      generalize pk.getD j 0 = x at cj dx
      clear hgt
      go_wp2
      go_ret
      exact ⟨rfl, hw2⟩
    · have hfj := hfd j hx
      have dx : (pk.getD j 0 == v) = false := beq_eq_false_iff_ne.2 hx
      generalize pk.getD j 0 = x at cj dx hx
      clear hgt hfd hx
      have hpb' := set_bytes hpb hv j
      have hpl' : (pk.set j v).length = N := by rw [List.length_set]; exact hpl
      have B3 : Blk (w2.setCell ⟨g, j, none⟩ (.int .u8 v)) g 5 (bs (pk.set j v)) := by
        have := B2.put j (.int .u8 v)
        unfold bs at this ⊢
        rw [List.map_set]
        exact this
      have r3 : Reads .u8 (w2.setCell ⟨g, j, none⟩ (.int .u8 v)) (some ⟨g, 0, none⟩) N (pk.set j v) := by
        have := Blk.reads B3 (by omega)
        rw [hpl'] at this
        exact this
      have hrd := read_any (some ⟨g, 0, none⟩) N N (pk.set j v) hpl' hpb' _ r3
      have Y3 := Y2.other (p := ⟨g, j, none⟩) (show w.heap.size ≠ g by omega) (.int .u8 v)
      have hw3 : Below w.heap.size w (w2.setCell ⟨g, j, none⟩ (.int .u8 v)) := hw2.setCell (show w.heap.size ≤ g by omega) _
      have hgd := guard_addr
      unfold ReadAns at hrd
      by_cases hE : faultE (pk.set j v) = 0
      · obtain ⟨e0, e1, e2, e3, e4, e5, e6, e7⟩ := hfj hE
        unfold rdH rdO rdP at hrd
        rw [if_pos hE, if_pos hE, if_pos hE, hE] at hrd
        have q1 := fun w => eq4_self h.s0 h.s1 h.s2 h.s3 w
        have q2 := fun w => eq4_self h.d0 h.d1 h.d2 h.d3 w
        rw [e0, e1, e2, e3, e4, e5, e6, e7] at hrd
        generalize hdOf (pk.set j v) = k at hrd
        generalize (opts (pk.set j v)) = oo at hrd
        generalize (pay (pk.set j v)) = pp at hrd
        clear hE hfj e0 e1 e2 e3 e4 e5 e6 e7
        obtain ⟨M, hM⟩ : ∃ M, oo.length = M := ⟨_, rfl⟩
        obtain ⟨K, hK⟩ : ∃ K, pp.length = K := ⟨_, rfl⟩
        rw [hM, hK] at hrd
        go_wp2_with (go_at_call 9; refine hrd.mono ?_)
        rintro e w4 ⟨oq, oc, pq, pc, rfl, -, -, hb4⟩
        have k4 := (Y3.below hb4).cell
        have hlt4 := (Y3.below hb4).lt
        have hn4 : w.heap.size ≠ w4.heap.size := by omega
        go_wp2
        go_ret
        exact ⟨rfl, bal (bnext hw3 hb4) _⟩
      · have dE : (faultE (pk.set j v) != 0) = true := by simp [hE]
        generalize faultE (pk.set j v) = E at hrd dE
        generalize rdH (pk.set j v) = k at hrd
        generalize rdO (pk.set j v) = oo at hrd
        generalize rdP (pk.set j v) = pp at hrd
        clear hE hfj
        obtain ⟨M, hM⟩ : ∃ M, oo.length = M := ⟨_, rfl⟩
        obtain ⟨K, hK⟩ : ∃ K, pp.length = K := ⟨_, rfl⟩
        rw [hM, hK] at hrd
        go_wp2_with (go_at_call 9; refine hrd.mono ?_)
        rintro e w4 ⟨oq, oc, pq, pc, rfl, -, -, hb4⟩
        go_wp2
        go_ret
        exact ⟨rfl, bal (bnext hw3 hb4) _⟩
  · have hmk := fun g W r r' => make_any h q m c os lo (some ⟨g, 0, none⟩) 4 4 [100, 97, 116, 97] rfl (by omega) ha ho W r r'
    unfold made madeE at hmk
    rw [if_neg hb, if_neg hb] at hmk
    unfold MakeAns at hmk
    clear hb
    go_enter Try.func8, Try.ntmps8
    go_wp2_with (go_at_call 11; refine hal.mono ?_; rintro e w1 ⟨rfl, hb1⟩; have kz := (hz _ hb1).cell; have hk := conv_const w1)
    have r1 : Reads .u8 (w1.alloc (.cells #[.int .u8 100, .int .u8 97, .int .u8 116, .int .u8 97] 5 (4, 5))) (some ⟨w1.heap.size, 0, none⟩) 4 [100, 97, 116, 97] := const_reads rfl rfl (by decide)
    have hmk1 := hmk _ _ (((ro.alloc _).below hb1).alloc _) r1
    clear hmk hal
    go_wp2_with (go_at_call 10; refine hmk1.mono ?_)
    rintro e w2 ⟨q2, d2, rfl, -, hb2⟩
    go_wp2
    go_ret
    exact ⟨rfl, bnext (bnext (bnext (bnew _ _) hb1) (bnew _ _)) hb2⟩
end Go.Proofs.Ytogijgpamdcjkaa.Head
