/-
  One of the entries taken out: the library's Delete.
-/
import Derived.Test.YtnaofcggdjbocaaBkChange
import Derived.Test.YtnaofcggdjbocaaInvB
import Derived.Deep.RegionHeld
/-
  book.clone. (Written by gen_bkclone.py.)
-/
namespace Go.Proofs.Ytnaofcggdjbocaa.Book
open Go.RowKit Go.Proofs.Ytnaofcggdjbocaa.Mem Go.Proofs.Ytnaofcggdjbocaa.Policy Go.Proofs.Ytnaofcggdjbocaa.Event Go.Proofs.Ytnaofcggdjbocaa.Addr
set_option maxRecDepth 100000

set_option maxHeartbeats 2000000 in
theorem book_clone (h : Bh) (b : Bk) (w : World) (i : IsB w h b) (hn : h.n ≤ 1000) :
    Calls Try.prog 25 #[bv h] w fun x w' => ∃ q n c, x = .returned (bv ⟨b.t, q, n, c⟩) ∧ EO w.heap.size w' (.slice q n c) b.es ∧ Below w.heap.size w w' := by
  obtain ⟨t, es⟩ := b
  obtain ⟨t', q, n, c⟩ := h
  obtain ⟨e1, l1, r1⟩ := i
  simp only at e1 l1 r1 hn
  subst e1
  have hC := fun {W : World} (hb : Below w.heap.size w W) => clone_ents q n c es l1 hn W (r1.below hb)
  simp only
  clear r1
  go_enter Try.func25, Try.ntmps25
  go_wp2_with (first
    | ((fail_if_success (have _ := hX1)); (refine at_box_bk _ _ (by rfl) (by rfl) (by rfl) ?_); intro V1 hX1 hB1 hz1)
    | ((fail_if_success (have _ := hY2)); (have _ := hX1); (refine at_alloc_bk (by rfl) (by rfl) ?_); intro V2 hY2 hB2 hz2; have hX2 := hX1.below hB2; have hB12 := bnext hB1 hB2))
  refine Inv.region_invB (fun L a w' => ∃ (q2 : Option Addr) (n2 : Nat) (c2 : Nat), a = { tmps := #[(bv ⟨t', q, n, c⟩), (.pointer (some ⟨w.heap.size, 0, none⟩)), (.pointer (some ⟨V1.heap.size, 0, none⟩)), (if L 0 = true then (.pointer (some ⟨w.heap.size, 0, none⟩)) else undef), (if L 1 = true then (.int .u64 t') else undef), (if L 2 = true then (.pointer (some ⟨w.heap.size, 1, none⟩)) else undef), (if L 3 = true then (.slice q n c) else undef), (if L 4 = true then (.slice q2 n2 c2) else undef), (if L 5 = true then (bv ⟨t', q2, n2, c2⟩) else undef)], defers := [] } ∧ (Below w.heap.size w w' ∧ Blk w' w.heap.size 25 (bl ⟨t', q, n, c⟩) ∧ Blk w' V1.heap.size 25 (bl (if L 6 = true then ⟨t', q2, n2, c2⟩ else zeroH)) ∧ (L 4 = true → EO w.heap.size w' (.slice q2 n2 c2) es) ∧ (L 4 = false → L 5 = false ∧ L 6 = false))) (by kernel_rfl) (by kernel_rfl) ?h0 ?step ?done
  case h0 => exact ⟨none, 0, 0, by simp [Act.put], hB12.drew, hX2.drew, by simpa using hY2.drew, by simp, by simp⟩
  case step =>
    refine Inv.Steps.cons rfl ?_ ?_
    · intro L a w' hI hL hd K hK
      obtain ⟨q2, n2, c2, rfl, hI⟩ := hI
      clear hd
      rw [if_pos (by rfl)]
      go_simp
      exact hK.out _ _ ⟨q2, n2, c2, by simp, by simpa using hI⟩
    refine Inv.Steps.cons rfl ?_ ?_
    · intro L a w' hI hL hd K hK
      obtain ⟨q2, n2, c2, rfl, hI⟩ := hI
      simp [Region.binds] at hd
      simp only [hd, if_true]
      rw [if_pos (by rfl)]
      have c1 := cells_bk hI.2.1
      simp only at c1
      go_simp
      exact hK.out _ _ ⟨q2, n2, c2, by simp [hd], by simpa using hI⟩
    refine Inv.Steps.cons rfl ?_ ?_
    · intro L a w' hI hL hd K hK
      obtain ⟨q2, n2, c2, rfl, hI⟩ := hI
      clear hd
      rw [if_pos (by rfl)]
      go_simp
      exact hK.out _ _ ⟨q2, n2, c2, by simp, by simpa using hI⟩
    refine Inv.Steps.cons rfl ?_ ?_
    · intro L a w' hI hL hd K hK
      obtain ⟨q2, n2, c2, rfl, hI⟩ := hI
      simp [Region.binds] at hd
      simp only [hd, if_true]
      rw [if_pos (by rfl)]
      have c1 := cells_bk hI.2.1
      simp only at c1
      go_simp
      exact hK.out _ _ ⟨q2, n2, c2, by simp [hd], by simpa using hI⟩
    refine Inv.Steps.cons rfl ?_ ?_
    · intro L a w' hI hL hd K hK
      obtain ⟨q2, n2, c2, rfl, hI⟩ := hI
      simp [Region.binds] at hd
      simp only [hd, if_true]
      rw [if_pos (by rfl)]
      obtain ⟨k5, k6⟩ := hI.2.2.2.2 hL
      go_simp
      refine (hC hI.1).mono ?_
      rintro e w6 ⟨v, rfl, ho6, hB6⟩
      obtain ⟨q6, c6, rfl, -, -⟩ := ho6.shape
      have hX6 := hI.2.2.1
      rw [k6] at hX6
      exact hK.out _ _ ⟨q6, es.length, c6, by simp [hd, k5], bnext hI.1 hB6, hI.2.1.below hB6, by simpa [k6] using hX6.below hB6, fun _ => ho6.lower hI.1.size, fun h => by simp at h⟩
    refine Inv.Steps.cons rfl ?_ ?_
    · intro L a w' hI hL hd K hK
      obtain ⟨q2, n2, c2, rfl, hI⟩ := hI
      simp [Region.binds] at hd
      simp only [hd, if_true]
      rw [if_pos (by rfl)]
      refine wp_build_bboth _ _ _ _ _ _ (by rfl) (by rfl) (by rfl) ?_
      exact hK.out _ _ ⟨q2, n2, c2, by simp [hd, Act.put], hI.1, hI.2.1, by simpa using hI.2.2.1, by simpa using hI.2.2.2.1, fun h => absurd h (by simp [hd])⟩
    refine Inv.Steps.cons rfl ?_ ?_
    · intro L a w' hI hL hd K hK
      obtain ⟨q2, n2, c2, rfl, hI⟩ := hI
      simp [Region.binds] at hd
      simp only [hd, if_true]
      rw [if_pos (by rfl)]
      have hX1 : Blk w' V1.heap.size 25 (bl zeroH) := by simpa [hL] using hI.2.2.1
      have ho := hI.2.2.2.1 (by simp [hd])
      refine wp_store_bk _ _ _ _ _ (by rfl) (by rfl) (by rfl) hX1 rfl ?_
      intro w6 hX6 hg6 hz6
      have hne : some w.heap.size ≠ some V1.heap.size := by have := hz1.out; simp; omega
      exact hK.out _ _ ⟨q2, n2, c2, by simp [hd, Act.put], hI.1.grown hg6 hI.1.size (fun j hj => by obtain rfl := Option.some.inj hj; exact hB1.size), hI.2.1.kept hg6 hne, by simpa using hX6, fun _ => ho.off hX1 (by decide) hg6, fun h => absurd h (by simp [hd])⟩
    exact Inv.Steps.nil (by decide)
  case done =>
    intro L a w' hI hall
    obtain ⟨q2, n2, c2, rfl, hI⟩ := hI
    simp only [hall, if_true] at hI ⊢
    have hX := hI.2.2.1
    have ho := hI.2.2.2.1 trivial
    have hBW := hI.1
    clear hI hall
    go_wp2
    refine ret_bk (by rfl) rfl _ _ rfl hX ⟨_, _, _, rfl, ho, hBW⟩
end Go.Proofs.Ytnaofcggdjbocaa.Book
namespace Go.Proofs.Ytnaofcggdjbocaa.Book
open Go.RowKit Go.Proofs.Ytnaofcggdjbocaa.Mem Go.Proofs.Ytnaofcggdjbocaa.Policy Go.Proofs.Ytnaofcggdjbocaa.Event Go.Proofs.Ytnaofcggdjbocaa.Addr
set_option maxRecDepth 100000

theorem elem_ents : Try.prog.elem 23 = 49 := by simp [Program.elem, Try.underlying23]
theorem run_cut_e (w : World) (p : Option Addr) (n cap l : Nat) (hl : l ≤ n) :
    (Instr.slice 23 (.slice p n cap) (some (.int .i64 (l : Int))) none none).run Try.prog w = .ok (.slice (cutK 14 p cap l) (n - l) (cap - l)) w := by
  have ht : Try.prog.underlying 23 = some (.slice (Try.prog.elem 23)) := by rw [elem_ents]; exact Try.underlying23
  rw [run_slice_l w 23 p n cap ht .i64 (l : Int) (by omega) (by omega), elem_ents, Try.sizeOf49]
  simp [Result.andThen, sliced, cutK]
theorem run_head_e (w : World) (g n cap l : Nat) (hl : l ≤ cap) :
    (Instr.slice 23 (.slice (some ⟨g, 0, none⟩) n cap) none (some (.int .i64 (l : Int))) none).run Try.prog w = .ok (.slice (some ⟨g, 0, none⟩) l cap) w := by
  have ht : Try.prog.underlying 23 = some (.slice (Try.prog.elem 23)) := by rw [elem_ents]; exact Try.underlying23
  rw [run_slice_h w 23 _ n cap ht .i64 (l : Int) (by omega) (by omega), elem_ents, Try.sizeOf49]
  simp [Result.andThen, sliced, Addr.add_lit]
theorem run_three_e (w : World) (p : Option Addr) (n cap l h m : Nat) (hl : l ≤ h) (hh : h ≤ m) (hm : m ≤ cap) :
    (Instr.slice 23 (.slice p n cap) (some (.int .i64 (l : Int))) (some (.int .i64 (h : Int))) (some (.int .i64 (m : Int)))).run Try.prog w = .ok (.slice (cutK 14 p m l) (h - l) (m - l)) w := by
  have ht : Try.prog.underlying 23 = some (.slice (Try.prog.elem 23)) := by rw [elem_ents]; exact Try.underlying23
  rw [run_slice_lhm w 23 p n cap ht .i64 .i64 .i64 (l : Int) (h : Int) (m : Int) (by omega) (by omega) (by omega) (by omega), elem_ents, Try.sizeOf49]
  simp [Result.andThen, sliced, cutK]
theorem run_tail_e (w : World) (g n cap l : Nat) (hl : l < cap) :
    (Instr.slice 23 (.slice (some ⟨g, 0, none⟩) n cap) (some (.int .i64 (l : Int))) (some (.int .i64 ((l : Int) + 1))) none).run Try.prog w = .ok (.slice (some ⟨g, l * 14, none⟩) 1 (cap - l)) w := by
  have ht : Try.prog.underlying 23 = some (.slice (Try.prog.elem 23)) := by rw [elem_ents]; exact Try.underlying23
  rw [run_slice_lh w 23 _ n cap ht .i64 .i64 (l : Int) ((l : Int) + 1) (by omega) (by omega) (by omega), elem_ents, Try.sizeOf49]
  have e1 : ((l : Int) + 1).toNat - l = 1 := by omega
  simp [Result.andThen, sliced, Addr.add_lit, show ¬ cap = l by omega]
/-- The cells behind one of them moved over it. -/
theorem cells_out {es : List En} {i : Nat} (hi : i < es.length) (rest : List Value) : ∃ tl : List Value, tl.length = 14 ∧ (es.flatMap nl ++ rest).take (i * 14) ++ (es.drop (i + 1)).flatMap nl ++ (es.flatMap nl ++ rest).drop (i * 14 + (es.length - (i + 1)) * 14) = (es.eraseIdx i).flatMap nl ++ (tl ++ rest) := by
  have hlen := len_flat len_en es
  have e0 : es.eraseIdx i = es.take i ++ es.drop (i + 1) := List.eraseIdx_eq_take_drop_succ es i
  have e1 : (es.flatMap nl ++ rest).take (i * 14) = (es.take i).flatMap nl := by
    rw [List.take_append_of_le_length (by rw [hlen]; omega), take_flat len_en]
  refine ⟨(es.flatMap nl).drop (i * 14 + (es.length - (i + 1)) * 14), by rw [List.length_drop, hlen]; omega, ?_⟩
  rw [e1, List.drop_append_of_le_length (by rw [hlen]; omega), e0, List.flatMap_append]
  all_goals (try simp only [List.append_assoc])
theorem run_lay_over (w : World) (g i m c c2 : Nat) (ty : TypeId) (cs news : List Value) (A : Addr) (hb : Blk w g 49 cs) (hl : news.length = m * 14) (hn : ∀ j u, news[j]? = some u → w.cell? (A.add j) = some u) (h1 : ∀ u ∈ news, u.oneCell' = true) (hc : i + m ≤ c) (hfit : c * 14 ≤ cs.length) :
    (Builtin.append_ #[23, 23] ty #[.slice (some ⟨g, 0, none⟩) i c, .slice (some A) m c2]).run Try.prog w = .ok (.slice (some ⟨g, 0, none⟩) (i + m) c) (w.setRow g (cs.take (i * 14) ++ news ++ cs.drop (i * 14 + m * 14)).toArray) := by
  obtain ⟨k, hi, hz, hs, hbt⟩ := info_en
  have hlo := run_loadCells_list (P := Try.prog) w A news hn
  rw [hl] at hlo
  have hst := run_storeCells_at Try.prog g (i * 14) 49 news 0 cs.toArray w hb (by rw [hl, List.size_toArray]; omega) h1
  simp only [Nat.add_zero, hl] at hst
  simp [Builtin.append_, run_underlying Try.underlying23, Builtin.lenOf, Builtin.firstCells, Go.sizeOf, typeInfo, hi, hs, hc, hlo, hst, Addr.add_lit]
theorem run_clear_one (w : World) (g o c : Nat) (ty : TypeId) (cs : List Value) (hb : Blk w g 49 cs) (hfit : o + 14 ≤ cs.length) :
    (Builtin.clear_ #[23] ty #[.slice (some ⟨g, o, none⟩) 1 c]).run Try.prog w = .ok (.tuple #[]) (w.setRow g (cs.take o ++ nl zeroN ++ cs.drop (o + 14)).toArray) := by
  obtain ⟨k, hi, hz, hs, hbt⟩ := info_en
  have hst := run_storeCells_at Try.prog g o 49 (nl zeroN) 0 cs.toArray w hb (by rw [len_en, List.size_toArray]; omega) (one_en zeroN)
  simp only [Nat.add_zero, len_en] at hst
  have hzc : (Builtin.zeroCells (nv zeroN).cells 1).toList = nl zeroN := by kernel_rfl
  simp [Builtin.clear_, run_underlying Try.underlying23, zeroValue, typeInfo, hi, hz, hzc, hst]
section
variable {o : Oper} {a : Act} {w : World} {ops : Array Oper} {rest : List Oper} {Q : Exit → Act → World → Prop}
theorem at_clear_one (x : Operand) (g k n c : Nat) (cs : List Value) (ho : o.op = .call { callee := .builtin .clear, args := #[x], argTypes := #[23] }) (hx : a.eval x = .slice (some ⟨g, k, none⟩) n c) (h1 : n = 1) (hb : Blk w g 49 cs) (hfit : k + 14 ≤ cs.length) (hw : Region.wanted o (yielded ops a.tmps) = true)
    (h : ∀ w', Blk w' g 49 (cs.take k ++ nl zeroN ++ cs.drop (k + 14)) → w.grownBy w' (some g) → wpList Try.prog ops Q rest (a.put o.dst (.tuple #[])) w') : wpList Try.prog ops Q (o :: rest) a w := by
  subst h1
  refine BigFrame.wpList_want hw fun _ hK => ?_
  obtain ⟨k1, k2, -⟩ := grown_row hb (cs.take k ++ nl zeroN ++ cs.drop (k + 14))
  have e := run_clear_one w g k c o.type cs hb hfit
  obtain ⟨W, hW⟩ : ∃ W, w.setRow g (cs.take k ++ nl zeroN ++ cs.drop (k + 14)).toArray = W := ⟨_, rfl⟩
  rw [hW] at k1 k2 e
  unfold Oper.wp
  simp [execOp, ho, resolve, invoke, builtin, hx, e, Result.andThen]
  exact hK _ _ (h _ k1 k2)
end
theorem step_lay_over {ops : Array Oper} {w : World} {o : Oper} {a : Act} {K : Act → World → Prop} {Q : Exit → Act → World → Prop} {E : Prop} (hgd : o.guard = none) (x y : Operand) (ho : o.op = .call { callee := .builtin .append, args := #[x, y], argTypes := #[23, 23] })
    (g i m c c2 : Nat) (cs news : List Value) (A : Addr) (hx : a.eval x = .slice (some ⟨g, 0, none⟩) i c) (hy : a.eval y = .slice (some A) m c2) (hb : Blk w g 49 cs) (hl : news.length = m * 14) (hn : ∀ j u, news[j]? = some u → w.cell? (A.add j) = some u) (h1 : ∀ u ∈ news, u.oneCell' = true) (hc : i + m ≤ c) (hfit : c * 14 ≤ cs.length)
    (h : ∀ w', Blk w' g 49 (cs.take (i * 14) ++ news ++ cs.drop (i * 14 + m * 14)) → w.grownBy w' (some g) → K (a.put o.dst (.slice (some ⟨g, 0, none⟩) (i + m) c)) w') :
    if Region.wanted o (yielded ops a.tmps) = true then Oper.wp Try.prog o a w K Q else E := by
  rw [if_pos (show Region.wanted o (yielded ops a.tmps) = true by simp [Region.wanted, hgd])]
  obtain ⟨k1, k2, -⟩ := grown_row hb (cs.take (i * 14) ++ news ++ cs.drop (i * 14 + m * 14))
  have e := run_lay_over w g i m c c2 o.type cs news A hb hl hn h1 hc hfit
  obtain ⟨W, hW⟩ : ∃ W, w.setRow g (cs.take (i * 14) ++ news ++ cs.drop (i * 14 + m * 14)).toArray = W := ⟨_, rfl⟩
  rw [hW] at k1 k2 e
  unfold Oper.wp
  simp [execOp, ho, resolve, invoke, builtin, hx, hy, e, Result.andThen]
  exact h _ k1 k2
set_option maxHeartbeats 2000000 in
/-- slices.Delete, of one of them. -/
theorem delete_one (B g n c i : Nat) (es : List En) (hn : n ≤ 1000) (hi : i < n) (w : World) (h : EO B w (.slice (some ⟨g, 0, none⟩) n c) es) :
    Calls Try.prog 75 #[.slice (some ⟨g, 0, none⟩) n c, .int .i64 (i : Int), .int .i64 ((i : Int) + 1)] w fun x w' => x = .returned (.slice (some ⟨g, 0, none⟩) (n - 1) c) ∧ EO B w' (.slice (some ⟨g, 0, none⟩) (n - 1) c) (es.eraseIdx i) ∧ w.grownBy w' (some g) := by
  obtain ⟨rest, hX, hl, hB, hc, hm, hlen⟩ := h.blk
  have hrk := h.is.2.1
  obtain ⟨m, hmm⟩ : ∃ m, m = n - (i + 1) := ⟨_, rfl⟩
  have hne : ((i : Int) == (i : Int) + 1) = false := by simp; omega
  have e1 : (((i + 1 : Nat) : Int)) = (i : Int) + 1 := by omega
  have hthree := fun w => run_three_e w (some ⟨g, 0, none⟩) n c i (i + 1) n (by omega) (by omega) hc
  have hhead := fun w => run_head_e w g n c i (by omega)
  have hcut := fun w => run_cut_e w (some ⟨g, 0, none⟩) n c (i + 1) (by omega)
  simp only [e1] at hthree hcut
  rw [← hmm] at hcut
  obtain ⟨A, hA, hsrc⟩ : ∃ A : Addr, cutK 14 (some ⟨g, 0, none⟩) c (i + 1) = some A ∧ ∀ j u, ((es.drop (i + 1)).flatMap nl)[j]? = some u → w.drew.cell? (A.add j) = some u := by
    have hd := hrk.cut len_en (i + 1) (by omega)
    rcases Nat.eq_zero_or_pos (es.drop (i + 1)).length with h0 | h0
    · rw [List.eq_nil_of_length_eq_zero h0]
      unfold cutK
      split
      · exact ⟨_, rfl, by simp⟩
      · exact ⟨_, rfl, by simp⟩
    · obtain ⟨b, o, e, _, hcell⟩ := hd.2.2.2 h0
      exact ⟨⟨b, o, none⟩, e, fun j u hu => by rw [Addr.add_lit]; exact hcell j u hu⟩
  rw [hA] at hcut
  obtain ⟨tl, htl, hout⟩ := cells_out (es := es) (i := i) (by omega) rest
  rw [hl, ← hmm] at hout
  have hnl : ((es.drop (i + 1)).flatMap nl).length = m * 14 := by rw [len_flat len_en, List.length_drop, hl, hmm]
  have hone : ∀ u ∈ (es.drop (i + 1)).flatMap nl, u.oneCell' = true := fun u hu => by
    obtain ⟨y, _, hy⟩ := List.mem_flatMap.1 hu
    exact one_en y u hy
  have hel : (es.eraseIdx i).length = n - 1 := by rw [List.length_eraseIdx, if_pos (by omega), hl]
  have him : i + m = n - 1 := by omega
  have hK : Hid (∀ W, Blk W g 49 ((es.flatMap nl ++ rest).take (i * 14) ++ (es.drop (i + 1)).flatMap nl ++ (es.flatMap nl ++ rest).drop (i * 14 + m * 14)) → Blk W g 49 ((es.eraseIdx i).flatMap nl ++ (tl ++ rest))) := fun W hW => by rwa [hout] at hW
  have hfin : Hid (∀ W, Blk W g 49 (((es.eraseIdx i).flatMap nl ++ (tl ++ rest)).take ((n - 1) * 14) ++ nl zeroN ++ ((es.eraseIdx i).flatMap nl ++ (tl ++ rest)).drop ((n - 1) * 14 + 14)) → EO B W (.slice (some ⟨g, 0, none⟩) (n - 1) c) (es.eraseIdx i)) := fun W hW => by
    have q1 : ((es.eraseIdx i).flatMap nl).length = (n - 1) * 14 := by rw [len_flat len_en, hel]
    have q2 : ((es.eraseIdx i).flatMap nl ++ (tl ++ rest)).drop ((n - 1) * 14 + 14) = rest := by
      rw [← q1, ← htl, ← List.length_append, ← List.append_assoc, List.drop_left]
    rw [List.take_left' q1, q2, List.append_assoc] at hW
    refine eo_of hW hel hB (by omega) hm ?_
    have := hlen
    rw [List.length_append, len_flat len_en, hl] at this
    simp only [List.length_append, q1, len_en]
    omega
  have hlen2 : ((es.eraseIdx i).flatMap nl ++ (tl ++ rest)).length = c * 14 := by
    have := hlen
    rw [List.length_append, len_flat len_en, hl] at this
    rw [List.length_append, List.length_append, len_flat len_en, hel, htl]
    omega
  have hX' : Blk w.drew g 49 (es.flatMap nl ++ rest) := hX.drew
  have hlast := fun w => run_tail_e w g (n - 1) c (n - 1) (by omega)
  obtain ⟨N, hN⟩ : ∃ N, n = N + 1 := ⟨n - 1, by omega⟩
  have e2 : ((N : Int)) + 1 = (n : Int) := by omega
  have e3 : n - 1 = N := by omega
  simp only [e3] at hlast hfin hel him ⊢
  simp only [e2] at hlast
  have hlo : i + m ≤ c := by omega
  have hfl : c * 14 ≤ (es.flatMap nl ++ rest).length := by rw [hlen]; exact Nat.le_refl _
  have hfit2 : N * 14 + 14 ≤ ((es.eraseIdx i).flatMap nl ++ (tl ++ rest)).length := by rw [hlen2]; omega
  have hiN : (i : Int) + 1 ≤ (n : Int) := by omega
  obtain ⟨C0, hC0⟩ : ∃ C, es.flatMap nl ++ rest = C := ⟨_, rfl⟩
  obtain ⟨C1, hC1⟩ : ∃ C, (es.eraseIdx i).flatMap nl ++ (tl ++ rest) = C := ⟨_, rfl⟩
  obtain ⟨D, hD⟩ : ∃ D, (es.drop (i + 1)).flatMap nl = D := ⟨_, rfl⟩
  rw [hC0] at hX' hfl hK
  rw [hD] at hsrc hnl hone hK
  rw [hC1] at hfin hfit2 hK
  have hG0 : w.grownBy w.drew (some g) := gbelow _ ((Below.refl _ _).drew)
  clear hX hrk hlen hm hout htl e3 h hel hlen2 hA hC0 hC1 hD hl e1 e2 hN hmm
  go_enter Try.func75, Try.ntmps75
  go_wp2_with fail
  go_region_law (refine step_lay_over rfl (.tmp 22) (.tmp 25) rfl g i m c (c - (i + 1)) _ _ A (by simp [Act.eval, Act.put]) (by simp [Act.eval, Act.put]) hX' hnl hsrc hone hlo hfl ?_; intro W2 hX2 hg2)
  have hX3 := hK.out _ hX2
  have hG2 := gtrans hG0 hg2 (fun r e => .inl e.symm)
  clear hX2 hK hX' hnl hsrc hone hlo hfl hcut hhead hthree
  go_wp2_with (refine at_clear_one _ g (N * 14) 1 (c - N) _ (by rfl) (by rfl) rfl hX3 hfit2 (by rfl) ?_; intro W4 hX4 hg4)
  go_ret
  exact ⟨rfl, hfin.out _ hX4, gtrans hG2 hg4 (fun r e => .inl e.symm)⟩
end Go.Proofs.Ytnaofcggdjbocaa.Book
