/-
  The entries of numbers: book.entriesOf.
-/
import Derived.Test.YtnaofcggdjbocaaBkChunk
import Derived.Test.YtnaofcggdjbocaaInRound
import Derived.Test.YtnaofcggdjbocaaBkOwn
import Derived.Test.YtnaofcggdjbocaaBkCarry
namespace Go.Proofs.Ytnaofcggdjbocaa.Book
open Go.RowKit Go.Shelf Go.Proofs.Ytnaofcggdjbocaa.Mem Go.Proofs.Ytnaofcggdjbocaa.Policy Go.Proofs.Ytnaofcggdjbocaa.Event Go.Proofs.Ytnaofcggdjbocaa.Addr
attribute [local go_sem] Oper.semAt_some
set_option maxRecDepth 100000

theorem wp_put_ents8 {o : Oper} {a : Act} {w : World} {K : Act → World → Prop} {Q : Exit → Act → World → Prop} (x y : Operand) (g k : Nat) (t : TypeId) (cs : List Value) (q : Option Addr) (m d : Nat) (ho : o.op = .store 23 x y) (hx : a.eval x = .pointer (some ⟨g, k, none⟩)) (hy : a.eval y = .slice q m d) (hb : Blk w g t cs) (hk : k < cs.length)
    (h : ∀ w', Blk w' g t (cs.set k (.slice q m d)) → w.grownBy w' (some g) → Hid (w'.heap.size = w.heap.size) → K (a.put o.dst undef) w') : o.wp Try.prog a w K Q := by
  have c := hb.cell k
  have f := hb.frozen k
  rw [List.getElem?_eq_getElem hk] at c
  have hh := h _ (hb.put k (.slice q m d)) (only_put w ⟨g, k, none⟩ _) (by unfold Hid; simp)
  unfold Oper.wp execOp
  simp only [ho, hx, hy, Instr.storeAt, Instr.sureAddr, Sem.run_bind, Sem.run_pure, Result.andThen_ok]
  simp [go_sem, c, f]
  exact hh

/-! ### By elevens -/
def chk (l : List Int) (i : Nat) : List Int := (l.drop (11 * i)).take 11
theorem ents_good : ∀ (m f : Nat) (l : List Int) (out : List En), l.length = 11 * m → 11 * m ≤ f → (∀ i, i < m → isN (l.drop (11 * i)) = true) → entsA f l out = some (out ++ (List.range m).map fun i => asN (chk l i))
  | 0, f, l, out, hl, _, _ => by
    obtain rfl : l = [] := List.eq_nil_of_length_eq_zero (by omega)
    rw [entsA_nil]; simp
  | m + 1, f, l, out, hl, hf, h => by
    obtain ⟨g, rfl⟩ : ∃ g, f = g + 1 := ⟨f - 1, by omega⟩
    have h0 : isN l = true := by simpa using h 0 (by omega)
    rw [entsA_good (by omega) h0, ents_good m g (l.drop 11) _ (by simp; omega) (by omega) (fun i hi => by
      have := h (i + 1) (by omega)
      rwa [List.drop_drop, show 11 + 11 * i = 11 * (i + 1) by omega]), List.append_assoc, List.range_succ_eq_map, List.map_cons, List.map_map]
    have e0 : asN (l.take 11) = asN (chk l 0) := by simp [chk]
    have e1 : (List.range m).map (fun i => asN (chk (l.drop 11) i)) = (List.range m).map ((fun i => asN (chk l i)) ∘ Nat.succ) := by
      apply List.map_congr_left
      intro i _
      simp only [Function.comp, chk, List.drop_drop]
      rw [show 11 + 11 * i = 11 * i.succ by omega]
    rw [e0, e1]
    rfl
theorem ents_bad : ∀ (m f : Nat) (l : List Int) (out : List En) (i : Nat), l.length = 11 * m → 11 * m ≤ f → i < m → isN (l.drop (11 * i)) = false → entsA f l out = none
  | 0, _, _, _, i, _, _, hi, _ => by omega
  | m + 1, f, l, out, i, hl, hf, hi, h => by
    obtain ⟨g, rfl⟩ : ∃ g, f = g + 1 := ⟨f - 1, by omega⟩
    cases h0 : isN l with
    | false => exact entsA_bad (by omega) (by rw [h0]; decide)
    | true =>
      rw [entsA_good (by omega) h0]
      obtain ⟨j, rfl⟩ : ∃ j, i = j + 1 := ⟨i - 1, by
        rcases Nat.eq_zero_or_pos i with q | q
        · subst q; simp [h0] at h
        · omega⟩
      exact ents_bad m g (l.drop 11) _ j (by simp; omega) (by omega) (by omega) (by rwa [List.drop_drop, show 11 + 11 * j = 11 * (j + 1) by omega])
theorem ents_odd {l : List Int} (hw : ∀ n ∈ l, Word n) (h : l.length % 11 ≠ 0) : entsO l = none := by
  cases he : entsO l with
  | none => rfl
  | some es =>
    obtain ⟨h1, -⟩ := entsA_back _ _ _ _ hw (Nat.le_refl _) (by simp) he
    rw [List.flatMap_nil, List.nil_append] at h1
    rw [← h1, ents_len] at h
    omega
/-- What is read of so many of them. -/
def outC (l : List Int) {m : Nat} (ys : List (Ch m)) : List En := ys.map fun x => asN (chk l x.1)
theorem out_all {l : List Int} {m : Nat} {ys : List (Ch m)} (h : Upp m m ys) : outC l ys = (List.range m).map fun i => asN (chk l i) := by
  obtain ⟨h1, h2⟩ := h
  apply List.ext_getElem
  · simp [outC, h1]
  · intro i hi _
    have hi' : i < ys.length := by simpa [outC] using hi
    simp only [outC, List.getElem_map, List.getElem_range]
    rw [h2 i ys[i] (List.getElem?_eq_getElem hi')]
theorem reads_part {w : World} {b o c i : Nat} {l : List Int} (h : Reads .u64 w (some ⟨b, o, none⟩) c l) (hi : i + 11 ≤ l.length) : Reads .u64 w (some ⟨b, o + i, none⟩) 11 ((l.drop i).take 11) := by
  refine ⟨by simp; omega, by unfold maxLen; omega, fun h => by simp at h, fun _ => ?_⟩
  obtain ⟨b', o', e, hlt, hc⟩ := h.2.2.2 (by omega)
  simp only [Option.some.injEq, Addr.mk.injEq, and_true] at e
  obtain ⟨rfl, rfl⟩ := e
  refine ⟨b, o + i, rfl, hlt, fun j hj => ?_⟩
  simp at hj
  rw [Nat.add_assoc, hc (i + j) (by omega)]
  simp [show j < 11 by omega]
theorem EO.turn {B : Nat} {w w' : World} {v : Value} {es : List En} {row : Option Nat} (h : EO B w v es) (hg : w.grownBy w' row) (hr : ∀ r, row = some r → ∃ o : Obj, w.heap[r]? = some o ∧ o.isCells = false) : EO B w' v es := by
  refine ⟨h.1, ?_⟩
  rcases h.2 with h0 | ⟨g', cap, cur, hv, hb, hh, r⟩
  · exact .inl h0
  · refine .inr ⟨g', cap, cur, hv, hb, (hg.block g' (Array.getElem?_eq_some_iff.1 hh).1 (fun e => ?_)).trans hh, r⟩
    obtain ⟨o, h1, h2⟩ := hr g' e.symm
    rw [hh] at h1
    rw [← Option.some.inj h1] at h2
    cases h2
theorem EO.cells {B : Nat} {w : World} {v : Value} {es : List En} (h : EO B w v es) : ∀ (j : Nat) (o : Obj), v.ownBlock = some j → w.heap[j]? = some o → o.isCells = true := by
  intro j o hj ho
  rcases h.2 with ⟨rfl, _⟩ | ⟨g', cap, cur, rfl, hb, hh, r⟩
  · cases hj
  · simp only [Value.ownBlock, Option.some.injEq] at hj
    subst hj
    rw [hh] at ho
    rw [← Option.some.inj ho]; rfl
theorem blk_cells {w : World} {g : Nat} {t : TypeId} {cs : List Value} (h : Blk w g t cs) : ∀ (j : Nat) (o : Obj), some g = some j → w.heap[j]? = some o → o.isCells = true := by
  intro j o hj ho
  obtain rfl := Option.some.inj hj
  unfold Blk at h
  rw [h] at ho
  rw [← Option.some.inj ho]; rfl
theorem keeps_below {w w' : World} (h : Below w.heap.size w w') : KeepsOthers w w' := KeepsOthers.of_grownBy (row := none) ⟨h.os, h.tape, h.output, h.size, fun k hk _ => h.block k hk⟩ (by simp)
/-- What stands while the parts come. -/
def IE (w : World) (l : List Int) (g2 g3 gO : Nat) {m : Nat} (pre : List (Ch m)) (W : World) : Prop :=
  Blk W g2 23 [.slice none 0 0] ∧ Blk W g3 4 [.bool false] ∧ (∃ v, Blk W gO 23 [v] ∧ EO w.heap.size W v (outC l pre)) ∧ (∀ x ∈ pre, isN (l.drop (11 * x.1)) = true) ∧ Below w.heap.size w W
/-- What stands where one of them is none. -/
def IX (w : World) (l : List Int) (g2 g3 : Nat) {m : Nat} (c : Code) (pre : List (Ch m)) (W : World) : Prop :=
  c = .ret ∧ Blk W g2 23 [.slice none 0 0] ∧ Blk W g3 4 [.bool false] ∧ (∃ x ∈ pre, isN (l.drop (11 * x.1)) = false) ∧ Below w.heap.size w W
theorem res_two {w : World} {tmps : Array Value} {g2 g3 : Nat} {q : Option Addr} {n c : Nat} {b : Bool} (p2 : tmps.getD 2 undef = .pointer (some ⟨g2, 0, none⟩)) (p3 : tmps.getD 3 undef = .pointer (some ⟨g3, 0, none⟩)) (h2 : Blk w g2 23 [.slice q n c]) (h3 : Blk w g3 4 [.bool b]) :
    (results Try.f27 tmps).run Try.prog w = .ok (.tuple #[.slice q n c, .bool b]) w := by
  have c2 := h2.cell 0
  have c3 := h3.cell 0
  simp only [List.getElem?_cons_zero] at c2 c3
  rw [Array.getD_eq_getD_getElem?] at p2 p3
  simp [results, p2, p3, go_sem, c2, c3]
set_option maxHeartbeats 4000000 in
theorem entries_of (q : Option Addr) (n c : Nat) (l : List Int) (hl : l.length = n) (hn : n ≤ 1000) (hw : ∀ x ∈ l, Word x) (w : World) (r : Reads .u64 w q c l) :
    Calls Try.prog 27 #[.slice q n c] w fun x w' => ∃ v b, x = .returned (.tuple #[v, .bool b]) ∧ ((∃ es, entsO l = some es ∧ b = true ∧ EO w.heap.size w' v es) ∨ (entsO l = none ∧ b = false ∧ v = .slice none 0 0)) ∧ Below w.heap.size w w' := by
  refine (callsIn_wide (n := 5)).1 ?_
  refine callsIn_of_wp_marks Try.func27 rfl trivial ?_ rfl
  simp only [Try.ntmps27, List.size_toArray, List.length_cons, List.length_nil, Nat.reduceAdd, Nat.reduceSub, Array.replicate_succ, Array.replicate_zero, List.push_toArray, List.append_toArray, List.nil_append, List.cons_append]
  by_cases hm : n % 11 = 0
  · obtain ⟨m, hnm⟩ : ∃ m, n = 11 * m := ⟨n / 11, by omega⟩
    have hmi : ((n : Int) % 11 != 0) = false := by
      have : (n : Int) % 11 = 0 := by omega
      simp [this]
    have HNM : Hid (n = 11 * m) := hnm
    have hcn : n ≤ c := by rw [← hl]; exact r.1
    have hseq := fun (W : World) (Bs Bn : Nat) => chunk_stops 4 (by omega) Bs Bn q n c m hnm hcn hn W
    clear hm hnm
    gi_wp2_with (first | (refine ⟨trivial, ?_⟩; gi_at_call 56; refine (chunk_in _ _ _ _ _).mono ?_; rintro e w' ⟨rfl, rfl⟩) | (gi_at_call 56; refine (chunk_in _ _ _ _ _).mono ?_; rintro e w' ⟨rfl, rfl⟩))
    obtain ⟨W0, hW0⟩ : ∃ W0, (((((w.alloc (.cells #[.slice none 0 0] 23)).alloc (.cells #[.bool false] 4)).alloc (.cells #[.slice none 0 0] 23)).alloc (.cells #[.slice q n c] 65)).alloc (.cells #[.int .i64 11] 3)) = W0 := ⟨_, rfl⟩
    rw [hW0]
    have b2 : Blk W0 w.heap.size 23 [.slice none 0 0] := by rw [← hW0]; exact ((((Blk.new w _ _).alloc _).alloc _).alloc _).alloc _
    have b3 : Blk W0 (w.heap.size + 1) 4 [.bool false] := by rw [← hW0]; exact (((Blk.new1 _ (by simp) _ _).alloc _).alloc _).alloc _
    have b4 : Blk W0 (w.heap.size + 1 + 1) 23 [.slice none 0 0] := by rw [← hW0]; exact ((Blk.new1 _ (by simp) _ _).alloc _).alloc _
    have b5 : Blk W0 (w.heap.size + 1 + 1 + 1) 65 [.slice q n c] := by rw [← hW0]; exact (Blk.new1 _ (by simp) _ _).alloc _
    have b6 : Blk W0 (w.heap.size + 1 + 1 + 1 + 1) 3 [.int .i64 11] := by rw [← hW0]; exact Blk.new1 _ (by simp) _ _
    have hB0 : Below w.heap.size w W0 := by rw [← hW0]; exact bnext (bnext (bnext (bnext (bnew _ _) (bnew _ _)) (bnew _ _)) (bnew _ _)) (bnew _ _)
    clear hW0
    have hC : Ck (w.heap.size + 1 + 1 + 1) (w.heap.size + 1 + 1 + 1 + 1) q n c W0 := ⟨b5, b6⟩
    have hE0 : IE w l w.heap.size (w.heap.size + 1) (w.heap.size + 1 + 1) ([] : List (Ch m)) W0 := ⟨b2, b3, ⟨_, b4, EO.nil _ _⟩, by simp, hB0⟩
    refine wpIn_rangeFunc_ownG rfl (by omega) (gf := 80) (lb := #[.pointer (some ⟨w.heap.size + 1 + 1 + 1, 0, none⟩), .pointer (some ⟨w.heap.size + 1 + 1 + 1 + 1, 0, none⟩)]) rfl trivial (enters_of Try.func80 (by kernel_rfl) rfl)
      (hseq W0 (w.heap.size + 1 + 1 + 1) (w.heap.size + 1 + 1 + 1 + 1) hC) (fun h k q => k (h q)) (fun W l' o o' _ h ho _ hc => hc.kept (grownBy_putObj' W l' o') (fun r e => by cases e; exact ⟨_, h, ho⟩)) (Below.refl _ _) (fun _ => rfl)
      (IE w l w.heap.size (w.heap.size + 1) (w.heap.size + 1 + 1)) (IX w l w.heap.size (w.heap.size + 1))
      (fun s A B row hs hgr hr => ⟨blk_turn hs.1 hgr (fun r e => (hr r e).2), blk_turn hs.2.1 hgr (fun r e => (hr r e).2), by obtain ⟨v, k1, k2⟩ := hs.2.2.1; exact ⟨v, blk_turn k1 hgr (fun r e => (hr r e).2), k2.turn hgr (fun r e => (hr r e).2)⟩, hs.2.2.2.1, hs.2.2.2.2.grown hgr hs.2.2.2.2.size (fun r e => by have := (hr r e).1; have := hB0.size; omega)⟩)
      (fun c' s A B row hs hgr hr => ⟨hs.1, blk_turn hs.2.1 hgr (fun r e => (hr r e).2), blk_turn hs.2.2.1 hgr (fun r e => (hr r e).2), hs.2.2.2.1, hs.2.2.2.2.grown hgr hs.2.2.2.2.size (fun r e => by have := (hr r e).1; have := hB0.size; omega)⟩)
      hE0
      (fun x => { tmps := #[.slice q n c, undef, .pointer (some ⟨w.heap.size, 0, none⟩), .pointer (some ⟨w.heap.size + 1, 0, none⟩), .pointer (some ⟨w.heap.size + 1 + 1, 0, none⟩), partV q x.1, undef, undef, .slice q n c, .int .i64 (n : Int), .int .i64 ((n : Int) % 11), .bool false, .slice q n c, .func (.func 80) #[] #[.pointer (some ⟨w.heap.size + 1 + 1 + 1, 0, none⟩), .pointer (some ⟨w.heap.size + 1 + 1 + 1 + 1, 0, none⟩)], partV q x.1, undef, undef, undef, undef, undef, undef, undef, undef, undef, undef, undef, undef, undef, undef, undef, undef, undef], defers := [] }) ?assign ?body ?done ?stop
    case assign =>
      intro l' x W K hK
      gi_wp2
      exact hK
    case body =>
      rintro l' pre ⟨x, hx⟩ W hI hlen
      obtain ⟨k2, k3, ⟨v, k4, hO⟩, hgood, hBW⟩ := hI
      have hqs : ∃ b o, q = some ⟨b, o, none⟩ := by
        obtain ⟨b, o, e, _⟩ := r.2.2.2 (by have := HNM.out; omega)
        exact ⟨b, o, e⟩
      obtain ⟨b, o, rfl⟩ := hqs
      have hxn : 11 * x + 11 ≤ n := by have := HNM.out; omega
      obtain ⟨i, hi⟩ : ∃ i, 11 * x = i := ⟨_, rfl⟩
      have hRC := fun {W : World} (hb : Below w.heap.size w W) => reads_part (r.below hb) (i := i) (by omega)
      have hpart : partV (some ⟨b, o, none⟩) x = .slice (some ⟨b, o + i, none⟩) 11 11 := by unfold partV; rw [hi]; simp [Addr.add_lit]
      have hchk : chk l x = (l.drop i).take 11 := by unfold chk; rw [hi]
      have hlc : ((l.drop i).take 11).length = 11 := by simp; omega
      have hwc : ∀ z ∈ (l.drop i).take 11, Word z := fun z hz => hw z (List.mem_of_mem_drop (List.mem_of_mem_take hz))
      obtain ⟨C, hC2⟩ : ∃ C, (l.drop i).take 11 = C := ⟨_, rfl⟩
      have hisn : isN (l.drop (11 * x)) = isP (C.take 10) := by
        rw [← hC2, hi, List.take_take, show min 10 11 = 10 by rfl]
        unfold isN
        rw [decide_eq_true (by rw [List.length_drop]; omega), Bool.true_and]
      have hbw : b < w.heap.size := by
        obtain ⟨b', o', e, hlt, _⟩ := r.2.2.2 (by omega)
        simp only [Option.some.injEq, Addr.mk.injEq, and_true] at e
        rw [e.1]; exact hlt
      rw [hC2] at hchk hlc hwc
      simp only [hC2] at hRC
      have hup := fun w => run_upto_u w (some ⟨b, o + i, none⟩) 11 11 10 (by omega)
      have hOf := fun {W : World} (hb : Below w.heap.size w W) => policy_Of (some ⟨b, o + i, none⟩) 10 11 (C.take 10) (by rw [List.length_take]; omega) W ((hRC hb).upto 10) (fun z hz => hwc z (List.mem_of_mem_take hz))
      rw [hpart]
      have hQ : ∀ K : Act → World → Prop, ¬ LetsOut (Exit.then K (Exit.inBlock 1 (ownPostG W0.heap.size (fun W W' => Ck (w.heap.size + 1 + 1 + 1) (w.heap.size + 1 + 1 + 1 + 1) (some ⟨b, o, none⟩) n c W → Ck (w.heap.size + 1 + 1 + 1) (w.heap.size + 1 + 1 + 1 + 1) (some ⟨b, o, none⟩) n c W') (IE w l w.heap.size (w.heap.size + 1) (w.heap.size + 1 + 1)) (IX w l w.heap.size (w.heap.size + 1)) (pre ++ [(⟨x, hx⟩ : Ch m)]) W))) := by
        rintro K ⟨_, _, h⟩
        exact h
      have hEN : asN (chk l x) = ⟨asP (C.take 10), C.getD 10 0⟩ := by rw [hchk]; rfl
      cases hP : isP (C.take 10) with
      | false =>
        have e1 : ofP (C.take 10) = zeroP := by unfold ofP; rw [hP]; rfl
        have e2 : ofE (C.take 10) = 111 := by unfold ofE; rw [hP]; rfl
        rw [e1, e2] at hOf
        rw [hP] at hisn
        refine wpIn_block ?_
        refine wpIn_seq_k fun K hK => ?_
        refine Inv.region_list_in (hQ K) (by rfl) ?_
        go_wp2_with (first
          | ((fail_if_success (have _ := hB5)); (with_reducible refine (hOf hBW).mono ?_); rintro e w5 ⟨rfl, hB5⟩)
          | ((fail_if_success (have _ := hX6)); (have _ := hB5); (refine at_alloc_po (by rfl) (by rfl) ?_); intro V6 hX6 hB6 hz6)
          | ((fail_if_success (have _ := hX7)); (have _ := hX6); (refine at_store_po _ _ _ _ _ (by rfl) (by rfl) (by rfl) hX6 rfl (by rfl) ?_); intro V7 hX7 hg7 hz7; have hB7 := bnext hB5 (hB6.grown hg7 hB6.size (by simp))))
        have j2 := k2.below hB7
        have j3 := k3.below hB7
        have c2 := j2.cell 0
        have c3 := j3.cell 0
        have f2 := j2.frozen 0
        have f3 := j3.frozen 0
        simp only [List.getElem?_cons_zero] at c2 c3
        have HI : Hid (∃ x' ∈ pre ++ [(⟨x, hx⟩ : Ch m)], isN (l.drop (11 * x'.1)) = false) := ⟨⟨x, hx⟩, by simp, hisn⟩
        have HB7 : Hid (Below W.heap.size W V7) := hB7
        clear hisn hEN
        gi_wp2
        refine ⟨(((keeps_below HB7.out).trans (KeepsOthers.setCell _ _ _)).trans (KeepsOthers.setCell _ _ _)).from _, rfl, ?_, ?_, HI.out, ?_⟩
        · have := (j2.put 0 (.slice none 0 0)).other (p := ⟨w.heap.size + 1, 0, none⟩) (by simp) (.bool false)
          exact this
        · have := (j3.other (p := ⟨w.heap.size, 0, none⟩) (by simp) (.slice none 0 0)).put 0 (.bool false)
          exact this
        · exact ((bnext hBW HB7.out).setCell (p := ⟨w.heap.size, 0, none⟩) (Nat.le_refl _) _).setCell (p := ⟨w.heap.size + 1, 0, none⟩) (by simp) _
      | true =>
        have e1 : ofP (C.take 10) = asP (C.take 10) := by unfold ofP; rw [hP]; rfl
        have e2 : ofE (C.take 10) = 0 := by unfold ofE; rw [hP]; rfl
        rw [e1, e2] at hOf
        rw [hP] at hisn
        obtain ⟨p, hp⟩ : ∃ p, asP (C.take 10) = p := ⟨_, rfl⟩
        rw [hp] at hOf hEN
        obtain ⟨z, hz⟩ : ∃ z, C.getD 10 0 = z := ⟨_, rfl⟩
        rw [hz] at hEN
        refine wpIn_block ?_
        refine wpIn_seq_k fun K hK => ?_
        refine Inv.region_list_in (hQ K) (by rfl) ?_
        go_wp2_with (first
          | ((fail_if_success (have _ := hB5)); (with_reducible refine (hOf hBW).mono ?_); rintro e w5 ⟨rfl, hB5⟩)
          | ((fail_if_success (have _ := hX6)); (have _ := hB5); (refine at_alloc_po (by rfl) (by rfl) ?_); intro V6 hX6 hB6 hz6)
          | ((fail_if_success (have _ := hX7)); (have _ := hX6); (refine at_store_po _ _ _ _ _ (by rfl) (by rfl) (by rfl) hX6 rfl (by rfl) ?_); intro V7 hX7 hg7 hz7; have hB7 := bnext hB5 (hB6.grown hg7 hB6.size (by simp))))
        have j2 := k2.below hB7
        have j3 := k3.below hB7
        have j4 := k4.below hB7
        have hO7 := hO.below hB7
        have hRC7 := fun {W' : World} (hb : Below V7.heap.size V7 W') => (hRC (bnext (bnext hBW hB7) hb))
        have hz10 := fun {W' : World} (hb : Below V7.heap.size V7 W') => by have := at10 (hRC7 hb) (i := 10) (by omega); rwa [hz] at this
        obtain ⟨q4, c4, hv4, -, -⟩ := hO.shape
        obtain ⟨n4, hn4⟩ : ∃ n4, (outC l pre).length = n4 := ⟨_, rfl⟩
        rw [hn4] at hv4
        subst hv4
        have hlen4 : n4 ≤ 1000 := by rw [← hn4]; unfold outC; rw [List.length_map]; have := HNM.out; omega
        have HOC : Hid (outC l (pre ++ [(⟨x, hx⟩ : Ch m)]) = outC l pre ++ [⟨p, z⟩]) := by unfold Hid outC; rw [List.map_append, ← hEN]; rfl
        have HG : Hid (∀ x' ∈ pre ++ [(⟨x, hx⟩ : Ch m)], isN (l.drop (11 * x'.1)) = true) := fun x' hx' => by
          rcases List.mem_append.1 hx' with hx' | hx'
          · exact hgood x' hx'
          · rw [List.mem_singleton.1 hx']; exact hisn
        obtain ⟨ys, hys⟩ : ∃ ys, outC l pre = ys := ⟨_, rfl⟩
        rw [hys] at HOC hO hO7 hn4
        have HB7 : Hid (Below W.heap.size W V7) := hB7
        have hmx : Try.prog.follows .mixedOrders = true := by kernel_rfl
        clear hisn hEN hp hz hgood hys hRC hRC7 hwc hlc hchk hOf e1 e2 hP hpart
        gi_wp2
        have hw5 : w.heap.size + 1 + 1 < w5.heap.size := Nat.lt_of_lt_of_le k4.lt hB5.size
        have KB : Hid (KeepsOthers W V7) := keeps_below HB7.out
        have hCk7 : Hid (Ck (w.heap.size + 1 + 1 + 1) (w.heap.size + 1 + 1 + 1 + 1) (some ⟨b, o, none⟩) n c W → Ck (w.heap.size + 1 + 1 + 1) (w.heap.size + 1 + 1 + 1 + 1) (some ⟨b, o, none⟩) n c V7) := fun hk => hk.below HB7.out
        have hlt6 : ∀ {W' : World}, EO w.heap.size W' (.slice q4 n4 c4) ys → ∀ g, (Value.slice q4 n4 c4).ownBlock = some g → w.heap.size ≤ g := fun h g hg => by unfold EO at h; exact (World.ownsRow.lt h g hg).1
        refine Inv.region_invIn (by rintro ⟨_, _, h⟩; exact h) (by rfl) (fun L a w' => ∃ (gS : Nat) (q8 : Option Addr) (n8 : Nat) (c8 : Nat), a = { tmps := #[(Value.slice (some { block := b, off := o }) n c), undef, (Value.pointer (some { block := w.heap.size, off := 0 })), (Value.pointer (some { block := w.heap.size + 1, off := 0 })), (Value.pointer (some { block := w.heap.size + 1 + 1, off := 0 })), (Value.slice (some { block := b, off := o + i }) 11 11), (Value.pointer (some { block := w5.heap.size, off := 0 })), (Value.int IntKind.i64 0), (Value.slice (some { block := b, off := o }) n c), (Value.int IntKind.i64 ↑n), (Value.int IntKind.i64 (↑n % 11)), (Value.bool false), (Value.slice (some { block := b, off := o }) n c), (Value.func (Fn.func 80) #[] #[Value.pointer (some { block := w.heap.size + 1 + 1 + 1, off := 0 }), Value.pointer (some { block := w.heap.size + 1 + 1 + 1 + 1, off := 0 })]), (Value.slice (some { block := b, off := o + i }) 11 11), (Value.tuple #[pv p, Value.int IntKind.i64 0]), (Value.slice (some { block := b, off := o + i }) 11 11), (Value.slice (some { block := b, off := o + i }) 10 11), (Value.tuple #[pv p, Value.int IntKind.i64 0]), (pv p), (Value.int IntKind.i64 0), (Value.int IntKind.i64 0), (Value.bool false), (if L 0 = true then (.slice q4 n4 c4) else undef), (if L 1 = true then (pv p) else undef), (if L 2 = true then (.slice (some ⟨b, o + i, none⟩) 11 11) else undef), (if L 3 = true then (.pointer (some ⟨b, o + i + 10, none⟩)) else undef), (if L 4 = true then (.int .u64 z) else undef), (if L 5 = true then (nv ⟨p, z⟩) else undef), (if L 6 = true then (.slice (some ⟨gS, 0, none⟩) 1 1) else undef), (if L 7 = true then (.slice q8 n8 c8) else undef), undef], defers := [] } ∧ (KeepsOthers V7 w' ∧ (Ck (w.heap.size + 1 + 1 + 1) (w.heap.size + 1 + 1 + 1 + 1) (some ⟨b, o, none⟩) n c V7 → Ck (w.heap.size + 1 + 1 + 1) (w.heap.size + 1 + 1 + 1 + 1) (some ⟨b, o, none⟩) n c w') ∧ Blk w' w.heap.size 23 [.slice none 0 0] ∧ Blk w' (w.heap.size + 1) 4 [.bool false] ∧ Blk w' (w.heap.size + 1 + 1) 23 [if L 8 = true then .slice q8 n8 c8 else .slice q4 n4 c4] ∧ (L 7 = false → EO w.heap.size w' (.slice q4 n4 c4) ys ∧ Below V7.heap.size V7 w') ∧ (L 7 = true → EO w.heap.size w' (.slice q8 n8 c8) (ys ++ [⟨p, z⟩])) ∧ (L 6 = true → L 7 = false → RK nl w' (some ⟨gS, 0, none⟩) 1 [⟨p, z⟩]) ∧ Below w.heap.size w w' ∧ (L 7 = true → L 6 = true) ∧ (L 8 = true → L 7 = true) ∧ Blk w' w5.heap.size 47 (pl p) ∧ w'.cell? ⟨b, o + i + 10, none⟩ = some (.int .u64 z) ∧ b < w.heap.size ∧ (L 8 = true → L 0 = true))) (by kernel_rfl) (by kernel_rfl) ?h09 ?step9 ?done9
        case h09 => exact ⟨0, none, 0, 0, by simp, (keeps_below ((Below.refl _ _).drew)), fun hk => hk.below ((Below.refl _ _).drew), j2.drew, j3.drew, by simpa using j4.drew, fun _ => ⟨hO7.below ((Below.refl _ _).drew), (Below.refl _ _).drew⟩, by simp, by simp, (bnext hBW HB7.out).drew, by simp, by simp, hX7.drew, hz10 ((Below.refl _ _).drew), hbw, by simp⟩
        case step9 =>
          refine Inv.Steps.cons rfl ?_ ?_
          · intro L a w' hI hL hd K hK
            obtain ⟨gS, q8, n8, c8, rfl, hI⟩ := hI
            clear hd
            rw [if_pos (by rfl)]
            have h8 : L 8 = false := Bool.eq_false_iff.2 fun h => absurd (hI.2.2.2.2.2.2.2.2.2.2.2.2.2.2 h) (by simp [hL])
            have cO := (hI.2.2.2.2.1).cell 0
            simp only [h8, List.getElem?_cons_zero, Bool.false_eq_true, if_false] at cO
            go_simp
            exact hK.out _ _ ⟨gS, q8, n8, c8, by simp, hI.1, hI.2.1, hI.2.2.1, hI.2.2.2.1, by simpa using hI.2.2.2.2.1, by simpa using hI.2.2.2.2.2.1, by simpa using hI.2.2.2.2.2.2.1, by simpa using hI.2.2.2.2.2.2.2.1, hI.2.2.2.2.2.2.2.2.1, by simpa using hI.2.2.2.2.2.2.2.2.2.1, by simpa using hI.2.2.2.2.2.2.2.2.2.2.1, hI.2.2.2.2.2.2.2.2.2.2.2.1, hI.2.2.2.2.2.2.2.2.2.2.2.2.1, hI.2.2.2.2.2.2.2.2.2.2.2.2.2.1, fun _ => by simp⟩
          refine Inv.Steps.cons rfl ?_ ?_
          · intro L a w' hI hL hd K hK
            obtain ⟨gS, q8, n8, c8, rfl, hI⟩ := hI
            clear hd
            rw [if_pos (by rfl)]
            refine wp_load_po _ _ _ (by rfl) (by rfl) (hI.2.2.2.2.2.2.2.2.2.2.2.1) ?_
            exact hK.out _ _ ⟨gS, q8, n8, c8, by simp [Act.put], by simpa using hI⟩
          refine Inv.Steps.cons rfl ?_ ?_
          · intro L a w' hI hL hd K hK
            obtain ⟨gS, q8, n8, c8, rfl, hI⟩ := hI
            clear hd
            rw [if_pos (by rfl)]
            go_simp
            exact hK.out _ _ ⟨gS, q8, n8, c8, by simp, by simpa using hI⟩
          refine Inv.Steps.cons rfl ?_ ?_
          · intro L a w' hI hL hd K hK
            obtain ⟨gS, q8, n8, c8, rfl, hI⟩ := hI
            simp [Region.binds] at hd
            simp only [hd, if_true]
            rw [if_pos (by rfl)]
            go_simp
            exact hK.out _ _ ⟨gS, q8, n8, c8, by simp [hd], by simpa using hI⟩
          refine Inv.Steps.cons rfl ?_ ?_
          · intro L a w' hI hL hd K hK
            obtain ⟨gS, q8, n8, c8, rfl, hI⟩ := hI
            simp [Region.binds] at hd
            simp only [hd, if_true]
            rw [if_pos (by rfl)]
            have cZ := hI.2.2.2.2.2.2.2.2.2.2.2.2.1
            go_simp
            exact hK.out _ _ ⟨gS, q8, n8, c8, by simp [hd], by simpa using hI⟩
          refine Inv.Steps.cons rfl ?_ ?_
          · intro L a w' hI hL hd K hK
            obtain ⟨gS, q8, n8, c8, rfl, hI⟩ := hI
            simp [Region.binds] at hd
            simp only [hd, if_true]
            rw [if_pos (by rfl)]
            refine wp_build_nboth _ _ _ _ (by rfl) (by rfl) (by rfl) ?_
            exact hK.out _ _ ⟨gS, q8, n8, c8, by simp [hd, Act.put], by simpa using hI⟩
          refine Inv.Steps.cons rfl ?_ ?_
          · intro L a w' hI hL hd K hK
            obtain ⟨gS, q8, n8, c8, rfl, hI⟩ := hI
            simp [Region.binds] at hd
            simp only [hd, if_true]
            rw [if_pos (by rfl)]
            have h7 : L 7 = false := Bool.eq_false_iff.2 fun h => absurd (hI.2.2.2.2.2.2.2.2.2.1 h) (by simp [hL])
            have h8 : L 8 = false := Bool.eq_false_iff.2 fun h => absurd (hI.2.2.2.2.2.2.2.2.2.2.1 h) (by simp [h7])
            obtain ⟨hO6, hV6⟩ := hI.2.2.2.2.2.1 h7
            have hb5 := hI.2.2.2.2.1
            rw [h8] at hb5
            have hbn := bnew w' (.cells ([(⟨p, z⟩ : En)].flatMap nl).toArray 49)
            refine wp_run (Instr.buildSlice 23 1 #[(0, nv ⟨p, z⟩)]) (by simp [execOp]; rfl) (run_ent1 ⟨p, z⟩ w') ?_
            exact hK.out _ _ ⟨w'.heap.size, q8, n8, c8, by simp [hd, h7, Act.put], (hI.1).trans (keeps_below hbn), fun hk => (hI.2.1 hk).below hbn, (hI.2.2.1).below hbn, (hI.2.2.2.1).below hbn, by simpa [h8] using hb5.below hbn, fun _ => ⟨hO6.below hbn, bnext hV6 hbn⟩, fun h => by simp [h7] at h, fun _ _ => lit_ents w' ⟨p, z⟩, bnext (hI.2.2.2.2.2.2.2.2.1) hbn, fun _ => by simp, fun h => by simp [h8] at h, (hI.2.2.2.2.2.2.2.2.2.2.2.1).below hbn, ((hbn.cell (p := ⟨b, o + i + 10, none⟩) (World.block_lt_of_cell? _ _ (hI.2.2.2.2.2.2.2.2.2.2.2.2.1))).trans (hI.2.2.2.2.2.2.2.2.2.2.2.2.1)), hI.2.2.2.2.2.2.2.2.2.2.2.2.2.1, fun h => by simp [h8] at h⟩
          refine Inv.Steps.cons rfl ?_ ?_
          · intro L a w' hI hL hd K hK
            obtain ⟨gS, q8, n8, c8, rfl, hI⟩ := hI
            simp [Region.binds] at hd
            simp only [hd, if_true]
            rw [if_pos (by rfl)]
            have h8 : L 8 = false := Bool.eq_false_iff.2 fun h => absurd (hI.2.2.2.2.2.2.2.2.2.2.1 h) (by simp [hL])
            obtain ⟨hO6, hV6⟩ := hI.2.2.2.2.2.1 hL
            have hb5 := hI.2.2.2.2.1
            rw [h8] at hb5
            have r6 := hI.2.2.2.2.2.2.2.1 (by simp [hd]) hL
            refine wp_append_en _ _ (by rfl) w.heap.size (.slice q4 n4 c4) ys (by rfl) hO6 _ 1 1 [⟨p, z⟩] (by rfl) rfl r6 (by omega) (hI.2.2.2.2.2.2.2.2.1).size ?_
            intro v6 w6 ho6 hg6 _
            obtain ⟨q6, c6, rfl, -, -⟩ := ho6.shape
            exact hK.out _ _ ⟨gS, q6, (ys ++ [(⟨p, z⟩ : En)]).length, c6, by simp [hd, Act.put], (hI.1).trans (KeepsOthers.of_grownBy hg6 hO6.cells), fun hk => ⟨(hI.2.1 hk).1.kept hg6 (hO6.ne (hI.2.1 hk).1 (by decide)), (hI.2.1 hk).2.kept hg6 (hO6.ne (hI.2.1 hk).2 (by decide))⟩, (hI.2.2.1).kept hg6 (hO6.ne (hI.2.2.1) (by decide)), (hI.2.2.2.1).kept hg6 (hO6.ne (hI.2.2.2.1) (by decide)), by simpa [h8] using hb5.kept hg6 (hO6.ne hb5 (by decide)), fun h => by simp at h, fun _ => ho6, fun _ h => by simp at h, (hI.2.2.2.2.2.2.2.2.1).grown hg6 (hI.2.2.2.2.2.2.2.2.1).size (hlt6 hO6), fun _ => by simp [hd], fun h => by simp [h8] at h, (hI.2.2.2.2.2.2.2.2.2.2.2.1).kept hg6 (hO6.ne (hI.2.2.2.2.2.2.2.2.2.2.2.1) (by decide)), (hg6.cell (hI.2.2.2.2.2.2.2.2.2.2.2.2.1) (fun e => by have := hlt6 hO6 b e.symm; have := hI.2.2.2.2.2.2.2.2.2.2.2.2.2.1; omega)), hI.2.2.2.2.2.2.2.2.2.2.2.2.2.1, fun h => by simp [h8] at h⟩
          refine Inv.Steps.cons rfl ?_ ?_
          · intro L a w' hI hL hd K hK
            obtain ⟨gS, q8, n8, c8, rfl, hI⟩ := hI
            simp [Region.binds] at hd
            simp only [hd, if_true]
            rw [if_pos (by rfl)]
            have e7 : L 7 = true := by simp [hd]
            have hO8 := hI.2.2.2.2.2.2.1 e7
            have hb5 := hI.2.2.2.2.1
            rw [hL] at hb5
            simp only [Bool.false_eq_true, if_false] at hb5
            refine wp_put_ents8 _ _ (w.heap.size + 1 + 1) 0 _ _ q8 n8 c8 (by rfl) (by rfl) (by rfl) hb5 (by simp) ?_
            intro w6 hX6 hg6 hz6
            exact hK.out _ _ ⟨gS, q8, n8, c8, by simp [hd, Act.put], (hI.1).trans (KeepsOthers.of_grownBy hg6 (blk_cells hb5)), fun hk => ⟨(hI.2.1 hk).1.kept hg6 (by simp), (hI.2.1 hk).2.kept hg6 (by simp; omega)⟩, (hI.2.2.1).kept hg6 (by simp; omega), (hI.2.2.2.1).kept hg6 (by simp), by simpa using hX6, fun h => absurd h (by simp [e7]), fun _ => hO8.off hb5 (by decide) hg6, fun _ h => absurd h (by simp [e7]), (hI.2.2.2.2.2.2.2.2.1).grown hg6 (hI.2.2.2.2.2.2.2.2.1).size (fun j hj => by obtain rfl := Option.some.inj hj; omega), fun _ => by simp [hd], fun _ => by simp [e7], (hI.2.2.2.2.2.2.2.2.2.2.2.1).kept hg6 (by simp; omega), (hg6.cell (hI.2.2.2.2.2.2.2.2.2.2.2.2.1) (by have := hI.2.2.2.2.2.2.2.2.2.2.2.2.2.1; simp; omega)), hI.2.2.2.2.2.2.2.2.2.2.2.2.2.1, fun _ => by simp [hd]⟩
          exact Inv.Steps.nil (by decide)
        case done9 =>
          intro L a w' hI hall
          obtain ⟨gS, q8, n8, c8, rfl, hI⟩ := hI
          simp only [hall, if_true] at hI ⊢
          exact ⟨(KB.out.trans hI.1).from _, fun hk => hI.2.1 (hCk7.out hk), hI.2.2.1, hI.2.2.2.1, ⟨_, hI.2.2.2.2.1, by rw [HOC.out]; exact hI.2.2.2.2.2.2.1 trivial⟩, HG.out, hI.2.2.2.2.2.2.2.2.1⟩
    case done =>
      rintro D ys W hD hd ⟨k2, k3, ⟨v, k4, hO⟩, hgood, hBW⟩ hK
      obtain ⟨q', c', rfl, -, -⟩ := hO.shape
      have hD2 : w.heap.size + 1 < D := by have := b6.lt; omega
      have c4 := k4.cell 0
      have c2 := k2.cell 0
      have c3 := k3.cell 0
      have f2 := k2.frozen 0
      have f3 := k3.frozen 0
      simp only [List.getElem?_cons_zero] at c2 c3 c4
      have hall : entsO l = some (outC l ys) := by
        unfold entsO
        have hm := HNM.out
        rw [ents_good m l.length l [] (by omega) (by omega) (fun i hi => ?_), List.nil_append, out_all hd]
        obtain ⟨y, hy⟩ : ∃ y, ys[i]? = some y := ⟨_, List.getElem?_eq_getElem (by rw [hd.1]; exact hi)⟩
        have := hgood y (List.mem_of_getElem? hy)
        rwa [hd.2 i y hy] at this
      gi_wp2
      have hD3 : ∀ W', W.grownBy W' (some w.heap.size) → W'.heap[D]? = some (.deferred (some [])) := fun W' hg => (hg.block D (Array.getElem?_eq_some_iff.1 hK).1 (by simp; omega)).trans hK
      obtain ⟨V1, hV1⟩ : ∃ V1, W.setCell ⟨w.heap.size, 0, none⟩ (.slice q' (outC l ys).length c') = V1 := ⟨_, rfl⟩
      have j2 : Blk V1 w.heap.size 23 [.slice q' (outC l ys).length c'] := by rw [← hV1]; exact k2.put 0 _
      have j3 : Blk V1 (w.heap.size + 1) 4 [.bool false] := by rw [← hV1]; exact k3.other (by simp) _
      have hgA : W.grownBy V1 (some w.heap.size) := by rw [← hV1]; exact only_put W ⟨w.heap.size, 0, none⟩ _
      have hO1 := hO.off k2 (by decide) hgA
      rw [hV1]
      obtain ⟨V2, hV2⟩ : ∃ V2, V1.setCell ⟨w.heap.size + 1, 0, none⟩ (.bool true) = V2 := ⟨_, rfl⟩
      have l2 : Blk V2 w.heap.size 23 [.slice q' (outC l ys).length c'] := by rw [← hV2]; exact j2.other (by simp) _
      have l3 : Blk V2 (w.heap.size + 1) 4 [.bool true] := by rw [← hV2]; exact j3.put 0 _
      have hgB : V1.grownBy V2 (some (w.heap.size + 1)) := by rw [← hV2]; exact only_put V1 ⟨w.heap.size + 1, 0, none⟩ _
      have hO2 := hO1.off j3 (by decide) hgB
      have hBV : Below w.heap.size w V2 := (hBW.grown hgA hBW.size (fun r e => by cases e; exact Nat.le_refl _)).grown hgB (Nat.le_trans hBW.size hgA.size) (fun r e => by cases e; omega)
      have hK2 : V2.heap[D]? = some (.deferred (some [])) := (hgB.block D (Nat.lt_of_lt_of_le (Array.getElem?_eq_some_iff.1 hK).1 hgA.size) (by simp; omega)).trans (hD3 V1 hgA)
      rw [hV2]
      clear hV1 hV2 k2 k3 k4 c2 c3 c4 f2 f3 hO hO1 j2 j3
      have hgD := grownBy_putObj' V2 D (.deferred none)
      have hnc : ∀ r, some D = some r → ∃ o : Obj, V2.heap[r]? = some o ∧ o.isCells = false := fun r e => by cases e; exact ⟨_, hK2, rfl⟩
      refine ⟨by simp, .inl ⟨_, _, rfl, run_takeDeferred hK2, ?_⟩⟩
      exact ⟨_, res_two rfl rfl (blk_turn l2 hgD hnc) (blk_turn l3 hgD hnc), _, _, rfl, .inl ⟨_, hall, rfl, hO2.turn hgD hnc⟩, hBV.grown hgD hBV.size (fun r e => by cases e; omega)⟩
    case stop =>
      rintro D c' pre W hD _ ⟨rfl, k2, k3, hbad, hBW⟩ hK
      have hnone : entsO l = none := by
        obtain ⟨x, _, hx⟩ := hbad
        unfold entsO
        have hm := HNM.out
        exact ents_bad m l.length l [] x.1 (by omega) (by omega) x.2 hx
      refine wpIn_ret ?_
      have hgD := grownBy_putObj' W D (.deferred none)
      have hnc : ∀ r, some D = some r → ∃ o : Obj, W.heap[r]? = some o ∧ o.isCells = false := fun r e => by cases e; exact ⟨_, hK, rfl⟩
      refine ⟨by simp, .inl ⟨_, _, rfl, run_takeDeferred hK, ?_⟩⟩
      exact ⟨_, res_two rfl rfl (blk_turn k2 hgD hnc) (blk_turn k3 hgD hnc), _, _, rfl, .inr ⟨hnone, rfl, rfl⟩, hBW.grown hgD hBW.size (fun r e => by cases e; have := hB0.size; omega)⟩
  · have hodd := ents_odd hw (by rw [hl]; exact hm)
    have hmi : ((n : Int) % 11 != 0) = true := by simp; omega
    clear hm
    gi_wp2
    have b2 : Blk ((w.alloc (.cells #[.slice none 0 0] 23)).alloc (.cells #[.bool false] 4)) w.heap.size 23 [.slice none 0 0] := (Blk.new w _ _).alloc _
    have b3 : Blk ((w.alloc (.cells #[.slice none 0 0] 23)).alloc (.cells #[.bool false] 4)) (w.heap.size + 1) 4 [.bool false] := Blk.new1 _ (by simp) _ _
    exact ⟨_, res_two rfl rfl b2 b3, _, _, rfl, .inr ⟨hodd, rfl, rfl⟩, bnext (bnew _ _) (bnew _ _)⟩
end Go.Proofs.Ytnaofcggdjbocaa.Book
