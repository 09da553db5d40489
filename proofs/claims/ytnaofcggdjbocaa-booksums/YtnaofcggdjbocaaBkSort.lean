/-
  Entries in order: book.bySub, and the library's SortFunc by it.
-/
import Derived.Test.YtnaofcggdjbocaaBkChange
import Derived.Test.YtnaofcggdjbocaaSortLaid
import Derived.Test.YtnaofcggdjbocaaShelf
import Derived.Shelf.SlSortCmp.WholeK
namespace Go.Proofs.Ytnaofcggdjbocaa.Book
open Go.RowKit Go.Proofs.Ytnaofcggdjbocaa.Mem Go.Proofs.Ytnaofcggdjbocaa.Policy Go.Proofs.Ytnaofcggdjbocaa.Event Go.Proofs.Ytnaofcggdjbocaa.Addr
open Go.Sort (grow flatK get_flatK HoldsK putRowK)
set_option maxRecDepth 100000

/-- Nothing has turned but that blocks were laid and answers drawn. -/
def Gr (w w' : World) : Prop := ∃ q os, w' = grow (w.drewN q) os
theorem Gr.refl (w : World) : Gr w w := ⟨0, #[], by simp; rfl⟩
theorem Gr.trans {a b c : World} (h : Gr a b) (k : Gr b c) : Gr a c := by
  obtain ⟨q, os, rfl⟩ := h
  obtain ⟨q', os', rfl⟩ := k
  refine ⟨q + q', os ++ os', ?_⟩
  simp [grow, World.drewN, Nat.add_assoc]
theorem Gr.new (w : World) (o : Obj) : Gr w (w.alloc o) := ⟨0, #[o], Sort.alloc_eq_grow w o⟩
theorem Gr.drew (w : World) : Gr w w.drew := ⟨1, #[], by rw [Sort.grow_empty]; rfl⟩
theorem Gr.below {w w' : World} (h : Gr w w') : Below w.heap.size w w' := by
  obtain ⟨q, os, rfl⟩ := h
  exact ⟨rfl, rfl, rfl, by simp [grow, World.drewN], fun k hk => by simp only [grow, World.drewN]; exact Array.getElem?_append_left hk⟩

def cmp (x y : Int) : Int := if x < y then -1 else if y < x then 1 else 0
theorem isNaN_int (x : Int) (w : World) : Calls Try.prog 105 #[.int .i64 x] w fun e w' => e = .returned (.bool false) ∧ w' = w := by
  go_enter Try.func105, Try.ntmps105
  go_wp2
  go_ret
  exact ⟨by simp, rfl⟩
theorem cmp_int (x y : Int) (w : World) : Calls Try.prog 88 #[.int .i64 x, .int .i64 y] w fun e w' => e = .returned (.int .i64 (cmp x y)) ∧ w' = w := by
  have hn := isNaN_int
  go_enter Try.func88, Try.ntmps88
  go_wp2_with (go_at_call 105; refine (hn _ _).mono ?_; rintro e w1 ⟨rfl, rfl⟩)
  all_goals (go_ret; refine ⟨?_, rfl⟩; unfold cmp; (repeat' split) <;> first | rfl | (exfalso; omega))
theorem at_box_grow {o : Oper} {a : Act} {w : World} {ops : Array Oper} {rest : List Oper} {Q : Exit → Act → World → Prop} (x : Operand) (p : En) (ho : o.op = .box 49 x) (hx : a.eval x = nv p) (hw : Region.wanted o (yielded ops a.tmps) = true)
    (h : ∀ w', Blk w' w.heap.size 49 (nl p) → Gr w w' → wpList Try.prog ops Q rest (a.put o.dst (.pointer (some ⟨w.heap.size, 0, none⟩))) w') : wpList Try.prog ops Q (o :: rest) a w :=
  BigFrame.wpList_want hw fun _ hK => wp_box_v _ x (nl p) ho hx (hK _ _ (h _ (new_blk _ _ _) (Gr.new _ _)))
def cfE (x y : En) : Int := cmp x.p.s y.p.s
theorem by_sub (x y : En) (w : World) : Calls Try.prog 78 #[nv x, nv y] w fun e w' => e = .returned (.int .i64 (cfE x y)) ∧ Gr w w' := by
  have hc := cmp_int x.p.s y.p.s
  unfold cfE
  obtain ⟨C, hC⟩ : ∃ C, cmp x.p.s y.p.s = C := ⟨_, rfl⟩
  rw [hC] at hc ⊢
  go_enter Try.func78, Try.ntmps78
  go_wp2_with (first
    | ((fail_if_success (have _ := hX1)); (refine at_box_grow _ _ (by rfl) (by rfl) (by rfl) ?_); intro V1 hX1 hG1)
    | ((fail_if_success (have _ := hX2)); (have _ := hX1); (refine at_box_grow _ _ (by rfl) (by rfl) (by rfl) ?_); intro V2 hX2 hG2; have hG := hG1.trans hG2; have c1 := cells14 (hX1.below hG2.below); have c2 := cells14 hX2)
    | ((have _ := hX2); (with_reducible refine (hc _).mono ?_); rintro e w3 ⟨rfl, hw⟩; rw [hw]; clear hw))
  go_ret
  exact ⟨rfl, hG⟩
theorem lt_cfE (x y : En) : ltOf cfE x y = decide (x.p.s < y.p.s) := by
  unfold ltOf cfE cmp
  rw [Bool.eq_iff_iff]
  simp only [decide_eq_true_eq]
  (repeat' split) <;> omega
theorem swo_cfE : Sort.SWO (ltOf cfE) where
  irrefl x := by rw [lt_cfE]; simp
  trans x y z h1 h2 := by rw [lt_cfE] at *; simp at *; omega
  ntrans x y z h1 h2 := by
    rw [lt_cfE] at *
    simp at *
    omega
/-! ### Rows -/
section
variable [Inhabited En]
theorem flat_get (d : Array En) (t : Nat) (h : t < d.size * 14) : (d.toList.flatMap nl)[t]? = some (flatK nl 14 d)[t]! := by
  have hi : t / 14 < d.size := by omega
  have hj : t % 14 < 14 := Nat.mod_lt _ (by decide)
  have e := get_flat len_en d.toList (t / 14) (t % 14) d[t / 14] (by simp [hi]) hj
  rw [show t / 14 * 14 + t % 14 = t by omega] at e
  rw [e, get_flatK _ _ _ _ h, getElem!_pos d (t / 14) hi]
  have hl : t % 14 < (nl d[t / 14]).length := by rw [len_en]; exact hj
  rw [List.getElem?_eq_getElem hl, getElem!_pos (nl d[t / 14]) (t % 14) hl]
theorem holds_own {w : World} {B g cap : Nat} {e : TypeId} {rs : List En} (h : w.ownsRow B e 14 (.slice (some ⟨g, 0, none⟩) rs.length cap) rs.length (rs.flatMap nl)) : HoldsK nl 14 w g 0 rs.toArray ∧ g < w.heap.size ∧ B ≤ g ∧ rs.length ≤ cap ∧ cap ≤ maxLen := by
  rcases h.2 with ⟨h0, _⟩ | ⟨g', cap', cur, hv, hb, hg, hc, hm, hs, ht⟩
  · simp at h0
  · simp only [Value.slice.injEq, Option.some.injEq, Addr.mk.injEq, and_true, true_and] at hv
    obtain ⟨rfl, rfl⟩ := hv
    refine ⟨fun t h' => ?_, (Array.getElem?_eq_some_iff.1 hg).1, hb, hc, hm⟩
    have h'' : t < rs.toArray.size * 14 := by simpa using h'
    have e1 := flat_get rs.toArray t h''
    simp only [List.size_toArray] at h''
    refine ⟨?_, by simp [World.frozen?, hg]⟩
    rw [← ht, List.getElem?_take] at e1
    simp only [h'', if_true, Array.getElem?_toList] at e1
    rw [Nat.zero_add]
    simp [World.cell?, hg, e1]
theorem holds_rk {w : World} {g cap : Nat} {d : Array En} (h : HoldsK nl 14 w g 0 d) (hg : g < w.heap.size) (hc : d.size ≤ cap) (hm : cap ≤ maxLen) : RK nl w (some ⟨g, 0, none⟩) cap d.toList := by
  refine ⟨by simpa using hc, hm, fun h => by simp at h, fun _ => ⟨g, 0, rfl, hg, fun j v hv => ?_⟩⟩
  have hj : j < d.size * 14 := by have := (List.getElem?_eq_some_iff.1 hv).1; rw [len_flat len_en] at this; simpa using this
  have e := flat_get d j hj
  rw [hv] at e
  rw [(h j (by simpa using hj)).1, ← Option.some.inj e]
  rfl
theorem grown_sorted {w : World} {g n : Nat} {os : Array Obj} (d : Array En) : w.grownBy (sortWorldK nl 14 w g 0 n d os) (some g) := by
  refine ⟨rfl, rfl, rfl, size_sortWorldK_c nl 14 w g 0 n d os, fun k hk hne => ?_⟩
  have : g ≠ k := fun e => hne (by rw [e])
  unfold sortWorldK
  rw [Sort.heap_grow_old _ _ (by simpa [putRowK, Sort.putRow, Sort.mapBlock, Sort.ahead] using hk)]
  simp [putRowK, Sort.putRow, Sort.mapBlock, Sort.ahead, Array.getElem?_modify, this]
theorem sorted_blk {w : World} {g n : Nat} {os : Array Obj} {t : TypeId} {cs : List Value} (d : Array En) (hX : Blk w g t cs) : ∃ ds, Blk (sortWorldK nl 14 w g 0 n d os) g t ds ∧ ds.length = cs.length := by
  have hlt := hX.lt
  have hv : w.heap[g]? = some (.cells cs.toArray t (0, 0)) := hX
  refine ⟨(Sort.putCells id 0 (flatK nl 14 d) cs.toArray).toList, ?_, by simp [Sort.putCells]⟩
  unfold Blk sortWorldK
  rw [Sort.heap_grow_old _ _ (by simpa [putRowK, Sort.putRow, Sort.mapBlock, Sort.ahead] using hlt)]
  simp only [putRowK, Sort.putRow, Sort.mapBlock, Sort.ahead, Array.getElem?_modify, if_true, hv, Option.map_some, Sort.onCells, Array.toArray_toList]
theorem sorted_own {B g n c : Nat} {w : World} {es fs : List En} {m : Nat} {os : Array Obj} (h : EO B w (.slice (some ⟨g, 0, none⟩) n c) es) (hH : HoldsK nl 14 w g 0 es.toArray) (hl : fs.length = n) : EO B (sortWorldK nl 14 w g 0 m fs.toArray os) (.slice (some ⟨g, 0, none⟩) n c) fs := by
  obtain ⟨rest, hX, hn, hB, hc, hm, hlen⟩ := h.blk
  obtain ⟨ds, hD, hdl⟩ := sorted_blk (n := m) (os := os) fs.toArray hX
  have hr := holds_rk (cap := c) (holdsK_sortWorldK_c nl 14 w g 0 es.toArray fs.toArray m os hH hX.lt (by simp [hl, hn])) hD.lt (by simpa [hl] using hc) hm
  have hfl : (fs.flatMap nl).length = n * 14 := by rw [len_flat len_en, hl]
  have e : ds = fs.flatMap nl ++ ds.drop (n * 14) := by
    apply List.ext_getElem?
    intro j
    by_cases hj : j < n * 14
    · rw [List.getElem?_append_left (by omega)]
      obtain ⟨b, o, e, _, hcell⟩ := hr.2.2.2 (by simp; omega)
      simp only [Option.some.injEq, Addr.mk.injEq, and_true] at e
      obtain ⟨rfl, rfl⟩ := e
      have := hcell j ((fs.flatMap nl)[j]'(by omega)) (by simp [List.getElem?_eq_getElem (show j < (fs.flatMap nl).length by omega)])
      rw [Nat.zero_add, hD.cell] at this
      rw [this, List.getElem?_eq_getElem (show j < (fs.flatMap nl).length by omega)]
    · rw [List.getElem?_append_right (by omega), hfl, List.getElem?_drop, show n * 14 + (j - n * 14) = j by omega]
  rw [e] at hD
  exact eo_of hD hl hB hc hm (by rw [← e, hdl, hlen])
end
theorem insertion_none (f : Value) (w : World) : Calls Try.prog 95 #[.slice none 0 0, .int .i64 0, .int .i64 0, f] w fun e w' => e = .returned (.tuple #[]) ∧ w' = w := by
  go_enter Try.func95, Try.ntmps95
  go_wp2
  refine wp_loop_rounds 1 ?_
  rw [rounds_succ]
  go_wp2
  go_end0
  exact ⟨rfl, rfl⟩
theorem pdq_none (f : Value) (w : World) : Calls Try.prog 86 #[.slice none 0 0, .int .i64 0, .int .i64 0, .int .i64 0, f] w fun e w' => e = .returned (.tuple #[]) ∧ w' = w := by
  have hi := insertion_none f w
  go_enter Try.func86, Try.ntmps86
  go_wp2
  refine wp_loop_rounds 1 ?_
  rw [rounds_succ]
  go_wp2_with (with_reducible refine hi.mono ?_; rintro e w3 ⟨rfl, hw⟩; rw [hw]; clear hw)
  refine bodyPost_ret (results_none rfl _ _ _) rfl ?_
  exact ⟨rfl, rfl⟩
theorem sort_none (f : Value) (w : World) : Calls Try.prog 77 #[.slice none 0 0, f] w fun e w' => e = .returned (.tuple #[]) ∧ w' = w := by
  have hp := pdq_none f w
  have hl : Calls Try.prog 87 #[.int .u64 0] w fun e w' => e = .returned (.int .i64 0) ∧ w' = w := by
    have := Try.bits_Len 0 w (by omega) (by omega)
    exact this
  go_enter Try.func77, Try.ntmps77
  go_wp2_with (first
    | ((with_reducible refine hl.mono ?_); rintro e w3 ⟨rfl, hw⟩; rw [hw]; clear hw)
    | ((with_reducible refine hp.mono ?_); rintro e w3 ⟨rfl, hw⟩; rw [hw]; clear hw))
  go_end0
  exact ⟨rfl, rfl⟩
set_option maxHeartbeats 1000000 in
/-- slices.SortFunc by Sub: what comes of it rises, and has the same entries. -/
theorem sort_ents (B : Nat) (q : Option Addr) (n c : Nat) (es : List En) (hn : n ≤ 1000) (w : World) (h : EO B w (.slice q n c) es) :
    Calls Try.prog 77 #[.slice q n c, .func (.func 78) #[] #[]] w fun x w' => x = .returned (.tuple #[]) ∧ ∃ fs, fs.Perm es ∧ fs.Pairwise (fun a b => a.p.s ≤ b.p.s) ∧ EO B w' (.slice q n c) fs ∧ w.grownBy w' (Value.slice q n c).ownBlock := by
  obtain ⟨hl, hrk, -⟩ := h.is
  have hshape : (q = none ∧ n = 0 ∧ c = 0) ∨ ∃ g, q = some ⟨g, 0, none⟩ := by
    rcases h.2 with ⟨hv, h0⟩ | ⟨g, cap, cur, hv, _⟩
    · simp only [Value.slice.injEq] at hv
      exact .inl hv
    · simp only [Value.slice.injEq] at hv
      exact .inr ⟨g, hv.1⟩
  rcases hshape with ⟨rfl, rfl, rfl⟩ | ⟨g, rfl⟩
  · obtain rfl : es = [] := List.eq_nil_of_length_eq_zero hl
    refine (sort_none _ w).mono fun x w' ⟨hx, hw⟩ => ⟨hx, [], List.Perm.refl _, List.Pairwise.nil, ?_, ?_⟩
    · rw [hw]; exact h
    · rw [hw]; exact World.grownBy.refl _ _
  · have hob : (Value.slice (some ⟨g, 0, none⟩) n c).ownBlock = some g := rfl
    haveI : Inhabited En := ⟨zeroN⟩
    have hown : w.ownsRow B 49 14 (.slice (some ⟨g, 0, none⟩) es.length c) es.length (es.flatMap nl) := by
      have := h
      unfold EO at this
      rwa [← hl] at this
    obtain ⟨hH, hg, hB, hc, hm⟩ := holds_own hown
    have eg : ∀ args w, (callFunc 78 args).run Try.prog w = .ok (.enter 78 args) w := enters_of Try.func78 (by kernel_rfl) rfl
    have hcon := AnyQ.slices_SortFunc Try.sortL 14 Try.isAgg49 Try.sizeOf49 nl len_en one_en cfE swo_cfE 78 #[] g 0 c es.toArray w eg (fun _ _ _ _ x y => by_sub x y _) hH hg (by simp; omega)
    change Calls Try.prog 77 _ _ _ at hcon
    rw [List.size_toArray, hl] at hcon
    refine hcon.mono fun x w' ⟨hx, d', m, os, hpi, hsi, hw⟩ => ?_
    have hds : d'.size = n := by simpa [hl] using hpi.1
    have hpd : d'.toList.Perm es := by
      have h1 := hpi.2.2
      have e1 : d'.extract 0 n = d' := by rw [← hds]; exact Array.extract_size
      have e2 : es.toArray.extract 0 n = es.toArray := by
        have : es.toArray.extract 0 es.toArray.size = es.toArray := Array.extract_size
        rwa [List.size_toArray, hl] at this
      rw [e1, e2] at h1
      exact h1
    refine ⟨hx, d'.toList, hpd, ?_, ?_, ?_⟩
    · rw [List.pairwise_iff_getElem]
      intro i j hi hj hij
      have hi' : i < d'.size := by simpa using hi
      have hj' : j < d'.size := by simpa using hj
      have h1 := hsi i j (Nat.zero_le _) hij (by omega)
      rw [getElem!_pos d' j hj', getElem!_pos d' i hi', lt_cfE] at h1
      simp only [decide_eq_false_iff_not] at h1
      simp only [Array.getElem_toList]
      omega
    · subst hw
      have := sorted_own (fs := d'.toList) (m := m) (os := os) h hH (by simpa using hds)
      simpa using this
    · subst hw
      exact grown_sorted d'
end Go.Proofs.Ytnaofcggdjbocaa.Book
