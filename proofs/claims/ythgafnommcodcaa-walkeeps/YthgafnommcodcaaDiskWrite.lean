/-
  Write. (Written by gen_dwrite.py.)
-/
import Derived.Test.YthgafnommcodcaaDiskSync
namespace Go.Proofs.Ythgafnommcodcaa.Disk
open Go.RowKit Go.Proofs.Ythgafnommcodcaa.Mem Go.Proofs.Ythgafnommcodcaa.Sect
open Go.Proofs.Ythgafnommcodcaa.Frame (Sec zero)
set_option maxRecDepth 100000

theorem info_wr : ∃ i, Try.prog.info? 119 = some i ∧ i.zero = some (wrv (0, zero)) ∧ i.size = 65 ∧ i.bytes = 72 := by
  have h : (Try.prog.info? 119).map (fun i => (i.zero, i.size, i.bytes)) = some (some (wrv (0, zero)), 65, 72) := by kernel_rfl
  obtain ⟨i, h1, h2⟩ := Option.map_eq_some_iff.1 h
  simp only [Prod.mk.injEq] at h2
  exact ⟨i, h1, h2⟩
theorem wp_app_wr {o : Oper} {a : Act} {w : World} {K : Act → World → Prop} {Q : Exit → Act → World → Prop} (x y : Operand) (B : Nat) (v : Value) (n : Nat) (pe : List Wr) (G : Nat) (e : Wr) (ho : o.op = .call { callee := .builtin .append, args := #[x, y], argTypes := #[81, 81] }) (hx : a.eval x = v) (hy : a.eval y = .slice (some ⟨G, 0, none⟩) 1 1)
    (hown : w.ownsRow B 119 65 v n (pe.flatMap wc)) (hG : Blk w G 119 (wc e)) (hn : n ≤ 1000) (hB : B ≤ w.heap.size)
    (h : ∀ v' w', w'.ownsRow B 119 65 v' (n + 1) ((pe ++ [e]).flatMap wc) → w.grownBy w' v.ownBlock → (∀ k, v'.ownBlock = some k → v.ownBlock = some k ∨ w.heap.size ≤ k) → K (a.put o.dst v') w') : o.wp Try.prog a w K Q := by
  obtain ⟨i, h1, h2, h3, h4⟩ := info_wr
  obtain ⟨v', w', hr, k2, k3, k4⟩ := run_append_where (P := Try.prog) w B 81 o.type 119 i _ 65 72 Try.underlying81 h1 h2 h3 h4 (by simp [wrv, Value.cells, wc_len]) (by decide) v n _ hown ⟨G, 0, none⟩ 1 1 (wc e) (by simp [wc_len]) (fun j u hu => by rw [Addr.add_lit, Nat.zero_add, hG.cell]; exact hu) (wc_one e) (by unfold maxLen; omega) (by omega) hB
  unfold Oper.wp execOp
  simp only [ho, resolve, invoke, builtin, Sem.run_bind, Sem.run_pure, Result.andThen_ok, List.map_toArray, List.map_cons, List.map_nil, hx, hy, hr]
  exact h v' w' (by rw [List.flatMap_append, List.flatMap_cons, List.flatMap_nil, List.append_nil]; exact k2) k3 k4
/-- Ahead of the last store: the new list of what is pending lies there. -/
def Put (B : Nat) (S : Nat → Prop) (w1 w : World) (g : Nat) (vs vp v : Value) (d : Dsk) (x : Wr) : Prop :=
  Blk w g 83 [vs, vp, .bool d.dn, .int .i64 d.lf] ∧ w.ownsRow B 70 64 vs d.st.length (d.st.flatMap sc) ∧ w.ownsRow B 119 65 v (d.pe.length + 1) ((d.pe ++ [x]).flatMap wc) ∧
    (∀ k, v.ownBlock = some k → vp.ownBlock = some k ∨ w1.heap.size ≤ k) ∧ Fr S w1 w
theorem put_mid {B g : Nat} {S : Nat → Prop} {w1 w w' : World} {vs vp v : Value} {d : Dsk} {x : Wr} (h : Dkv B S w g vs vp d) (hb : Below w1.heap.size w1 w) (ho : w'.ownsRow B 119 65 v (d.pe.length + 1) ((d.pe ++ [x]).flatMap wc)) (hg : w.grownBy w' vp.ownBlock) (hl : ∀ k, v.ownBlock = some k → vp.ownBlock = some k ∨ w.heap.size ≤ k) : Put B S w1 w' g vs vp v d x := by
  obtain ⟨h1, h2, h3, h4, h5, h6, h7⟩ := h
  refine ⟨h1.kept hg (fun q => (h6 g q.symm).2.1 rfl), h2.kept hg ?_, ho, fun k hk => ?_, (Fr.of_below hb S).trans (Fr.of_grown hg (fun k hk => (h6 k hk).1)) (fun _ h => .inl h)⟩
  · cases hv : vs.ownBlock with
    | none => exact .inl rfl
    | some b => exact .inr fun q => (h6 b q.symm).2.2 hv
  · rcases hl k hk with h | h
    · exact .inl h
    · exact .inr (by have := hb.size; omega)
theorem Put.below {B g : Nat} {S : Nat → Prop} {w1 w w' : World} {vs vp v : Value} {d : Dsk} {x : Wr} (h : Put B S w1 w g vs vp v d x) (hb : Below w.heap.size w w') : Put B S w1 w' g vs vp v d x :=
  ⟨h.1.below hb, own_below h.2.1 hb, own_below h.2.2.1 hb, h.2.2.2.1, h.2.2.2.2.trans (Fr.of_below hb S) (fun _ h => .inl h)⟩
theorem Put.slice {B g : Nat} {S : Nat → Prop} {w1 w : World} {vs vp v : Value} {d : Dsk} {x : Wr} (h : Put B S w1 w g vs vp v d x) : ∃ p n c, v = .slice p n c := by
  rcases h.2.2.1.2 with ⟨rfl, _⟩ | ⟨g, cap, cur, rfl, _⟩
  · exact ⟨_, _, _, rfl⟩
  · exact ⟨_, _, _, rfl⟩
theorem put_done {B g : Nat} {S : Nat → Prop} {w1 w : World} {vs vp v : Value} {d : Dsk} {x : Wr} (h0 : Dkv B S w1 g vs vp d) (h : Put B S w1 w g vs vp v d x) : Went B S w1 (w.setCell ⟨g, 1, none⟩ v) g { d with pe := d.pe ++ [x] } := by
  obtain ⟨-, -, -, g4, g5, g6, g7⟩ := h0
  obtain ⟨h1, h2, h3, h4, h5⟩ := h
  have hgr := only_put w ⟨g, 1, none⟩ v
  refine ⟨fun k => S k ∨ (w1.heap.size ≤ k ∧ k < w.heap.size), ⟨vs, v, h1.put 1 v, ?_, ?_, .inl g4, fun b hb => ⟨.inl (g5 b hb).1, (g5 b hb).2⟩, fun b hb => ?_, fun k hk => ?_⟩, h5.trans (Fr.of_grown hgr (fun j hj => by simp at hj; subst hj; exact g4)) (fun _ h => .inl h), fun k hk => ?_⟩
  · exact h2.kept hgr (.inr fun q => (g5 g q).2 rfl)
  · simp only [List.length_append, List.length_cons, List.length_nil, Nat.zero_add]
    refine h3.kept hgr (.inr fun q => ?_)
    rcases h4 g q with h | h
    · exact (g6 g h).2.1 rfl
    · have := (g7 g g4).2; omega
  · have hlt := (h3.lt b hb).2
    rcases h4 b hb with h | h
    · exact ⟨.inl (g6 b h).1, (g6 b h).2.1, (g6 b h).2.2⟩
    · refine ⟨.inr ⟨h, hlt⟩, by have := (g7 g g4).2; omega, fun q => ?_⟩
      have := (g7 b (g5 b q).1).2
      omega
  · rcases hk with hk | ⟨hk, hk2⟩
    · exact ⟨(g7 k hk).1, by have := (g7 k hk).2; have := h5.size; simp; omega⟩
    · exact ⟨by have := (g7 g g4).1; have := (g7 g g4).2; omega, by simpa using hk2⟩
  · rcases hk with hk | ⟨hk, _⟩
    · exact .inl hk
    · exact .inr hk
set_option maxHeartbeats 1000000 in
theorem write_any {S : Nat → Prop} {B g : Nat} {w : World} {d : Dsk} (h : Dk B S w g d) (hd : d.ok) (i : Int) (s : Sec) :
    Calls Try.prog 65 #[.pointer (some ⟨g, 0, none⟩), .int .i64 i, secv s] w fun e w' => e = .returned (.int .i64 (d.putE i)) ∧ Went B S w w' g (d.put i s) := by
  have hBw : B ≤ w.heap.size := by
    obtain ⟨vs, vp, h1, _, _, h4, _, _, h7⟩ := h
    have := h7 g h4
    omega
  cases hh : has d.st.length i with
  | false =>
    have e1 : d.putE i = 71 := by simp [Dsk.putE, hh]
    have e2 : d.put i s = d := by simp [Dsk.put, hh]
    rw [e1, e2]
    go_enter Try.func65, Try.ntmps65
    go_wp2_with (first
      | ((refine at_box_sec _ _ (by rfl) (by rfl) (by rfl) ?_); intro W hW hB hz; have hDW := h.below hB)
      | ((with_reducible refine (has_any hDW _).mono ?_); rintro e w1 ⟨rfl, rfl⟩; rw [hh]))
    go_ret
    exact ⟨rfl, Went.keep h hB⟩
  | true =>
    cases hno : d.no with
    | true =>
      have e1 : d.putE i = 72 := by simp [Dsk.putE, Dsk.err, hh, hno]
      have e2 : d.put i s = d.acted := by simp [Dsk.put, hh, hno]
      have e3 : d.err = 72 := by simp [Dsk.err, hno]
      rw [e1, e2]
      go_enter Try.func65, Try.ntmps65
      go_wp2_with (first
        | ((refine at_box_sec _ _ (by rfl) (by rfl) (by rfl) ?_); intro W hW hB hz; have hDW := h.below hB)
        | ((with_reducible refine (has_any hDW _).mono ?_); rintro e w1 ⟨rfl, rfl⟩; rw [hh])
        | ((with_reducible refine (act_any hDW hd).mono ?_); rintro e w1 ⟨rfl, hW1⟩; rw [e3]))
      go_ret
      exact ⟨rfl, Went.trans (Fr.of_below hB S) (fun _ h => .inl h) hW1⟩
    | false =>
      have e1 : d.putE i = 0 := by simp [Dsk.putE, Dsk.err, hh, hno]
      have e2 : d.put i s = { d.acted with pe := d.acted.pe ++ [(i, s)] } := by simp [Dsk.put, hh, hno, acted_pe]
      have e3 : d.err = 0 := by simp [Dsk.err, hno]
      have hd1 := acted_ok hd
      rw [e1, e2]
      obtain ⟨d1, hd1'⟩ : ∃ d1, d1 = d.acted := ⟨_, rfl⟩
      have hact : ∀ {W : World}, Dk B S W g d → Calls Try.prog 68 #[.pointer (some ⟨g, 0, none⟩)] W fun e w' => e = .returned (.int .i64 0) ∧ Went B S W w' g d1 := fun hDW => by
        have := act_any hDW hd
        rw [e3, ← hd1'] at this
        exact this
      rw [← hd1'] at hd1 ⊢
      have hpl1 := hd1.2.1
      clear hd1' e3 e1 e2
      go_enter Try.func65, Try.ntmps65
      go_wp2_with (first
        | ((refine at_box_sec _ _ (by rfl) (by rfl) (by rfl) ?_); intro W hW hB hz; have hDW := h.below hB)
        | ((with_reducible refine (has_any hDW _).mono ?_); rintro e w1 ⟨rfl, rfl⟩; rw [hh])
        | ((with_reducible refine (hact hDW).mono ?_); rintro e w1 ⟨rfl, S1, ⟨vs, vp, hD1⟩, hF1, hS1⟩))
      have hW1 : Blk w1 w.heap.size 70 (sc s) := hF1.blk hW (fun q => by have := h.lt _ q; omega)
      have hG0 : ¬ S1 w.heap.size := fun q => by
        rcases hS1 _ q with q | q
        · have := h.lt _ q; omega
        · have := hz.out; omega
      have hw1 : B ≤ w1.heap.size := by have := hF1.size; have := hB.size; omega
      refine Inv.region_inv (fun L a w' => ∃ (v9 : Value) (GX : Nat), a = { tmps := #[(.pointer (some ⟨g, 0, none⟩)), (.int .i64 i), (secv s), undef, undef, (.pointer (some ⟨w.heap.size, 0, none⟩)), (.int .i64 0), (.int .i64 0), (.pointer (some ⟨g, 0, none⟩)), (.int .i64 i), (.bool true), (.bool false), (.pointer (some ⟨g, 0, none⟩)), (.int .i64 0), (.int .i64 0), (.bool false), undef, (if L 0 = true then (.pointer (some ⟨g, 0, none⟩)) else undef), (if L 1 = true then (.pointer (some ⟨g, 0, none⟩)) else undef), (if L 2 = true then (.pointer (some ⟨g, 0, none⟩)) else undef), (if L 3 = true then (.pointer (some ⟨g, 1, none⟩)) else undef), (if L 4 = true then vp else undef), (if L 5 = true then (.int .i64 i) else undef), (if L 6 = true then (secv s) else undef), (if L 7 = true then (wrv (i, s)) else undef), (if L 8 = true then (.slice (some ⟨GX, 0, none⟩) 1 1) else undef), (if L 9 = true then v9 else undef), (if L 10 = true then (.pointer (some ⟨g, 0, none⟩)) else undef), (if L 11 = true then (.pointer (some ⟨g, 1, none⟩)) else undef)], defers := [] } ∧ ((L 9 = true ∧ L 12 = false ∧ Put B S1 w1 w' g vs vp v9 d1 (i, s)) ∨ (L 4 = true ∧ L 6 = true ∧ L 8 = true ∧ L 9 = true ∧ L 12 = true ∧ ∃ V2, Put B S1 w1 V2 g vs vp v9 d1 (i, s) ∧ w' = V2.setCell ⟨g, 1, none⟩ v9) ∨ (L 9 = false ∧ L 12 = false ∧ (Dkv B S1 w' g vs vp d1 ∧ Below w1.heap.size w1 w' ∧ Blk w' w.heap.size 70 (sc s)) ∧ (L 8 = true → Blk w' GX 119 (wc (i, s)))))) (by kernel_rfl) (by kernel_rfl) ?h0 ?step ?done
      case h0 => exact ⟨undef, 0, by simp, .inr (.inr ⟨by simp, by simp, ⟨hD1.below ((Below.refl _ _).drew), (Below.refl _ _).drew, hW1.drew⟩, by simp⟩)⟩
      case step =>
        refine Inv.Steps.cons rfl ?_ ?_
        · intro L a w' hI hL hd K hK
          obtain ⟨v9, GX, rfl, hI⟩ := hI
          clear hd
          rw [if_pos (by rfl)]
          rcases hI with ⟨h9, h12, hT⟩ | ⟨h4, h6, h8, h9, h12, V2, hT, hV⟩ | ⟨h9, h12, ⟨hD, hB, hS⟩, h8⟩
          · replace h9 : Hid (L 9 = true) := h9
            replace h12 : Hid (L 12 = false) := h12
            go_simp
            exact hK.out _ _ ⟨v9, GX, by simp, .inl ⟨by simpa using h9.out, by simpa using h12.out, hT⟩⟩
          · replace h4 : Hid (L 4 = true) := h4
            replace h6 : Hid (L 6 = true) := h6
            replace h8 : Hid (L 8 = true) := h8
            replace h9 : Hid (L 9 = true) := h9
            replace h12 : Hid (L 12 = true) := h12
            replace hV : Hid (w' = V2.setCell ⟨g, 1, none⟩ v9) := hV
            go_simp
            exact hK.out _ _ ⟨v9, GX, by simp, .inr (.inl ⟨by simpa using h4.out, by simpa using h6.out, by simpa using h8.out, by simpa using h9.out, by simpa using h12.out, V2, hT, hV.out⟩)⟩
          · replace h9 : Hid (L 9 = false) := h9
            replace h12 : Hid (L 12 = false) := h12
            replace h8 : Hid (L 8 = true → Blk w' GX 119 (wc (i, s))) := h8
            go_simp
            exact hK.out _ _ ⟨v9, GX, by simp, .inr (.inr ⟨by simpa using h9.out, by simpa using h12.out, ⟨hD, hB, hS⟩, by simpa using h8.out⟩)⟩
        refine Inv.Steps.cons rfl ?_ ?_
        · intro L a w' hI hL hd K hK
          obtain ⟨v9, GX, rfl, hI⟩ := hI
          clear hd
          rw [if_pos (by rfl)]
          rcases hI with ⟨h9, h12, hT⟩ | ⟨h4, h6, h8, h9, h12, V2, hT, hV⟩ | ⟨h9, h12, ⟨hD, hB, hS⟩, h8⟩
          · replace h9 : Hid (L 9 = true) := h9
            replace h12 : Hid (L 12 = false) := h12
            go_simp
            exact hK.out _ _ ⟨v9, GX, by simp, .inl ⟨by simpa using h9.out, by simpa using h12.out, hT⟩⟩
          · replace h4 : Hid (L 4 = true) := h4
            replace h6 : Hid (L 6 = true) := h6
            replace h8 : Hid (L 8 = true) := h8
            replace h9 : Hid (L 9 = true) := h9
            replace h12 : Hid (L 12 = true) := h12
            replace hV : Hid (w' = V2.setCell ⟨g, 1, none⟩ v9) := hV
            go_simp
            exact hK.out _ _ ⟨v9, GX, by simp, .inr (.inl ⟨by simpa using h4.out, by simpa using h6.out, by simpa using h8.out, by simpa using h9.out, by simpa using h12.out, V2, hT, hV.out⟩)⟩
          · replace h9 : Hid (L 9 = false) := h9
            replace h12 : Hid (L 12 = false) := h12
            replace h8 : Hid (L 8 = true → Blk w' GX 119 (wc (i, s))) := h8
            go_simp
            exact hK.out _ _ ⟨v9, GX, by simp, .inr (.inr ⟨by simpa using h9.out, by simpa using h12.out, ⟨hD, hB, hS⟩, by simpa using h8.out⟩)⟩
        refine Inv.Steps.cons rfl ?_ ?_
        · intro L a w' hI hL hd K hK
          obtain ⟨v9, GX, rfl, hI⟩ := hI
          simp [Region.binds] at hd
          simp only [hd, if_true]
          rw [if_pos (by rfl)]
          rcases hI with ⟨h9, h12, hT⟩ | ⟨h4, h6, h8, h9, h12, V2, hT, hV⟩ | ⟨h9, h12, ⟨hD, hB, hS⟩, h8⟩
          · replace h9 : Hid (L 9 = true) := h9
            replace h12 : Hid (L 12 = false) := h12
            go_simp
            exact hK.out _ _ ⟨v9, GX, by simp [hd], .inl ⟨by simpa using h9.out, by simpa using h12.out, hT⟩⟩
          · replace h4 : Hid (L 4 = true) := h4
            replace h6 : Hid (L 6 = true) := h6
            replace h8 : Hid (L 8 = true) := h8
            replace h9 : Hid (L 9 = true) := h9
            replace h12 : Hid (L 12 = true) := h12
            replace hV : Hid (w' = V2.setCell ⟨g, 1, none⟩ v9) := hV
            go_simp
            exact hK.out _ _ ⟨v9, GX, by simp [hd], .inr (.inl ⟨by simpa using h4.out, by simpa using h6.out, by simpa using h8.out, by simpa using h9.out, by simpa using h12.out, V2, hT, hV.out⟩)⟩
          · replace h9 : Hid (L 9 = false) := h9
            replace h12 : Hid (L 12 = false) := h12
            replace h8 : Hid (L 8 = true → Blk w' GX 119 (wc (i, s))) := h8
            go_simp
            exact hK.out _ _ ⟨v9, GX, by simp [hd], .inr (.inr ⟨by simpa using h9.out, by simpa using h12.out, ⟨hD, hB, hS⟩, by simpa using h8.out⟩)⟩
        refine Inv.Steps.cons rfl ?_ ?_
        · intro L a w' hI hL hd K hK
          obtain ⟨v9, GX, rfl, hI⟩ := hI
          simp [Region.binds] at hd
          simp only [hd, if_true]
          rw [if_pos (by rfl)]
          rcases hI with ⟨h9, h12, hT⟩ | ⟨h4, h6, h8, h9, h12, V2, hT, hV⟩ | ⟨h9, h12, ⟨hD, hB, hS⟩, h8⟩
          · replace h9 : Hid (L 9 = true) := h9
            replace h12 : Hid (L 12 = false) := h12
            go_simp
            exact hK.out _ _ ⟨v9, GX, by simp [hd], .inl ⟨by simpa using h9.out, by simpa using h12.out, hT⟩⟩
          · replace h4 : Hid (L 4 = true) := h4
            replace h6 : Hid (L 6 = true) := h6
            replace h8 : Hid (L 8 = true) := h8
            replace h9 : Hid (L 9 = true) := h9
            replace h12 : Hid (L 12 = true) := h12
            replace hV : Hid (w' = V2.setCell ⟨g, 1, none⟩ v9) := hV
            go_simp
            exact hK.out _ _ ⟨v9, GX, by simp [hd], .inr (.inl ⟨by simpa using h4.out, by simpa using h6.out, by simpa using h8.out, by simpa using h9.out, by simpa using h12.out, V2, hT, hV.out⟩)⟩
          · replace h9 : Hid (L 9 = false) := h9
            replace h12 : Hid (L 12 = false) := h12
            replace h8 : Hid (L 8 = true → Blk w' GX 119 (wc (i, s))) := h8
            go_simp
            exact hK.out _ _ ⟨v9, GX, by simp [hd], .inr (.inr ⟨by simpa using h9.out, by simpa using h12.out, ⟨hD, hB, hS⟩, by simpa using h8.out⟩)⟩
        refine Inv.Steps.cons rfl ?_ ?_
        · intro L a w' hI hL hd K hK
          obtain ⟨v9, GX, rfl, hI⟩ := hI
          simp [Region.binds] at hd
          simp only [hd, if_true]
          rw [if_pos (by rfl)]
          rcases hI with ⟨h9, h12, hT⟩ | ⟨h4, h6, h8, h9, h12, V2, hT, hV⟩ | ⟨h9, h12, ⟨hD, hB, hS⟩, h8⟩
          · replace h9 : Hid (L 9 = true) := h9
            replace h12 : Hid (L 12 = false) := h12
            have hc := hT.1.cell
            go_simp
            exact hK.out _ _ ⟨v9, GX, by simp [hd], .inl ⟨by simpa using h9.out, by simpa using h12.out, hT⟩⟩
          · simp [hL] at h4
          · replace h9 : Hid (L 9 = false) := h9
            replace h12 : Hid (L 12 = false) := h12
            replace h8 : Hid (L 8 = true → Blk w' GX 119 (wc (i, s))) := h8
            have hc := hD.1.cell
            go_simp
            exact hK.out _ _ ⟨v9, GX, by simp [hd], .inr (.inr ⟨by simpa using h9.out, by simpa using h12.out, ⟨hD, hB, hS⟩, by simpa using h8.out⟩)⟩
        refine Inv.Steps.cons rfl ?_ ?_
        · intro L a w' hI hL hd K hK
          obtain ⟨v9, GX, rfl, hI⟩ := hI
          clear hd
          rw [if_pos (by rfl)]
          rcases hI with ⟨h9, h12, hT⟩ | ⟨h4, h6, h8, h9, h12, V2, hT, hV⟩ | ⟨h9, h12, ⟨hD, hB, hS⟩, h8⟩
          · replace h9 : Hid (L 9 = true) := h9
            replace h12 : Hid (L 12 = false) := h12
            go_simp
            exact hK.out _ _ ⟨v9, GX, by simp, .inl ⟨by simpa using h9.out, by simpa using h12.out, hT⟩⟩
          · replace h4 : Hid (L 4 = true) := h4
            replace h6 : Hid (L 6 = true) := h6
            replace h8 : Hid (L 8 = true) := h8
            replace h9 : Hid (L 9 = true) := h9
            replace h12 : Hid (L 12 = true) := h12
            replace hV : Hid (w' = V2.setCell ⟨g, 1, none⟩ v9) := hV
            go_simp
            exact hK.out _ _ ⟨v9, GX, by simp, .inr (.inl ⟨by simpa using h4.out, by simpa using h6.out, by simpa using h8.out, by simpa using h9.out, by simpa using h12.out, V2, hT, hV.out⟩)⟩
          · replace h9 : Hid (L 9 = false) := h9
            replace h12 : Hid (L 12 = false) := h12
            replace h8 : Hid (L 8 = true → Blk w' GX 119 (wc (i, s))) := h8
            go_simp
            exact hK.out _ _ ⟨v9, GX, by simp, .inr (.inr ⟨by simpa using h9.out, by simpa using h12.out, ⟨hD, hB, hS⟩, by simpa using h8.out⟩)⟩
        refine Inv.Steps.cons rfl ?_ ?_
        · intro L a w' hI hL hd K hK
          obtain ⟨v9, GX, rfl, hI⟩ := hI
          clear hd
          rw [if_pos (by rfl)]
          rcases hI with ⟨h9, h12, hT⟩ | ⟨h4, h6, h8, h9, h12, V2, hT, hV⟩ | ⟨h9, h12, ⟨hD, hB, hS⟩, h8⟩
          · replace h9 : Hid (L 9 = true) := h9
            replace h12 : Hid (L 12 = false) := h12
            refine wp_load_sec _ _ _ _ (by rfl) (by rfl) (blk_sec (hT.2.2.2.2.blk hW1 hG0)) ?_
            exact hK.out _ _ ⟨v9, GX, by simp [Act.put], .inl ⟨by simpa using h9.out, by simpa using h12.out, hT⟩⟩
          · simp [hL] at h6
          · replace h9 : Hid (L 9 = false) := h9
            replace h12 : Hid (L 12 = false) := h12
            replace h8 : Hid (L 8 = true → Blk w' GX 119 (wc (i, s))) := h8
            refine wp_load_sec _ _ _ _ (by rfl) (by rfl) (blk_sec hS) ?_
            exact hK.out _ _ ⟨v9, GX, by simp [Act.put], .inr (.inr ⟨by simpa using h9.out, by simpa using h12.out, ⟨hD, hB, hS⟩, by simpa using h8.out⟩)⟩
        refine Inv.Steps.cons rfl ?_ ?_
        · intro L a w' hI hL hd K hK
          obtain ⟨v9, GX, rfl, hI⟩ := hI
          simp [Region.binds] at hd
          simp only [hd, if_true]
          rw [if_pos (by rfl)]
          rcases hI with ⟨h9, h12, hT⟩ | ⟨h4, h6, h8, h9, h12, V2, hT, hV⟩ | ⟨h9, h12, ⟨hD, hB, hS⟩, h8⟩
          · replace h9 : Hid (L 9 = true) := h9
            replace h12 : Hid (L 12 = false) := h12
            refine wp_buildw _ _ _ _ (by rfl) (by rfl) (by rfl) ?_
            exact hK.out _ _ ⟨v9, GX, by simp [hd, Act.put], .inl ⟨by simpa using h9.out, by simpa using h12.out, hT⟩⟩
          · replace h4 : Hid (L 4 = true) := h4
            replace h6 : Hid (L 6 = true) := h6
            replace h8 : Hid (L 8 = true) := h8
            replace h9 : Hid (L 9 = true) := h9
            replace h12 : Hid (L 12 = true) := h12
            replace hV : Hid (w' = V2.setCell ⟨g, 1, none⟩ v9) := hV
            refine wp_buildw _ _ _ _ (by rfl) (by rfl) (by rfl) ?_
            exact hK.out _ _ ⟨v9, GX, by simp [hd, Act.put], .inr (.inl ⟨by simpa using h4.out, by simpa using h6.out, by simpa using h8.out, by simpa using h9.out, by simpa using h12.out, V2, hT, hV.out⟩)⟩
          · replace h9 : Hid (L 9 = false) := h9
            replace h12 : Hid (L 12 = false) := h12
            replace h8 : Hid (L 8 = true → Blk w' GX 119 (wc (i, s))) := h8
            refine wp_buildw _ _ _ _ (by rfl) (by rfl) (by rfl) ?_
            exact hK.out _ _ ⟨v9, GX, by simp [hd, Act.put], .inr (.inr ⟨by simpa using h9.out, by simpa using h12.out, ⟨hD, hB, hS⟩, by simpa using h8.out⟩)⟩
        refine Inv.Steps.cons rfl ?_ ?_
        · intro L a w' hI hL hd K hK
          obtain ⟨v9, GX, rfl, hI⟩ := hI
          simp [Region.binds] at hd
          simp only [hd, if_true]
          rw [if_pos (by rfl)]
          rcases hI with ⟨h9, h12, hT⟩ | ⟨h4, h6, h8, h9, h12, V2, hT, hV⟩ | ⟨h9, h12, ⟨hD, hB, hS⟩, h8⟩
          · replace h9 : Hid (L 9 = true) := h9
            replace h12 : Hid (L 12 = false) := h12
            refine wp_litw _ _ (by rfl) (by rfl) ?_
            intro w6 hX6 hB6 hz6
            exact hK.out _ _ ⟨v9, w'.heap.size, by simp [hd, hL, Act.put], .inl ⟨by simpa using h9.out, by simpa using h12.out, hT.below hB6⟩⟩
          · simp [hL] at h8
          · replace h9 : Hid (L 9 = false) := h9
            replace h12 : Hid (L 12 = false) := h12
            replace h8 : Hid (L 8 = true → Blk w' GX 119 (wc (i, s))) := h8
            refine wp_litw _ _ (by rfl) (by rfl) ?_
            intro w6 hX6 hB6 hz6
            exact hK.out _ _ ⟨v9, w'.heap.size, by simp [hd, hL, Act.put], .inr (.inr ⟨by simpa using h9.out, by simpa using h12.out, ⟨hD.below hB6, bnext hB hB6, hS.below hB6⟩, fun _ => hX6⟩)⟩
        refine Inv.Steps.cons rfl ?_ ?_
        · intro L a w' hI hL hd K hK
          obtain ⟨v9, GX, rfl, hI⟩ := hI
          simp [Region.binds] at hd
          simp only [hd, if_true]
          rw [if_pos (by rfl)]
          rcases hI with ⟨h9, h12, hT⟩ | ⟨h4, h6, h8, h9, h12, V2, hT, hV⟩ | ⟨h9, h12, ⟨hD, hB, hS⟩, h8⟩
          · simp [hL] at h9
          · simp [hL] at h9
          · replace h9 : Hid (L 9 = false) := h9
            replace h12 : Hid (L 12 = false) := h12
            replace h8 : Hid (L 8 = true → Blk w' GX 119 (wc (i, s))) := h8
            refine wp_app_wr _ _ B vp d1.pe.length d1.pe GX (i, s) (by rfl) (by rfl) (by rfl) (hD.2.2.1) (h8.out (by simp [hd])) hpl1 (by have := hB.size; omega) ?_
            intro v6 w6 ho6 hg6 hl6
            exact hK.out _ _ ⟨v6, GX, by simp [hd, hL, Act.put], .inl ⟨by simp, by simpa using h12.out, put_mid hD hB ho6 hg6 hl6⟩⟩
        refine Inv.Steps.cons rfl ?_ ?_
        · intro L a w' hI hL hd K hK
          obtain ⟨v9, GX, rfl, hI⟩ := hI
          simp [Region.binds] at hd
          simp only [hd, if_true]
          rw [if_pos (by rfl)]
          rcases hI with ⟨h9, h12, hT⟩ | ⟨h4, h6, h8, h9, h12, V2, hT, hV⟩ | ⟨h9, h12, ⟨hD, hB, hS⟩, h8⟩
          · replace h9 : Hid (L 9 = true) := h9
            replace h12 : Hid (L 12 = false) := h12
            go_simp
            exact hK.out _ _ ⟨v9, GX, by simp [hd], .inl ⟨by simpa using h9.out, by simpa using h12.out, hT⟩⟩
          · replace h4 : Hid (L 4 = true) := h4
            replace h6 : Hid (L 6 = true) := h6
            replace h8 : Hid (L 8 = true) := h8
            replace h9 : Hid (L 9 = true) := h9
            replace h12 : Hid (L 12 = true) := h12
            replace hV : Hid (w' = V2.setCell ⟨g, 1, none⟩ v9) := hV
            go_simp
            exact hK.out _ _ ⟨v9, GX, by simp [hd], .inr (.inl ⟨by simpa using h4.out, by simpa using h6.out, by simpa using h8.out, by simpa using h9.out, by simpa using h12.out, V2, hT, hV.out⟩)⟩
          · simp [hd] at h9
        refine Inv.Steps.cons rfl ?_ ?_
        · intro L a w' hI hL hd K hK
          obtain ⟨v9, GX, rfl, hI⟩ := hI
          simp [Region.binds] at hd
          simp only [hd, if_true]
          rw [if_pos (by rfl)]
          rcases hI with ⟨h9, h12, hT⟩ | ⟨h4, h6, h8, h9, h12, V2, hT, hV⟩ | ⟨h9, h12, ⟨hD, hB, hS⟩, h8⟩
          · replace h9 : Hid (L 9 = true) := h9
            replace h12 : Hid (L 12 = false) := h12
            go_simp
            exact hK.out _ _ ⟨v9, GX, by simp [hd], .inl ⟨by simpa using h9.out, by simpa using h12.out, hT⟩⟩
          · replace h4 : Hid (L 4 = true) := h4
            replace h6 : Hid (L 6 = true) := h6
            replace h8 : Hid (L 8 = true) := h8
            replace h9 : Hid (L 9 = true) := h9
            replace h12 : Hid (L 12 = true) := h12
            replace hV : Hid (w' = V2.setCell ⟨g, 1, none⟩ v9) := hV
            go_simp
            exact hK.out _ _ ⟨v9, GX, by simp [hd], .inr (.inl ⟨by simpa using h4.out, by simpa using h6.out, by simpa using h8.out, by simpa using h9.out, by simpa using h12.out, V2, hT, hV.out⟩)⟩
          · simp [hd] at h9
        refine Inv.Steps.cons rfl ?_ ?_
        · intro L a w' hI hL hd K hK
          obtain ⟨v9, GX, rfl, hI⟩ := hI
          simp [Region.binds] at hd
          simp only [hd, if_true]
          rw [if_pos (by rfl)]
          rcases hI with ⟨h9, h12, hT⟩ | ⟨h4, h6, h8, h9, h12, V2, hT, hV⟩ | ⟨h9, h12, ⟨hD, hB, hS⟩, h8⟩
          · replace h9 : Hid (L 9 = true) := h9
            replace h12 : Hid (L 12 = false) := h12
            have hc := hT.1.cell
            have hz := hT.1.frozen
            obtain ⟨p9, n9, c9, rfl⟩ := hT.slice
            go_simp
            exact hK.out _ _ ⟨.slice p9 n9 c9, GX, by simp [hd], .inr (.inl ⟨by simp [hd], by simp [hd], by simp [hd], by simp [hd], by simp, w', hT, rfl⟩)⟩
          · simp [hL] at h12
          · simp [hd] at h9
        exact Inv.Steps.nil (by decide)
      case done =>
        intro L a w' hI hall
        obtain ⟨v9, GX, rfl, hI⟩ := hI
        simp only [hall, if_true] at hI ⊢
        rcases hI with ⟨_, h12, _⟩ | ⟨_, _, _, _, _, W2, hT, rfl⟩ | ⟨h9, _⟩
        · simp at h12
        rotate_left
        · simp at h9
        obtain ⟨S2, hD2, hF2, hS2⟩ := put_done hD1 hT
        go_wp2
        go_ret
        exact ⟨rfl, Went.trans (Fr.of_below hB S) (fun _ h => .inl h) (Went.trans hF1 hS1 ⟨S2, hD2, hF2, hS2⟩)⟩
end Go.Proofs.Ythgafnommcodcaa.Disk
