/-
  The document's log: Append. (Written by gen_wref4.py.)
-/
import Derived.Test.YthgafnommcodcaaWalRef2
import Derived.Test.YthgafnommcodcaaDiskAgree
import Derived.Test.YthgafnommcodcaaInvB
namespace Go.Proofs.Ythgafnommcodcaa.Wal
open Go.RowKit Go.Proofs.Ythgafnommcodcaa.Mem Go.Proofs.Ythgafnommcodcaa.Sect Go.Proofs.Ythgafnommcodcaa.Frame Go.Proofs.Ythgafnommcodcaa.Disk Go.Proofs.Ythgafnommcodcaa.Area
set_option maxRecDepth 100000

/-- Sectors one behind the other, up to the first error, as the document writes them. -/
def rwrites : Rfd → Nat → List Sec → Rfd × Int
  | r, _, [] => (r, 0)
  | r, i, s :: l => if r.putE i = 0 then rwrites (r.put i s) (i + 1) l else (r.put i s, r.putE i)
theorem rwrites_yes {r : Rfd} {i : Nat} (s : Sec) (l : List Sec) (h : r.putE i = 0) : rwrites r i (s :: l) = rwrites (r.put i s) (i + 1) l := by rw [rwrites, if_pos h]
theorem rwrites_no {r : Rfd} {i : Nat} (s : Sec) (l : List Sec) (h : r.putE i ≠ 0) : rwrites r i (s :: l) = (r.put i s, r.putE i) := by rw [rwrites, if_neg h]
theorem ag_writes : ∀ (l : List Sec) (d : Dsk) (r : Rfd) (i : Nat), Agree d r → r.ok → r.pe.length + l.length ≤ 1000 → Agree (writes d i l).1 (rwrites r i l).1 ∧ (writes d i l).2 = (rwrites r i l).2 ∧ (rwrites r i l).1.ok
  | [], _, _, _, h, ho, _ => ⟨h, rfl, ho⟩
  | s :: l, d, r, i, h, ho, hl => by
    simp only [List.length_cons] at hl
    obtain ⟨h1, h2⟩ := ag_put h ho (i : Int) s
    have hok := rput_ok ho (i : Int) s (by omega)
    have hpe : (r.put (i : Int) s).pe.length ≤ r.pe.length + 1 := by
      have := (put_len d (i : Int) s).1
      rw [h.2.1] at this
      rw [← h1.2.1]
      exact this
    unfold writes rwrites
    rw [h2]
    by_cases h0 : r.putE i = 0
    · rw [if_pos h0, if_pos h0]
      exact ag_writes l _ _ (i + 1) h1 hok (by omega)
    · rw [if_neg h0, if_neg h0]
      exact ⟨h1, rfl, hok⟩
theorem results_cells_four {fn : Func} {x y u v : Tmp} {s t : TypeId} (h : fn.results = #[.cell x s, .cell y t, .tmp u, .tmp v]) (tmps : Array Value) (P : Program) (w : World) :
    (results fn tmps).run P w = ((asAddr (tmps.getD x undef)).run P w).andThen fun a w1 => ((loadVar s a).run P w1).andThen fun z w2 => ((asAddr (tmps.getD y undef)).run P w2).andThen fun b w3 => ((loadVar t b).run P w3).andThen fun z2 w4 => .ok (.tuple #[z, z2, tmps.getD u undef, tmps.getD v undef]) w4 := by
  simp only [results, h]
  simp [Sem.run_bind, Result.andThen]
/-- Four results, a log and a disk ahead. -/
theorem ret_four {fn : Func} {x y u v : Tmp} {R : Ending → World → Prop} {a : Act} {w : World} (h : fn.results = #[.cell x 42, .cell y 39, .tmp u, .tmp v]) (hd : a.defers = []) (g k : Nat) (l : RLg) (r : Rfd) (p : Option Addr) (c : Nat) (q : Option Addr) (e : Nat)
    (hp : a.tmps.getD x undef = .pointer (some ⟨g, 0, none⟩)) (hk : a.tmps.getD y undef = .pointer (some ⟨k, 0, none⟩)) (hb : Blk w g 42 (ll l)) (hc : Blk w k 39 (rl r p c q e))
    (hR : R (.returned (.tuple #[lv l, rv r p c q e, a.tmps.getD u undef, a.tmps.getD v undef])) w) : bodyPost Try.prog fn R .ret a w := by
  refine bodyPost_ret (v := .tuple #[lv l, rv r p c q e, a.tmps.getD u undef, a.tmps.getD v undef]) ?_ hd hR
  have h1 := run_loadVar_row (P := Try.prog) w g 42 42 (ll l).toArray (0, 0) _ hb Try.underlying42 rfl size_ll
  have h2 := run_loadVar_row (P := Try.prog) w k 39 39 (rl r p c q e).toArray (0, 0) _ hc Try.underlying39 rfl size_rd
  rw [results_cells_four h, hp, hk]
  simp only [asAddr, Sem.run_pure, Result.andThen_ok, h1, h2]
  rfl
/-- On the way back: the log and the disk that are handed back, stored or not yet. -/
def Four (w V W : World) (a b g k : Nat) (l : RLg) (r : Rfd) (p : Option Addr) (c : Nat) (q : Option Addr) (e : Nat) (x y : Bool) : Prop :=
  Blk W a 42 (ll l) ∧ Blk W b 39 (rl r p c q e) ∧ (∃ cs, Blk W g 42 cs ∧ cs.length = 5 ∧ (x = true → cs = ll l)) ∧
    (∃ ds, Blk W k 39 ds ∧ ds.length = 5 ∧ (y = true → ds = rl r p c q e)) ∧ Below w.heap.size w W ∧ Fr (fun j => j = g ∨ j = k) V W ∧ (w.heap.size ≤ g ∧ w.heap.size ≤ k ∧ a ≠ g ∧ a ≠ k ∧ b ≠ g ∧ b ≠ k ∧ g ≠ k)
section
variable {w V W W' : World} {a b g k : Nat} {l : RLg} {r : Rfd} {p : Option Addr} {c : Nat} {q : Option Addr} {e : Nat} {x y : Bool}
theorem ne_some {a b : Nat} (h : a ≠ b) : some a ≠ some b := fun q => h (Option.some.inj q)
theorem Four.one (h : Four w V W a b g k l r p c q e x y) (hb : Blk W' g 42 (ll l)) (hg : W.grownBy W' (some g)) : Four w V W' a b g k l r p c q e true y := by
  obtain ⟨h1, h2, ⟨cs, h3, -, -⟩, ⟨ds, h4, h5, h6⟩, h7, h8, n1, n2, n3, n4, n5, n6, n7⟩ := h
  exact ⟨h1.kept hg (ne_some n3), h2.kept hg (ne_some n5), ⟨_, hb, rfl, fun _ => rfl⟩, ⟨ds, h4.kept hg (ne_some n7.symm), h5, h6⟩, h7.grown hg h7.size (fun j hj => by obtain rfl := Option.some.inj hj; exact n1), h8.trans (Fr.of_grown (S := fun j => j = g ∨ j = k) hg (fun j hj => .inl (Option.some.inj hj).symm)) (fun _ h => .inl h), n1, n2, n3, n4, n5, n6, n7⟩
theorem Four.two (h : Four w V W a b g k l r p c q e x y) (hb : Blk W' k 39 (rl r p c q e)) (hg : W.grownBy W' (some k)) : Four w V W' a b g k l r p c q e x true := by
  obtain ⟨h1, h2, ⟨cs, h3, h5, h6⟩, ⟨ds, h4, -, -⟩, h7, h8, n1, n2, n3, n4, n5, n6, n7⟩ := h
  exact ⟨h1.kept hg (ne_some n4), h2.kept hg (ne_some n6), ⟨cs, h3.kept hg (ne_some n7), h5, h6⟩, ⟨_, hb, rfl, fun _ => rfl⟩, h7.grown hg h7.size (fun j hj => by obtain rfl := Option.some.inj hj; exact n2), h8.trans (Fr.of_grown (S := fun j => j = g ∨ j = k) hg (fun j hj => .inr (Option.some.inj hj).symm)) (fun _ h => .inl h), n1, n2, n3, n4, n5, n6, n7⟩
theorem Four.drew (h : Four w V W a b g k l r p c q e x y) : Four w V W.drew a b g k l r p c q e x y := by
  obtain ⟨h1, h2, ⟨cs, h3, h5, h6⟩, ⟨ds, h4, h8, h9⟩, h7, h10, hn⟩ := h
  exact ⟨h1.drew, h2.drew, ⟨cs, h3.drew, h5, h6⟩, ⟨ds, h4.drew, h8, h9⟩, h7.drew, h10.trans (Fr.of_below (Below.refl _ _).drew _) (fun _ h => .inl h), hn⟩
theorem Four.end (h : Four w V W a b g k l r p c q e true true) : Blk W g 42 (ll l) ∧ Blk W k 39 (rl r p c q e) ∧ Below w.heap.size w W ∧ Fr (fun j => j = g ∨ j = k) V W := by
  obtain ⟨_, _, ⟨cs, h3, _, h6⟩, ⟨ds, h4, _, h9⟩, h7, h8, _⟩ := h
  obtain rfl := h6 rfl
  obtain rfl := h9 rfl
  exact ⟨h3, h4, h7, h8⟩
end
theorem ref_Append_long (l : RLg) (r : Rfd) (p : Option Addr) (c : Nat) (q : Option Addr) (e : Nat) (bq : Option Addr) (m bc : Nat) (hz : sizeN (m : Int) = 0) (w : World) :
    Calls Try.prog 16 #[lv l, rv r p c q e, .slice bq m bc] w fun x w' => x = .returned (.tuple #[lv l, rv r p c q e, .int .u64 0, .int .i64 81]) ∧ Below w.heap.size w w' := by
  have hS := fun w => ref_Size (m : Int) w
  rw [sizeI_sizeN, hz] at hS
  clear hz
  go_enter Try.func16, Try.ntmps16
  go_wp2_with (first
    | ((refine at_box_ll _ _ (by rfl) (by rfl) (by rfl) ?_); intro V1 hY1 hB1 hz1)
    | ((refine at_box_rd _ _ _ _ _ _ (by rfl) (by rfl) (by rfl) ?_); intro V2 hX2 hB2 hz2)
    | ((refine at_alloc_ll (by rfl) (by rfl) ?_); intro V3 hY3 hB3 hz3)
    | ((refine at_alloc_rd (by rfl) (by rfl) ?_); intro V4 hX4 hB4 hz4)
    | ((with_reducible refine (hS _).mono ?_); rintro e w1 ⟨rfl, hw⟩; rw [hw]; clear hw))
  have hB34 := bnext hB3 hB4
  have hYa := (hY1.below hB2).below hB34
  have hXb := hX2.below hB34
  have hYc := hY3.below hB4
  have hab : w.heap.size < V1.heap.size ∧ V1.heap.size < V2.heap.size ∧ V2.heap.size < V3.heap.size := ⟨hY1.lt, hX2.lt, hY3.lt⟩
  have hBW := bnext (bnext hB1 hB2) hB34
  have hF4 : Four w V4 V4.drew w.heap.size V1.heap.size V2.heap.size V3.heap.size l r p c q e false false := Four.drew ⟨hYa, hXb, ⟨_, hYc, rfl, fun h => by cases h⟩, ⟨_, hX4, rfl, fun h => by cases h⟩, hBW, Fr.refl _ _, by omega⟩
  refine Inv.region_invB (fun L a w' => a = { tmps := #[(lv l), (rv r p c q e), (Value.slice bq m bc), (Value.pointer (some { block := w.heap.size, off := 0 })), (Value.pointer (some { block := V1.heap.size, off := 0 })), (undef), (Value.pointer (some { block := V2.heap.size, off := 0 })), (Value.pointer (some { block := V3.heap.size, off := 0 })), (if L 4 = true then (.int .u64 0) else (Value.int IntKind.u64 0)), (if L 5 = true then (.int .i64 81) else (Value.int IntKind.i64 0)), (Value.int IntKind.i64 0), (undef), (undef), (undef), (undef), (undef), (undef), (undef), (undef), (undef), (undef), (undef), (Value.slice bq m bc), (Value.int IntKind.i64 (m : Int)), (Value.int IntKind.i64 0), (Value.int IntKind.i64 0), (Value.bool true), (if L 0 = true then (lv l) else (undef)), (if L 1 = true then (rv r p c q e) else (undef)), (undef), (undef), (undef), (undef), (undef), (undef), (undef), (undef), (undef), (undef), (undef), (undef), (undef), (undef), (undef), (undef), (undef), (undef), (undef), (undef), (undef), (undef), (undef), (undef), (undef), (undef), (undef), (undef), (undef), (undef), (undef), (undef), (undef), (undef), (undef), (undef), (undef), (undef), (undef), (undef), (undef), (undef), (undef), (undef), (undef), (undef), (undef), (undef), (undef), (undef), (undef), (undef), (undef), (undef), (undef), (undef), (undef), (undef), (undef), (undef), (undef), (undef), (undef), (undef), (undef), (undef), (undef), (undef), (undef), (undef), (undef), (undef)], defers := [] } ∧ (Four w V4 w' w.heap.size V1.heap.size V2.heap.size V3.heap.size l r p c q e (L 2) (L 3))) (by kernel_rfl) (by kernel_rfl) ?h0 ?step ?done
  case h0 => exact ⟨by simp, hF4⟩
  case step =>
    refine Inv.Steps.cons rfl ?_ ?_
    · intro L a w' hI hL hd K hK
      obtain ⟨rfl, hI⟩ := hI
      clear hd
      rw [if_pos (by rfl)]
      refine wp_load_ll _ w.heap.size l (by rfl) (by rfl) hI.1 ?_
      exact hK.out _ _ ⟨by simp [Act.put], by simpa using hI⟩
    refine Inv.Steps.cons rfl ?_ ?_
    · intro L a w' hI hL hd K hK
      obtain ⟨rfl, hI⟩ := hI
      clear hd
      rw [if_pos (by rfl)]
      refine wp_load_rd _ V1.heap.size r p c q e (by rfl) (by rfl) hI.2.1 ?_
      exact hK.out _ _ ⟨by simp [Act.put], by simpa using hI⟩
    refine Inv.Steps.cons rfl ?_ ?_
    · intro L a w' hI hL hd K hK
      obtain ⟨rfl, hI⟩ := hI
      simp [Region.binds] at hd
      simp only [hd, if_true]
      rw [if_pos (by rfl)]
      obtain ⟨cs, hcs, hl5, -⟩ := hI.2.2.1
      refine wp_store_ll _ _ V2.heap.size cs l (by rfl) (by rfl) (by rfl) hcs hl5 ?_
      intro w6 hb6 hg6 _
      exact hK.out _ _ ⟨by simp [hd, Act.put], by simpa using hI.one hb6 hg6⟩
    refine Inv.Steps.cons rfl ?_ ?_
    · intro L a w' hI hL hd K hK
      obtain ⟨rfl, hI⟩ := hI
      simp [Region.binds] at hd
      simp only [hd, if_true]
      rw [if_pos (by rfl)]
      obtain ⟨ds, hds, hl5, -⟩ := hI.2.2.2.1
      refine wp_store_rd _ _ V3.heap.size ds r p c q e (by rfl) (by rfl) (by rfl) hds hl5 ?_
      intro w6 hb6 hg6 _
      exact hK.out _ _ ⟨by simp [hd, Act.put], by simpa using hI.two hb6 hg6⟩
    refine Inv.Steps.cons rfl ?_ ?_
    · intro L a w' hI hL hd K hK
      obtain ⟨rfl, hI⟩ := hI
      simp [Region.binds] at hd
      simp only [hd, if_true]
      rw [if_pos (by rfl)]
      go_simp
      exact hK.out _ _ ⟨by simp [hd], by simpa using hI⟩
    refine Inv.Steps.cons rfl ?_ ?_
    · intro L a w' hI hL hd K hK
      obtain ⟨rfl, hI⟩ := hI
      simp [Region.binds] at hd
      simp only [hd, if_true]
      rw [if_pos (by rfl)]
      go_simp
      exact hK.out _ _ ⟨by simp [hd], by simpa using hI⟩
    exact Inv.Steps.nil (by decide)
  case done =>
    intro L a w' hI hall
    obtain ⟨rfl, hI⟩ := hI
    simp only [hall, if_true] at hI ⊢
    obtain ⟨hE1, hE2, hE3, hE4⟩ := hI.end
    go_wp2
    exact ret_four rfl rfl _ _ _ _ _ _ _ _ rfl rfl hE1 hE2 ⟨rfl, hE3⟩
theorem ref_Append_full {n S st j t : Nat} (hc : Can n S st j t) (ep nx : Nat) (r : Rfd) (hn : r.st.length = n) (p : Option Addr) (c : Nat) (q : Option Addr) (e : Nat) (bq : Option Addr) (m bc : Nat) (hz : size m ≠ 0) (hr : room S j t nx (size m) = false) (w : World) :
    Calls Try.prog 16 #[lv ⟨ep, nx, st, segOf S st j, t⟩, rv r p c q e, .slice bq m bc] w fun x w' => x = .returned (.tuple #[lv ⟨ep, nx, st, segOf S st j, t⟩, rv r p c q e, .int .u64 0, .int .i64 101]) ∧ Below w.heap.size w w' := by
  have hS := fun w => ref_Size (m : Int) w
  rw [sizeI_sizeN, sizeN_nat] at hS
  have hP := fun W => ref_place hc ep nx (size m) (size_le m) W
  rw [hr, show plv S ep nx st j t (size m) = ⟨ep, nx, st, segOf S st j, t⟩ by unfold plv; rw [if_neg (by simp [hr])]] at hP
  have hb : ((size m : Int) == 0) = false := by simp; omega
  have hrl : rl r p c q e = [.slice p n c, .slice q r.pe.length e, .bool r.ct, .int .i64 r.lf, .bool r.dn] := by unfold rl; rw [hn]
  generalize size m = z at *
  generalize segOf S st j = nw at *
  obtain ⟨l, hl⟩ : ∃ l : RLg, l = ⟨ep, nx, st, nw, t⟩ := ⟨_, rfl⟩
  rw [← hl] at hP ⊢
  clear hl hz hr hc hn
  go_enter Try.func16, Try.ntmps16
  go_wp2_with (first
    | (have _ := hB6; (refine at_alloc_ll (by rfl) (by rfl) ?_); intro V7 hY7 hB7 hz7)
    | (have _ := hB6; (refine at_store_ll _ _ _ _ _ (by rfl) (by rfl) (by rfl) hY7 rfl (by rfl) ?_); intro V8 hY8 hg8 hz8)
    | ((refine at_box_ll _ _ (by rfl) (by rfl) (by rfl) ?_); intro V1 hY1 hB1 hz1)
    | ((refine at_box_rd _ _ _ _ _ _ (by rfl) (by rfl) (by rfl) ?_); intro V2 hX2 hB2 hz2)
    | ((refine at_alloc_ll (by rfl) (by rfl) ?_); intro V3 hY3 hB3 hz3)
    | ((refine at_alloc_rd (by rfl) (by rfl) ?_); intro V4 hX4 hB4 hz4; have hB34 := bnext hB3 hB4; have hYa := (hY1.below hB2).below hB34; have hXb := hX2.below hB34; have hk4 : ∀ i, V4.cell? ⟨V1.heap.size, i, none⟩ = [Value.slice p n c, .slice q r.pe.length e, .bool r.ct, .int .i64 r.lf, .bool r.dn][i]? := (by rw [← hrl]; exact hXb.cell))
    | ((with_reducible refine (hS _).mono ?_); rintro e w1 ⟨rfl, hw⟩; rw [hw]; clear hw)
    | ((refine at_load_ll _ _ _ (by rfl) (by rfl) hYa (by rfl) ?_))
    | ((with_reducible refine (hP _).mono ?_); rintro e w6 ⟨rfl, hB6⟩))
  have hB7' := bnext hB6 hB7
  have hB8 : Below V4.heap.size V4 V8 := hB7'.grown hg8 hB7'.size (by have := hB6.size; simp; omega)
  have hYc := hY3.below hB4
  have hab : w.heap.size < V1.heap.size ∧ V1.heap.size < V2.heap.size ∧ V2.heap.size < V3.heap.size := ⟨hY1.lt, hX2.lt, hY3.lt⟩
  have hBW := bnext (bnext (bnext hB1 hB2) hB34) hB8
  have hF4 : Four w V8 V8.drew w.heap.size V1.heap.size V2.heap.size V3.heap.size l r p c q e false false := Four.drew ⟨hYa.below hB8, hXb.below hB8, ⟨_, hYc.below hB8, rfl, fun h => by cases h⟩, ⟨_, hX4.below hB8, rfl, fun h => by cases h⟩, hBW, Fr.refl _ _, by omega⟩
  refine Inv.region_invB (fun L a w' => a = { tmps := #[(lv l), (rv r p c q e), (Value.slice bq m bc), (Value.pointer (some { block := w.heap.size, off := 0 })), (Value.pointer (some { block := V1.heap.size, off := 0 })), (undef), (Value.pointer (some { block := V2.heap.size, off := 0 })), (Value.pointer (some { block := V3.heap.size, off := 0 })), (if L 4 = true then (.int .u64 0) else (Value.int IntKind.u64 0)), (if L 5 = true then (.int .i64 101) else (Value.int IntKind.i64 0)), (Value.int IntKind.i64 (z : Int)), (Value.pointer (some { block := w6.heap.size, off := 0 })), (Value.bool false), (undef), (undef), (undef), (undef), (undef), (undef), (undef), (undef), (undef), (Value.slice bq m bc), (Value.int IntKind.i64 (m : Int)), (Value.int IntKind.i64 (z : Int)), (Value.int IntKind.i64 (z : Int)), (Value.bool false), (undef), (undef), (Value.tuple #[lv l, Value.bool false]), (lv l), (Value.pointer (some { block := V1.heap.size, off := 0 })), (Value.slice p n c), (Value.int IntKind.i64 (n : Int)), (Value.int IntKind.i64 (z : Int)), (Value.tuple #[lv l, Value.bool false]), (lv l), (Value.bool false), (Value.bool false), (Value.bool true), (if L 0 = true then (lv l) else (undef)), (if L 1 = true then (rv r p c q e) else (undef)), (undef), (undef), (undef), (undef), (undef), (undef), (undef), (undef), (undef), (undef), (undef), (undef), (undef), (undef), (undef), (undef), (undef), (undef), (undef), (undef), (undef), (undef), (undef), (undef), (undef), (undef), (undef), (undef), (undef), (undef), (undef), (undef), (undef), (undef), (undef), (undef), (undef), (undef), (undef), (undef), (undef), (undef), (undef), (undef), (undef), (undef), (undef), (undef), (undef), (undef), (undef), (undef), (undef), (undef), (undef), (undef), (undef), (undef), (undef)], defers := [] } ∧ (Four w V8 w' w.heap.size V1.heap.size V2.heap.size V3.heap.size l r p c q e (L 2) (L 3))) (by kernel_rfl) (by kernel_rfl) ?h0 ?step ?done
  case h0 => exact ⟨by simp, hF4⟩
  case step =>
    refine Inv.Steps.cons rfl ?_ ?_
    · intro L a w' hI hL hd K hK
      obtain ⟨rfl, hI⟩ := hI
      clear hd
      rw [if_pos (by rfl)]
      refine wp_load_ll _ w.heap.size l (by rfl) (by rfl) hI.1 ?_
      exact hK.out _ _ ⟨by simp [Act.put], by simpa using hI⟩
    refine Inv.Steps.cons rfl ?_ ?_
    · intro L a w' hI hL hd K hK
      obtain ⟨rfl, hI⟩ := hI
      clear hd
      rw [if_pos (by rfl)]
      refine wp_load_rd _ V1.heap.size r p c q e (by rfl) (by rfl) hI.2.1 ?_
      exact hK.out _ _ ⟨by simp [Act.put], by simpa using hI⟩
    refine Inv.Steps.cons rfl ?_ ?_
    · intro L a w' hI hL hd K hK
      obtain ⟨rfl, hI⟩ := hI
      simp [Region.binds] at hd
      simp only [hd, if_true]
      rw [if_pos (by rfl)]
      obtain ⟨cs, hcs, hl5, -⟩ := hI.2.2.1
      refine wp_store_ll _ _ V2.heap.size cs l (by rfl) (by rfl) (by rfl) hcs hl5 ?_
      intro w6 hb6 hg6 _
      exact hK.out _ _ ⟨by simp [hd, Act.put], by simpa using hI.one hb6 hg6⟩
    refine Inv.Steps.cons rfl ?_ ?_
    · intro L a w' hI hL hd K hK
      obtain ⟨rfl, hI⟩ := hI
      simp [Region.binds] at hd
      simp only [hd, if_true]
      rw [if_pos (by rfl)]
      obtain ⟨ds, hds, hl5, -⟩ := hI.2.2.2.1
      refine wp_store_rd _ _ V3.heap.size ds r p c q e (by rfl) (by rfl) (by rfl) hds hl5 ?_
      intro w6 hb6 hg6 _
      exact hK.out _ _ ⟨by simp [hd, Act.put], by simpa using hI.two hb6 hg6⟩
    refine Inv.Steps.cons rfl ?_ ?_
    · intro L a w' hI hL hd K hK
      obtain ⟨rfl, hI⟩ := hI
      simp [Region.binds] at hd
      simp only [hd, if_true]
      rw [if_pos (by rfl)]
      go_simp
      exact hK.out _ _ ⟨by simp [hd], by simpa using hI⟩
    refine Inv.Steps.cons rfl ?_ ?_
    · intro L a w' hI hL hd K hK
      obtain ⟨rfl, hI⟩ := hI
      simp [Region.binds] at hd
      simp only [hd, if_true]
      rw [if_pos (by rfl)]
      go_simp
      exact hK.out _ _ ⟨by simp [hd], by simpa using hI⟩
    exact Inv.Steps.nil (by decide)
  case done =>
    intro L a w' hI hall
    obtain ⟨rfl, hI⟩ := hI
    simp only [hall, if_true] at hI ⊢
    obtain ⟨hE1, hE2, hE3, hE4⟩ := hI.end
    go_wp2
    exact ret_four rfl rfl _ _ _ _ _ _ _ _ rfl rfl hE1 hE2 ⟨rfl, hE3⟩
theorem rput_st (r : Rfd) (i : Int) (s : Sec) : (r.put i s).st = r.st ∧ (r.put i s).pe.length ≤ r.pe.length + 1 := by
  unfold Rfd.put
  split
  · split
    · exact ⟨(racted_st r).1, by rw [(racted_st r).2]; omega⟩
    · exact ⟨(racted_st r).1, by simp⟩
  · exact ⟨rfl, by omega⟩
/-- What an append hands back. -/
def RDone (w : World) (x : Ending) (w' : World) (l : RLg) (D : Rfd) (p : Option Addr) (c : Nat) (q : Option Addr) (L : Nat) (k : Nat) (E : Int) : Prop :=
  ∃ q' e', x = .returned (.tuple #[lv l, rv D p c q' e', .int .u64 (k : Int), .int .i64 E]) ∧ RK wc w' q' e' D.pe ∧ ((q' = q ∧ D.pe.length = L) ∨ ∀ a, q' = some a → w.heap.size ≤ a.block) ∧ Below w.heap.size w w'
/-- Elements of many cells lie in no block of five. -/
theorem rk_off {α : Type} {enc : α → List Value} {k : Nat} (hk : ∀ x, (enc x).length = k) (h6 : 5 < k) {w : World} {q : Option Addr} {c g : Nat} {l : List α} {cs : List Value} {ty : TypeId} (h : RK enc w q c l) (hb : Blk w g ty cs) (h5 : cs.length = 5) {a : Addr} (h0 : 0 < l.length) (ha : q = some a) : a.block ≠ g := fun q2 => by
  obtain ⟨b, o, e, _, hc⟩ := h.2.2.2 h0
  rw [ha] at e
  obtain rfl := Option.some.inj e
  simp only at q2
  subst q2
  have hf : 5 < (l.flatMap enc).length := by
    rw [len_flat hk]
    have := Nat.mul_le_mul_right k h0
    omega
  have h1 := hc 5 _ (List.getElem?_eq_getElem hf)
  rw [hb.cell, List.getElem?_eq_none (by omega)] at h1
  cases h1
theorem kept_row {α : Type} {enc : α → List Value} {w w' : World} {p : Option Addr} {cap g : Nat} {xs : List α} (h : RK enc w p cap xs) (hg : w.grownBy w' (some g)) (hne : 0 < xs.length → ∀ a, p = some a → a.block ≠ g) : RK enc w' p cap xs :=
  RKfr h (S := fun k => k = g) (fun h0 a ha q => hne h0 a ha q) (Fr.of_grown hg fun _ hk => (Option.some.inj hk).symm)
set_option maxHeartbeats 4000000 in
theorem ref_Append_room {n S st j t : Nat} (hc : Can n S st j t) (ep nx : Nat) (r : Rfd) (hn : r.st.length = n) (hok : r.ok) (p : Option Addr) (c : Nat) (q : Option Addr) (e : Nat) (bq : Option Addr) (m bc : Nat) (bp : List Int) (hm : bp.length = m) (hbp : ∀ c ∈ bp, Byte c) (hr : room S j t nx (size m) = true) (hnx : nx < 18446744073709551616) (hep : ep < 4294967296) (hpe : r.pe.length ≤ 980) {D : Rfd} {E : Int}
    (hD : rwrites r (adr S st (toJ j t (size m)) (toT t (size m))) (made nx ep bp) = (D, E)) (w : World) (hb : Reads .u8 w bq bc bp) (hq : RK wc w q e r.pe) :
    Calls Try.prog 16 #[lv ⟨ep, nx, st, segOf S st j, t⟩, rv r p c q e, .slice bq m bc] w fun x w' =>
      (E = 0 → RDone w x w' ⟨ep, more nx, st, segOf S st (toJ j t (size m)), toT t (size m) + size m⟩ D p c q r.pe.length nx 0) ∧ (E ≠ 0 → RDone w x w' ⟨ep, nx, st, segOf S st j, t⟩ D p c q r.pe.length 0 E) := by
  have hS := fun w => ref_Size (m : Int) w
  rw [sizeI_sizeN, sizeN_nat] at hS
  have hP := fun W => ref_place hc ep nx (size m) (size_le m) W
  rw [hr, show plv S ep nx st j t (size m) = ⟨ep, nx, st, segOf S st (toJ j t (size m)), toT t (size m)⟩ by unfold plv; rw [if_pos hr]] at hP
  have hsg := fun W => ref_Seg (n : Int) (segOf S st (toJ j t (size m)) : Int) W
  simp only [(hc.place _).1, (hc.place _).2] at hsg
  simp only [room, Bool.and_eq_true, decide_eq_true_eq] at hr
  obtain ⟨h0, hn0, -⟩ := hr
  have hm7 : bp.length ≤ 700 := by
    rw [hm]
    unfold size at h0
    split at h0 <;> omega
  have hrt := right_of hm7 hn0
  have hML := made_len (e := ep) hrt
  rw [hm] at hML
  have hz12 := size_le m
  have hfit := to_fits (t := t) hz12
  have hmk := fun W (rr : Reads .u8 W bq bc bp) => ref_Make_ok nx ep bq m bc bp hm hrt hnx hep hbp W rr
  rw [hML] at hmk
  have hA : adr S st (toJ j t (size m)) 0 ≤ 1000 := by
    have := seg_lt st (toJ j t (size m)) (show 0 < S by have := hc.two; omega)
    have := hc.two
    unfold adr
    omega
  have hae : adr S st (toJ j t (size m)) (toT t (size m)) = adr S st (toJ j t (size m)) 0 + toT t (size m) := by unfold adr; omega
  rw [hae] at hD
  have hb0 : ((size m : Int) == 0) = false := by simp; omega
  have hrl : rl r p c q e = [.slice p n c, .slice q r.pe.length e, .bool r.ct, .int .i64 r.lf, .bool r.dn] := by unfold rl; rw [hn]
  have hwm := wrap_more nx
  have hwt : IntKind.i64.wrap ((toT t (size m) : Int) + (size m : Int)) = ((toT t (size m) + size m : Nat) : Int) := by rw [wrap_int ⟨by omega, by omega⟩]; omega
  generalize made nx ep bp = M at *
  generalize adr S st (toJ j t (size m)) 0 = A at *
  generalize segOf S st (toJ j t (size m)) = nw1 at *
  generalize toT t (size m) = t' at *
  generalize size m = z at *
  generalize segOf S st j = nw at *
  clear hae hc hrt
  obtain ⟨l, hl⟩ : ∃ l : RLg, l = ⟨ep, nx, st, nw, t⟩ := ⟨_, rfl⟩
  have hcl : ∀ {W g}, Blk W g 42 (ll l) → ∀ i, W.cell? ⟨g, i, none⟩ = [Value.int .u32 (ep : Int), .int .u64 (nx : Int), .int .i64 (st : Int), .int .i64 (nw : Int), .int .i64 (t : Int)][i]? := fun h => by rw [hl] at h; exact cells5 h
  rw [← hl] at hP ⊢
  clear hl hn0
  go_enter Try.func16, Try.ntmps16
  go_wp2_with (first
    | (have _ := hB6; (refine at_alloc_ll (by rfl) (by rfl) ?_); intro V7 hY7 hB7 hz7)
    | (have _ := hB6; (refine at_store_ll _ _ _ _ _ (by rfl) (by rfl) (by rfl) hY7 rfl (by rfl) ?_); intro V8 hY8 hg8 hz8; have hB7' := bnext hB6 hB7; have hB8 : Below V4.heap.size V4 V8 := hB7'.grown hg8 hB7'.size (by have := hB6.size; simp; omega); have hk8a := hcl (hYa.below hB8); have hBW := bnext (bnext (bnext hB1 hB2) hB34) hB8)
    | ((refine at_box_ll _ _ (by rfl) (by rfl) (by rfl) ?_); intro V1 hY1 hB1 hz1)
    | ((refine at_box_rd _ _ _ _ _ _ (by rfl) (by rfl) (by rfl) ?_); intro V2 hX2 hB2 hz2)
    | ((refine at_alloc_ll (by rfl) (by rfl) ?_); intro V3 hY3 hB3 hz3)
    | ((refine at_alloc_rd (by rfl) (by rfl) ?_); intro V4 hX4 hB4 hz4; have hB34 := bnext hB3 hB4; have hYa := (hY1.below hB2).below hB34; have hXb := hX2.below hB34; have hk4 : ∀ i, V4.cell? ⟨V1.heap.size, i, none⟩ = [Value.slice p n c, .slice q r.pe.length e, .bool r.ct, .int .i64 r.lf, .bool r.dn][i]? := (by rw [← hrl]; exact hXb.cell))
    | ((with_reducible refine (hS _).mono ?_); rintro e w1 ⟨rfl, hw⟩; rw [hw]; clear hw)
    | ((refine at_load_ll _ _ _ (by rfl) (by rfl) hYa (by rfl) ?_))
    | ((with_reducible refine (hP _).mono ?_); rintro e w6 ⟨rfl, hB6⟩)
    | ((with_reducible refine (hmk _ (hb.below hBW)).mono ?_); rintro e w9 ⟨q9, c9, rfl, rM, hB9⟩; have hB89 := bnext hB8 hB9; have hk9 : ∀ i, w9.cell? ⟨V1.heap.size, i, none⟩ = [Value.slice p n c, .slice q r.pe.length e, .bool r.ct, .int .i64 r.lf, .bool r.dn][i]? := (by rw [← hrl]; exact (hXb.below hB89).cell); have hk11 := cells5 (hY8.below hB9))
    | ((with_reducible refine (hsg _).mono ?_); rintro e w1 ⟨rfl, hw⟩; rw [hw]; clear hw))
  have hYc := hY3.below hB4
  have hab : w.heap.size < V1.heap.size ∧ V1.heap.size < V2.heap.size ∧ V2.heap.size < V3.heap.size ∧ V3.heap.size < w6.heap.size := ⟨hY1.lt, hX2.lt, hY3.lt, Nat.lt_of_lt_of_le hX4.lt hB6.size⟩
  have hBW9 := bnext hBW hB9
  have hYa9 := (hYa.below hB8).below hB9
  have hY89 := hY8.below hB9
  have hYc9 := (hYc.below hB8).below hB9
  have hXk9 := (hX4.below hB8).below hB9
  have hXb9 := (hXb.below hB8).below hB9
  have hq9 := hq.below hBW9
  have hs9 : w6.heap.size < w9.heap.size ∧ V3.heap.size < w9.heap.size := ⟨hY89.lt, hXk9.lt⟩
  replace hD : Hid (rwrites r (A + t') M = (D, E)) := hD
  clear hYa hXb hYc hX4 hY8 hB1 hB2 hB3 hB4 hB6 hB7 hB7' hB8 hB9 hB34 hB89 hk4 hk8a hk9 hk11 hS hP hsg hmk hrl hb hq hBW
  go_loopw [63] (fun s63 wr => ∃ (i : Nat) (r' : Rfd) (q' : Option Addr) (e' : Nat), i ≤ z ∧ s63 = .int .i64 (i : Int) ∧ Blk wr V1.heap.size 39 (rl r' p c q' e') ∧ RK wc wr q' e' r'.pe ∧ r'.ok ∧ r'.pe.length ≤ r.pe.length + i ∧ Hid (rwrites r (A + t') M = rwrites r' (A + t' + i) (M.drop i)) ∧ Hid ((q' = q ∧ r'.pe.length = r.pe.length) ∨ ∀ a, q' = some a → w.heap.size ≤ a.block) ∧ Fr (fun k => k = V1.heap.size) w9 wr) (fun s63 _ => z - (intOf s63).toNat)
  case atStart => exact ⟨0, r, q, e, by omega, rfl, hXb9, hq9, hok, by omega, rfl, .inl ⟨rfl, rfl⟩, Fr.refl _ _⟩
  case round =>
    obtain ⟨i, r', q', e', hi, rfl, hX, hqr, hok', hpe', HW, HQ, hF⟩ := hrel
    have hYaR := hF.blk hYa9 (by omega)
    have hY8R := hF.blk hY89 (by omega)
    have hYcR := hF.blk hYc9 (by omega)
    have hXkR := hF.blk hXk9 (by omega)
    have rMR := RKfr rM (fun h0 a ha q => rk_off sc_len (by decide) rM hXb9 rfl h0 ha q) hF
    have hBr : Below w.heap.size w wr := bfr hBW9 hF (fun k hk => by omega)
    have hsr := hF.size
    by_cases hlt : i < z
    · obtain ⟨s, hsi⟩ : ∃ s, M[i]? = some s := ⟨_, List.getElem?_eq_getElem (by omega)⟩
      obtain ⟨bb, o, rfl, hrs⟩ := rk_range sc_len rMR hsi
      have hlt2 : decide ((i : Int) < (z : Int)) = true := decide_eq_true (by omega)
      have hlt3 : (i : Int) < (z : Int) := by omega
      have hu1 : IntKind.i64.wrap ((A : Int) + (t' : Int)) = (A : Int) + (t' : Int) := wrap_int ⟨by omega, by omega⟩
      have hu2 : IntKind.i64.wrap ((A : Int) + (t' : Int) + (i : Int)) = (A : Int) + (t' : Int) + (i : Int) := wrap_int ⟨by omega, by omega⟩
      have hcast : ((A + t' + i : Nat) : Int) = (A : Int) + (t' : Int) + (i : Int) := by omega
      have hput := fun {V : World} (hV : Below wr.heap.size wr V) => rput_any r' p c q' e' ((A : Int) + (t' : Int) + (i : Int)) s V hok' (hqr.below hV)
      have hst := rput_st r' ((A : Int) + (t' : Int) + (i : Int)) s
      have hok2 := rput_ok hok' ((A : Int) + (t' : Int) + (i : Int)) s (by omega)
      have hdr := drop_at hsi
      have hyes := rwrites_yes (r := r') (i := A + t' + i) s (M.drop (i + 1))
      have hno := rwrites_no (r := r') (i := A + t' + i) s (M.drop (i + 1))
      rw [← hdr, ← HW.out, hcast] at hyes hno
      rw [hD.out] at hno
      obtain ⟨E1, hE1⟩ : ∃ E1, r'.putE ((A : Int) + (t' : Int) + (i : Int)) = E1 := ⟨_, rfl⟩
      obtain ⟨r5, hr5⟩ : ∃ r5, r'.put ((A : Int) + (t' : Int) + (i : Int)) s = r5 := ⟨_, rfl⟩
      rw [hE1, hr5] at hput hyes hno
      rw [hr5] at hst hok2
      have hk11 := fun {V : World} (hV : Below wr.heap.size wr V) => cells5 (hY8R.below hV)
      replace hcast : Hid (((A + t' + i : Nat) : Int) = (A : Int) + (t' : Int) + (i : Int)) := hcast
      clear hsi hdr HW hE1 hr5 hqr
      by_cases hE0 : E1 = 0
      · have hbe : (E1 != 0) = false := by simp [hE0]
        have hyes1 : Hid (rwrites r (A + t') M = rwrites r5 (A + t' + (i + 1)) (M.drop (i + 1))) := hyes hE0
        clear hyes hno
        go_wp2_with (first
          | (have _ := hX7; (refine at_store_rd _ _ _ _ _ _ _ _ _ (by rfl) (by rfl) (by rfl) hXd7 rfl (by rfl) ?_); intro V9 hX9 hg9 hz9)
          | (have _ := hX7; (refine at_load_rd _ _ _ _ _ _ _ (by rfl) (by rfl) hX7 (by rfl) ?_))
          | (have _ := hB5; (refine at_alloc_rd (by rfl) (by rfl) ?_); intro V6 hX6 hB6 hz6)
          | (have _ := hB5; (refine at_store_rd _ _ _ _ _ _ _ _ _ (by rfl) (by rfl) (by rfl) hX6 rfl (by rfl) ?_); intro V7 hX7 hg7 hz7; have hB67 : Below w5.heap.size w5 V7 := hB6.grown hg7 hB6.size (by simp); have hBr7 := bnext hBr5 hB67; have hXd7 := hX.below hBr7)
          | ((refine at_alloc_sec (by rfl) (by rfl) ?_); intro V1' hU1 hB1 hz1)
          | ((refine at_store_sec _ _ _ _ _ (by rfl) (by rfl) (by rfl) hU1 (by rfl) ?_); intro V2' hU2 hg2 hz2; have hB2 : Below wr.heap.size wr V2' := hB1.grown hg2 hB1.size (by simp); have hXd2 := hX.below hB2; have hkt := hk11 hB2; have hus := blk_sec hU2)
          | ((refine at_load_rd _ _ _ _ _ _ _ (by rfl) (by rfl) hXd2 (by rfl) ?_))
          | (have _ := hB2; (refine at_load_sec _ _ _ _ (by rfl) (by rfl) hus (by rfl) ?_))
          | ((refine at_load_sec _ _ _ _ (by rfl) (by rfl) hrs (by rfl) ?_))
          | ((with_reducible refine (hput hB2).mono ?_); rintro e w5 ⟨q5, e5, rfl, rk5, hq5, hB5⟩; have hBr5 := bnext hB2 hB5))
        have rk7 := rk5.below hB67
        have rk9 := kept_row rk7 hg9 (fun h0 a ha => rk_off wc_len (by decide) rk7 hXd7 rfl h0 ha)
        have hF9 : Fr (fun k => k = V1.heap.size) w9 V9 := hF.trans ((Fr.of_below hBr7 _).trans (Fr.of_grown hg9 (S := fun k => k = V1.heap.size) (fun k hk => (Option.some.inj hk).symm)) (fun _ h => .inl h)) (fun _ h => .inl h)
        have HQ5 : Hid ((q5 = q ∧ r5.pe.length = r.pe.length) ∨ ∀ a, q5 = some a → w.heap.size ≤ a.block) := by
          rcases hq5 with ⟨e1, e2⟩ | hq5
          · rcases HQ.out with ⟨e3, e4⟩ | hQ
            · exact .inl ⟨e1.trans e3, e2.trans e4⟩
            · exact .inr (by rw [e1]; exact hQ)
          · exact .inr fun a ha => Nat.le_trans (bnext hBr hB2).size (hq5 a ha)
        exact ⟨⟨i + 1, r5, q5, e5, by omega, by go_num, hX9, rk9, hok2, by have := hst.2; omega, hyes1, HQ5, hF9⟩, by simp [intOf]; omega⟩
      · have hbe : (E1 != 0) = true := by simp [hE0]
        have hno1 := hno hE0
        simp only [Prod.mk.injEq] at hno1
        obtain ⟨rfl, rfl⟩ := hno1
        clear hyes hno
        go_wp2_with (first
          | (have _ := hX7; (refine at_store_rd _ _ _ _ _ _ _ _ _ (by rfl) (by rfl) (by rfl) hXd7 rfl (by rfl) ?_); intro V9 hX9 hg9 hz9)
          | (have _ := hX7; (refine at_load_rd _ _ _ _ _ _ _ (by rfl) (by rfl) hX7 (by rfl) ?_))
          | (have _ := hB5; (refine at_alloc_rd (by rfl) (by rfl) ?_); intro V6 hX6 hB6 hz6)
          | (have _ := hB5; (refine at_store_rd _ _ _ _ _ _ _ _ _ (by rfl) (by rfl) (by rfl) hX6 rfl (by rfl) ?_); intro V7 hX7 hg7 hz7; have hB67 : Below w5.heap.size w5 V7 := hB6.grown hg7 hB6.size (by simp); have hBr7 := bnext hBr5 hB67; have hXd7 := hX.below hBr7)
          | ((refine at_alloc_sec (by rfl) (by rfl) ?_); intro V1' hU1 hB1 hz1)
          | ((refine at_store_sec _ _ _ _ _ (by rfl) (by rfl) (by rfl) hU1 (by rfl) ?_); intro V2' hU2 hg2 hz2; have hB2 : Below wr.heap.size wr V2' := hB1.grown hg2 hB1.size (by simp); have hXd2 := hX.below hB2; have hkt := hk11 hB2; have hus := blk_sec hU2)
          | ((refine at_load_rd _ _ _ _ _ _ _ (by rfl) (by rfl) hXd2 (by rfl) ?_))
          | (have _ := hB2; (refine at_load_sec _ _ _ _ (by rfl) (by rfl) hus (by rfl) ?_))
          | ((refine at_load_sec _ _ _ _ (by rfl) (by rfl) hrs (by rfl) ?_))
          | ((with_reducible refine (hput hB2).mono ?_); rintro e w5 ⟨q5, e5, rfl, rk5, hq5, hB5⟩; have hBr5 := bnext hB2 hB5))
        have rk7 := rk5.below hB67
        have rk9 := kept_row rk7 hg9 (fun h0 a ha => rk_off wc_len (by decide) rk7 hXd7 rfl h0 ha)
        have hF9 : Fr (fun k => k = V1.heap.size) w9 V9 := hF.trans ((Fr.of_below hBr7 _).trans (Fr.of_grown hg9 (S := fun k => k = V1.heap.size) (fun k hk => (Option.some.inj hk).symm)) (fun _ h => .inl h)) (fun _ h => .inl h)
        have HQ5 : Hid ((q5 = q ∧ D.pe.length = r.pe.length) ∨ ∀ a, q5 = some a → w.heap.size ≤ a.block) := by
          rcases hq5 with ⟨e1, e2⟩ | hq5
          · rcases HQ.out with ⟨e3, e4⟩ | hQ
            · exact .inl ⟨e1.trans e3, e2.trans e4⟩
            · exact .inr (by rw [e1]; exact hQ)
          · exact .inr fun a ha => Nat.le_trans (bnext hBr hB2).size (hq5 a ha)
        have hYa' := hF9.blk hYa9 (by omega)
        have hYc' := hF9.blk hYc9 (by omega)
        have hXk' := hF9.blk hXk9 (by omega)
        have hBr9 : Below w.heap.size w V9 := bfr hBW9 hF9 (fun k hk => by omega)
        have hF4 : Four w V9 V9.drew w.heap.size V1.heap.size V2.heap.size V3.heap.size l D p c q5 e5 false false := Four.drew ⟨hYa', hX9, ⟨_, hYc', rfl, fun h => by cases h⟩, ⟨_, hXk', rfl, fun h => by cases h⟩, hBr9, Fr.refl _ _, by omega⟩
        have rkE := fun {V : World} (hV : Fr (fun j => j = V2.heap.size ∨ j = V3.heap.size) V9 V) => RKfr rk9 (fun h0 a ha q => by rcases q with q | q; exact rk_off wc_len (by decide) rk9 hYc' rfl h0 ha q; exact rk_off wc_len (by decide) rk9 hXk' rfl h0 ha q) hV
        refine Inv.region_invB (fun L a w' => a = { tmps := #[(lv l), (rv r p c q e), (Value.slice bq m bc), (Value.pointer (some { block := w.heap.size, off := 0 })), (Value.pointer (some { block := V1.heap.size, off := 0 })), (undef), (Value.pointer (some { block := V2.heap.size, off := 0 })), (Value.pointer (some { block := V3.heap.size, off := 0 })), (if L 5 = true then (.int .u64 0) else (u8)), (if L 6 = true then (Value.int IntKind.i64 E) else (u9)), (Value.int IntKind.i64 ((z : Nat) : Int)), (Value.pointer (some { block := w6.heap.size, off := 0 })), (Value.bool true), (Value.slice (some { block := bb, off := o }) z c9), (Value.int IntKind.i64 0), (Value.int IntKind.i64 ((A : Nat) : Int)), (Value.int IntKind.i64 0), (Value.int IntKind.i64 ((i : Nat) : Int)), (Value.pointer (some { block := wr.heap.size, off := 0 })), (Value.pointer (some { block := w5.heap.size, off := 0 })), (Value.int IntKind.i64 E), (undef), (Value.slice bq m bc), (Value.int IntKind.i64 ((m : Nat) : Int)), (Value.int IntKind.i64 ((z : Nat) : Int)), (Value.int IntKind.i64 ((z : Nat) : Int)), (Value.bool false), (undef), (undef), (Value.tuple #[lv { ep := ep, nx := nx, st := st, nw := nw1, tk := t' }, Value.bool true]), (lv l), (Value.pointer (some { block := V1.heap.size, off := 0 })), (Value.slice p n c), (Value.int IntKind.i64 ((n : Nat) : Int)), (Value.int IntKind.i64 ((z : Nat) : Int)), (Value.tuple #[lv { ep := ep, nx := nx, st := st, nw := nw1, tk := t' }, Value.bool true]), (lv { ep := ep, nx := nx, st := st, nw := nw1, tk := t' }), (Value.bool true), (Value.bool true), (Value.bool false), (undef), (undef), (Value.tuple #[Value.slice (some { block := bb, off := o }) z c9, Value.int IntKind.i64 0]), (Value.pointer (some { block := w.heap.size, off := 1 })), (Value.int IntKind.u64 ((nx : Nat) : Int)), (Value.pointer (some { block := w.heap.size, off := 0 })), (Value.int IntKind.u32 ((ep : Nat) : Int)), (Value.slice bq m bc), (Value.agg #[Value.int IntKind.u64 ((nx : Nat) : Int), Value.int IntKind.u32 ((ep : Nat) : Int), Value.slice bq m bc]), (Value.tuple #[Value.slice (some { block := bb, off := o }) z c9, Value.int IntKind.i64 0]), (Value.slice (some { block := bb, off := o }) z c9), (Value.int IntKind.i64 0), (Value.tuple #[Value.int IntKind.i64 ((A : Nat) : Int), Value.int IntKind.i64 0]), (Value.pointer (some { block := V1.heap.size, off := 0 })), (Value.slice p n c), (Value.int IntKind.i64 ((n : Nat) : Int)), (Value.pointer (some { block := w6.heap.size, off := 3 })), (Value.int IntKind.i64 ((nw1 : Nat) : Int)), (Value.tuple #[Value.int IntKind.i64 ((A : Nat) : Int), Value.int IntKind.i64 0]), (Value.int IntKind.i64 ((A : Nat) : Int)), (Value.int IntKind.i64 0), (Value.slice (some { block := bb, off := o }) z c9), (Value.int IntKind.i64 ((z : Nat) : Int)), (Value.int IntKind.i64 ((i : Nat) : Int)), (Value.bool true), (Value.int IntKind.i64 ((i : Nat) : Int)), (Value.pointer (some { block := bb, off := o + i * 64 })), (secv s), (Value.tuple #[rv D p c q5 e5, Value.int IntKind.i64 E]), (rv r' p c q' e'), (Value.int IntKind.i64 ((A : Nat) : Int)), (Value.pointer (some { block := w6.heap.size, off := 4 })), (Value.int IntKind.i64 ((t' : Nat) : Int)), (Value.int IntKind.i64 (((A : Nat) : Int) + ((t' : Nat) : Int))), (Value.int IntKind.i64 ((i : Nat) : Int)), (Value.int IntKind.i64 (((A : Nat) : Int) + ((t' : Nat) : Int) + ((i : Nat) : Int))), (secv s), (Value.tuple #[rv D p c q5 e5, Value.int IntKind.i64 E]), (rv D p c q5 e5), (Value.int IntKind.i64 E), (rv D p c q5 e5), (Value.int IntKind.i64 E), (Value.bool true), (if L 0 = true then (lv l) else (u83)), (if L 1 = true then (rv D p c q5 e5) else (u84)), (if L 2 = true then (Value.int IntKind.i64 E) else (u85)), (u86), (undef), (undef), (undef), (undef), (undef), (undef), (undef), (undef), (undef), (undef), (undef), (undef), (undef), (undef)], defers := [] } ∧ (Four w V9 w' w.heap.size V1.heap.size V2.heap.size V3.heap.size l D p c q5 e5 (L 3) (L 4))) (by kernel_rfl) (by kernel_rfl) ?h0 ?step ?done
        case h0 => exact ⟨by simp, hF4⟩
        case step =>
          refine Inv.Steps.cons rfl ?_ ?_
          · intro L a w' hI hL hd K hK
            obtain ⟨rfl, hI⟩ := hI
            clear hd
            rw [if_pos (by rfl)]
            refine wp_load_ll _ w.heap.size l (by rfl) (by rfl) hI.1 ?_
            exact hK.out _ _ ⟨by simp [Act.put], by simpa using hI⟩
          refine Inv.Steps.cons rfl ?_ ?_
          · intro L a w' hI hL hd K hK
            obtain ⟨rfl, hI⟩ := hI
            clear hd
            rw [if_pos (by rfl)]
            refine wp_load_rd _ V1.heap.size D p c q5 e5 (by rfl) (by rfl) hI.2.1 ?_
            exact hK.out _ _ ⟨by simp [Act.put], by simpa using hI⟩
          refine Inv.Steps.cons rfl ?_ ?_
          · intro L a w' hI hL hd K hK
            obtain ⟨rfl, hI⟩ := hI
            clear hd
            rw [if_pos (by rfl)]
            go_simp
            exact hK.out _ _ ⟨by simp, by simpa using hI⟩
          refine Inv.Steps.cons rfl ?_ ?_
          · intro L a w' hI hL hd K hK
            obtain ⟨rfl, hI⟩ := hI
            simp [Region.binds] at hd
            simp only [hd, if_true]
            rw [if_pos (by rfl)]
            obtain ⟨cs, hcs, hl5, -⟩ := hI.2.2.1
            refine wp_store_ll _ _ V2.heap.size cs l (by rfl) (by rfl) (by rfl) hcs hl5 ?_
            intro w6 hb6 hg6 _
            exact hK.out _ _ ⟨by simp [hd, Act.put], by simpa using hI.one hb6 hg6⟩
          refine Inv.Steps.cons rfl ?_ ?_
          · intro L a w' hI hL hd K hK
            obtain ⟨rfl, hI⟩ := hI
            simp [Region.binds] at hd
            simp only [hd, if_true]
            rw [if_pos (by rfl)]
            obtain ⟨ds, hds, hl5, -⟩ := hI.2.2.2.1
            refine wp_store_rd _ _ V3.heap.size ds D p c q5 e5 (by rfl) (by rfl) (by rfl) hds hl5 ?_
            intro w6 hb6 hg6 _
            exact hK.out _ _ ⟨by simp [hd, Act.put], by simpa using hI.two hb6 hg6⟩
          refine Inv.Steps.cons rfl ?_ ?_
          · intro L a w' hI hL hd K hK
            obtain ⟨rfl, hI⟩ := hI
            simp [Region.binds] at hd
            simp only [hd, if_true]
            rw [if_pos (by rfl)]
            go_simp
            exact hK.out _ _ ⟨by simp [hd], by simpa using hI⟩
          refine Inv.Steps.cons rfl ?_ ?_
          · intro L a w' hI hL hd K hK
            obtain ⟨rfl, hI⟩ := hI
            simp [Region.binds] at hd
            simp only [hd, if_true]
            rw [if_pos (by rfl)]
            go_simp
            exact hK.out _ _ ⟨by simp [hd], by simpa using hI⟩
          exact Inv.Steps.nil (by decide)
        case done =>
          intro L a w' hI hall
          obtain ⟨rfl, hI⟩ := hI
          simp only [hall, if_true] at hI ⊢
          obtain ⟨hE1, hE2, hE3, hE4⟩ := hI.end
          go_wp2
          exact ret_four rfl rfl _ _ _ _ _ _ _ _ rfl rfl hE1 hE2 ⟨fun h => absurd h hE0, fun _ => ⟨q5, e5, rfl, rkE hE4, HQ5.out, hE3⟩⟩
    · obtain rfl : i = z := by omega
      have HW2 := HW.out
      rw [hD.out, List.drop_of_length_le (by omega)] at HW2
      simp only [rwrites, Prod.mk.injEq] at HW2
      obtain ⟨rfl, rfl⟩ := HW2
      have hk8 := cells5 hY8R
      have hf8 := hY8R.frozen
      clear HW hlt hD
      go_wp2
      have hBg := grown2 (only_put wr ⟨w6.heap.size, 4, none⟩ (.int .i64 ((t' : Int) + (i : Int)))) (only_put _ ⟨w6.heap.size, 1, none⟩ (.int .u64 ((more nx : Nat) : Int)))
      have hYn : Blk ((wr.setCell ⟨w6.heap.size, 4, none⟩ (.int .i64 ((t' : Int) + (i : Int)))).setCell ⟨w6.heap.size, 1, none⟩ (.int .u64 ((more nx : Nat) : Int))) w6.heap.size 42 (ll ⟨ep, more nx, st, nw1, t' + i⟩) := by
        rw [show ((t' : Int) + (i : Int)) = ((t' + i : Nat) : Int) by omega]
        exact (hY8R.put 4 _).put 1 _
      have hXn := hX.kept hBg (ne_some (show V1.heap.size ≠ w6.heap.size by omega))
      have hYcn := hYcR.kept hBg (ne_some (show V2.heap.size ≠ w6.heap.size by omega))
      have hXkn := hXkR.kept hBg (ne_some (show V3.heap.size ≠ w6.heap.size by omega))
      have rkn := kept_row hqr hBg (fun h0 a ha => rk_off wc_len (by decide) hqr hY8R rfl h0 ha)
      have hBrn := hBr.grown hBg hBr.size (fun k hk => by have := Option.some.inj hk; simp only at this; omega)
      generalize (wr.setCell ⟨w6.heap.size, 4, none⟩ (.int .i64 ((t' : Int) + (i : Int)))).setCell ⟨w6.heap.size, 1, none⟩ (.int .u64 ((more nx : Nat) : Int)) = V20 at *
      have hF4 : Four w V20 V20.drew w6.heap.size V1.heap.size V2.heap.size V3.heap.size ⟨ep, more nx, st, nw1, t' + i⟩ D p c q' e' false false := Four.drew ⟨hYn, hXn, ⟨_, hYcn, rfl, fun h => by cases h⟩, ⟨_, hXkn, rfl, fun h => by cases h⟩, hBrn, Fr.refl _ _, by omega⟩
      have rkE := fun {V : World} (hV : Fr (fun j => j = V2.heap.size ∨ j = V3.heap.size) V20 V) => RKfr rkn (fun h0 a ha q => by rcases q with q | q; exact rk_off wc_len (by decide) rkn hYcn rfl h0 ha q; exact rk_off wc_len (by decide) rkn hXkn rfl h0 ha q) hV
      refine Inv.region_invB (fun L a w' => a = { tmps := #[(lv l), (rv r p c q e), (Value.slice bq m bc), (Value.pointer (some { block := w.heap.size, off := 0 })), (Value.pointer (some { block := V1.heap.size, off := 0 })), (undef), (Value.pointer (some { block := V2.heap.size, off := 0 })), (Value.pointer (some { block := V3.heap.size, off := 0 })), (if L 5 = true then (Value.int IntKind.u64 ((nx : Nat) : Int)) else (u8)), (if L 6 = true then (.int .i64 0) else (u9)), (Value.int IntKind.i64 ((i : Nat) : Int)), (Value.pointer (some { block := w6.heap.size, off := 0 })), (Value.bool true), (Value.slice q9 i c9), (Value.int IntKind.i64 0), (Value.int IntKind.i64 ((A : Nat) : Int)), (Value.int IntKind.i64 0), (u17), (u18), (u19), (u20), (Value.int IntKind.u64 ((nx : Nat) : Int)), (Value.slice bq m bc), (Value.int IntKind.i64 ((m : Nat) : Int)), (Value.int IntKind.i64 ((i : Nat) : Int)), (Value.int IntKind.i64 ((i : Nat) : Int)), (Value.bool false), (undef), (undef), (Value.tuple #[lv { ep := ep, nx := nx, st := st, nw := nw1, tk := t' }, Value.bool true]), (lv l), (Value.pointer (some { block := V1.heap.size, off := 0 })), (Value.slice p n c), (Value.int IntKind.i64 ((n : Nat) : Int)), (Value.int IntKind.i64 ((i : Nat) : Int)), (Value.tuple #[lv { ep := ep, nx := nx, st := st, nw := nw1, tk := t' }, Value.bool true]), (lv { ep := ep, nx := nx, st := st, nw := nw1, tk := t' }), (Value.bool true), (Value.bool true), (Value.bool false), (undef), (undef), (Value.tuple #[Value.slice q9 i c9, Value.int IntKind.i64 0]), (Value.pointer (some { block := w.heap.size, off := 1 })), (Value.int IntKind.u64 ((nx : Nat) : Int)), (Value.pointer (some { block := w.heap.size, off := 0 })), (Value.int IntKind.u32 ((ep : Nat) : Int)), (Value.slice bq m bc), (Value.agg #[Value.int IntKind.u64 ((nx : Nat) : Int), Value.int IntKind.u32 ((ep : Nat) : Int), Value.slice bq m bc]), (Value.tuple #[Value.slice q9 i c9, Value.int IntKind.i64 0]), (Value.slice q9 i c9), (Value.int IntKind.i64 0), (Value.tuple #[Value.int IntKind.i64 ((A : Nat) : Int), Value.int IntKind.i64 0]), (Value.pointer (some { block := V1.heap.size, off := 0 })), (Value.slice p n c), (Value.int IntKind.i64 ((n : Nat) : Int)), (Value.pointer (some { block := w6.heap.size, off := 3 })), (Value.int IntKind.i64 ((nw1 : Nat) : Int)), (Value.tuple #[Value.int IntKind.i64 ((A : Nat) : Int), Value.int IntKind.i64 0]), (Value.int IntKind.i64 ((A : Nat) : Int)), (Value.int IntKind.i64 0), (Value.slice q9 i c9), (Value.int IntKind.i64 ((i : Nat) : Int)), (Value.int IntKind.i64 ((i : Nat) : Int)), (Value.bool false), (u65), (u66), (u67), (u68), (u69), (u70), (u71), (u72), (u73), (u74), (u75), (u76), (u77), (u78), (u79), (u80), (u81), (u82), (u83), (u84), (u85), (u86), (Value.pointer (some { block := w6.heap.size, off := 1 })), (Value.int IntKind.u64 ((nx : Nat) : Int)), (Value.pointer (some { block := w6.heap.size, off := 4 })), (Value.int IntKind.i64 ((t' : Nat) : Int)), (Value.int IntKind.i64 ((i : Nat) : Int)), (Value.int IntKind.i64 (((t' : Nat) : Int) + ((i : Nat) : Int))), (Value.pointer (some { block := w6.heap.size, off := 4 })), (Value.pointer (some { block := w6.heap.size, off := 1 })), (Value.int IntKind.u64 ((nx : Nat) : Int)), (Value.int IntKind.u64 ((more nx : Nat) : Int)), (Value.pointer (some { block := w6.heap.size, off := 1 })), (if L 0 = true then (lv ⟨ep, more nx, st, nw1, t' + i⟩) else (undef)), (if L 1 = true then (rv D p c q' e') else (undef)), (if L 2 = true then (Value.int IntKind.u64 ((nx : Nat) : Int)) else (undef))], defers := [] } ∧ (Four w V20 w' w6.heap.size V1.heap.size V2.heap.size V3.heap.size ⟨ep, more nx, st, nw1, t' + i⟩ D p c q' e' (L 3) (L 4))) (by kernel_rfl) (by kernel_rfl) ?h0 ?step ?done
      case h0 => exact ⟨by simp, hF4⟩
      case step =>
        refine Inv.Steps.cons rfl ?_ ?_
        · intro L a w' hI hL hd K hK
          obtain ⟨rfl, hI⟩ := hI
          clear hd
          rw [if_pos (by rfl)]
          refine wp_load_ll _ w6.heap.size ⟨ep, more nx, st, nw1, t' + i⟩ (by rfl) (by rfl) hI.1 ?_
          exact hK.out _ _ ⟨by simp [Act.put], by simpa using hI⟩
        refine Inv.Steps.cons rfl ?_ ?_
        · intro L a w' hI hL hd K hK
          obtain ⟨rfl, hI⟩ := hI
          clear hd
          rw [if_pos (by rfl)]
          refine wp_load_rd _ V1.heap.size D p c q' e' (by rfl) (by rfl) hI.2.1 ?_
          exact hK.out _ _ ⟨by simp [Act.put], by simpa using hI⟩
        refine Inv.Steps.cons rfl ?_ ?_
        · intro L a w' hI hL hd K hK
          obtain ⟨rfl, hI⟩ := hI
          clear hd
          rw [if_pos (by rfl)]
          go_simp
          exact hK.out _ _ ⟨by simp, by simpa using hI⟩
        refine Inv.Steps.cons rfl ?_ ?_
        · intro L a w' hI hL hd K hK
          obtain ⟨rfl, hI⟩ := hI
          simp [Region.binds] at hd
          simp only [hd, if_true]
          rw [if_pos (by rfl)]
          obtain ⟨cs, hcs, hl5, -⟩ := hI.2.2.1
          refine wp_store_ll _ _ V2.heap.size cs ⟨ep, more nx, st, nw1, t' + i⟩ (by rfl) (by rfl) (by rfl) hcs hl5 ?_
          intro w6 hb6 hg6 _
          exact hK.out _ _ ⟨by simp [hd, Act.put], by simpa using hI.one hb6 hg6⟩
        refine Inv.Steps.cons rfl ?_ ?_
        · intro L a w' hI hL hd K hK
          obtain ⟨rfl, hI⟩ := hI
          simp [Region.binds] at hd
          simp only [hd, if_true]
          rw [if_pos (by rfl)]
          obtain ⟨ds, hds, hl5, -⟩ := hI.2.2.2.1
          refine wp_store_rd _ _ V3.heap.size ds D p c q' e' (by rfl) (by rfl) (by rfl) hds hl5 ?_
          intro w6 hb6 hg6 _
          exact hK.out _ _ ⟨by simp [hd, Act.put], by simpa using hI.two hb6 hg6⟩
        refine Inv.Steps.cons rfl ?_ ?_
        · intro L a w' hI hL hd K hK
          obtain ⟨rfl, hI⟩ := hI
          simp [Region.binds] at hd
          simp only [hd, if_true]
          rw [if_pos (by rfl)]
          go_simp
          exact hK.out _ _ ⟨by simp [hd], by simpa using hI⟩
        refine Inv.Steps.cons rfl ?_ ?_
        · intro L a w' hI hL hd K hK
          obtain ⟨rfl, hI⟩ := hI
          simp [Region.binds] at hd
          simp only [hd, if_true]
          rw [if_pos (by rfl)]
          go_simp
          exact hK.out _ _ ⟨by simp [hd], by simpa using hI⟩
        exact Inv.Steps.nil (by decide)
      case done =>
        intro L a w' hI hall
        obtain ⟨rfl, hI⟩ := hI
        simp only [hall, if_true] at hI ⊢
        obtain ⟨hE1, hE2, hE3, hE4⟩ := hI.end
        go_wp2
        exact ret_four rfl rfl _ _ _ _ _ _ _ _ rfl rfl hE1 hE2 ⟨q', e', rfl, rkE hE4, HQ.out, hE3⟩
end Go.Proofs.Ythgafnommcodcaa.Wal
