/-
  The document's commit, subscriber by subscriber. (Written by gen_bkref2.py.)
-/
import Derived.Test.YtnaofcggdjbocaaBkRef1
import Derived.Test.YtnaofcggdjbocaaInvB
import Derived.Test.YtnaofcggdjbocaaBkOne
namespace Go.Proofs.Ytnaofcggdjbocaa.Book
open Go.RowKit Go.Proofs.Ytnaofcggdjbocaa.Mem Go.Proofs.Ytnaofcggdjbocaa.Policy Go.Proofs.Ytnaofcggdjbocaa.Event Go.Proofs.Ytnaofcggdjbocaa.Addr
set_option maxRecDepth 100000

theorem eo_far {B g : Nat} {w w2 w' : World} {v : Value} {es fs : List En} (h0 : EO B w v fs) (h : EO B w2 v es) (hg : w2.grownBy w' (some g)) (hlt : w.heap.size ≤ g) : EO B w' v es := by
  refine ⟨h.1, ?_⟩
  rcases h.2 with h1 | ⟨g', cap, cur, hv, hb, hh, r⟩
  · exact .inl h1
  · have := (World.ownsRow.lt h0 g' (by rw [hv]; rfl)).2
    exact .inr ⟨g', cap, cur, hv, hb, (hg.block g' (Array.getElem?_eq_some_iff.1 hh).1 (fun e => by have := Option.some.inj e; omega)).trans hh, r⟩
theorem take_nextA {α : Type} {es : List α} {k : Nat} {x : α} (h : es[k]? = some x) : es.take (k + 1) = es.take k ++ [x] := by
  have hl := (List.getElem?_eq_some_iff.1 h).1
  rw [List.take_succ_eq_append_getElem hl, show es[k] = x from (List.getElem?_eq_some_iff.1 h).2]
def putP (ps : List Po) (s : Int) : Po := (lookP ps s).getD zeroP
def putB (ps : List Po) (s : Int) : Bool := (lookP ps s).isSome
theorem lookP_at {ps : List Po} {k : Nat} {p : Po} {s : Int} (hk : ps[k]? = some p) (he : p.s = s) (h : ∀ x ∈ ps.take k, x.s ≠ s) : lookP ps s = some p := by
  have hl := (List.getElem?_eq_some_iff.1 hk).1
  have hx : ps[k] = p := (List.getElem?_eq_some_iff.1 hk).2
  unfold lookP
  rw [← List.take_append_drop k ps, List.find?_append, List.find?_eq_none.2 (by intro x hx; simpa using h x hx), Option.none_or, List.drop_eq_getElem_cons hl, hx, List.find?_cons_of_pos (by simpa using he)]
theorem lookP_none {ps : List Po} {s : Int} (h : ∀ p ∈ ps, p.s ≠ s) : lookP ps s = none := by
  unfold lookP
  rw [List.find?_eq_none]
  intro p hp
  simpa using h p hp
set_option maxHeartbeats 2000000 in
theorem ref_put (q : Option Addr) (n c : Nat) (ps : List Po) (s : Int) (l1 : ps.length = n) (hn : n ≤ 1000) (w : World) (r1 : RK pl w q c ps) :
    Calls Try.prog 67 #[.slice q n c, .int .i64 s] w fun x w' => x = .returned (.tuple #[pv (putP ps s), .bool (putB ps s)]) ∧ Below w.heap.size w w' := by
  unfold putP putB
  obtain ⟨O, hLK⟩ : ∃ O, lookP ps s = O := ⟨_, rfl⟩
  rw [hLK]
  replace hLK : Hid (lookP ps s = O) := hLK
  have hcap := r1.1
  go_enter Try.func67, Try.ntmps67
  go_wp2_with (first
    | ((fail_if_success (have _ := hX2)); (refine at_alloc_po (by rfl) (by rfl) ?_); intro V2 hX2 hB2 hz2))
  go_loopw [10] (fun j wr => ∃ k : Nat, k ≤ n ∧ j = .int .i64 k ∧ Below w.heap.size w wr ∧ Blk wr w.heap.size 47 (pl zeroP) ∧ Hid (∀ p ∈ ps.take k, p.s ≠ s)) (fun j _ => n - (intOf j).toNat)
  case atStart => exact ⟨0, Nat.zero_le _, rfl, hB2, hX2, by unfold Hid; simp⟩
  case round =>
    obtain ⟨k, hk, rfl, hnx, hX3, HG⟩ := hrel
    by_cases hlt : k < n
    · have hlt3 : (k : Int) < (n : Int) := by omega
      obtain ⟨x, hx⟩ : ∃ x, ps[k]? = some x := ⟨_, List.getElem?_eq_getElem (by omega)⟩
      obtain ⟨b, o, rfl, hb, hc⟩ := (r1.below hnx).at pl_len hx
      by_cases hs : x.s = s
      · have ds : decide (x.s = s) = true := decide_eq_true hs
        obtain rfl : O = some x := hLK.out.symm.trans (lookP_at hx hs HG.out)
        clear hx HG
        go_wp2_with (first
          | ((fail_if_success (have _ := hY1)); (refine at_load_pr _ _ _ _ (by rfl) (by rfl) hc (by rfl) ?_))
          | ((fail_if_success (have _ := hY1)); (refine at_alloc_po (by rfl) (by rfl) ?_); intro W1 hY1 hB4 hz4)
          | ((fail_if_success (have _ := hY2)); (have _ := hY1); (refine at_store_po _ _ _ _ _ (by rfl) (by rfl) (by rfl) hY1 rfl (by rfl) ?_); intro W2 hY2 hg2 hz5; have hB5 := hB4.grown hg2 hB4.size (by simp); have hX5 := hX3.below hB5; have hC5 := bnext hnx hB5; have cy := cells13 hY2)
          | ((fail_if_success (have _ := hX6)); (have _ := hY2); (refine at_load_po _ _ _ (by rfl) (by rfl) hY2 (by rfl) ?_))
          | ((fail_if_success (have _ := hX6)); (have _ := hY2); (refine at_store_po _ _ _ _ _ (by rfl) (by rfl) (by rfl) hX5 rfl (by rfl) ?_); intro W6 hX6 hg6 hz6; have hC6 := hC5.grown hg6 hC5.size (by simp)))
        exact ret_po2 (by rfl) rfl _ _ rfl hX6 ⟨rfl, hC6⟩
      · have ds : decide (x.s = s) = false := decide_eq_false hs
        have HG2 : Hid (∀ p ∈ ps.take (k + 1), p.s ≠ s) := fun p hp => by
          rw [take_nextA hx, List.mem_append, List.mem_singleton] at hp
          rcases hp with hp | rfl
          · exact HG.out p hp
          · exact hs
        clear hx HG
        go_wp2_with (first
          | ((fail_if_success (have _ := hY1)); (refine at_load_pr _ _ _ _ (by rfl) (by rfl) hc (by rfl) ?_))
          | ((fail_if_success (have _ := hY1)); (refine at_alloc_po (by rfl) (by rfl) ?_); intro W1 hY1 hB4 hz4)
          | ((fail_if_success (have _ := hY2)); (have _ := hY1); (refine at_store_po _ _ _ _ _ (by rfl) (by rfl) (by rfl) hY1 rfl (by rfl) ?_); intro W2 hY2 hg2 hz5; have hB5 := hB4.grown hg2 hB4.size (by simp); have hX5 := hX3.below hB5; have hC5 := bnext hnx hB5; have cy := cells13 hY2))
        go_roundw
        case rel => exact ⟨k + 1, by omega, by go_num, hC5, hX5, HG2⟩
        case measure => simp [intOf]; omega
    · obtain rfl : k = n := by omega
      have hdt : ps.take k = ps := List.take_of_length_le (by omega)
      rw [hdt] at HG
      obtain rfl : O = none := hLK.out.symm.trans (lookP_none HG.out)
      clear HG
      go_wp2_with (first
        | ((fail_if_success (have _ := hX6)); (refine at_build0 (by rfl) (by rfl) ?_))
        | ((fail_if_success (have _ := hX6)); (refine at_store_po _ _ _ _ _ (by rfl) (by rfl) (by rfl) hX3 rfl (by rfl) ?_); intro W6 hX6 hg6 hz6; have hC6 := hnx.grown hg6 hnx.size (by simp)))
      exact ret_po2 (by rfl) rfl _ _ rfl hX6 ⟨rfl, hC6⟩
theorem ref_has (q : Option Addr) (n c : Nat) (ds : List Int) (s : Int) (l1 : ds.length = n) (hn : n ≤ 1000) (w : World) (r1 : Reads .i64 w q c ds) :
    Calls Try.prog 68 #[.slice q n c, .int .i64 s] w fun x w' => x = .returned (.bool (decide (s ∈ ds))) ∧ Below w.heap.size w w' := by
  obtain ⟨O, hLK⟩ : ∃ O, decide (s ∈ ds) = O := ⟨_, rfl⟩
  rw [hLK]
  replace hLK : Hid (decide (s ∈ ds) = O) := hLK
  have hcap := r1.1
  go_enter Try.func68, Try.ntmps68
  go_wp2
  go_loopw [9] (fun j wr => ∃ k : Nat, k ≤ n ∧ j = .int .i64 k ∧ Below w.heap.size w wr ∧ Hid (s ∉ ds.take k)) (fun j _ => n - (intOf j).toNat)
  case atStart => exact ⟨0, Nat.zero_le _, rfl, Below.refl _ _, by unfold Hid; simp⟩
  case round =>
    obtain ⟨k, hk, rfl, hnx, HG⟩ := hrel
    by_cases hlt : k < n
    · have hlt3 : (k : Int) < (n : Int) := by omega
      obtain ⟨x, hx⟩ : ∃ x, ds[k]? = some x := ⟨_, List.getElem?_eq_getElem (by omega)⟩
      obtain ⟨b, o, rfl, _, hc⟩ := cell_at (r1.below hnx) hx
      by_cases hs : x = s
      · have he : (x == s) = true := by simpa using hs
        obtain rfl : O = true := by rw [← hLK.out, decide_eq_true (hs ▸ List.mem_of_getElem? hx)]
        clear hx HG hs
        go_wp2
        go_ret
        exact ⟨rfl, hnx⟩
      · have he : (x == s) = false := by simpa using hs
        have HG2 : Hid (s ∉ ds.take (k + 1)) := fun hp => by
          rw [take_nextA hx, List.mem_append, List.mem_singleton] at hp
          rcases hp with hp | rfl
          · exact HG.out hp
          · exact hs rfl
        clear hx HG hs
        go_wp2
        go_roundw
        case rel => exact ⟨k + 1, by omega, by go_num, hnx, HG2⟩
        case measure => simp [intOf]; omega
    · obtain rfl : k = n := by omega
      have hdt : ds.take k = ds := List.take_of_length_le (by omega)
      rw [hdt] at HG
      obtain rfl : O = false := by rw [← hLK.out, decide_eq_false HG.out]
      clear HG
      go_wp2
      go_ret
      exact ⟨rfl, hnx⟩

/-! ### The first so many subscribers -/
def comP (es : List En) (ps : List Po) (ds : List Int) (k : Nat) : List En := (List.range k).filterMap fun (i : Nat) => news es ps ds ((i : Int) + 1)
theorem comP_none {es : List En} {ps : List Po} {ds : List Int} {k : Nat} (h : news es ps ds ((k : Int) + 1) = none) : comP es ps ds (k + 1) = comP es ps ds k := by
  unfold comP
  rw [List.range_succ, List.filterMap_append]
  simp [h]
theorem comP_some {es : List En} {ps : List Po} {ds : List Int} {k : Nat} {e : En} (h : news es ps ds ((k : Int) + 1) = some e) : comP es ps ds (k + 1) = comP es ps ds k ++ [e] := by
  unfold comP
  rw [List.range_succ, List.filterMap_append]
  simp [h]
theorem comP_len (es : List En) (ps : List Po) (ds : List Int) (k : Nat) : (comP es ps ds k).length ≤ k := by
  unfold comP
  have := List.length_filterMap_le (fun (i : Nat) => news es ps ds ((i : Int) + 1)) (List.range k)
  simpa using this
theorem news_ok {es : List En} {ps : List Po} {ds : List Int} {s : Int} {e : En} (oe : ∀ e ∈ es, EnOk e) (op : ∀ p ∈ ps, PoOk p) (h : news es ps ds s = some e) : EnOk e := by
  unfold news at h
  split at h
  · cases h
  · split at h
    · rename_i p hp
      simp only [Option.some.injEq] at h
      subst h
      refine ⟨op p (lookP_mem hp).1, ?_⟩
      simp only
      cases hl : look es s with
      | none => exact ⟨by decide, by decide⟩
      | some x => exact (oe x (look_mem hl).1).2
    · exact oe e (look_mem h).1
theorem comE_ok {es : List En} {ps : List Po} {ds : List Int} (oe : ∀ e ∈ es, EnOk e) (op : ∀ p ∈ ps, PoOk p) : ∀ e ∈ comE es ps ds, EnOk e := by
  intro e he
  obtain ⟨i, -, hi⟩ := List.mem_filterMap.1 he
  exact news_ok oe op hi
theorem news_drop {es : List En} {ps : List Po} {ds : List Int} {s : Int} (h : s ∈ ds) : news es ps ds s = none := by unfold news; rw [if_pos h]
theorem news_put {es : List En} {ps : List Po} {ds : List Int} {s : Int} (h : s ∉ ds) (hp : putB ps s = true) : news es ps ds s = some ⟨putP ps s, (findE es s).g⟩ := by
  unfold putB at hp
  obtain ⟨p, hl⟩ := Option.isSome_iff_exists.1 hp
  unfold news putP findE
  rw [if_neg h, hl]
  simp only [Option.getD_some]
  congr 2
  cases look es s <;> rfl
theorem news_old {es : List En} {ps : List Po} {ds : List Int} {s : Int} (h : s ∉ ds) (hp : putB ps s = false) (hf : foundB es s = true) : news es ps ds s = some (findE es s) := by
  unfold putB at hp
  unfold foundB at hf
  obtain ⟨e, he⟩ := Option.isSome_iff_exists.1 hf
  have hl : lookP ps s = none := by simpa using hp
  unfold news findE
  rw [if_neg h, hl, he]
  rfl
theorem news_no {es : List En} {ps : List Po} {ds : List Int} {s : Int} (h : s ∉ ds) (hp : putB ps s = false) (hf : foundB es s = false) : news es ps ds s = none := by
  unfold putB at hp
  unfold foundB at hf
  have he : look es s = none := by simpa using hf
  have hl : lookP ps s = none := by simpa using hp
  unfold news
  rw [if_neg h, hl, he]
section
variable {o : Oper} {a : Act} {w : World} {ops : Array Oper} {rest : List Oper} {Q : Exit → Act → World → Prop}
/-- A policy into an entry's block. -/
theorem at_blk_pol (x y : Operand) (g : Nat) (e : En) (p : Po) (ho : o.op = .store 47 x y) (hx : a.eval x = .pointer (some ⟨g, 0, none⟩)) (hy : a.eval y = pv p) (hb : Blk w g 49 (nl e)) (hw : Region.wanted o (yielded ops a.tmps) = true)
    (hK : ∀ w', Blk w' g 49 (nl ⟨p, e.g⟩) → w.grownBy w' (some g) → Hid (w'.heap.size = w.heap.size) → wpList Try.prog ops Q rest (a.put o.dst undef) w') : wpList Try.prog ops Q (o :: rest) a w := by
  have h : EO g w (.slice (some ⟨g, 0, none⟩) 1 1) [e] := eo_of (rest := []) (by simpa using hb) rfl (Nat.le_refl _) (Nat.le_refl _) (by decide) (by simp [len_en])
  refine at_own_pol x y g g 0 1 1 [e] e p ho (by simpa using hx) hy h rfl hw fun w2 h1 h2 h3 => hK w2 ?_ h2 h3
  obtain ⟨rs, hX, -, -, -, -, hl⟩ := h1.blk
  have h0 : rs = [] := by
    have : rs.length = 0 := by
      simp only [List.set_cons_zero, List.flatMap_cons, List.flatMap_nil, List.append_nil, List.length_append, len_en] at hl
      omega
    exact List.eq_nil_of_length_eq_zero this
  subst h0
  simpa using hX
end
set_option maxHeartbeats 4000000 in
theorem ref_commit (h : Bh) (b : Bk) (hh : Eh) (e : Ev) (w : World) (i : IsB w h b) (ie : Is w hh e) (ob : ∀ x ∈ b.es, EnOk x) (op : ∀ p ∈ e.ps, PoOk p) (hn : h.n ≤ 1000) (np : hh.pn ≤ 1000) (nd : hh.dn ≤ 1000) (hds : ∀ d ∈ e.ds, 1 ≤ d ∧ d ≤ 255) :
    Calls Try.prog 41 #[bv h, ev hh] w fun x w' => ∃ h', x = .returned (.tuple #[bv h', .bool (dropsIn b.es e.ds && rightB ⟨b.t, comE b.es e.ps e.ds⟩)]) ∧ (dropsIn b.es e.ds = true → IsB w' h' ⟨b.t, comE b.es e.ps e.ds⟩ ∧ FreshB w.heap.size h') ∧ Below w.heap.size w w' := by
  obtain ⟨t, es⟩ := b
  obtain ⟨k0, s0, ps, ds, g0, u0⟩ := e
  obtain ⟨t', q, n, c⟩ := h
  obtain ⟨k0', s0', pp, pn, pc, dp, dn, dc, g0', u0'⟩ := hh
  have hFd := fun {W : World} (hb : Below w.heap.size w W) (s : Int) => ref_FindB ⟨t', q, n, c⟩ ⟨t, es⟩ s W (i.below hb) hn
  obtain ⟨e1, l1, r1⟩ := i
  obtain ⟨⟨f1, f2, f3, f4⟩, ⟨l2, r2⟩, m2, d2⟩ := ie
  simp only at e1 l1 r1 f1 f2 f3 f4 l2 r2 m2 d2 ob op hn np nd hds hFd
  subst e1 f1 f2 f3 f4
  have hPt := fun {W : World} (hb : Below w.heap.size w W) (s : Int) => ref_put pp pn pc ps s l2 np W (r2.below hb)
  have hHs := fun {W : World} (hb : Below w.heap.size w W) (s : Int) => ref_has dp dn dc ds s m2 nd W (d2.below hb)
  have hRt := fun {W : World} {h' : Bh} (i' : IsB W h' ⟨t', comE es ps ds⟩) => ref_RightB h' ⟨t', comE es ps ds⟩ W i' (comE_ok ob op) (by have h1 := i'.2.1; have h2 := comP_len es ps ds 255; have h3 : comP es ps ds 255 = comE es ps ds := rfl; rw [h3] at h2; simp only at h1; omega)
  simp only
  obtain ⟨D, hD⟩ : ∃ D, dropsIn es ds = D := ⟨_, rfl⟩
  obtain ⟨C, hC⟩ : ∃ C, rightB ⟨t', comE es ps ds⟩ = C := ⟨_, rfl⟩
  rw [hC] at hRt
  rw [hD, hC]
  have HDno : Hid (∀ s, s ∈ ds → foundB es s = false → D = false) := fun s hs hf => by
    rw [← hD]
    unfold dropsIn
    rw [Bool.eq_false_iff]
    intro ha
    have := List.all_eq_true.1 ha s hs
    unfold foundB at hf
    rw [hf] at this
    cases this
  have HDyes : Hid ((∀ s, 1 ≤ s → s ≤ 255 → s ∈ ds → foundB es s = true) → D = true) := fun ha => by
    rw [← hD]
    unfold dropsIn
    exact List.all_eq_true.2 fun d hd => ha d (hds d hd).1 (hds d hd).2 hd
  clear hD hC hds r1 r2 d2 l1 l2 m2 ob op
  go_enter Try.func41, Try.ntmps41
  go_wp2_with (first
    | ((fail_if_success (have _ := hXb1)); (refine at_box_bk _ _ (by rfl) (by rfl) (by rfl) ?_); intro U1 hXb1 hZ1 hz1)
    | ((fail_if_success (have _ := hXe2)); (have _ := hXb1); (refine at_box_ev _ _ (by rfl) (by rfl) (by rfl) ?_); intro U2 hXe2 hZ2 hz2; have hU2 := bnext hZ1 hZ2; have hXb2 := hXb1.below hZ2)
    | ((fail_if_success (have _ := hXr3)); (have _ := hXe2); (refine at_alloc_bk (by rfl) (by rfl) ?_); intro U3 hXr3 hZ3 hz3; have c3 := cells_bk (hXb2.below hZ3); simp only at c3)
    | ((fail_if_success (have _ := hXo4)); (have _ := hXr3); (refine at_build_bperiod _ t' (by rfl) (by rfl) (by rfl) ?_))
    | ((fail_if_success (have _ := hXo4)); (have _ := hXr3); (refine at_alloc_bk (by rfl) (by rfl) ?_); intro U4 hXo4 hZ4 hz4; have hXr4 := hXr3.below hZ4)
    | ((fail_if_success (have _ := hXo5)); (have _ := hXo4); (refine at_store_bk _ _ _ _ _ (by rfl) (by rfl) (by rfl) hXo4 rfl (by rfl) ?_); intro U5 hXo5 hg5 hz5))
  have hne : (some U2.heap.size : Option Nat) ≠ some U3.heap.size := by have := hz3.out; simp; omega
  have hw2 := hZ3.size
  have hXr5 := hXr4.kept hg5 hne
  have hE5 : Below U2.heap.size U2 U5 := (bnext hZ3 hZ4).grown hg5 (bnext hZ3 hZ4).size (fun j hj => by obtain rfl := Option.some.inj hj; exact hw2)
  clear hXr3 hXr4 hXo4 hg5 hZ3 hZ4 hz1 hz2 hz3 hz4 hz5 hXb1 c3
  go_loopw [7] (fun j wr => ∃ (k : Nat) (q' : Option Addr) (n' c' : Nat), k ≤ 255 ∧ j = .int .i64 ((k : Int) + 1) ∧ Below U2.heap.size U2 wr ∧ Blk wr U2.heap.size 25 (bl zeroH) ∧ Blk wr U3.heap.size 25 (bl ⟨t', q', n', c'⟩) ∧ EO U2.heap.size wr (.slice q' n' c') (comP es ps ds k) ∧ Hid (∀ s : Int, 1 ≤ s → s ≤ k → s ∈ ds → foundB es s = true)) (fun j _ => 256 - (intOf j).toNat)
  case atStart => exact ⟨0, none, 0, 0, by omega, rfl, hE5, hXr5, hXo5, EO.nil _ _, fun s h1 h2 => by omega⟩
  case round =>
    obtain ⟨k, q', n', c', hk, rfl, hE, hXr0, hXo0, hO0, HG⟩ := hrel
    clear hXr5 hXo5 hE5
    have hXb0 := hXb2.below hE
    have hXe0 := hXe2.below hE
    have hX0 := bnext hU2 hE
    by_cases hlt : k < 255
    · have hle : decide ((k : Int) + 1 ≤ 255) = true := decide_eq_true (by omega)
      obtain ⟨s, hs⟩ : ∃ s : Int, s = (k : Int) + 1 := ⟨_, rfl⟩
      have HS : Hid (s = (k : Int) + 1) := hs
      have hFd1 := fun {W : World} (hb : Below w.heap.size w W) => hFd hb s
      have hPt1 := fun {W : World} (hb : Below w.heap.size w W) => hPt hb s
      have hHs1 := fun {W : World} (hb : Below w.heap.size w W) => hHs hb s
      have hlen := comP_len es ps ds k
      rw [← hs] at hle ⊢
      clear hs
      obtain ⟨xs, hxs⟩ : ∃ xs, comP es ps ds k = xs := ⟨_, rfl⟩
      rw [hxs] at hO0 hlen
      have hn0 := hO0.is.1
      have HNn : Hid (news es ps ds s = none → comP es ps ds (k + 1) = xs) := fun h => by rw [comP_none (HS.out ▸ h), hxs]
      have HNs : Hid (∀ x, news es ps ds s = some x → comP es ps ds (k + 1) = xs ++ [x]) := fun x h => by rw [comP_some (HS.out ▸ h), hxs]
      have HG2 : Hid ((s ∈ ds → foundB es s = true) → ∀ u : Int, 1 ≤ u → u ≤ (k + 1 : Nat) → u ∈ ds → foundB es u = true) := fun h u h1 h2 h3 => by
        by_cases hu : u = s
        · subst hu; exact h h3
        · exact HG.out u h1 (by have := HS.out; omega) h3
      have hnx : IntKind.i64.wrap (s + 1) = ((k + 1 : Nat) : Int) + 1 := by rw [HS.out, IntKind.wrap_i64]; omega
      obtain ⟨f, hf⟩ : ∃ f, findE es s = f := ⟨_, rfl⟩
      obtain ⟨p, hp⟩ : ∃ p, putP ps s = p := ⟨_, rfl⟩
      cases hH : decide (s ∈ ds) with
      | true =>
        have hin := of_decide_eq_true hH
        cases hF : foundB es s with
        | false =>
          obtain rfl : D = false := HDno.out s hin hF
          simp only [hF, hf, hp, hH] at hFd1 hPt1 hHs1
          clear hf hp HG HG2 HNn HNs hxs hH hF
          go_wp2_with (first
            | ((fail_if_success (have _ := hB1)); (refine at_load_bk _ _ _ (by rfl) (by rfl) hXb0 (by rfl) ?_))
            | ((fail_if_success (have _ := hB1)); (refine at_load_ev _ _ _ (by rfl) (by rfl) hXe0 (by rfl) ?_))
            | ((fail_if_success (have _ := hB1)); (refine at_load_bk _ _ _ (by rfl) (by rfl) hXr0 (by rfl) ?_))
            | ((fail_if_success (have _ := hB1)); (refine at_load_bk _ _ _ (by rfl) (by rfl) hXo0 (by rfl) ?_))
            | ((fail_if_success (have _ := hB1)); (with_reducible refine (hFd1 hX0).mono ?_); rintro e w1 ⟨rfl, hB1⟩; have hXb1 := hXb0.below hB1; have hXe1 := hXe0.below hB1; have hXr1 := hXr0.below hB1; have hXo1 := hXo0.below hB1; have hFO1 := hO0.below hB1; have hC1 := bnext hX0 hB1; have hE1 := bnext hE hB1)
            | ((fail_if_success (have _ := hB2)); (have _ := hB1); (refine at_alloc_en (by rfl) (by rfl) ?_); intro V2 hXx2 hB2 hz2)
            | ((fail_if_success (have _ := hB3)); (have _ := hB2); (refine at_store_en _ _ _ _ _ (by rfl) (by rfl) (by rfl) hXx2 rfl (by rfl) ?_); intro V3 hXx3 hg3 hz3; have hB3 := hB2.grown hg3 hB2.size (by simp); have hXb3 := hXb1.below hB3; have hXe3 := hXe1.below hB3; have hXr3 := hXr1.below hB3; have hXo3 := hXo1.below hB3; have hFO3 := hFO1.below hB3; have hC3 := bnext hC1 hB3; have hE3 := bnext hE1 hB3; have c6 := cells6 hXe3; simp only at c6)
            | ((fail_if_success (have _ := hB4)); (have _ := hB3); (refine at_load_bk _ _ _ (by rfl) (by rfl) hXb3 (by rfl) ?_))
            | ((fail_if_success (have _ := hB4)); (have _ := hB3); (refine at_load_ev _ _ _ (by rfl) (by rfl) hXe3 (by rfl) ?_))
            | ((fail_if_success (have _ := hB4)); (have _ := hB3); (refine at_load_bk _ _ _ (by rfl) (by rfl) hXr3 (by rfl) ?_))
            | ((fail_if_success (have _ := hB4)); (have _ := hB3); (refine at_load_bk _ _ _ (by rfl) (by rfl) hXo3 (by rfl) ?_))
            | ((fail_if_success (have _ := hB4)); (have _ := hB3); (refine at_load_en _ _ _ (by rfl) (by rfl) hXx3 (by rfl) ?_))
            | ((fail_if_success (have _ := hB4)); (have _ := hB3); (with_reducible refine (hPt1 hC3).mono ?_); rintro e w4 ⟨rfl, hB4⟩; have hXb4 := hXb3.below hB4; have hXe4 := hXe3.below hB4; have hXr4 := hXr3.below hB4; have hXo4 := hXo3.below hB4; have hXx4 := hXx3.below hB4; have hFO4 := hFO3.below hB4; have hC4 := bnext hC3 hB4; have hE4 := bnext hE3 hB4)
            | ((fail_if_success (have _ := hB5)); (have _ := hB4); (refine at_alloc_po (by rfl) (by rfl) ?_); intro V5 hXp5 hB5 hz5)
            | ((fail_if_success (have _ := hB6)); (have _ := hB5); (refine at_store_po _ _ _ _ _ (by rfl) (by rfl) (by rfl) hXp5 rfl (by rfl) ?_); intro V6 hXp6 hg6 hz6; have hB6 := hB5.grown hg6 hB5.size (by simp); have hXb6 := hXb4.below hB6; have hXe6 := hXe4.below hB6; have hXr6 := hXr4.below hB6; have hXo6 := hXo4.below hB6; have hXx6 := hXx4.below hB6; have hFO6 := hFO4.below hB6; have hC6 := bnext hC4 hB6; have hE6 := bnext hE4 hB6; have c6 := cells6 hXe6; simp only at c6)
            | ((fail_if_success (have _ := hB7)); (have _ := hB6); (refine at_load_bk _ _ _ (by rfl) (by rfl) hXb6 (by rfl) ?_))
            | ((fail_if_success (have _ := hB7)); (have _ := hB6); (refine at_load_ev _ _ _ (by rfl) (by rfl) hXe6 (by rfl) ?_))
            | ((fail_if_success (have _ := hB7)); (have _ := hB6); (refine at_load_bk _ _ _ (by rfl) (by rfl) hXr6 (by rfl) ?_))
            | ((fail_if_success (have _ := hB7)); (have _ := hB6); (refine at_load_bk _ _ _ (by rfl) (by rfl) hXo6 (by rfl) ?_))
            | ((fail_if_success (have _ := hB7)); (have _ := hB6); (refine at_load_en _ _ _ (by rfl) (by rfl) hXx6 (by rfl) ?_))
            | ((fail_if_success (have _ := hB7)); (have _ := hB6); (refine at_load_po _ _ _ (by rfl) (by rfl) hXp6 (by rfl) ?_))
            | ((fail_if_success (have _ := hB7)); (have _ := hB6); (with_reducible refine (hHs1 hC6).mono ?_); rintro e w7 ⟨rfl, hB7⟩; have hXb7 := hXb6.below hB7; have hXe7 := hXe6.below hB7; have hXr7 := hXr6.below hB7; have hXo7 := hXo6.below hB7; have hXx7 := hXx6.below hB7; have hXp7 := hXp6.below hB7; have hFO7 := hFO6.below hB7; have hC7 := bnext hC6 hB7; have hE7 := bnext hE6 hB7; have co := cells_bk hXo7; simp only at co)
            | ((fail_if_success (have _ := hB8)); (have _ := hB7); (refine at_load_bk _ _ _ (by rfl) (by rfl) hXb7 (by rfl) ?_))
            | ((fail_if_success (have _ := hB8)); (have _ := hB7); (refine at_load_ev _ _ _ (by rfl) (by rfl) hXe7 (by rfl) ?_))
            | ((fail_if_success (have _ := hB8)); (have _ := hB7); (refine at_load_bk _ _ _ (by rfl) (by rfl) hXr7 (by rfl) ?_))
            | ((fail_if_success (have _ := hB8)); (have _ := hB7); (refine at_load_bk _ _ _ (by rfl) (by rfl) hXo7 (by rfl) ?_))
            | ((fail_if_success (have _ := hB8)); (have _ := hB7); (refine at_load_en _ _ _ (by rfl) (by rfl) hXx7 (by rfl) ?_))
            | ((fail_if_success (have _ := hB8)); (have _ := hB7); (refine at_load_po _ _ _ (by rfl) (by rfl) hXp7 (by rfl) ?_))
            | ((have _ := hB7); (fail_if_success (have _ := hXz)); (refine at_store_bk _ _ _ _ _ (by rfl) (by rfl) (by rfl) hXr7 rfl (by rfl) ?_); intro W9 hXz hg9 hz9; have hE9 := hE7.grown hg9 hE7.size (fun j hj => by obtain rfl := Option.some.inj hj; exact Nat.le_refl _)))
          refine ret_bk2 (by rfl) rfl _ _ rfl hXz ⟨_, rfl, (fun h => by cases h), bnext hU2 hE9⟩
        | true =>
          have HN := HNn.out (news_drop hin)
          have HG3 := HG2.out (fun _ => hF)
          simp only [hF, hf, hp, hH] at hFd1 hPt1 hHs1
          clear hf hp HG HG2 HNn HNs hxs hH hF
          go_wp2_with (first
            | ((fail_if_success (have _ := hB1)); (refine at_load_bk _ _ _ (by rfl) (by rfl) hXb0 (by rfl) ?_))
            | ((fail_if_success (have _ := hB1)); (refine at_load_ev _ _ _ (by rfl) (by rfl) hXe0 (by rfl) ?_))
            | ((fail_if_success (have _ := hB1)); (refine at_load_bk _ _ _ (by rfl) (by rfl) hXr0 (by rfl) ?_))
            | ((fail_if_success (have _ := hB1)); (refine at_load_bk _ _ _ (by rfl) (by rfl) hXo0 (by rfl) ?_))
            | ((fail_if_success (have _ := hB1)); (with_reducible refine (hFd1 hX0).mono ?_); rintro e w1 ⟨rfl, hB1⟩; have hXb1 := hXb0.below hB1; have hXe1 := hXe0.below hB1; have hXr1 := hXr0.below hB1; have hXo1 := hXo0.below hB1; have hFO1 := hO0.below hB1; have hC1 := bnext hX0 hB1; have hE1 := bnext hE hB1)
            | ((fail_if_success (have _ := hB2)); (have _ := hB1); (refine at_alloc_en (by rfl) (by rfl) ?_); intro V2 hXx2 hB2 hz2)
            | ((fail_if_success (have _ := hB3)); (have _ := hB2); (refine at_store_en _ _ _ _ _ (by rfl) (by rfl) (by rfl) hXx2 rfl (by rfl) ?_); intro V3 hXx3 hg3 hz3; have hB3 := hB2.grown hg3 hB2.size (by simp); have hXb3 := hXb1.below hB3; have hXe3 := hXe1.below hB3; have hXr3 := hXr1.below hB3; have hXo3 := hXo1.below hB3; have hFO3 := hFO1.below hB3; have hC3 := bnext hC1 hB3; have hE3 := bnext hE1 hB3; have c6 := cells6 hXe3; simp only at c6)
            | ((fail_if_success (have _ := hB4)); (have _ := hB3); (refine at_load_bk _ _ _ (by rfl) (by rfl) hXb3 (by rfl) ?_))
            | ((fail_if_success (have _ := hB4)); (have _ := hB3); (refine at_load_ev _ _ _ (by rfl) (by rfl) hXe3 (by rfl) ?_))
            | ((fail_if_success (have _ := hB4)); (have _ := hB3); (refine at_load_bk _ _ _ (by rfl) (by rfl) hXr3 (by rfl) ?_))
            | ((fail_if_success (have _ := hB4)); (have _ := hB3); (refine at_load_bk _ _ _ (by rfl) (by rfl) hXo3 (by rfl) ?_))
            | ((fail_if_success (have _ := hB4)); (have _ := hB3); (refine at_load_en _ _ _ (by rfl) (by rfl) hXx3 (by rfl) ?_))
            | ((fail_if_success (have _ := hB4)); (have _ := hB3); (with_reducible refine (hPt1 hC3).mono ?_); rintro e w4 ⟨rfl, hB4⟩; have hXb4 := hXb3.below hB4; have hXe4 := hXe3.below hB4; have hXr4 := hXr3.below hB4; have hXo4 := hXo3.below hB4; have hXx4 := hXx3.below hB4; have hFO4 := hFO3.below hB4; have hC4 := bnext hC3 hB4; have hE4 := bnext hE3 hB4)
            | ((fail_if_success (have _ := hB5)); (have _ := hB4); (refine at_alloc_po (by rfl) (by rfl) ?_); intro V5 hXp5 hB5 hz5)
            | ((fail_if_success (have _ := hB6)); (have _ := hB5); (refine at_store_po _ _ _ _ _ (by rfl) (by rfl) (by rfl) hXp5 rfl (by rfl) ?_); intro V6 hXp6 hg6 hz6; have hB6 := hB5.grown hg6 hB5.size (by simp); have hXb6 := hXb4.below hB6; have hXe6 := hXe4.below hB6; have hXr6 := hXr4.below hB6; have hXo6 := hXo4.below hB6; have hXx6 := hXx4.below hB6; have hFO6 := hFO4.below hB6; have hC6 := bnext hC4 hB6; have hE6 := bnext hE4 hB6; have c6 := cells6 hXe6; simp only at c6)
            | ((fail_if_success (have _ := hB7)); (have _ := hB6); (refine at_load_bk _ _ _ (by rfl) (by rfl) hXb6 (by rfl) ?_))
            | ((fail_if_success (have _ := hB7)); (have _ := hB6); (refine at_load_ev _ _ _ (by rfl) (by rfl) hXe6 (by rfl) ?_))
            | ((fail_if_success (have _ := hB7)); (have _ := hB6); (refine at_load_bk _ _ _ (by rfl) (by rfl) hXr6 (by rfl) ?_))
            | ((fail_if_success (have _ := hB7)); (have _ := hB6); (refine at_load_bk _ _ _ (by rfl) (by rfl) hXo6 (by rfl) ?_))
            | ((fail_if_success (have _ := hB7)); (have _ := hB6); (refine at_load_en _ _ _ (by rfl) (by rfl) hXx6 (by rfl) ?_))
            | ((fail_if_success (have _ := hB7)); (have _ := hB6); (refine at_load_po _ _ _ (by rfl) (by rfl) hXp6 (by rfl) ?_))
            | ((fail_if_success (have _ := hB7)); (have _ := hB6); (with_reducible refine (hHs1 hC6).mono ?_); rintro e w7 ⟨rfl, hB7⟩; have hXb7 := hXb6.below hB7; have hXe7 := hXe6.below hB7; have hXr7 := hXr6.below hB7; have hXo7 := hXo6.below hB7; have hXx7 := hXx6.below hB7; have hXp7 := hXp6.below hB7; have hFO7 := hFO6.below hB7; have hC7 := bnext hC6 hB7; have hE7 := bnext hE6 hB7; have co := cells_bk hXo7; simp only at co)
            | ((fail_if_success (have _ := hB8)); (have _ := hB7); (refine at_load_bk _ _ _ (by rfl) (by rfl) hXb7 (by rfl) ?_))
            | ((fail_if_success (have _ := hB8)); (have _ := hB7); (refine at_load_ev _ _ _ (by rfl) (by rfl) hXe7 (by rfl) ?_))
            | ((fail_if_success (have _ := hB8)); (have _ := hB7); (refine at_load_bk _ _ _ (by rfl) (by rfl) hXr7 (by rfl) ?_))
            | ((fail_if_success (have _ := hB8)); (have _ := hB7); (refine at_load_bk _ _ _ (by rfl) (by rfl) hXo7 (by rfl) ?_))
            | ((fail_if_success (have _ := hB8)); (have _ := hB7); (refine at_load_en _ _ _ (by rfl) (by rfl) hXx7 (by rfl) ?_))
            | ((fail_if_success (have _ := hB8)); (have _ := hB7); (refine at_load_po _ _ _ (by rfl) (by rfl) hXp7 (by rfl) ?_)))
          go_roundw
          case rel => exact ⟨k + 1, q', n', c', by omega, by first | (simp; done) | simp [hnx], hE7, hXr7, hXo7, by rw [HN]; exact hFO7, HG3⟩
          case measure => simp [intOf]; have := HS.out; omega
      | false =>
        have hin := of_decide_eq_false hH
        have HG3 := HG2.out (fun h => absurd h hin)
        cases hP : putB ps s with
        | true =>
          have HN := HNs.out _ (news_put hin hP)
          rw [hp, hf] at HN
          simp only [hP, hf, hp, hH] at hFd1 hPt1 hHs1
          clear hf hp HG HG2 HNn HNs hxs hH hP
          cases hF : foundB es s with
          | true =>
            simp only [hF] at hFd1
            clear hF
            go_wp2_with (first
              | ((fail_if_success (have _ := hB1)); (refine at_load_bk _ _ _ (by rfl) (by rfl) hXb0 (by rfl) ?_))
              | ((fail_if_success (have _ := hB1)); (refine at_load_ev _ _ _ (by rfl) (by rfl) hXe0 (by rfl) ?_))
              | ((fail_if_success (have _ := hB1)); (refine at_load_bk _ _ _ (by rfl) (by rfl) hXr0 (by rfl) ?_))
              | ((fail_if_success (have _ := hB1)); (refine at_load_bk _ _ _ (by rfl) (by rfl) hXo0 (by rfl) ?_))
              | ((fail_if_success (have _ := hB1)); (with_reducible refine (hFd1 hX0).mono ?_); rintro e w1 ⟨rfl, hB1⟩; have hXb1 := hXb0.below hB1; have hXe1 := hXe0.below hB1; have hXr1 := hXr0.below hB1; have hXo1 := hXo0.below hB1; have hFO1 := hO0.below hB1; have hC1 := bnext hX0 hB1; have hE1 := bnext hE hB1)
              | ((fail_if_success (have _ := hB2)); (have _ := hB1); (refine at_alloc_en (by rfl) (by rfl) ?_); intro V2 hXx2 hB2 hz2)
              | ((fail_if_success (have _ := hB3)); (have _ := hB2); (refine at_store_en _ _ _ _ _ (by rfl) (by rfl) (by rfl) hXx2 rfl (by rfl) ?_); intro V3 hXx3 hg3 hz3; have hB3 := hB2.grown hg3 hB2.size (by simp); have hXb3 := hXb1.below hB3; have hXe3 := hXe1.below hB3; have hXr3 := hXr1.below hB3; have hXo3 := hXo1.below hB3; have hFO3 := hFO1.below hB3; have hC3 := bnext hC1 hB3; have hE3 := bnext hE1 hB3; have c6 := cells6 hXe3; simp only at c6)
              | ((fail_if_success (have _ := hB4)); (have _ := hB3); (refine at_load_bk _ _ _ (by rfl) (by rfl) hXb3 (by rfl) ?_))
              | ((fail_if_success (have _ := hB4)); (have _ := hB3); (refine at_load_ev _ _ _ (by rfl) (by rfl) hXe3 (by rfl) ?_))
              | ((fail_if_success (have _ := hB4)); (have _ := hB3); (refine at_load_bk _ _ _ (by rfl) (by rfl) hXr3 (by rfl) ?_))
              | ((fail_if_success (have _ := hB4)); (have _ := hB3); (refine at_load_bk _ _ _ (by rfl) (by rfl) hXo3 (by rfl) ?_))
              | ((fail_if_success (have _ := hB4)); (have _ := hB3); (refine at_load_en _ _ _ (by rfl) (by rfl) hXx3 (by rfl) ?_))
              | ((fail_if_success (have _ := hB4)); (have _ := hB3); (with_reducible refine (hPt1 hC3).mono ?_); rintro e w4 ⟨rfl, hB4⟩; have hXb4 := hXb3.below hB4; have hXe4 := hXe3.below hB4; have hXr4 := hXr3.below hB4; have hXo4 := hXo3.below hB4; have hXx4 := hXx3.below hB4; have hFO4 := hFO3.below hB4; have hC4 := bnext hC3 hB4; have hE4 := bnext hE3 hB4)
              | ((fail_if_success (have _ := hB5)); (have _ := hB4); (refine at_alloc_po (by rfl) (by rfl) ?_); intro V5 hXp5 hB5 hz5)
              | ((fail_if_success (have _ := hB6)); (have _ := hB5); (refine at_store_po _ _ _ _ _ (by rfl) (by rfl) (by rfl) hXp5 rfl (by rfl) ?_); intro V6 hXp6 hg6 hz6; have hB6 := hB5.grown hg6 hB5.size (by simp); have hXb6 := hXb4.below hB6; have hXe6 := hXe4.below hB6; have hXr6 := hXr4.below hB6; have hXo6 := hXo4.below hB6; have hXx6 := hXx4.below hB6; have hFO6 := hFO4.below hB6; have hC6 := bnext hC4 hB6; have hE6 := bnext hE4 hB6; have c6 := cells6 hXe6; simp only at c6)
              | ((fail_if_success (have _ := hB7)); (have _ := hB6); (refine at_load_bk _ _ _ (by rfl) (by rfl) hXb6 (by rfl) ?_))
              | ((fail_if_success (have _ := hB7)); (have _ := hB6); (refine at_load_ev _ _ _ (by rfl) (by rfl) hXe6 (by rfl) ?_))
              | ((fail_if_success (have _ := hB7)); (have _ := hB6); (refine at_load_bk _ _ _ (by rfl) (by rfl) hXr6 (by rfl) ?_))
              | ((fail_if_success (have _ := hB7)); (have _ := hB6); (refine at_load_bk _ _ _ (by rfl) (by rfl) hXo6 (by rfl) ?_))
              | ((fail_if_success (have _ := hB7)); (have _ := hB6); (refine at_load_en _ _ _ (by rfl) (by rfl) hXx6 (by rfl) ?_))
              | ((fail_if_success (have _ := hB7)); (have _ := hB6); (refine at_load_po _ _ _ (by rfl) (by rfl) hXp6 (by rfl) ?_))
              | ((fail_if_success (have _ := hB7)); (have _ := hB6); (with_reducible refine (hHs1 hC6).mono ?_); rintro e w7 ⟨rfl, hB7⟩; have hXb7 := hXb6.below hB7; have hXe7 := hXe6.below hB7; have hXr7 := hXr6.below hB7; have hXo7 := hXo6.below hB7; have hXx7 := hXx6.below hB7; have hXp7 := hXp6.below hB7; have hFO7 := hFO6.below hB7; have hC7 := bnext hC6 hB7; have hE7 := bnext hE6 hB7; have co := cells_bk hXo7; simp only at co)
              | ((fail_if_success (have _ := hB8)); (have _ := hB7); (refine at_load_bk _ _ _ (by rfl) (by rfl) hXb7 (by rfl) ?_))
              | ((fail_if_success (have _ := hB8)); (have _ := hB7); (refine at_load_ev _ _ _ (by rfl) (by rfl) hXe7 (by rfl) ?_))
              | ((fail_if_success (have _ := hB8)); (have _ := hB7); (refine at_load_bk _ _ _ (by rfl) (by rfl) hXr7 (by rfl) ?_))
              | ((fail_if_success (have _ := hB8)); (have _ := hB7); (refine at_load_bk _ _ _ (by rfl) (by rfl) hXo7 (by rfl) ?_))
              | ((fail_if_success (have _ := hB8)); (have _ := hB7); (refine at_load_en _ _ _ (by rfl) (by rfl) hXx7 (by rfl) ?_))
              | ((fail_if_success (have _ := hB8)); (have _ := hB7); (refine at_load_po _ _ _ (by rfl) (by rfl) hXp7 (by rfl) ?_))
              | ((have _ := hB7); (fail_if_success (have _ := hXx9)); (refine at_blk_pol _ _ _ _ _ (by rfl) (by rfl) (by rfl) hXx7 (by rfl) ?_); intro W2 hXx9 hg9 hz9; have hE9 := hE7.grown hg9 hE7.size (fun j hj => by obtain rfl := Option.some.inj hj; exact hE1.size); have hXr9 := hXr7.kept hg9 (by have := hXr1.lt; simp; omega); have hXo9 := hXo7.kept hg9 (by have := hXo1.lt; simp; omega); have hO9 := eo_far hFO1 hFO7 hg9 (Nat.le_refl _); have c9 := cells_bk hXo9; simp only at c9)
              | ((fail_if_success (have _ := hOa)); (have _ := hXx9); (refine at_load_en _ _ _ (by rfl) (by rfl) hXx9 (by rfl) ?_))
              | ((fail_if_success (have _ := hOa)); (have _ := hXx9); (refine at_ent1 _ _ (by rfl) (by rfl) (by rfl) ?_); intro W3 r3 hB3' hz3'; have hXra := hXr9.below hB3'; have hXoa := hXo9.below hB3'; have hOa := hO9.below hB3'; have hEa := bnext hE9 hB3')
              | ((fail_if_success (have _ := ho4)); (have _ := hOa); (refine at_append_en _ _ (by rfl) U2.heap.size _ xs (by rfl) hOa _ 1 1 [(⟨p, f.g⟩ : En)] (by rfl) rfl r3 ?c1 ?c2 (by rfl) ?_)))
            case c1 => omega
            case c2 => exact hEa.size
            · intro v4 w4 ho4 hg4 _
              have hXr4 := hXra.kept hg4 (hOa.ne hXra (by decide))
              have hXo4 := hXoa.kept hg4 (hOa.ne hXoa (by decide))
              have hE4 := hEa.grown hg4 hEa.size (fun j hj => own_from_base hOa j hj)
              obtain ⟨q4, c4, hv4, -, -⟩ := ho4.shape
              obtain ⟨m4, hm4⟩ : ∃ m, (xs ++ [(⟨p, f.g⟩ : En)]).length = m := ⟨_, rfl⟩
              rw [hm4] at hv4
              subst hv4
              clear hm4
              clear hOa hXra hXoa r3
              have co4 := cells_bk hXo4
              simp only at co4
              go_wp2_with (first
                | ((fail_if_success (have _ := hXo59)); (refine at_put_ents _ _ U3.heap.size 1 _ _ q4 m4 c4 (by rfl) (by rfl) (by rfl) hXo4 (by simp [bl]) (by rfl) ?_); intro W5 hXo59 hg59 hz5; have hO59 := ho4.off hXo4 (by decide) hg59; have hXr59 := hXr4.kept hg59 hne; have hE59 := hE4.grown hg59 hE4.size (fun j hj => by obtain rfl := Option.some.inj hj; exact hw2)))
              go_roundw
              case rel => exact ⟨k + 1, q4, m4, c4, by omega, by first | (simp; done) | simp [hnx], hE59, hXr59, hXo59, by rw [HN]; exact hO59, HG3⟩
              case measure => simp [intOf]; have := HS.out; omega
          | false =>
            simp only [hF] at hFd1
            clear hF
            go_wp2_with (first
              | ((fail_if_success (have _ := hB1)); (refine at_load_bk _ _ _ (by rfl) (by rfl) hXb0 (by rfl) ?_))
              | ((fail_if_success (have _ := hB1)); (refine at_load_ev _ _ _ (by rfl) (by rfl) hXe0 (by rfl) ?_))
              | ((fail_if_success (have _ := hB1)); (refine at_load_bk _ _ _ (by rfl) (by rfl) hXr0 (by rfl) ?_))
              | ((fail_if_success (have _ := hB1)); (refine at_load_bk _ _ _ (by rfl) (by rfl) hXo0 (by rfl) ?_))
              | ((fail_if_success (have _ := hB1)); (with_reducible refine (hFd1 hX0).mono ?_); rintro e w1 ⟨rfl, hB1⟩; have hXb1 := hXb0.below hB1; have hXe1 := hXe0.below hB1; have hXr1 := hXr0.below hB1; have hXo1 := hXo0.below hB1; have hFO1 := hO0.below hB1; have hC1 := bnext hX0 hB1; have hE1 := bnext hE hB1)
              | ((fail_if_success (have _ := hB2)); (have _ := hB1); (refine at_alloc_en (by rfl) (by rfl) ?_); intro V2 hXx2 hB2 hz2)
              | ((fail_if_success (have _ := hB3)); (have _ := hB2); (refine at_store_en _ _ _ _ _ (by rfl) (by rfl) (by rfl) hXx2 rfl (by rfl) ?_); intro V3 hXx3 hg3 hz3; have hB3 := hB2.grown hg3 hB2.size (by simp); have hXb3 := hXb1.below hB3; have hXe3 := hXe1.below hB3; have hXr3 := hXr1.below hB3; have hXo3 := hXo1.below hB3; have hFO3 := hFO1.below hB3; have hC3 := bnext hC1 hB3; have hE3 := bnext hE1 hB3; have c6 := cells6 hXe3; simp only at c6)
              | ((fail_if_success (have _ := hB4)); (have _ := hB3); (refine at_load_bk _ _ _ (by rfl) (by rfl) hXb3 (by rfl) ?_))
              | ((fail_if_success (have _ := hB4)); (have _ := hB3); (refine at_load_ev _ _ _ (by rfl) (by rfl) hXe3 (by rfl) ?_))
              | ((fail_if_success (have _ := hB4)); (have _ := hB3); (refine at_load_bk _ _ _ (by rfl) (by rfl) hXr3 (by rfl) ?_))
              | ((fail_if_success (have _ := hB4)); (have _ := hB3); (refine at_load_bk _ _ _ (by rfl) (by rfl) hXo3 (by rfl) ?_))
              | ((fail_if_success (have _ := hB4)); (have _ := hB3); (refine at_load_en _ _ _ (by rfl) (by rfl) hXx3 (by rfl) ?_))
              | ((fail_if_success (have _ := hB4)); (have _ := hB3); (with_reducible refine (hPt1 hC3).mono ?_); rintro e w4 ⟨rfl, hB4⟩; have hXb4 := hXb3.below hB4; have hXe4 := hXe3.below hB4; have hXr4 := hXr3.below hB4; have hXo4 := hXo3.below hB4; have hXx4 := hXx3.below hB4; have hFO4 := hFO3.below hB4; have hC4 := bnext hC3 hB4; have hE4 := bnext hE3 hB4)
              | ((fail_if_success (have _ := hB5)); (have _ := hB4); (refine at_alloc_po (by rfl) (by rfl) ?_); intro V5 hXp5 hB5 hz5)
              | ((fail_if_success (have _ := hB6)); (have _ := hB5); (refine at_store_po _ _ _ _ _ (by rfl) (by rfl) (by rfl) hXp5 rfl (by rfl) ?_); intro V6 hXp6 hg6 hz6; have hB6 := hB5.grown hg6 hB5.size (by simp); have hXb6 := hXb4.below hB6; have hXe6 := hXe4.below hB6; have hXr6 := hXr4.below hB6; have hXo6 := hXo4.below hB6; have hXx6 := hXx4.below hB6; have hFO6 := hFO4.below hB6; have hC6 := bnext hC4 hB6; have hE6 := bnext hE4 hB6; have c6 := cells6 hXe6; simp only at c6)
              | ((fail_if_success (have _ := hB7)); (have _ := hB6); (refine at_load_bk _ _ _ (by rfl) (by rfl) hXb6 (by rfl) ?_))
              | ((fail_if_success (have _ := hB7)); (have _ := hB6); (refine at_load_ev _ _ _ (by rfl) (by rfl) hXe6 (by rfl) ?_))
              | ((fail_if_success (have _ := hB7)); (have _ := hB6); (refine at_load_bk _ _ _ (by rfl) (by rfl) hXr6 (by rfl) ?_))
              | ((fail_if_success (have _ := hB7)); (have _ := hB6); (refine at_load_bk _ _ _ (by rfl) (by rfl) hXo6 (by rfl) ?_))
              | ((fail_if_success (have _ := hB7)); (have _ := hB6); (refine at_load_en _ _ _ (by rfl) (by rfl) hXx6 (by rfl) ?_))
              | ((fail_if_success (have _ := hB7)); (have _ := hB6); (refine at_load_po _ _ _ (by rfl) (by rfl) hXp6 (by rfl) ?_))
              | ((fail_if_success (have _ := hB7)); (have _ := hB6); (with_reducible refine (hHs1 hC6).mono ?_); rintro e w7 ⟨rfl, hB7⟩; have hXb7 := hXb6.below hB7; have hXe7 := hXe6.below hB7; have hXr7 := hXr6.below hB7; have hXo7 := hXo6.below hB7; have hXx7 := hXx6.below hB7; have hXp7 := hXp6.below hB7; have hFO7 := hFO6.below hB7; have hC7 := bnext hC6 hB7; have hE7 := bnext hE6 hB7; have co := cells_bk hXo7; simp only at co)
              | ((fail_if_success (have _ := hB8)); (have _ := hB7); (refine at_load_bk _ _ _ (by rfl) (by rfl) hXb7 (by rfl) ?_))
              | ((fail_if_success (have _ := hB8)); (have _ := hB7); (refine at_load_ev _ _ _ (by rfl) (by rfl) hXe7 (by rfl) ?_))
              | ((fail_if_success (have _ := hB8)); (have _ := hB7); (refine at_load_bk _ _ _ (by rfl) (by rfl) hXr7 (by rfl) ?_))
              | ((fail_if_success (have _ := hB8)); (have _ := hB7); (refine at_load_bk _ _ _ (by rfl) (by rfl) hXo7 (by rfl) ?_))
              | ((fail_if_success (have _ := hB8)); (have _ := hB7); (refine at_load_en _ _ _ (by rfl) (by rfl) hXx7 (by rfl) ?_))
              | ((fail_if_success (have _ := hB8)); (have _ := hB7); (refine at_load_po _ _ _ (by rfl) (by rfl) hXp7 (by rfl) ?_))
              | ((have _ := hB7); (fail_if_success (have _ := hXx9)); (refine at_blk_pol _ _ _ _ _ (by rfl) (by rfl) (by rfl) hXx7 (by rfl) ?_); intro W2 hXx9 hg9 hz9; have hE9 := hE7.grown hg9 hE7.size (fun j hj => by obtain rfl := Option.some.inj hj; exact hE1.size); have hXr9 := hXr7.kept hg9 (by have := hXr1.lt; simp; omega); have hXo9 := hXo7.kept hg9 (by have := hXo1.lt; simp; omega); have hO9 := eo_far hFO1 hFO7 hg9 (Nat.le_refl _); have c9 := cells_bk hXo9; simp only at c9)
              | ((fail_if_success (have _ := hOa)); (have _ := hXx9); (refine at_load_en _ _ _ (by rfl) (by rfl) hXx9 (by rfl) ?_))
              | ((fail_if_success (have _ := hOa)); (have _ := hXx9); (refine at_ent1 _ _ (by rfl) (by rfl) (by rfl) ?_); intro W3 r3 hB3' hz3'; have hXra := hXr9.below hB3'; have hXoa := hXo9.below hB3'; have hOa := hO9.below hB3'; have hEa := bnext hE9 hB3')
              | ((fail_if_success (have _ := ho4)); (have _ := hOa); (refine at_append_en _ _ (by rfl) U2.heap.size _ xs (by rfl) hOa _ 1 1 [(⟨p, f.g⟩ : En)] (by rfl) rfl r3 ?c1 ?c2 (by rfl) ?_)))
            case c1 => omega
            case c2 => exact hEa.size
            · intro v4 w4 ho4 hg4 _
              have hXr4 := hXra.kept hg4 (hOa.ne hXra (by decide))
              have hXo4 := hXoa.kept hg4 (hOa.ne hXoa (by decide))
              have hE4 := hEa.grown hg4 hEa.size (fun j hj => own_from_base hOa j hj)
              obtain ⟨q4, c4, hv4, -, -⟩ := ho4.shape
              obtain ⟨m4, hm4⟩ : ∃ m, (xs ++ [(⟨p, f.g⟩ : En)]).length = m := ⟨_, rfl⟩
              rw [hm4] at hv4
              subst hv4
              clear hm4
              clear hOa hXra hXoa r3
              have co4 := cells_bk hXo4
              simp only at co4
              go_wp2_with (first
                | ((fail_if_success (have _ := hXo59)); (refine at_put_ents _ _ U3.heap.size 1 _ _ q4 m4 c4 (by rfl) (by rfl) (by rfl) hXo4 (by simp [bl]) (by rfl) ?_); intro W5 hXo59 hg59 hz5; have hO59 := ho4.off hXo4 (by decide) hg59; have hXr59 := hXr4.kept hg59 hne; have hE59 := hE4.grown hg59 hE4.size (fun j hj => by obtain rfl := Option.some.inj hj; exact hw2)))
              go_roundw
              case rel => exact ⟨k + 1, q4, m4, c4, by omega, by first | (simp; done) | simp [hnx], hE59, hXr59, hXo59, by rw [HN]; exact hO59, HG3⟩
              case measure => simp [intOf]; have := HS.out; omega
        | false =>
          cases hF : foundB es s with
          | true =>
            have HN := HNs.out _ (news_old hin hP hF)
            rw [hf] at HN
            simp only [hP, hF, hf, hp, hH] at hFd1 hPt1 hHs1
            clear hf hp HG HG2 HNn HNs hxs hH hP hF
            go_wp2_with (first
              | ((fail_if_success (have _ := hB1)); (refine at_load_bk _ _ _ (by rfl) (by rfl) hXb0 (by rfl) ?_))
              | ((fail_if_success (have _ := hB1)); (refine at_load_ev _ _ _ (by rfl) (by rfl) hXe0 (by rfl) ?_))
              | ((fail_if_success (have _ := hB1)); (refine at_load_bk _ _ _ (by rfl) (by rfl) hXr0 (by rfl) ?_))
              | ((fail_if_success (have _ := hB1)); (refine at_load_bk _ _ _ (by rfl) (by rfl) hXo0 (by rfl) ?_))
              | ((fail_if_success (have _ := hB1)); (with_reducible refine (hFd1 hX0).mono ?_); rintro e w1 ⟨rfl, hB1⟩; have hXb1 := hXb0.below hB1; have hXe1 := hXe0.below hB1; have hXr1 := hXr0.below hB1; have hXo1 := hXo0.below hB1; have hFO1 := hO0.below hB1; have hC1 := bnext hX0 hB1; have hE1 := bnext hE hB1)
              | ((fail_if_success (have _ := hB2)); (have _ := hB1); (refine at_alloc_en (by rfl) (by rfl) ?_); intro V2 hXx2 hB2 hz2)
              | ((fail_if_success (have _ := hB3)); (have _ := hB2); (refine at_store_en _ _ _ _ _ (by rfl) (by rfl) (by rfl) hXx2 rfl (by rfl) ?_); intro V3 hXx3 hg3 hz3; have hB3 := hB2.grown hg3 hB2.size (by simp); have hXb3 := hXb1.below hB3; have hXe3 := hXe1.below hB3; have hXr3 := hXr1.below hB3; have hXo3 := hXo1.below hB3; have hFO3 := hFO1.below hB3; have hC3 := bnext hC1 hB3; have hE3 := bnext hE1 hB3; have c6 := cells6 hXe3; simp only at c6)
              | ((fail_if_success (have _ := hB4)); (have _ := hB3); (refine at_load_bk _ _ _ (by rfl) (by rfl) hXb3 (by rfl) ?_))
              | ((fail_if_success (have _ := hB4)); (have _ := hB3); (refine at_load_ev _ _ _ (by rfl) (by rfl) hXe3 (by rfl) ?_))
              | ((fail_if_success (have _ := hB4)); (have _ := hB3); (refine at_load_bk _ _ _ (by rfl) (by rfl) hXr3 (by rfl) ?_))
              | ((fail_if_success (have _ := hB4)); (have _ := hB3); (refine at_load_bk _ _ _ (by rfl) (by rfl) hXo3 (by rfl) ?_))
              | ((fail_if_success (have _ := hB4)); (have _ := hB3); (refine at_load_en _ _ _ (by rfl) (by rfl) hXx3 (by rfl) ?_))
              | ((fail_if_success (have _ := hB4)); (have _ := hB3); (with_reducible refine (hPt1 hC3).mono ?_); rintro e w4 ⟨rfl, hB4⟩; have hXb4 := hXb3.below hB4; have hXe4 := hXe3.below hB4; have hXr4 := hXr3.below hB4; have hXo4 := hXo3.below hB4; have hXx4 := hXx3.below hB4; have hFO4 := hFO3.below hB4; have hC4 := bnext hC3 hB4; have hE4 := bnext hE3 hB4)
              | ((fail_if_success (have _ := hB5)); (have _ := hB4); (refine at_alloc_po (by rfl) (by rfl) ?_); intro V5 hXp5 hB5 hz5)
              | ((fail_if_success (have _ := hB6)); (have _ := hB5); (refine at_store_po _ _ _ _ _ (by rfl) (by rfl) (by rfl) hXp5 rfl (by rfl) ?_); intro V6 hXp6 hg6 hz6; have hB6 := hB5.grown hg6 hB5.size (by simp); have hXb6 := hXb4.below hB6; have hXe6 := hXe4.below hB6; have hXr6 := hXr4.below hB6; have hXo6 := hXo4.below hB6; have hXx6 := hXx4.below hB6; have hFO6 := hFO4.below hB6; have hC6 := bnext hC4 hB6; have hE6 := bnext hE4 hB6; have c6 := cells6 hXe6; simp only at c6)
              | ((fail_if_success (have _ := hB7)); (have _ := hB6); (refine at_load_bk _ _ _ (by rfl) (by rfl) hXb6 (by rfl) ?_))
              | ((fail_if_success (have _ := hB7)); (have _ := hB6); (refine at_load_ev _ _ _ (by rfl) (by rfl) hXe6 (by rfl) ?_))
              | ((fail_if_success (have _ := hB7)); (have _ := hB6); (refine at_load_bk _ _ _ (by rfl) (by rfl) hXr6 (by rfl) ?_))
              | ((fail_if_success (have _ := hB7)); (have _ := hB6); (refine at_load_bk _ _ _ (by rfl) (by rfl) hXo6 (by rfl) ?_))
              | ((fail_if_success (have _ := hB7)); (have _ := hB6); (refine at_load_en _ _ _ (by rfl) (by rfl) hXx6 (by rfl) ?_))
              | ((fail_if_success (have _ := hB7)); (have _ := hB6); (refine at_load_po _ _ _ (by rfl) (by rfl) hXp6 (by rfl) ?_))
              | ((fail_if_success (have _ := hB7)); (have _ := hB6); (with_reducible refine (hHs1 hC6).mono ?_); rintro e w7 ⟨rfl, hB7⟩; have hXb7 := hXb6.below hB7; have hXe7 := hXe6.below hB7; have hXr7 := hXr6.below hB7; have hXo7 := hXo6.below hB7; have hXx7 := hXx6.below hB7; have hXp7 := hXp6.below hB7; have hFO7 := hFO6.below hB7; have hC7 := bnext hC6 hB7; have hE7 := bnext hE6 hB7; have co := cells_bk hXo7; simp only at co)
              | ((fail_if_success (have _ := hB8)); (have _ := hB7); (refine at_load_bk _ _ _ (by rfl) (by rfl) hXb7 (by rfl) ?_))
              | ((fail_if_success (have _ := hB8)); (have _ := hB7); (refine at_load_ev _ _ _ (by rfl) (by rfl) hXe7 (by rfl) ?_))
              | ((fail_if_success (have _ := hB8)); (have _ := hB7); (refine at_load_bk _ _ _ (by rfl) (by rfl) hXr7 (by rfl) ?_))
              | ((fail_if_success (have _ := hB8)); (have _ := hB7); (refine at_load_bk _ _ _ (by rfl) (by rfl) hXo7 (by rfl) ?_))
              | ((fail_if_success (have _ := hB8)); (have _ := hB7); (refine at_load_en _ _ _ (by rfl) (by rfl) hXx7 (by rfl) ?_))
              | ((fail_if_success (have _ := hB8)); (have _ := hB7); (refine at_load_po _ _ _ (by rfl) (by rfl) hXp7 (by rfl) ?_))
              | ((have _ := hB7); (fail_if_success (have _ := hOa)); (refine at_ent1 _ _ (by rfl) (by rfl) (by rfl) ?_); intro W3 r3 hB3' hz3'; have hXra := hXr7.below hB3'; have hXoa := hXo7.below hB3'; have hOa := hFO7.below hB3'; have hEa := bnext hE7 hB3')
              | ((fail_if_success (have _ := ho4)); (have _ := hOa); (refine at_append_en _ _ (by rfl) U2.heap.size _ xs (by rfl) hOa _ 1 1 [f] (by rfl) rfl r3 ?c1 ?c2 (by rfl) ?_)))
            case c1 => omega
            case c2 => exact hEa.size
            · intro v4 w4 ho4 hg4 _
              have hXr4 := hXra.kept hg4 (hOa.ne hXra (by decide))
              have hXo4 := hXoa.kept hg4 (hOa.ne hXoa (by decide))
              have hE4 := hEa.grown hg4 hEa.size (fun j hj => own_from_base hOa j hj)
              obtain ⟨q4, c4, hv4, -, -⟩ := ho4.shape
              obtain ⟨m4, hm4⟩ : ∃ m, (xs ++ [(f : En)]).length = m := ⟨_, rfl⟩
              rw [hm4] at hv4
              subst hv4
              clear hm4
              clear hOa hXra hXoa r3
              have co4 := cells_bk hXo4
              simp only at co4
              go_wp2_with (first
                | ((fail_if_success (have _ := hXo59)); (refine at_put_ents _ _ U3.heap.size 1 _ _ q4 m4 c4 (by rfl) (by rfl) (by rfl) hXo4 (by simp [bl]) (by rfl) ?_); intro W5 hXo59 hg59 hz5; have hO59 := ho4.off hXo4 (by decide) hg59; have hXr59 := hXr4.kept hg59 hne; have hE59 := hE4.grown hg59 hE4.size (fun j hj => by obtain rfl := Option.some.inj hj; exact hw2)))
              go_roundw
              case rel => exact ⟨k + 1, q4, m4, c4, by omega, by first | (simp; done) | simp [hnx], hE59, hXr59, hXo59, by rw [HN]; exact hO59, HG3⟩
              case measure => simp [intOf]; have := HS.out; omega
          | false =>
            have HN := HNn.out (news_no hin hP hF)
            simp only [hP, hF, hf, hp, hH] at hFd1 hPt1 hHs1
            clear hf hp HG HG2 HNn HNs hxs hH hP hF
            go_wp2_with (first
              | ((fail_if_success (have _ := hB1)); (refine at_load_bk _ _ _ (by rfl) (by rfl) hXb0 (by rfl) ?_))
              | ((fail_if_success (have _ := hB1)); (refine at_load_ev _ _ _ (by rfl) (by rfl) hXe0 (by rfl) ?_))
              | ((fail_if_success (have _ := hB1)); (refine at_load_bk _ _ _ (by rfl) (by rfl) hXr0 (by rfl) ?_))
              | ((fail_if_success (have _ := hB1)); (refine at_load_bk _ _ _ (by rfl) (by rfl) hXo0 (by rfl) ?_))
              | ((fail_if_success (have _ := hB1)); (with_reducible refine (hFd1 hX0).mono ?_); rintro e w1 ⟨rfl, hB1⟩; have hXb1 := hXb0.below hB1; have hXe1 := hXe0.below hB1; have hXr1 := hXr0.below hB1; have hXo1 := hXo0.below hB1; have hFO1 := hO0.below hB1; have hC1 := bnext hX0 hB1; have hE1 := bnext hE hB1)
              | ((fail_if_success (have _ := hB2)); (have _ := hB1); (refine at_alloc_en (by rfl) (by rfl) ?_); intro V2 hXx2 hB2 hz2)
              | ((fail_if_success (have _ := hB3)); (have _ := hB2); (refine at_store_en _ _ _ _ _ (by rfl) (by rfl) (by rfl) hXx2 rfl (by rfl) ?_); intro V3 hXx3 hg3 hz3; have hB3 := hB2.grown hg3 hB2.size (by simp); have hXb3 := hXb1.below hB3; have hXe3 := hXe1.below hB3; have hXr3 := hXr1.below hB3; have hXo3 := hXo1.below hB3; have hFO3 := hFO1.below hB3; have hC3 := bnext hC1 hB3; have hE3 := bnext hE1 hB3; have c6 := cells6 hXe3; simp only at c6)
              | ((fail_if_success (have _ := hB4)); (have _ := hB3); (refine at_load_bk _ _ _ (by rfl) (by rfl) hXb3 (by rfl) ?_))
              | ((fail_if_success (have _ := hB4)); (have _ := hB3); (refine at_load_ev _ _ _ (by rfl) (by rfl) hXe3 (by rfl) ?_))
              | ((fail_if_success (have _ := hB4)); (have _ := hB3); (refine at_load_bk _ _ _ (by rfl) (by rfl) hXr3 (by rfl) ?_))
              | ((fail_if_success (have _ := hB4)); (have _ := hB3); (refine at_load_bk _ _ _ (by rfl) (by rfl) hXo3 (by rfl) ?_))
              | ((fail_if_success (have _ := hB4)); (have _ := hB3); (refine at_load_en _ _ _ (by rfl) (by rfl) hXx3 (by rfl) ?_))
              | ((fail_if_success (have _ := hB4)); (have _ := hB3); (with_reducible refine (hPt1 hC3).mono ?_); rintro e w4 ⟨rfl, hB4⟩; have hXb4 := hXb3.below hB4; have hXe4 := hXe3.below hB4; have hXr4 := hXr3.below hB4; have hXo4 := hXo3.below hB4; have hXx4 := hXx3.below hB4; have hFO4 := hFO3.below hB4; have hC4 := bnext hC3 hB4; have hE4 := bnext hE3 hB4)
              | ((fail_if_success (have _ := hB5)); (have _ := hB4); (refine at_alloc_po (by rfl) (by rfl) ?_); intro V5 hXp5 hB5 hz5)
              | ((fail_if_success (have _ := hB6)); (have _ := hB5); (refine at_store_po _ _ _ _ _ (by rfl) (by rfl) (by rfl) hXp5 rfl (by rfl) ?_); intro V6 hXp6 hg6 hz6; have hB6 := hB5.grown hg6 hB5.size (by simp); have hXb6 := hXb4.below hB6; have hXe6 := hXe4.below hB6; have hXr6 := hXr4.below hB6; have hXo6 := hXo4.below hB6; have hXx6 := hXx4.below hB6; have hFO6 := hFO4.below hB6; have hC6 := bnext hC4 hB6; have hE6 := bnext hE4 hB6; have c6 := cells6 hXe6; simp only at c6)
              | ((fail_if_success (have _ := hB7)); (have _ := hB6); (refine at_load_bk _ _ _ (by rfl) (by rfl) hXb6 (by rfl) ?_))
              | ((fail_if_success (have _ := hB7)); (have _ := hB6); (refine at_load_ev _ _ _ (by rfl) (by rfl) hXe6 (by rfl) ?_))
              | ((fail_if_success (have _ := hB7)); (have _ := hB6); (refine at_load_bk _ _ _ (by rfl) (by rfl) hXr6 (by rfl) ?_))
              | ((fail_if_success (have _ := hB7)); (have _ := hB6); (refine at_load_bk _ _ _ (by rfl) (by rfl) hXo6 (by rfl) ?_))
              | ((fail_if_success (have _ := hB7)); (have _ := hB6); (refine at_load_en _ _ _ (by rfl) (by rfl) hXx6 (by rfl) ?_))
              | ((fail_if_success (have _ := hB7)); (have _ := hB6); (refine at_load_po _ _ _ (by rfl) (by rfl) hXp6 (by rfl) ?_))
              | ((fail_if_success (have _ := hB7)); (have _ := hB6); (with_reducible refine (hHs1 hC6).mono ?_); rintro e w7 ⟨rfl, hB7⟩; have hXb7 := hXb6.below hB7; have hXe7 := hXe6.below hB7; have hXr7 := hXr6.below hB7; have hXo7 := hXo6.below hB7; have hXx7 := hXx6.below hB7; have hXp7 := hXp6.below hB7; have hFO7 := hFO6.below hB7; have hC7 := bnext hC6 hB7; have hE7 := bnext hE6 hB7; have co := cells_bk hXo7; simp only at co)
              | ((fail_if_success (have _ := hB8)); (have _ := hB7); (refine at_load_bk _ _ _ (by rfl) (by rfl) hXb7 (by rfl) ?_))
              | ((fail_if_success (have _ := hB8)); (have _ := hB7); (refine at_load_ev _ _ _ (by rfl) (by rfl) hXe7 (by rfl) ?_))
              | ((fail_if_success (have _ := hB8)); (have _ := hB7); (refine at_load_bk _ _ _ (by rfl) (by rfl) hXr7 (by rfl) ?_))
              | ((fail_if_success (have _ := hB8)); (have _ := hB7); (refine at_load_bk _ _ _ (by rfl) (by rfl) hXo7 (by rfl) ?_))
              | ((fail_if_success (have _ := hB8)); (have _ := hB7); (refine at_load_en _ _ _ (by rfl) (by rfl) hXx7 (by rfl) ?_))
              | ((fail_if_success (have _ := hB8)); (have _ := hB7); (refine at_load_po _ _ _ (by rfl) (by rfl) hXp7 (by rfl) ?_)))
            go_roundw
            case rel => exact ⟨k + 1, q', n', c', by omega, by first | (simp; done) | simp [hnx], hE7, hXr7, hXo7, by rw [HN]; exact hFO7, HG3⟩
            case measure => simp [intOf]; have := HS.out; omega
    · obtain rfl : k = 255 := by omega
      have hD := HDyes.out (fun s h1 h2 h3 => HG.out s h1 h2 h3)
      subst hD
      have hO1 : EO U2.heap.size wr (.slice q' n' c') (comE es ps ds) := hO0
      have hle : decide (((255 : Nat) : Int) + 1 ≤ 255) = false := by decide
      clear HG HDno HDyes hO0 hFd hPt hHs
      go_wp2
      refine Inv.region_invB (fun L a w' => a = { tmps := #[(bv { t := t', q := q, n := n, c := c }), (ev { k := k0', s := s0', pp := pp, pn := pn, pc := pc, dp := dp, dn := dn, dc := dc, g := g0', t := u0' }), (Value.pointer (some { block := w.heap.size, off := 0 })), (Value.pointer (some { block := U1.heap.size, off := 0 })), (Value.pointer (some { block := U2.heap.size, off := 0 })), (if L 4 = true then (.bool C) else (u5)), (Value.pointer (some { block := U3.heap.size, off := 0 })), (Value.int IntKind.i64 (↑255 + 1)), (u8), (u9), (u10), (u11), (Value.pointer (some { block := w.heap.size, off := 0 })), (Value.int IntKind.u64 t'), (bv { t := t', q := none, n := 0, c := 0 }), (Value.int IntKind.i64 (↑255 + 1)), (Value.bool false), (u17), (u18), (u19), (u20), (u21), (u22), (u23), (u24), (u25), (u26), (u27), (u28), (u29), (u30), (u31), (u32), (u33), (u34), (u35), (u36), (u37), (u38), (u39), (u40), (u41), (u42), (u43), (u44), (u45), (u46), (u47), (u48), (u49), (u50), (u51), (if L 0 = true then (bv ⟨t', q', n', c'⟩) else undef), (if L 1 = true then (bv ⟨t', q', n', c'⟩) else undef), (if L 2 = true then (.bool C) else undef)], defers := [] } ∧ (Below U2.heap.size U2 w' ∧ Blk w' U2.heap.size 25 (bl (if L 3 = true then ⟨t', q', n', c'⟩ else zeroH)) ∧ Blk w' U3.heap.size 25 (bl ⟨t', q', n', c'⟩) ∧ EO U2.heap.size w' (.slice q' n' c') (comE es ps ds))) (by kernel_rfl) (by kernel_rfl) ?h0 ?step ?done
      case h0 => exact ⟨by simp, hE.drew, by simpa using hXr0.drew, hXo0.drew, hO1⟩
      case step =>
        refine Inv.Steps.cons rfl ?_ ?_
        · intro L a w' hI hL hd K hK
          obtain ⟨rfl, hI⟩ := hI
          clear hd
          rw [if_pos (by rfl)]
          refine wp_load_bk _ _ _ (by rfl) (by rfl) hI.2.2.1 ?_
          exact hK.out _ _ ⟨by simp [Act.put], by simpa using hI⟩
        refine Inv.Steps.cons rfl ?_ ?_
        · intro L a w' hI hL hd K hK
          obtain ⟨rfl, hI⟩ := hI
          clear hd
          rw [if_pos (by rfl)]
          refine wp_load_bk _ _ _ (by rfl) (by rfl) hI.2.2.1 ?_
          exact hK.out _ _ ⟨by simp [Act.put], by simpa using hI⟩
        refine Inv.Steps.cons rfl ?_ ?_
        · intro L a w' hI hL hd K hK
          obtain ⟨rfl, hI⟩ := hI
          simp [Region.binds] at hd
          simp only [hd, if_true]
          rw [if_pos (by rfl)]
          go_simp
          refine (hRt (isb_own hI.2.2.2).1).mono ?_
          rintro e w9 ⟨rfl, hB9⟩
          exact hK.out _ _ ⟨by simp [hd], bnext hI.1 hB9, by simpa using hI.2.1.below hB9, hI.2.2.1.below hB9, hI.2.2.2.below hB9⟩
        refine Inv.Steps.cons rfl ?_ ?_
        · intro L a w' hI hL hd K hK
          obtain ⟨rfl, hI⟩ := hI
          simp [Region.binds] at hd
          simp only [hd, if_true]
          rw [if_pos (by rfl)]
          have hX := hI.2.1
          rw [hL] at hX
          simp only [Bool.false_eq_true, if_false] at hX
          refine wp_store_bk _ _ _ _ _ (by rfl) (by rfl) (by rfl) hX rfl ?_
          intro w6 hX6 hg6 hz6
          exact hK.out _ _ ⟨by simp [hd, Act.put], hI.1.grown hg6 hI.1.size (fun j hj => by obtain rfl := Option.some.inj hj; exact Nat.le_refl _), by simpa using hX6, hI.2.2.1.kept hg6 (Ne.symm hne), hI.2.2.2.off hX (by decide) hg6⟩
        refine Inv.Steps.cons rfl ?_ ?_
        · intro L a w' hI hL hd K hK
          obtain ⟨rfl, hI⟩ := hI
          simp [Region.binds] at hd
          simp only [hd, if_true]
          rw [if_pos (by rfl)]
          go_simp
          exact hK.out _ _ ⟨by simp [hd], by simpa using hI⟩
        exact Inv.Steps.nil (by decide)
      case done =>
        intro L a w' hI hall
        obtain ⟨rfl, hI⟩ := hI
        simp only [hall, if_true] at hI ⊢
        go_wp2
        refine ret_bk2 (by rfl) rfl _ _ rfl hI.2.1 ⟨_, rfl, ⟨(isb_own hI.2.2.2).1, (isb_own hI.2.2.2).2.mono hU2.size⟩, bnext hU2 hI.1⟩
end Go.Proofs.Ytnaofcggdjbocaa.Book
