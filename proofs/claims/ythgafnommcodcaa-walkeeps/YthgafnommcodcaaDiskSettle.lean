/-
  Pending writes that are made stable, those of whose numbers a function says so.
-/
import Derived.Test.YthgafnommcodcaaDiskPend
import Derived.Test.YthgafnommcodcaaInv
namespace Go.Proofs.Ythgafnommcodcaa.Disk
open Go.RowKit Go.Proofs.Ythgafnommcodcaa.Mem Go.Proofs.Ythgafnommcodcaa.Sect
open Go.Proofs.Ythgafnommcodcaa.Frame (Sec zero)
set_option maxRecDepth 100000

/-- A function value that tells of each number, without turning what was there. -/
def Tells (S : Nat → Prop) (w : World) (F : FuncId) (caps : Array Value) (f : Nat → Bool) : Prop :=
  (∀ args w', (callFunc F args).run Try.prog w' = .ok (.enter F args) w') ∧ ∀ (n : Nat) (w' : World), n < 2000 → Fr S w w' → Calls Try.prog F (#[.int .i64 (n : Int)] ++ caps) w' fun e w'' => e = .returned (.bool (f n)) ∧ Below w'.heap.size w' w''
/-- A sector into its place within what is stable. -/
theorem set_flat (st : List Sec) (k : Nat) (s : Sec) (hk : k < st.length) : (st.set k s).flatMap sc = (st.flatMap sc).take (k * 64) ++ sc s ++ (st.flatMap sc).drop (k * 64 + 64) := by
  rw [List.set_eq_take_append_cons_drop, if_pos hk, List.flatMap_append, List.flatMap_cons, take_flat sc_len, drop_flat sc_len, List.append_assoc, Nat.succ_mul]
theorem wp_store_row {o : Oper} {a : Act} {w : World} {K : Act → World → Prop} {Q : Exit → Act → World → Prop} (x y : Operand) (B b k n c : Nat) (s : Sec) (st : List Sec) (hn : st.length = n) (ho : o.op = .store 70 x y) (hx : a.eval x = .pointer (some ⟨b, k * 64, none⟩)) (hy : a.eval y = secv s)
    (hown : w.ownsRow B 70 64 (.slice (some ⟨b, 0, none⟩) n c) n (st.flatMap sc)) (hk : k < st.length)
    (h : ∀ w', w'.ownsRow B 70 64 (.slice (some ⟨b, 0, none⟩) n c) n ((st.set k s).flatMap sc) → w.grownBy w' (some b) → Hid (w'.heap.size = w.heap.size) → K (a.put o.dst undef) w') : o.wp Try.prog a w K Q := by
  subst hn
  obtain ⟨h1, h2⟩ := hown
  rcases h2 with ⟨h2, _⟩ | ⟨g, cap, cur, hv, hb, hg, hc, hm, hs, ht⟩
  · simp at h2
  · simp only [Value.slice.injEq, Option.some.injEq, Addr.mk.injEq, and_true, true_and] at hv
    obtain ⟨e1, e2⟩ := hv
    subst e1
    subst e2
    have hkl : k * 64 + 64 ≤ st.length * 64 := by omega
    have hcl : st.length * 64 ≤ cur.toList.length := by
      have := Nat.mul_le_mul_right 64 hc
      simp only [Array.length_toList, hs]
      exact this
    have hst := run_storeCells_at Try.prog b (k * 64) 70 (sc s) 0 cur w hg (by rw [sc_len]; rw [Array.length_toList] at hcl; omega) (sc_one s)
    simp only [Nat.add_zero, sc_len] at hst
    have hsz : (Try.prog.info? 70).map (·.size) = some 64 := by rw [← sc_len s]; exact size_sec s
    obtain ⟨i, hi, hi2⟩ := Option.map_eq_some_iff.1 hsz
    have hrun : (storeVar 70 ⟨b, k * 64, none⟩ (secv s)).run Try.prog w = .ok () (w.setRow b (cur.toList.take (k * 64) ++ sc s ++ cur.toList.drop (k * 64 + 64)).toArray) := by
      simp [storeVar, sizeOf, typeInfo, hi, hi2, secv, Value.cells, sc_len, hst]
    unfold Oper.wp execOp
    simp only [ho, hx, hy, Instr.storeAt, Instr.sureAddr, Sem.run_bind, Sem.run_pure, Result.andThen_ok, hrun]
    refine h _ ⟨?_, .inr ⟨b, c, _, rfl, hb, setRow_heap w b cur _ _ _ hg, hc, hm, ?_, ?_⟩⟩ ⟨rfl, rfl, rfl, by simp [World.setRow], fun k _ hk => setRow_other w b k _ (fun e => hk (by simp [e]))⟩ (by unfold Hid; simp [World.setRow])
    · rw [len_flat sc_len, List.length_set]
    · rw [← hs]
      simp only [List.size_toArray, List.length_append, List.length_take, List.length_drop, sc_len, Array.length_toList] at hcl ⊢
      omega
    · rw [set_flat st k s hk, ← ht]
      obtain ⟨X, hX⟩ : ∃ X, X = cur.toList.take (st.length * 64) := ⟨_, rfl⟩
      obtain ⟨Y, hY⟩ : ∃ Y, Y = cur.toList.drop (st.length * 64) := ⟨_, rfl⟩
      have hXY : cur.toList = X ++ Y := by rw [hX, hY, List.take_append_drop]
      have hXl : X.length = st.length * 64 := by rw [hX, List.length_take]; omega
      have h1 : (X ++ Y).take (k * 64) = X.take (k * 64) := List.take_append_of_le_length (by omega)
      have h2 : (X ++ Y).drop (k * 64 + 64) = X.drop (k * 64 + 64) ++ Y := List.drop_append_of_le_length (by omega)
      rw [← hX, hXY, h1, h2, ← List.append_assoc]
      exact List.take_left' (by simp [sc_len]; omega)
theorem Dkv.same {B g : Nat} {S : Nat → Prop} {w w' : World} {vs vp : Value} {d : Dsk} (h : Dkv B S w g vs vp d) (hs : w.heap.size ≤ w'.heap.size) (hk : ∀ k, S k → w'.heap[k]? = w.heap[k]?) : Dkv B S w' g vs vp d := by
  obtain ⟨h1, h2, h3, h4, h5, h6, h7⟩ := h
  have own : ∀ {e : TypeId} {k n : Nat} {v : Value} {xs : List Value}, w.ownsRow B e k v n xs → (∀ b, v.ownBlock = some b → S b) → w'.ownsRow B e k v n xs := fun {e k n v xs} h hb => by
    refine ⟨h.1, ?_⟩
    rcases h.2 with h | ⟨g, cap, cur, rfl, h2, h3, h4⟩
    · exact .inl h
    · exact .inr ⟨g, cap, cur, rfl, h2, (hk g (hb g rfl)).trans h3, h4⟩
  exact ⟨(hk g h4).trans h1, own h2 (fun b hb => (h5 b hb).1), own h3 (fun b hb => (h6 b hb).1), h4, h5, h6, fun k hk => ⟨(h7 k hk).1, Nat.lt_of_lt_of_le (h7 k hk).2 hs⟩⟩
theorem settle_any {S : Nat → Prop} {B g : Nat} {w : World} {d : Dsk} (h : Dk B S w g d) (hd : d.ok) (F : FuncId) (caps : Array Value) (f : Nat → Bool) (hf : Tells S w F caps f) :
    Calls Try.prog 52 #[.pointer (some ⟨g, 0, none⟩), .func (.func F) #[] caps] w fun e w' => e = .returned (.tuple #[]) ∧ Went B S w w' g (d.settled f) := by
  obtain ⟨hF, hf⟩ := hf
  obtain ⟨vs, vp, hD⟩ := h
  have hl := hd.2.1
  have hpl := hd.2.2.1
  obtain ⟨ln, hL⟩ : ∃ ln, d.pe.length = ln := ⟨_, rfl⟩
  obtain ⟨q, e, hvp, r2, _⟩ := own_rk wc_len (by decide) hD.2.2.1
  rw [hL] at hvp hl
  subst hvp
  have hc := hD.1.cell
  go_enter Try.func52, Try.ntmps52
  go_wp2
  clear hc
  go_loopw [11] (fun t wr => ∃ k : Nat, k ≤ ln ∧ t = .int .i64 k ∧ Dkv B S wr g vs (.slice q ln e) { d with st := settle f 0 (d.pe.take k) d.st } ∧ Fr S w wr) (fun t _ => ln - (intOf t).toNat)
  case atStart => exact ⟨0, Nat.zero_le _, rfl, hD, Fr.refl _ _⟩
  case round =>
    obtain ⟨k, hk, rfl, hDr, hFr⟩ := hrel
    by_cases hlt : k < ln
    · obtain ⟨x, hx⟩ : ∃ x, d.pe[k]? = some x := ⟨_, List.getElem?_eq_getElem (by omega)⟩
      obtain ⟨q', e', hvp, r2', _⟩ := own_rk wc_len (by decide) hDr.2.2.1
      simp only [hL, Value.slice.injEq, true_and] at hvp
      obtain ⟨rfl, rfl⟩ := hvp
      obtain ⟨b, o, rfl, hr⟩ := rk_range wc_len r2' hx
      have hlt' : (k : Int) < (ln : Int) := by omega
      have hst := settle_app f 0 (d.pe.take k) x d.st
      rw [show d.pe.take k ++ [x] = d.pe.take (k + 1) by rw [List.take_add_one, hx]; rfl, show 0 + (d.pe.take k).length = k by simp; omega] at hst
      have hxm := hpl x (List.mem_of_getElem? hx)
      obtain ⟨xi, sx⟩ := x
      simp only at hxm hst
      obtain ⟨m, rfl⟩ := Int.eq_ofNat_of_zero_le hxm.1
      simp only [Int.toNat_natCast] at hst
      obtain ⟨st2, hst2⟩ : ∃ st2, st2 = settle f 0 (d.pe.take k) d.st := ⟨_, rfl⟩
      have hlen : st2.length = d.st.length := by rw [hst2, settle_len]
      rw [← hst2] at hst hDr
      have Hst : Hid (settle f 0 (d.pe.take (k + 1)) d.st = if f k = true then st2.set m sx else st2) := hst
      clear hst hst2
      cases hfk : f k with
      | false =>
        go_wp2_with (first
          | ((refine at_load_wr _ _ _ _ (by rfl) (by rfl) hr (by rfl) ?_))
          | ((refine at_alloc_wr (by rfl) (by rfl) ?_); intro W1 hW1 hB1 hz1)
          | ((refine at_store_wv _ _ _ _ _ _ (size_wr _) (by rfl) (by rfl) (by rfl) hW1 (by rfl) ?_); intro W2 hW2 hg2 hz2; have hb2 := hB1.grown hg2 hB1.size (by simp))
          | ((with_reducible refine (hf k _ (by omega) (hFr.trans (Fr.of_below hb2 S) (fun _ h => .inl h))).mono ?_); rintro e w3 ⟨rfl, hb3⟩; rw [hfk]))
        have hbr3 := bnext hb2 hb3
        go_roundw
        case rel => exact ⟨k + 1, by omega, by go_num, by rw [Hst.out, hfk]; exact hDr.below hbr3, hFr.trans (Fr.of_below hbr3 S) (fun _ h => .inl h)⟩
        case measure => simp [intOf]; omega
      | true =>
        go_wp2_with (first
          | ((refine at_load_wr _ _ _ _ (by rfl) (by rfl) hr (by rfl) ?_))
          | ((refine at_alloc_wr (by rfl) (by rfl) ?_); intro W1 hW1 hB1 hz1)
          | ((refine at_store_wv _ _ _ _ _ _ (size_wr _) (by rfl) (by rfl) (by rfl) hW1 (by rfl) ?_); intro W2 hW2 hg2 hz2; have hb2 := hB1.grown hg2 hB1.size (by simp))
          | ((with_reducible refine (hf k _ (by omega) (hFr.trans (Fr.of_below hb2 S) (fun _ h => .inl h))).mono ?_); rintro e w3 ⟨rfl, hb3⟩; rw [hfk]))
        have hbr3 := bnext hb2 hb3
        have hD3 := hDr.below hbr3
        have hW3 := hW2.below hb3
        obtain ⟨n, hn2⟩ : ∃ n, st2.length = n := ⟨_, rfl⟩
        have hm2 : m < st2.length := by omega
        have hmn : (m : Int) < (n : Int) := by omega
        obtain ⟨b2, c2, hvs⟩ : ∃ b2 c2, vs = .slice (some ⟨b2, 0, none⟩) n c2 := by
          rcases hD3.2.1.2 with ⟨_, h0⟩ | ⟨g', cap, cur, hv, _⟩
          · simp only at h0; omega
          · exact ⟨g', cap, by rw [hv]; simp only [hn2]⟩
        subst hvs
        have hS2 : S b2 := (hD3.2.2.2.2.1 b2 rfl).1
        have hput : ∀ w4, w4.ownsRow B 70 64 (.slice (some ⟨b2, 0, none⟩) n c2) n ((st2.set m sx).flatMap sc) → w3.drew.grownBy w4 (some b2) → Dkv B S w4 g (.slice (some ⟨b2, 0, none⟩) n c2) (.slice (some ⟨b, o, none⟩) ln e) { d with st := st2.set m sx } := fun w4 ho4 hg4 => by
          obtain ⟨h1, h2, h3, h4, h5, h6, h7⟩ := hD3
          have e1 : (st2.set m sx).length = n := by simp [hn2]
          refine ⟨(hg4.block g (h7 g h4).2 (fun q => (h5 b2 rfl).2 (by simpa using q.symm))).trans h1, by simp only [e1]; exact ho4, h3.kept (show w3.grownBy w4 (some b2) from ⟨hg4.os, hg4.tape, hg4.output, hg4.size, hg4.block⟩) (.inr fun q => (h6 b2 q).2.2 rfl), h4, h5, h6, fun j hj => ⟨(h7 j hj).1, Nat.lt_of_lt_of_le (h7 j hj).2 hg4.size⟩⟩
        have hown3 : w3.drew.ownsRow B 70 64 (.slice (some ⟨b2, 0, none⟩) n c2) n (st2.flatMap sc) := by
          have := hD3.2.1
          simp only [hn2] at this
          exact this
        have hcd := hD3.1.cell
        have hat := blk_wat hW3
        have hsx : w3.drew.rangeAt wr.heap.size 1 (sc sx) := blk_wsec hW3
        have hst := Hst.out
        simp only at hcd hat
        clear hW3 hW2 hW1 hg2 hD3 hDr hB1
        refine Inv.region_inv (fun L a w' => a = { tmps := #[(.pointer (some ⟨g, 0, none⟩)), (.func (.func F) #[] caps), undef, undef, (.int .i64 (k : Int)), (.pointer (some ⟨wr.heap.size, 0, none⟩)), (.pointer (some ⟨g, 0, none⟩)), (.pointer (some ⟨g, 0, none⟩)), (.pointer (some ⟨g, 1, none⟩)), (.slice (some ⟨b, o, none⟩) ln e), (.int .i64 (ln : Int)), (.int .i64 (k : Int)), (.bool true), (.int .i64 (k : Int)), (.pointer (some ⟨b, o + k * 65, none⟩)), (wrv ((m : Int), sx)), (.func (.func F) #[] caps), (.int .i64 (k : Int)), (.bool true), (if L 0 = true then (.pointer (some ⟨g, 0, none⟩)) else u19), (if L 1 = true then (.pointer (some ⟨g, 0, none⟩)) else u20), (if L 2 = true then (.pointer (some ⟨g, 0, none⟩)) else u21), (if L 3 = true then (.slice (some ⟨b2, 0, none⟩) n c2) else u22), (if L 4 = true then (.pointer (some ⟨wr.heap.size, 0, none⟩)) else u23), (if L 5 = true then (.int .i64 (m : Int)) else u24), (if L 6 = true then (.pointer (some ⟨wr.heap.size, 1, none⟩)) else u25), (if L 7 = true then (secv sx) else u26), (if L 8 = true then (.pointer (some ⟨b2, m * 64, none⟩)) else u27), u28, undef, undef, undef], defers := [] } ∧ ((L 9 = true ∧ (∀ j, j < 10 → L j = true) ∧ w'.ownsRow B 70 64 (.slice (some ⟨b2, 0, none⟩) n c2) n ((st2.set m sx).flatMap sc) ∧ w3.drew.grownBy w' (some b2)) ∨ (L 9 = false ∧ w' = w3.drew))) (by kernel_rfl) (by kernel_rfl) ?h0 ?step ?done
        case h0 => exact ⟨by simp, .inr ⟨by simp, rfl⟩⟩
        case step =>
          refine Inv.Steps.cons rfl ?_ ?_
          · intro L a w' hI hL hd K hK
            obtain ⟨rfl, hI⟩ := hI
            clear hd
            rcases hI with ⟨_, hall, _⟩ | ⟨h9, rfl⟩
            · exact absurd (hall 0 (by decide)) (by simp [hL])
            rw [if_pos (by rfl)]
            go_simp
            exact hK.out _ _ ⟨by simp, .inr ⟨by simpa using h9, rfl⟩⟩
          refine Inv.Steps.cons rfl ?_ ?_
          · intro L a w' hI hL hd K hK
            obtain ⟨rfl, hI⟩ := hI
            simp [Region.binds] at hd
            simp only [hd, if_true]
            rcases hI with ⟨_, hall, _⟩ | ⟨h9, rfl⟩
            · exact absurd (hall 1 (by decide)) (by simp [hL])
            rw [if_pos (by rfl)]
            go_simp
            exact hK.out _ _ ⟨by simp [hd], .inr ⟨by simpa using h9, rfl⟩⟩
          refine Inv.Steps.cons rfl ?_ ?_
          · intro L a w' hI hL hd K hK
            obtain ⟨rfl, hI⟩ := hI
            simp [Region.binds] at hd
            simp only [hd, if_true]
            rcases hI with ⟨_, hall, _⟩ | ⟨h9, rfl⟩
            · exact absurd (hall 2 (by decide)) (by simp [hL])
            rw [if_pos (by rfl)]
            go_simp
            exact hK.out _ _ ⟨by simp [hd], .inr ⟨by simpa using h9, rfl⟩⟩
          refine Inv.Steps.cons rfl ?_ ?_
          · intro L a w' hI hL hd K hK
            obtain ⟨rfl, hI⟩ := hI
            simp [Region.binds] at hd
            simp only [hd, if_true]
            rcases hI with ⟨_, hall, _⟩ | ⟨h9, rfl⟩
            · exact absurd (hall 3 (by decide)) (by simp [hL])
            rw [if_pos (by rfl)]
            go_simp
            exact hK.out _ _ ⟨by simp [hd], .inr ⟨by simpa using h9, rfl⟩⟩
          refine Inv.Steps.cons rfl ?_ ?_
          · intro L a w' hI hL hd K hK
            obtain ⟨rfl, hI⟩ := hI
            clear hd
            rcases hI with ⟨_, hall, _⟩ | ⟨h9, rfl⟩
            · exact absurd (hall 4 (by decide)) (by simp [hL])
            rw [if_pos (by rfl)]
            go_simp
            exact hK.out _ _ ⟨by simp, .inr ⟨by simpa using h9, rfl⟩⟩
          refine Inv.Steps.cons rfl ?_ ?_
          · intro L a w' hI hL hd K hK
            obtain ⟨rfl, hI⟩ := hI
            simp [Region.binds] at hd
            simp only [hd, if_true]
            rcases hI with ⟨_, hall, _⟩ | ⟨h9, rfl⟩
            · exact absurd (hall 5 (by decide)) (by simp [hL])
            rw [if_pos (by rfl)]
            go_simp
            exact hK.out _ _ ⟨by simp [hd], .inr ⟨by simpa using h9, rfl⟩⟩
          refine Inv.Steps.cons rfl ?_ ?_
          · intro L a w' hI hL hd K hK
            obtain ⟨rfl, hI⟩ := hI
            clear hd
            rcases hI with ⟨_, hall, _⟩ | ⟨h9, rfl⟩
            · exact absurd (hall 6 (by decide)) (by simp [hL])
            rw [if_pos (by rfl)]
            go_simp
            exact hK.out _ _ ⟨by simp, .inr ⟨by simpa using h9, rfl⟩⟩
          refine Inv.Steps.cons rfl ?_ ?_
          · intro L a w' hI hL hd K hK
            obtain ⟨rfl, hI⟩ := hI
            simp [Region.binds] at hd
            simp only [hd, if_true]
            rcases hI with ⟨_, hall, _⟩ | ⟨h9, rfl⟩
            · exact absurd (hall 7 (by decide)) (by simp [hL])
            rw [if_pos (by rfl)]
            refine wp_load_sec _ _ _ _ (by rfl) (by rfl) hsx ?_
            exact hK.out _ _ ⟨by simp [hd, Act.put], .inr ⟨by simpa using h9, rfl⟩⟩
          refine Inv.Steps.cons rfl ?_ ?_
          · intro L a w' hI hL hd K hK
            obtain ⟨rfl, hI⟩ := hI
            simp [Region.binds] at hd
            simp only [hd, if_true]
            rcases hI with ⟨_, hall, _⟩ | ⟨h9, rfl⟩
            · exact absurd (hall 8 (by decide)) (by simp [hL])
            rw [if_pos (by rfl)]
            go_simp
            exact hK.out _ _ ⟨by simp [hd], .inr ⟨by simpa using h9, rfl⟩⟩
          refine Inv.Steps.cons rfl ?_ ?_
          · intro L a w' hI hL hd K hK
            obtain ⟨rfl, hI⟩ := hI
            simp [Region.binds] at hd
            simp only [hd, if_true]
            rcases hI with ⟨_, hall, _⟩ | ⟨h9, rfl⟩
            · exact absurd (hall 9 (by decide)) (by simp [hL])
            rw [if_pos (by rfl)]
            refine wp_store_row _ _ B b2 m n c2 sx st2 hn2 (by rfl) (by rfl) (by rfl) hown3 hm2 ?_
            intro w4 ho4 hg4 hz4
            exact hK.out _ _ ⟨by simp [hd, Act.put], .inl ⟨by simp, fun j hj => by rcases (show j = 0 ∨ j = 1 ∨ j = 2 ∨ j = 3 ∨ j = 4 ∨ j = 5 ∨ j = 6 ∨ j = 7 ∨ j = 8 ∨ j = 9 by omega) with rfl | rfl | rfl | rfl | rfl | rfl | rfl | rfl | rfl | rfl <;> simp [hd], ho4, hg4⟩⟩
          exact Inv.Steps.nil (by decide)
        case done =>
          intro L a w' hI hall
          obtain ⟨rfl, hI⟩ := hI
          simp only [hall, if_true] at hI ⊢
          rcases hI with ⟨_, _, ho4, hg4⟩ | ⟨h9, _⟩
          rotate_left
          · simp at h9
          go_wp2
          have hb4 : Dkv B S w' g (.slice (some ⟨b2, 0, none⟩) n c2) (.slice (some ⟨b, o, none⟩) ln e) { d with st := st2.set m sx } := hput w' ho4 hg4
          go_roundw
          case rel => exact ⟨k + 1, by omega, by go_num, by rw [show settle f 0 (d.pe.take (k + 1)) d.st = st2.set m sx by rw [hst, if_pos hfk]]; exact hb4, hFr.trans ((Fr.of_below hbr3 S).trans (Fr.of_grown (show w3.grownBy w' (some b2) from ⟨hg4.os, hg4.tape, hg4.output, hg4.size, hg4.block⟩) (fun j hj => by simp at hj; subst hj; exact hS2)) (fun _ h => .inl h)) (fun _ h => .inl h)⟩
          case measure => simp [intOf]; omega
    · have hk' : d.pe.take k = d.pe := List.take_of_length_le (by omega)
      rw [hk'] at hDr
      have hc := hDr.1.cell
      have hz := hDr.1.frozen
      go_wp2
      refine ⟨rfl, .tuple #[], results_none rfl _ _, rfl, S, ⟨vs, .slice none 0 0, hDr.1.put 1 _, ?_, ?_, hDr.2.2.2.1, hDr.2.2.2.2.1, by simp [Value.ownBlock], ?_⟩, hFr.trans (Fr.of_grown (only_put wr ⟨g, 1, none⟩ _) (fun j hj => by simp at hj; subst hj; exact hDr.2.2.2.1)) (fun _ h => .inl h), fun _ h => .inl h⟩
      · exact hDr.2.1.kept (only_put wr ⟨g, 1, none⟩ _) (.inr fun q => (hDr.2.2.2.2.1 g q).2 rfl)
      · exact ⟨by simp [Dsk.settled], .inl ⟨rfl, rfl⟩⟩
      · intro j hj
        exact ⟨(hDr.2.2.2.2.2.2 j hj).1, by simpa using (hDr.2.2.2.2.2.2 j hj).2⟩
end Go.Proofs.Ythgafnommcodcaa.Disk
