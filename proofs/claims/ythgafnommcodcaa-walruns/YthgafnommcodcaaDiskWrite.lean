/-
  Write. (Written by gen_dwrite.py.)
-/
import Derived.Test.YthgafnommcodcaaDiskStable
import Derived.LoopTactic
import Derived.Test.YthgafnommcodcaaInv
/-
  A sector as it is read: the last pending write, or what is stable.
-/
namespace Go.Proofs.Ythgafnommcodcaa.Disk
open Go.RowKit Go.Proofs.Ythgafnommcodcaa.Mem Go.Proofs.Ythgafnommcodcaa.Sect
open Go.Proofs.Ythgafnommcodcaa.Frame (Sec zero)
set_option maxRecDepth 100000

theorem last_two : ∀ (l r : List Wr) (i : Int), last (l ++ r) i = match last r i with | some s => some s | none => last l i
  | [], r, i => by simp only [List.nil_append]; cases last r i <;> rfl
  | x :: l, r, i => by
    show (match last (l ++ r) i with | some s => some s | none => if x.1 = i then some x.2 else none) = _
    rw [last_two l r i]
    cases last r i <;> rfl
theorem last_here {pe : List Wr} {i : Int} {k : Nat} (hk : k < pe.length) (h : last (pe.drop (k + 1)) i = none) : last (pe.drop k) i = if (pe[k]).1 = i then some (pe[k]).2 else none := by
  rw [List.drop_eq_getElem_cons hk]
  show (match last (pe.drop (k + 1)) i with | some s => some s | none => if (pe[k]).1 = i then some (pe[k]).2 else none) = _
  rw [h]
theorem last_found {pe : List Wr} {i : Int} {k : Nat} {s : Sec} (h : last (pe.drop k) i = some s) : last pe i = some s := by
  rw [← List.take_append_drop k pe, last_two, h]
theorem rk_range {α : Type} {enc : α → List Value} {k : Nat} (hk : ∀ x, (enc x).length = k) {w : World} {p : Option Addr} {cap i : Nat} {xs : List α} {x : α} (h : RK enc w p cap xs) (hi : xs[i]? = some x) : ∃ b o, p = some ⟨b, o, none⟩ ∧ w.rangeAt b (o + i * k) (enc x) := by
  obtain ⟨b, o, e, _, hr⟩ := h.at hk hi
  exact ⟨b, o, e, hr⟩
theorem read_any {S : Nat → Prop} {B g : Nat} {w : World} {d : Dsk} (h : Dk B S w g d) (hd : d.ok) (i : Int) :
    Calls Try.prog 60 #[.pointer (some ⟨g, 0, none⟩), .int .i64 i] w fun e w' => e = .returned (.tuple #[secv (d.read i).1, .int .i64 (d.read i).2]) ∧ Below w.heap.size w w' := by
  obtain ⟨p, c, q, e, hb, _, r2, _⟩ := h.parts
  have hl := hd.2.1
  obtain ⟨L, hL⟩ : ∃ L, d.pe.length = L := ⟨_, rfl⟩
  rw [hL] at hb hl
  have hwl : IntKind.i64.wrap ((L : Int) - 1) = (L : Int) - 1 := wrap_int ⟨by omega, by omega⟩
  go_enter Try.func60, Try.ntmps60
  go_wp2_with (first
    | ((refine at_alloc_sec (by rfl) (by rfl) ?_); intro W hW hB hz; have hc := (hb.below hB).cell))
  clear hc
  go_loopw [6] (fun n wr => ∃ m : Nat, m ≤ L ∧ n = .int .i64 ((m : Int) - 1) ∧ Hid (last (d.pe.drop m) i = none) ∧ Blk wr w.heap.size 70 (sc zero) ∧ Below w.heap.size w wr) (fun n _ => (intOf n + 1).toNat)
  case atStart => exact ⟨L, Nat.le_refl _, by simp, by unfold Hid; rw [List.drop_of_length_le (by omega)]; rfl, hW, hB⟩
  case round =>
    obtain ⟨m, hm, rfl, HN, hR, hbel⟩ := hrel
    have hc := (hb.below hbel).cell
    cases m with
    | zero =>
      have hD := h.below hbel
      have e1 : d.read i = stab d.st i := by
        have := HN.out
        simp only [List.drop_zero] at this
        simp [Dsk.read, this]
      go_wp2_with (first
        | ((with_reducible refine (stable_any hD i).mono ?_); rintro e w1 ⟨rfl, hb1⟩; have hR1 := hR.below hb1)
        | ((refine at_store_sec _ _ _ _ _ (by rfl) (by rfl) (by rfl) hR1 (by rfl) ?_); intro W2 hW2 hg2 hz2))
      rw [e1]
      exact ret_sec rfl rfl _ _ rfl hW2 ⟨rfl, (bnext hbel hb1).grown hg2 (by have := hR1.lt; omega) (by simp)⟩
    | succ k =>
      have hk : k < d.pe.length := by omega
      obtain ⟨x, hx⟩ : ∃ x, d.pe[k]? = some x := ⟨_, List.getElem?_eq_getElem hk⟩
      obtain ⟨b, o, rfl, hr⟩ := rk_range wc_len (r2.below hbel) hx
      have hn : (((k + 1 : Nat) : Int) - 1) = (k : Int) := by omega
      have hkL : (k : Int) < (L : Int) := by omega
      have hwk : IntKind.i64.wrap ((k : Int) - 1) = (k : Int) - 1 := wrap_int ⟨by omega, by omega⟩
      rw [hn]
      clear hn
      go_wp2_with (first
        | ((refine at_load_wr _ _ _ _ (by rfl) (by rfl) hr (by rfl) ?_))
        | ((refine at_alloc_wr (by rfl) (by rfl) ?_); intro W1 hW1 hB1 hz1)
        | ((refine at_store_wv _ _ _ _ _ _ (size_wr _) (by rfl) (by rfl) (by rfl) hW1 (by rfl) ?_); intro W2 hW2 hg2 hz2; have hat := blk_wat hW2)
        | ((refine at_load_sec _ _ _ _ (by rfl) (by rfl) (blk_wsec hW2) (by rfl) ?_))
        | ((refine at_store_sec _ _ _ _ _ (by rfl) (by rfl) (by rfl) ((hR.below hB1).kept hg2 (by have := hR.lt; simp; omega)) (by rfl) ?_); intro W3 hW3 hg3 hz3))
      · have hxi : x.1 = i := by first | assumption | exact eq_of_beq ‹_›
        have e1 : d.read i = (x.2, 0) := by
          have := last_here hk HN.out
          rw [(List.getElem?_eq_some_iff.1 hx).2, if_pos hxi] at this
          simp [Dsk.read, last_found this]
        rw [e1]
        exact ret_sec rfl rfl _ _ rfl hW3 ⟨rfl, ((bnext hbel hB1).grown hg2 (by have := hR.lt; have := hz1.out; omega) (by have := hR.lt; simp; omega)).grown hg3 (by have := hR.lt; have := hz1.out; have := hz2.out; omega) (by simp)⟩
      · have hxi : ¬ x.1 = i := by first | assumption | exact ne_of_beq_false ‹_›
        refine ⟨⟨k, by omega, rfl, ?_, (hR.below hB1).kept hg2 (by have := hR.lt; simp; omega), (bnext hbel hB1).grown hg2 (by have := hR.lt; have := hz1.out; omega) (by have := hR.lt; simp; omega)⟩, by simp [intOf]⟩
        have := last_here hk HN.out
        rw [(List.getElem?_eq_some_iff.1 hx).2, if_neg hxi] at this
        exact this
end Go.Proofs.Ythgafnommcodcaa.Disk
/-
  What is pending, as the list of its places; a new disk.
-/
namespace Go.Proofs.Ythgafnommcodcaa.Disk
open Go.RowKit Go.Proofs.Ythgafnommcodcaa.Mem Go.Proofs.Ythgafnommcodcaa.Sect
open Go.Proofs.Ythgafnommcodcaa.Frame (Sec zero)
set_option maxRecDepth 100000

/-- A disk that was just made. -/
theorem fresh_dk {w w1 : World} {n : Nat} (ho : w1.ownsRow w.heap.size 70 64 (.slice (some ⟨w.heap.size, 0, none⟩) n n) n ((List.replicate n zero).flatMap sc)) (hg : w.grownBy w1 none) :
    Dk w.heap.size (fun k => k = w.heap.size ∨ k = w1.heap.size) (w1.alloc (.cells #[.slice (some ⟨w.heap.size, 0, none⟩) n n, .slice none 0 0, .bool false, .int .i64 (-1)] 83)) w1.heap.size (fresh n) ∧ Below w.heap.size w (w1.alloc (.cells #[.slice (some ⟨w.heap.size, 0, none⟩) n n, .slice none 0 0, .bool false, .int .i64 (-1)] 83)) := by
  have hl := (ho.lt w.heap.size rfl).2
  have e1 : (fresh n).st.length = n := by simp [fresh]
  refine ⟨⟨_, _, Blk.new _ _ _, ?_, ?_, .inr rfl, ?_, ?_, ?_⟩, ?_⟩
  · rw [e1]; exact ho.alloc _
  · exact ⟨by simp [fresh], .inl ⟨rfl, rfl⟩⟩
  · intro b hb
    simp [Value.ownBlock] at hb
    subst hb
    exact ⟨.inl rfl, by omega⟩
  · intro b hb; simp [Value.ownBlock] at hb
  · rintro k (rfl | rfl)
    · exact ⟨Nat.le_refl _, by simp; omega⟩
    · exact ⟨by omega, by simp⟩
  · exact bnext ((Below.refl w.heap.size w).grown hg (Nat.le_refl _) (by simp)) (bnew _ _)
theorem new_any (x : Int) (w : World) :
    Calls Try.prog 8 #[.int .i64 x] w fun e w' => ∃ g S, e = .returned (.pointer (some ⟨g, 0, none⟩)) ∧ Dk w.heap.size S w' g (fresh (clamp x)) ∧ Below w.heap.size w w' := by
  obtain ⟨n, hn⟩ : ∃ n, clamp x = n := ⟨_, rfl⟩
  have hn2 : n ≤ 512 := by unfold clamp at hn; omega
  have hmin : min (max x 0) 512 = (n : Int) := by unfold clamp at hn; omega
  rw [hn]
  rcases Int.lt_or_le x 0 with h0 | h0
  · obtain ⟨w1, hr, ho, hg⟩ := run_make_secs w n 0 (by omega) (by omega)
    obtain ⟨hD, hB⟩ := fresh_dk ho hg
    go_enter Try.func8, Try.ntmps8
    go_wp2
    go_ret
    exact ⟨_, _, rfl, hD, hB⟩
  · rcases Int.lt_or_le 512 x with h5 | h5
    · obtain ⟨w1, hr, ho, hg⟩ := run_make_secs w n 512 (by omega) (by omega)
      obtain ⟨hD, hB⟩ := fresh_dk ho hg
      go_enter Try.func8, Try.ntmps8
      go_wp2
      go_ret
      exact ⟨_, _, rfl, hD, hB⟩
    · obtain ⟨w1, hr, ho, hg⟩ := run_make_secs w n x (by omega) (by omega)
      obtain ⟨hD, hB⟩ := fresh_dk ho hg
      go_enter Try.func8, Try.ntmps8
      go_wp2
      go_ret
      exact ⟨_, _, rfl, hD, hB⟩
theorem info_int : ∃ i, Try.prog.info? 3 = some i ∧ i.zero = some (.int .i64 0) ∧ i.size = 1 ∧ i.bytes = 8 := by
  have h : (Try.prog.info? 3).map (fun i => (i.zero, i.size, i.bytes)) = some (some (.int .i64 0), 1, 8) := by kernel_rfl
  obtain ⟨i, h1, h2⟩ := Option.map_eq_some_iff.1 h
  simp only [Prod.mk.injEq] at h2
  exact ⟨i, h1, h2⟩
def places (l : List Wr) : List Int := l.map (·.1)
theorem places_take {l : List Wr} {k : Nat} {x : Wr} (hx : l[k]? = some x) : places (l.take (k + 1)) = places (l.take k) ++ [x.1] := by
  rw [List.take_add_one, hx]
  simp [places]
end Go.Proofs.Ythgafnommcodcaa.Disk
/-
  Pending writes that are made stable, those of whose numbers a function says so.
-/
namespace Go.Proofs.Ythgafnommcodcaa.Disk
open Go.RowKit Go.Proofs.Ythgafnommcodcaa.Mem Go.Proofs.Ythgafnommcodcaa.Sect
open Go.Proofs.Ythgafnommcodcaa.Frame (Sec zero)
set_option maxRecDepth 100000

/-- A function value that tells of each number, without turning what was there. -/
def Tells (S : Nat → Prop) (w : World) (F : FuncId) (caps : Array Value) (f : Nat → Bool) : Prop :=
  (∀ args w', (callFunc F args).run Try.prog w' = .ok (.enter F args) w') ∧ ∀ (n : Nat) (w' : World), n < 2000 → Fr S w w' → Calls Try.prog F (#[.int .i64 (n : Int)] ++ caps) w' fun e w'' => e = .returned (.bool (f n)) ∧ Below w'.heap.size w' w''
/-- A sector into its place within what is stable. -/
theorem set_flat (st : List Sec) (k : Nat) (s : Sec) (hk : k < st.length) : (st.set k s).flatMap sc = (st.flatMap sc).take (k * 64) ++ sc s ++ (st.flatMap sc).drop (k * 64 + 64) := by
  rw [List.set_eq_take_append_cons_drop, if_pos hk, List.flatMap_append, List.flatMap_cons, take_flat sc_len, drop_flat sc_len, List.append_assoc, Nat.succ_mul]
theorem wp_store_row {o : Oper} {a : Act} {w : World} {K : Act → World → Prop} {Q : Exit → Act → World → Prop} (x y : Operand) (B b k n c : Nat) (s : Sec) (st : List Sec) (hn : st.length = n) (ho : o.op = .store 70 x y) (hx : a.eval x = .pointer (some ⟨b, k * 64, none⟩)) (hy : a.eval y = secv s)
    (hown : w.ownsRow B 70 64 (.slice (some ⟨b, 0, none⟩) n c) n (st.flatMap sc)) (hk : k < st.length)
    (h : ∀ w', w'.ownsRow B 70 64 (.slice (some ⟨b, 0, none⟩) n c) n ((st.set k s).flatMap sc) → w.grownBy w' (some b) → Hid (w'.heap.size = w.heap.size) → K (a.put o.dst undef) w') : o.wp Try.prog a w K Q := by
  subst hn
  obtain ⟨h1, h2⟩ := hown
  rcases h2 with ⟨h2, _⟩ | ⟨g, cap, cur, hv, hb, hg, hc, hm, hs, ht⟩
  · simp at h2
  · simp only [Value.slice.injEq, Option.some.injEq, Addr.mk.injEq, and_true, true_and] at hv
    obtain ⟨e1, e2⟩ := hv
    subst e1
    subst e2
    have hkl : k * 64 + 64 ≤ st.length * 64 := by omega
    have hcl : st.length * 64 ≤ cur.toList.length := by
      have := Nat.mul_le_mul_right 64 hc
      simp only [Array.length_toList, hs]
      exact this
    have hst := run_storeCells_at Try.prog b (k * 64) 70 (sc s) 0 cur w hg (by rw [sc_len]; rw [Array.length_toList] at hcl; omega) (sc_one s)
    simp only [Nat.add_zero, sc_len] at hst
    have hsz : (Try.prog.info? 70).map (·.size) = some 64 := by rw [← sc_len s]; exact size_sec s
    obtain ⟨i, hi, hi2⟩ := Option.map_eq_some_iff.1 hsz
    have hrun : (storeVar 70 ⟨b, k * 64, none⟩ (secv s)).run Try.prog w = .ok () (w.setRow b (cur.toList.take (k * 64) ++ sc s ++ cur.toList.drop (k * 64 + 64)).toArray) := by
      simp [storeVar, sizeOf, typeInfo, hi, hi2, secv, Value.cells, sc_len, hst]
    unfold Oper.wp execOp
    simp only [ho, hx, hy, Instr.storeAt, Instr.sureAddr, Sem.run_bind, Sem.run_pure, Result.andThen_ok, hrun]
    refine h _ ⟨?_, .inr ⟨b, c, _, rfl, hb, setRow_heap w b cur _ _ _ hg, hc, hm, ?_, ?_⟩⟩ ⟨rfl, rfl, rfl, by simp [World.setRow], fun k _ hk => setRow_other w b k _ (fun e => hk (by simp [e]))⟩ (by unfold Hid; simp [World.setRow])
    · rw [len_flat sc_len, List.length_set]
    · rw [← hs]
      simp only [List.size_toArray, List.length_append, List.length_take, List.length_drop, sc_len, Array.length_toList] at hcl ⊢
      omega
    · rw [set_flat st k s hk, ← ht]
      obtain ⟨X, hX⟩ : ∃ X, X = cur.toList.take (st.length * 64) := ⟨_, rfl⟩
      obtain ⟨Y, hY⟩ : ∃ Y, Y = cur.toList.drop (st.length * 64) := ⟨_, rfl⟩
      have hXY : cur.toList = X ++ Y := by rw [hX, hY, List.take_append_drop]
      have hXl : X.length = st.length * 64 := by rw [hX, List.length_take]; omega
      have h1 : (X ++ Y).take (k * 64) = X.take (k * 64) := List.take_append_of_le_length (by omega)
      have h2 : (X ++ Y).drop (k * 64 + 64) = X.drop (k * 64 + 64) ++ Y := List.drop_append_of_le_length (by omega)
      rw [← hX, hXY, h1, h2, ← List.append_assoc]
      exact List.take_left' (by simp [sc_len]; omega)
theorem Dkv.same {B g : Nat} {S : Nat → Prop} {w w' : World} {vs vp : Value} {d : Dsk} (h : Dkv B S w g vs vp d) (hs : w.heap.size ≤ w'.heap.size) (hk : ∀ k, S k → w'.heap[k]? = w.heap[k]?) : Dkv B S w' g vs vp d := by
  obtain ⟨h1, h2, h3, h4, h5, h6, h7⟩ := h
  have own : ∀ {e : TypeId} {k n : Nat} {v : Value} {xs : List Value}, w.ownsRow B e k v n xs → (∀ b, v.ownBlock = some b → S b) → w'.ownsRow B e k v n xs := fun {e k n v xs} h hb => by
    refine ⟨h.1, ?_⟩
    rcases h.2 with h | ⟨g, cap, cur, rfl, h2, h3, h4⟩
    · exact .inl h
    · exact .inr ⟨g, cap, cur, rfl, h2, (hk g (hb g rfl)).trans h3, h4⟩
  exact ⟨(hk g h4).trans h1, own h2 (fun b hb => (h5 b hb).1), own h3 (fun b hb => (h6 b hb).1), h4, h5, h6, fun k hk => ⟨(h7 k hk).1, Nat.lt_of_lt_of_le (h7 k hk).2 hs⟩⟩
theorem settle_any {S : Nat → Prop} {B g : Nat} {w : World} {d : Dsk} (h : Dk B S w g d) (hd : d.ok) (F : FuncId) (caps : Array Value) (f : Nat → Bool) (hf : Tells S w F caps f) :
    Calls Try.prog 52 #[.pointer (some ⟨g, 0, none⟩), .func (.func F) #[] caps] w fun e w' => e = .returned (.tuple #[]) ∧ Went B S w w' g (d.settled f) := by
  obtain ⟨hF, hf⟩ := hf
  obtain ⟨vs, vp, hD⟩ := h
  have hl := hd.2.1
  have hpl := hd.2.2.1
  obtain ⟨ln, hL⟩ : ∃ ln, d.pe.length = ln := ⟨_, rfl⟩
  obtain ⟨q, e, hvp, r2, _⟩ := own_rk wc_len (by decide) hD.2.2.1
  rw [hL] at hvp hl
  subst hvp
  have hc := hD.1.cell
  go_enter Try.func52, Try.ntmps52
  go_wp2
  clear hc
  go_loopw [11] (fun t wr => ∃ k : Nat, k ≤ ln ∧ t = .int .i64 k ∧ Dkv B S wr g vs (.slice q ln e) { d with st := settle f 0 (d.pe.take k) d.st } ∧ Fr S w wr) (fun t _ => ln - (intOf t).toNat)
  case atStart => exact ⟨0, Nat.zero_le _, rfl, hD, Fr.refl _ _⟩
  case round =>
    obtain ⟨k, hk, rfl, hDr, hFr⟩ := hrel
    by_cases hlt : k < ln
    · obtain ⟨x, hx⟩ : ∃ x, d.pe[k]? = some x := ⟨_, List.getElem?_eq_getElem (by omega)⟩
      obtain ⟨q', e', hvp, r2', _⟩ := own_rk wc_len (by decide) hDr.2.2.1
      simp only [hL, Value.slice.injEq, true_and] at hvp
      obtain ⟨rfl, rfl⟩ := hvp
      obtain ⟨b, o, rfl, hr⟩ := rk_range wc_len r2' hx
      have hlt' : (k : Int) < (ln : Int) := by omega
      have hst := settle_app f 0 (d.pe.take k) x d.st
      rw [show d.pe.take k ++ [x] = d.pe.take (k + 1) by rw [List.take_add_one, hx]; rfl, show 0 + (d.pe.take k).length = k by simp; omega] at hst
      have hxm := hpl x (List.mem_of_getElem? hx)
      obtain ⟨xi, sx⟩ := x
      simp only at hxm hst
      obtain ⟨m, rfl⟩ := Int.eq_ofNat_of_zero_le hxm.1
      simp only [Int.toNat_natCast] at hst
      obtain ⟨st2, hst2⟩ : ∃ st2, st2 = settle f 0 (d.pe.take k) d.st := ⟨_, rfl⟩
      have hlen : st2.length = d.st.length := by rw [hst2, settle_len]
      rw [← hst2] at hst hDr
      have Hst : Hid (settle f 0 (d.pe.take (k + 1)) d.st = if f k = true then st2.set m sx else st2) := hst
      clear hst hst2
      cases hfk : f k with
      | false =>
        go_wp2_with (first
          | ((refine at_load_wr _ _ _ _ (by rfl) (by rfl) hr (by rfl) ?_))
          | ((refine at_alloc_wr (by rfl) (by rfl) ?_); intro W1 hW1 hB1 hz1)
          | ((refine at_store_wv _ _ _ _ _ _ (size_wr _) (by rfl) (by rfl) (by rfl) hW1 (by rfl) ?_); intro W2 hW2 hg2 hz2; have hb2 := hB1.grown hg2 hB1.size (by simp))
          | ((with_reducible refine (hf k _ (by omega) (hFr.trans (Fr.of_below hb2 S) (fun _ h => .inl h))).mono ?_); rintro e w3 ⟨rfl, hb3⟩; rw [hfk]))
        have hbr3 := bnext hb2 hb3
        go_roundw
        case rel => exact ⟨k + 1, by omega, by go_num, by rw [Hst.out, hfk]; exact hDr.below hbr3, hFr.trans (Fr.of_below hbr3 S) (fun _ h => .inl h)⟩
        case measure => simp [intOf]; omega
      | true =>
        go_wp2_with (first
          | ((refine at_load_wr _ _ _ _ (by rfl) (by rfl) hr (by rfl) ?_))
          | ((refine at_alloc_wr (by rfl) (by rfl) ?_); intro W1 hW1 hB1 hz1)
          | ((refine at_store_wv _ _ _ _ _ _ (size_wr _) (by rfl) (by rfl) (by rfl) hW1 (by rfl) ?_); intro W2 hW2 hg2 hz2; have hb2 := hB1.grown hg2 hB1.size (by simp))
          | ((with_reducible refine (hf k _ (by omega) (hFr.trans (Fr.of_below hb2 S) (fun _ h => .inl h))).mono ?_); rintro e w3 ⟨rfl, hb3⟩; rw [hfk]))
        have hbr3 := bnext hb2 hb3
        have hD3 := hDr.below hbr3
        have hW3 := hW2.below hb3
        obtain ⟨n, hn2⟩ : ∃ n, st2.length = n := ⟨_, rfl⟩
        have hm2 : m < st2.length := by omega
        have hmn : (m : Int) < (n : Int) := by omega
        obtain ⟨b2, c2, hvs⟩ : ∃ b2 c2, vs = .slice (some ⟨b2, 0, none⟩) n c2 := by
          rcases hD3.2.1.2 with ⟨_, h0⟩ | ⟨g', cap, cur, hv, _⟩
          · simp only at h0; omega
          · exact ⟨g', cap, by rw [hv]; simp only [hn2]⟩
        subst hvs
        have hS2 : S b2 := (hD3.2.2.2.2.1 b2 rfl).1
        have hput : ∀ w4, w4.ownsRow B 70 64 (.slice (some ⟨b2, 0, none⟩) n c2) n ((st2.set m sx).flatMap sc) → w3.drew.grownBy w4 (some b2) → Dkv B S w4 g (.slice (some ⟨b2, 0, none⟩) n c2) (.slice (some ⟨b, o, none⟩) ln e) { d with st := st2.set m sx } := fun w4 ho4 hg4 => by
          obtain ⟨h1, h2, h3, h4, h5, h6, h7⟩ := hD3
          have e1 : (st2.set m sx).length = n := by simp [hn2]
          refine ⟨(hg4.block g (h7 g h4).2 (fun q => (h5 b2 rfl).2 (by simpa using q.symm))).trans h1, by simp only [e1]; exact ho4, h3.kept (show w3.grownBy w4 (some b2) from ⟨hg4.os, hg4.tape, hg4.output, hg4.size, hg4.block⟩) (.inr fun q => (h6 b2 q).2.2 rfl), h4, h5, h6, fun j hj => ⟨(h7 j hj).1, Nat.lt_of_lt_of_le (h7 j hj).2 hg4.size⟩⟩
        have hown3 : w3.drew.ownsRow B 70 64 (.slice (some ⟨b2, 0, none⟩) n c2) n (st2.flatMap sc) := by
          have := hD3.2.1
          simp only [hn2] at this
          exact this
        have hcd := hD3.1.cell
        have hat := blk_wat hW3
        have hsx : w3.drew.rangeAt wr.heap.size 1 (sc sx) := blk_wsec hW3
        have hst := Hst.out
        simp only at hcd hat
        clear hW3 hW2 hW1 hg2 hD3 hDr hB1
        refine Inv.region_inv (fun L a w' => a = { tmps := #[(.pointer (some ⟨g, 0, none⟩)), (.func (.func F) #[] caps), undef, undef, (.int .i64 (k : Int)), (.pointer (some ⟨wr.heap.size, 0, none⟩)), (.pointer (some ⟨g, 0, none⟩)), (.pointer (some ⟨g, 0, none⟩)), (.pointer (some ⟨g, 1, none⟩)), (.slice (some ⟨b, o, none⟩) ln e), (.int .i64 (ln : Int)), (.int .i64 (k : Int)), (.bool true), (.int .i64 (k : Int)), (.pointer (some ⟨b, o + k * 65, none⟩)), (wrv ((m : Int), sx)), (.func (.func F) #[] caps), (.int .i64 (k : Int)), (.bool true), (if L 0 = true then (.pointer (some ⟨g, 0, none⟩)) else u19), (if L 1 = true then (.pointer (some ⟨g, 0, none⟩)) else u20), (if L 2 = true then (.pointer (some ⟨g, 0, none⟩)) else u21), (if L 3 = true then (.slice (some ⟨b2, 0, none⟩) n c2) else u22), (if L 4 = true then (.pointer (some ⟨wr.heap.size, 0, none⟩)) else u23), (if L 5 = true then (.int .i64 (m : Int)) else u24), (if L 6 = true then (.pointer (some ⟨wr.heap.size, 1, none⟩)) else u25), (if L 7 = true then (secv sx) else u26), (if L 8 = true then (.pointer (some ⟨b2, m * 64, none⟩)) else u27), u28, undef, undef, undef], defers := [] } ∧ ((L 9 = true ∧ (∀ j, j < 10 → L j = true) ∧ w'.ownsRow B 70 64 (.slice (some ⟨b2, 0, none⟩) n c2) n ((st2.set m sx).flatMap sc) ∧ w3.drew.grownBy w' (some b2)) ∨ (L 9 = false ∧ w' = w3.drew))) (by kernel_rfl) (by kernel_rfl) ?h0 ?step ?done
        case h0 => exact ⟨by simp, .inr ⟨by simp, rfl⟩⟩
        case step =>
          refine Inv.Steps.cons rfl ?_ ?_
          · intro L a w' hI hL hd K hK
            obtain ⟨rfl, hI⟩ := hI
            clear hd
            rcases hI with ⟨_, hall, _⟩ | ⟨h9, rfl⟩
            · exact absurd (hall 0 (by decide)) (by simp [hL])
            rw [if_pos (by rfl)]
            go_simp
            exact hK.out _ _ ⟨by simp, .inr ⟨by simpa using h9, rfl⟩⟩
          refine Inv.Steps.cons rfl ?_ ?_
          · intro L a w' hI hL hd K hK
            obtain ⟨rfl, hI⟩ := hI
            simp [Region.binds] at hd
            simp only [hd, if_true]
            rcases hI with ⟨_, hall, _⟩ | ⟨h9, rfl⟩
            · exact absurd (hall 1 (by decide)) (by simp [hL])
            rw [if_pos (by rfl)]
            go_simp
            exact hK.out _ _ ⟨by simp [hd], .inr ⟨by simpa using h9, rfl⟩⟩
          refine Inv.Steps.cons rfl ?_ ?_
          · intro L a w' hI hL hd K hK
            obtain ⟨rfl, hI⟩ := hI
            simp [Region.binds] at hd
            simp only [hd, if_true]
            rcases hI with ⟨_, hall, _⟩ | ⟨h9, rfl⟩
            · exact absurd (hall 2 (by decide)) (by simp [hL])
            rw [if_pos (by rfl)]
            go_simp
            exact hK.out _ _ ⟨by simp [hd], .inr ⟨by simpa using h9, rfl⟩⟩
          refine Inv.Steps.cons rfl ?_ ?_
          · intro L a w' hI hL hd K hK
            obtain ⟨rfl, hI⟩ := hI
            simp [Region.binds] at hd
            simp only [hd, if_true]
            rcases hI with ⟨_, hall, _⟩ | ⟨h9, rfl⟩
            · exact absurd (hall 3 (by decide)) (by simp [hL])
            rw [if_pos (by rfl)]
            go_simp
            exact hK.out _ _ ⟨by simp [hd], .inr ⟨by simpa using h9, rfl⟩⟩
          refine Inv.Steps.cons rfl ?_ ?_
          · intro L a w' hI hL hd K hK
            obtain ⟨rfl, hI⟩ := hI
            clear hd
            rcases hI with ⟨_, hall, _⟩ | ⟨h9, rfl⟩
            · exact absurd (hall 4 (by decide)) (by simp [hL])
            rw [if_pos (by rfl)]
            go_simp
            exact hK.out _ _ ⟨by simp, .inr ⟨by simpa using h9, rfl⟩⟩
          refine Inv.Steps.cons rfl ?_ ?_
          · intro L a w' hI hL hd K hK
            obtain ⟨rfl, hI⟩ := hI
            simp [Region.binds] at hd
            simp only [hd, if_true]
            rcases hI with ⟨_, hall, _⟩ | ⟨h9, rfl⟩
            · exact absurd (hall 5 (by decide)) (by simp [hL])
            rw [if_pos (by rfl)]
            go_simp
            exact hK.out _ _ ⟨by simp [hd], .inr ⟨by simpa using h9, rfl⟩⟩
          refine Inv.Steps.cons rfl ?_ ?_
          · intro L a w' hI hL hd K hK
            obtain ⟨rfl, hI⟩ := hI
            clear hd
            rcases hI with ⟨_, hall, _⟩ | ⟨h9, rfl⟩
            · exact absurd (hall 6 (by decide)) (by simp [hL])
            rw [if_pos (by rfl)]
            go_simp
            exact hK.out _ _ ⟨by simp, .inr ⟨by simpa using h9, rfl⟩⟩
          refine Inv.Steps.cons rfl ?_ ?_
          · intro L a w' hI hL hd K hK
            obtain ⟨rfl, hI⟩ := hI
            simp [Region.binds] at hd
            simp only [hd, if_true]
            rcases hI with ⟨_, hall, _⟩ | ⟨h9, rfl⟩
            · exact absurd (hall 7 (by decide)) (by simp [hL])
            rw [if_pos (by rfl)]
            refine wp_load_sec _ _ _ _ (by rfl) (by rfl) hsx ?_
            exact hK.out _ _ ⟨by simp [hd, Act.put], .inr ⟨by simpa using h9, rfl⟩⟩
          refine Inv.Steps.cons rfl ?_ ?_
          · intro L a w' hI hL hd K hK
            obtain ⟨rfl, hI⟩ := hI
            simp [Region.binds] at hd
            simp only [hd, if_true]
            rcases hI with ⟨_, hall, _⟩ | ⟨h9, rfl⟩
            · exact absurd (hall 8 (by decide)) (by simp [hL])
            rw [if_pos (by rfl)]
            go_simp
            exact hK.out _ _ ⟨by simp [hd], .inr ⟨by simpa using h9, rfl⟩⟩
          refine Inv.Steps.cons rfl ?_ ?_
          · intro L a w' hI hL hd K hK
            obtain ⟨rfl, hI⟩ := hI
            simp [Region.binds] at hd
            simp only [hd, if_true]
            rcases hI with ⟨_, hall, _⟩ | ⟨h9, rfl⟩
            · exact absurd (hall 9 (by decide)) (by simp [hL])
            rw [if_pos (by rfl)]
            refine wp_store_row _ _ B b2 m n c2 sx st2 hn2 (by rfl) (by rfl) (by rfl) hown3 hm2 ?_
            intro w4 ho4 hg4 hz4
            exact hK.out _ _ ⟨by simp [hd, Act.put], .inl ⟨by simp, fun j hj => by rcases (show j = 0 ∨ j = 1 ∨ j = 2 ∨ j = 3 ∨ j = 4 ∨ j = 5 ∨ j = 6 ∨ j = 7 ∨ j = 8 ∨ j = 9 by omega) with rfl | rfl | rfl | rfl | rfl | rfl | rfl | rfl | rfl | rfl <;> simp [hd], ho4, hg4⟩⟩
          exact Inv.Steps.nil (by decide)
        case done =>
          intro L a w' hI hall
          obtain ⟨rfl, hI⟩ := hI
          simp only [hall, if_true] at hI ⊢
          rcases hI with ⟨_, _, ho4, hg4⟩ | ⟨h9, _⟩
          rotate_left
          · simp at h9
          go_wp2
          have hb4 : Dkv B S w' g (.slice (some ⟨b2, 0, none⟩) n c2) (.slice (some ⟨b, o, none⟩) ln e) { d with st := st2.set m sx } := hput w' ho4 hg4
          go_roundw
          case rel => exact ⟨k + 1, by omega, by go_num, by rw [show settle f 0 (d.pe.take (k + 1)) d.st = st2.set m sx by rw [hst, if_pos hfk]]; exact hb4, hFr.trans ((Fr.of_below hbr3 S).trans (Fr.of_grown (show w3.grownBy w' (some b2) from ⟨hg4.os, hg4.tape, hg4.output, hg4.size, hg4.block⟩) (fun j hj => by simp at hj; subst hj; exact hS2)) (fun _ h => .inl h)) (fun _ h => .inl h)⟩
          case measure => simp [intOf]; omega
    · have hk' : d.pe.take k = d.pe := List.take_of_length_le (by omega)
      rw [hk'] at hDr
      have hc := hDr.1.cell
      have hz := hDr.1.frozen
      go_wp2
      refine ⟨rfl, .tuple #[], results_none rfl _ _, rfl, S, ⟨vs, .slice none 0 0, hDr.1.put 1 _, ?_, ?_, hDr.2.2.2.1, hDr.2.2.2.2.1, by simp [Value.ownBlock], ?_⟩, hFr.trans (Fr.of_grown (only_put wr ⟨g, 1, none⟩ _) (fun j hj => by simp at hj; subst hj; exact hDr.2.2.2.1)) (fun _ h => .inl h), fun _ h => .inl h⟩
      · exact hDr.2.1.kept (only_put wr ⟨g, 1, none⟩ _) (.inr fun q => (hDr.2.2.2.2.1 g q).2 rfl)
      · exact ⟨by simp [Dsk.settled], .inl ⟨rfl, rfl⟩⟩
      · intro j hj
        exact ⟨(hDr.2.2.2.2.2.2 j hj).1, by simpa using (hDr.2.2.2.2.2.2 j hj).2⟩
end Go.Proofs.Ythgafnommcodcaa.Disk
/-
  Sync, Crash.
-/
namespace Go.Proofs.Ythgafnommcodcaa.Disk
open Go.RowKit Go.Proofs.Ythgafnommcodcaa.Mem Go.Proofs.Ythgafnommcodcaa.Sect
open Go.Proofs.Ythgafnommcodcaa.Frame (Sec zero)
set_option maxRecDepth 100000

theorem Went.trans {B g : Nat} {S S1 : Nat → Prop} {w w1 w2 : World} {d : Dsk} (h1 : Fr S w w1) (hS : ∀ k, S1 k → S k ∨ w.heap.size ≤ k) (h2 : Went B S1 w1 w2 g d) : Went B S w w2 g d := by
  obtain ⟨S2, hD, hF, h3⟩ := h2
  refine ⟨S2, hD, h1.trans hF hS, fun k hk => ?_⟩
  rcases h3 k hk with h | h
  · exact hS k h
  · exact .inr (by have := h1.size; omega)
/-- Nothing of what is read here is in S. -/
def Off (S : Nat → Prop) (q : Option Addr) (n : Nat) : Prop := 0 < n → ∀ a, q = some a → ¬ S a.block
theorem RKfr {α : Type} {enc : α → List Value} {S : Nat → Prop} {w w' : World} {p : Option Addr} {cap : Nat} {xs : List α} (h : RK enc w p cap xs) (ho : Off S p xs.length) (hF : Fr S w w') : RK enc w' p cap xs := by
  obtain ⟨h1, h2, h3, h4⟩ := h
  refine ⟨h1, h2, h3, fun hz => ?_⟩
  obtain ⟨b, o, e, hlt, hc⟩ := h4 hz
  exact ⟨b, o, e, Nat.lt_of_lt_of_le hlt hF.size, fun j v hv => (World.cell?_of_block (w := w) (a := ⟨b, o + j, none⟩) (hF.2.2.2.2 b hlt (ho hz _ e))).trans (hc j v hv)⟩
def bc (b : Bool) : List Value := [.bool b]
theorem bc_len (b : Bool) : (bc b).length = 1 := rfl
theorem tells_all (S : Nat → Prop) (w : World) : Tells S w 69 #[] (fun _ => true) := by
  refine ⟨fun args w' => by rfl, fun n w' _ _ => ?_⟩
  show Calls Try.prog 69 #[.int .i64 (n : Int)] w' _
  go_enter Try.func69, Try.ntmps69
  go_wp2
  go_ret
  exact ⟨rfl, Below.refl _ _⟩
theorem tells_keep {S : Nat → Prop} {w : World} {G : Nat} {q : Option Addr} {c : Nat} {ks : List Bool} (hG : Blk w G 45 [.slice q ks.length c]) (hS : ¬ S G) (hr : RK bc w q c ks) (ho : Off S q ks.length) :
    Tells S w 53 #[.pointer (some ⟨G, 0, none⟩)] (keeps ks) := by
  refine ⟨fun args w' => by rfl, fun n w' _ hF => ?_⟩
  show Calls Try.prog 53 #[.int .i64 (n : Int), .pointer (some ⟨G, 0, none⟩)] w' _
  have hc := (hF.blk hG hS).cell
  have hr' := RKfr hr ho hF
  obtain ⟨m, hm⟩ : ∃ m, ks.length = m := ⟨_, rfl⟩
  rw [hm] at hc
  by_cases hn : n < m
  · have e1 : decide ((n : Int) < (m : Int)) = true := decide_eq_true (by omega)
    have e2 : decide (n < m) = true := decide_eq_true hn
    obtain ⟨x, hx⟩ : ∃ x, ks[n]? = some x := ⟨_, List.getElem?_eq_getElem (by omega)⟩
    obtain ⟨b, o, rfl, hcell⟩ := rk_range bc_len hr' hx
    have hk : w'.cell? ⟨b, o + n, none⟩ = some (.bool x) := by
      have := hcell 0 (.bool x) rfl
      simpa using this
    have hlt : (n : Int) < (m : Int) := by omega
    have hv : keeps ks n = x := by simp [keeps, hx]
    rw [hv]
    go_enter Try.func53, Try.ntmps53
    go_wp2
    go_ret
    exact ⟨rfl, Below.refl _ _⟩
  · have e1 : decide ((n : Int) < (m : Int)) = false := decide_eq_false (by omega)
    have e2 : decide (n < m) = false := decide_eq_false hn
    have hv : keeps ks n = false := by simp [keeps, List.getElem?_eq_none (show ks.length ≤ n by omega)]
    rw [hv]
    go_enter Try.func53, Try.ntmps53
    go_wp2
    go_ret
    exact ⟨rfl, Below.refl _ _⟩
theorem sync_any {S : Nat → Prop} {B g : Nat} {w : World} {d : Dsk} (h : Dk B S w g d) (hd : d.ok) :
    Calls Try.prog 49 #[.pointer (some ⟨g, 0, none⟩)] w fun e w' => e = .returned (.int .i64 d.err) ∧ Went B S w w' g d.sync := by
  have hact := act_any h hd
  cases hno : d.no with
  | true =>
    have e1 : d.err = 72 := by simp [Dsk.err, hno]
    have e2 : d.sync = d.acted := by simp [Dsk.sync, hno]
    rw [e1] at hact ⊢
    rw [e2]
    go_enter Try.func49, Try.ntmps49
    go_wp2_with (first
      | ((with_reducible refine hact.mono ?_); rintro e w1 ⟨rfl, hW1⟩))
    go_ret
    exact ⟨rfl, hW1⟩
  | false =>
    have e1 : d.err = 0 := by simp [Dsk.err, hno]
    have e2 : d.sync = d.acted.settled fun _ => true := by simp [Dsk.sync, hno]
    rw [e1] at hact ⊢
    rw [e2]
    go_enter Try.func49, Try.ntmps49
    go_wp2_with (first
      | ((with_reducible refine hact.mono ?_); rintro e w1 ⟨rfl, S1, hD1, hF1, hS1⟩)
      | ((with_reducible refine (settle_any hD1 (acted_ok hd) _ _ _ (tells_all S1 w1)).mono ?_); rintro e w2 ⟨rfl, hW2⟩))
    go_ret
    exact ⟨rfl, Went.trans hF1 hS1 hW2⟩
theorem grown2 {w a b : World} {g : Nat} (h : w.grownBy a (some g)) (k : a.grownBy b (some g)) : w.grownBy b (some g) :=
  ⟨k.os.trans h.os, k.tape.trans h.tape, k.output.trans h.output, Nat.le_trans h.size k.size, fun j hj hne => (k.block j (Nat.lt_of_lt_of_le hj h.size) hne).trans (h.block j hj hne)⟩
theorem crash_any {S : Nat → Prop} {B g : Nat} {w : World} {d : Dsk} (h : Dk B S w g d) (hd : d.ok) (q : Option Addr) (m c : Nat) (ks : List Bool) (hm : ks.length = m) (hr : RK bc w q c ks) (ho : Off S q m) :
    Calls Try.prog 23 #[.pointer (some ⟨g, 0, none⟩), .slice q m c] w fun e w' => e = .returned (.tuple #[]) ∧ Went B S w w' g (d.crash ks) := by
  subst hm
  have hb0 := bnew w (.cells #[.slice q ks.length c] 45)
  have ht := tells_keep (Blk.new w #[.slice q ks.length c] 45) (fun q => by have := h.lt _ q; omega) (hr.alloc _) ho
  have hset := settle_any (h.below hb0) hd _ _ _ ht
  go_enter Try.func23, Try.ntmps23
  go_wp2_with (first
    | ((with_reducible refine hset.mono ?_); rintro e w1 ⟨rfl, S1, hD1, hF1, hS1⟩; obtain ⟨p1, c1, q1, e1, hb1, _, _, hk1⟩ := hD1.parts; have hc1 := hb1.cell; have hz1 := hb1.frozen))
  have hgg : w1.grownBy ((w1.setCell ⟨g, 2, none⟩ (.bool false)).setCell ⟨g, 3, none⟩ (.int .i64 (-1))) (some g) := grown2 (only_put _ _ _) (only_put _ _ _)
  refine ⟨rfl, .tuple #[], results_none rfl _ _, rfl, ?_⟩
  exact Went.trans (Fr.of_below hb0 S) (fun _ h => .inl h) (Went.trans hF1 hS1 (hk1 _ false (-1) ((hb1.put 2 _).put 3 _) hgg))
end Go.Proofs.Ythgafnommcodcaa.Disk
namespace Go.Proofs.Ythgafnommcodcaa.Disk
open Go.RowKit Go.Proofs.Ythgafnommcodcaa.Mem Go.Proofs.Ythgafnommcodcaa.Sect
open Go.Proofs.Ythgafnommcodcaa.Frame (Sec zero)
set_option maxRecDepth 100000

theorem info_wr : ∃ i, Try.prog.info? 119 = some i ∧ i.zero = some (wrv (0, zero)) ∧ i.size = 65 ∧ i.bytes = 72 := by
  have h : (Try.prog.info? 119).map (fun i => (i.zero, i.size, i.bytes)) = some (some (wrv (0, zero)), 65, 72) := by kernel_rfl
  obtain ⟨i, h1, h2⟩ := Option.map_eq_some_iff.1 h
  simp only [Prod.mk.injEq] at h2
  exact ⟨i, h1, h2⟩
theorem wp_app_wr {o : Oper} {a : Act} {w : World} {K : Act → World → Prop} {Q : Exit → Act → World → Prop} (x y : Operand) (B : Nat) (v : Value) (n : Nat) (pe : List Wr) (G : Nat) (e : Wr) (ho : o.op = .call { callee := .builtin .append, args := #[x, y], argTypes := #[81, 81] }) (hx : a.eval x = v) (hy : a.eval y = .slice (some ⟨G, 0, none⟩) 1 1)
    (hown : w.ownsRow B 119 65 v n (pe.flatMap wc)) (hG : Blk w G 119 (wc e)) (hn : n ≤ 1000) (hB : B ≤ w.heap.size)
    (h : ∀ v' w', w'.ownsRow B 119 65 v' (n + 1) ((pe ++ [e]).flatMap wc) → w.grownBy w' v.ownBlock → (∀ k, v'.ownBlock = some k → v.ownBlock = some k ∨ w.heap.size ≤ k) → K (a.put o.dst v') w') : o.wp Try.prog a w K Q := by
  obtain ⟨i, h1, h2, h3, h4⟩ := info_wr
  obtain ⟨v', w', hr, k2, k3, k4⟩ := run_append_where (P := Try.prog) w B 81 o.type 119 i _ 65 72 Try.underlying81 h1 h2 h3 h4 (by simp [wrv, Value.cells, wc_len]) (by decide) v n _ hown ⟨G, 0, none⟩ 1 1 (wc e) (by simp [wc_len]) (fun j u hu => by rw [Addr.add_lit, Nat.zero_add, hG.cell]; exact hu) (wc_one e) (by unfold maxLen; omega) (by omega) hB
  unfold Oper.wp execOp
  simp only [ho, resolve, invoke, builtin, Sem.run_bind, Sem.run_pure, Result.andThen_ok, List.map_toArray, List.map_cons, List.map_nil, hx, hy, hr]
  exact h v' w' (by rw [List.flatMap_append, List.flatMap_cons, List.flatMap_nil, List.append_nil]; exact k2) k3 k4
/-- Ahead of the last store: the new list of what is pending lies there. -/
def Put (B : Nat) (S : Nat → Prop) (w1 w : World) (g : Nat) (vs vp v : Value) (d : Dsk) (x : Wr) : Prop :=
  Blk w g 83 [vs, vp, .bool d.dn, .int .i64 d.lf] ∧ w.ownsRow B 70 64 vs d.st.length (d.st.flatMap sc) ∧ w.ownsRow B 119 65 v (d.pe.length + 1) ((d.pe ++ [x]).flatMap wc) ∧
    (∀ k, v.ownBlock = some k → vp.ownBlock = some k ∨ w1.heap.size ≤ k) ∧ Fr S w1 w
theorem put_mid {B g : Nat} {S : Nat → Prop} {w1 w w' : World} {vs vp v : Value} {d : Dsk} {x : Wr} (h : Dkv B S w g vs vp d) (hb : Below w1.heap.size w1 w) (ho : w'.ownsRow B 119 65 v (d.pe.length + 1) ((d.pe ++ [x]).flatMap wc)) (hg : w.grownBy w' vp.ownBlock) (hl : ∀ k, v.ownBlock = some k → vp.ownBlock = some k ∨ w.heap.size ≤ k) : Put B S w1 w' g vs vp v d x := by
  obtain ⟨h1, h2, h3, h4, h5, h6, h7⟩ := h
  refine ⟨h1.kept hg (fun q => (h6 g q.symm).2.1 rfl), h2.kept hg ?_, ho, fun k hk => ?_, (Fr.of_below hb S).trans (Fr.of_grown hg (fun k hk => (h6 k hk).1)) (fun _ h => .inl h)⟩
  · cases hv : vs.ownBlock with
    | none => exact .inl rfl
    | some b => exact .inr fun q => (h6 b q.symm).2.2 hv
  · rcases hl k hk with h | h
    · exact .inl h
    · exact .inr (by have := hb.size; omega)
theorem Put.below {B g : Nat} {S : Nat → Prop} {w1 w w' : World} {vs vp v : Value} {d : Dsk} {x : Wr} (h : Put B S w1 w g vs vp v d x) (hb : Below w.heap.size w w') : Put B S w1 w' g vs vp v d x :=
  ⟨h.1.below hb, own_below h.2.1 hb, own_below h.2.2.1 hb, h.2.2.2.1, h.2.2.2.2.trans (Fr.of_below hb S) (fun _ h => .inl h)⟩
theorem Put.slice {B g : Nat} {S : Nat → Prop} {w1 w : World} {vs vp v : Value} {d : Dsk} {x : Wr} (h : Put B S w1 w g vs vp v d x) : ∃ p n c, v = .slice p n c := by
  rcases h.2.2.1.2 with ⟨rfl, _⟩ | ⟨g, cap, cur, rfl, _⟩
  · exact ⟨_, _, _, rfl⟩
  · exact ⟨_, _, _, rfl⟩
theorem put_done {B g : Nat} {S : Nat → Prop} {w1 w : World} {vs vp v : Value} {d : Dsk} {x : Wr} (h0 : Dkv B S w1 g vs vp d) (h : Put B S w1 w g vs vp v d x) : Went B S w1 (w.setCell ⟨g, 1, none⟩ v) g { d with pe := d.pe ++ [x] } := by
  obtain ⟨-, -, -, g4, g5, g6, g7⟩ := h0
  obtain ⟨h1, h2, h3, h4, h5⟩ := h
  have hgr := only_put w ⟨g, 1, none⟩ v
  refine ⟨fun k => S k ∨ (w1.heap.size ≤ k ∧ k < w.heap.size), ⟨vs, v, h1.put 1 v, ?_, ?_, .inl g4, fun b hb => ⟨.inl (g5 b hb).1, (g5 b hb).2⟩, fun b hb => ?_, fun k hk => ?_⟩, h5.trans (Fr.of_grown hgr (fun j hj => by simp at hj; subst hj; exact g4)) (fun _ h => .inl h), fun k hk => ?_⟩
  · exact h2.kept hgr (.inr fun q => (g5 g q).2 rfl)
  · simp only [List.length_append, List.length_cons, List.length_nil, Nat.zero_add]
    refine h3.kept hgr (.inr fun q => ?_)
    rcases h4 g q with h | h
    · exact (g6 g h).2.1 rfl
    · have := (g7 g g4).2; omega
  · have hlt := (h3.lt b hb).2
    rcases h4 b hb with h | h
    · exact ⟨.inl (g6 b h).1, (g6 b h).2.1, (g6 b h).2.2⟩
    · refine ⟨.inr ⟨h, hlt⟩, by have := (g7 g g4).2; omega, fun q => ?_⟩
      have := (g7 b (g5 b q).1).2
      omega
  · rcases hk with hk | ⟨hk, hk2⟩
    · exact ⟨(g7 k hk).1, by have := (g7 k hk).2; have := h5.size; simp; omega⟩
    · exact ⟨by have := (g7 g g4).1; have := (g7 g g4).2; omega, by simpa using hk2⟩
  · rcases hk with hk | ⟨hk, _⟩
    · exact .inl hk
    · exact .inr hk
set_option maxHeartbeats 1000000 in
theorem write_any {S : Nat → Prop} {B g : Nat} {w : World} {d : Dsk} (h : Dk B S w g d) (hd : d.ok) (i : Int) (s : Sec) :
    Calls Try.prog 65 #[.pointer (some ⟨g, 0, none⟩), .int .i64 i, secv s] w fun e w' => e = .returned (.int .i64 (d.putE i)) ∧ Went B S w w' g (d.put i s) := by
  have hBw : B ≤ w.heap.size := by
    obtain ⟨vs, vp, h1, _, _, h4, _, _, h7⟩ := h
    have := h7 g h4
    omega
  cases hh : has d.st.length i with
  | false =>
    have e1 : d.putE i = 71 := by simp [Dsk.putE, hh]
    have e2 : d.put i s = d := by simp [Dsk.put, hh]
    rw [e1, e2]
    go_enter Try.func65, Try.ntmps65
    go_wp2_with (first
      | ((refine at_box_sec _ _ (by rfl) (by rfl) (by rfl) ?_); intro W hW hB hz; have hDW := h.below hB)
      | ((with_reducible refine (has_any hDW _).mono ?_); rintro e w1 ⟨rfl, rfl⟩; rw [hh]))
    go_ret
    exact ⟨rfl, Went.keep h hB⟩
  | true =>
    cases hno : d.no with
    | true =>
      have e1 : d.putE i = 72 := by simp [Dsk.putE, Dsk.err, hh, hno]
      have e2 : d.put i s = d.acted := by simp [Dsk.put, hh, hno]
      have e3 : d.err = 72 := by simp [Dsk.err, hno]
      rw [e1, e2]
      go_enter Try.func65, Try.ntmps65
      go_wp2_with (first
        | ((refine at_box_sec _ _ (by rfl) (by rfl) (by rfl) ?_); intro W hW hB hz; have hDW := h.below hB)
        | ((with_reducible refine (has_any hDW _).mono ?_); rintro e w1 ⟨rfl, rfl⟩; rw [hh])
        | ((with_reducible refine (act_any hDW hd).mono ?_); rintro e w1 ⟨rfl, hW1⟩; rw [e3]))
      go_ret
      exact ⟨rfl, Went.trans (Fr.of_below hB S) (fun _ h => .inl h) hW1⟩
    | false =>
      have e1 : d.putE i = 0 := by simp [Dsk.putE, Dsk.err, hh, hno]
      have e2 : d.put i s = { d.acted with pe := d.acted.pe ++ [(i, s)] } := by simp [Dsk.put, hh, hno, acted_pe]
      have e3 : d.err = 0 := by simp [Dsk.err, hno]
      have hd1 := acted_ok hd
      rw [e1, e2]
      obtain ⟨d1, hd1'⟩ : ∃ d1, d1 = d.acted := ⟨_, rfl⟩
      have hact : ∀ {W : World}, Dk B S W g d → Calls Try.prog 68 #[.pointer (some ⟨g, 0, none⟩)] W fun e w' => e = .returned (.int .i64 0) ∧ Went B S W w' g d1 := fun hDW => by
        have := act_any hDW hd
        rw [e3, ← hd1'] at this
        exact this
      rw [← hd1'] at hd1 ⊢
      have hpl1 := hd1.2.1
      clear hd1' e3 e1 e2
      go_enter Try.func65, Try.ntmps65
      go_wp2_with (first
        | ((refine at_box_sec _ _ (by rfl) (by rfl) (by rfl) ?_); intro W hW hB hz; have hDW := h.below hB)
        | ((with_reducible refine (has_any hDW _).mono ?_); rintro e w1 ⟨rfl, rfl⟩; rw [hh])
        | ((with_reducible refine (hact hDW).mono ?_); rintro e w1 ⟨rfl, S1, ⟨vs, vp, hD1⟩, hF1, hS1⟩))
      have hW1 : Blk w1 w.heap.size 70 (sc s) := hF1.blk hW (fun q => by have := h.lt _ q; omega)
      have hG0 : ¬ S1 w.heap.size := fun q => by
        rcases hS1 _ q with q | q
        · have := h.lt _ q; omega
        · have := hz.out; omega
      have hw1 : B ≤ w1.heap.size := by have := hF1.size; have := hB.size; omega
      refine Inv.region_inv (fun L a w' => ∃ (v9 : Value) (GX : Nat), a = { tmps := #[(.pointer (some ⟨g, 0, none⟩)), (.int .i64 i), (secv s), undef, undef, (.pointer (some ⟨w.heap.size, 0, none⟩)), (.int .i64 0), (.int .i64 0), (.pointer (some ⟨g, 0, none⟩)), (.int .i64 i), (.bool true), (.bool false), (.pointer (some ⟨g, 0, none⟩)), (.int .i64 0), (.int .i64 0), (.bool false), undef, (if L 0 = true then (.pointer (some ⟨g, 0, none⟩)) else undef), (if L 1 = true then (.pointer (some ⟨g, 0, none⟩)) else undef), (if L 2 = true then (.pointer (some ⟨g, 0, none⟩)) else undef), (if L 3 = true then (.pointer (some ⟨g, 1, none⟩)) else undef), (if L 4 = true then vp else undef), (if L 5 = true then (.int .i64 i) else undef), (if L 6 = true then (secv s) else undef), (if L 7 = true then (wrv (i, s)) else undef), (if L 8 = true then (.slice (some ⟨GX, 0, none⟩) 1 1) else undef), (if L 9 = true then v9 else undef), (if L 10 = true then (.pointer (some ⟨g, 0, none⟩)) else undef), (if L 11 = true then (.pointer (some ⟨g, 1, none⟩)) else undef)], defers := [] } ∧ ((L 9 = true ∧ L 12 = false ∧ Put B S1 w1 w' g vs vp v9 d1 (i, s)) ∨ (L 4 = true ∧ L 6 = true ∧ L 8 = true ∧ L 9 = true ∧ L 12 = true ∧ ∃ V2, Put B S1 w1 V2 g vs vp v9 d1 (i, s) ∧ w' = V2.setCell ⟨g, 1, none⟩ v9) ∨ (L 9 = false ∧ L 12 = false ∧ (Dkv B S1 w' g vs vp d1 ∧ Below w1.heap.size w1 w' ∧ Blk w' w.heap.size 70 (sc s)) ∧ (L 8 = true → Blk w' GX 119 (wc (i, s)))))) (by kernel_rfl) (by kernel_rfl) ?h0 ?step ?done
      case h0 => exact ⟨undef, 0, by simp, .inr (.inr ⟨by simp, by simp, ⟨hD1.below ((Below.refl _ _).drew), (Below.refl _ _).drew, hW1.drew⟩, by simp⟩)⟩
      case step =>
        refine Inv.Steps.cons rfl ?_ ?_
        · intro L a w' hI hL hd K hK
          obtain ⟨v9, GX, rfl, hI⟩ := hI
          clear hd
          rw [if_pos (by rfl)]
          rcases hI with ⟨h9, h12, hT⟩ | ⟨h4, h6, h8, h9, h12, V2, hT, hV⟩ | ⟨h9, h12, ⟨hD, hB, hS⟩, h8⟩
          · replace h9 : Hid (L 9 = true) := h9
            replace h12 : Hid (L 12 = false) := h12
            go_simp
            exact hK.out _ _ ⟨v9, GX, by simp, .inl ⟨by simpa using h9.out, by simpa using h12.out, hT⟩⟩
          · replace h4 : Hid (L 4 = true) := h4
            replace h6 : Hid (L 6 = true) := h6
            replace h8 : Hid (L 8 = true) := h8
            replace h9 : Hid (L 9 = true) := h9
            replace h12 : Hid (L 12 = true) := h12
            replace hV : Hid (w' = V2.setCell ⟨g, 1, none⟩ v9) := hV
            go_simp
            exact hK.out _ _ ⟨v9, GX, by simp, .inr (.inl ⟨by simpa using h4.out, by simpa using h6.out, by simpa using h8.out, by simpa using h9.out, by simpa using h12.out, V2, hT, hV.out⟩)⟩
          · replace h9 : Hid (L 9 = false) := h9
            replace h12 : Hid (L 12 = false) := h12
            replace h8 : Hid (L 8 = true → Blk w' GX 119 (wc (i, s))) := h8
            go_simp
            exact hK.out _ _ ⟨v9, GX, by simp, .inr (.inr ⟨by simpa using h9.out, by simpa using h12.out, ⟨hD, hB, hS⟩, by simpa using h8.out⟩)⟩
        refine Inv.Steps.cons rfl ?_ ?_
        · intro L a w' hI hL hd K hK
          obtain ⟨v9, GX, rfl, hI⟩ := hI
          clear hd
          rw [if_pos (by rfl)]
          rcases hI with ⟨h9, h12, hT⟩ | ⟨h4, h6, h8, h9, h12, V2, hT, hV⟩ | ⟨h9, h12, ⟨hD, hB, hS⟩, h8⟩
          · replace h9 : Hid (L 9 = true) := h9
            replace h12 : Hid (L 12 = false) := h12
            go_simp
            exact hK.out _ _ ⟨v9, GX, by simp, .inl ⟨by simpa using h9.out, by simpa using h12.out, hT⟩⟩
          · replace h4 : Hid (L 4 = true) := h4
            replace h6 : Hid (L 6 = true) := h6
            replace h8 : Hid (L 8 = true) := h8
            replace h9 : Hid (L 9 = true) := h9
            replace h12 : Hid (L 12 = true) := h12
            replace hV : Hid (w' = V2.setCell ⟨g, 1, none⟩ v9) := hV
            go_simp
            exact hK.out _ _ ⟨v9, GX, by simp, .inr (.inl ⟨by simpa using h4.out, by simpa using h6.out, by simpa using h8.out, by simpa using h9.out, by simpa using h12.out, V2, hT, hV.out⟩)⟩
          · replace h9 : Hid (L 9 = false) := h9
            replace h12 : Hid (L 12 = false) := h12
            replace h8 : Hid (L 8 = true → Blk w' GX 119 (wc (i, s))) := h8
            go_simp
            exact hK.out _ _ ⟨v9, GX, by simp, .inr (.inr ⟨by simpa using h9.out, by simpa using h12.out, ⟨hD, hB, hS⟩, by simpa using h8.out⟩)⟩
        refine Inv.Steps.cons rfl ?_ ?_
        · intro L a w' hI hL hd K hK
          obtain ⟨v9, GX, rfl, hI⟩ := hI
          simp [Region.binds] at hd
          simp only [hd, if_true]
          rw [if_pos (by rfl)]
          rcases hI with ⟨h9, h12, hT⟩ | ⟨h4, h6, h8, h9, h12, V2, hT, hV⟩ | ⟨h9, h12, ⟨hD, hB, hS⟩, h8⟩
          · replace h9 : Hid (L 9 = true) := h9
            replace h12 : Hid (L 12 = false) := h12
            go_simp
            exact hK.out _ _ ⟨v9, GX, by simp [hd], .inl ⟨by simpa using h9.out, by simpa using h12.out, hT⟩⟩
          · replace h4 : Hid (L 4 = true) := h4
            replace h6 : Hid (L 6 = true) := h6
            replace h8 : Hid (L 8 = true) := h8
            replace h9 : Hid (L 9 = true) := h9
            replace h12 : Hid (L 12 = true) := h12
            replace hV : Hid (w' = V2.setCell ⟨g, 1, none⟩ v9) := hV
            go_simp
            exact hK.out _ _ ⟨v9, GX, by simp [hd], .inr (.inl ⟨by simpa using h4.out, by simpa using h6.out, by simpa using h8.out, by simpa using h9.out, by simpa using h12.out, V2, hT, hV.out⟩)⟩
          · replace h9 : Hid (L 9 = false) := h9
            replace h12 : Hid (L 12 = false) := h12
            replace h8 : Hid (L 8 = true → Blk w' GX 119 (wc (i, s))) := h8
            go_simp
            exact hK.out _ _ ⟨v9, GX, by simp [hd], .inr (.inr ⟨by simpa using h9.out, by simpa using h12.out, ⟨hD, hB, hS⟩, by simpa using h8.out⟩)⟩
        refine Inv.Steps.cons rfl ?_ ?_
        · intro L a w' hI hL hd K hK
          obtain ⟨v9, GX, rfl, hI⟩ := hI
          simp [Region.binds] at hd
          simp only [hd, if_true]
          rw [if_pos (by rfl)]
          rcases hI with ⟨h9, h12, hT⟩ | ⟨h4, h6, h8, h9, h12, V2, hT, hV⟩ | ⟨h9, h12, ⟨hD, hB, hS⟩, h8⟩
          · replace h9 : Hid (L 9 = true) := h9
            replace h12 : Hid (L 12 = false) := h12
            go_simp
            exact hK.out _ _ ⟨v9, GX, by simp [hd], .inl ⟨by simpa using h9.out, by simpa using h12.out, hT⟩⟩
          · replace h4 : Hid (L 4 = true) := h4
            replace h6 : Hid (L 6 = true) := h6
            replace h8 : Hid (L 8 = true) := h8
            replace h9 : Hid (L 9 = true) := h9
            replace h12 : Hid (L 12 = true) := h12
            replace hV : Hid (w' = V2.setCell ⟨g, 1, none⟩ v9) := hV
            go_simp
            exact hK.out _ _ ⟨v9, GX, by simp [hd], .inr (.inl ⟨by simpa using h4.out, by simpa using h6.out, by simpa using h8.out, by simpa using h9.out, by simpa using h12.out, V2, hT, hV.out⟩)⟩
          · replace h9 : Hid (L 9 = false) := h9
            replace h12 : Hid (L 12 = false) := h12
            replace h8 : Hid (L 8 = true → Blk w' GX 119 (wc (i, s))) := h8
            go_simp
            exact hK.out _ _ ⟨v9, GX, by simp [hd], .inr (.inr ⟨by simpa using h9.out, by simpa using h12.out, ⟨hD, hB, hS⟩, by simpa using h8.out⟩)⟩
        refine Inv.Steps.cons rfl ?_ ?_
        · intro L a w' hI hL hd K hK
          obtain ⟨v9, GX, rfl, hI⟩ := hI
          simp [Region.binds] at hd
          simp only [hd, if_true]
          rw [if_pos (by rfl)]
          rcases hI with ⟨h9, h12, hT⟩ | ⟨h4, h6, h8, h9, h12, V2, hT, hV⟩ | ⟨h9, h12, ⟨hD, hB, hS⟩, h8⟩
          · replace h9 : Hid (L 9 = true) := h9
            replace h12 : Hid (L 12 = false) := h12
            have hc := hT.1.cell
            go_simp
            exact hK.out _ _ ⟨v9, GX, by simp [hd], .inl ⟨by simpa using h9.out, by simpa using h12.out, hT⟩⟩
          · simp [hL] at h4
          · replace h9 : Hid (L 9 = false) := h9
            replace h12 : Hid (L 12 = false) := h12
            replace h8 : Hid (L 8 = true → Blk w' GX 119 (wc (i, s))) := h8
            have hc := hD.1.cell
            go_simp
            exact hK.out _ _ ⟨v9, GX, by simp [hd], .inr (.inr ⟨by simpa using h9.out, by simpa using h12.out, ⟨hD, hB, hS⟩, by simpa using h8.out⟩)⟩
        refine Inv.Steps.cons rfl ?_ ?_
        · intro L a w' hI hL hd K hK
          obtain ⟨v9, GX, rfl, hI⟩ := hI
          clear hd
          rw [if_pos (by rfl)]
          rcases hI with ⟨h9, h12, hT⟩ | ⟨h4, h6, h8, h9, h12, V2, hT, hV⟩ | ⟨h9, h12, ⟨hD, hB, hS⟩, h8⟩
          · replace h9 : Hid (L 9 = true) := h9
            replace h12 : Hid (L 12 = false) := h12
            go_simp
            exact hK.out _ _ ⟨v9, GX, by simp, .inl ⟨by simpa using h9.out, by simpa using h12.out, hT⟩⟩
          · replace h4 : Hid (L 4 = true) := h4
            replace h6 : Hid (L 6 = true) := h6
            replace h8 : Hid (L 8 = true) := h8
            replace h9 : Hid (L 9 = true) := h9
            replace h12 : Hid (L 12 = true) := h12
            replace hV : Hid (w' = V2.setCell ⟨g, 1, none⟩ v9) := hV
            go_simp
            exact hK.out _ _ ⟨v9, GX, by simp, .inr (.inl ⟨by simpa using h4.out, by simpa using h6.out, by simpa using h8.out, by simpa using h9.out, by simpa using h12.out, V2, hT, hV.out⟩)⟩
          · replace h9 : Hid (L 9 = false) := h9
            replace h12 : Hid (L 12 = false) := h12
            replace h8 : Hid (L 8 = true → Blk w' GX 119 (wc (i, s))) := h8
            go_simp
            exact hK.out _ _ ⟨v9, GX, by simp, .inr (.inr ⟨by simpa using h9.out, by simpa using h12.out, ⟨hD, hB, hS⟩, by simpa using h8.out⟩)⟩
        refine Inv.Steps.cons rfl ?_ ?_
        · intro L a w' hI hL hd K hK
          obtain ⟨v9, GX, rfl, hI⟩ := hI
          clear hd
          rw [if_pos (by rfl)]
          rcases hI with ⟨h9, h12, hT⟩ | ⟨h4, h6, h8, h9, h12, V2, hT, hV⟩ | ⟨h9, h12, ⟨hD, hB, hS⟩, h8⟩
          · replace h9 : Hid (L 9 = true) := h9
            replace h12 : Hid (L 12 = false) := h12
            refine wp_load_sec _ _ _ _ (by rfl) (by rfl) (blk_sec (hT.2.2.2.2.blk hW1 hG0)) ?_
            exact hK.out _ _ ⟨v9, GX, by simp [Act.put], .inl ⟨by simpa using h9.out, by simpa using h12.out, hT⟩⟩
          · simp [hL] at h6
          · replace h9 : Hid (L 9 = false) := h9
            replace h12 : Hid (L 12 = false) := h12
            replace h8 : Hid (L 8 = true → Blk w' GX 119 (wc (i, s))) := h8
            refine wp_load_sec _ _ _ _ (by rfl) (by rfl) (blk_sec hS) ?_
            exact hK.out _ _ ⟨v9, GX, by simp [Act.put], .inr (.inr ⟨by simpa using h9.out, by simpa using h12.out, ⟨hD, hB, hS⟩, by simpa using h8.out⟩)⟩
        refine Inv.Steps.cons rfl ?_ ?_
        · intro L a w' hI hL hd K hK
          obtain ⟨v9, GX, rfl, hI⟩ := hI
          simp [Region.binds] at hd
          simp only [hd, if_true]
          rw [if_pos (by rfl)]
          rcases hI with ⟨h9, h12, hT⟩ | ⟨h4, h6, h8, h9, h12, V2, hT, hV⟩ | ⟨h9, h12, ⟨hD, hB, hS⟩, h8⟩
          · replace h9 : Hid (L 9 = true) := h9
            replace h12 : Hid (L 12 = false) := h12
            refine wp_buildw _ _ _ _ (by rfl) (by rfl) (by rfl) ?_
            exact hK.out _ _ ⟨v9, GX, by simp [hd, Act.put], .inl ⟨by simpa using h9.out, by simpa using h12.out, hT⟩⟩
          · replace h4 : Hid (L 4 = true) := h4
            replace h6 : Hid (L 6 = true) := h6
            replace h8 : Hid (L 8 = true) := h8
            replace h9 : Hid (L 9 = true) := h9
            replace h12 : Hid (L 12 = true) := h12
            replace hV : Hid (w' = V2.setCell ⟨g, 1, none⟩ v9) := hV
            refine wp_buildw _ _ _ _ (by rfl) (by rfl) (by rfl) ?_
            exact hK.out _ _ ⟨v9, GX, by simp [hd, Act.put], .inr (.inl ⟨by simpa using h4.out, by simpa using h6.out, by simpa using h8.out, by simpa using h9.out, by simpa using h12.out, V2, hT, hV.out⟩)⟩
          · replace h9 : Hid (L 9 = false) := h9
            replace h12 : Hid (L 12 = false) := h12
            replace h8 : Hid (L 8 = true → Blk w' GX 119 (wc (i, s))) := h8
            refine wp_buildw _ _ _ _ (by rfl) (by rfl) (by rfl) ?_
            exact hK.out _ _ ⟨v9, GX, by simp [hd, Act.put], .inr (.inr ⟨by simpa using h9.out, by simpa using h12.out, ⟨hD, hB, hS⟩, by simpa using h8.out⟩)⟩
        refine Inv.Steps.cons rfl ?_ ?_
        · intro L a w' hI hL hd K hK
          obtain ⟨v9, GX, rfl, hI⟩ := hI
          simp [Region.binds] at hd
          simp only [hd, if_true]
          rw [if_pos (by rfl)]
          rcases hI with ⟨h9, h12, hT⟩ | ⟨h4, h6, h8, h9, h12, V2, hT, hV⟩ | ⟨h9, h12, ⟨hD, hB, hS⟩, h8⟩
          · replace h9 : Hid (L 9 = true) := h9
            replace h12 : Hid (L 12 = false) := h12
            refine wp_litw _ _ (by rfl) (by rfl) ?_
            intro w6 hX6 hB6 hz6
            exact hK.out _ _ ⟨v9, w'.heap.size, by simp [hd, hL, Act.put], .inl ⟨by simpa using h9.out, by simpa using h12.out, hT.below hB6⟩⟩
          · simp [hL] at h8
          · replace h9 : Hid (L 9 = false) := h9
            replace h12 : Hid (L 12 = false) := h12
            replace h8 : Hid (L 8 = true → Blk w' GX 119 (wc (i, s))) := h8
            refine wp_litw _ _ (by rfl) (by rfl) ?_
            intro w6 hX6 hB6 hz6
            exact hK.out _ _ ⟨v9, w'.heap.size, by simp [hd, hL, Act.put], .inr (.inr ⟨by simpa using h9.out, by simpa using h12.out, ⟨hD.below hB6, bnext hB hB6, hS.below hB6⟩, fun _ => hX6⟩)⟩
        refine Inv.Steps.cons rfl ?_ ?_
        · intro L a w' hI hL hd K hK
          obtain ⟨v9, GX, rfl, hI⟩ := hI
          simp [Region.binds] at hd
          simp only [hd, if_true]
          rw [if_pos (by rfl)]
          rcases hI with ⟨h9, h12, hT⟩ | ⟨h4, h6, h8, h9, h12, V2, hT, hV⟩ | ⟨h9, h12, ⟨hD, hB, hS⟩, h8⟩
          · simp [hL] at h9
          · simp [hL] at h9
          · replace h9 : Hid (L 9 = false) := h9
            replace h12 : Hid (L 12 = false) := h12
            replace h8 : Hid (L 8 = true → Blk w' GX 119 (wc (i, s))) := h8
            refine wp_app_wr _ _ B vp d1.pe.length d1.pe GX (i, s) (by rfl) (by rfl) (by rfl) (hD.2.2.1) (h8.out (by simp [hd])) hpl1 (by have := hB.size; omega) ?_
            intro v6 w6 ho6 hg6 hl6
            exact hK.out _ _ ⟨v6, GX, by simp [hd, hL, Act.put], .inl ⟨by simp, by simpa using h12.out, put_mid hD hB ho6 hg6 hl6⟩⟩
        refine Inv.Steps.cons rfl ?_ ?_
        · intro L a w' hI hL hd K hK
          obtain ⟨v9, GX, rfl, hI⟩ := hI
          simp [Region.binds] at hd
          simp only [hd, if_true]
          rw [if_pos (by rfl)]
          rcases hI with ⟨h9, h12, hT⟩ | ⟨h4, h6, h8, h9, h12, V2, hT, hV⟩ | ⟨h9, h12, ⟨hD, hB, hS⟩, h8⟩
          · replace h9 : Hid (L 9 = true) := h9
            replace h12 : Hid (L 12 = false) := h12
            go_simp
            exact hK.out _ _ ⟨v9, GX, by simp [hd], .inl ⟨by simpa using h9.out, by simpa using h12.out, hT⟩⟩
          · replace h4 : Hid (L 4 = true) := h4
            replace h6 : Hid (L 6 = true) := h6
            replace h8 : Hid (L 8 = true) := h8
            replace h9 : Hid (L 9 = true) := h9
            replace h12 : Hid (L 12 = true) := h12
            replace hV : Hid (w' = V2.setCell ⟨g, 1, none⟩ v9) := hV
            go_simp
            exact hK.out _ _ ⟨v9, GX, by simp [hd], .inr (.inl ⟨by simpa using h4.out, by simpa using h6.out, by simpa using h8.out, by simpa using h9.out, by simpa using h12.out, V2, hT, hV.out⟩)⟩
          · simp [hd] at h9
        refine Inv.Steps.cons rfl ?_ ?_
        · intro L a w' hI hL hd K hK
          obtain ⟨v9, GX, rfl, hI⟩ := hI
          simp [Region.binds] at hd
          simp only [hd, if_true]
          rw [if_pos (by rfl)]
          rcases hI with ⟨h9, h12, hT⟩ | ⟨h4, h6, h8, h9, h12, V2, hT, hV⟩ | ⟨h9, h12, ⟨hD, hB, hS⟩, h8⟩
          · replace h9 : Hid (L 9 = true) := h9
            replace h12 : Hid (L 12 = false) := h12
            go_simp
            exact hK.out _ _ ⟨v9, GX, by simp [hd], .inl ⟨by simpa using h9.out, by simpa using h12.out, hT⟩⟩
          · replace h4 : Hid (L 4 = true) := h4
            replace h6 : Hid (L 6 = true) := h6
            replace h8 : Hid (L 8 = true) := h8
            replace h9 : Hid (L 9 = true) := h9
            replace h12 : Hid (L 12 = true) := h12
            replace hV : Hid (w' = V2.setCell ⟨g, 1, none⟩ v9) := hV
            go_simp
            exact hK.out _ _ ⟨v9, GX, by simp [hd], .inr (.inl ⟨by simpa using h4.out, by simpa using h6.out, by simpa using h8.out, by simpa using h9.out, by simpa using h12.out, V2, hT, hV.out⟩)⟩
          · simp [hd] at h9
        refine Inv.Steps.cons rfl ?_ ?_
        · intro L a w' hI hL hd K hK
          obtain ⟨v9, GX, rfl, hI⟩ := hI
          simp [Region.binds] at hd
          simp only [hd, if_true]
          rw [if_pos (by rfl)]
          rcases hI with ⟨h9, h12, hT⟩ | ⟨h4, h6, h8, h9, h12, V2, hT, hV⟩ | ⟨h9, h12, ⟨hD, hB, hS⟩, h8⟩
          · replace h9 : Hid (L 9 = true) := h9
            replace h12 : Hid (L 12 = false) := h12
            have hc := hT.1.cell
            have hz := hT.1.frozen
            obtain ⟨p9, n9, c9, rfl⟩ := hT.slice
            go_simp
            exact hK.out _ _ ⟨.slice p9 n9 c9, GX, by simp [hd], .inr (.inl ⟨by simp [hd], by simp [hd], by simp [hd], by simp [hd], by simp, w', hT, rfl⟩)⟩
          · simp [hL] at h12
          · simp [hd] at h9
        exact Inv.Steps.nil (by decide)
      case done =>
        intro L a w' hI hall
        obtain ⟨v9, GX, rfl, hI⟩ := hI
        simp only [hall, if_true] at hI ⊢
        rcases hI with ⟨_, h12, _⟩ | ⟨_, _, _, _, _, W2, hT, rfl⟩ | ⟨h9, _⟩
        · simp at h12
        rotate_left
        · simp at h9
        obtain ⟨S2, hD2, hF2, hS2⟩ := put_done hD1 hT
        go_wp2
        go_ret
        exact ⟨rfl, Went.trans (Fr.of_below hB S) (fun _ h => .inl h) (Went.trans hF1 hS1 ⟨S2, hD2, hF2, hS2⟩)⟩
end Go.Proofs.Ythgafnommcodcaa.Disk
