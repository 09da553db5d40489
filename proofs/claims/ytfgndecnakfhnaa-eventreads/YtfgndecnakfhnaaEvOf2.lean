/-
  The event of numbers: commitOf, of. (Written by gen_evof.py.)
-/
import Derived.Test.YtfgndecnakfhnaaEvNums
import Derived.Test.YtfgndecnakfhnaaPolOf
import Derived.Test.YtfgndecnakfhnaaPolAppend
/-
  The event of numbers: dropsOf, putsOf, commitOf, of.
-/
namespace Go.Proofs.Ytfgndecnakfhnaa.Event
open Go.RowKit Go.Proofs.Ytfgndecnakfhnaa.Mem Go.Proofs.Ytfgndecnakfhnaa.Policy
set_option maxRecDepth 100000

/-! ### Lists of numbers, cut -/
theorem run_from_u (w : World) (p : Option Addr) (n cap l : Nat) (hl : l ≤ n) :
    (Instr.slice 43 (.slice p n cap) (some (.int .i64 (l : Int))) none none).run Try.prog w = .ok (.slice (cutP p cap l) (n - l) (cap - l)) w := by
  have ht : Try.prog.underlying 43 = some (.slice (Try.prog.elem 43)) := by simp [Program.elem, Try.underlying43]
  have he : Try.prog.elem 43 = 28 := by simp [Program.elem, Try.underlying43]
  rw [run_slice_l w 43 p n cap ht .i64 (l : Int) (by omega) (by omega), he, Try.sizeOf28]
  simp [Result.andThen, sliced, cutP]
theorem run_upto_u (w : World) (p : Option Addr) (n cap l : Nat) (hl : l ≤ cap) :
    (Instr.slice 43 (.slice p n cap) none (some (.int .i64 (l : Int))) none).run Try.prog w = .ok (.slice p l cap) w := by
  have ht : Try.prog.underlying 43 = some (.slice (Try.prog.elem 43)) := by simp [Program.elem, Try.underlying43]
  have he : Try.prog.elem 43 = 28 := by simp [Program.elem, Try.underlying43]
  rw [run_slice_h w 43 p n cap ht .i64 (l : Int) (by omega) (by omega), he, Try.sizeOf28]
  cases p <;> simp [Result.andThen, sliced, Addr.add]
theorem info_i64 : ∃ i, Try.prog.info? 3 = some i ∧ i.zero = some (.int .i64 0) ∧ i.size = 1 ∧ i.bytes = 8 := by
  have h : (Try.prog.info? 3).map (fun i => (i.zero, i.size, i.bytes)) = some (some (.int .i64 0), 1, 8) := by kernel_rfl
  obtain ⟨i, hi, he⟩ := Option.map_eq_some_iff.1 h
  simp only [Prod.mk.injEq] at he
  exact ⟨i, hi, he⟩
theorem lit_pols (w : World) (l : List Po) (n : Nat) (hl : l.length = n) (hn : n ≤ 1000) : RK pl (w.alloc (.cells (l.flatMap pl).toArray 54)) (some ⟨w.heap.size, 0, none⟩) n l :=
  ⟨by omega, by unfold maxLen; omega, by simp, fun _ => ⟨w.heap.size, 0, rfl, by simp, fun j v hv => by rw [Nat.zero_add, (new_blk w _ _).cell j]; exact hv⟩⟩
theorem run_pol1 (p : Po) (w : World) : (Instr.buildSlice 26 1 #[(0, pv p)]).run Try.prog w = .ok (.slice (some ⟨w.heap.size, 0, none⟩) 1 1) (w.alloc (.cells ([p].flatMap pl).toArray 54)) := by kernel_rfl
theorem at_pol1 {o : Oper} {a : Act} {w : World} {ops : Array Oper} {rest : List Oper} {Q : Exit → Act → World → Prop} (x : Operand) (p : Po) (ho : o.op = .buildSlice 26 1 #[(0, x)]) (hx : a.eval x = pv p) (hw : Region.wanted o (yielded ops a.tmps) = true)
    (h : ∀ w', RK pl w' (some ⟨w.heap.size, 0, none⟩) 1 [p] → Below w.heap.size w w' → wpList Try.prog ops Q rest (a.put o.dst (.slice (some ⟨w.heap.size, 0, none⟩) 1 1)) w') : wpList Try.prog ops Q (o :: rest) a w :=
  BigFrame.wpList_want hw fun _ hK => wp_run (Instr.buildSlice 26 1 #[(0, pv p)]) (by simp [execOp, ho, hx]) (run_pol1 p w) (hK _ _ (h _ (lit_pols w [p] 1 rfl (by decide)) (bnew _ _)))

/-! ### What lies elsewhere stays -/
theorem rk_kept {α : Type} {enc : α → List Value} {w w' : World} {p : Option Addr} {cap g : Nat} {xs : List α} (h : RK enc w p cap xs) (hg : w.grownBy w' (some g)) (hne : 0 < xs.length → ∀ a, p = some a → a.block ≠ g) : RK enc w' p cap xs := by
  obtain ⟨h1, h2, h3, h4⟩ := h
  refine ⟨h1, h2, h3, fun hz => ?_⟩
  obtain ⟨b, o, e, hlt, hc⟩ := h4 hz
  exact ⟨b, o, e, Nat.lt_of_lt_of_le hlt hg.size, fun j v hv => hg.cell (hc j v hv) (by have := hne hz _ e; simpa using this)⟩
theorem is_kept {w w' : World} {h : Eh} {e : Ev} {g : Nat} (hi : Is w h e) (hg : w.grownBy w' (some g)) (h1 : ∀ a, h.pp = some a → a.block ≠ g) (h2 : ∀ a, h.dp = some a → a.block ≠ g) : Is w' h e :=
  ⟨hi.1, ⟨hi.2.1.1, rk_kept hi.2.1.2 hg fun _ => h1⟩, hi.2.2.1, hi.2.2.2.kept hg fun _ => h2⟩
/-- Its lists lie from this block on. -/
def Fresh (B : Nat) (h : Eh) : Prop := (∀ a, h.pp = some a → B ≤ a.block) ∧ (∀ a, h.dp = some a → B ≤ a.block)
theorem Fresh.mono {B C : Nat} {h : Eh} (hf : Fresh B h) (hc : C ≤ B) : Fresh C h := ⟨fun a ha => Nat.le_trans hc (hf.1 a ha), fun a ha => Nat.le_trans hc (hf.2 a ha)⟩
theorem is_fresh {w w' : World} {h : Eh} {e : Ev} {g B : Nat} (hi : Is w h e) (hg : w.grownBy w' (some g)) (hf : Fresh B h) (hB : g < B) : Is w' h e :=
  is_kept hi hg (fun a ha => by have := hf.1 a ha; omega) (fun a ha => by have := hf.2 a ha; omega)
theorem own_from {w : World} {B n : Nat} {e : TypeId} {v : Value} {k : IntKind} {xs : List Int} (h : w.ownsRow B e 1 v n (xs.map (Value.int k))) :
    ∃ p cap, v = .slice p xs.length cap ∧ Reads k w p cap xs ∧ ∀ a, p = some a → B ≤ a.block := by
  obtain ⟨_, p, cap, hv, hr⟩ := own_reads h
  refine ⟨p, cap, hv, hr, fun a ha => ?_⟩
  rcases h.2 with ⟨h1, -⟩ | ⟨g, cap', cur, h1, hb, -⟩
  · rw [hv, ha] at h1; simp at h1
  · rw [hv, ha] at h1
    simp only [Value.slice.injEq, Option.some.injEq] at h1
    rw [h1.1]
    exact hb

theorem event_dropsOf (p : Option Addr) (n c : Nat) (l : List Int) (hl : l.length = n) (hn : n ≤ 1000) (hw : ∀ x ∈ l, Word x) (w : World) (r : Reads .u64 w p c l) :
    Calls Try.prog 56 #[.slice p n c] w fun x w' => ∃ q d, x = .returned (.slice q n d) ∧ Reads .i64 w' q d (l.map sint) ∧ Below w.heap.size w w' ∧ ∀ a, q = some a → w.heap.size ≤ a.block := by
  obtain ⟨i0, hi, hz0, hz1', hz2⟩ := info_i64
  go_enter Try.func56, Try.ntmps56
  go_wp2
  go_loopw [3, 8] (fun u j wr => ∃ k : Nat, k ≤ n ∧ j = .int .i64 k ∧ wr.ownsRow w.heap.size 3 1 u ((l.take k).map sint).length (((l.take k).map sint).map (Value.int .i64)) ∧ Below w.heap.size w wr) (fun _ j _ => n - (intOf j).toNat)
  case atStart => exact ⟨0, Nat.zero_le _, rfl, World.ownsRow_nil _ _ _ _, Below.refl _ _⟩
  case round =>
    obtain ⟨k, hk, rfl, hown, hnx⟩ := hrel
    by_cases hlt : k < n
    · have hlt3 : (k : Int) < (n : Int) := by omega
      obtain ⟨x, hx⟩ : ∃ x, l[k]? = some x := ⟨_, List.getElem?_eq_getElem (by omega)⟩
      obtain ⟨b, o, rfl, hb, hc⟩ := cell_at (r.below hnx) hx
      have hnum := fun W => event_subOf x (hw x (List.mem_of_getElem? hx)) W
      have HT : Hid ((l.take (k + 1)).map sint = (l.take k).map sint ++ [sint x]) := by
        unfold Hid
        rw [List.take_succ_eq_append_getElem (by omega), List.map_append, show l[k] = x from by rw [List.getElem?_eq_getElem (by omega)] at hx; exact Option.some.inj hx]
        rfl
      have hlen : ((l.take k).map sint).length ≤ 1000 := by simp; omega
      obtain ⟨ys, hys⟩ : ∃ ys, ys = (l.take k).map sint := ⟨_, rfl⟩
      obtain ⟨y, hy⟩ : ∃ y, y = sint x := ⟨_, rfl⟩
      rw [← hys, ← hy] at HT
      rw [← hys] at hown hlen
      rw [← hy] at hnum
      clear hx hys hy
      go_wp2_with (first
        | ((with_reducible refine (hnum _).mono ?_); rintro e w5 ⟨rfl, hw⟩; rw [hw]; clear hw)
        | (at_builtin; refine wpList_append_own _ rfl _ _ 27 rfl w.heap.size 3 i0 (.int .i64 0) 1 8 Try.underlying27 hi hz0 hz1' hz2 rfl (by decide) _ _ _ rfl (hown.alloc _) ⟨wr.heap.size, 0, none⟩ 1 1 [.int .i64 y] rfl rfl one_cell one_one ?c3 ?c4 ?c5 ?_))
      case c3 => unfold maxLen; omega
      case c4 => omega
      case c5 => have := hnx.size; simp; omega
      · intro v' w1 hown' hgrow _
        have RR := grew (zs := [y]) (Nat.le_refl _) hnx hown hown' hgrow
        rw [← HT.out] at RR
        clear hown hown' hgrow
        go_wp2
        go_roundw
        case rel => exact ⟨k + 1, by omega, by go_num, RR.1, RR.2⟩
        case measure => simp [intOf]; omega
    · obtain rfl : k = n := by omega
      have hdt : l.take k = l := List.take_of_length_le (by omega)
      rw [hdt] at hown
      obtain ⟨q, d, hv, hrd, hfr⟩ := own_from hown
      have hln : (l.map sint).length = k := by simp [hl]
      rw [hln] at hv
      subst hv
      clear hown hdt
      go_wp2
      go_ret
      exact ⟨q, d, rfl, hrd, hnx, hfr⟩

/-- What is told of policies that may be. -/
def PutsTold (B : Nat) (w' : World) (o : Option (List Po)) (v : Value) (x : Int) : Prop := (∃ ps q c, o = some ps ∧ v = .slice q ps.length c ∧ x = 0 ∧ RK pl w' q c ps ∧ ∀ a, q = some a → B ≤ a.block) ∨ (o = none ∧ v = .slice none 0 0 ∧ x = 111)
set_option maxHeartbeats 2000000 in
theorem event_putsOf (p : Option Addr) (n c : Nat) (l : List Int) (hl : l.length = n) (hn : n ≤ 1000) (hw : ∀ x ∈ l, Word x) (w : World) (r : Reads .u64 w p c l) :
    Calls Try.prog 55 #[.slice p n c] w fun x w' => ∃ v y, x = .returned (.tuple #[v, .int .i64 y]) ∧ PutsTold w.heap.size w' (putsO l) v y ∧ Below w.heap.size w w' := by
  obtain ⟨R, hR⟩ : ∃ R, R = putsO l := ⟨_, rfl⟩
  rw [← hR]
  have HR : Hid (putsA n l [] = R) := by unfold Hid; rw [hR, ← hl]; rfl
  clear hR
  go_enter Try.func55, Try.ntmps55
  go_wp2
  go_loopw [0, 4] (fun v u wr => ∃ (f : Nat) (q : Option Addr) (m d : Nat) (rest : List Int) (out : List Po), rest.length = m ∧ v = .slice q m d ∧ Reads .u64 w q d rest ∧ Hid (∀ x ∈ rest, Word x) ∧ wr.ownsRow w.heap.size 54 13 u out.length (out.flatMap pl) ∧
      Below w.heap.size w wr ∧ Hid (putsA f rest out = R) ∧ m ≤ f ∧ out.length + m ≤ 1000) (fun v _ _ => sliceLen v)
  case atStart => exact ⟨n, p, n, c, l, [], hl, rfl, r, hw, World.ownsRow_nil _ _ _ _, Below.refl _ _, HR, Nat.le_refl _, by simpa using hn⟩
  case round =>
    obtain ⟨f, q, m, d, rest, out, hm, rfl, hrd, hwr, hown, hnx, HA, hf, hroom⟩ := hrel
    by_cases hpos : 0 < m
    · obtain ⟨g, rfl⟩ : ∃ g, f = g + 1 := ⟨f - 1, by omega⟩
      obtain ⟨L, hL⟩ : ∃ L, L = min 10 m := ⟨_, rfl⟩
      have hL1 : 0 < L := by omega
      have hLm : L ≤ m := by omega
      have hmin : min (10 : Int) (m : Int) = (L : Int) := by omega
      have hmd : m ≤ d := by rw [← hm]; exact hrd.1
      have hcut := fun w => run_from_u w q m d L hLm
      have hup := fun w => run_upto_u w q m d L (by omega)
      have hpos' : (0 : Int) < (m : Int) := by omega
      have htk : rest.take L = rest.take 10 := by
        rcases Nat.le_total m 10 with h | h
        · rw [List.take_of_length_le (by omega), List.take_of_length_le (by omega)]
        · rw [show L = 10 by omega]
      have hdk : rest.drop L = rest.drop 10 := by
        rcases Nat.le_total m 10 with h | h
        · rw [List.drop_of_length_le (by omega), List.drop_of_length_le (by omega)]
        · rw [show L = 10 by omega]
      have hrt := (hrd.upto L).below hnx
      have hrc := hrd.cut L (by omega)
      rw [htk] at hrt
      rw [hdk] at hrc
      have hlt : (rest.take 10).length = L := by rw [← htk, List.length_take]; omega
      have hld : (rest.drop 10).length = m - L := by rw [← hdk, List.length_drop]; omega
      have hO := policy_Of q L d (rest.take 10) hlt wr hrt (fun x hx => hwr.out x (List.mem_of_mem_take hx))
      have hwr2 : Hid (∀ x ∈ rest.drop 10, Word x) := fun x hx => hwr.out x (List.mem_of_mem_drop hx)
      have hpl : 0 < rest.length := by omega
      cases hI : isP (rest.take 10) with
      | false =>
        obtain rfl : R = none := by rw [← HA.out, putsA_bad hpl (by rw [hI]; decide)]
        have e1 : ofP (rest.take 10) = zeroP := by unfold ofP; rw [hI]; rfl
        have e2 : ofE (rest.take 10) = 111 := by unfold ofE; rw [hI]; rfl
        rw [e1, e2] at hO
        clear htk hdk hL hm hld hlt hI e1 e2 HA HR hwr hwr2 hpl
        go_wp2_with (first
          | ((fail_if_success (have _ := hB5)); (with_reducible refine hO.mono ?_); rintro e w5 ⟨rfl, hB5⟩; have hB15 := bnext hnx hB5)
          | ((fail_if_success (have _ := hX6)); (have _ := hB5); (refine at_alloc_po (by rfl) (by rfl) ?_); intro V6 hX6 hB6 hz6)
          | ((fail_if_success (have _ := hX7)); (have _ := hX6); (refine at_store_po _ _ _ _ _ (by rfl) (by rfl) (by rfl) hX6 rfl (by rfl) ?_); intro V7 hX7 hg7 hz7; have hB7 := hB6.grown hg7 hB6.size (by simp)))
        go_ret2
        exact ⟨_, _, rfl, .inr ⟨rfl, rfl, rfl⟩, bnext hB15 hB7⟩
      | true =>
        have HN : Hid (putsA g (rest.drop 10) (out ++ [asP (rest.take 10)]) = R) := by
          unfold Hid
          rw [← HA.out, putsA_good hpl hI]
        have e1 : ofP (rest.take 10) = asP (rest.take 10) := by unfold ofP; rw [hI]; rfl
        have e2 : ofE (rest.take 10) = 0 := by unfold ofE; rw [hI]; rfl
        rw [e1, e2] at hO
        obtain ⟨x, hx⟩ : ∃ x, x = asP (rest.take 10) := ⟨_, rfl⟩
        rw [← hx] at hO HN
        obtain ⟨rest', hrest⟩ : ∃ rest', rest' = rest.drop 10 := ⟨_, rfl⟩
        rw [← hrest] at hrc hwr2 HN hld
        clear htk hdk hm hlt hI e1 e2 HA HR hwr hpl hx hrest hrt
        have hLH : Hid (L = min 10 m) := hL
        clear hL
        go_wp2_with (first
          | ((fail_if_success (have _ := hB5)); (with_reducible refine hO.mono ?_); rintro e w5 ⟨rfl, hB5⟩; have hB15 := bnext hnx hB5)
          | ((fail_if_success (have _ := hX6)); (have _ := hB5); (refine at_alloc_po (by rfl) (by rfl) ?_); intro V6 hX6 hB6 hz6)
          | ((fail_if_success (have _ := hX7)); (have _ := hX6); (refine at_store_po _ _ _ _ _ (by rfl) (by rfl) (by rfl) hX6 rfl (by rfl) ?_); intro V7 hX7 hg7 hz7; have hB7 := hB6.grown hg7 hB6.size (by simp))
          | ((fail_if_success (have _ := hB8)); (have _ := hX7); (refine at_load_po _ _ _ (by rfl) (by rfl) hX7 (by rfl) ?_))
          | ((fail_if_success (have _ := hB8)); (have _ := hX7); (refine at_pol1 _ _ (by rfl) (by rfl) (by rfl) ?_); intro V8 r8 hB8; have hB58 := bnext hB5 (bnext hB7 hB8); have hB18 := bnext hnx hB58)
          | ((fail_if_success (have _ := hg9)); (have _ := hB8); (refine at_append_pol _ _ (by rfl) w.heap.size _ out.length out (by rfl) (own_below hown hB58) _ 1 1 [x] (by rfl) rfl r8 (by omega) hB18.size (by rfl) ?_); intro v9 V9 hown9 hg9))
        have hB9 := hB18.grown hg9 hB18.size (fun j hj => ((own_below hown hB58).lt j hj).1)
        go_roundw
        case rel => exact ⟨g, cutP q d L, m - L, d - L, rest', out ++ [x], hld, rfl, hrc, hwr2, by simpa using hown9, hB9, HN, by omega, by have := hLH.out; simp; omega⟩
        case measure => simp [sliceLen]; omega
    · obtain rfl : m = 0 := by omega
      obtain rfl : rest = [] := List.eq_nil_of_length_eq_zero hm
      obtain rfl : R = some out := by rw [← HA.out, putsA_nil]
      obtain ⟨q', c', hv, hrk, hfr⟩ := own_rk pl_len (by decide) hown
      subst hv
      clear hown
      go_wp2
      go_ret2
      exact ⟨_, _, rfl, .inl ⟨out, q', c', rfl, rfl, rfl, hrk, hfr⟩, hnx⟩
end Go.Proofs.Ytfgndecnakfhnaa.Event
namespace Go.Proofs.Ytfgndecnakfhnaa.Event
open Go.RowKit Go.Proofs.Ytfgndecnakfhnaa.Mem Go.Proofs.Ytfgndecnakfhnaa.Policy
set_option maxRecDepth 100000

/-- What an event of numbers has. -/
theorem ofO_ok {kind first : Int} {rest : List Int} {e : Ev} (hw : ∀ n ∈ rest, Word n) (h : ofO kind first rest = some e) : (∀ p ∈ e.ps, PoOk p) ∧ e.ps.length ≤ rest.length ∧ e.ds.length ≤ rest.length := by
  unfold ofO at h
  split at h
  · unfold comO at h
    split at h
    · obtain ⟨ps, hps, rfl⟩ := Option.map_eq_some_iff.1 h
      obtain ⟨q1, q2⟩ := putsA_back _ _ _ _ (fun n hn => hw n (List.mem_of_mem_drop hn)) (Nat.le_refl _) (by simp) hps
      refine ⟨q2, ?_, ?_⟩
      · have := congrArg List.length q1
        rw [flat_len, List.flatMap_nil, List.nil_append, List.length_drop] at this
        simp only [commitE]
        omega
      · simp only [commitE, List.length_map, List.length_take]
        omega
    · cases h
  · split at h
    · split at h
      · simp only [Option.some.injEq] at h
        subst h
        simp [leaseE]
      · cases h
    · split at h
      · split at h
        · simp only [Option.some.injEq] at h
          subst h
          simp [periodE]
        · cases h
      · cases h
/-- What is told of an event that may be. -/
def Told (B : Nat) (w' : World) (h : Eh) (b : Bool) (o : Option Ev) : Prop := (∃ e, o = some e ∧ b = true ∧ Is w' h e ∧ Fresh B h) ∨ (o = none ∧ b = false)
theorem Told.below {B : Nat} {w w' : World} {h : Eh} {b : Bool} {o : Option Ev} (ht : Told B w h b o) (hb : Below w.heap.size w w') : Told B w' h b o := by
  rcases ht with ⟨e, h1, h2, h3, h4⟩ | ht
  · exact .inl ⟨e, h1, h2, h3.below hb, h4⟩
  · exact .inr ht
theorem Told.kept {B g : Nat} {w w' : World} {h : Eh} {b : Bool} {o : Option Ev} (ht : Told B w h b o) (hg : w.grownBy w' (some g)) (hB : g < B) : Told B w' h b o := by
  rcases ht with ⟨e, h1, h2, h3, h4⟩ | ht
  · exact .inl ⟨e, h1, h2, is_fresh h3 hg h4 hB, h4⟩
  · exact .inr ht
theorem Told.mono {B C : Nat} {w : World} {h : Eh} {b : Bool} {o : Option Ev} (ht : Told B w h b o) (hC : C ≤ B) : Told C w h b o := by
  rcases ht with ⟨e, h1, h2, h3, h4⟩ | ht
  · exact .inl ⟨e, h1, h2, h3, h4.mono hC⟩
  · exact .inr ht
set_option maxHeartbeats 2000000 in
theorem event_commitOf (first : Int) (hf : Word first) (p : Option Addr) (n c : Nat) (l : List Int) (hl : l.length = n) (hn : n ≤ 1000) (hw : ∀ x ∈ l, Word x) (w : World) (r : Reads .u64 w p c l) :
    Calls Try.prog 40 #[.int .u64 first, .slice p n c] w fun x w' => ∃ h b, x = .returned (.tuple #[ev h, .bool b]) ∧ Told w.heap.size w' h b (comO first l) ∧ Below w.heap.size w w' := by
  obtain ⟨R, hR⟩ : ∃ R, R = comO first l := ⟨_, rfl⟩
  rw [← hR]
  have HR : Hid (R = comO first l) := hR
  clear hR
  have hint := fun W => int_any first hf W
  have hs0 : 0 ≤ sint first := by have := hf.1; unfold sint; split <;> omega
  obtain ⟨N, hN⟩ : ∃ N : Nat, sint first = (N : Int) := ⟨(sint first).toNat, by omega⟩
  rw [hN] at hint
  cases hF : fits first with
  | false =>
    obtain rfl : R = none := by rw [HR.out]; unfold comO; rw [hF, if_neg (by simp)]
    rw [hF] at hint
    clear HR hs0 hN hF
    go_enter Try.func40, Try.ntmps40
    go_wp2_with (first
      | ((fail_if_success (have _ := hX1)); (refine at_alloc_ev (by rfl) (by rfl) ?_); intro V1 hX1 hB1 hz1)
      | ((with_reducible refine (hint _).mono ?_); rintro e w5 ⟨rfl, hw⟩; rw [hw]; clear hw)
      | ((fail_if_success (have _ := hX2)); (refine at_build_zero (by rfl) (by rfl) ?_))
      | ((fail_if_success (have _ := hX2)); (have _ := hX1); (refine at_store_ev _ _ _ _ _ (by rfl) (by rfl) (by rfl) hX1 rfl (by rfl) ?_); intro V2 hX2 hg2 hz2))
    refine ret_ev2 (by rfl) rfl _ _ rfl hX2 ⟨_, _, rfl, .inr ⟨rfl, rfl⟩, ?_⟩
    exact hB1.grown hg2 hB1.size (by simp)
  | true =>
    rw [hF] at hint
    by_cases hNn : N ≤ n
    · have hgt : decide ((n : Int) < (N : Int)) = false := decide_eq_false (by omega)
      have hcut := fun w => run_from_u w p n c N hNn
      have hnc : n ≤ c := by rw [← hl]; exact r.1
      have hup := fun w => run_upto_u w p n c N (by omega)
      have hP := fun {W : World} (hb : Below w.heap.size w W) => event_putsOf (cutP p c N) (n - N) (c - N) (l.drop N) (by simp; omega) (by omega) (fun x hx => hw x (List.mem_of_mem_drop hx)) W ((r.cut N (by omega)).below hb)
      have hD := fun {W : World} (hb : Below w.heap.size w W) => event_dropsOf p N c (l.take N) (by simp; omega) (by omega) (fun x hx => hw x (List.mem_of_mem_take hx)) W ((r.upto N).below hb)
      have hRR : Hid (R = (putsO (l.drop N)).map (fun ps => commitE ps ((l.take N).map sint))) := by
        unfold Hid
        rw [HR.out]
        unfold comO
        rw [hN, if_pos ⟨hF, by omega⟩, Int.toNat_natCast]
      have hln : Hid ((l.take N).length = N) := by unfold Hid; simp; omega
      clear HR hs0 hN hF hl hn hw r
      go_enter Try.func40, Try.ntmps40
      go_wp2_with (first
        | ((fail_if_success (have _ := hX1)); (refine at_alloc_ev (by rfl) (by rfl) ?_); intro V1 hX1 hB1 hz1)
        | ((fail_if_success (have _ := hB3)); (with_reducible refine (hint _).mono ?_); rintro e w5 ⟨rfl, hw⟩; rw [hw]; clear hw)
        | ((fail_if_success (have _ := hB3)); (have _ := hX1); (with_reducible refine (hP hB1).mono ?_); rintro e w3 ⟨v3, y3, rfl, ht3, hB3⟩; have hX3 := hX1.below hB3; have hB13 := bnext hB1 hB3))
      rcases ht3 with ⟨ps, q3, c3, ho, rfl, rfl, rk3, fr3⟩ | ⟨ho, rfl, rfl⟩
      · go_wp2_with (first
          | ((fail_if_success (have _ := hB4)); (with_reducible refine (hD hB13).mono ?_); rintro e w4 ⟨q4, c4, rfl, r4, hB4, fr4⟩; have hX4 := hX3.below hB4; have hB14 := bnext hB13 hB4)
          | ((fail_if_success (have _ := hB5)); (have _ := hB4); (with_reducible refine (event_commit _ _ _ _ _ _ _).mono ?_); rintro e w5 ⟨rfl, hB5⟩; have hX5 := hX4.below hB5; have hB15 := bnext hB14 hB5)
          | ((fail_if_success (have _ := hX6)); (have _ := hX5); (refine at_store_ev _ _ _ _ _ (by rfl) (by rfl) (by rfl) hX5 rfl (by rfl) ?_); intro V6 hX6 hg6 hz6))
        refine ret_ev2 (by rfl) rfl _ _ rfl hX6 ⟨_, _, rfl, ?_, hB15.grown hg6 hB15.size (by simp)⟩
        have hI5 : Is w5 ⟨1, 0, q3, ps.length, c3, q4, N, c4, 0, 0⟩ (commitE ps ((l.take N).map sint)) := ⟨⟨rfl, rfl, rfl, rfl⟩, ⟨rfl, (rk3.below hB4).below hB5⟩, by simpa [commitE] using hln.out, r4.below hB5⟩
        have hF5 : Fresh V1.heap.size ⟨1, 0, q3, ps.length, c3, q4, N, c4, 0, 0⟩ := ⟨fr3, fun a ha => Nat.le_trans hB3.size (fr4 a ha)⟩
        exact .inl ⟨_, by rw [hRR.out, ho]; rfl, rfl, is_fresh hI5 hg6 hF5 (by rw [hz1.out]; omega), hF5.mono hB1.size⟩
      · go_wp2_with (first
          | ((fail_if_success (have _ := hB4)); (with_reducible refine (hD hB13).mono ?_); rintro e w4 ⟨q4, c4, rfl, r4, hB4, fr4⟩; have hX4 := hX3.below hB4; have hB14 := bnext hB13 hB4)
          | ((fail_if_success (have _ := hB5)); (have _ := hB4); (with_reducible refine (event_commit _ _ _ _ _ _ _).mono ?_); rintro e w5 ⟨rfl, hB5⟩; have hX5 := hX4.below hB5; have hB15 := bnext hB14 hB5)
          | ((fail_if_success (have _ := hX6)); (have _ := hX5); (refine at_store_ev _ _ _ _ _ (by rfl) (by rfl) (by rfl) hX5 rfl (by rfl) ?_); intro V6 hX6 hg6 hz6))
        refine ret_ev2 (by rfl) rfl _ _ rfl hX6 ⟨_, _, rfl, ?_, hB15.grown hg6 hB15.size (by simp)⟩
        exact .inr ⟨by rw [hRR.out, ho]; rfl, rfl⟩
    · have hgt : (n : Int) < (N : Int) := by omega
      obtain rfl : R = none := by rw [HR.out]; unfold comO; rw [hN, hF, if_neg (by rintro ⟨-, h⟩; omega)]
      clear HR hs0 hN hF
      go_enter Try.func40, Try.ntmps40
      go_wp2_with (first
        | ((fail_if_success (have _ := hX1)); (refine at_alloc_ev (by rfl) (by rfl) ?_); intro V1 hX1 hB1 hz1)
        | ((with_reducible refine (hint _).mono ?_); rintro e w5 ⟨rfl, hw⟩; rw [hw]; clear hw)
        | ((fail_if_success (have _ := hX2)); (refine at_build_zero (by rfl) (by rfl) ?_))
        | ((fail_if_success (have _ := hX2)); (have _ := hX1); (refine at_store_ev _ _ _ _ _ (by rfl) (by rfl) (by rfl) hX1 rfl (by rfl) ?_); intro V2 hX2 hg2 hz2))
      refine ret_ev2 (by rfl) rfl _ _ rfl hX2 ⟨_, _, rfl, .inr ⟨rfl, rfl⟩, ?_⟩
      exact hB1.grown hg2 hB1.size (by simp)
set_option maxHeartbeats 2000000 in
theorem event_of (kind first : Int) (hf : Word first) (p : Option Addr) (n c : Nat) (l : List Int) (hl : l.length = n) (hn : n ≤ 1000) (hw : ∀ x ∈ l, Word x) (w : World) (r : Reads .u64 w p c l) :
    Calls Try.prog 22 #[.int .u64 kind, .int .u64 first, .slice p n c] w fun x w' => ∃ h b, x = .returned (.tuple #[ev h, .bool b]) ∧ Told w.heap.size w' h b (ofO kind first l) ∧ Below w.heap.size w w' := by
  by_cases q1 : kind = 1
  · subst q1
    have hR : ofO 1 first l = comO first l := by unfold ofO; rw [if_pos rfl]
    rw [hR]
    have hC := fun {W : World} (hb : Below w.heap.size w W) => event_commitOf first hf p n c l hl hn hw W (r.below hb)
    clear hR
    go_enter Try.func22, Try.ntmps22
    go_wp2_with (first
      | ((fail_if_success (have _ := hX1)); (refine at_alloc_ev (by rfl) (by rfl) ?_); intro V1 hX1 hB1 hz1)
      | ((fail_if_success (have _ := hB3)); (have _ := hX1); (with_reducible refine (hC hB1).mono ?_); rintro e w3 ⟨h3, b3, rfl, ht3, hB3⟩; have hX3 := hX1.below hB3; have hB13 := bnext hB1 hB3)
      | ((fail_if_success (have _ := hX6)); (have _ := hX3); (refine at_store_ev _ _ _ _ _ (by rfl) (by rfl) (by rfl) hX3 rfl (by rfl) ?_); intro V6 hX6 hg6 hz6))
    refine ret_ev2 (by rfl) rfl _ _ rfl hX6 ⟨_, _, rfl, (ht3.kept hg6 (by rw [hz1.out]; omega)).mono hB1.size, hB13.grown hg6 hB13.size (by simp)⟩
  · have b1 : (kind == 1) = false := by simpa using q1
    by_cases q2 : kind = 2
    · subst q2
      by_cases h1 : n = 1
      · subst h1
        obtain ⟨x, rfl⟩ := List.length_eq_one_iff.1 hl
        have hR : ofO 2 first [x] = some (leaseE (sint first) x) := by unfold ofO; rw [if_neg (by decide), if_pos rfl]; rfl
        rw [hR]
        obtain ⟨b, o, rfl, hbl, hc0⟩ := cell_at (i := 0) (x := x) r rfl
        have hcell := fun {W : World} (hb : Below w.heap.size w W) => (hb.cell (p := ⟨b, o + 0, none⟩) hbl).trans hc0
        simp only [Nat.add_zero] at hcell
        have hs := fun W => event_subOf first hf W
        obtain ⟨s, hse⟩ : ∃ s, s = sint first := ⟨_, rfl⟩
        rw [← hse] at hs ⊢
        clear hR hse hw hn r hl hc0
        go_enter Try.func22, Try.ntmps22
        go_wp2_with (first
          | ((fail_if_success (have _ := hX1)); (refine at_alloc_ev (by rfl) (by rfl) ?_); intro V1 hX1 hB1 hz1))
        refine Inv.region_inv (fun L a w' => a = { tmps := #[(Value.int IntKind.u64 2), (Value.int IntKind.u64 first), (Value.slice (some { block := b, off := o }) 1 c), undef, undef, undef, (Value.pointer (some { block := w.heap.size, off := 0 })), (if L 7 = true then (.bool true) else (Value.bool false)), (Value.int IntKind.u64 2), (Value.bool false), (Value.bool false), undef, undef, undef, undef, undef, (Value.bool true), (Value.bool true), (Value.slice (some { block := b, off := o }) 1 c), (Value.int IntKind.i64 1), (Value.bool true), (if L 0 = true then (.int .u64 first) else undef), (if L 1 = true then (.int .i64 s) else undef), (if L 2 = true then (.slice (some ⟨b, o, none⟩) 1 c) else undef), (if L 3 = true then (.pointer (some ⟨b, o, none⟩)) else undef), (if L 4 = true then (.int .u64 x) else undef), (if L 5 = true then (ev ⟨2, s, none, 0, 0, none, 0, 0, x, 0⟩) else undef), undef, undef, undef, undef, undef, undef, undef, undef], defers := [] } ∧ (Blk w' w.heap.size 30 (el (if L 6 = true then ⟨2, s, none, 0, 0, none, 0, 0, x, 0⟩ else zeroH)) ∧ Below w.heap.size w w')) (by kernel_rfl) (by kernel_rfl) ?h0 ?step ?done
        case h0 => exact ⟨by simp, by simpa using hX1.drew, hB1.drew⟩
        case step =>
          refine Inv.Steps.cons rfl ?_ ?_
          · intro L a w' hI hL hd K hK
            obtain ⟨rfl, hI⟩ := hI
            clear hd
            rw [if_pos (by rfl)]
            go_simp
            exact hK.out _ _ ⟨by simp, by simpa using hI⟩
          refine Inv.Steps.cons rfl ?_ ?_
          · intro L a w' hI hL hd K hK
            obtain ⟨rfl, hI⟩ := hI
            simp [Region.binds] at hd
            simp only [hd, if_true]
            rw [if_pos (by rfl)]
            go_simp
            refine (hs _).mono ?_
            rintro e w6 ⟨rfl, hw⟩
            rw [hw]
            exact hK.out _ _ ⟨by simp [hd], by simpa using hI⟩
          refine Inv.Steps.cons rfl ?_ ?_
          · intro L a w' hI hL hd K hK
            obtain ⟨rfl, hI⟩ := hI
            clear hd
            rw [if_pos (by rfl)]
            go_simp
            exact hK.out _ _ ⟨by simp, by simpa using hI⟩
          refine Inv.Steps.cons rfl ?_ ?_
          · intro L a w' hI hL hd K hK
            obtain ⟨rfl, hI⟩ := hI
            simp [Region.binds] at hd
            simp only [hd, if_true]
            rw [if_pos (by rfl)]
            go_simp
            exact hK.out _ _ ⟨by simp [hd], by simpa using hI⟩
          refine Inv.Steps.cons rfl ?_ ?_
          · intro L a w' hI hL hd K hK
            obtain ⟨rfl, hI⟩ := hI
            simp [Region.binds] at hd
            simp only [hd, if_true]
            rw [if_pos (by rfl)]
            have hc := hcell hI.2
            go_simp
            exact hK.out _ _ ⟨by simp [hd], by simpa using hI⟩
          refine Inv.Steps.cons rfl ?_ ?_
          · intro L a w' hI hL hd K hK
            obtain ⟨rfl, hI⟩ := hI
            simp [Region.binds] at hd
            simp only [hd, if_true]
            rw [if_pos (by rfl)]
            go_simp
            refine (event_lease _ _ _).mono ?_
            rintro e w6 ⟨rfl, hB6⟩
            exact hK.out _ _ ⟨by simp [hd], by simpa using hI.1.below hB6, bnext hI.2 hB6⟩
          refine Inv.Steps.cons rfl ?_ ?_
          · intro L a w' hI hL hd K hK
            obtain ⟨rfl, hI⟩ := hI
            simp [Region.binds] at hd
            simp only [hd, if_true]
            rw [if_pos (by rfl)]
            have hI1 : Blk w' w.heap.size 30 (el zeroH) := by simpa [hL] using hI.1
            refine wp_store_ev _ _ _ _ _ (by rfl) (by rfl) (by rfl) hI1 rfl ?_
            intro w6 hX6 hg6 hz6
            exact hK.out _ _ ⟨by simp [hd, Act.put], by simpa using hX6, hI.2.grown hg6 hI.2.size (by simp)⟩
          refine Inv.Steps.cons rfl ?_ ?_
          · intro L a w' hI hL hd K hK
            obtain ⟨rfl, hI⟩ := hI
            simp [Region.binds] at hd
            simp only [hd, if_true]
            rw [if_pos (by rfl)]
            go_simp
            exact hK.out _ _ ⟨by simp [hd], by simpa using hI⟩
          exact Inv.Steps.nil (by decide)
        case done =>
          intro L a w' hI hall
          obtain ⟨rfl, hI⟩ := hI
          simp only [hall, if_true] at hI ⊢
          go_wp2
          refine ret_ev2 (by rfl) rfl _ _ rfl hI.1 ⟨_, _, rfl, .inl ⟨_, rfl, rfl, ⟨⟨rfl, rfl, rfl, rfl⟩, ⟨rfl, RK.nil _ _⟩, rfl, Reads.nil _ _⟩, by simp [Fresh]⟩, hI.2⟩
      · have hne : ((n : Int) == 1) = false := by simp; omega
        have hR : ofO 2 first l = none := by unfold ofO; rw [if_neg (by decide), if_pos rfl, if_neg (by omega)]
        rw [hR]
        clear hR
        go_enter Try.func22, Try.ntmps22
        go_wp2_with (first
          | ((fail_if_success (have _ := hX1)); (refine at_alloc_ev (by rfl) (by rfl) ?_); intro V1 hX1 hB1 hz1)
          | ((fail_if_success (have _ := hX2)); (refine at_build_zero (by rfl) (by rfl) ?_))
          | ((fail_if_success (have _ := hX2)); (have _ := hX1); (refine at_store_ev _ _ _ _ _ (by rfl) (by rfl) (by rfl) hX1 rfl (by rfl) ?_); intro V2 hX2 hg2 hz2))
        refine ret_ev2 (by rfl) rfl _ _ rfl hX2 ⟨_, _, rfl, .inr ⟨rfl, rfl⟩, hB1.grown hg2 hB1.size (by simp)⟩
    · have b2 : (kind == 2) = false := by simpa using q2
      by_cases q3 : kind = 3
      · subst q3
        have hP := fun W => event_period first W
        go_enter Try.func22, Try.ntmps22
        go_wp2_with (first
          | ((fail_if_success (have _ := hX1)); (refine at_alloc_ev (by rfl) (by rfl) ?_); intro V1 hX1 hB1 hz1)
          | ((fail_if_success (have _ := hB3)); (have _ := hX1); (with_reducible refine (hP _).mono ?_); rintro e w3 ⟨rfl, hB3⟩; have hX3 := hX1.below hB3; have hB13 := bnext hB1 hB3)
          | ((fail_if_success (have _ := hX6)); (have _ := hX3); (refine at_store_ev _ _ _ _ _ (by rfl) (by rfl) (by rfl) hX3 rfl (by rfl) ?_); intro V6 hX6 hg6 hz6))
        refine ret_ev2 (by rfl) rfl _ _ rfl hX6 ⟨_, _, rfl, ?_, hB13.grown hg6 hB13.size (by simp)⟩
        by_cases h0 : n = 0
        · have hR : ofO 3 first l = some (periodE first) := by unfold ofO; rw [if_neg (by decide), if_neg (by decide), if_pos rfl, if_pos (by omega)]
          rw [hR]
          exact .inl ⟨_, rfl, by simp [h0], ⟨⟨rfl, rfl, rfl, rfl⟩, ⟨rfl, RK.nil _ _⟩, rfl, Reads.nil _ _⟩, by simp [Fresh]⟩
        · have hR : ofO 3 first l = none := by unfold ofO; rw [if_neg (by decide), if_neg (by decide), if_pos rfl, if_neg (by omega)]
          rw [hR]
          exact .inr ⟨rfl, by simp; omega⟩
      · have b3 : (kind == 3) = false := by simpa using q3
        have hR : ofO kind first l = none := by unfold ofO; rw [if_neg q1, if_neg q2, if_neg q3]
        rw [hR]
        clear hR
        go_enter Try.func22, Try.ntmps22
        go_wp2_with (first
          | ((fail_if_success (have _ := hX1)); (refine at_alloc_ev (by rfl) (by rfl) ?_); intro V1 hX1 hB1 hz1)
          | ((fail_if_success (have _ := hX2)); (refine at_build_zero (by rfl) (by rfl) ?_))
          | ((fail_if_success (have _ := hX2)); (have _ := hX1); (refine at_store_ev _ _ _ _ _ (by rfl) (by rfl) (by rfl) hX1 rfl (by rfl) ?_); intro V2 hX2 hg2 hz2))
        refine ret_ev2 (by rfl) rfl _ _ rfl hX2 ⟨_, _, rfl, .inr ⟨rfl, rfl⟩, hB1.grown hg2 hB1.size (by simp)⟩
end Go.Proofs.Ytfgndecnakfhnaa.Event
