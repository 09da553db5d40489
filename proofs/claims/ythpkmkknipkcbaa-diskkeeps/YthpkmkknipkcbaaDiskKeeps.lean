/-
  What is synced stays. (Written by gen_dkeeps.py.)
-/
import Derived.Test.YthpkmkknipkcbaaDiskRows
import Derived.Test.YthpkmkknipkcbaaDiskActs
import Derived.Test.YthpkmkknipkcbaaInv
namespace Go.Proofs.Ythpkmkknipkcbaa.Disk
open Go.RowKit Go.Proofs.Ythpkmkknipkcbaa.Mem
set_option maxRecDepth 100000
set_option linter.unusedVariables false

theorem Dk.kept {B g G : Nat} {S : Nat → Prop} {w w' : World} {d : Dsk} (h : Dk B S w g d) (hg : w.grownBy w' (some G)) (hS : ¬ S G) : Dk B S w' g d := by
  obtain ⟨vs, vp, h⟩ := h
  exact ⟨vs, vp, h.same hg.size (fun k hk => hg.block k (h.2.2.2.2.2.2 k hk).2 (fun q => hS (by simp at q; exact q ▸ hk)))⟩
theorem info_bytes : ∃ i, Try.prog.info? 56 = some i ∧ i.zero = some (.slice none 0 0) ∧ i.size = 1 ∧ i.bytes = 24 := by
  have h : (Try.prog.info? 56).map (fun i => (i.zero, i.size, i.bytes)) = some (some (.slice none 0 0), 1, 24) := by kernel_rfl
  obtain ⟨i, h1, h2⟩ := Option.map_eq_some_iff.1 h
  simp only [Prod.mk.injEq] at h2
  exact ⟨i, h1, h2⟩
theorem run_make_rows (w : World) (n : Nat) (hn : n ≤ 1000) :
    ∃ w', (Instr.makeSlice 55 (.int .i64 (n : Int)) (.int .i64 (n : Int))).run Try.prog w = .ok (.slice (some ⟨w.heap.size, 0, none⟩) n n) w' ∧ Blk w' w.heap.size 56 (List.replicate n (.slice none 0 0)) ∧ w.grownBy w' none := by
  obtain ⟨i, h1, h2, h3, h4⟩ := info_bytes
  obtain ⟨w', hr, ho, hg⟩ := run_make_full (P := Try.prog) w w.heap.size 55 56 i (.slice none 0 0) 1 Try.underlying55 h1 h2 h3 .i64 .i64 n (by rw [h4]; omega) (by unfold maxLen; omega) (Nat.le_refl _)
  refine ⟨w', hr, ?_, hg⟩
  rcases ho.2 with ⟨h, _⟩ | ⟨g, cap, cur, hv, _, hh, _, _, hs, htk⟩
  · simp at h
  · simp only [Value.slice.injEq, Option.some.injEq, Addr.mk.injEq, and_true, true_and] at hv
    obtain ⟨rfl, rfl⟩ := hv
    unfold Blk
    rw [hh]
    have e1 : cur.toList = (madeCells #[Value.slice none 0 0] n).toList := by
      rw [List.take_of_length_le (by rw [Array.length_toList, hs]; exact Nat.le_refl _)] at htk
      simpa [Value.cells] using htk
    rw [toList_madeCells_one] at e1
    have e2 : cur = (List.replicate n (Value.slice none 0 0)).toArray := by rw [← e1]
    rw [e2]
theorem My.add {B G N : Nat} {S : Nat → Prop} {w : World} {Ms : List (List Int)} {vs : List Value} {bs : List Nat} (h : My B S w G N Ms vs bs) (hS : ∀ k, S k → k < w.heap.size) (hB : B ≤ w.heap.size) (hk : Ms.length < N) (y : Int) :
    My B S ((w.alloc (.cells #[.int .u8 y] 5)).setCell ⟨G, Ms.length, none⟩ (.slice (some ⟨w.heap.size, 0, none⟩) 1 1)) G N (Ms ++ [[y]]) (vs.set Ms.length (.slice (some ⟨w.heap.size, 0, none⟩) 1 1)) (bs ++ [w.heap.size]) ∧ ∀ B', B' ≤ B → Below B' w ((w.alloc (.cells #[.int .u8 y] 5)).setCell ⟨G, Ms.length, none⟩ (.slice (some ⟨w.heap.size, 0, none⟩) 1 1)) := by
  have hrow := row8_lit w y
  obtain ⟨h1, h2, h3, h4, h5, h6, h7, h8, h9⟩ := h
  have hG := h1.lt
  have hb := bnew w (.cells #[.int .u8 y] 5)
  have hput := only_put (w.alloc (.cells #[.int .u8 y] 5)) ⟨G, Ms.length, none⟩ (.slice (some ⟨w.heap.size, 0, none⟩) 1 1)
  refine ⟨⟨(h1.below hb).put _ _, by simp [h2], by simp; omega, by simp [h4], fun i v c M' a1 a2 a3 => ?_, fun i j c a1 a2 => ?_, fun c hc => ?_, h8, h9⟩, fun B' hB' => ?_⟩
  · by_cases hi : i = Ms.length
    · subst hi
      have l1 : Ms.length < vs.length := by omega
      rw [← h4] at a2
      simp [l1] at a1
      simp at a2 a3
      subst a1 a2 a3
      exact hrow.kept (heap_setCell_other _ ⟨G, Ms.length, none⟩ w.heap.size _ (by simp; omega))
    · have hil : i < Ms.length := by have := (List.getElem?_eq_some_iff.1 a3).1; simp at this; omega
      rw [List.getElem?_set_ne (fun e => hi e.symm)] at a1
      rw [List.getElem?_append_left (by omega)] at a2
      rw [List.getElem?_append_left hil] at a3
      obtain ⟨r1, r2, r3, r4⟩ := h7 c (List.mem_of_getElem? a2)
      exact ((h5 i v c M' a1 a2 a3).kept (hb.block c r4)).kept (heap_setCell_other _ ⟨G, Ms.length, none⟩ c _ (by simpa using r2))
  · have key : ∀ i c, (bs ++ [w.heap.size])[i]? = some c → (i < bs.length ∧ bs[i]? = some c ∧ c < w.heap.size) ∨ (i = bs.length ∧ c = w.heap.size) := fun i c a => by
      rcases Nat.lt_or_ge i bs.length with q | q
      · rw [List.getElem?_append_left q] at a
        exact .inl ⟨q, a, (h7 c (List.mem_of_getElem? a)).2.2.2⟩
      · rw [List.getElem?_append_right q] at a
        have := (List.getElem?_eq_some_iff.1 a).1
        simp at this
        have e : i = bs.length := by omega
        subst e
        simp at a
        exact .inr ⟨rfl, a.symm⟩
    rcases key i c a1 with ⟨q1, q2, q3⟩ | ⟨q1, q2⟩ <;> rcases key j c a2 with ⟨p1, p2, p3⟩ | ⟨p1, p2⟩
    · exact h6 i j c q2 p2
    · omega
    · omega
    · omega
  · have hse : ((w.alloc (.cells #[.int .u8 y] 5)).setCell ⟨G, Ms.length, none⟩ (.slice (some ⟨w.heap.size, 0, none⟩) 1 1)).heap.size = w.heap.size + 1 := by simp
    rw [hse]
    rcases List.mem_append.1 hc with hc | hc
    · obtain ⟨r1, r2, r3, r4⟩ := h7 c hc
      exact ⟨r1, r2, r3, by omega⟩
    · simp at hc
      subst hc
      exact ⟨fun q => Nat.lt_irrefl _ (hS _ q), by omega, hB, by omega⟩
  · exact Below.grown (Below.mono hb (by omega)) hput (by simp; omega) (by simp; omega)
theorem set_self {α : Type} {l : List α} {i : Nat} {x : α} (h : l[i]? = some x) : l.set i x = l := by
  obtain ⟨hi, rfl⟩ := List.getElem?_eq_some_iff.1 h
  exact List.set_getElem_self hi
theorem cut_next {Ms : List (List Int)} {i : Nat} {M : List Int} {f : List Int → List Int} (h : Ms[i]? = some M) : ((Ms.take i).map f ++ Ms.drop i).set i (f M) = (Ms.take (i + 1)).map f ++ Ms.drop (i + 1) := by
  obtain ⟨hi, rfl⟩ := List.getElem?_eq_some_iff.1 h
  have hl : ((Ms.take i).map f).length = i := by simp; omega
  have e : Ms.drop i = Ms[i] :: Ms.drop (i + 1) := List.drop_eq_getElem_cons hi
  rw [List.set_append_right _ _ (by rw [hl]; exact Nat.le_refl _), hl, Nat.sub_self, e, List.set_cons_zero, List.take_succ_eq_append_getElem hi, List.map_append, List.append_assoc]
  rfl
/-- Behind an append, ahead of the store. -/
def Ap (w8 w : World) (b : Nat) (M : List Int) (v : Value) : Prop := ∃ wb b', Below w8.heap.size w8 wb ∧ Row8 w b' v M ∧ (b' = b ∨ wb.heap.size ≤ b') ∧ wb.grownBy w (some b)
theorem wp_app_row {o : Oper} {a : Act} {w : World} {K : Act → World → Prop} {Q : Exit → Act → World → Prop} (x y : Operand) (b GX : Nat) (v : Value) (M : List Int) (z : Int) (ho : o.op = .call { callee := .builtin .append, args := #[x, y], argTypes := #[56, 56] }) (hx : a.eval x = v) (hy : a.eval y = .slice (some ⟨GX, 0, none⟩) 1 1)
    (hrow : Row8 w b v M) (hn : M.length ≤ 1000) (hG : Blk w GX 5 [.int .u8 z]) (h : ∀ v' w' b', Row8 w' b' v' (M ++ [z]) → (b' = b ∨ w.heap.size ≤ b') → w.grownBy w' (some b) → K (a.put o.dst v') w') : o.wp Try.prog a w K Q := by
  obtain ⟨v', w', b', hr, k2, k3, k4⟩ := row8_append o.type hrow hn hG
  unfold Oper.wp execOp
  simp only [ho, resolve, invoke, builtin, Sem.run_bind, Sem.run_pure, Result.andThen_ok, List.map_toArray, List.map_cons, List.map_nil, hx, hy, hr]
  exact h v' w' b' k2 k3 k4
/-- What stands while acts are done. -/
def Ks (w wr : World) (g G N k : Nat) (d : Dsk) (S : Nat → Prop) (Ms : List (List Int)) (vs : List Value) (bs : List Nat) : Prop :=
  Dk w.heap.size S wr g d ∧ d.ok ∧ May d Ms ∧ My w.heap.size S wr G N Ms vs bs ∧ d.st.length = N ∧ d.pe.length ≤ k ∧ Below w.heap.size w wr ∧ ∀ M ∈ Ms, M.length ≤ k + 1
theorem Ks.below {w wr w' : World} {g G N k : Nat} {d : Dsk} {S : Nat → Prop} {Ms : List (List Int)} {vs : List Value} {bs : List Nat} (h : Ks w wr g G N k d S Ms vs bs) (hb : Below wr.heap.size wr w') : Ks w w' g G N k d S Ms vs bs :=
  ⟨h.1.below hb, h.2.1, h.2.2.1, h.2.2.2.1.below hb, h.2.2.2.2.1, h.2.2.2.2.2.1, bnext h.2.2.2.2.2.2.1 hb, h.2.2.2.2.2.2.2⟩
set_option maxHeartbeats 8000000 in
theorem keeps_walk (x : Int) (q0 : Option Addr) (n c0 : Nat) (xs : List Ac) (kq : Option Addr) (kn kc : Nat) (ks : List Bool) (w : World) (hx : (Lit.int .i64 x).wf = true) (l : xs.length = n) (ra : RK ac w q0 c0 xs) (oa : ∀ a ∈ xs, AcOk w a) (lk : ks.length = kn) (rk : RK bc w kq kc ks) :
    Calls Try.prog 5 #[.int .i64 x, .slice q0 n c0, .slice kq kn kc] w fun e w' => e = .returned (.bool true) ∧ Below w.heap.size w w' := by
  by_cases h0 : x < 0
  · have e0 : decide (x < 0) = true := decide_eq_true h0
    go_enter Try.func5, Try.ntmps5
    go_wp2_with (first
      | ((with_reducible refine (alive_any _).mono ?_); rintro e w5 ⟨rfl, hb5⟩))
    go_ret
    exact ⟨rfl, hb5⟩
  have e0 : decide (x < 0) = false := decide_eq_false h0
  by_cases h1 : 100 < x
  · have e1 : decide (100 < x) = true := decide_eq_true h1
    go_enter Try.func5, Try.ntmps5
    go_wp2_with (first
      | ((with_reducible refine (alive_any _).mono ?_); rintro e w5 ⟨rfl, hb5⟩))
    go_ret
    exact ⟨rfl, hb5⟩
  have e1 : decide (100 < x) = false := decide_eq_false h1
  by_cases h2 : 100 < n
  · have e2 : decide ((100 : Int) < (n : Int)) = true := decide_eq_true (by omega)
    go_enter Try.func5, Try.ntmps5
    go_wp2_with (first
      | ((with_reducible refine (alive_any _).mono ?_); rintro e w5 ⟨rfl, hb5⟩))
    go_ret
    exact ⟨rfl, hb5⟩
  have e2 : decide ((100 : Int) < (n : Int)) = false := decide_eq_false (by omega)
  obtain ⟨N, rfl⟩ := Int.eq_ofNat_of_zero_le (show 0 ≤ x by omega)
  have hN : N ≤ 100 := by omega
  have hcl : clamp (N : Int) = N := by unfold clamp; omega
  go_enter Try.func5, Try.ntmps5
  go_wp2_with (first
    | ((with_reducible refine (alive_any _).mono ?_); rintro e w1 ⟨rfl, hb1⟩)
    | ((with_reducible refine (new_any (N : Int) _).mono ?_); rintro e w2 ⟨g, S2, rfl, hD2, hb2⟩; obtain ⟨w3, hmk, hX3, hg3⟩ := run_make_rows w2 N (by omega)))
  rw [hcl] at hD2
  have hb3 : Below w2.heap.size w2 w3 := (Below.refl w2.heap.size w2).grown hg3 (Nat.le_refl _) (by simp)
  have hS2 := hD2.lt
  have hB2 : w.heap.size ≤ w2.heap.size := by have := hb1.size; have := hb2.size; omega
  obtain ⟨G, hG⟩ : ∃ G, G = w2.heap.size := ⟨_, rfl⟩
  have hbw3 := bnext (bnext hb1 hb2) hb3
  have hMy : My w.heap.size S2 w3 G N [] (List.replicate N (.slice none 0 0)) [] := by
    rw [hG]
    exact ⟨hX3, by simp, by simp, rfl, by simp, by simp, by simp, fun q => Nat.lt_irrefl _ (hS2 _ q), hB2⟩
  have hD3 := (hD2.lower hb1.size).below hb3
  rw [← hG] at hmk ⊢
  clear hmk hX3 hg3 hD2 hG hb1 hb2 hb3 hS2 hB2
  go_loopw [39] (fun t wr => ∃ (k : Nat) (vs : List Value) (bs : List Nat), k ≤ N ∧ t = .int .i64 k ∧ Dk w.heap.size S2 wr g (fresh N) ∧ My w.heap.size S2 wr G N (List.replicate k [0]) vs bs ∧ Below w.heap.size w wr) (fun t _ => N - (intOf t).toNat)
  case atStart => exact ⟨0, _, [], Nat.zero_le _, rfl, hD3, hMy, hbw3⟩
  case round =>
    obtain ⟨k, vs, bs, hk, rfl, hD, hMy, hbel⟩ := hrel
    have hcG := hMy.1.cell
    have hzG := hMy.1.frozen
    have hvl := hMy.2.1
    by_cases hlt : k < N
    · have hlt' : (k : Int) < (N : Int) := by omega
      have hadd := My.add hMy hD.lt hbel.size (by simpa using hlt) 0
      rw [List.length_replicate] at hadd
      obtain ⟨vk, hvk⟩ : ∃ vk, vs[k]? = some vk := ⟨_, List.getElem?_eq_getElem (by omega)⟩
      have hca := fun o => (hMy.1.alloc o).cell
      have hza := fun o => (hMy.1.alloc o).frozen
      clear hcG hzG
      go_wp2
      have hb' := hadd.2 w.heap.size (Nat.le_refl _)
      go_roundw
      case rel => exact ⟨k + 1, _, _, by omega, by go_num, ((hD.below (bnew _ _)).kept (only_put _ ⟨G, k, none⟩ _) hMy.2.2.2.2.2.2.2.1), by rw [List.replicate_succ']; exact hadd.1, hbel.trans hb'⟩
      case measure => simp [intOf]; omega
    · have hkN : k = N := by omega
      subst hkN
      have hKs : Ks w wr g G k 0 (fresh k) S2 (List.replicate k [0]) vs bs := ⟨hD, fresh_ok (by omega), may_fresh k, hMy, by simp [fresh], by simp [fresh], hbel, fun M hM => by have := List.eq_of_mem_replicate hM; subst this; simp⟩
      clear hcG hzG hD hMy hbel hD3 hbw3
      go_wp2
      go_loopw [49] (fun t wr => ∃ (j : Nat) (d : Dsk) (S : Nat → Prop) (Ms : List (List Int)) (vs : List Value) (bs : List Nat), j ≤ n ∧ t = .int .i64 j ∧ Ks w wr g G k j d S Ms vs bs) (fun t _ => n - (intOf t).toNat)
      case atStart => exact ⟨0, _, S2, _, vs, bs, Nat.zero_le _, rfl, hKs⟩
      case round =>
        obtain ⟨j, d, S, Ms, vs, bs, hj, rfl, hKs⟩ := hrel
        by_cases hjn : j < n
        · obtain ⟨a, ha⟩ : ∃ a, xs[j]? = some a := ⟨_, List.getElem?_eq_getElem (by omega)⟩
          obtain ⟨b, o, rfl, hr⟩ := rk_range ac_len (ra.below hKs.2.2.2.2.2.2.1) ha
          have hlt' : (j : Int) < (n : Int) := by omega
          have hao := oa a (List.mem_of_getElem? ha)
          have hGA : ¬ S wr.heap.size := fun q => Nat.lt_irrefl _ (hKs.1.lt _ q)
          have hne : wr.heap.size ≠ G := by have := hKs.2.2.2.1.1.lt; omega
          obtain ⟨ki, ai, bi, aq, an, acp⟩ := a
          by_cases k0 : ki = 0
          · subst k0
            have hKs' := hKs
            obtain ⟨hD, od, hmay, hMy, hst, hpl, hbel, hMl⟩ := hKs
            cases hput : has d.st.length ai && !d.no with
            | false =>
              have hE : d.putE ai ≠ 0 := by
                unfold Dsk.putE Dsk.err
                cases hh : has d.st.length ai
                · simp
                · rw [hh] at hput
                  simp at hput
                  simp [hput]
              have hEb : (d.putE ai == 0) = false := by simp [hE]
              have hsame : (d.put ai (one bi)).st = d.st ∧ (d.put ai (one bi)).pe = d.pe := by
                unfold Dsk.put
                cases hh : has d.st.length ai
                · exact ⟨rfl, rfl⟩
                · rw [hh] at hput
                  simp at hput
                  simp [hput, acted_st, acted_pe]
              go_wp2_with (first
                | ((refine at_load_ac _ _ _ _ (by rfl) (by rfl) hr (by rfl) ?_))
                | ((refine at_alloc_ac (by rfl) (by rfl) ?_); intro W6 hX6 hB6 hz6)
                | ((refine at_store_ac _ _ _ _ _ (by rfl) (by rfl) (by rfl) hX6 (by rfl) ?_); intro W7 hX7 hg7 hz7; have hb7 : Below wr.heap.size wr W7 := hB6.grown hg7 hB6.size (by simp); have hD7 := hD.below hb7; have hc7 := hX7.cell; simp only [ac] at hc7)
                | ((refine at_build1 _ _ (by rfl) (by rfl) (by rfl) ?_))
                | ((with_reducible refine (write_any hD7 od ai (one bi)).mono ?_); rintro e' W8 ⟨rfl, S8, hD8, hF8, hS8⟩; have hX8 := hF8.blk hX7 hGA; have hc8 := hX8.cell; simp only [ac] at hc8; clear hc7))
              go_roundw
              case rel => exact ⟨j + 1, _, S8, Ms, vs, bs, by omega, by go_num, hD8, put_ok od _ _ (by omega), may_same hmay hsame.1 hsame.2, (hMy.below hb7).fr hF8 hS8, by rw [hsame.1]; exact hst, by rw [hsame.2]; omega, bfr (bnext hbel hb7) hF8 hD7.base, fun M hM => by have := hMl M hM; omega⟩
              case measure => simp [intOf]; omega
            | true =>
              obtain ⟨hh, hno⟩ : has d.st.length ai = true ∧ d.no = false := by simpa using hput
              have hai : 0 ≤ ai ∧ ai < d.st.length := by simpa [has] using hh
              obtain ⟨m, rfl⟩ := Int.eq_ofNat_of_zero_le hai.1
              have hE : d.putE (m : Int) = 0 := by unfold Dsk.putE Dsk.err; rw [hh, hno]; rfl
              have hmk : m < k := by omega
              have hmk' : (m : Int) < (k : Int) := by omega
              have hMsl : Ms.length = k := by rw [hmay.1, hst]
              obtain ⟨M, hM⟩ : ∃ M, Ms[m]? = some M := ⟨_, List.getElem?_eq_getElem (by omega)⟩
              obtain ⟨vm, hvm⟩ : ∃ vm, vs[m]? = some vm := ⟨_, List.getElem?_eq_getElem (by rw [hMy.2.1]; omega)⟩
              obtain ⟨bm, hbm⟩ : ∃ bm, bs[m]? = some bm := ⟨_, List.getElem?_eq_getElem (by rw [hMy.2.2.2.1]; omega)⟩
              have hwr : ∀ {W : World}, Dk w.heap.size S W g d → Calls Try.prog 15 #[.pointer (some ⟨g, 0, none⟩), .int .i64 (m : Int), secv (one bi)] W fun e w' => e = .returned (.int .i64 0) ∧ Went w.heap.size S W w' g (d.put m (one bi)) := fun h => by
                have := write_any h od (m : Int) (one bi); rw [hE] at this; exact this
              go_wp2_with (first
                | ((refine at_load_ac _ _ _ _ (by rfl) (by rfl) hr (by rfl) ?_))
                | ((refine at_alloc_ac (by rfl) (by rfl) ?_); intro W6 hX6 hB6 hz6)
                | ((refine at_store_ac _ _ _ _ _ (by rfl) (by rfl) (by rfl) hX6 (by rfl) ?_); intro W7 hX7 hg7 hz7; have hb7 : Below wr.heap.size wr W7 := hB6.grown hg7 hB6.size (by simp); have hD7 := hD.below hb7; have hc7 := hX7.cell; simp only [ac] at hc7)
                | ((refine at_build1 _ _ (by rfl) (by rfl) (by rfl) ?_))
                | ((with_reducible refine (hwr hD7).mono ?_); rintro e' Y8 ⟨rfl, S8, hD8, hF8, hS8⟩; have hX8 := hF8.blk hX7 hGA))
              have hMy8 := (hMy.below hb7).fr hF8 hS8
              have hbel8 := bfr (bnext hbel hb7) hF8 hD7.base
              have hrow8 := hMy8.2.2.2.2.1 m vm bm M hvm hbm hM
              have hbm8 := hrow8.lt
              have hbq := hMy.2.2.2.2.2.2.1 bm (List.mem_of_getElem? hbm)
              have hbA : wr.heap.size ≠ bm := by omega
              have hbG : G ≠ bm := fun e => hbq.2.1 e.symm
              have hbS := (hMy8.2.2.2.2.2.2.1 bm (List.mem_of_getElem? hbm)).1
              have hMl8 : M.length ≤ 1000 := by have := hMl M (List.mem_of_getElem? hM); omega
              clear hc7 hX6 hB6 hg7 hr hwr
              refine Inv.region_inv (fun L a w' => ∃ (v9 : Value) (GX : Nat), a = { tmps := #[(Value.int IntKind.i64 (k : Int)), (Value.slice (some { block := b, off := o }) n c0), (Value.slice kq kn kc), (undef), (undef), (undef), (Value.bool false), (Value.pointer (some { block := g, off := 0 })), (Value.slice (some { block := G, off := 0 }) k k), (u9), (undef), (Value.pointer (some { block := wr.heap.size, off := 0 })), (u12), (undef), (undef), (undef), (undef), (undef), (undef), (undef), (Value.bool true), (Value.bool false), (Value.int IntKind.i64 (k : Int)), (Value.bool false), (Value.bool false), (Value.int IntKind.i64 (k : Int)), (Value.bool false), (Value.bool false), (Value.bool false), (Value.slice (some { block := b, off := o }) n c0), (Value.int IntKind.i64 (n : Int)), (Value.bool false), (Value.bool false), (Value.int IntKind.i64 (k : Int)), (Value.pointer (some { block := g, off := 0 })), (Value.int IntKind.i64 (k : Int)), (Value.slice (some { block := G, off := 0 }) k k), (Value.slice (some { block := G, off := 0 }) k k), (Value.int IntKind.i64 (k : Int)), (Value.int IntKind.i64 (k : Int)), (Value.bool false), (u41), (u42), (u43), (u44), (u45), (u46), (Value.slice (some { block := b, off := o }) n c0), (Value.int IntKind.i64 (n : Int)), (Value.int IntKind.i64 (j : Int)), (Value.bool true), (Value.pointer (some { block := b, off := o + j * 4 })), (acv (0, (m : Int), bi, aq, an, acp)), (Value.pointer (some { block := wr.heap.size, off := 0 })), (Value.int IntKind.i64 0), (Value.bool true), (Value.bool true), (Value.pointer (some { block := g, off := 0 })), (Value.pointer (some { block := wr.heap.size, off := 1 })), (Value.int IntKind.i64 (m : Int)), (Value.pointer (some { block := wr.heap.size, off := 2 })), (Value.int IntKind.u8 bi), (secv (one bi)), (Value.int IntKind.i64 0), (Value.bool true), (Value.bool true), (if L 0 = true then (Value.slice (some { block := G, off := 0 }) k k) else (u66)), (if L 1 = true then (.pointer (some ⟨wr.heap.size, 1, none⟩)) else (u67)), (if L 2 = true then (.int .i64 (m : Int)) else (u68)), (if L 3 = true then (Value.slice (some { block := G, off := 0 }) k k) else (u69)), (if L 4 = true then (.pointer (some ⟨wr.heap.size, 1, none⟩)) else (u70)), (if L 5 = true then (.int .i64 (m : Int)) else (u71)), (if L 6 = true then (.pointer (some ⟨G, m, none⟩)) else (u72)), (if L 7 = true then vm else (u73)), (if L 8 = true then (.pointer (some ⟨wr.heap.size, 2, none⟩)) else (u74)), (if L 9 = true then (.int .u8 bi) else (u75)), (if L 10 = true then (.slice (some ⟨GX, 0, none⟩) 1 1) else (u76)), (if L 11 = true then v9 else (u77)), (if L 12 = true then (.pointer (some ⟨G, m, none⟩)) else (u78)), (u79), (u80), (u81), (u82), (u83), (u84), (u85), (u86), (u87), (u88), (u89), (u90), (u91), (u92), (u93), (u94), (u95), (u96), (u97), (u98), (u99), (u100), (u101), (u102), (u103), (u104), (u105), (u106), (u107), (u108), (u109), (u110), (u111), (u112), (u113), (u114), (undef), (undef), (undef), (undef), (undef), (undef), (undef), (undef), (undef), (undef), (undef), (undef), (undef), (undef), (undef), (undef), (undef), (undef), (undef), (undef), (undef), (undef), (undef), (undef), (undef), (undef), (undef), (undef), (undef), (undef), (undef), (undef), (undef), (undef), (undef), (undef), (undef), (undef), (undef), (undef), (undef), (undef), (undef), (undef), (undef), (undef)], defers := [] } ∧ ((L 11 = true ∧ L 7 = true ∧ L 10 = true ∧ L 13 = false ∧ (Blk w' wr.heap.size 41 (ac (0, (m : Int), bi, aq, an, acp)) ∧ Blk w' G 56 vs) ∧ Ap Y8 w' bm (M ++ [bi]) v9) ∨ ((∀ j, j < 14 → L j = true) ∧ ∃ V2, Ap Y8 V2 bm (M ++ [bi]) v9 ∧ w' = V2.setCell ⟨G, m, none⟩ v9) ∨ (L 11 = false ∧ L 13 = false ∧ (Blk w' wr.heap.size 41 (ac (0, (m : Int), bi, aq, an, acp)) ∧ Blk w' G 56 vs) ∧ Below Y8.heap.size Y8 w' ∧ (L 10 = true → Blk w' GX 5 [.int .u8 bi])))) (by kernel_rfl) (by kernel_rfl) ?h0 ?step ?done
              case h0 => exact ⟨undef, 0, by simp, .inr (.inr ⟨by simp, by simp, ⟨hX8.drew, hMy8.1.drew⟩, (Below.refl _ _).drew, by simp⟩)⟩
              case step =>
                refine Inv.Steps.cons rfl ?_ ?_
                · intro L a w' hI hL hd K hK
                  obtain ⟨v9, GX, rfl, hI⟩ := hI
                  clear hd
                  rw [if_pos (by rfl)]
                  rcases hI with ⟨h11, h7, h10, h13, hRd, hAp⟩ | ⟨hall, _⟩ | ⟨h11, h13, hRd, hB, h10⟩
                  · replace h11 : Hid (L 11 = true) := h11
                    replace h7 : Hid (L 7 = true) := h7
                    replace h10 : Hid (L 10 = true) := h10
                    replace h13 : Hid (L 13 = false) := h13
                    go_simp
                    exact hK.out _ _ ⟨v9, GX, by simp, .inl ⟨by simpa using h11.out, by simpa using h7.out, by simpa using h10.out, by simpa using h13.out, hRd, hAp⟩⟩
                  · exact absurd (hall 0 (by decide)) (by simp [hL])
                  · replace h11 : Hid (L 11 = false) := h11
                    replace h13 : Hid (L 13 = false) := h13
                    replace h10 : Hid (L 10 = true → Blk w' GX 5 [.int .u8 bi]) := h10
                    go_simp
                    exact hK.out _ _ ⟨v9, GX, by simp, .inr (.inr ⟨by simpa using h11.out, by simpa using h13.out, hRd, hB, by simpa using h10.out⟩)⟩
                refine Inv.Steps.cons rfl ?_ ?_
                · intro L a w' hI hL hd K hK
                  obtain ⟨v9, GX, rfl, hI⟩ := hI
                  clear hd
                  rw [if_pos (by rfl)]
                  rcases hI with ⟨h11, h7, h10, h13, hRd, hAp⟩ | ⟨hall, _⟩ | ⟨h11, h13, hRd, hB, h10⟩
                  · replace h11 : Hid (L 11 = true) := h11
                    replace h7 : Hid (L 7 = true) := h7
                    replace h10 : Hid (L 10 = true) := h10
                    replace h13 : Hid (L 13 = false) := h13
                    go_simp
                    exact hK.out _ _ ⟨v9, GX, by simp, .inl ⟨by simpa using h11.out, by simpa using h7.out, by simpa using h10.out, by simpa using h13.out, hRd, hAp⟩⟩
                  · exact absurd (hall 1 (by decide)) (by simp [hL])
                  · replace h11 : Hid (L 11 = false) := h11
                    replace h13 : Hid (L 13 = false) := h13
                    replace h10 : Hid (L 10 = true → Blk w' GX 5 [.int .u8 bi]) := h10
                    go_simp
                    exact hK.out _ _ ⟨v9, GX, by simp, .inr (.inr ⟨by simpa using h11.out, by simpa using h13.out, hRd, hB, by simpa using h10.out⟩)⟩
                refine Inv.Steps.cons rfl ?_ ?_
                · intro L a w' hI hL hd K hK
                  obtain ⟨v9, GX, rfl, hI⟩ := hI
                  simp [Region.binds] at hd
                  simp only [hd, if_true]
                  rw [if_pos (by rfl)]
                  rcases hI with ⟨h11, h7, h10, h13, hRd, hAp⟩ | ⟨hall, _⟩ | ⟨h11, h13, hRd, hB, h10⟩
                  · replace h11 : Hid (L 11 = true) := h11
                    replace h7 : Hid (L 7 = true) := h7
                    replace h10 : Hid (L 10 = true) := h10
                    replace h13 : Hid (L 13 = false) := h13
                    have hc := hRd.1.cell
                    simp only [ac] at hc
                    go_simp
                    exact hK.out _ _ ⟨v9, GX, by simp [hd], .inl ⟨by simpa using h11.out, by simpa using h7.out, by simpa using h10.out, by simpa using h13.out, hRd, hAp⟩⟩
                  · exact absurd (hall 2 (by decide)) (by simp [hL])
                  · replace h11 : Hid (L 11 = false) := h11
                    replace h13 : Hid (L 13 = false) := h13
                    replace h10 : Hid (L 10 = true → Blk w' GX 5 [.int .u8 bi]) := h10
                    have hc := hRd.1.cell
                    simp only [ac] at hc
                    go_simp
                    exact hK.out _ _ ⟨v9, GX, by simp [hd], .inr (.inr ⟨by simpa using h11.out, by simpa using h13.out, hRd, hB, by simpa using h10.out⟩)⟩
                refine Inv.Steps.cons rfl ?_ ?_
                · intro L a w' hI hL hd K hK
                  obtain ⟨v9, GX, rfl, hI⟩ := hI
                  clear hd
                  rw [if_pos (by rfl)]
                  rcases hI with ⟨h11, h7, h10, h13, hRd, hAp⟩ | ⟨hall, _⟩ | ⟨h11, h13, hRd, hB, h10⟩
                  · replace h11 : Hid (L 11 = true) := h11
                    replace h7 : Hid (L 7 = true) := h7
                    replace h10 : Hid (L 10 = true) := h10
                    replace h13 : Hid (L 13 = false) := h13
                    go_simp
                    exact hK.out _ _ ⟨v9, GX, by simp, .inl ⟨by simpa using h11.out, by simpa using h7.out, by simpa using h10.out, by simpa using h13.out, hRd, hAp⟩⟩
                  · exact absurd (hall 3 (by decide)) (by simp [hL])
                  · replace h11 : Hid (L 11 = false) := h11
                    replace h13 : Hid (L 13 = false) := h13
                    replace h10 : Hid (L 10 = true → Blk w' GX 5 [.int .u8 bi]) := h10
                    go_simp
                    exact hK.out _ _ ⟨v9, GX, by simp, .inr (.inr ⟨by simpa using h11.out, by simpa using h13.out, hRd, hB, by simpa using h10.out⟩)⟩
                refine Inv.Steps.cons rfl ?_ ?_
                · intro L a w' hI hL hd K hK
                  obtain ⟨v9, GX, rfl, hI⟩ := hI
                  clear hd
                  rw [if_pos (by rfl)]
                  rcases hI with ⟨h11, h7, h10, h13, hRd, hAp⟩ | ⟨hall, _⟩ | ⟨h11, h13, hRd, hB, h10⟩
                  · replace h11 : Hid (L 11 = true) := h11
                    replace h7 : Hid (L 7 = true) := h7
                    replace h10 : Hid (L 10 = true) := h10
                    replace h13 : Hid (L 13 = false) := h13
                    go_simp
                    exact hK.out _ _ ⟨v9, GX, by simp, .inl ⟨by simpa using h11.out, by simpa using h7.out, by simpa using h10.out, by simpa using h13.out, hRd, hAp⟩⟩
                  · exact absurd (hall 4 (by decide)) (by simp [hL])
                  · replace h11 : Hid (L 11 = false) := h11
                    replace h13 : Hid (L 13 = false) := h13
                    replace h10 : Hid (L 10 = true → Blk w' GX 5 [.int .u8 bi]) := h10
                    go_simp
                    exact hK.out _ _ ⟨v9, GX, by simp, .inr (.inr ⟨by simpa using h11.out, by simpa using h13.out, hRd, hB, by simpa using h10.out⟩)⟩
                refine Inv.Steps.cons rfl ?_ ?_
                · intro L a w' hI hL hd K hK
                  obtain ⟨v9, GX, rfl, hI⟩ := hI
                  simp [Region.binds] at hd
                  simp only [hd, if_true]
                  rw [if_pos (by rfl)]
                  rcases hI with ⟨h11, h7, h10, h13, hRd, hAp⟩ | ⟨hall, _⟩ | ⟨h11, h13, hRd, hB, h10⟩
                  · replace h11 : Hid (L 11 = true) := h11
                    replace h7 : Hid (L 7 = true) := h7
                    replace h10 : Hid (L 10 = true) := h10
                    replace h13 : Hid (L 13 = false) := h13
                    have hc := hRd.1.cell
                    simp only [ac] at hc
                    go_simp
                    exact hK.out _ _ ⟨v9, GX, by simp [hd], .inl ⟨by simpa using h11.out, by simpa using h7.out, by simpa using h10.out, by simpa using h13.out, hRd, hAp⟩⟩
                  · exact absurd (hall 5 (by decide)) (by simp [hL])
                  · replace h11 : Hid (L 11 = false) := h11
                    replace h13 : Hid (L 13 = false) := h13
                    replace h10 : Hid (L 10 = true → Blk w' GX 5 [.int .u8 bi]) := h10
                    have hc := hRd.1.cell
                    simp only [ac] at hc
                    go_simp
                    exact hK.out _ _ ⟨v9, GX, by simp [hd], .inr (.inr ⟨by simpa using h11.out, by simpa using h13.out, hRd, hB, by simpa using h10.out⟩)⟩
                refine Inv.Steps.cons rfl ?_ ?_
                · intro L a w' hI hL hd K hK
                  obtain ⟨v9, GX, rfl, hI⟩ := hI
                  simp [Region.binds] at hd
                  simp only [hd, if_true]
                  rw [if_pos (by rfl)]
                  rcases hI with ⟨h11, h7, h10, h13, hRd, hAp⟩ | ⟨hall, _⟩ | ⟨h11, h13, hRd, hB, h10⟩
                  · replace h11 : Hid (L 11 = true) := h11
                    replace h7 : Hid (L 7 = true) := h7
                    replace h10 : Hid (L 10 = true) := h10
                    replace h13 : Hid (L 13 = false) := h13
                    go_simp
                    exact hK.out _ _ ⟨v9, GX, by simp [hd], .inl ⟨by simpa using h11.out, by simpa using h7.out, by simpa using h10.out, by simpa using h13.out, hRd, hAp⟩⟩
                  · exact absurd (hall 6 (by decide)) (by simp [hL])
                  · replace h11 : Hid (L 11 = false) := h11
                    replace h13 : Hid (L 13 = false) := h13
                    replace h10 : Hid (L 10 = true → Blk w' GX 5 [.int .u8 bi]) := h10
                    go_simp
                    exact hK.out _ _ ⟨v9, GX, by simp [hd], .inr (.inr ⟨by simpa using h11.out, by simpa using h13.out, hRd, hB, by simpa using h10.out⟩)⟩
                refine Inv.Steps.cons rfl ?_ ?_
                · intro L a w' hI hL hd K hK
                  obtain ⟨v9, GX, rfl, hI⟩ := hI
                  simp [Region.binds] at hd
                  simp only [hd, if_true]
                  rw [if_pos (by rfl)]
                  rcases hI with ⟨h11, h7, h10, h13, hRd, hAp⟩ | ⟨hall, _⟩ | ⟨h11, h13, hRd, hB, h10⟩
                  · simp [hL] at h7
                  · exact absurd (hall 7 (by decide)) (by simp [hL])
                  · replace h11 : Hid (L 11 = false) := h11
                    replace h13 : Hid (L 13 = false) := h13
                    replace h10 : Hid (L 10 = true → Blk w' GX 5 [.int .u8 bi]) := h10
                    have hc := hRd.2.cell
                    go_simp
                    exact hK.out _ _ ⟨v9, GX, by simp [hd], .inr (.inr ⟨by simpa using h11.out, by simpa using h13.out, hRd, hB, by simpa using h10.out⟩)⟩
                refine Inv.Steps.cons rfl ?_ ?_
                · intro L a w' hI hL hd K hK
                  obtain ⟨v9, GX, rfl, hI⟩ := hI
                  clear hd
                  rw [if_pos (by rfl)]
                  rcases hI with ⟨h11, h7, h10, h13, hRd, hAp⟩ | ⟨hall, _⟩ | ⟨h11, h13, hRd, hB, h10⟩
                  · replace h11 : Hid (L 11 = true) := h11
                    replace h7 : Hid (L 7 = true) := h7
                    replace h10 : Hid (L 10 = true) := h10
                    replace h13 : Hid (L 13 = false) := h13
                    go_simp
                    exact hK.out _ _ ⟨v9, GX, by simp, .inl ⟨by simpa using h11.out, by simpa using h7.out, by simpa using h10.out, by simpa using h13.out, hRd, hAp⟩⟩
                  · exact absurd (hall 8 (by decide)) (by simp [hL])
                  · replace h11 : Hid (L 11 = false) := h11
                    replace h13 : Hid (L 13 = false) := h13
                    replace h10 : Hid (L 10 = true → Blk w' GX 5 [.int .u8 bi]) := h10
                    go_simp
                    exact hK.out _ _ ⟨v9, GX, by simp, .inr (.inr ⟨by simpa using h11.out, by simpa using h13.out, hRd, hB, by simpa using h10.out⟩)⟩
                refine Inv.Steps.cons rfl ?_ ?_
                · intro L a w' hI hL hd K hK
                  obtain ⟨v9, GX, rfl, hI⟩ := hI
                  simp [Region.binds] at hd
                  simp only [hd, if_true]
                  rw [if_pos (by rfl)]
                  rcases hI with ⟨h11, h7, h10, h13, hRd, hAp⟩ | ⟨hall, _⟩ | ⟨h11, h13, hRd, hB, h10⟩
                  · replace h11 : Hid (L 11 = true) := h11
                    replace h7 : Hid (L 7 = true) := h7
                    replace h10 : Hid (L 10 = true) := h10
                    replace h13 : Hid (L 13 = false) := h13
                    have hc := hRd.1.cell
                    simp only [ac] at hc
                    go_simp
                    exact hK.out _ _ ⟨v9, GX, by simp [hd], .inl ⟨by simpa using h11.out, by simpa using h7.out, by simpa using h10.out, by simpa using h13.out, hRd, hAp⟩⟩
                  · exact absurd (hall 9 (by decide)) (by simp [hL])
                  · replace h11 : Hid (L 11 = false) := h11
                    replace h13 : Hid (L 13 = false) := h13
                    replace h10 : Hid (L 10 = true → Blk w' GX 5 [.int .u8 bi]) := h10
                    have hc := hRd.1.cell
                    simp only [ac] at hc
                    go_simp
                    exact hK.out _ _ ⟨v9, GX, by simp [hd], .inr (.inr ⟨by simpa using h11.out, by simpa using h13.out, hRd, hB, by simpa using h10.out⟩)⟩
                refine Inv.Steps.cons rfl ?_ ?_
                · intro L a w' hI hL hd K hK
                  obtain ⟨v9, GX, rfl, hI⟩ := hI
                  simp [Region.binds] at hd
                  simp only [hd, if_true]
                  rw [if_pos (by rfl)]
                  rcases hI with ⟨h11, h7, h10, h13, hRd, hAp⟩ | ⟨hall, _⟩ | ⟨h11, h13, hRd, hB, h10⟩
                  · simp [hL] at h10
                  · exact absurd (hall 10 (by decide)) (by simp [hL])
                  · replace h11 : Hid (L 11 = false) := h11
                    replace h13 : Hid (L 13 = false) := h13
                    replace h10 : Hid (L 10 = true → Blk w' GX 5 [.int .u8 bi]) := h10
                    go_simp
                    exact hK.out _ _ ⟨v9, w'.heap.size, by simp [hd], .inr (.inr ⟨by simpa using h11.out, by simpa using h13.out, ⟨hRd.1.alloc _, hRd.2.alloc _⟩, bnext hB (bnew _ _), fun _ => Blk.new _ _ _⟩)⟩
                refine Inv.Steps.cons rfl ?_ ?_
                · intro L a w' hI hL hd K hK
                  obtain ⟨v9, GX, rfl, hI⟩ := hI
                  simp [Region.binds] at hd
                  simp only [hd, if_true]
                  rw [if_pos (by rfl)]
                  rcases hI with ⟨h11, h7, h10, h13, hRd, hAp⟩ | ⟨hall, _⟩ | ⟨h11, h13, hRd, hB, h10⟩
                  · simp [hL] at h11
                  · exact absurd (hall 11 (by decide)) (by simp [hL])
                  · replace h11 : Hid (L 11 = false) := h11
                    replace h13 : Hid (L 13 = false) := h13
                    replace h10 : Hid (L 10 = true → Blk w' GX 5 [.int .u8 bi]) := h10
                    refine wp_app_row _ _ bm GX vm M bi (by rfl) (by rfl) (by rfl) (hrow8.kept (hB.block bm hbm8)) hMl8 (h10.out (by simp [hd])) ?_
                    intro v6 w6 b6 hr6 hb6 hg6
                    exact hK.out _ _ ⟨v6, GX, by simp [hd, hL, Act.put], .inl ⟨by simp, by simp [hd], by simp [hd], by simpa using h13.out, ⟨hRd.1.kept hg6 (by simpa using hbA), hRd.2.kept hg6 (by simpa using hbG)⟩, w', b6, hB, hr6, hb6, hg6⟩⟩
                refine Inv.Steps.cons rfl ?_ ?_
                · intro L a w' hI hL hd K hK
                  obtain ⟨v9, GX, rfl, hI⟩ := hI
                  simp [Region.binds] at hd
                  simp only [hd, if_true]
                  rw [if_pos (by rfl)]
                  rcases hI with ⟨h11, h7, h10, h13, hRd, hAp⟩ | ⟨hall, _⟩ | ⟨h11, h13, hRd, hB, h10⟩
                  · replace h11 : Hid (L 11 = true) := h11
                    replace h7 : Hid (L 7 = true) := h7
                    replace h10 : Hid (L 10 = true) := h10
                    replace h13 : Hid (L 13 = false) := h13
                    go_simp
                    exact hK.out _ _ ⟨v9, GX, by simp [hd], .inl ⟨by simpa using h11.out, by simpa using h7.out, by simpa using h10.out, by simpa using h13.out, hRd, hAp⟩⟩
                  · exact absurd (hall 12 (by decide)) (by simp [hL])
                  · simp [hd] at h11
                refine Inv.Steps.cons rfl ?_ ?_
                · intro L a w' hI hL hd K hK
                  obtain ⟨v9, GX, rfl, hI⟩ := hI
                  simp [Region.binds] at hd
                  simp only [hd, if_true]
                  rw [if_pos (by rfl)]
                  rcases hI with ⟨h11, h7, h10, h13, hRd, hAp⟩ | ⟨hall, _⟩ | ⟨h11, h13, hRd, hB, h10⟩
                  · replace h11 : Hid (L 11 = true) := h11
                    replace h7 : Hid (L 7 = true) := h7
                    replace h10 : Hid (L 10 = true) := h10
                    replace h13 : Hid (L 13 = false) := h13
                    have hc := hRd.2.cell
                    have hz := hRd.2.frozen
                    have hAp2 := hAp
                    obtain ⟨Vb, b9, hBb, ⟨o9, c9, cs9, rfl, hq9⟩, hb9, hg9⟩ := hAp
                    obtain ⟨n9, hn9⟩ : ∃ n9, (M ++ [bi]).length = n9 := ⟨_, rfl⟩
                    rw [hn9] at hAp2 ⊢
                    clear hn9
                    go_simp
                    exact hK.out _ _ ⟨_, GX, by simp [hd], .inr (.inl ⟨fun j hj => by rcases (show j = 0 ∨ j = 1 ∨ j = 2 ∨ j = 3 ∨ j = 4 ∨ j = 5 ∨ j = 6 ∨ j = 7 ∨ j = 8 ∨ j = 9 ∨ j = 10 ∨ j = 11 ∨ j = 12 ∨ j = 13 by omega) with rfl | rfl | rfl | rfl | rfl | rfl | rfl | rfl | rfl | rfl | rfl | rfl | rfl | rfl <;> simp [hd], w', hAp2, rfl⟩)⟩
                  · exact absurd (hall 13 (by decide)) (by simp [hL])
                  · simp [hd] at h11
                exact Inv.Steps.nil (by decide)
              case done =>
                intro L a w' hI hall
                obtain ⟨v9, GX, rfl, hI⟩ := hI
                simp only [hall, if_true] at hI ⊢
                rcases hI with ⟨_, _, _, h13, _⟩ | ⟨_, V2, ⟨Vb, b9, hBb, hrow9, hb9, hg9⟩, rfl⟩ | ⟨h11, _⟩
                · simp at h13
                rotate_left
                · simp at h11
                have hMb := hMy8.below hBb
                have hDb := hD8.below hBb
                obtain ⟨hM9, _, hB9⟩ := hMb.turn hDb.lt (by have := hbel8.size; have := hBb.size; omega) (by omega) hbm hrow9 hb9 hg9
                have hX9 := ((hX8.below hBb).kept hg9 (by simpa using hbA)).other (p := ⟨G, m, none⟩) (by simpa using hne) v9
                have hc9 := hX9.cell
                simp only [ac] at hc9
                go_wp2
                go_roundw
                case rel => exact ⟨j + 1, _, S8, _, _, _, by omega, by go_num, (hDb.kept hg9 hbS).kept (only_put _ ⟨G, m, none⟩ _) hMb.2.2.2.2.2.2.2.1, put_ok od _ _ (by omega), may_put hmay hM hno hh, hM9, by rw [(put_len d (m : Int) (one bi)).2]; exact hst, by have := (put_len d (m : Int) (one bi)).1; omega, (bnext hbel8 hBb).trans (hB9 _ (Nat.le_refl _)), fun M1 hM1 => by rcases List.mem_or_eq_of_mem_set hM1 with q | rfl; have := hMl M1 q; omega; have := hMl M (List.mem_of_getElem? hM); simp; omega⟩
                case measure => simp [intOf]; omega
          · have z0 : (ki == 0) = false := by simp [k0]
            by_cases k1 : ki = 1
            · subst k1
              obtain ⟨hD, od, hmay, hMy, hst, hpl, hbel, hMl⟩ := hKs
              cases hno : d.no with
              | true =>
                have hE : d.err = 72 := by simp [Dsk.err, hno]
                have hsame : d.sync.st = d.st ∧ d.sync.pe = d.pe := by unfold Dsk.sync; rw [hno]; exact ⟨acted_st d, acted_pe d⟩
                have hsy : ∀ {W : World}, Dk w.heap.size S W g d → Calls Try.prog 11 #[.pointer (some ⟨g, 0, none⟩)] W fun e w' => e = .returned (.int .i64 72) ∧ Went w.heap.size S W w' g d.sync := fun h => by
                  have := sync_any h od; rw [hE] at this; exact this
                go_wp2_with (first
                  | ((refine at_load_ac _ _ _ _ (by rfl) (by rfl) hr (by rfl) ?_))
                  | ((refine at_alloc_ac (by rfl) (by rfl) ?_); intro W6 hX6 hB6 hz6)
                  | ((refine at_store_ac _ _ _ _ _ (by rfl) (by rfl) (by rfl) hX6 (by rfl) ?_); intro W7 hX7 hg7 hz7; have hb7 : Below wr.heap.size wr W7 := hB6.grown hg7 hB6.size (by simp); have hD7 := hD.below hb7; have hc7 := hX7.cell; simp only [ac] at hc7)
                  | ((with_reducible refine (hsy hD7).mono ?_); rintro e' W8 ⟨rfl, S8, hD8, hF8, hS8⟩; have hX8 := hF8.blk hX7 hGA; have hc8 := hX8.cell; simp only [ac] at hc8; clear hc7))
                go_roundw
                case rel => exact ⟨j + 1, _, S8, Ms, vs, bs, by omega, by go_num, hD8, sync_ok od, may_same hmay hsame.1 hsame.2, (hMy.below hb7).fr hF8 hS8, by rw [hsame.1]; exact hst, by rw [hsame.2]; omega, bfr (bnext hbel hb7) hF8 hD7.base, fun M hM => by have := hMl M hM; omega⟩
                case measure => simp [intOf]; omega
              | false =>
                have hE : d.err = 0 := by simp [Dsk.err, hno]
                have hMsl : Ms.length = k := by rw [hmay.1, hst]
                have hsy : ∀ {W : World}, Dk w.heap.size S W g d → Calls Try.prog 11 #[.pointer (some ⟨g, 0, none⟩)] W fun e w' => e = .returned (.int .i64 0) ∧ Went w.heap.size S W w' g d.sync := fun h => by
                  have := sync_any h od; rw [hE] at this; exact this
                go_wp2_with (first
                  | ((refine at_load_ac _ _ _ _ (by rfl) (by rfl) hr (by rfl) ?_))
                  | ((refine at_alloc_ac (by rfl) (by rfl) ?_); intro W6 hX6 hB6 hz6)
                  | ((refine at_store_ac _ _ _ _ _ (by rfl) (by rfl) (by rfl) hX6 (by rfl) ?_); intro W7 hX7 hg7 hz7; have hb7 : Below wr.heap.size wr W7 := hB6.grown hg7 hB6.size (by simp); have hD7 := hD.below hb7; have hc7 := hX7.cell; simp only [ac] at hc7)
                  | ((with_reducible refine (hsy hD7).mono ?_); rintro e' W8 ⟨rfl, S8, hD8, hF8, hS8⟩; have hX8 := hF8.blk hX7 hGA; clear hc7))
                have hMy8 := (hMy.below hb7).fr hF8 hS8
                have hbel8 := bfr (bnext hbel hb7) hF8 hD7.base
                have hGA8 : ¬ S8 wr.heap.size := fun q => by
                  rcases hS8 _ q with q | q
                  · exact hGA q
                  · have := hX7.lt; omega
                obtain ⟨GA, hGAe⟩ : ∃ GA, wr.heap.size = GA := ⟨_, rfl⟩
                rw [hGAe] at hX8 hGA8 hne ⊢
                have hneA := hne
                clear hGAe hX6 hB6 hg7 hX7 hsy hr hGA hb7 hD7
                go_loopw [89] (fun t wc => ∃ (i : Nat) (vs' : List Value), i ≤ k ∧ t = .int .i64 i ∧ Dk w.heap.size S8 wc g d.sync ∧ My w.heap.size S8 wc G k ((Ms.take i).map (fun M => M.drop (M.length - 1)) ++ Ms.drop i) vs' bs ∧ Below w.heap.size w wc ∧ Blk wc GA 41 (ac (1, ai, bi, aq, an, acp))) (fun t _ => k - (intOf t).toNat)
                case atStart => exact ⟨0, vs, Nat.zero_le _, rfl, hD8, by simpa using hMy8, hbel8, hX8⟩
                case round =>
                  obtain ⟨i, vs', hi, rfl, hDw, hMw, hbw, hXw⟩ := hrel
                  by_cases hik : i < k
                  · have hik' : (i : Int) < (k : Int) := by omega
                    obtain ⟨Mi, hMi⟩ : ∃ Mi, Ms[i]? = some Mi := ⟨_, List.getElem?_eq_getElem (by omega)⟩
                    have hMi' : ((Ms.take i).map (fun M => M.drop (M.length - 1)) ++ Ms.drop i)[i]? = some Mi := by
                      rw [List.getElem?_append_right (by simp; omega)]
                      simp [Nat.min_eq_left (show i ≤ Ms.length by omega), hMi]
                    obtain ⟨vi, hvi⟩ : ∃ vi, vs'[i]? = some vi := ⟨_, List.getElem?_eq_getElem (by rw [hMw.2.1]; omega)⟩
                    obtain ⟨b3, hb3⟩ : ∃ b3, bs[i]? = some b3 := ⟨_, List.getElem?_eq_getElem (by rw [hMw.2.2.2.1]; simp; omega)⟩
                    have hrow := hMw.2.2.2.2.1 i vi b3 Mi hvi hb3 hMi'
                    have hMne := (hmay.2 i Mi hMi).1
                    obtain ⟨l1, hl1⟩ : ∃ l1, Mi.length = l1 + 1 := ⟨Mi.length - 1, by have := List.length_pos_iff.2 hMne; omega⟩
                    have hMl1 := hMl Mi (List.mem_of_getElem? hMi)
                    obtain ⟨o3, c3, cs3, rfl, hB3, hq1, hq2, hq3, hq4⟩ := hrow
                    rw [hl1] at hq2 hvi
                    have hcut : ∀ w, (Instr.slice 56 (.slice (some ⟨b3, o3, none⟩) (l1 + 1) c3) (some (.int .i64 (l1 : Int))) none none).run Try.prog w = .ok (.slice (some ⟨b3, o3 + l1, none⟩) 1 (c3 - l1)) w := fun w => by
                      have := run_from w (some ⟨b3, o3, none⟩) (l1 + 1) c3 l1 (by omega)
                      rw [show cutP (some ⟨b3, o3, none⟩) c3 l1 = some ⟨b3, o3 + l1, none⟩ by unfold cutP; rw [if_neg (by omega)]; simp [Addr.add_lit], show l1 + 1 - l1 = 1 by omega] at this
                      exact this
                    have hw1 : IntKind.i64.wrap (l1 : Int) = (l1 : Int) := wrap_int ⟨by omega, by omega⟩
                    have hlast : Mi.drop (Mi.length - 1) = [Mi[l1]'(by omega)] := by
                      have e1 : Mi.length - 1 = l1 := by omega
                      rw [e1, List.drop_eq_getElem_cons (by omega), List.drop_of_length_le (by omega)]
                    have hrow9 : Row8 wr.drew b3 (.slice (some ⟨b3, o3 + l1, none⟩) 1 (c3 - l1)) (Mi.drop (Mi.length - 1)) := by
                      rw [hlast]
                      refine ⟨o3 + l1, c3 - l1, cs3, rfl, hB3, by omega, by simp; omega, by omega, fun e x hx => ?_⟩
                      match e, hx with
                      | 0, hx =>
                        simp at hx
                        subst hx
                        rw [Nat.add_zero]
                        exact hq4 l1 _ (List.getElem?_eq_getElem (by omega))
                    have hturn := hMw.turn hDw.lt hbw.size (by simp; omega) hb3 hrow9 (.inl rfl) (show wr.grownBy wr.drew (some b3) from ⟨rfl, rfl, rfl, Nat.le_refl _, fun _ _ _ => rfl⟩)
                    obtain ⟨hM9, _, hB9⟩ := hturn
                    rw [show bs.set i b3 = bs from set_self hb3, cut_next hMi] at hM9
                    have hcG := hMw.1.cell
                    have hzG := hMw.1.frozen
                    have hnlt : (i : Int) < (k : Int) := hik'
                    go_wp2
                    refine Inv.region_inv (fun L a w' => a = { tmps := #[(Value.int IntKind.i64 (k : Int)), (Value.slice (some { block := b, off := o }) n c0), (Value.slice kq kn kc), (undef), (undef), (undef), (Value.bool false), (Value.pointer (some { block := g, off := 0 })), (Value.slice (some { block := G, off := 0 }) k k), (u9), (undef), (Value.pointer (some { block := GA, off := 0 })), (Value.int IntKind.i64 (i : Int)), (undef), (undef), (undef), (undef), (undef), (undef), (undef), (Value.bool true), (Value.bool false), (Value.int IntKind.i64 (k : Int)), (Value.bool false), (Value.bool false), (Value.int IntKind.i64 (k : Int)), (Value.bool false), (Value.bool false), (Value.bool false), (Value.slice (some { block := b, off := o }) n c0), (Value.int IntKind.i64 (n : Int)), (Value.bool false), (Value.bool false), (Value.int IntKind.i64 (k : Int)), (Value.pointer (some { block := g, off := 0 })), (Value.int IntKind.i64 (k : Int)), (Value.slice (some { block := G, off := 0 }) k k), (Value.slice (some { block := G, off := 0 }) k k), (Value.int IntKind.i64 (k : Int)), (Value.int IntKind.i64 (k : Int)), (Value.bool false), (u41), (u42), (u43), (u44), (u45), (u46), (Value.slice (some { block := b, off := o }) n c0), (Value.int IntKind.i64 (n : Int)), (Value.int IntKind.i64 (j : Int)), (Value.bool true), (Value.pointer (some { block := b, off := o + j * 4 })), (acv (1, ai, bi, aq, an, acp)), (Value.pointer (some { block := GA, off := 0 })), (Value.int IntKind.i64 1), (Value.bool false), (Value.bool false), (undef), (undef), (undef), (undef), (undef), (undef), (undef), (undef), (Value.bool false), (u66), (u67), (u68), (u69), (u70), (u71), (u72), (u73), (u74), (u75), (u76), (u77), (u78), (Value.pointer (some { block := GA, off := 0 })), (Value.int IntKind.i64 1), (Value.bool true), (Value.bool true), (Value.pointer (some { block := g, off := 0 })), (Value.int IntKind.i64 0), (Value.bool true), (Value.bool true), (Value.slice (some { block := G, off := 0 }) k k), (Value.int IntKind.i64 (k : Int)), (Value.int IntKind.i64 (i : Int)), (Value.bool true), (Value.int IntKind.i64 (i : Int)), (if L 0 = true then (Value.slice (some { block := G, off := 0 }) k k) else (u92)), (if L 1 = true then (Value.int IntKind.i64 (i : Int)) else (u93)), (if L 2 = true then (Value.slice (some { block := G, off := 0 }) k k) else (u94)), (if L 3 = true then (Value.int IntKind.i64 (i : Int)) else (u95)), (if L 4 = true then (.pointer (some ⟨G, i, none⟩)) else (u96)), (if L 5 = true then (.slice (some ⟨b3, o3, none⟩) (l1 + 1) c3) else (u97)), (if L 6 = true then (Value.slice (some { block := G, off := 0 }) k k) else (u98)), (if L 7 = true then (Value.int IntKind.i64 (i : Int)) else (u99)), (if L 8 = true then (.pointer (some ⟨G, i, none⟩)) else (u100)), (if L 9 = true then (.slice (some ⟨b3, o3, none⟩) (l1 + 1) c3) else (u101)), (if L 10 = true then (.int .i64 ((l1 : Int) + 1)) else (u102)), (if L 11 = true then (.int .i64 (l1 : Int)) else (u103)), (if L 12 = true then (.slice (some ⟨b3, o3 + l1, none⟩) 1 (c3 - l1)) else (u104)), (if L 13 = true then (.pointer (some ⟨G, i, none⟩)) else (u105)), (u106), (u107), (u108), (u109), (u110), (u111), (u112), (u113), (u114), (undef), (undef), (undef), (undef), (undef), (undef), (undef), (undef), (undef), (undef), (undef), (undef), (undef), (undef), (undef), (undef), (undef), (undef), (undef), (undef), (undef), (undef), (undef), (undef), (undef), (undef), (undef), (undef), (undef), (undef), (undef), (undef), (undef), (undef), (undef), (undef), (undef), (undef), (undef), (undef), (undef), (undef), (undef), (undef), (undef), (undef)], defers := [] } ∧ ((L 14 = true ∧ (∀ j, j < 15 → L j = true) ∧ w' = wr.drew.setCell ⟨G, i, none⟩ (.slice (some ⟨b3, o3 + l1, none⟩) 1 (c3 - l1))) ∨ (L 14 = false ∧ w' = wr.drew))) (by kernel_rfl) (by kernel_rfl) ?h0 ?step ?done
                    case h0 => exact ⟨by simp, .inr ⟨by simp, rfl⟩⟩
                    case step =>
                      refine Inv.Steps.cons rfl ?_ ?_
                      · intro L a w' hI hL hd K hK
                        obtain ⟨rfl, hI⟩ := hI
                        clear hd
                        rw [if_pos (by rfl)]
                        rcases hI with ⟨_, hall, _⟩ | ⟨h14, rfl⟩
                        · exact absurd (hall 0 (by decide)) (by simp [hL])
                        replace h14 : Hid (L 14 = false) := h14
                        go_simp
                        exact hK.out _ _ ⟨by simp, .inr ⟨by simpa using h14.out, rfl⟩⟩
                      refine Inv.Steps.cons rfl ?_ ?_
                      · intro L a w' hI hL hd K hK
                        obtain ⟨rfl, hI⟩ := hI
                        clear hd
                        rw [if_pos (by rfl)]
                        rcases hI with ⟨_, hall, _⟩ | ⟨h14, rfl⟩
                        · exact absurd (hall 1 (by decide)) (by simp [hL])
                        replace h14 : Hid (L 14 = false) := h14
                        go_simp
                        exact hK.out _ _ ⟨by simp, .inr ⟨by simpa using h14.out, rfl⟩⟩
                      refine Inv.Steps.cons rfl ?_ ?_
                      · intro L a w' hI hL hd K hK
                        obtain ⟨rfl, hI⟩ := hI
                        clear hd
                        rw [if_pos (by rfl)]
                        rcases hI with ⟨_, hall, _⟩ | ⟨h14, rfl⟩
                        · exact absurd (hall 2 (by decide)) (by simp [hL])
                        replace h14 : Hid (L 14 = false) := h14
                        go_simp
                        exact hK.out _ _ ⟨by simp, .inr ⟨by simpa using h14.out, rfl⟩⟩
                      refine Inv.Steps.cons rfl ?_ ?_
                      · intro L a w' hI hL hd K hK
                        obtain ⟨rfl, hI⟩ := hI
                        clear hd
                        rw [if_pos (by rfl)]
                        rcases hI with ⟨_, hall, _⟩ | ⟨h14, rfl⟩
                        · exact absurd (hall 3 (by decide)) (by simp [hL])
                        replace h14 : Hid (L 14 = false) := h14
                        go_simp
                        exact hK.out _ _ ⟨by simp, .inr ⟨by simpa using h14.out, rfl⟩⟩
                      refine Inv.Steps.cons rfl ?_ ?_
                      · intro L a w' hI hL hd K hK
                        obtain ⟨rfl, hI⟩ := hI
                        simp [Region.binds] at hd
                        simp only [hd, if_true]
                        rw [if_pos (by rfl)]
                        rcases hI with ⟨_, hall, _⟩ | ⟨h14, rfl⟩
                        · exact absurd (hall 4 (by decide)) (by simp [hL])
                        replace h14 : Hid (L 14 = false) := h14
                        go_simp
                        exact hK.out _ _ ⟨by simp [hd], .inr ⟨by simpa using h14.out, rfl⟩⟩
                      refine Inv.Steps.cons rfl ?_ ?_
                      · intro L a w' hI hL hd K hK
                        obtain ⟨rfl, hI⟩ := hI
                        simp [Region.binds] at hd
                        simp only [hd, if_true]
                        rw [if_pos (by rfl)]
                        rcases hI with ⟨_, hall, _⟩ | ⟨h14, rfl⟩
                        · exact absurd (hall 5 (by decide)) (by simp [hL])
                        replace h14 : Hid (L 14 = false) := h14
                        go_simp
                        exact hK.out _ _ ⟨by simp [hd], .inr ⟨by simpa using h14.out, rfl⟩⟩
                      refine Inv.Steps.cons rfl ?_ ?_
                      · intro L a w' hI hL hd K hK
                        obtain ⟨rfl, hI⟩ := hI
                        clear hd
                        rw [if_pos (by rfl)]
                        rcases hI with ⟨_, hall, _⟩ | ⟨h14, rfl⟩
                        · exact absurd (hall 6 (by decide)) (by simp [hL])
                        replace h14 : Hid (L 14 = false) := h14
                        go_simp
                        exact hK.out _ _ ⟨by simp, .inr ⟨by simpa using h14.out, rfl⟩⟩
                      refine Inv.Steps.cons rfl ?_ ?_
                      · intro L a w' hI hL hd K hK
                        obtain ⟨rfl, hI⟩ := hI
                        clear hd
                        rw [if_pos (by rfl)]
                        rcases hI with ⟨_, hall, _⟩ | ⟨h14, rfl⟩
                        · exact absurd (hall 7 (by decide)) (by simp [hL])
                        replace h14 : Hid (L 14 = false) := h14
                        go_simp
                        exact hK.out _ _ ⟨by simp, .inr ⟨by simpa using h14.out, rfl⟩⟩
                      refine Inv.Steps.cons rfl ?_ ?_
                      · intro L a w' hI hL hd K hK
                        obtain ⟨rfl, hI⟩ := hI
                        simp [Region.binds] at hd
                        simp only [hd, if_true]
                        rw [if_pos (by rfl)]
                        rcases hI with ⟨_, hall, _⟩ | ⟨h14, rfl⟩
                        · exact absurd (hall 8 (by decide)) (by simp [hL])
                        replace h14 : Hid (L 14 = false) := h14
                        go_simp
                        exact hK.out _ _ ⟨by simp [hd], .inr ⟨by simpa using h14.out, rfl⟩⟩
                      refine Inv.Steps.cons rfl ?_ ?_
                      · intro L a w' hI hL hd K hK
                        obtain ⟨rfl, hI⟩ := hI
                        simp [Region.binds] at hd
                        simp only [hd, if_true]
                        rw [if_pos (by rfl)]
                        rcases hI with ⟨_, hall, _⟩ | ⟨h14, rfl⟩
                        · exact absurd (hall 9 (by decide)) (by simp [hL])
                        replace h14 : Hid (L 14 = false) := h14
                        go_simp
                        exact hK.out _ _ ⟨by simp [hd], .inr ⟨by simpa using h14.out, rfl⟩⟩
                      refine Inv.Steps.cons rfl ?_ ?_
                      · intro L a w' hI hL hd K hK
                        obtain ⟨rfl, hI⟩ := hI
                        simp [Region.binds] at hd
                        simp only [hd, if_true]
                        rw [if_pos (by rfl)]
                        rcases hI with ⟨_, hall, _⟩ | ⟨h14, rfl⟩
                        · exact absurd (hall 10 (by decide)) (by simp [hL])
                        replace h14 : Hid (L 14 = false) := h14
                        go_simp
                        exact hK.out _ _ ⟨by simp [hd], .inr ⟨by simpa using h14.out, rfl⟩⟩
                      refine Inv.Steps.cons rfl ?_ ?_
                      · intro L a w' hI hL hd K hK
                        obtain ⟨rfl, hI⟩ := hI
                        simp [Region.binds] at hd
                        simp only [hd, if_true]
                        rw [if_pos (by rfl)]
                        rcases hI with ⟨_, hall, _⟩ | ⟨h14, rfl⟩
                        · exact absurd (hall 11 (by decide)) (by simp [hL])
                        replace h14 : Hid (L 14 = false) := h14
                        go_simp
                        exact hK.out _ _ ⟨by simp [hd], .inr ⟨by simpa using h14.out, rfl⟩⟩
                      refine Inv.Steps.cons rfl ?_ ?_
                      · intro L a w' hI hL hd K hK
                        obtain ⟨rfl, hI⟩ := hI
                        simp [Region.binds] at hd
                        simp only [hd, if_true]
                        rw [if_pos (by rfl)]
                        rcases hI with ⟨_, hall, _⟩ | ⟨h14, rfl⟩
                        · exact absurd (hall 12 (by decide)) (by simp [hL])
                        replace h14 : Hid (L 14 = false) := h14
                        go_simp
                        exact hK.out _ _ ⟨by simp [hd], .inr ⟨by simpa using h14.out, rfl⟩⟩
                      refine Inv.Steps.cons rfl ?_ ?_
                      · intro L a w' hI hL hd K hK
                        obtain ⟨rfl, hI⟩ := hI
                        simp [Region.binds] at hd
                        simp only [hd, if_true]
                        rw [if_pos (by rfl)]
                        rcases hI with ⟨_, hall, _⟩ | ⟨h14, rfl⟩
                        · exact absurd (hall 13 (by decide)) (by simp [hL])
                        replace h14 : Hid (L 14 = false) := h14
                        go_simp
                        exact hK.out _ _ ⟨by simp [hd], .inr ⟨by simpa using h14.out, rfl⟩⟩
                      refine Inv.Steps.cons rfl ?_ ?_
                      · intro L a w' hI hL hd K hK
                        obtain ⟨rfl, hI⟩ := hI
                        simp [Region.binds] at hd
                        simp only [hd, if_true]
                        rw [if_pos (by rfl)]
                        rcases hI with ⟨_, hall, _⟩ | ⟨h14, rfl⟩
                        · exact absurd (hall 14 (by decide)) (by simp [hL])
                        replace h14 : Hid (L 14 = false) := h14
                        go_simp
                        exact hK.out _ _ ⟨by simp [hd], .inl ⟨by simp, fun j hj => by rcases (show j = 0 ∨ j = 1 ∨ j = 2 ∨ j = 3 ∨ j = 4 ∨ j = 5 ∨ j = 6 ∨ j = 7 ∨ j = 8 ∨ j = 9 ∨ j = 10 ∨ j = 11 ∨ j = 12 ∨ j = 13 ∨ j = 14 by omega) with rfl | rfl | rfl | rfl | rfl | rfl | rfl | rfl | rfl | rfl | rfl | rfl | rfl | rfl | rfl <;> simp [hd], rfl⟩⟩
                      exact Inv.Steps.nil (by decide)
                    case done =>
                      intro L a w' hI hall
                      obtain ⟨rfl, hI⟩ := hI
                      simp only [hall, if_true] at hI ⊢
                      rcases hI with ⟨_, _, rfl⟩ | ⟨h14, _⟩
                      rotate_left
                      · simp at h14
                      go_wp2
                      go_roundw
                      case rel => exact ⟨i + 1, _, by omega, by go_num, (hDw.below ((Below.refl _ _).drew)).kept (only_put _ ⟨G, i, none⟩ _) hMw.2.2.2.2.2.2.2.1, hM9, hbw.trans (hB9 _ (Nat.le_refl _)), (hXw.drew).other (p := ⟨G, i, none⟩) (by simpa using hneA) _⟩
                      case measure => simp [intOf]; omega
                  · have hik2 : i = k := by omega
                    subst hik2
                    rw [List.take_of_length_le (by omega), List.drop_of_length_le (by omega), List.append_nil] at hMw
                    have hcw := hXw.cell
                    simp only [ac] at hcw
                    go_wp2
                    go_roundw
                    case rel => exact ⟨j + 1, _, S8, _, vs', bs, by omega, by go_num, hDw, sync_ok od, may_sync hmay od hno, hMw, by rw [(sync_len d).2]; exact hst, by have := (sync_len d).1; omega, hbw, fun M hM => by obtain ⟨M0, _, rfl⟩ := List.mem_map.1 hM; simp; omega⟩
                    case measure => simp [intOf]; omega
            · have z1 : (ki == 1) = false := by simp [k1]
              by_cases k2 : ki = 2
              · subst k2
                obtain ⟨hD, od, hmay, hMy, hst, hpl, hbel, hMl⟩ := hKs
                have oai := hao.2.1
                simp only at oai
                go_wp2_with (first
                  | ((refine at_load_ac _ _ _ _ (by rfl) (by rfl) hr (by rfl) ?_))
                  | ((refine at_alloc_ac (by rfl) (by rfl) ?_); intro W6 hX6 hB6 hz6)
                  | ((refine at_store_ac _ _ _ _ _ (by rfl) (by rfl) (by rfl) hX6 (by rfl) ?_); intro W7 hX7 hg7 hz7; have hb7 : Below wr.heap.size wr W7 := hB6.grown hg7 hB6.size (by simp); have hD7 := hD.below hb7; have hc7 := hX7.cell; simp only [ac] at hc7)
                  | ((with_reducible refine (break_any hD7 ai).mono ?_); rintro e' W8 ⟨rfl, S8, hD8, hF8, hS8⟩))
                go_roundw
                case rel => exact ⟨j + 1, _, S8, Ms, vs, bs, by omega, by go_num, hD8, breaks_ok od oai, may_same hmay rfl rfl, (hMy.below hb7).fr hF8 hS8, hst, by simp only [Dsk.breaks]; omega, bfr (bnext hbel hb7) hF8 hD7.base, fun M hM => by have := hMl M hM; omega⟩
                case measure => simp [intOf]; omega
              · have z2 : (ki == 2) = false := by simp [k2]
                go_wp2_with (first
                  | ((refine at_load_ac _ _ _ _ (by rfl) (by rfl) hr (by rfl) ?_))
                  | ((refine at_alloc_ac (by rfl) (by rfl) ?_); intro W6 hX6 hB6 hz6)
                  | ((refine at_store_ac _ _ _ _ _ (by rfl) (by rfl) (by rfl) hX6 (by rfl) ?_); intro W7 hX7 hg7 hz7; have hb7 : Below wr.heap.size wr W7 := hB6.grown hg7 hB6.size (by simp); have hc7 := hX7.cell; simp only [ac] at hc7))
                have hK7 := hKs.below hb7
                go_roundw
                case rel => exact ⟨j + 1, d, S, Ms, vs, bs, by omega, by go_num, hK7.1, hK7.2.1, hK7.2.2.1, hK7.2.2.2.1, hK7.2.2.2.2.1, by have := hK7.2.2.2.2.2.1; omega, hK7.2.2.2.2.2.2.1, fun M hM => by have := hK7.2.2.2.2.2.2.2 M hM; omega⟩
                case measure => simp [intOf]; omega
        · obtain ⟨hD, od, hmay, hMy, hst, hpl, hbel, hMl⟩ := hKs
          have hoff : Off S kq kn := fun hz a ha q => by
            obtain ⟨b', o', e', hlt', _⟩ := rk.2.2.2 (by omega)
            rw [e'] at ha
            obtain rfl := Option.some.inj ha
            have := hD.base _ q
            simp only at this
            omega
          have hcr := crash_any hD od kq kn kc ks lk (rk.below hbel) hoff
          obtain ⟨d', hd'⟩ : ∃ d', d' = d.crash ks := ⟨_, rfl⟩
          rw [← hd'] at hcr
          have hdn : d'.dn = false := by rw [hd']; rfl
          have hpe : d'.pe = [] := by rw [hd']; rfl
          have od' : d'.ok := by rw [hd']; exact crash_ok od ks
          have hMsl : Ms.length = k := by rw [hmay.1, hst]
          have hread : ∀ (i : Nat) (M : List Int), Ms[i]? = some M → ∃ c ∈ M, d'.read i = (one c, 0) := fun i M hM => by rw [hd']; exact may_crash hmay od ks hM
          clear hd'
          go_wp2_with (first
            | ((with_reducible refine hcr.mono ?_); rintro e' W8 ⟨rfl, S8, hD8, hF8, hS8⟩))
          have hMy8 := hMy.fr hF8 hS8
          have hb8 := bfr hbel hF8 hD.base
          clear hcr hmay hMy hD hbel hF8 hS8 od
          go_loopw [120] (fun t wr => ∃ i : Nat, i ≤ k ∧ t = .int .i64 i ∧ Below W8.heap.size W8 wr) (fun t _ => k - (intOf t).toNat)
          case atStart => exact ⟨0, Nat.zero_le _, rfl, Below.refl _ _⟩
          case round =>
            obtain ⟨i, hi, rfl, hbx⟩ := hrel
            have hDx := hD8.below hbx
            have hMx := hMy8.below hbx
            by_cases hik : i < k
            · have hik' : (i : Int) < (k : Int) := by omega
              obtain ⟨M, hM⟩ : ∃ M, Ms[i]? = some M := ⟨_, List.getElem?_eq_getElem (by omega)⟩
              obtain ⟨vi, hvi⟩ : ∃ vi, vs[i]? = some vi := ⟨_, List.getElem?_eq_getElem (by rw [hMx.2.1]; omega)⟩
              obtain ⟨b3, hb3⟩ : ∃ b3, bs[i]? = some b3 := ⟨_, List.getElem?_eq_getElem (by rw [hMx.2.2.2.1]; omega)⟩
              obtain ⟨o3, c3, cs3, rfl, hB3, hq1, hq2, hq3, hq4⟩ := hMx.2.2.2.2.1 i vi b3 M hvi hb3 hM
              obtain ⟨c, hcM, hrc⟩ := hread i M hM
              obtain ⟨mL, hmL⟩ : ∃ mL, M.length = mL := ⟨_, rfl⟩
              have hmL1 := hMl M (List.mem_of_getElem? hM)
              rw [hmL] at hvi hq2
              have hcG := hMx.1.cell
              have hrd : Calls Try.prog 8 #[.pointer (some ⟨g, 0, none⟩), .int .i64 (i : Int)] wr fun e w' => e = .returned (.tuple #[secv (one c), .int .i64 0]) ∧ Below wr.heap.size wr w' := by
                have := read_any hDx od' (i : Int); rw [hrc] at this; exact this
              have heq := eq_secs
              have hgd := eq_guard
              go_wp2_with (first
                | ((with_reducible refine hrd.mono ?_); rintro e' V1 ⟨rfl, hB1⟩)
                | ((refine at_alloc_sec (by rfl) (by rfl) ?_); intro V2 hY2 hB2 hz2)
                | ((refine at_store_sec _ _ _ _ _ (by rfl) (by rfl) (by rfl) hY2 (by rfl) ?_); intro V3 hY3 hg3 hz3))
              have hbE : Below wr.heap.size wr V3 := bnext hB1 (hB2.grown hg3 hB2.size (by simp))
              have hB3' := hB3.below hbE
              have hany : M.any (fun y => decide (one c = one y)) = true := List.any_eq_true.2 ⟨c, hcM, by simp⟩
              clear hcG hrd hY2 hB1 hB2 hg3
              go_loopw [17, 133] (fun f t wr => ∃ q : Nat, q ≤ mL ∧ t = .int .i64 q ∧ f = .bool ((M.take q).any fun y => decide (one c = one y)) ∧ wr = V3) (fun _ t _ => mL - (intOf t).toNat)
              case atStart => exact ⟨0, Nat.zero_le _, rfl, rfl, rfl⟩
              case round =>
                obtain ⟨q, hq, rfl, rfl, rfl⟩ := hrel
                by_cases hqm : q < mL
                · have hqm' : (q : Int) < (mL : Int) := by omega
                  obtain ⟨y, hy⟩ : ∃ y, M[q]? = some y := ⟨_, List.getElem?_eq_getElem (by omega)⟩
                  have hcq := hB3'.cell (o3 + q)
                  rw [hq4 q y hy] at hcq
                  have hnext : (M.take (q + 1)).any (fun y => decide (one c = one y)) = ((M.take q).any (fun y => decide (one c = one y)) || decide (one c = one y)) := by
                    rw [List.take_add_one, hy]
                    simp
                  have HN : Hid ((M.take (q + 1)).any (fun y => decide (one c = one y)) = ((M.take q).any (fun y => decide (one c = one y)) || decide (one c = one y))) := hnext
                  clear hnext
                  cases hf : (M.take q).any (fun y => decide (one c = one y)) with
                  | true =>
                    go_wp2
                    go_roundw
                    case rel => exact ⟨q + 1, by omega, by go_num, by rw [HN.out, hf]; rfl, trivial⟩
                    case measure => simp [intOf]; omega
                  | false =>
                    go_wp2_with (first
                      | ((refine at_load_sec _ _ _ _ (by rfl) (by rfl) (blk_sec hY3) (by rfl) ?_))
                      | ((refine at_build1 _ _ (by rfl) (by rfl) (by rfl) ?_)))
                    go_roundw
                    case rel => exact ⟨q + 1, by omega, by go_num, by rw [HN.out, hf]; simp, trivial⟩
                    case measure => simp [intOf]; omega
                · have hq2' : M.take q = M := List.take_of_length_le (by omega)
                  rw [hq2', hany]
                  go_wp2
                  go_roundw
                  case rel => exact ⟨i + 1, by omega, by go_num, bnext hbx hbE⟩
                  case measure => simp [intOf]; omega
            · have hpn := pending_any hDx od'
              rw [hpe] at hpn
              simp only [List.length_nil] at hpn
              have hdw : ∀ {W : World}, Dk w.heap.size S8 W g d' → Calls Try.prog 12 #[.pointer (some ⟨g, 0, none⟩)] W fun e w' => e = .returned (.bool false) ∧ w' = W := fun h => by
                have := down_any h; rw [hdn] at this; exact this
              go_wp2_with (first
                | ((with_reducible refine hpn.mono ?_); rintro e' V1 ⟨pp, pc, rfl, hr1, hB1⟩; have hD1 := hDx.below hB1)
                | ((with_reducible refine (hdw hD1).mono ?_); rintro e' V2 ⟨rfl, rfl⟩))
              go_ret
              exact ⟨rfl, bnext (bnext hb8 hbx) hB1⟩
end Go.Proofs.Ythpkmkknipkcbaa.Disk
