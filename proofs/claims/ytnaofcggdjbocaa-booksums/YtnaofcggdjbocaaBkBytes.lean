/-
  A book's bytes: book.Bytes.
-/
import Derived.Test.YtnaofcggdjbocaaBkChange
import Derived.Test.YtnaofcggdjbocaaLebList
import Derived.Test.YtnaofcggdjbocaaPolRefNums
namespace Go.Proofs.Ytnaofcggdjbocaa.Book
open Go.RowKit Go.Proofs.Ytnaofcggdjbocaa.Mem Go.Proofs.Ytnaofcggdjbocaa.Policy Go.Proofs.Ytnaofcggdjbocaa.Event Go.Proofs.Ytnaofcggdjbocaa.Addr
set_option maxRecDepth 100000

theorem nums_next {t : Int} {es : List En} {k : Nat} {e : En} (hk : es[k]? = some e) : ([t] ++ (es.take (k + 1)).flatMap numsEn) = ([t] ++ (es.take k).flatMap numsEn) ++ numsL e.p ++ [e.g] := by
  have hl := (List.getElem?_eq_some_iff.1 hk).1
  rw [List.take_succ_eq_append_getElem hl, List.flatMap_append, (List.getElem?_eq_some_iff.1 hk).2, List.flatMap_cons, List.flatMap_nil, List.append_nil, numsEn]
  simp only [List.append_assoc]
theorem grew_two {k : IntKind} {B n : Nat} {e : TypeId} {w wr w1 : World} {u v : Value} {ys zs : List Int} (hB : B ≤ w.heap.size) (hnx : Below B w wr) (hown : wr.ownsRow B e 1 u ys.length (ys.map (Value.int k)))
    (hown1 : w1.ownsRow B e 1 v n (ys.map (Value.int k) ++ zs.map (Value.int k))) (hg : wr.grownBy w1 u.ownBlock) :
    w1.ownsRow B e 1 v (ys ++ zs).length ((ys ++ zs).map (Value.int k)) ∧ Below B w w1 := grew0 hB hnx hown hown1 hg
set_option maxHeartbeats 2000000 in
/-- book.Bytes. -/
theorem book_Bytes (h : Bh) (b : Bk) (w : World) (i : IsB w h b) (ob : BkOk b) (hn : h.n ≤ 1000) :
    Calls Try.prog 14 #[bv h] w fun x w' => ∃ q c, x = .returned (.tuple #[.slice q (bytesB b).length c, .int .i64 (errB b)]) ∧ Reads .u8 w' q c (bytesB b) ∧ Below w.heap.size w w' := by
  have hR := fun {W : World} (hb : Below w.heap.size w W) => book_Right h b W (i.below hb) ob.2 hn
  cases hr : rightB b with
  | false =>
    have e1 : bytesB b = [] := by unfold bytesB; rw [hr]; rfl
    have e2 : errB b = 131 := by unfold errB; rw [hr]; rfl
    rw [e1, e2]
    rw [hr] at hR
    clear e1 e2
    go_enter Try.func14, Try.ntmps14
    go_wp2_with (first
      | ((fail_if_success (have _ := hX1)); (refine at_box_bk _ _ (by rfl) (by rfl) (by rfl) ?_); intro V1 hX1 hB1 hz1)
      | ((fail_if_success (have _ := hB2)); (have _ := hX1); (refine at_load_bk _ _ _ (by rfl) (by rfl) hX1 (by rfl) ?_))
      | ((fail_if_success (have _ := hB2)); (with_reducible refine (hR hB1).mono ?_); rintro e w2 ⟨rfl, hB2⟩))
    go_ret2
    exact ⟨none, 0, rfl, Reads.nil _ _, bnext hB1 hB2⟩
  | true =>
    have e1 : bytesB b = Leb.nums (numsB b) := by unfold bytesB; rw [hr]; rfl
    have e2 : errB b = 0 := by unfold errB; rw [hr]; rfl
    rw [e1, e2]
    have hwd := numsB_words hr ob
    have hln := (numsB_len hr).2
    have h8 := rightB_len hr
    have htog := (rightB_iff.1 hr).2.1
    rw [hr] at hR
    obtain ⟨t, es⟩ := b
    obtain ⟨t', q, n, c⟩ := h
    obtain ⟨k1, l1, r1⟩ := i
    simp only at k1 l1 r1 hn h8 htog
    subst k1
    have hob := ob.2
    simp only at hob
    have hRE := fun {W : World} (hb : Below w.heap.size w W) => r1.below hb
    have HN : Hid (numsB ⟨t', es⟩ = [t'] ++ es.flatMap numsEn) := by unfold Hid numsB; rfl
    obtain ⟨l, hl⟩ : ∃ l, l = numsB ⟨t', es⟩ := ⟨_, rfl⟩
    have HL : Hid (l = [t'] ++ es.flatMap numsEn) := hl.trans HN.out
    rw [← hl] at hwd hln ⊢
    have hL := fun {W : World} {q c} (r : Reads .u64 W q c l) => Leb.nums_any q l.length c l rfl (by omega) hwd W r
    obtain ⟨i0, hi, hz0, hz1', hz2⟩ := info_u64
    clear e1 e2 hl hr r1 HN ob
    go_enter Try.func14, Try.ntmps14
    go_wp2_with (first
      | ((fail_if_success (have _ := hX1)); (refine at_box_bk _ _ (by rfl) (by rfl) (by rfl) ?_); intro V1 hX1 hB1 hz1)
      | ((fail_if_success (have _ := hX2)); (have _ := hX1); (refine at_load_bk _ _ _ (by rfl) (by rfl) hX1 (by rfl) ?_))
      | ((fail_if_success (have _ := hX2)); (with_reducible refine (hR hB1).mono ?_); rintro e w2 ⟨rfl, hB2⟩; have hX2 := hX1.below hB2; have hB12 := bnext hB1 hB2; have c2 := cells_bk hX2; have c3 := cells_bk (hX2.alloc (.cells #[.int .u64 t'] 22)); simp only at c2 c3))
    have hown0 := lit_own (k := .u64) (w := w2) (B := w2.heap.size) (e := 22) #[.int .u64 t'] [t'] 1 rfl rfl (by simp) (Nat.le_refl _)
    have hBa := bnew w2 (.cells #[.int .u64 t'] 22)
    clear c2 c3 hX2 hX1 hR
    go_loopw [4, 16] (fun u j wr => ∃ k : Nat, k ≤ n ∧ j = .int .i64 k ∧ wr.ownsRow w2.heap.size 22 1 u ([t'] ++ (es.take k).flatMap numsEn).length (([t'] ++ (es.take k).flatMap numsEn).map (Value.int .u64)) ∧ Below w2.heap.size w2 wr) (fun _ j _ => n - (intOf j).toNat)
    case atStart => exact ⟨0, Nat.zero_le _, rfl, by simpa using hown0, hBa⟩
    case round =>
      obtain ⟨k, hk, rfl, hown, hnx⟩ := hrel
      clear hown0 hBa
      by_cases hlt : k < n
      · have hlt3 : (k : Int) < (n : Int) := by omega
        obtain ⟨x, hx⟩ : ∃ x, es[k]? = some x := ⟨_, List.getElem?_eq_getElem (by omega)⟩
        have hok := (hob x (List.mem_of_getElem? hx)).1
        have hrx := htog.2.1 x.p (List.mem_map_of_mem (List.mem_of_getElem? hx))
        obtain ⟨b, o, rfl, hb, hc⟩ := ent_at (hRE (bnext hB12 hnx)) hx
        have hnum := fun W => policy_Nums x.p hok W
        have e1 : numsP x.p = numsL x.p := by unfold numsP; rw [hrx]; rfl
        rw [e1] at hnum
        have HT : Hid ([t'] ++ (es.take (k + 1)).flatMap numsEn = ([t'] ++ (es.take k).flatMap numsEn) ++ numsL x.p ++ [x.g]) := nums_next hx
        have hlen : ([t'] ++ (es.take k).flatMap numsEn).length ≤ 200 := by
          rw [List.length_append, ents_len, List.length_take]
          simp
          omega
        have hl10 := Policy.nums_len x.p
        obtain ⟨ys, hys⟩ : ∃ ys, ys = [t'] ++ (es.take k).flatMap numsEn := ⟨_, rfl⟩
        obtain ⟨zs, hzs⟩ : ∃ zs, zs = numsL x.p := ⟨_, rfl⟩
        rw [← hys] at hown HT hlen
        rw [← hzs] at hnum hl10 HT
        clear hx hys e1 hzs hrx hok
        go_wp2_with (first
          | ((fail_if_success (have _ := hZ1)); (refine at_load_ren _ _ _ _ (by rfl) (by rfl) hc (by rfl) ?_))
          | ((fail_if_success (have _ := hZ1)); (refine at_alloc_en (by rfl) (by rfl) ?_); intro U1 hZ1 hC1 hy1)
          | ((fail_if_success (have _ := hZ2)); (have _ := hZ1); (refine at_store_en _ _ _ _ _ (by rfl) (by rfl) (by rfl) hZ1 rfl (by rfl) ?_); intro U2 hZ2 hg2 hy2; have hC2 := hC1.grown hg2 hC1.size (by simp); have hp2 := pol_in hZ2)
          | ((fail_if_success (have _ := hB6)); (have _ := hZ2); (refine at_load_pr _ _ _ _ (by rfl) (by rfl) hp2 (by rfl) ?_))
          | ((fail_if_success (have _ := hB6)); (have _ := hZ2); (with_reducible refine (hnum _).mono ?_); rintro e w6 ⟨q6, c6, rfl, r6, hB6, -⟩; have hB26 := bnext hC2 hB6; have hZ6 := hZ2.below hB6)
          | (at_builtin; (fail_if_success (have _ := hown7)); (have _ := hB6); refine wpList_append_reads _ rfl _ _ 65 rfl w2.heap.size 22 i0 (.int .u64 0) 8 .u64 Try.underlying65 hi hz0 hz1' hz2 rfl u4 ys.length (ys.map (Value.int .u64)) rfl (own_below hown hB26) q6 10 c6 zs rfl hl10 r6 ?c3 ?c4 ?c5 ?_))
        case c3 => unfold maxLen; omega
        case c4 => omega
        case c5 => have := hnx.size; have := hB26.size; omega
        · intro v' w7 hown7 hgrow
          have RR := grew0 (zs := zs) (Nat.le_refl _) (bnext hnx hB26) (own_below hown hB26) hown7 hgrow
          have hZ7 := hZ6.kept hgrow (by
            intro q
            rcases hown.2 with ⟨rfl, _⟩ | ⟨g', cap, cur, rfl, _, hgg, _⟩
            · cases q
            · simp only [Value.ownBlock, Option.some.injEq] at q
              have := (Array.getElem?_eq_some_iff.1 hgg).1
              omega)
          have c7 := cells14 hZ7
          have c7' := cells14 (hZ7.alloc (.cells #[.int .u64 x.g] 22))
          obtain ⟨R1, R2⟩ := RR
          have hlen7 : (ys ++ zs).length ≤ 300 := by rw [List.length_append, hl10]; omega
          obtain ⟨xs, hxs⟩ : ∃ xs, xs = ys ++ zs := ⟨_, rfl⟩
          rw [← hxs] at R1 HT hlen7
          clear hown hown7 hgrow hxs hZ2 hZ6 hp2
          go_wp2_with (at_builtin; refine wpList_append_own _ rfl _ _ 65 rfl w2.heap.size 22 i0 (.int .u64 0) 1 8 Try.underlying65 hi hz0 hz1' hz2 rfl (by decide) _ _ _ rfl (R1.alloc _) ⟨w7.heap.size, 0, none⟩ 1 1 [.int .u64 x.g] rfl rfl one_cell one_one ?c3 ?c4 ?c5 ?_)
          case c3 => unfold maxLen; omega
          case c4 => omega
          case c5 => have := R2.size; simp; omega
          · intro v8 w8 hown8 hg8 _
            have RR := grew (zs := [x.g]) (Nat.le_refl _) R2 R1 hown8 hg8
            rw [← HT.out] at RR
            clear R1 hown8 hg8
            go_wp2
            go_roundw
            case rel => exact ⟨k + 1, by omega, by go_num, RR.1, RR.2⟩
            case measure => simp [intOf]; omega
      · obtain rfl : k = n := by omega
        have hdt : es.take k = es := List.take_of_length_le (by omega)
        rw [hdt, ← HL.out] at hown
        obtain ⟨-, q3, c3, hv, hrd⟩ := own_reads hown
        subst hv
        clear hown hdt hlt
        go_wp2_with (first
          | ((with_reducible refine (hL hrd).mono ?_); rintro e w4 ⟨q4, c4, rfl, r4, hB4⟩))
        go_ret2
        exact ⟨q4, c4, rfl, r4, bnext hB12 (bnext hnx hB4)⟩
end Go.Proofs.Ytnaofcggdjbocaa.Book
