/-
  The walk of BookSums. (Written by gen_bksums.py.)
-/
import Derived.Test.YtnaofcggdjbocaaBkAlive
import Derived.Test.YtnaofcggdjbocaaBkOne
import Derived.Test.YtnaofcggdjbocaaBkSame
import Derived.Test.YtnaofcggdjbocaaBkOkPlain
import Derived.Test.YtnaofcggdjbocaaBkSumPlain
import Derived.Deep.CutRange
namespace Go.Proofs.Ytnaofcggdjbocaa.Book
open Go.RowKit Go.Proofs.Ytnaofcggdjbocaa.Mem Go.Proofs.Ytnaofcggdjbocaa.Policy Go.Proofs.Ytnaofcggdjbocaa.Event Go.Proofs.Ytnaofcggdjbocaa.Addr
set_option maxRecDepth 100000

section
variable {o : Oper} {a : Act} {w : World} {ops : Array Oper} {rest : List Oper} {Q : Exit → Act → World → Prop}
theorem at_load_rev (x : Operand) (b k : Nat) (p : Eh) (ho : o.op = .load 32 x) (hx : a.eval x = .pointer (some ⟨b, k, none⟩)) (hc : ∀ j v, (el p)[j]? = some v → w.cell? ⟨b, k + j, none⟩ = some v) (hw : Region.wanted o (yielded ops a.tmps) = true) (h : wpList Try.prog ops Q rest (a.put o.dst (ev p)) w) : wpList Try.prog ops Q (o :: rest) a w :=
  BigFrame.wpList_want hw fun _ hK => wp_load_mid _ x ho b k hx (el p) _ hc (by rfl) rfl size_ev (hK _ _ h)
end
theorem evs_at {w : World} {q : Option Addr} {c k : Nat} {xs : List (Eh × Ev)} {x : Eh × Ev} (r : RK hl w q c xs) (hx : xs[k]? = some x) : ∃ b o, q = some ⟨b, o, none⟩ ∧ b < w.heap.size ∧ ∀ j v, (el x.1)[j]? = some v → w.cell? ⟨b, o + k * 6 + j, none⟩ = some v := r.at hl_len hx
theorem same_me (a : Bk) : sameB a a = true := sameB_iff.2 rfl
set_option maxHeartbeats 16000000 in
theorem sums_any (p : Option Addr) (n c : Nat) (xs : List (Eh × Ev)) (hn : xs.length = n) (w : World) (r : RK hl w p c xs) (ho : ∀ a ∈ xs, HOk w a) :
    Calls Try.prog 8 #[.slice p n c] w fun e w' => e = .returned (.bool true) ∧ Below w.heap.size w w' := by
  have ha := fun W => alive_any W
  have hcap := r.1
  by_cases hbig : 60 < n
  · have hbi : (60 : Int) < (n : Int) := by omega
    go_enter Try.func8, Try.ntmps8
    go_wp2_with (first
      | ((fail_if_success (have _ := hB1)); (with_reducible refine (ha _).mono ?_); rintro e w1 ⟨rfl, hB1⟩; have hC1 := hB1))
    go_ret
    exact ⟨rfl, hC1⟩
  · have hbi : decide ((60 : Int) < (n : Int)) = false := decide_eq_false (by omega)
    have hn60 : n ≤ 60 := by omega
    clear hbig
    go_enter Try.func8, Try.ntmps8
    go_wp2_with (first
      | ((fail_if_success (have _ := hB1)); (with_reducible refine (ha _).mono ?_); rintro e w1 ⟨rfl, hB1⟩; have hC1 := hB1)
      | ((fail_if_success (have _ := hB2)); (have _ := hB1); (refine at_build_bperiod _ 1 (by rfl) (by rfl) (by rfl) ?_))
      | ((fail_if_success (have _ := hB2)); (have _ := hB1); (refine at_alloc_bk (by rfl) (by rfl) ?_); intro V2 hXb2 hB2 hz2)
      | ((fail_if_success (have _ := hB3)); (have _ := hB2); (refine at_store_bk _ _ _ _ _ (by rfl) (by rfl) (by rfl) hXb2 rfl (by rfl) ?_); intro V3 hXb3 hg3 hz3; have hB3 := hB2.grown hg3 hB2.size (by simp); have hC3 := bnext hC1 hB3)
      | ((fail_if_success (have _ := hB4)); (have _ := hB3); (refine at_load_bk _ _ _ (by rfl) (by rfl) hXb3 (by rfl) ?_)))
    go_loopw [20] (fun j wr => ∃ (k : Nat) (t0 : Int) (q0 : Option Addr) (n0 c0 : Nat) (es : List En), k ≤ n ∧ j = .int .i64 k ∧ Below w.heap.size w wr ∧ Blk wr w1.heap.size 25 (bl ⟨t0, q0, n0, c0⟩) ∧ IsB wr ⟨t0, q0, n0, c0⟩ ⟨t0, es⟩ ∧ Hid (rightB ⟨t0, es⟩ = true) ∧ Hid (∀ e ∈ es, EnOk e)) (fun j _ => n - (intOf j).toNat)
    case atStart => exact ⟨0, 1, none, 0, 0, [], Nat.zero_le _, rfl, hC3, hXb3, ⟨rfl, rfl, RK.nil _ _⟩, (by unfold Hid; decide +kernel), (by unfold Hid; simp)⟩
    case round =>
      have hw1 := hB1.size
      clear hXb3 hC3
      obtain ⟨k, t0, q0, n0, c0, es, hk, rfl, hC0, hX0, i0, HR, HO⟩ := hrel
      have n8 : n0 ≤ 8 := by have h8 := rightB_len HR.out; have := i0.2.1; simp only at this h8; omega
      have tr : 1 ≤ t0 ∧ t0 ≤ 281474976710656 := (rightB_iff.1 HR.out).1
      by_cases hlt : k < n
      · have hlt3 : (k : Int) < (n : Int) := by omega
        obtain ⟨⟨hh, e⟩, hx⟩ : ∃ x, xs[k]? = some x := ⟨_, List.getElem?_eq_getElem (by omega)⟩
        obtain ⟨g0, o0, rfl, hgb, hc⟩ := evs_at (r.below hC0) hx
        obtain ⟨ie, oe⟩ := ho _ (List.mem_of_getElem? hx)
        simp only at ie oe hc
        clear hx
        have hG := fun W => great_ev hh W
        cases hGr : greatN 0 hh.pn hh.dn with
        | true =>
          rw [hGr] at hG
          go_wp2_with (first
            | ((fail_if_success (have _ := hB11)); (refine at_load_rev _ _ _ hh (by rfl) (by rfl) hc (by rfl) ?_))
            | ((fail_if_success (have _ := hB11)); (refine at_alloc_ev (by rfl) (by rfl) ?_); intro V11 hXe11 hB11 hz11)
            | ((fail_if_success (have _ := hB12)); (have _ := hB11); (refine at_store_ev _ _ _ _ _ (by rfl) (by rfl) (by rfl) hXe11 rfl (by rfl) ?_); intro V12 hXe12 hg12 hz12; have hB12 := hB11.grown hg12 hB11.size (by simp); have hXb12 := hX0.below hB12; have hFi12 := i0.below hB12; have hC12 := bnext hC0 hB12)
            | ((fail_if_success (have _ := hB13)); (have _ := hB12); (refine at_build_bzero (by rfl) (by rfl) ?_))
            | ((fail_if_success (have _ := hB13)); (have _ := hB12); (refine at_load_bk _ _ _ (by rfl) (by rfl) hXb12 (by rfl) ?_))
            | ((fail_if_success (have _ := hB13)); (have _ := hB12); (refine at_load_ev _ _ _ (by rfl) (by rfl) hXe12 (by rfl) ?_))
            | ((fail_if_success (have _ := hB13)); (have _ := hB12); (with_reducible refine (hG _).mono ?_); rintro e w13 ⟨rfl, hB13⟩; have hXb13 := hXb12.below hB13; have hXe13 := hXe12.below hB13; have hFi13 := hFi12.below hB13; have hC13 := bnext hC12 hB13)
            | ((fail_if_success (have _ := hB14)); (have _ := hB13); (refine at_load_bk _ _ _ (by rfl) (by rfl) hXb13 (by rfl) ?_))
            | ((fail_if_success (have _ := hB14)); (have _ := hB13); (refine at_load_ev _ _ _ (by rfl) (by rfl) hXe13 (by rfl) ?_)))
          go_ret
          exact ⟨rfl, hC13⟩
        | false =>
          rw [hGr] at hG
          obtain ⟨-, np, nd⟩ := great_no hGr
          clear hGr
          have hA := fun {W : World} (hb' : Below w.heap.size w W) (i : IsB W ⟨t0, q0, n0, c0⟩ ⟨t0, es⟩) => book_Apply ⟨t0, q0, n0, c0⟩ ⟨t0, es⟩ hh e W i (ie.below hb') HO.out oe.2.2.1 (by simp only; omega) (by omega) (by omega)
          cases hap : applyO ⟨t0, es⟩ e with
          | none =>
            rw [(app_none hap).1, (app_none hap).2] at hA
            have hSm := fun {W : World} (h2 : Bh) (i1 : IsB W ⟨t0, q0, n0, c0⟩ ⟨t0, es⟩) (i2 : IsB W h2 ⟨t0, es⟩) => book_Same ⟨t0, q0, n0, c0⟩ h2 ⟨t0, es⟩ ⟨t0, es⟩ W i1 i2 HO.out HO.out (by simp only; omega)
            simp only [same_me] at hSm
            clear hap
            go_wp2_with (first
              | ((fail_if_success (have _ := hB11)); (refine at_load_rev _ _ _ hh (by rfl) (by rfl) hc (by rfl) ?_))
              | ((fail_if_success (have _ := hB11)); (refine at_alloc_ev (by rfl) (by rfl) ?_); intro V11 hXe11 hB11 hz11)
              | ((fail_if_success (have _ := hB12)); (have _ := hB11); (refine at_store_ev _ _ _ _ _ (by rfl) (by rfl) (by rfl) hXe11 rfl (by rfl) ?_); intro V12 hXe12 hg12 hz12; have hB12 := hB11.grown hg12 hB11.size (by simp); have hXb12 := hX0.below hB12; have hFi12 := i0.below hB12; have hC12 := bnext hC0 hB12)
              | ((fail_if_success (have _ := hB13)); (have _ := hB12); (refine at_build_bzero (by rfl) (by rfl) ?_))
              | ((fail_if_success (have _ := hB13)); (have _ := hB12); (refine at_load_bk _ _ _ (by rfl) (by rfl) hXb12 (by rfl) ?_))
              | ((fail_if_success (have _ := hB13)); (have _ := hB12); (refine at_load_ev _ _ _ (by rfl) (by rfl) hXe12 (by rfl) ?_))
              | ((fail_if_success (have _ := hB13)); (have _ := hB12); (with_reducible refine (hG _).mono ?_); rintro e w13 ⟨rfl, hB13⟩; have hXb13 := hXb12.below hB13; have hXe13 := hXe12.below hB13; have hFi13 := hFi12.below hB13; have hC13 := bnext hC12 hB13)
              | ((fail_if_success (have _ := hB14)); (have _ := hB13); (refine at_load_bk _ _ _ (by rfl) (by rfl) hXb13 (by rfl) ?_))
              | ((fail_if_success (have _ := hB14)); (have _ := hB13); (refine at_load_ev _ _ _ (by rfl) (by rfl) hXe13 (by rfl) ?_))
              | ((fail_if_success (have _ := hB14)); (have _ := hB13); (with_reducible refine (hA hC13 hFi13).mono ?_); rintro e w14 ⟨h14, rfl, i14, -, hB14⟩; have hXb14 := hXb13.below hB14; have hXe14 := hXe13.below hB14; have hFi14 := hFi13.below hB14; have hC14 := bnext hC13 hB14; have hFc14 := i14)
              | ((fail_if_success (have _ := hB15)); (have _ := hB14); (refine at_alloc_bk (by rfl) (by rfl) ?_); intro V15 hXc15 hB15 hz15)
              | ((fail_if_success (have _ := hB16)); (have _ := hB15); (refine at_store_bk _ _ _ _ _ (by rfl) (by rfl) (by rfl) hXc15 rfl (by rfl) ?_); intro V16 hXc16 hg16 hz16; have hB16 := hB15.grown hg16 hB15.size (by simp); have hXb16 := hXb14.below hB16; have hXe16 := hXe14.below hB16; have hFi16 := hFi14.below hB16; have hFc16 := hFc14.below hB16; have hC16 := bnext hC14 hB16)
              | ((fail_if_success (have _ := hB17)); (have _ := hB16); (refine at_load_bk _ _ _ (by rfl) (by rfl) hXb16 (by rfl) ?_))
              | ((fail_if_success (have _ := hB17)); (have _ := hB16); (refine at_load_ev _ _ _ (by rfl) (by rfl) hXe16 (by rfl) ?_))
              | ((fail_if_success (have _ := hB17)); (have _ := hB16); (refine at_load_bk _ _ _ (by rfl) (by rfl) hXc16 (by rfl) ?_))
              | ((fail_if_success (have _ := hB17)); (have _ := hB16); (with_reducible refine (hSm _ hFi16 hFc16).mono ?_); rintro e w17 ⟨rfl, hB17⟩; have hXb17 := hXb16.below hB17; have hXe17 := hXe16.below hB17; have hXc17 := hXc16.below hB17; have hFi17 := hFi16.below hB17; have hFc17 := hFc16.below hB17; have hC17 := bnext hC16 hB17)
              | ((fail_if_success (have _ := hB18)); (have _ := hB17); (refine at_load_bk _ _ _ (by rfl) (by rfl) hXb17 (by rfl) ?_))
              | ((fail_if_success (have _ := hB18)); (have _ := hB17); (refine at_load_ev _ _ _ (by rfl) (by rfl) hXe17 (by rfl) ?_))
              | ((fail_if_success (have _ := hB18)); (have _ := hB17); (refine at_load_bk _ _ _ (by rfl) (by rfl) hXc17 (by rfl) ?_)))
            go_roundw
            case rel => exact ⟨k + 1, t0, q0, n0, c0, es, by omega, by go_num, hC17, hXb17, hFi17, HR, HO⟩
            case measure => simp [intOf]; omega
          | some cb =>
            obtain ⟨ct, ces⟩ := cb
            rw [(app_some hap).1, (app_some hap).2] at hA
            have hcr : rightB ⟨ct, ces⟩ = true := apply_right hap
            have hco : ∀ x ∈ ces, EnOk x := (apply_okB HO.out oe.2.2.1 oe.2.2.2.2.1 hap).1
            obtain ⟨hct, HF⟩ := sums hap
            simp only at hct HF
            have c8 : ces.length ≤ 8 := rightB_len hcr
            have hRt := fun {W : World} (h2 : Bh) (i2 : IsB W h2 ⟨ct, ces⟩) => book_Right h2 ⟨ct, ces⟩ W i2 hco (by have := i2.2.1; simp only at this; omega)
            rw [hcr] at hRt
            have d1 : decide (ct < t0) = false := decide_eq_false (by omega)
            have hwr : IntKind.u64.wrap (t0 + 1) = t0 + 1 := by rw [IntKind.wrap_u64]; omega
            have d2 : decide (t0 + 1 < ct) = false := decide_eq_false (by omega)
            have HCR : Hid (rightB ⟨ct, ces⟩ = true) := hcr
            have HCO : Hid (∀ x ∈ ces, EnOk x) := hco
            have HHF : Hid (∀ x ∈ ces, Fits ⟨t0, es⟩ ⟨ct, ces⟩ e x) := HF
            have HCT : Hid (ct = t0 ∨ ct = t0 + 1) := hct
            have HC8 : Hid (ces.length ≤ 8) := c8
            clear hap hcr hco HF hct c8 tr
            go_wp2_with (first
              | ((fail_if_success (have _ := hB11)); (refine at_load_rev _ _ _ hh (by rfl) (by rfl) hc (by rfl) ?_))
              | ((fail_if_success (have _ := hB11)); (refine at_alloc_ev (by rfl) (by rfl) ?_); intro V11 hXe11 hB11 hz11)
              | ((fail_if_success (have _ := hB12)); (have _ := hB11); (refine at_store_ev _ _ _ _ _ (by rfl) (by rfl) (by rfl) hXe11 rfl (by rfl) ?_); intro V12 hXe12 hg12 hz12; have hB12 := hB11.grown hg12 hB11.size (by simp); have hXb12 := hX0.below hB12; have hFi12 := i0.below hB12; have hC12 := bnext hC0 hB12)
              | ((fail_if_success (have _ := hB13)); (have _ := hB12); (refine at_build_bzero (by rfl) (by rfl) ?_))
              | ((fail_if_success (have _ := hB13)); (have _ := hB12); (refine at_load_bk _ _ _ (by rfl) (by rfl) hXb12 (by rfl) ?_))
              | ((fail_if_success (have _ := hB13)); (have _ := hB12); (refine at_load_ev _ _ _ (by rfl) (by rfl) hXe12 (by rfl) ?_))
              | ((fail_if_success (have _ := hB13)); (have _ := hB12); (with_reducible refine (hG _).mono ?_); rintro e w13 ⟨rfl, hB13⟩; have hXb13 := hXb12.below hB13; have hXe13 := hXe12.below hB13; have hFi13 := hFi12.below hB13; have hC13 := bnext hC12 hB13)
              | ((fail_if_success (have _ := hB14)); (have _ := hB13); (refine at_load_bk _ _ _ (by rfl) (by rfl) hXb13 (by rfl) ?_))
              | ((fail_if_success (have _ := hB14)); (have _ := hB13); (refine at_load_ev _ _ _ (by rfl) (by rfl) hXe13 (by rfl) ?_))
              | ((fail_if_success (have _ := hB14)); (have _ := hB13); (with_reducible refine (hA hC13 hFi13).mono ?_); rintro e w14 ⟨⟨t14, q14, n14, c14⟩, rfl, i14, f14, hB14⟩; have hXb14 := hXb13.below hB14; have hXe14 := hXe13.below hB14; have hFi14 := hFi13.below hB14; have hC14 := bnext hC13 hB14; have hFc14 := i14; obtain rfl : ct = t14 := i14.1.symm)
              | ((fail_if_success (have _ := hB15)); (have _ := hB14); (refine at_alloc_bk (by rfl) (by rfl) ?_); intro V15 hXc15 hB15 hz15)
              | ((fail_if_success (have _ := hB16)); (have _ := hB15); (refine at_store_bk _ _ _ _ _ (by rfl) (by rfl) (by rfl) hXc15 rfl (by rfl) ?_); intro V16 hXc16 hg16 hz16; have hB16 := hB15.grown hg16 hB15.size (by simp); have hXb16 := hXb14.below hB16; have hXe16 := hXe14.below hB16; have hFi16 := hFi14.below hB16; have hFc16 := hFc14.below hB16; have hC16 := bnext hC14 hB16)
              | ((fail_if_success (have _ := hB17)); (have _ := hB16); (refine at_load_bk _ _ _ (by rfl) (by rfl) hXb16 (by rfl) ?_))
              | ((fail_if_success (have _ := hB17)); (have _ := hB16); (refine at_load_ev _ _ _ (by rfl) (by rfl) hXe16 (by rfl) ?_))
              | ((fail_if_success (have _ := hB17)); (have _ := hB16); (refine at_load_bk _ _ _ (by rfl) (by rfl) hXc16 (by rfl) ?_))
              | ((fail_if_success (have _ := hB17)); (have _ := hB16); (with_reducible refine (hRt _ hFc16).mono ?_); rintro e w17 ⟨rfl, hB17⟩; have hXb17 := hXb16.below hB17; have hXe17 := hXe16.below hB17; have hXc17 := hXc16.below hB17; have hFi17 := hFi16.below hB17; have hFc17 := hFc16.below hB17; have hC17 := bnext hC16 hB17; have kb := cells_bk hXb17; have kc := cells_bk hXc17; simp only at kb kc)
              | ((fail_if_success (have _ := hB18)); (have _ := hB17); (refine at_load_bk _ _ _ (by rfl) (by rfl) hXb17 (by rfl) ?_))
              | ((fail_if_success (have _ := hB18)); (have _ := hB17); (refine at_load_ev _ _ _ (by rfl) (by rfl) hXe17 (by rfl) ?_))
              | ((fail_if_success (have _ := hB18)); (have _ := hB17); (refine at_load_bk _ _ _ (by rfl) (by rfl) hXc17 (by rfl) ?_)))
            have iC := hFc17
            have hcap4 := iC.2.2.1
            have l4 := iC.2.1
            simp only at hcap4 l4
            have hlc : n14 ≤ 8 := by have := HC8.out; omega
            have hfr : w1.heap.size < w13.heap.size := (hXb13).lt
            clear hB12
            have hFd := fun {W : World} (s : Int) (i : IsB W ⟨t0, q0, n0, c0⟩ ⟨t0, es⟩) => book_Find ⟨t0, q0, n0, c0⟩ ⟨t0, es⟩ s W i (by simp only; omega)
            simp only at hFd
            have HK : Hid (hh.k = e.k ∧ hh.s = e.s ∧ hh.g = e.g) := ⟨ie.1.1, ie.1.2.1, ie.1.2.2.1⟩
            go_loopw [60] (fun j wr => ∃ m : Nat, m ≤ n14 ∧ j = .int .i64 m ∧ Below w17.heap.size w17 wr) (fun j _ => n14 - (intOf j).toNat)
            case atStart => exact ⟨0, Nat.zero_le _, rfl, Below.refl _ _⟩
            case round =>
              obtain ⟨m, hm, rfl, hE⟩ := hrel
              clear kb kc
              have hXb := hXb17.below hE
              have hXc := hXc17.below hE
              have hXe := hXe17.below hE
              have hC := bnext hC17 hE
              have iB := hFi17.below hE
              have iC2 := iC.below hE
              clear hXb17 hXc17 hXe17 hC17 hFi17
              by_cases hmt : m < n14
              · have hmt3 : (m : Int) < (n14 : Int) := by omega
                obtain ⟨x, hx⟩ : ∃ x, ces[m]? = some x := ⟨_, List.getElem?_eq_getElem (by omega)⟩
                obtain ⟨g9, o9, rfl, hb9, hc9⟩ := ent_at iC2.2.2 hx
                have hFit := HHF.out x (List.mem_of_getElem? hx)
                unfold Fits at hFit
                simp only at hFit
                obtain ⟨F1, F2, F3, F4⟩ := hFit
                clear hx iC iC2 hA hG hRt hcap hcap4 HHF HCR HCO
                rw [← HK.out.1, ← HK.out.2.1, ← HK.out.2.2] at F4
                obtain ⟨fe, hfe⟩ : ∃ fe, findE es x.p.s = fe := ⟨_, rfl⟩
                obtain ⟨fb, hfb⟩ : ∃ fb, foundB es x.p.s = fb := ⟨_, rfl⟩
                have hFd2 := fun {W : World} (i : IsB W ⟨t0, q0, n0, c0⟩ ⟨t0, es⟩) => hFd x.p.s i
                rw [hfe, hfb] at hFd2
                have HFE : Hid (findE es x.p.s = fe) := hfe
                have HFB : Hid (foundB es x.p.s = fb) := hfb
                have HF1 : Hid (ct = t0 → ∀ y, look es x.p.s = some y → y.g ≤ x.g) := F1
                have HF2 : Hid (ct ≠ t0 → x.g = 0) := F2
                have HF3 : Hid (look es x.p.s = none → x.g = 0) := F3
                have HF4 : Hid (hh.k = 2 → hh.s = x.p.s → x.g ≤ (x.p.x4 : Int) ∧ x.g = hh.g) := F4
                clear hFd hfe hfb F1 F2 F3 F4
                go_upto_region 21 with (first
                  | ((fail_if_success (have _ := hB21)); (refine at_load_ren _ _ _ _ (by rfl) (by rfl) hc9 (by rfl) ?_))
                  | ((fail_if_success (have _ := hB21)); (refine at_alloc_en (by rfl) (by rfl) ?_); intro V21 hXx21 hB21 hz21)
                  | ((fail_if_success (have _ := hB22)); (have _ := hB21); (refine at_store_en _ _ _ _ _ (by rfl) (by rfl) (by rfl) hXx21 rfl (by rfl) ?_); intro V22 hXx22 hg22 hz22; have hB22 := hB21.grown hg22 hB21.size (by simp); have hXb22 := hXb.below hB22; have hXc22 := hXc.below hB22; have hXe22 := hXe.below hB22; have hFi22 := iB.below hB22; have hC22 := bnext hC hB22; have hE22 := bnext hE hB22; have kx := cells14 hXx22)
                  | ((fail_if_success (have _ := hB23)); (have _ := hB22); (refine at_load_bk _ _ _ (by rfl) (by rfl) hXb22 (by rfl) ?_))
                  | ((fail_if_success (have _ := hB23)); (have _ := hB22); (refine at_load_bk _ _ _ (by rfl) (by rfl) hXc22 (by rfl) ?_))
                  | ((fail_if_success (have _ := hB23)); (have _ := hB22); (refine at_load_ev _ _ _ (by rfl) (by rfl) hXe22 (by rfl) ?_))
                  | ((fail_if_success (have _ := hB23)); (have _ := hB22); (refine at_load_en _ _ _ (by rfl) (by rfl) hXx22 (by rfl) ?_))
                  | ((fail_if_success (have _ := hB23)); (have _ := hB22); (with_reducible refine (hFd2 hFi22).mono ?_); rintro e w23 ⟨rfl, hB23⟩; have hXb23 := hXb22.below hB23; have hXc23 := hXc22.below hB23; have hXe23 := hXe22.below hB23; have hXx23 := hXx22.below hB23; have hFi23 := hFi22.below hB23; have hC23 := bnext hC22 hB23; have hE23 := bnext hE22 hB23)
                  | ((fail_if_success (have _ := hB24)); (have _ := hB23); (refine at_alloc_en (by rfl) (by rfl) ?_); intro V24 hXy24 hB24 hz24)
                  | ((fail_if_success (have _ := hB25)); (have _ := hB24); (refine at_store_en _ _ _ _ _ (by rfl) (by rfl) (by rfl) hXy24 rfl (by rfl) ?_); intro V25 hXy25 hg25 hz25; have hB25 := hB24.grown hg25 hB24.size (by simp); have hXb25 := hXb23.below hB25; have hXc25 := hXc23.below hB25; have hXe25 := hXe23.below hB25; have hXx25 := hXx23.below hB25; have hFi25 := hFi23.below hB25; have hC25 := bnext hC23 hB25; have hE25 := bnext hE23 hB25; have kb := cells_bk hXb25; have kc := cells_bk hXc25; have ke := cells6 hXe25; have kx2 := cells14 hXx25; have ky := cells14 hXy25; simp only at kb kc; clear kx)
                  | ((fail_if_success (have _ := hB26)); (have _ := hB25); (refine at_load_bk _ _ _ (by rfl) (by rfl) hXb25 (by rfl) ?_))
                  | ((fail_if_success (have _ := hB26)); (have _ := hB25); (refine at_load_bk _ _ _ (by rfl) (by rfl) hXc25 (by rfl) ?_))
                  | ((fail_if_success (have _ := hB26)); (have _ := hB25); (refine at_load_ev _ _ _ (by rfl) (by rfl) hXe25 (by rfl) ?_))
                  | ((fail_if_success (have _ := hB26)); (have _ := hB25); (refine at_load_en _ _ _ (by rfl) (by rfl) hXx25 (by rfl) ?_))
                  | ((fail_if_success (have _ := hB26)); (have _ := hB25); (refine at_load_en _ _ _ (by rfl) (by rfl) hXy25 (by rfl) ?_)))
                go_cut [102] from 61 to 129 (fun v wc => v = .bool false ∧ wc = V25)
                case first =>
                  clear ke
                  rcases HCT.out with hct | hct
                  · subst hct
                    have p1 : (ct == ct) = true := by simp
                    have p2 : decide (ct < ct) = false := by simp
                    cases hlk : look es x.p.s with
                    | none =>
                      obtain rfl : fb = false := by rw [← HFB.out]; unfold foundB; rw [hlk]; rfl
                      have z2 : (x.g != 0) = false := by simp [HF3.out hlk]
                      have z3 : decide (x.g = 0) = true := decide_eq_true (HF3.out hlk)
                      clear hlk
                      go_wp2
                      go_meet
                      case rel => exact ⟨rfl, rfl⟩
                    | some y =>
                      obtain rfl : fb = true := by rw [← HFB.out]; unfold foundB; rw [hlk]; rfl
                      obtain rfl : fe = y := by rw [← HFE.out]; unfold findE; rw [hlk]; rfl
                      have z2 : decide (x.g < fe.g) = false := decide_eq_false (by have := HF1.out rfl fe hlk; omega)
                      clear hlk
                      go_wp2
                      go_meet
                      case rel => exact ⟨rfl, rfl⟩
                  · have hne : ct ≠ t0 := by omega
                    have p1 : (ct == t0) = false := by simp; omega
                    have p1' : decide (ct = t0) = false := decide_eq_false hne
                    have p2 : decide (t0 < ct) = true := decide_eq_true (by omega)
                    have z2 : (x.g != 0) = false := by simp [HF2.out hne]
                    have z3 : decide (x.g = 0) = true := decide_eq_true (HF2.out hne)
                    clear hct hne
                    go_wp2
                    go_meet
                    case rel => exact ⟨rfl, rfl⟩
                case rest =>
                  obtain ⟨rfl, rfl⟩ := hcut
                  clear kb kc ky
                  by_cases k2 : hh.k = 2
                  · have e2 : decide (hh.k = 2) = true := decide_eq_true k2
                    have e2' : (hh.k == 2) = true := by simp [k2]
                    by_cases k3 : hh.s = x.p.s
                    · have e3 : decide (hh.s = x.p.s) = true := decide_eq_true k3
                      have e3' : (hh.s == x.p.s) = true := by simp [k3]
                      have e4 : decide ((x.p.x4 : Int) < x.g) = false := decide_eq_false (by have := (HF4.out k2 k3).1; omega)
                      have e5 : (x.g != hh.g) = false := by simp [(HF4.out k2 k3).2]
                      have e5' : decide (x.g = hh.g) = true := decide_eq_true (HF4.out k2 k3).2
                      clear k2 k3
                      go_wp2
                      go_roundw
                      case rel => exact ⟨m + 1, by omega, by go_num, hE25⟩
                      case measure => simp [intOf]; omega
                    · have e3 : decide (hh.s = x.p.s) = false := decide_eq_false k3
                      have e3' : (hh.s == x.p.s) = false := by simp [k3]
                      clear k2 k3
                      go_wp2
                      go_roundw
                      case rel => exact ⟨m + 1, by omega, by go_num, hE25⟩
                      case measure => simp [intOf]; omega
                  · have e2 : decide (hh.k = 2) = false := decide_eq_false k2
                    have e2' : (hh.k == 2) = false := by simp [k2]
                    clear k2
                    go_wp2
                    go_roundw
                    case rel => exact ⟨m + 1, by omega, by go_num, hE25⟩
                    case measure => simp [intOf]; omega
              · obtain rfl : m = n14 := by omega
                clear hA hG hRt hcap hcap4 hFd
                go_wp2_with (first
                  | ((fail_if_success (have _ := hXz)); (refine at_load_bk _ _ _ (by rfl) (by rfl) hXc (by rfl) ?_))
                  | ((fail_if_success (have _ := hXz)); (refine at_store_bk _ _ _ _ _ (by rfl) (by rfl) (by rfl) hXb rfl (by rfl) ?_); intro W9 hXz hg9 hz9))
                go_roundw
                case rel => exact ⟨k + 1, ct, q14, m, c14, ces, by omega, by go_num, hC.grown hg9 hC.size (by simpa using hw1), hXz, isb_fresh iC2 hg9 f14 hfr, HCR, HCO⟩
                case measure => simp [intOf]; omega
      · obtain rfl : k = n := by omega
        go_wp2
        go_ret
        exact ⟨rfl, hC0⟩
end Go.Proofs.Ytnaofcggdjbocaa.Book
