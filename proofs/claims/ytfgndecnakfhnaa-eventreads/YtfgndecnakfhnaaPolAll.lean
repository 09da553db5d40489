/-
  Policies together: All.
-/
import Derived.Test.YtfgndecnakfhnaaPolKeys
import Derived.Test.YtfgndecnakfhnaaPolRight
namespace Go.Proofs.Ytfgndecnakfhnaa.Policy
open Go.RowKit Go.Proofs.Ytfgndecnakfhnaa.Mem Go.Proofs.Ytfgndecnakfhnaa.Addr
set_option maxRecDepth 100000

/-- One of a row of them. -/
theorem row_at {w : World} {q : Option Addr} {c k : Nat} {xs : List Po} {x : Po} (r : RK pl w q c xs) (hx : xs[k]? = some x) : ∃ b o, q = some ⟨b, o, none⟩ ∧ b < w.heap.size ∧ ∀ j v, (pl x)[j]? = some v → w.cell? ⟨b, o + k * 13 + j, none⟩ = some v := r.at pl_len hx
set_option maxHeartbeats 4000000 in
theorem policy_All (q : Option Addr) (n c : Nat) (xs : List Po) (hl : xs.length = n) (hn : n ≤ 1000) (w : World) (r : RK pl w q c xs) (ho : ∀ p ∈ xs, PoOk p) :
    Calls Try.prog 45 #[.slice q n c] w fun e w' => e = .returned (.int .i64 (allE xs)) ∧ Below w.heap.size w w' := by
  by_cases h8 : 8 < n
  · have hno : allE xs = 111 := by
      unfold allE allB
      rw [decide_eq_false (by omega)]
      rfl
    have h8i : (8 : Int) < (n : Int) := by omega
    rw [hno]
    go_enter Try.func45, Try.ntmps45
    go_wp2
    go_ret
    exact ⟨rfl, Below.refl _ _⟩
  · have h8i : decide ((8 : Int) < (n : Int)) = false := decide_eq_false (by omega)
    obtain ⟨B, hB⟩ : ∃ B, walkB 0 [] xs = B := ⟨_, rfl⟩
    have hall : allE xs = if B = true then 0 else 111 := by
      unfold allE allB
      rw [decide_eq_true (by omega), hB, Bool.true_and]
    rw [hall]
    replace hB : Hid (walkB 0 [] (xs.drop 0) = B) := by unfold Hid; simpa using hB
    clear hall
    have hmm := @run_makeMap Try.prog
    have hS0 := seen_nil w
    go_enter Try.func45, Try.ntmps45
    go_wp2
    have hB0 := bnew w (.map #[] 0)
    generalize hW1 : w.alloc (.map #[] 0) = w1 at *
    have r1 := r.below hB0
    generalize hG : w.heap.size = G at *
    have hBG : Below G w1 w1 := Below.refl _ _
    clear hmm h8i r hW1
    go_loopw [3, 15] (fun v3 i wr => ∃ (k : Nat) (last : Int) (seen : List (Nat × Int)), k ≤ n ∧ v3 = .int .i64 last ∧ i = .int .i64 k ∧ Below G w wr ∧ RK pl wr q c xs ∧ Seen wr G seen ∧ Hid (seen.length = k) ∧ Hid (walkB last seen (xs.drop k) = B)) (fun _ i _ => n - (intOf i).toNat)
    case atStart => exact ⟨0, 0, [], by omega, rfl, rfl, hB0, r1, hS0, rfl, hB⟩
    case round =>
      obtain ⟨k, last, seen, hk, rfl, rfl, hBr, rr, hS, HL, HW⟩ := hrel
      clear hB0 r1 hS0 hBG
      by_cases hlt : k < n
      · have hlt2 : decide ((k : Int) < (n : Int)) = true := decide_eq_true (by omega)
        have hlt3 : (k : Int) < (n : Int) := by omega
        obtain ⟨x, hx⟩ : ∃ x, xs[k]? = some x := ⟨_, List.getElem?_eq_getElem (by omega)⟩
        have hok := ho x (List.mem_of_getElem? hx)
        obtain ⟨b, o, rfl, hb, hc⟩ := row_at rr hx
        have hr := fun W => policy_Right x hok W
        have hstep : Hid ((stepB last seen x && walkB x.s (kof x :: seen) (xs.drop (k + 1))) = B) := by
          have := HW.out
          rw [List.drop_eq_getElem_cons (by omega), show xs[k] = x from by rw [List.getElem?_eq_getElem (by omega)] at hx; exact Option.some.inj hx] at this
          exact this
        have hlen := HL.out
        clear HW hx
        obtain ⟨F, hF⟩ : ∃ F, decide (kof x ∈ seen) = F := ⟨_, rfl⟩
        obtain ⟨R, hR⟩ : ∃ R, rightP x = R := ⟨_, rfl⟩
        have hST : Hid (stepB last seen x = (R && !decide (x.s ≤ last) && !F)) := by unfold Hid stepB; rw [hR, hF]
        rw [hR] at hr
        have hk2 : NOk (kof x) := ⟨hok.2.1, hok.2.2.1⟩
        have hlk := fun {W : World} (h : Seen W G seen) => seen_look h hk2
        rw [hF] at hlk
        have hsto := fun {W : World} (h : Seen W G seen) => seen_store h hk2 (by omega)
        simp only [kof, net] at hlk hsto
        clear hF hR hok hk2
        obtain ⟨s, N, bb, x0, x1, x2, x3, x4, x5, x6⟩ := x
        simp only at hlk hsto hST
        cases R with
        | false =>
          obtain rfl : B = false := by rw [← hstep.out, hST.out]; rfl
          go_wp2_with (first
            | ((fail_if_success (have _ := hX1)); (refine at_load_pr _ _ _ _ (by rfl) (by rfl) hc (by rfl) ?_))
            | ((fail_if_success (have _ := hX1)); (refine at_alloc_po (by rfl) (by rfl) ?_); intro V1 hX1 hB1 hz1)
            | ((fail_if_success (have _ := hX2)); (have _ := hX1); (refine at_store_po _ _ _ _ _ (by rfl) (by rfl) (by rfl) hX1 rfl (by rfl) ?_); intro V2 hX2 hg2 hz2; have hB2 := hB1.grown hg2 hB1.size (by simp); have hkk2 := cells13 hX2; have hlk2 := hlk (hS.below hB2); have hX3 := hX2.alloc (.cells #[] 97); have hB3 := bnext hB2 (bnew V2 (.cells #[] 97)))
            | ((fail_if_success (have _ := hX5)); (have _ := hX3); (refine at_load_po _ _ _ (by rfl) (by rfl) hX3 (by rfl) ?_))
            | ((with_reducible refine (hr _).mono ?_); rintro e w5 ⟨rfl, hB5⟩; have hX5 := hX3.below hB5; have hkk5 := cells13 hX5; have hB35 := bnext hB3 hB5))
          go_ret
          exact ⟨rfl, hBr.trans (hB35.mono (by rw [← hG]; exact hBr.size))⟩
        | true =>
          by_cases hle : s ≤ last
          · have hleb : decide (s ≤ last) = true := decide_eq_true hle
            obtain rfl : B = false := by rw [← hstep.out, hST.out, hleb]; rfl
            go_wp2_with (first
              | ((fail_if_success (have _ := hX1)); (refine at_load_pr _ _ _ _ (by rfl) (by rfl) hc (by rfl) ?_))
              | ((fail_if_success (have _ := hX1)); (refine at_alloc_po (by rfl) (by rfl) ?_); intro V1 hX1 hB1 hz1)
              | ((fail_if_success (have _ := hX2)); (have _ := hX1); (refine at_store_po _ _ _ _ _ (by rfl) (by rfl) (by rfl) hX1 rfl (by rfl) ?_); intro V2 hX2 hg2 hz2; have hB2 := hB1.grown hg2 hB1.size (by simp); have hkk2 := cells13 hX2; have hlk2 := hlk (hS.below hB2); have hX3 := hX2.alloc (.cells #[] 97); have hB3 := bnext hB2 (bnew V2 (.cells #[] 97)))
              | ((fail_if_success (have _ := hX5)); (have _ := hX3); (refine at_load_po _ _ _ (by rfl) (by rfl) hX3 (by rfl) ?_))
              | ((with_reducible refine (hr _).mono ?_); rintro e w5 ⟨rfl, hB5⟩; have hX5 := hX3.below hB5; have hkk5 := cells13 hX5; have hB35 := bnext hB3 hB5))
            go_ret
            exact ⟨rfl, hBr.trans (hB35.mono (by rw [← hG]; exact hBr.size))⟩
          · have hleb : decide (s ≤ last) = false := decide_eq_false hle
            cases F with
            | true =>
              obtain rfl : B = false := by rw [← hstep.out, hST.out, hleb]; rfl
              go_wp2_with (first
                | ((fail_if_success (have _ := hX1)); (refine at_load_pr _ _ _ _ (by rfl) (by rfl) hc (by rfl) ?_))
                | ((fail_if_success (have _ := hX1)); (refine at_alloc_po (by rfl) (by rfl) ?_); intro V1 hX1 hB1 hz1)
                | ((fail_if_success (have _ := hX2)); (have _ := hX1); (refine at_store_po _ _ _ _ _ (by rfl) (by rfl) (by rfl) hX1 rfl (by rfl) ?_); intro V2 hX2 hg2 hz2; have hB2 := hB1.grown hg2 hB1.size (by simp); have hkk2 := cells13 hX2; have hlk2 := hlk (hS.below hB2); have hX3 := hX2.alloc (.cells #[] 97); have hB3 := bnext hB2 (bnew V2 (.cells #[] 97)))
                | ((fail_if_success (have _ := hX5)); (have _ := hX3); (refine at_load_po _ _ _ (by rfl) (by rfl) hX3 (by rfl) ?_))
                | ((with_reducible refine (hr _).mono ?_); rintro e w5 ⟨rfl, hB5⟩; have hX5 := hX3.below hB5; have hkk5 := cells13 hX5; have hB35 := bnext hB3 hB5))
              go_ret
              exact ⟨rfl, hBr.trans (hB35.mono (by rw [← hG]; exact hBr.size))⟩
            | false =>
              have hW2 : Hid (walkB s (kof ⟨s, N, bb, x0, x1, x2, x3, x4, x5, x6⟩ :: seen) (xs.drop (k + 1)) = B) := by
                have := hstep.out
                rw [hST.out, hleb] at this
                exact this
              have hXne : some wr.heap.size ≠ some G := by have := hS.lt; simp; omega
              go_wp2_with (first
                | ((fail_if_success (have _ := hX1)); (refine at_load_pr _ _ _ _ (by rfl) (by rfl) hc (by rfl) ?_))
                | ((fail_if_success (have _ := hX1)); (refine at_alloc_po (by rfl) (by rfl) ?_); intro V1 hX1 hB1 hz1)
                | ((fail_if_success (have _ := hX2)); (have _ := hX1); (refine at_store_po _ _ _ _ _ (by rfl) (by rfl) (by rfl) hX1 rfl (by rfl) ?_); intro V2 hX2 hg2 hz2; have hB2 := hB1.grown hg2 hB1.size (by simp); have hkk2 := cells13 hX2; have hlk2 := hlk (hS.below hB2); have hX3 := hX2.alloc (.cells #[] 97); have hB3 := bnext hB2 (bnew V2 (.cells #[] 97)))
                | ((fail_if_success (have _ := hX5)); (have _ := hX3); (refine at_load_po _ _ _ (by rfl) (by rfl) hX3 (by rfl) ?_))
                | ((with_reducible refine (hr _).mono ?_); rintro e w5 ⟨rfl, hB5⟩; have hX5 := hX3.below hB5; have hkk5 := cells13 hX5; have hB35 := bnext hB3 hB5; have hS5 := hS.below hB35; obtain ⟨w6, hst6, hS6, hg6⟩ := hsto hS5; have hX6 := hX5.kept hg6 hXne; have hkk6 := cells13 hX6))
              obtain ⟨es, ck, hmap⟩ := hS5.map
              have hBr6 := (hBr.trans (hB35.mono (by rw [← hG]; exact hBr.size))).grown hg6 (by have := hBr.size; have := hB35.size; omega) (fun j hj => by simp at hj; omega)
              have rr6 := (rr.below hB35).turn pl_len (by decide) hmap hg6
              go_roundw
              case rel => exact ⟨k + 1, s, _ :: seen, by omega, rfl, by go_num, hBr6, rr6, hS6, by unfold Hid; simp [hlen], hW2.out⟩
              case measure => simp [intOf]; omega
      · obtain rfl : k = n := by omega
        have hd : xs.drop k = [] := List.drop_eq_nil_of_le (by omega)
        obtain rfl : B = true := by rw [← HW.out, hd]; rfl
        have hlt2 : decide ((k : Int) < (k : Int)) = false := decide_eq_false (by omega)
        go_wp2
        go_ret
        exact ⟨rfl, hBr⟩
end Go.Proofs.Ytfgndecnakfhnaa.Policy
