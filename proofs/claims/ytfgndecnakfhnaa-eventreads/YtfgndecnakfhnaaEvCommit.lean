/-
  Which commits can be: apart, rightCommit.
-/
import Derived.Test.YtfgndecnakfhnaaEvSame
namespace Go.Proofs.Ytfgndecnakfhnaa.Event
open Go.RowKit Go.Proofs.Ytfgndecnakfhnaa.Mem Go.Proofs.Ytfgndecnakfhnaa.Policy
set_option maxRecDepth 100000

theorem event_apart (p : Option Addr) (n c : Nat) (ps : List Po) (hl : ps.length = n) (hn : n ≤ 1000) (q : Option Addr) (m d : Nat) (ds : List Int) (hm : ds.length = m) (hmn : m ≤ 1000) (w : World) (r1 : RK pl w p c ps) (r2 : Reads .i64 w q d ds) :
    Calls Try.prog 47 #[.slice p n c, .slice q m d] w fun e w' => e = .returned (.bool (apartB ps ds)) ∧ Below w.heap.size w w' := by
  obtain ⟨B, hB⟩ : ∃ B, apartB ps ds = B := ⟨_, rfl⟩
  rw [hB]
  replace hB : Hid (apartB (ps.drop 0) ds = B) := by unfold Hid; simpa using hB
  have hcon := fun {W : World} (x : Int) (hb : Below w.heap.size w W) => slices_Contains q m d ds hm hmn x W (r2.below hb)
  have hr := fun {W : World} (hb : Below w.heap.size w W) => r1.below hb
  clear r1 r2
  go_enter Try.func47, Try.ntmps47
  go_wp2
  go_loopw [9] (fun i wr => ∃ (k : Nat), k ≤ n ∧ i = .int .i64 k ∧ Below w.heap.size w wr ∧ Hid (apartB (ps.drop k) ds = B)) (fun i _ => n - (intOf i).toNat)
  case atStart => exact ⟨0, by omega, rfl, Below.refl _ _, hB⟩
  case round =>
    obtain ⟨k, hk, rfl, hBr, HW⟩ := hrel
    by_cases hlt : k < n
    · have hlt3 : (k : Int) < (n : Int) := by omega
      obtain ⟨x, hx⟩ : ∃ x, ps[k]? = some x := ⟨_, List.getElem?_eq_getElem (by omega)⟩
      obtain ⟨b, o, rfl, hb, hc⟩ := row_at (hr hBr) hx
      have hstep : Hid ((!decide (x.s ∈ ds) && apartB (ps.drop (k + 1)) ds) = B) := by
        have := HW.out
        rw [List.drop_eq_getElem_cons (by omega), show ps[k] = x from by rw [List.getElem?_eq_getElem (by omega)] at hx; exact Option.some.inj hx] at this
        unfold Hid
        simpa [apartB] using this
      have hco := fun {W : World} (hb : Below w.heap.size w W) => hcon x.s hb
      clear HW hx hB hcon
      cases hF : decide (x.s ∈ ds) with
      | true =>
        rw [hF] at hco hstep
        obtain rfl : B = false := by rw [← hstep.out]; rfl
        clear hF
        go_wp2_with (first
          | ((fail_if_success (have _ := hX1)); (refine at_load_pr _ _ _ _ (by rfl) (by rfl) hc (by rfl) ?_))
          | ((fail_if_success (have _ := hX1)); (refine at_alloc_po (by rfl) (by rfl) ?_); intro V1 hX1 hB1 hz1)
          | ((fail_if_success (have _ := hX2)); (have _ := hX1); (refine at_store_po _ _ _ _ _ (by rfl) (by rfl) (by rfl) hX1 rfl (by rfl) ?_); intro V2 hX2 hg2 hz2; have hB2 := bnext hBr (hB1.grown hg2 hB1.size (by simp)); have hkk2 := cells13 hX2)
          | ((have _ := hX2); (with_reducible refine (hco hB2).mono ?_); rintro e w5 ⟨rfl, hw⟩; rw [hw]; clear hw))
        go_ret
        exact ⟨rfl, hB2⟩
      | false =>
        rw [hF] at hco hstep
        have HN : Hid (apartB (ps.drop (k + 1)) ds = B) := by
          have := hstep.out
          unfold Hid
          simpa using this
        clear hF hstep
        go_wp2_with (first
          | ((fail_if_success (have _ := hX1)); (refine at_load_pr _ _ _ _ (by rfl) (by rfl) hc (by rfl) ?_))
          | ((fail_if_success (have _ := hX1)); (refine at_alloc_po (by rfl) (by rfl) ?_); intro V1 hX1 hB1 hz1)
          | ((fail_if_success (have _ := hX2)); (have _ := hX1); (refine at_store_po _ _ _ _ _ (by rfl) (by rfl) (by rfl) hX1 rfl (by rfl) ?_); intro V2 hX2 hg2 hz2; have hB2 := bnext hBr (hB1.grown hg2 hB1.size (by simp)); have hkk2 := cells13 hX2)
          | ((have _ := hX2); (with_reducible refine (hco hB2).mono ?_); rintro e w5 ⟨rfl, hw⟩; rw [hw]; clear hw))
        go_roundw
        case rel => exact ⟨k + 1, by omega, by go_num, hB2, HN⟩
        case measure => simp [intOf]; omega
    · obtain rfl : k = n := by omega
      have hd : ps.drop k = [] := List.drop_eq_nil_of_le (by omega)
      obtain rfl : B = true := by rw [← HW.out, hd]; rfl
      go_wp2
      go_ret
      exact ⟨rfl, hBr⟩

theorem event_rightCommit (p : Option Addr) (n c : Nat) (ps : List Po) (hl : ps.length = n) (hn : n ≤ 1000) (q : Option Addr) (m d : Nat) (ds : List Int) (hm : ds.length = m) (hmn : m ≤ 1000) (w : World) (r1 : RK pl w p c ps) (r2 : Reads .i64 w q d ds) (ho : ∀ p ∈ ps, PoOk p) :
    Calls Try.prog 26 #[.slice p n c, .slice q m d] w fun e w' => e = .returned (.bool (comB ps ds)) ∧ Below w.heap.size w w' := by
  obtain ⟨R, hR⟩ : ∃ R, R = comB ps ds := ⟨_, rfl⟩
  rw [← hR]
  have HR : Hid (R = comB ps ds) := hR
  clear hR
  have h1 := fun {W : World} (hb : Below w.heap.size w W) => policy_All p n c ps hl hn W (r1.below hb) ho
  have h2 := fun {W : World} (hb : Below w.heap.size w W) => event_rightDrops q m d ds hm W (r2.below hb)
  have h3 := fun {W : World} (hb : Below w.heap.size w W) => event_apart p n c ps hl hn q m d ds hm hmn W (r1.below hb) (r2.below hb)
  have h0 := Below.refl w.heap.size w
  by_cases hz : n + m = 0
  · obtain rfl : R = false := by rw [HR.out]; unfold comB; rw [decide_eq_false (by omega)]; rfl
    obtain rfl : n = 0 := by omega
    obtain rfl : m = 0 := by omega
    clear HR h1 h2 h3 hz
    go_enter Try.func26, Try.ntmps26
    go_wp2
    go_ret
    exact ⟨rfl, h0⟩
  · have hsum : (0 : Int) < (n : Int) + (m : Int) := by omega
    have hR2 : Hid (R = (allB ps && dropB ds && apartB ps ds)) := by unfold Hid; rw [HR.out]; unfold comB; rw [decide_eq_true (by omega), Bool.true_and]
    clear HR hl hm r1 r2 ho hz
    cases hA : allB ps with
    | false =>
      obtain rfl : R = false := by rw [hR2.out, hA]; rfl
      have hE : allE ps = 111 := by unfold allE; rw [hA]; rfl
      rw [hE] at h1
      clear hE hA hR2
      go_enter Try.func26, Try.ntmps26
      go_wp2_with (first
        | ((with_reducible refine (h1 h0).mono ?_); rintro e w5 ⟨rfl, hB5⟩))
      go_ret
      exact ⟨rfl, hB5⟩
    | true =>
      have hE : allE ps = 0 := by unfold allE; rw [hA]; rfl
      rw [hE] at h1
      cases hD : dropB ds with
      | false =>
        obtain rfl : R = false := by rw [hR2.out, hA, hD]; rfl
        rw [hD] at h2
        clear hE hA hD hR2
        go_enter Try.func26, Try.ntmps26
        go_wp2_with (first
          | ((with_reducible refine (h1 h0).mono ?_); rintro e w5 ⟨rfl, hB5⟩)
          | ((have _ := hB5); (with_reducible refine (h2 hB5).mono ?_); rintro e w6 ⟨rfl, hw⟩; rw [hw]; clear hw))
        go_ret
        exact ⟨rfl, hB5⟩
      | true =>
        obtain rfl : R = apartB ps ds := by rw [hR2.out, hA, hD]; rfl
        rw [hD] at h2
        clear hE hA hD hR2
        go_enter Try.func26, Try.ntmps26
        go_wp2_with (first
          | ((fail_if_success (have _ := hB5)); (with_reducible refine (h1 h0).mono ?_); rintro e w5 ⟨rfl, hB5⟩)
          | ((have _ := hB5); (with_reducible refine (h2 hB5).mono ?_); rintro e w6 ⟨rfl, hw⟩; rw [hw]; clear hw)
          | ((have _ := hB5); (with_reducible refine (h3 hB5).mono ?_); rintro e w7 ⟨rfl, hB7⟩))
        go_ret
        exact ⟨rfl, bnext hB5 hB7⟩
end Go.Proofs.Ytfgndecnakfhnaa.Event
