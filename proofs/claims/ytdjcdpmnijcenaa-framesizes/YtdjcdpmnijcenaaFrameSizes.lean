/-
  A record has as few sectors as hold it.
-/
import Derived.Test.YtdjcdpmnijcenaaFrameOpens
import Derived.Test.YtdjcdpmnijcenaaFrameMakes
namespace Go.Proofs.Ytdjcdpmnijcenaa.Frame
open Go.RowKit Go.Proofs.Ytdjcdpmnijcenaa.Mem Go.Proofs.Ytdjcdpmnijcenaa.Sect Go.Proofs.Ytdjcdpmnijcenaa.Crc
set_option maxRecDepth 100000

set_option maxHeartbeats 2000000 in
theorem sizes_any (s e : Nat) (q : Option Addr) (n c : Nat) (xs : List Int) (x : Int) (hs : s < 18446744073709551616) (he : e < 4294967296) (l : xs.length = n) (hb : ∀ c ∈ xs, Byte c) (w : World) (r : Reads .u8 w q c xs) :
    Calls Try.prog 8 #[.agg #[.int .u64 (s : Int), .int .u32 (e : Int), .slice q n c], .int .i64 x] w fun e w' => e = .returned (.bool true) ∧ Below w.heap.size w w' := by
  have ha := fun w => alive_any w
  have Y := Blk.new w #[.int .u64 (s : Int), .int .u32 (e : Int), .slice q n c] 30
  have hB := bnew w (.cells #[.int .u64 (s : Int), .int .u32 (e : Int), .slice q n c] 30)
  by_cases h2 : 2000 < n
  · have d : decide ((2000 : Int) < (n : Int)) = true := by simp; omega
    go_enter Try.func8, Try.ntmps8
    go_wp2_with (go_at_call 11; refine (ha _).mono ?_; rintro x w1 ⟨rfl, hb1⟩; have Y2 := Y.below hb1; have k2 := Y2.cell)
    go_ret
    exact ⟨rfl, bnext hB hb1⟩
  have d : decide ((2000 : Int) < (n : Int)) = false := by simp; omega
  by_cases hx0 : x < 0
  · have d0 : decide (x < 0) = true := by simp; omega
    go_enter Try.func8, Try.ntmps8
    go_wp2_with (go_at_call 11; refine (ha _).mono ?_; rintro x w1 ⟨rfl, hb1⟩; have Y2 := Y.below hb1; have k2 := Y2.cell)
    go_ret
    exact ⟨rfl, bnext hB hb1⟩
  have d0 : decide (x < 0) = false := by simp; omega
  by_cases hx2 : 2000 < x
  · have d2 : decide (2000 < x) = true := by simp; omega
    go_enter Try.func8, Try.ntmps8
    go_wp2_with (go_at_call 11; refine (ha _).mono ?_; rintro x w1 ⟨rfl, hb1⟩; have Y2 := Y.below hb1; have k2 := Y2.cell)
    go_ret
    exact ⟨rfl, bnext hB hb1⟩
  have d2 : decide (2000 < x) = false := by simp; omega
  cases hR : right s xs with
  | false =>
    have hM := fun W => frame_Make_no s e q n c xs l hR W
    by_cases h0 : s = 0
    · subst h0
      clear hR
      go_enter Try.func8, Try.ntmps8
      go_wp2_with (first
        | (go_at_call 11; refine (ha _).mono ?_; rintro x w1 ⟨rfl, hb1⟩; have Y1 := Y.below hb1; have k1 := Y1.cell; have hB1 := bnext hB hb1)
        | (go_at_call 9; refine (hM w1).mono ?_; rintro x w3 ⟨rfl, hb3⟩; have Y3 := Y1.below hb3; have k3 := Y3.cell; have hB3 := bnext hB1 hb3))
      go_ret
      exact ⟨rfl, hB3⟩
    · have e0 : ((s : Int) == 0) = false := by simp [h0]
      have h7 : 700 < n := by
        unfold right at hR
        simp only [Bool.and_eq_false_iff, decide_eq_false_iff_not] at hR
        omega
      have d7 : decide ((700 : Int) < (n : Int)) = true := by simp; omega
      clear hR
      go_enter Try.func8, Try.ntmps8
      go_wp2_with (first
        | (go_at_call 11; refine (ha _).mono ?_; rintro x w1 ⟨rfl, hb1⟩; have Y1 := Y.below hb1; have k1 := Y1.cell; have hB1 := bnext hB hb1)
        | (go_at_call 9; refine (hM w1).mono ?_; rintro x w3 ⟨rfl, hb3⟩; have Y3 := Y1.below hb3; have k3 := Y3.cell; have hB3 := bnext hB1 hb3))
      go_ret
      exact ⟨rfl, hB3⟩
  | true =>
    have h7 : n ≤ 700 := by simp [right] at hR; omega
    have hf0 : fault s xs = 0 := by simp [fault, hR]
    have hM := fun W (hW : Reads .u8 W q c xs) => frame_Make s e q n c xs l hs he hb W hW
    rw [hf0] at hM
    have hO := fun q2 c2 (k : Nat) (hk : k < (made s e xs).length) W (hW : RK sc W q2 c2 (made s e xs)) => frame_Open q2 k c2 ((made s e xs).take k) (by rw [List.length_take]; omega) (by have := made_few s e xs; omega) (fun x hx => made_bytes hb x (List.mem_of_mem_take hx)) W (hW.upto sc_len k)
    have hO' : ∀ q2 c2 (k : Nat) (hk : k < (made s e xs).length) W (hW : RK sc W q2 c2 (made s e xs)), Calls Try.prog 10 #[.slice q2 k c2] W fun x w' => told x W w' nought := fun q2 c2 k hk W hW => by
      have := hO q2 c2 k hk W hW
      rwa [got_no (opens_less hR hk)] at this
    clear hO
    unfold told nought at hO'
    have hml := made_len (e := e) hR
    rw [l] at hml
    obtain ⟨z1, z2, z3, z4⟩ := size_fits h7
    obtain ⟨X, hX⟩ : ∃ X, (made s e xs).length = X := ⟨_, rfl⟩
    rw [hX] at hM hO' hml
    rw [← hml] at z1 z2 z3 z4
    have hSz := fun w => frame_Size ((n : Int) + x) w
    have hSX : (n : Int) + x ≤ 700 → (X : Int) ≤ sizeI ((n : Int) + x) := fun h => by
      rw [hml, size, if_pos h7]
      obtain ⟨y, rfl⟩ := Int.eq_ofNat_of_zero_le (show 0 ≤ x by omega)
      rw [show (n : Int) + (y : Int) = ((n + y : Nat) : Int) by omega, sizeI_nat, size, if_pos (by omega)]
      omega
    generalize made s e xs = M at *
    obtain ⟨V, hV⟩ : ∃ V, sizeI ((n : Int) + x) = V := ⟨_, rfl⟩
    rw [hV] at hSz hSX
    change Hid _ at hX
    clear hV hml hR hf0
    have b1 : decide ((n : Int) + 18 ≤ 64 * (X : Int)) = true := by simp; omega
    have b2 : decide (64 * ((X : Int) - 1) < (n : Int) + 18) = true := by simp; omega
    have z5 : (X : Int) ≤ 12 := by omega
    have z6 : (n : Int) ≤ 700 := by omega
    have z7 : 0 ≤ x := by omega
    have z8 : x ≤ 2000 := by omega
    have w1' : IntKind.i64.wrap ((n : Int) + x) = (n : Int) + x := by rw [IntKind.wrap_i64]; omega
    have w2' : IntKind.i64.wrap ((X : Int) - 1) = (X : Int) - 1 := by rw [IntKind.wrap_i64]; omega
    have w3' : IntKind.i64.wrap (64 * ((X : Int) - 1)) = 64 * ((X : Int) - 1) := by rw [IntKind.wrap_i64]; omega
    have HV : Hid ((n : Int) + x ≤ 700 → (X : Int) ≤ V) := hSX
    clear hSX
    go_enter Try.func8, Try.ntmps8
    go_wp2_with (first
      | (go_at_call 11; refine (ha _).mono ?_; rintro x w1 ⟨rfl, hb1⟩; have Y1 := Y.below hb1; have k1 := Y1.cell; have hB1 := bnext hB hb1; have rp1 := r.below hB1)
      | (go_at_call 9; refine (hM w1 rp1).mono ?_; rintro x w3 ⟨q3, c3, rfl, rk3, hb3⟩; have Y3 := Y1.below hb3; have k3 := Y3.cell; have hB3 := bnext hB1 hb3))
    obtain ⟨bl, ol, hq3, -⟩ := rk3.2.2.2 (by rw [hX.out]; omega)
    have hcap := rk3.1
    rw [hX.out] at hcap
    have HC : Hid (∀ k, k < X → ∀ w, (Instr.slice 22 (.slice q3 X c3) none (some (.int .i64 (k : Int))) none).run Try.prog w = .ok (.slice q3 k c3) w) := fun k hk w => by rw [hq3]; exact run_upto_s w bl ol X c3 k (by omega)
    clear hq3
    go_loopw [44] (fun i wr => ∃ k : Nat, k ≤ X ∧ i = .int .i64 k ∧ Below w3.heap.size w3 wr) (fun i _ => X - (intOf i).toNat)
    case atStart => exact ⟨0, by omega, rfl, Below.refl _ _⟩
    case round =>
      obtain ⟨k, hk, rfl, hBr⟩ := hrel
      by_cases hkX : k < X
      · have hcut := HC.out k hkX
        have rk4 := rk3.below hBr
        have hkX' : (k : Int) < (X : Int) := by omega
        go_wp2_with (first
          | (go_at_call 10; refine (hO' q3 c3 k hkX wr rk4).mono ?_; rintro x w6 ⟨q6, c6, rfl, r6, hb6⟩; have Z6 := Blk.new w6 #[.int .u64 0, .int .u32 0, .slice none 0 0] 30; have hB6 := bnext hBr hb6)
          | (refine at_store_rec _ _ w6.heap.size _ _ _ _ (by rfl) (by rfl) (by rfl) Z6 rfl ⟨rfl, rfl, rfl⟩ (by rfl) ?_; intro W7 Z7 G7; have hb7 : Below w6.heap.size w6 W7 := (bnew w6 _).grown G7 (by simp) (fun j hj => by simp at hj; omega); have hB7 := bnext hB6 hb7))
        go_roundw
        case rel => exact ⟨k + 1, by omega, by go_num, hB7⟩
        case measure => simp [intOf]; omega
      · obtain rfl : k = X := by omega
        have Y8 := Y3.below hBr
        have k8 := Y8.cell
        by_cases hnx : (n : Int) + x ≤ 700
        · have b3 : decide ((k : Int) ≤ V) = true := decide_eq_true (HV.out hnx)
          go_wp2_with (go_at_call 12; refine (hSz _).mono ?_; rintro x w9 ⟨rfl, rfl⟩)
          go_ret
          exact ⟨rfl, bnext hB3 hBr⟩
        · have b4 : decide ((700 : Int) < (n : Int) + x) = true := by simp; omega
          cases b3 : decide ((k : Int) ≤ V) with
          | true =>
            go_wp2_with (go_at_call 12; refine (hSz _).mono ?_; rintro x w9 ⟨rfl, rfl⟩)
            go_ret
            exact ⟨rfl, bnext hB3 hBr⟩
          | false =>
            go_wp2_with (go_at_call 12; refine (hSz _).mono ?_; rintro x w9 ⟨rfl, rfl⟩)
            go_ret
            exact ⟨rfl, bnext hB3 hBr⟩
end Go.Proofs.Ytdjcdpmnijcenaa.Frame
