/-
  The walk of LebSizes: it returns true, whatever its arguments, and no memory that was there has turned.
-/
import Derived.Test.YtcbhenjfjncddabLebAlive
namespace Go.Proofs.Ytcbhenjfjncddab.Leb
open Go.RowKit

theorem div_more {a P : Int} (hP : 0 < P) (h : P * 128 ≤ a) : ¬ a / P / 128 = 0 := by
  have h1 : 128 ≤ a / P := by
    rw [Int.le_ediv_iff_mul_le hP]
    omega
  omega

set_option maxHeartbeats 1000000 in
theorem sizes_any (a b : Int) (ha : Word a) (hb : Word b) (w : World) :
    Calls Try.prog 3 #[.int .u64 a, .int .u64 b] w fun e w' => e = .returned (.bool true) ∧ Below w.heap.size w w' := by
  have sa := fun w => size_any a ha w
  have sb := fun w => size_any b hb w
  have pa := fun w => put_any a ha w
  have hlow := fun k (h : k + 1 = (put a).length) => put_low ha.1 h
  have hhigh := fun k (h : k + 1 < (put a).length) => put_high ha.1 h
  have hmore := fun k (h : k + 1 < (put a).length) => put_more ha.1 h
  have hmono : a ≤ b → (put a).length ≤ (put b).length := fun h => put_mono ha.1 h
  have hpos := put_pos a
  have hten := put_le ha
  have hby := put_bytes a ha.1
  obtain ⟨zs, hzs⟩ : ∃ zs, zs = put a := ⟨_, rfl⟩
  obtain ⟨B, hB⟩ : ∃ B, B = (put b).length := ⟨_, rfl⟩
  rw [← hzs] at sa pa hlow hhigh hmore hmono hpos hten hby
  rw [← hB] at sb hmono
  clear hzs hB
  obtain ⟨A, hA⟩ : ∃ A, zs.length = A := ⟨_, rfl⟩
  rw [hA] at sa pa hlow hhigh hmore hmono hpos hten
  have HLOW : Hid (∀ k, k + 1 = A → zs.getD k 0 < 128) := hlow
  have HHIGH : Hid (∀ k, k + 1 < A → 128 ≤ zs.getD k 0) := hhigh
  have HMORE : Hid (∀ k, k + 1 < A → 128 ^ (k + 1) ≤ a) := hmore
  have HMONO : Hid (a ≤ b → A ≤ B) := hmono
  clear hlow hhigh hmore hmono
  obtain ⟨a0, a1⟩ := ha
  obtain ⟨b0, b1⟩ := hb
  go_enter Try.func3, Try.ntmps3
  go_wp2_with (first
    | (go_at_call 4; refine (alive_any _).mono ?_; rintro e w1 ⟨rfl, hb1⟩)
    | (go_at_call 5; refine (pa _).mono ?_; rintro e w2 ⟨g2, cp2, rfl, hr2, hb2⟩))
  go_loop [16] (fun i => ∃ k : Nat, k ≤ A ∧ i = .int .i64 k) (fun i => A - (intOf i).toNat)
  case atStart => exact ⟨0, by omega, rfl⟩
  case round =>
    obtain ⟨k, hk, rfl⟩ := hrel
    by_cases hlt : k < A
    · obtain ⟨b', o', hpe, _, hcell⟩ := hr2.2.2.2 (by omega)
      simp only [Option.some.injEq, Addr.mk.injEq, and_true] at hpe
      obtain ⟨rfl, rfl⟩ := hpe
      obtain ⟨c, hc⟩ : ∃ c, c = zs.getD k 0 := ⟨_, rfl⟩
      have hck : w2.cell? ⟨g2, k, none⟩ = some (.int .u8 c) := by
        have := hcell k (by omega)
        rw [Nat.zero_add] at this
        rw [hc]; exact this
      have hkind : (128 ≤ c ∧ (k : Int) < (A : Int) - 1) ∨ (c < 128 ∧ ¬ (k : Int) < (A : Int) - 1) := by
        rcases Nat.lt_or_ge (k + 1) A with h | h
        · exact .inl ⟨by rw [hc]; exact HHIGH.out k h, by omega⟩
        · exact .inr ⟨by rw [hc]; exact HLOW.out k (by omega), by omega⟩
      clear hc hcell
      rcases hkind with ⟨h1, h2⟩ | ⟨h1, h2⟩
      all_goals
        go_wp2_with fail
        go_round
        case rel => exact ⟨k + 1, by omega, by go_num⟩
        case measure => simp [intOf]; omega
    · go_wp2_with fail
      go_loop [8, 9] (fun l i => ∃ j : Nat, j + 1 ≤ A ∧ i = .int .i64 ((j : Int) + 1) ∧ l = .int .u64 (128 ^ j)) (fun _ i => A - (intOf i).toNat)
      case atStart => exact ⟨0, by omega, rfl, rfl⟩
      case round =>
        obtain ⟨j, hj, rfl, rfl⟩ := hrel
        obtain ⟨P, hP⟩ : ∃ P : Int, P = 128 ^ j := ⟨_, rfl⟩
        have hP0 : 0 < P := by rw [hP]; exact pow_pos j
        have hP1 : P ≤ 9223372036854775808 := by
          have h9 : (128 : Int) ^ 9 = 9223372036854775808 := by decide
          rw [← h9, hP]
          have := Nat.pow_le_pow_right (n := 128) (by decide) (show j ≤ 9 by omega)
          have e : ((128 ^ j : Nat) : Int) ≤ ((128 ^ 9 : Nat) : Int) := by omega
          simpa using e
        have hP2 : (128 : Int) ^ (j + 1) = P * 128 := by rw [Int.pow_succ, hP]
        rw [← hP]
        have HP : Hid ((128 : Int) ^ (j + 1) = P * 128) := hP2
        clear hP hP2
        by_cases hjl : j + 1 < A
        · have hmr : P * 128 ≤ a := by rw [← HP.out]; exact HMORE.out j hjl
          have hdv := div_more hP0 hmr
          have hdv' : (a / P / 128 == 0) = false := by simpa using hdv
          have hD0 : 0 ≤ a / P := Int.ediv_nonneg a0 (Int.le_of_lt hP0)
          have hD1 : a / P ≤ 18446744073709551615 := Int.le_trans (Int.ediv_le_self _ a0) a1
          go_wp2_with (go_at_call 6; refine (sa _).mono ?_; rintro e w3 ⟨rfl, hw3⟩; subst hw3)
          go_round
          case rel => exact ⟨j + 1, by omega, by first | rfl | go_num, by rw [HP.out]⟩
          case measure => simp [intOf]; omega
        · obtain rfl : A = j + 1 := by omega
          have hten' : ((j : Int) + 1) ≤ 10 := by omega
          by_cases hab : b < a
          · go_wp2_with (go_at_call 6; refine (sa _).mono ?_; rintro e w3 ⟨rfl, hw3⟩; subst hw3)
            go_ret
            exact ⟨rfl, bnext hb1 hb2⟩
          · have hmn : j + 1 ≤ B := HMONO.out (by omega)
            have hmn' : ((j : Int) + 1) ≤ (B : Int) := by omega
            go_wp2_with (go_at_call 6; first | ((with_reducible refine (sa _).mono ?_); rintro e w3 ⟨rfl, hw3⟩; subst hw3) | ((with_reducible refine (sb _).mono ?_); rintro e w3 ⟨rfl, hw3⟩; subst hw3))
            go_ret
            exact ⟨rfl, bnext hb1 hb2⟩
end Go.Proofs.Ytcbhenjfjncddab.Leb
