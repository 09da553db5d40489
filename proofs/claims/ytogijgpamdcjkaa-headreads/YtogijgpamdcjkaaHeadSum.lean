/-
  The sum of bytes: head.Sum.
-/
import Derived.Test.YtogijgpamdcjkaaHeadPlain
import Derived.Test.YtogijgpamdcjkaaBlk
import Derived.WalkMore
import Derived.LoopTactic
import Derived.Laws.BitsAllLaws
namespace Go.Proofs.Ytogijgpamdcjkaa.Head
open Go.RowKit Go.Proofs.Ytogijgpamdcjkaa.Mem

theorem and_low (s : Int) (h0 : 0 ≤ s) (h1 : s ≤ 18446744073709551615) : bits .and .u64 s 65535 = s % 65536 := by
  obtain ⟨n, rfl⟩ := Int.eq_ofNat_of_zero_le h0
  have := u64_and_nat n 65535 (by omega) (by decide)
  rw [show (65535 : Int) = ((65535 : Nat) : Int) from rfl, this, show 65535 = 2 ^ 16 - 1 from rfl, Nat.and_two_pow_sub_one_eq_mod]
  simp
theorem all_turned {u : Int} (h0 : 0 ≤ u) (h1 : u ≤ 65535) : bits .xor .u16 IntKind.u16.max u = 65535 - u := by
  obtain ⟨n, rfl⟩ := Int.eq_ofNat_of_zero_le h0
  have e : IntKind.u16.max = ((65535 : Nat) : Int) := by decide
  rw [e, u16_xor_nat 65535 n (by decide) (by omega)]
  have hx : 65535 ^^^ n = 65535 - n := by
    have := congrArg BitVec.toNat (BitVec.allOnes_xor (x := BitVec.ofNat 16 n))
    rw [BitVec.toNat_xor, BitVec.toNat_not, BitVec.toNat_allOnes, BitVec.toNat_ofNat, Nat.mod_eq_of_lt (by omega)] at this
    simpa using this
  rw [hx]
  omega
theorem head_Sum (p : Option Addr) (n c : Nat) (xs : List Int) (l : xs.length = n) (hx : ∀ c ∈ xs, Byte c) (hn : n ≤ 100000) (w : World) (r : Reads .u8 w p c xs) :
    Calls Try.prog 12 #[.slice p n c] w fun e w' => e = .returned (.int .u16 (sumI xs)) ∧ w' = w := by
  have hand := and_low
  have hT := tot_range true hx
  obtain ⟨T, HT⟩ : ∃ T, Hid (T = tot true xs) := ⟨_, rfl⟩
  rw [← HT.out] at hT
  go_enter Try.func12, Try.ntmps12
  go_wp2
  go_loop [3, 8] (fun x i => ∃ (k : Nat) (s : Int), k ≤ n ∧ 0 ≤ s ∧ s ≤ 65280 * k ∧ i = .int .i64 k ∧ x = .int .u64 s ∧ Hid (s = tot true (xs.take k))) (fun _ i => n - (intOf i).toNat)
  case atStart => exact ⟨0, 0, by omega, by omega, by omega, rfl, rfl, by simp [Hid, tot]⟩
  case round =>
    obtain ⟨k, s, hk, hs0, hs1, rfl, rfl, HS⟩ := hrel
    by_cases hlt : k < n
    · obtain ⟨b, o, rfl, _, hcell⟩ := r.2.2.2 (by omega)
      obtain ⟨y, hy⟩ : ∃ y, y = xs.getD k 0 := ⟨_, rfl⟩
      have hck : w.cell? ⟨b, o + k, none⟩ = some (.int .u8 y) := by rw [hy]; exact hcell k (by omega)
      obtain ⟨y0, y1⟩ : Byte y := by rw [hy]; exact getD_byte hx k
      have hsn := tot_snoc (zs := xs) (k := k) (by omega)
      rw [← hy, ← HS.out] at hsn
      clear hy hcell
      by_cases hpar : k % 2 = 0
      · have hp : ((k : Int) % 2 == 0) = true := by simp; omega
        have HN : Hid (s + y * 256 = tot true (xs.take (k + 1))) := by rw [hsn, if_pos hpar]; show _ = _; omega
        clear hsn
        go_wp2
        go_round
        case rel => exact ⟨k + 1, s + y * 256, by omega, by omega, by omega, by go_num, rfl, HN⟩
        case measure => simp [intOf]; omega
      · have hp : ((k : Int) % 2 == 0) = false := by simp; omega
        have HN : Hid (s + y = tot true (xs.take (k + 1))) := by rw [hsn, if_neg hpar]; rfl
        clear hsn
        go_wp2
        go_round
        case rel => exact ⟨k + 1, s + y, by omega, by omega, by omega, by go_num, rfl, HN⟩
        case measure => simp [intOf]; omega
    · have hkn : xs.take k = xs := List.take_of_length_le (by omega)
      rw [hkn, ← HT.out] at HS
      clear hkn
      have e : s = T := HS.out
      subst e
      clear HS
      go_wp2
      go_loop [3] (fun x => ∃ u : Int, 0 ≤ u ∧ u ≤ s ∧ x = .int .u64 u ∧ Hid (fold u = fold s)) (fun x => (intOf x).toNat)
      case atStart => exact ⟨s, by omega, by omega, rfl, rfl⟩
      case round =>
        obtain ⟨u, hu0, hu1, rfl, HU⟩ := hrel
        by_cases hbig : 65535 < u
        · have ha := and_low u hu0 (by omega)
          have HN : Hid (fold (u / 65536 + u % 65536) = fold s) := by show _ = _; rw [fold_step hbig]; exact HU
          go_wp2
          go_round
          case rel => exact ⟨u / 65536 + u % 65536, by omega, by omega, rfl, HN⟩
          case measure => simp [intOf]; omega
        · have e : sumI xs = 65535 - u := by
            unfold sumI
            rw [← HT.out, ← HU.out, fold_small hu0 (by omega)]
          have HE : Hid (65535 - u = sumI xs) := e.symm
          clear e
          go_wp2
          go_ret
          exact ⟨ret_int ((all_turned hu0 (by omega)).trans HE.out), rfl⟩
end Go.Proofs.Ytogijgpamdcjkaa.Head
