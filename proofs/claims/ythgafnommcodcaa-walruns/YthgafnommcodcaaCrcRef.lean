/-
  The document's answers, as they are typed out: bit, xor, Of, Seal, Open.
-/
import Derived.Test.YthgafnommcodcaaCrcOf
import Derived.BigQuiet
import Derived.Deep.QuietTactic
import Derived.Deep.RegionWith
namespace Go.Proofs.Ythgafnommcodcaa.Crc
open Go.RowKit Go.Proofs.Ythgafnommcodcaa.Mem

theorem xor_digit (a b k : Nat) : (a ^^^ b) % 2 ^ (k + 1) = (a ^^^ b) % 2 ^ k + (if a / 2 ^ k % 2 = b / 2 ^ k % 2 then 0 else 2 ^ k) := by
  have h := Nat.testBit_xor a b k
  rw [Nat.testBit_eq_decide_div_mod_eq, Nat.testBit_eq_decide_div_mod_eq, Nat.testBit_eq_decide_div_mod_eq] at h
  have ha : a / 2 ^ k % 2 = 0 ∨ a / 2 ^ k % 2 = 1 := by omega
  have hb : b / 2 ^ k % 2 = 0 ∨ b / 2 ^ k % 2 = 1 := by omega
  have hc : (a ^^^ b) / 2 ^ k % 2 = 0 ∨ (a ^^^ b) / 2 ^ k % 2 = 1 := by omega
  rw [Nat.pow_succ, Nat.mod_mul]
  rcases ha with ha | ha <;> rcases hb with hb | hb <;> rcases hc with hc | hc <;> simp [ha, hb, hc] at h ⊢
theorem half_next (a k : Nat) : a / 2 ^ k / 2 = a / 2 ^ (k + 1) := by rw [Nat.div_div_eq_div_mul, Nat.pow_succ]
theorem ref_xor (a b : BitVec 32) (w : World) :
    Calls Try.prog 83 #[.int .u64 (enc a), .int .u64 (enc b)] w fun e w' => e = .returned (.int .u64 (enc (a ^^^ b))) ∧ w' = w := by
  have hlt := (a ^^^ b).isLt
  have hfin : (a.toNat ^^^ b.toNat) % 2 ^ 32 = (a ^^^ b).toNat := by rw [← BitVec.toNat_xor, Nat.mod_eq_of_lt hlt]
  have HF : Hid ((a.toNat ^^^ b.toNat) % 2 ^ 32 = (a ^^^ b).toNat) := hfin
  clear hfin hlt
  go_enter Try.func83, Try.ntmps83
  go_wp2
  go_loop [0, 1, 5, 6, 7] (fun x y o g i => ∃ k A B O G : Nat, k ≤ 32 ∧ i = .int .i64 k ∧ x = .int .u64 A ∧ y = .int .u64 B ∧ o = .int .u64 O ∧ g = .int .u64 G ∧ Hid (A = a.toNat / 2 ^ k ∧ B = b.toNat / 2 ^ k ∧ O = (a.toNat ^^^ b.toNat) % 2 ^ k ∧ G = 2 ^ k)) (fun _ _ _ _ i => 32 - (intOf i).toNat)
  case atStart => exact ⟨0, a.toNat, b.toNat, 0, 1, by omega, rfl, rfl, rfl, rfl, rfl, by simp, by simp, by simp [Nat.mod_one], rfl⟩
  case round =>
    obtain ⟨k, A, B, O, G, hk, rfl, rfl, rfl, rfl, rfl, H⟩ := hrel
    have hA : A < 4294967296 := by
      have := Nat.div_le_self a.toNat (2 ^ k)
      rw [H.out.1]; have := a.isLt; omega
    have hB : B < 4294967296 := by
      have := Nat.div_le_self b.toNat (2 ^ k)
      rw [H.out.2.1]; have := b.isLt; omega
    have hG : G ≤ 4294967296 := by
      rw [H.out.2.2.2]
      exact Nat.le_trans (Nat.pow_le_pow_right (by decide) hk) (by decide)
    have hO : O ≤ 4294967296 := by
      have := Nat.mod_lt (a.toNat ^^^ b.toNat) (show 0 < 2 ^ k from Nat.pow_pos (by decide))
      rw [← H.out.2.2.1, ← H.out.2.2.2] at this
      omega
    by_cases hlt : k < 32
    · have hd := xor_digit a.toNat b.toNat k
      rw [← H.out.1, ← H.out.2.1, ← H.out.2.2.1, ← H.out.2.2.2] at hd
      have hn : A / 2 = a.toNat / 2 ^ (k + 1) ∧ B / 2 = b.toNat / 2 ^ (k + 1) ∧ G * 2 = 2 ^ (k + 1) := by
        rw [← half_next, ← half_next, ← H.out.1, ← H.out.2.1, Nat.pow_succ, ← H.out.2.2.2]
        exact ⟨rfl, rfl, rfl⟩
      by_cases hq : A % 2 = B % 2
      · rw [if_pos hq] at hd
        have HN : Hid (A / 2 = a.toNat / 2 ^ (k + 1) ∧ B / 2 = b.toNat / 2 ^ (k + 1) ∧ O = (a.toNat ^^^ b.toNat) % 2 ^ (k + 1) ∧ G * 2 = 2 ^ (k + 1)) := ⟨hn.1, hn.2.1, by omega, hn.2.2⟩
        clear hd hn H
        go_wp2
        go_round
        case rel => exact ⟨k + 1, A / 2, B / 2, O, G * 2, by omega, by go_num, by go_num, by go_num, rfl, by go_num, HN⟩
        case measure => simp [intOf]; omega
      · rw [if_neg hq] at hd
        have HN : Hid (A / 2 = a.toNat / 2 ^ (k + 1) ∧ B / 2 = b.toNat / 2 ^ (k + 1) ∧ O + G = (a.toNat ^^^ b.toNat) % 2 ^ (k + 1) ∧ G * 2 = 2 ^ (k + 1)) := ⟨hn.1, hn.2.1, by omega, hn.2.2⟩
        clear hd hn H
        go_wp2
        go_round
        case rel => exact ⟨k + 1, A / 2, B / 2, O + G, G * 2, by omega, by go_num, by go_num, by go_num, by go_num, by go_num, HN⟩
        case measure => simp [intOf]; omega
    · have hk32 : k = 32 := by omega
      have hOe : (O : Int) = enc (a ^^^ b) := by
        unfold enc
        rw [← HF.out, H.out.2.2.1, hk32]
      rw [hOe]
      go_wp2
      go_ret
      exact ⟨rfl, rfl⟩
theorem ref_bit (p : Option Addr) (m c : Nat) (zs : List Int) (l : zs.length = m) (hz : ∀ c ∈ zs, Byte c) (n : Nat) (hn : n < 8 * m) (hm : m ≤ 1000) (w : World) (r : Reads .u8 w p c zs) :
    Calls Try.prog 82 #[.slice p m c, .int .i64 n] w fun e w' => e = .returned (.bool (bit zs n)) ∧ w' = w := by
  obtain ⟨b, o, rfl, _, hcell⟩ := r.2.2.2 (by omega)
  obtain ⟨y, hy⟩ : ∃ y, y = zs.getD (n / 8) 0 := ⟨_, rfl⟩
  have hck : w.cell? ⟨b, o + n / 8, none⟩ = some (.int .u8 y) := by rw [hy]; exact hcell (n / 8) (by omega)
  have hyb : Byte y := by rw [hy]; exact getD_byte hz _
  obtain ⟨y0, y1⟩ := hyb
  have hbit : (y / 2 ^ (7 - n % 8)).tmod 2 = 1 ↔ bit zs n = true := by
    obtain ⟨d, rfl⟩ := Int.eq_ofNat_of_zero_le y0
    unfold bit
    rw [← hy, Int.toNat_natCast, Nat.testBit_eq_decide_div_mod_eq, decide_eq_true_eq]
    have e : ((d : Int) / 2 ^ (7 - n % 8)) = ((d / 2 ^ (7 - n % 8) : Nat) : Int) := by simp
    rw [e, Int.tmod_eq_emod_of_nonneg (Int.natCast_nonneg _)]
    omega
  have hbit' : ((y / 2 ^ (7 - n % 8)).tmod 2 == 1) = bit zs n := by
    rw [Bool.eq_iff_iff, beq_iff_eq]
    exact hbit
  have HY : Hid (y = zs.getD (n / 8) 0) := hy
  clear hcell hy hbit
  go_enter Try.func82, Try.ntmps82
  go_wp2
  go_ret
  exact ⟨rfl, rfl⟩
/-- One bit more, as it is typed out. -/
theorem ref_step (s : BitVec 32) (b : Bool) : step s b = if (decide (2147483648 ≤ enc s) ^^ b) = true then (s <<< 1) ^^^ poly else s <<< 1 := by
  have hm : s.msb = decide (2147483648 ≤ enc s) := by
    rw [BitVec.msb_eq_decide]
    unfold enc
    apply decide_eq_decide.2
    omega
  unfold step
  rw [hm]
  split <;> simp
theorem ref_Of (p : Option Addr) (m c : Nat) (zs : List Int) (l : zs.length = m) (hz : ∀ c ∈ zs, Byte c) (hm : m ≤ 1000) (w : World) (r : Reads .u8 w p c zs) :
    Calls Try.prog 77 #[.slice p m c] w fun e w' => e = .returned (.int .u32 (enc (sum zs))) ∧ w' = w := by
  have hb := fun (n : Nat) (hn : n < 8 * m) => ref_bit p m c zs l hz n hn hm w r
  have hx := fun (a b : BitVec 32) => ref_xor a b w
  go_enter Try.func77, Try.ntmps77
  go_wp2
  go_loop [3, 4] (fun x i => ∃ (k : Nat) (s : BitVec 32), k ≤ 8 * m ∧ i = .int .i64 k ∧ x = .int .u64 (enc s) ∧ Hid (s = run (bit zs) ones k)) (fun _ i => 8 * m - (intOf i).toNat)
  case atStart => exact ⟨0, ones, by omega, rfl, rfl, rfl⟩
  case round =>
    obtain ⟨k, s, hk, rfl, rfl, HS⟩ := hrel
    have hs := enc_half s
    by_cases hlt : k < 8 * m
    · have hbk := hb k hlt
      have HN : Hid (step s (bit zs k) = run (bit zs) ones (k + 1)) := by rw [HS.out]; exact rfl
      have hsh : enc s * 2 % 4294967296 = enc (s <<< (1 : Nat)) := by
        have := s.isLt
        unfold enc
        rw [BitVec.toNat_shiftLeft, Nat.shiftLeft_eq]
        omega
      have hxs := hx (s <<< (1 : Nat)) poly
      have hpo : enc poly = 79764919 := rfl
      rw [hpo, ← hsh] at hxs
      have hst := ref_step s (bit zs k)
      obtain ⟨S, hS⟩ : ∃ S, S = enc s := ⟨_, rfl⟩
      rw [← hS] at hxs hs hst hsh ⊢
      have HSH : Hid (S * 2 % 4294967296 = enc (s <<< (1 : Nat))) := hsh
      clear hb hx hpo hsh hS
      cases hbv : bit zs k with
      | false =>
        rw [hbv] at hbk hst HN
        rw [Bool.xor_false] at hst
        clear hbv
        by_cases hge : 2147483648 ≤ S
        · rw [decide_eq_true hge, if_pos rfl] at hst
          rw [← hst] at hxs
          clear hst
          go_wp2_with (first
            | (go_at_call 82; refine hbk.mono ?_; rintro e w1 ⟨rfl, rfl⟩)
            | (go_at_call 83; refine hxs.mono ?_; rintro e w1 ⟨rfl, rfl⟩))
          go_round
          case rel => exact ⟨k + 1, step s false, by omega, by go_num, rfl, HN⟩
          case measure => simp [intOf]; omega
        · rw [decide_eq_false hge, if_neg (by simp)] at hst
          rw [hst] at HN
          clear hst
          go_wp2_with (go_at_call 82; refine hbk.mono ?_; rintro e w1 ⟨rfl, rfl⟩)
          go_round
          case rel => exact ⟨k + 1, s <<< (1 : Nat), by omega, by go_num, by rw [HSH.out], HN⟩
          case measure => simp [intOf]; omega
      | true =>
        rw [hbv] at hbk hst HN
        rw [Bool.xor_true] at hst
        clear hbv
        by_cases hge : 2147483648 ≤ S
        · rw [decide_eq_true hge, if_neg (by simp)] at hst
          rw [hst] at HN
          clear hst
          go_wp2_with (go_at_call 82; refine hbk.mono ?_; rintro e w1 ⟨rfl, rfl⟩)
          go_round
          case rel => exact ⟨k + 1, s <<< (1 : Nat), by omega, by go_num, by rw [HSH.out], HN⟩
          case measure => simp [intOf]; omega
        · rw [decide_eq_false hge, if_pos (by simp)] at hst
          rw [← hst] at hxs
          clear hst
          go_wp2_with (first
            | (go_at_call 82; refine hbk.mono ?_; rintro e w1 ⟨rfl, rfl⟩)
            | (go_at_call 83; refine hxs.mono ?_; rintro e w1 ⟨rfl, rfl⟩))
          go_round
          case rel => exact ⟨k + 1, step s true, by omega, by go_num, rfl, HN⟩
          case measure => simp [intOf]; omega
    · have hk8 : k = 8 * m := by omega
      have hno : Hid (4294967295 - enc s = enc (sum zs)) := by
        have e : ~~~ s = sum zs := by
          unfold sum
          rw [crcs_run _ _ hz, HS.out, hk8, l]
        rw [← e]
        exact enc_not s
      clear hb hx
      go_wp2
      go_ret
      refine ⟨ret_int ?_, rfl⟩
      rw [← hno.out]
end Go.Proofs.Ythgafnommcodcaa.Crc
