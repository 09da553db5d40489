/-
  Bits that are turned: math/bits.TrailingZeros32; within, bit, turn and Burst of package crc.
-/
import Derived.Test.YtfpgcebphfpkiaaDoorCrcOf
import Derived.Lib.TrailingZeros
import Derived.Shelf.Spec.TrailingZeros
import Derived.Laws.OwnMore
namespace Go.Proofs.YtfpgcebphfpkiaaDoor.Crc
open Go.RowKit Go.Proofs.YtfpgcebphfpkiaaDoor.Mem

/-- The library's table lies where its initialiser lays it. -/
def Table (w : World) : Prop := ∀ j, j < 32 → w.cell? ⟨0, j, none⟩ = some (.int .u8 (Lib.deBruijn32tab.getD j 0))
theorem Table.below {w w' : World} (h : Table w) (hb : Below w.heap.size w w') : Table w' := fun j hj => by
  have hlt := World.block_lt_of_cell? w _ (h j hj)
  exact (hb.cell (p := ⟨0, j, none⟩) hlt).trans (h j hj)
theorem bits_tz (m : BitVec 32) (w : World) (ht : Table w) :
    Calls Tryd.prog 20 #[.int .u32 (enc m)] w fun e w' => e = .returned (.int .i64 (Lib.ctz 32 m.toNat)) ∧ w' = w := by
  have hx := m.isLt
  unfold enc
  generalize m.toNat = x at *
  by_cases hx0 : x = 0
  · subst hx0
    go_enter Tryd.func20, Tryd.ntmps20
    go_wp2
    go_ret
    exact ⟨rfl, rfl⟩
  · obtain ⟨hlow, hk⟩ := Lib.lowest_bit 32 x hx0 hx
    obtain ⟨hi, htab⟩ := Lib.deBruijn32_at _ hk
    have hcell := ht _ hi
    rw [htab] at hcell
    have key := tz32_key x _ hx hx0 hlow
    have h0 : ((x : Int) == 0) = false := by simp; omega
    obtain ⟨k, hkk⟩ : ∃ k, k = Lib.ctz 32 x := ⟨_, rfl⟩
    rw [← hkk] at hcell hk key hi
    obtain ⟨idx, hidx⟩ : ∃ idx, idx = 2 ^ k * 125613361 % 4294967296 / 134217728 := ⟨_, rfl⟩
    rw [← hidx] at hcell key hi
    have HK : Hid (k = Lib.ctz 32 x) := hkk
    clear hkk hidx htab hlow
    go_enter Tryd.func20, Tryd.ntmps20
    go_wp2_with (simp only [key])
    go_ret
    exact ⟨ret_int (by rw [HK.out]), rfl⟩
theorem crc_bit (m : BitVec 32) (k : Nat) (hk : k < 32) (w : World) :
    Calls Tryd.prog 15 #[.int .u32 (enc m), .int .i64 k] w fun e w' => e = .returned (.bool (m.getMsbD k)) ∧ w' = w := by
  have hs := enc_half m
  have hb : (bits .and .u32 (enc m / 2 ^ (31 - k)) 1 == 1) = m.getMsbD k := by
    have e : enc m / 2 ^ (31 - k) = ((m.toNat / 2 ^ (31 - k) : Nat) : Int) := by simp [enc]
    have hle := Nat.div_le_self m.toNat (2 ^ (31 - k))
    have hlt := m.isLt
    have e2 : bits .and .u32 ((m.toNat / 2 ^ (31 - k) : Nat) : Int) 1 = ((m.toNat / 2 ^ (31 - k) % 2 : Nat) : Int) := by
      have := u32_and_nat (m.toNat / 2 ^ (31 - k)) 1 (by omega) (by omega)
      rw [nat_mask1] at this
      exact this
    have e3 : m.getMsbD k = m.toNat.testBit (31 - k) := by simp [BitVec.getMsbD, hk, BitVec.getLsbD]
    rw [e, e2, e3, Nat.testBit_eq_decide_div_mod_eq, Bool.eq_iff_iff, beq_iff_eq, decide_eq_true_eq]
    omega
  go_enter Tryd.func15, Tryd.ntmps15
  go_wp2
  go_ret
  exact ⟨rfl, rfl⟩
theorem crc_turn (B : Nat) (q : Option Addr) (m d : Nat) (zs : List Int) (l : zs.length = m) (hz : ∀ c ∈ zs, Byte c) (n : Nat) (hn : n < 8 * m) (hm : m ≤ 1000) (w : World)
    (ho : w.ownsRow B 5 1 (.slice q m d) m (zs.map (Value.int .u8))) :
    Calls Tryd.prog 16 #[.slice q m d, .int .i64 n] w fun e w' => e = .returned (.tuple #[]) ∧ w'.ownsRow B 5 1 (.slice q m d) m ((turn zs n).map (Value.int .u8)) ∧ Below B w w' := by
  obtain ⟨g, cap, hv, hrd⟩ := own_reads_pos (l ▸ ho) (by omega)
  rw [l] at hv
  simp only [Value.slice.injEq] at hv
  obtain ⟨rfl, _, rfl⟩ := hv
  obtain ⟨y, hy⟩ : ∃ y, y = zs.getD (n / 8) 0 := ⟨_, rfl⟩
  have hck : w.cell? ⟨g, n / 8, none⟩ = some (.int .u8 y) := by
    obtain ⟨b', o', hpe, _, hcell⟩ := hrd.2.2.2 (by omega)
    simp only [Option.some.injEq, Addr.mk.injEq, and_true] at hpe
    obtain ⟨rfl, rfl⟩ := hpe
    have := hcell (n / 8) (by omega)
    rw [Nat.zero_add] at this
    rw [hy]; exact this
  have hyb : Byte y := by rw [hy]; exact getD_byte hz _
  have hfr := ho.frozenAt (n / 8)
  obtain ⟨y0, y1⟩ := hyb
  have hpow : (2 : Int) ^ (7 - n % 8) % 256 = ((2 ^ (7 - n % 8) : Nat) : Int) := by
    have h : 2 ^ (7 - n % 8) < 2 ^ 8 := Nat.pow_lt_pow_right (by decide) (by omega)
    rw [show (2 : Int) ^ (7 - n % 8) = ((2 ^ (7 - n % 8) : Nat) : Int) by simp]
    generalize 2 ^ (7 - n % 8) = k at h ⊢
    omega
  have hxor : bits .xor .u8 y (2 ^ (7 - n % 8) % 256) = ((y.toNat ^^^ 2 ^ (7 - n % 8) : Nat) : Int) := by
    have : 2 ^ (7 - n % 8) < 2 ^ 8 := Nat.pow_lt_pow_right (by decide) (by omega)
    rw [hpow, u8_xor y _ y0 y1 (by omega) (by omega), Int.toNat_natCast]
  have hst : (w.setCell ⟨g, n / 8, none⟩ (.int .u8 ((y.toNat ^^^ 2 ^ (7 - n % 8) : Nat) : Int))).drew.ownsRow B 5 1 (.slice (some ⟨g, 0, none⟩) m d) m ((turn zs n).map (Value.int .u8)) ∧ Below B w (w.setCell ⟨g, n / 8, none⟩ (.int .u8 ((y.toNat ^^^ 2 ^ (7 - n % 8) : Nat) : Int))).drew := by
    have h1 := (ho.stored (n / 8) (.int .u8 ((y.toNat ^^^ 2 ^ (7 - n % 8) : Nat) : Int))).1
    have hB := (ho.lt g rfl).1
    refine ⟨own_below ?_ ((Below.refl _ _).drew), ((Below.refl _ _).setCell hB _).drew⟩
    unfold turn
    rw [List.map_set, ← hy]
    exact h1
  have HST : Hid (y = zs.getD (n / 8) 0) := hy
  clear hy hpow
  go_enter Tryd.func16, Tryd.ntmps16
  go_wp2
  go_region
  go_end0
  exact ⟨rfl, hst.1, hst.2⟩
/-- What the program asks of the place. -/
def within (m : BitVec 32) (at_ : Int) (n : Nat) : Bool := decide (0 ≤ at_) && decide (at_ ≤ (n : Int) * 8 - (32 - (Lib.ctz 32 m.toNat : Int)))
theorem crc_within (m : BitVec 32) (at_ : Int) (ha : Inty at_) (n : Nat) (hn : n ≤ 1000) (w : World) (ht : Table w) :
    Calls Tryd.prog 14 #[.int .i64 n, .int .i64 at_, .int .u32 (enc m)] w fun e w' => e = .returned (.bool (within m at_ n)) ∧ w' = w := by
  obtain ⟨a0, a1⟩ := ha
  have hc := bits_tz m w ht
  have hle : Lib.ctz 32 m.toNat ≤ 32 := by
    by_cases h0 : m.toNat = 0
    · simp [Lib.ctz, h0]
    · exact Nat.le_of_lt (Lib.lowest_bit 32 m.toNat h0 m.isLt).2
  unfold within
  generalize Lib.ctz 32 m.toNat = k at *
  by_cases h0 : 0 ≤ at_
  · rw [decide_eq_true h0, Bool.true_and]
    go_enter Tryd.func14, Tryd.ntmps14
    go_wp2_with (go_at_call 20; refine hc.mono ?_; rintro e w1 ⟨rfl, rfl⟩)
    go_ret
    exact ⟨rfl, rfl⟩
  · rw [decide_eq_false h0, Bool.false_and]
    go_enter Tryd.func14, Tryd.ntmps14
    go_wp2_with (go_at_call 20; refine hc.mono ?_; rintro e w1 ⟨rfl, rfl⟩)
    go_ret
    exact ⟨rfl, rfl⟩
theorem ctz_bit {x : Nat} (h0 : x ≠ 0) (hx : x < 2 ^ 32) : x.testBit (Lib.ctz 32 x) = true ∧ Lib.ctz 32 x < 32 ∧ ∀ j, j < Lib.ctz 32 x → x.testBit j = false := by
  unfold Lib.ctz
  rw [if_neg h0]
  obtain ⟨m, hm, hk⟩ := Lib.ctzFrom_spec 32 x (by omega) hx
  generalize Lib.ctzFrom 32 x = k at *
  refine ⟨?_, hk, fun j hj => ?_⟩
  · rw [hm, Nat.mul_comm, Nat.testBit_mul_two_pow]
    simp
  · rw [hm, Nat.mul_comm, Nat.testBit_mul_two_pow]
    simp [show ¬ k ≤ j by omega]
theorem msb_bit (m : BitVec 32) (k : Nat) (hk : k < 32) : m.getMsbD k = m.toNat.testBit (31 - k) := by simp [BitVec.getMsbD, hk, BitVec.getLsbD]
theorem zero_burst (at_ : Nat) (zs : List Int) : ∀ k, burst 0#32 at_ zs k = zs
  | 0 => rfl
  | k + 1 => by
    simp only [burst]
    rw [if_neg (by simp), zero_burst at_ zs k]
theorem bursts_within (m : BitVec 32) (at_ : Int) (zs : List Int) : bursts m at_ zs = if within m at_ zs.length = true then burst m at_.toNat zs 32 else zs := by
  by_cases h0 : m = 0#32
  · subst h0
    unfold bursts
    rw [zero_burst]
    split <;> split <;> rfl
  · have hne : m.toNat ≠ 0 := fun e => h0 (BitVec.eq_of_toNat_eq (by simpa using e))
    obtain ⟨h1, h2, h3⟩ := ctz_bit hne m.isLt
    have e : room m at_ zs.length = within m at_ zs.length := by
      rw [Bool.eq_iff_iff, room_iff]
      unfold within
      generalize Lib.ctz 32 m.toNat = k at *
      simp only [Bool.and_eq_true, decide_eq_true_eq]
      refine and_congr_right fun ha => ⟨fun h => ?_, fun h j hj hb => ?_⟩
      · have := h (31 - k) (by omega) (by rw [msb_bit m _ (by omega), show 31 - (31 - k) = k by omega]; exact h1)
        omega
      · rw [msb_bit m j hj] at hb
        have : ¬ 31 - j < k := fun hc => by rw [h3 _ hc] at hb; cases hb
        omega
    unfold bursts
    rw [e]
theorem within_fits {m : BitVec 32} {at_ : Int} {n : Nat} (h : within m at_ n = true) : 0 ≤ at_ ∧ ∀ k, k < 32 → m.getMsbD k = true → at_.toNat + k < 8 * n := by
  unfold within at h
  simp only [Bool.and_eq_true, decide_eq_true_eq] at h
  refine ⟨h.1, fun k hk hb => ?_⟩
  have hne : m.toNat ≠ 0 := fun e => by
    rw [msb_bit m k hk, e] at hb
    simp at hb
  obtain ⟨h1, h2, h3⟩ := ctz_bit hne m.isLt
  rw [msb_bit m k hk] at hb
  have : ¬ 31 - k < Lib.ctz 32 m.toNat := fun hc => by rw [h3 _ hc] at hb; cases hb
  omega
set_option maxHeartbeats 1000000 in
theorem crc_Burst (p : Option Addr) (n c : Nat) (zs : List Int) (l : zs.length = n) (hz : ∀ c ∈ zs, Byte c) (hn : n ≤ 1000) (at_ : Int) (ha : Inty at_) (m : BitVec 32) (w : World) (r : Reads .u8 w p c zs) (ht : Table w) :
    Calls Tryd.prog 7 #[.slice p n c, .int .i64 at_, .int .u32 (enc m)] w fun e w' => ∃ q d, e = .returned (.slice q n d) ∧ Reads .u8 w' q d (bursts m at_ zs) ∧ Below w.heap.size w w' := by
  have hcl := bytes_Clone p n c zs l w r hn
  have hb := fun (k : Nat) (hk : k < 32) w => crc_bit m k hk w
  rw [bursts_within, l]
  rw [l] at hcl
  cases hw : within m at_ n with
  | false =>
    rw [if_neg (by simp)]
    have hwi := fun w' (h : Table w') => crc_within m at_ ha n hn w' h
    rw [hw] at hwi
    go_enter Tryd.func7, Tryd.ntmps7
    go_wp2_with (first
      | (go_at_call 13; refine hcl.mono ?_; rintro e w1 ⟨v, rfl, ho, hb1⟩)
      | (go_at_call 14; refine (hwi _ (ht.below hb1)).mono ?_; rintro e w2 ⟨rfl, rfl⟩))
    obtain ⟨_, q, d, hv, hrd⟩ := own_reads (l ▸ ho)
    rw [l] at hv
    subst hv
    go_ret
    exact ⟨q, d, rfl, hrd, hb1⟩
  | true =>
    obtain ⟨hat, hfit⟩ := within_fits hw
    rw [if_pos rfl]
    have hwi := fun w' (h : Table w') => crc_within m at_ ha n hn w' h
    rw [hw] at hwi
    obtain ⟨A, hA⟩ := Int.eq_ofNat_of_zero_le hat
    subst hA
    rw [Int.toNat_natCast] at hfit ⊢
    clear hw
    have hA9 := ha.2
    go_enter Tryd.func7, Tryd.ntmps7
    go_wp2_with (first
      | (go_at_call 13; refine hcl.mono ?_; rintro e w1 ⟨v, rfl, ho, hb1⟩; obtain ⟨_, q, d, hv, hrd⟩ := own_reads (l ▸ ho); rw [l] at hv; subst hv)
      | (go_at_call 14; refine (hwi _ (ht.below hb1)).mono ?_; rintro e w2 ⟨rfl, rfl⟩))
    go_loopw [18] (fun i wr => ∃ k : Nat, k ≤ 32 ∧ i = .int .i64 k ∧ wr.ownsRow w.heap.size 5 1 (.slice q n d) n ((burst m A zs k).map (Value.int .u8)) ∧ Below w.heap.size w wr) (fun i _ => 32 - (intOf i).toNat)
    case atStart => exact ⟨0, by omega, rfl, ho, hb1⟩
    case round =>
      obtain ⟨k, hk, rfl, hok, hbk⟩ := hrel
      by_cases hlt : k < 32
      · have hbc := hb k hlt
        have hbl : (burst m A zs k).length = n := by rw [burst_length, l]
        cases hv : m.getMsbD k with
        | false =>
          rw [hv] at hbc
          have hnx : burst m A zs (k + 1) = burst m A zs k := by simp [burst, hv]
          clear hv
          go_wp2_with (go_at_call 15; refine (hbc _).mono ?_; rintro e w3 ⟨rfl, rfl⟩)
          go_roundw
          case rel => exact ⟨k + 1, by omega, by go_num, by rw [hnx]; exact hok, hbk⟩
          case measure => simp [intOf]; omega
        | true =>
          have hA8 := hfit k hlt hv
          rw [hv] at hbc
          have hnx : burst m A zs (k + 1) = turn (burst m A zs k) (A + k) := by simp [burst, hv]
          have hto := crc_turn w.heap.size q n d (burst m A zs k) hbl (burst_bytes m A hz k) (A + k) hA8 hn wr hok
          rw [← hnx, show ((A + k : Nat) : Int) = (A : Int) + k by omega] at hto
          clear hv hnx hok
          go_wp2_with (first
            | (go_at_call 15; refine (hbc _).mono ?_; rintro e w3 ⟨rfl, rfl⟩)
            | (go_at_call 16; refine hto.mono ?_; rintro e w4 ⟨rfl, ho4, hb4⟩))
          go_roundw
          case rel => exact ⟨k + 1, by omega, by go_num, ho4, hbk.trans hb4⟩
          case measure => simp [intOf]; omega
      · obtain rfl : k = 32 := by omega
        obtain ⟨_, q', d', hv', hrd'⟩ := own_reads ((show (burst m A zs 32).length = n by rw [burst_length, l]) ▸ hok)
        simp only [Value.slice.injEq] at hv'
        obtain ⟨rfl, _, rfl⟩ := hv'
        clear hok
        go_wp2_with fail
        go_ret
        exact ⟨_, _, rfl, hrd', hbk⟩
end Go.Proofs.YtfpgcebphfpkiaaDoor.Crc
