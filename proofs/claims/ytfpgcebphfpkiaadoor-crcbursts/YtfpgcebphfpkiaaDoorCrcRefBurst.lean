/-
  The document's Burst, as it is typed out.
-/
import Derived.Test.YtfpgcebphfpkiaaDoorCrcBurst
namespace Go.Proofs.YtfpgcebphfpkiaaDoor.Crc
open Go.RowKit Go.Proofs.YtfpgcebphfpkiaaDoor.Mem

theorem ref_bit (p : Option Addr) (m c : Nat) (zs : List Int) (l : zs.length = m) (hz : ∀ c ∈ zs, Byte c) (n : Nat) (hn : n < 8 * m) (hm : m ≤ 1000) (w : World) (r : Reads .u8 w p c zs) :
    Calls Tryd.prog 17 #[.slice p m c, .int .i64 n] w fun e w' => e = .returned (.bool (bit zs n)) ∧ w' = w := by
  obtain ⟨b, o, rfl, _, hcell⟩ := r.2.2.2 (by omega)
  obtain ⟨y, hy⟩ : ∃ y, y = zs.getD (n / 8) 0 := ⟨_, rfl⟩
  have hck : w.cell? ⟨b, o + n / 8, none⟩ = some (.int .u8 y) := by rw [hy]; exact hcell (n / 8) (by omega)
  have hyb : Byte y := by rw [hy]; exact getD_byte hz _
  obtain ⟨y0, y1⟩ := hyb
  have hbit : (y / 2 ^ (7 - n % 8)).tmod 2 = 1 ↔ bit zs n = true := by
    obtain ⟨d, rfl⟩ := Int.eq_ofNat_of_zero_le y0
    unfold bit
    rw [← hy, Int.toNat_natCast, Nat.testBit_eq_decide_div_mod_eq, decide_eq_true_eq]
    have e : ((d : Int) / 2 ^ (7 - n % 8)) = ((d / 2 ^ (7 - n % 8) : Nat) : Int) := by simp
    rw [e, Int.tmod_eq_emod_of_nonneg (Int.natCast_nonneg _)]
    omega
  have hbit' : ((y / 2 ^ (7 - n % 8)).tmod 2 == 1) = bit zs n := by
    rw [Bool.eq_iff_iff, beq_iff_eq]
    exact hbit
  have HY : Hid (y = zs.getD (n / 8) 0) := hy
  clear hcell hy hbit
  go_enter Tryd.func17, Tryd.ntmps17
  go_wp2
  go_ret
  exact ⟨rfl, rfl⟩
theorem mask_bit (m : BitVec 32) (k : Nat) (hk : k < 32) : (((enc m / 2 ^ (31 - k)).tmod 2 == 1) = m.getMsbD k) ∧ (((enc m / 2 ^ (31 - k)).tmod 2 == 0) = !m.getMsbD k) := by
  have e : enc m / 2 ^ (31 - k) = ((m.toNat / 2 ^ (31 - k) : Nat) : Int) := by simp [enc]
  rw [e, Int.tmod_eq_emod_of_nonneg (Int.natCast_nonneg _), msb_bit m k hk, Nat.testBit_eq_decide_div_mod_eq]
  generalize m.toNat / 2 ^ (31 - k) = x
  constructor
  · rw [Bool.eq_iff_iff, beq_iff_eq, decide_eq_true_eq]
    omega
  · rw [Bool.eq_iff_iff, beq_iff_eq, Bool.not_eq_true', decide_eq_false_iff_not]
    omega
theorem good_bursts {m : BitVec 32} {at_ : Int} {zs : List Int} (h : ∀ j, j < 32 → m.getMsbD j = true → 0 ≤ at_ ∧ at_ + (j : Int) < 8 * (zs.length : Int)) : burst m at_.toNat zs 32 = bursts m at_ zs := by
  by_cases h0 : m = 0#32
  · subst h0
    unfold bursts
    rw [zero_burst]
    split <;> rfl
  · have hat : 0 ≤ at_ := by
      apply Decidable.byContradiction
      intro hc
      apply h0
      apply BitVec.eq_of_getMsbD_eq
      intro i hi
      cases hv : m.getMsbD i with
      | false => simp
      | true => exact absurd (h i hi hv).1 hc
    have hr : room m at_ zs.length = true := (room_iff _ _ _).2 ⟨hat, fun k hk hb => (h k hk hb).2⟩
    unfold bursts
    rw [if_pos hr]
theorem bad_bursts {m : BitVec 32} {at_ : Int} {zs : List Int} (k : Nat) (hk : k < 32) (hb : m.getMsbD k = true) (h : at_ < 0 ∨ 8 * (zs.length : Int) - k ≤ at_) : bursts m at_ zs = zs := by
  unfold bursts
  rw [if_neg]
  rw [room_iff]
  intro hc
  have := hc.2 k hk hb
  have := hc.1
  omega
theorem flip_byte (y : Nat) (j : Nat) (hj : j < 8) (hy : y < 256) : ((y ^^^ 2 ^ j : Nat) : Int) = if y.testBit j then (y : Int) - ((2 ^ j : Nat) : Int) else (y : Int) + ((2 ^ j : Nat) : Int) := by
  have key : ∀ j < 8, ∀ y < 256, ((y ^^^ 2 ^ j : Nat) : Int) = if y.testBit j then (y : Int) - ((2 ^ j : Nat) : Int) else (y : Int) + ((2 ^ j : Nat) : Int) := by decide +kernel
  exact key j hj y hy
theorem worth (r : Nat) (hr : r < 8) : (128 : Int) / 2 ^ r = ((2 ^ (7 - r) : Nat) : Int) := by
  have key : ∀ r < 8, (128 : Int) / 2 ^ r = ((2 ^ (7 - r) : Nat) : Int) := by decide +kernel
  exact key r hr
set_option maxHeartbeats 2000000 in
theorem ref_Burst (p : Option Addr) (n c : Nat) (zs : List Int) (l : zs.length = n) (hz : ∀ c ∈ zs, Byte c) (hn : n ≤ 1000) (at_ : Int) (ha : Inty at_) (m : BitVec 32) (w : World) (r : Reads .u8 w p c zs) :
    Calls Tryd.prog 8 #[.slice p n c, .int .i64 at_, .int .u32 (enc m)] w fun e w' => ∃ q d, e = .returned (.slice q n d) ∧ Reads .u8 w' q d (bursts m at_ zs) ∧ Below w.heap.size w w' := by
  obtain ⟨i0, hi, hz0, hz1, hz2⟩ := info_parts info_byte
  obtain ⟨a0, a1⟩ := ha
  have hms := enc_half m
  have h0 : (w.alloc (.cells #[] 5)).ownsRow w.heap.size 5 1 (.slice (some ⟨w.heap.size, 0, none⟩) 0 0) ([] : List Int).length (([] : List Int).map (Value.int .u8)) := lit_none (k := .u8) w
  go_enter Tryd.func8, Tryd.ntmps8
  go_wp2_with (at_builtin; refine wpList_append_reads _ rfl _ _ 22 rfl w.heap.size 5 i0 (.int .u8 0) 1 .u8 Tryd.underlying22 hi hz0 hz1 hz2 rfl (.slice (some ⟨w.heap.size, 0, none⟩) 0 0) 0 [] rfl h0 p n c zs rfl l (r.alloc _) ?c3 ?c4 ?c5 ?_)
  case c3 => unfold maxLen; omega
  case c4 => omega
  case c5 => simp
  intro v2 w2 hown2 hg2
  obtain ⟨ho2, hb2⟩ := grew0 (ys := []) (zs := zs) (Nat.le_refl _) (bnew w _) h0 hown2 hg2
  rw [List.nil_append] at ho2
  obtain ⟨_, q, d, hv, hr⟩ := own_reads ho2
  rw [l] at hv ho2
  subst hv
  clear hown2 hg2 h0
  go_wp2_with fail
  go_loop [8] (fun i => ∃ k : Nat, k ≤ 32 ∧ i = .int .i64 k ∧ Hid (∀ j, j < k → m.getMsbD j = true → 0 ≤ at_ ∧ at_ + (j : Int) < 8 * (n : Int))) (fun i => 32 - (intOf i).toNat)
  case atStart => exact ⟨0, by omega, rfl, fun j hj => by omega⟩
  case round =>
    obtain ⟨k, hk, rfl, HG⟩ := hrel
    by_cases hlt : k < 32
    · obtain ⟨b1, _⟩ := mask_bit m k hlt
      cases hv : m.getMsbD k with
      | false =>
        rw [hv] at b1
        have HN : Hid (∀ j, j < k + 1 → m.getMsbD j = true → 0 ≤ at_ ∧ at_ + (j : Int) < 8 * (n : Int)) := fun j hj hb => by
          by_cases hjk : j = k
          · subst hjk; rw [hv] at hb; cases hb
          · exact HG.out j (by omega) hb
        clear hv
        go_wp2_with fail
        go_round
        case rel => exact ⟨k + 1, by omega, by go_num, HN⟩
        case measure => simp [intOf]; omega
      | true =>
        rw [hv] at b1
        by_cases hneg : at_ < 0
        · have HB : Hid (bursts m at_ zs = zs) := bad_bursts k hlt hv (.inl hneg)
          clear hv
          go_wp2_with fail
          go_ret
          exact ⟨q, d, rfl, by rw [HB.out]; exact hr, hb2⟩
        · by_cases hbig : 8 * (n : Int) - k ≤ at_
          · have HB : Hid (bursts m at_ zs = zs) := bad_bursts k hlt hv (.inr (by rw [l]; exact hbig))
            clear hv
            go_wp2_with fail
            go_ret
            exact ⟨q, d, rfl, by rw [HB.out]; exact hr, hb2⟩
          · have HN : Hid (∀ j, j < k + 1 → m.getMsbD j = true → 0 ≤ at_ ∧ at_ + (j : Int) < 8 * (n : Int)) := fun j hj hb => by
              by_cases hjk : j = k
              · subst hjk; exact ⟨by omega, by omega⟩
              · exact HG.out j (by omega) hb
            clear hv
            go_wp2_with fail
            go_round
            case rel => exact ⟨k + 1, by omega, by go_num, HN⟩
            case measure => simp [intOf]; omega
    · obtain rfl : k = 32 := by omega
      go_wp2_with fail
      have hwr2 : w.heap.size ≤ w2.heap.size := hb2.size
      go_loopw [9] (fun i wr => ∃ k : Nat, k ≤ 32 ∧ i = .int .i64 k ∧ wr.ownsRow w.heap.size 5 1 (.slice q n d) n ((burst m at_.toNat zs k).map (Value.int .u8)) ∧ Below w.heap.size w wr) (fun i _ => 32 - (intOf i).toNat)
      case atStart => exact ⟨0, by omega, rfl, ho2, hb2⟩
      case round =>
        obtain ⟨k, hk, rfl, hok, hbk⟩ := hrel
        by_cases hlt : k < 32
        · obtain ⟨_, b2⟩ := mask_bit m k hlt
          cases hv : m.getMsbD k with
          | false =>
            rw [hv, Bool.not_false] at b2
            have hnx : burst m at_.toNat zs (k + 1) = burst m at_.toNat zs k := by simp [burst, hv]
            clear hv
            go_wp2_with fail
            go_roundw
            case rel => exact ⟨k + 1, by omega, by go_num, by rw [hnx]; exact hok, hbk⟩
            case measure => simp [intOf]; omega
          | true =>
            obtain ⟨hat, h8⟩ := HG.out k hlt hv
            rw [hv, Bool.not_true] at b2
            obtain ⟨A, hA⟩ := Int.eq_ofNat_of_zero_le hat
            subst hA
            rw [Int.toNat_natCast] at *
            have hnx : burst m A zs (k + 1) = turn (burst m A zs k) (A + k) := by simp [burst, hv]
            have hbl : (burst m A zs k).length = n := by rw [burst_length, l]
            have hbb := burst_bytes m A hz k
            obtain ⟨T, hT⟩ : ∃ T, burst m A zs k = T := ⟨_, rfl⟩
            rw [hT] at hnx hbl hbb hok
            obtain ⟨g, cap, hvg, hrd⟩ := own_reads_pos (hbl ▸ hok) (by omega)
            rw [hbl] at hvg
            simp only [Value.slice.injEq] at hvg
            obtain ⟨rfl, _, rfl⟩ := hvg
            obtain ⟨y, hy⟩ : ∃ y, y = T.getD ((A + k) / 8) 0 := ⟨_, rfl⟩
            have hck : wr.cell? ⟨g, (A + k) / 8, none⟩ = some (.int .u8 y) := by
              obtain ⟨b', o', hpe, _, hcell⟩ := hrd.2.2.2 (by omega)
              simp only [Option.some.injEq, Addr.mk.injEq, and_true] at hpe
              obtain ⟨rfl, rfl⟩ := hpe
              have := hcell ((A + k) / 8) (by omega)
              rw [Nat.zero_add] at this
              rw [hy]; exact this
            have hyb : Byte y := by rw [hy]; exact getD_byte hbb _
            have hfr := hok.frozenAt ((A + k) / 8)
            obtain ⟨y0, y1⟩ := hyb
            have hrb := ref_bit (some ⟨g, 0, none⟩) n d T hbl hbb (A + k) (by omega) hn wr hrd
            rw [show ((A + k : Nat) : Int) = (A : Int) + k by omega] at hrb
            have hbv : bit T (A + k) = y.toNat.testBit (7 - (A + k) % 8) := by unfold bit; rw [← hy]
            have hfl := flip_byte y.toNat (7 - (A + k) % 8) (by omega) (by omega)
            have hwo := worth ((A + k) % 8) (by omega)
            have hX := xor_byte ⟨y0, y1⟩ (7 - (A + k) % 8) (by omega)
            have hst : (wr.setCell ⟨g, (A + k) / 8, none⟩ (.int .u8 ((y.toNat ^^^ 2 ^ (7 - (A + k) % 8) : Nat) : Int))).ownsRow w.heap.size 5 1 (.slice (some ⟨g, 0, none⟩) n d) n ((burst m A zs (k + 1)).map (Value.int .u8)) ∧ Below w.heap.size w (wr.setCell ⟨g, (A + k) / 8, none⟩ (.int .u8 ((y.toNat ^^^ 2 ^ (7 - (A + k) % 8) : Nat) : Int))) := by
              have h1 := (hok.stored ((A + k) / 8) (.int .u8 ((y.toNat ^^^ 2 ^ (7 - (A + k) % 8) : Nat) : Int))).1
              refine ⟨?_, hbk.setCell (hok.lt g rfl).1 _⟩
              rw [hnx]
              unfold turn
              rw [List.map_set, ← hy]
              exact h1
            rw [Int.toNat_of_nonneg y0] at hfl
            obtain ⟨X, hXe⟩ : ∃ X, X = ((y.toNat ^^^ 2 ^ (7 - (A + k) % 8) : Nat) : Int) := ⟨_, rfl⟩
            rw [← hXe] at hfl hst hX
            obtain ⟨W, hWe⟩ : ∃ W, W = ((2 ^ (7 - (A + k) % 8) : Nat) : Int) := ⟨_, rfl⟩
            rw [← hWe] at hfl hwo
            have hW : 0 ≤ W ∧ W ≤ 128 := by
              have h7 : 2 ^ (7 - (A + k) % 8) ≤ 2 ^ 7 := Nat.pow_le_pow_right (by decide) (by omega)
              rw [hWe]
              exact ⟨Int.natCast_nonneg _, by exact_mod_cast h7⟩
            obtain ⟨x0, x1⟩ := hX
            clear hy hXe hWe hT hnx hv hok hrd
            cases hbt : bit T (A + k) with
            | true =>
              rw [hbt] at hrb hbv
              rw [← hbv, if_pos rfl] at hfl
              clear hbv hbt
              subst hfl
              go_wp2_with (go_at_call 17; refine hrb.mono ?_; rintro e w3 ⟨rfl, rfl⟩)
              go_roundw
              case rel => exact ⟨k + 1, by omega, by go_num, hst.1, hst.2⟩
              case measure => simp [intOf]; omega
            | false =>
              rw [hbt] at hrb hbv
              rw [← hbv, if_neg (by simp)] at hfl
              clear hbv hbt
              subst hfl
              go_wp2_with (go_at_call 17; refine hrb.mono ?_; rintro e w3 ⟨rfl, rfl⟩)
              go_roundw
              case rel => exact ⟨k + 1, by omega, by go_num, hst.1, hst.2⟩
              case measure => simp [intOf]; omega
        · obtain rfl : k = 32 := by omega
          have hgb : burst m at_.toNat zs 32 = bursts m at_ zs := good_bursts (fun j hj hb => by rw [l]; exact HG.out j hj hb)
          rw [hgb] at hok
          obtain ⟨_, q', d', hv', hrd'⟩ := own_reads ((show (bursts m at_ zs).length = n by rw [bursts_length, l]) ▸ hok)
          simp only [Value.slice.injEq] at hv'
          obtain ⟨rfl, _, rfl⟩ := hv'
          clear hok hgb
          go_wp2_with fail
          go_ret
          exact ⟨_, _, rfl, hrd', hbk⟩
end Go.Proofs.YtfpgcebphfpkiaaDoor.Crc
