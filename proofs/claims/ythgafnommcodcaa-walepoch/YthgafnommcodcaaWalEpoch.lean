/-
  Another epoch is another log.
-/
import Derived.Test.YthgafnommcodcaaWalAlive
namespace Go.Proofs.Ythgafnommcodcaa.Wal
open Go.RowKit Go.Proofs.Ythgafnommcodcaa.Mem Go.Proofs.Ythgafnommcodcaa.Sect Go.Proofs.Ythgafnommcodcaa.Frame Go.Proofs.Ythgafnommcodcaa.Disk Go.Proofs.Ythgafnommcodcaa.Area
set_option maxRecDepth 100000

theorem epoch_can : Can 100 4 0 0 0 := ⟨by omega, by omega, rfl, by omega, by omega, by omega⟩
set_option maxHeartbeats 2000000 in
theorem epoch_any (q : Option Addr) (n c : Nat) (xs : List Int) (ep s : Nat) (hl : xs.length = n) (hep : ep < 4294967296) (hs : s < 18446744073709551616) (w : World) (r : Reads .i64 w q c xs) (_hx : ∀ x ∈ xs, Inty x) :
    Calls Try.prog 7 #[.slice q n c, .int .u32 (ep : Int), .int .u64 (s : Int)] w fun e w' => e = .returned (.bool true) ∧ Below w.heap.size w w' := by
  have hal := alive_any w
  have hnew := fun w => new_any 100 w
  rw [show clamp 100 = 100 by decide] at hnew
  have hst : ∀ {B S0 W g}, Dk B S0 W g (fresh 100) → Calls Try.prog 9 #[.pointer (some ⟨g, 0, none⟩), .int .u32 4, .int .u64 50, .int .i64 0] W fun e w' => ∃ gl, e = .returned (.tuple #[.pointer (some ⟨gl, 0, none⟩), .int .i64 0]) ∧ W.heap.size ≤ gl ∧ Blk w' gl 86 (lgc g 4 50 0 0 0) ∧ Below W.heap.size W w' := fun h => wal_Start h 4 50 0 (by rw [show (fresh 100).st.length = 100 by rfl]; decide)
  have hcs : 20 < n ∨ (n ≤ 20 ∧ s = 0) ∨ (n ≤ 20 ∧ s ≠ 0 ∧ ep = 4 ∧ s = 50) ∨ (n ≤ 20 ∧ s ≠ 0 ∧ ep = 4 ∧ s ≠ 50) ∨ (n ≤ 20 ∧ s ≠ 0 ∧ ep ≠ 4) := by omega
  rcases hcs with h1 | ⟨h1, h2⟩ | ⟨h1, h2, h3, h4⟩ | hmain
  · have hb1 : decide (20 < (n : Int)) = true := by simp; omega
    go_enter Try.func7, Try.ntmps7
    go_wp2_with (first
      | ((with_reducible refine hal.mono ?_); rintro e w1 ⟨rfl, hB1⟩))
    go_ret
    exact ⟨rfl, hB1⟩
  · have hb1 : decide (20 < (n : Int)) = false := by simp; omega
    have hb2 : ((s : Int) == 0) = true := by simp [h2]
    clear h2
    go_enter Try.func7, Try.ntmps7
    go_wp2_with (first
      | ((with_reducible refine hal.mono ?_); rintro e w1 ⟨rfl, hB1⟩))
    go_ret
    exact ⟨rfl, hB1⟩
  · subst h3 h4
    have hb1 : decide (20 < (n : Int)) = false := by simp; omega
    go_enter Try.func7, Try.ntmps7
    go_wp2_with (first
      | ((with_reducible refine hal.mono ?_); rintro e w1 ⟨rfl, hB1⟩))
    go_ret
    exact ⟨rfl, hB1⟩
  have h20 : n ≤ 20 := by omega
  have hs0 : s ≠ 0 := by omega
  have hb1 : decide (20 < (n : Int)) = false := by simp; omega
  have hb2 : ((s : Int) == 0) = false := by simp; omega
  have hsc := fun {B S0 W g d} (hD : Dk B S0 W g d) (hok : d.ok) (hby : Byt d) (hn : d.st.length = 100) => wal_Scan hD hok hby ep s 0 hep hs (by rw [hn]; unfold chk; rw [if_pos (by decide), if_neg hs0]) (S := 4) (by rw [hn]; rfl)
  rcases hmain with ⟨-, -, h4, h5⟩ | ⟨-, -, h4⟩
  · subst h4
    have hb6 : ((s : Int) == 50) = false := by simp; omega
    go_enter Try.func7, Try.ntmps7
    go_wp2_with (first
      | ((with_reducible refine hal.mono ?_); rintro e w1 ⟨rfl, hB1⟩)
      | ((with_reducible refine (hnew _).mono ?_); rintro e w2 ⟨g, S0, rfl, hD0, hB2⟩; replace hD0 := hD0.lower hB1.size)
      | ((with_reducible refine (hst hD0).mono ?_); rintro e w3 ⟨gl, rfl, hgl, hY3, hB3⟩; have hL3 := lg_begin hD0 hB3 hgl hY3 epoch_can; have hB123 := bnext (bnext hB1 hB2) hB3))
    clear hal hst hnew hgl hY3 hD0
    go_loopw [44] (fun i wr => ∃ (k : Nat) (d : Dsk) (S' : Nat → Prop) (j t : Nat) (ps : List (List Int)), k ≤ n ∧ i = .int .i64 k ∧ Lg w.heap.size S' wr g gl 100 4 0 4 50 d j t ps 0 ∧ Fine d ∧ Hid (ps.length ≤ k) ∧ Hid (d.pe.length ≤ 12 * k) ∧ Below w.heap.size w wr) (fun i _ => n - (intOf i).toNat)
    case atStart => exact ⟨0, fresh 100, S0, 0, 0, [], by omega, rfl, hL3, fine_fresh 100, by unfold Hid; simp, by unfold Hid; simp [fresh], hB123⟩
    case round =>
      obtain ⟨k, d, S', j, t, ps, hk, rfl, hL, hf, hps, hpe, hB⟩ := hrel
      by_cases hlt : k < n
      · have hlt2 : decide ((k : Int) < (n : Int)) = true := by simp; omega
        obtain ⟨b, o, rfl, hbl, hc⟩ := (r.below hB).2.2.2 (by omega)
        have hck := hc k (by omega)
        generalize xs.getD k 0 = x at hck
        clear hc
        have hpy := payload_any x (k : Int) wr
        have hps2 := hps.out
        have hpe2 := hpe.out
        go_wp2_with (first
          | ((with_reducible refine hpy.mono ?_); rintro e w4 ⟨g4, rfl, r4, -, hB4⟩; have hap := lg_append_any (hL.below hB4) hf (some ⟨g4, 0, none⟩) _ _ (pay x (k : Int)) rfl (pay_bytes _ _) r4 (by omega) (by omega) (by omega))
          | ((with_reducible refine hap.mono ?_); rintro e w5 ⟨x5, y5, d5, j5, t5, ps5, rfl, hp5, hl5, S5, hL5, hf5, hF5, hS5⟩))
        have hB5 := bfr (bnext hB hB4) hF5 (fun k hk => (hL.lts k hk).1)
        go_roundw
        case rel => exact ⟨k + 1, d5, S5, j5, t5, ps5, by omega, by go_num, hL5, hf5, by unfold Hid; omega, by unfold Hid; omega, hB5⟩
        case measure => simp [intOf]; omega
      · obtain rfl : k = n := by omega
        have hs1 := hsc hL.1 hL.ok hL.2.2.2.2.2.1 hL.len
        have hs2 : Calls Try.prog 10 #[.pointer (some ⟨g, 0, none⟩), .int .u32 4, .int .u64 (s : Int), .int .i64 0] wr fun e w' => ∃ p m c rs z, e = .returned (.tuple #[.slice p m c, .int .i64 z, .int .i64 0]) ∧ rs.length = m ∧ m ≤ 9223372036854775807 ∧ RK rc w' p c rs ∧ Hid (∀ i r, rs[i]? = some r → r.g.e = 4 ∧ r.g.s = adv s i) ∧ Below wr.heap.size wr w' := by
          refine hs1.mono ?_
          rintro e w' ⟨v, rs, rfl, hR, hm, hBB⟩
          obtain ⟨p, c, rfl, hk, -⟩ := own_rk rc_len (by decide) hR.1
          refine ⟨p, rs.length, c, rs, _, rfl, rfl, by have := hk.1; have := hk.2.1; unfold maxLen at this; omega, hk, fun i r hi => ?_, hBB⟩
          refine pscan_seqs (rd := vis d 4 0) (S := 4) hs i r.g ?_
          rw [← hm, List.getElem?_map, hi]
          rfl
        clear hs1 r hps hpe hsc
        go_wp2_with (first
          | ((with_reducible refine hs2.mono ?_); rintro e w6 ⟨p6, m6, c6, rs, z6, rfl, hm6, hl6, hk6, hq6, hB6⟩))
        clear hs2
        go_loopw [79] (fun i wx => ∃ y : Nat, y ≤ m6 ∧ i = .int .i64 y ∧ Below w6.heap.size w6 wx) (fun i _ => m6 - (intOf i).toNat)
        case atStart => exact ⟨0, by omega, rfl, Below.refl _ _⟩
        case round =>
          obtain ⟨y, hy, rfl, hBx⟩ := hrel
          by_cases hlt : y < m6
          · have hlt2 : decide ((y : Int) < (m6 : Int)) = true := by simp; omega
            have hlt3 : (y : Int) < (m6 : Int) := by omega
            obtain ⟨x, hx⟩ : ∃ x, rs[y]? = some x := ⟨_, List.getElem?_eq_getElem (by omega)⟩
            obtain ⟨b, o, rfl, hbl, k0, k1, k2⟩ := rk_rec (hk6.below hBx) hx
            obtain ⟨e1, e2⟩ := hq6.out y x hx
            rw [e1] at k1
            rw [e2] at k0
            have hwr2 : (((adv s y : Nat) : Int) != IntKind.u64.wrap ((s : Int) + (y : Int))) = false := by rw [IntKind.wrap_u64]; unfold adv; simp
            clear e1 e2 hx hm6
            go_wp2
            exact ⟨⟨y + 1, by omega, by go_num, bnext hBx (bnew _ _)⟩, by simp [intOf]; omega⟩
          · obtain rfl : y = m6 := by omega
            go_wp2
            go_ret
            exact ⟨rfl, bnext hB (bnext hB6 hBx)⟩
  · have hb4 : ((ep : Int) == 4) = false := by simp; omega
    have hb5 : ((ep : Int) != 4) = true := by simp; omega
    go_enter Try.func7, Try.ntmps7
    go_wp2_with (first
      | ((with_reducible refine hal.mono ?_); rintro e w1 ⟨rfl, hB1⟩)
      | ((with_reducible refine (hnew _).mono ?_); rintro e w2 ⟨g, S0, rfl, hD0, hB2⟩; replace hD0 := hD0.lower hB1.size)
      | ((with_reducible refine (hst hD0).mono ?_); rintro e w3 ⟨gl, rfl, hgl, hY3, hB3⟩; have hL3 := lg_begin hD0 hB3 hgl hY3 epoch_can; have hB123 := bnext (bnext hB1 hB2) hB3))
    clear hal hst hnew hgl hY3 hD0
    go_loopw [44] (fun i wr => ∃ (k : Nat) (d : Dsk) (S' : Nat → Prop) (j t : Nat) (ps : List (List Int)), k ≤ n ∧ i = .int .i64 k ∧ Lg w.heap.size S' wr g gl 100 4 0 4 50 d j t ps 0 ∧ Fine d ∧ Hid (ps.length ≤ k) ∧ Hid (d.pe.length ≤ 12 * k) ∧ Below w.heap.size w wr) (fun i _ => n - (intOf i).toNat)
    case atStart => exact ⟨0, fresh 100, S0, 0, 0, [], by omega, rfl, hL3, fine_fresh 100, by unfold Hid; simp, by unfold Hid; simp [fresh], hB123⟩
    case round =>
      obtain ⟨k, d, S', j, t, ps, hk, rfl, hL, hf, hps, hpe, hB⟩ := hrel
      by_cases hlt : k < n
      · have hlt2 : decide ((k : Int) < (n : Int)) = true := by simp; omega
        obtain ⟨b, o, rfl, hbl, hc⟩ := (r.below hB).2.2.2 (by omega)
        have hck := hc k (by omega)
        generalize xs.getD k 0 = x at hck
        clear hc
        have hpy := payload_any x (k : Int) wr
        have hps2 := hps.out
        have hpe2 := hpe.out
        go_wp2_with (first
          | ((with_reducible refine hpy.mono ?_); rintro e w4 ⟨g4, rfl, r4, -, hB4⟩; have hap := lg_append_any (hL.below hB4) hf (some ⟨g4, 0, none⟩) _ _ (pay x (k : Int)) rfl (pay_bytes _ _) r4 (by omega) (by omega) (by omega))
          | ((with_reducible refine hap.mono ?_); rintro e w5 ⟨x5, y5, d5, j5, t5, ps5, rfl, hp5, hl5, S5, hL5, hf5, hF5, hS5⟩))
        have hB5 := bfr (bnext hB hB4) hF5 (fun k hk => (hL.lts k hk).1)
        go_roundw
        case rel => exact ⟨k + 1, d5, S5, j5, t5, ps5, by omega, by go_num, hL5, hf5, by unfold Hid; omega, by unfold Hid; omega, hB5⟩
        case measure => simp [intOf]; omega
      · obtain rfl : k = n := by omega
        have hs1 := hsc hL.1 hL.ok hL.2.2.2.2.2.1 hL.len
        rw [pscan_other hL.2.2.2.2.1 (by omega) (by have := hps.out; omega) h4] at hs1
        have hs2 : Calls Try.prog 10 #[.pointer (some ⟨g, 0, none⟩), .int .u32 (ep : Int), .int .u64 (s : Int), .int .i64 0] wr fun e w' => ∃ p c, e = .returned (.tuple #[.slice p 0 c, .int .i64 0, .int .i64 0]) ∧ Below wr.heap.size wr w' := by
          refine hs1.mono ?_
          rintro e w' ⟨v, rs, rfl, hR, hm, hBB⟩
          obtain rfl := List.map_eq_nil_iff.1 hm
          obtain ⟨p, c, rfl, -, -⟩ := own_rk rc_len (by decide) hR.1
          exact ⟨p, c, rfl, hBB⟩
        clear hs1
        go_wp2_with (first
          | ((with_reducible refine hs2.mono ?_); rintro e w6 ⟨p6, c6, rfl, hB6⟩))
        go_ret
        exact ⟨rfl, bnext hB hB6⟩
end Go.Proofs.Ythgafnommcodcaa.Wal
