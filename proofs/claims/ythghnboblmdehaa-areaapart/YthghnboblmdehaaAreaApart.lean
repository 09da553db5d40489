/-
  Nothing overlaps: slots and segments lie apart, on the disk; Next comes round.
-/
import Derived.Test.YthghnboblmdehaaAreaAlive
import Derived.Test.YthghnboblmdehaaAreaRow
import Derived.LoopTactic
namespace Go.Proofs.Ythghnboblmdehaa.Area
open Go.RowKit Go.Proofs.Ythghnboblmdehaa.Mem
set_option maxRecDepth 100000

/-- A disk that can't be. -/
theorem apart_no (S g : Int) (hf : fits S = false) (w : World) :
    Calls Try.prog 5 #[.int .i64 S, .int .u64 g] w fun e w' => e = .returned (.bool true) ∧ Below w.heap.size w w' := by
  have ha := alive_any w
  have hs := area_Segs S w
  rw [cnt_no hf, segE_no hf] at hs
  have h := nofits hf
  clear hf
  rcases h with h | h
  · go_enter Try.func5, Try.ntmps5
    go_wp2_with (first
      | (go_at_call 9; refine ha.mono ?_; rintro e w1 ⟨rfl, hw⟩; rw [hw]; clear hw)
      | (go_at_call 7; refine hs.mono ?_; rintro e w1 ⟨rfl, hw⟩; rw [hw]; clear hw))
    go_ret
    exact ⟨rfl, Below.refl _ _⟩
  · have c : ¬ S < 64 := by omega
    go_enter Try.func5, Try.ntmps5
    go_wp2_with (first
      | (go_at_call 9; refine ha.mono ?_; rintro e w1 ⟨rfl, hw⟩; rw [hw]; clear hw)
      | (go_at_call 7; refine hs.mono ?_; rintro e w1 ⟨rfl, hw⟩; rw [hw]; clear hw))
    go_ret
    exact ⟨rfl, Below.refl _ _⟩
/-- What package area tells of a disk that can be. -/
theorem seg_one {s N : Nat} (h1 : 64 ≤ s) (h2 : s ≤ 512) (hN : ((s : Int) - 32) / 16 = N) (k : Nat) (hk : k < N) (w : World) :
    Calls Try.prog 8 #[.int .i64 (s : Int), .int .i64 (k : Int)] w fun e w' => e = .returned (.tuple #[.int .i64 (32 + (k : Int) * 16), .int .i64 0]) ∧ w' = w := by
  have ht : there (s : Int) (k : Int) = true := there_iff.2 ⟨by omega, by omega, by omega⟩
  have := area_Seg (s : Int) (k : Int) w
  rwa [plc_ok ht, plE_ok ht] at this
theorem next_one {s N : Nat} (h1 : 64 ≤ s) (h2 : s ≤ 512) (hN : ((s : Int) - 32) / 16 = N) (k : Nat) (hk : k < N) (w : World) :
    Calls Try.prog 12 #[.int .i64 (s : Int), .int .i64 (k : Int)] w fun e w' => e = .returned (.tuple #[.int .i64 ((if k + 1 = N then 0 else k + 1 : Nat) : Int), .int .i64 0]) ∧ w' = w := by
  have ht : there (s : Int) (k : Int) = true := there_iff.2 ⟨by omega, by omega, by omega⟩
  have := area_Next (s : Int) (k : Int) w
  rw [nxt_ok ht, plE_ok ht, hN] at this
  have e : (if (k : Int) + 1 = (N : Int) then (0 : Int) else (k : Int) + 1) = ((if k + 1 = N then 0 else k + 1 : Nat) : Int) := by
    split <;> split <;> omega
  rwa [e] at this
theorem used_one {s N : Nat} (h1 : 64 ≤ s) (h2 : s ≤ 512) (hN : ((s : Int) - 32) / 16 = N) (k : Nat) (hk : k < N) (w : World) :
    Calls Try.prog 14 #[.int .i64 (s : Int), .int .i64 0, .int .i64 (k : Int)] w fun e w' => e = .returned (.tuple #[.int .i64 ((k : Int) + 1), .int .i64 0]) ∧ w' = w := by
  have ht : there (s : Int) (k : Int) = true := there_iff.2 ⟨by omega, by omega, by omega⟩
  have h0 : there (s : Int) 0 = true := there_iff.2 ⟨by omega, by omega, by omega⟩
  have := area_Used (s : Int) 0 (k : Int) w
  rw [usd_ok h0 ht, usE_ok h0 ht, way, if_pos (by omega), Int.sub_zero] at this
  exact this

set_option maxHeartbeats 1000000 in
theorem apart_any (S g : Int) (hg : Word g) (w : World) :
    Calls Try.prog 5 #[.int .i64 S, .int .u64 g] w fun e w' => e = .returned (.bool true) ∧ Below w.heap.size w w' := by
  cases hf : fits S with
  | false => exact apart_no S g hf w
  | true =>
  have ha := fun w => alive_any w
  have hs := area_Segs S
  rw [cnt_ok hf, segE_ok hf] at hs
  obtain ⟨h1, h2⟩ := fits_iff.1 hf
  obtain ⟨s, rfl⟩ := Int.eq_ofNat_of_zero_le (show 0 ≤ S by omega)
  obtain ⟨N, hN⟩ := Int.eq_ofNat_of_zero_le (show 0 ≤ ((s : Int) - 32) / 16 by omega)
  have hseg := seg_one (by omega) (by omega) hN
  have hnxt := next_one (by omega) (by omega) hN
  have husd := used_one (by omega) (by omega) hN
  have n1 : 2 ≤ N := by omega
  have n2 : N ≤ 30 := by omega
  have n3 : 16 * N + 32 ≤ s := by omega
  have n4 : s < 16 * N + 48 := by omega
  rw [hN] at hs
  clear hf hN
  obtain ⟨q, rfl⟩ := Int.eq_ofNat_of_zero_le hg.1
  obtain ⟨r, hx, hr, hr2⟩ := other_slot q (by have := hg.2; omega)
  have hs1 := area_Slot (q : Int) hg
  have hs2 := area_Slot (r : Int) hr
  rw [this_slot] at hs1
  rw [hr2] at hs2
  have hp : q % 2 ≤ 1 := by omega
  clear hr hr2 hg
  generalize q % 2 = p at *
  obtain ⟨A0, hA0⟩ : ∃ A0, 16 * p = A0 := ⟨_, rfl⟩
  obtain ⟨A1, hA1⟩ : ∃ A1, 16 * (1 - p) = A1 := ⟨_, rfl⟩
  rw [hA0] at hs1
  rw [hA1] at hs2
  have hF0 := firsts_none p
  rw [hA0, hA1] at hF0
  clear hA0 hA1
  obtain ⟨i0, hi, ha0, ha1, ha2⟩ := info_int
  obtain ⟨w1, hmk, hbk, hgr⟩ := run_make_ints w s (by omega)
  rw [← marks_none p s] at hbk
  go_enter Try.func5, Try.ntmps5
  go_wp2_with (first
    | (go_at_call 9; refine (ha _).mono ?_; rintro e wz ⟨rfl, hw⟩; rw [hw]; clear hw)
    | (go_at_call 7; refine (hs _).mono ?_; rintro e wz ⟨rfl, hw⟩; rw [hw]; clear hw)
    | (go_at_call 16; (first | ((with_reducible refine (hs1 _).mono ?_); rintro e wz ⟨rfl, hw⟩; rw [hw]; clear hw) | ((with_reducible refine (hs2 _).mono ?_); rintro e wz ⟨rfl, hw⟩; rw [hw]; clear hw))))
  have hB1 : Below w.heap.size w w1 := (Below.refl w.heap.size w).grown hgr (Nat.le_refl _) (by simp)
  have hG := hbk.lt
  have hown0 : (w1.alloc (.cells #[.int .i64 (A0 : Int), .int .i64 (A1 : Int)] 3)).ownsRow (w.heap.size + 1) 3 1 (.slice (some ⟨w1.heap.size, 0, none⟩) 2 2) 2 ((firsts p 0).map (Value.int .i64)) := by
    rw [hF0]
    exact World.ownsRow_lit w1 #[.int .i64 (A0 : Int), .int .i64 (A1 : Int)] 2 (by omega) (by decide) rfl
  have hblk0 := hbk.alloc (.cells #[.int .i64 (A0 : Int), .int .i64 (A1 : Int)] 3)
  have hbel0 := bnext hB1 (bnew w1 (.cells #[.int .i64 (A0 : Int), .int .i64 (A1 : Int)] 3))
  clear hs1 hs2 hs ha hx hmk hgr hbk hF0 hB1
  go_loopw [8, 9] (fun v k wr => ∃ j : Nat, j ≤ N ∧ k = .int .i64 j ∧ wr.ownsRow (w.heap.size + 1) 3 1 v (j + 2) ((firsts p j).map (Value.int .i64)) ∧ Blk wr w.heap.size 3 ((marks p s 0).map (Value.int .i64)) ∧ Below w.heap.size w wr) (fun _ k _ => N - (intOf k).toNat)
  case atStart => exact ⟨0, by omega, rfl, hown0, hblk0, hbel0⟩
  case round =>
    obtain ⟨j, hj, rfl, hown, hblk, hbel⟩ := hrel
    clear hown0 hblk0 hbel0
    by_cases hlt : j < N
    · have hc := hseg j hlt
      clear hnxt husd hseg
      go_wp2_with (first
        | (go_at_call 8; refine (hc _).mono ?_; rintro e wz ⟨rfl, hw⟩; rw [hw]; clear hw)
        | (at_builtin; refine wpList_append_own _ rfl _ _ 36 rfl (w.heap.size + 1) 3 i0 (.int .i64 0) 1 8 Try.underlying36 hi ha0 ha1 ha2 rfl (by decide) u8 (j + 2) _ rfl (hown.alloc _) ⟨wr.heap.size, 0, none⟩ 1 1 [.int .i64 (32 + (j : Int) * 16)] rfl rfl one_cell one_one ?c3 ?c4 ?c5 ?_))
      case c3 => unfold maxLen; omega
      case c4 => omega
      case c5 => have := hblk.lt; simp; omega
      · intro v' w' hown3 hg3 hne3
        have hb3 : Below w.heap.size w w' := (bnext hbel (bnew _ _)).grown hg3 (by have := hbel.size; simp; omega) (fun b hb => by have := (hown.lt b hb).1; omega)
        have hk3 : Blk w' w.heap.size 3 ((marks p s 0).map (Value.int .i64)) := (hblk.alloc _).kept hg3 (fun e => by have := (hown.lt _ e.symm).1; omega)
        have e3 : (firsts p j).map (Value.int .i64) ++ [.int .i64 (32 + (j : Int) * 16)] = (firsts p (j + 1)).map (Value.int .i64) := by rw [firsts_more]; simp
        rw [e3, show j + 2 + 1 = (j + 1) + 2 by omega] at hown3
        clear hne3 hg3 hown hblk hbel
        go_wp2_with fail
        go_roundw
        case rel => exact ⟨j + 1, by omega, by go_num, hown3, hk3, hb3⟩
        case measure => simp [intOf]; omega
    · obtain rfl : N = j := by omega
      clear hseg
      obtain ⟨b, cap, hv, hrd⟩ := own_reads_pos ((firsts_len p N).symm ▸ hown) (by rw [firsts_len]; omega)
      rw [firsts_len] at hv
      have hbG : w.heap.size < b := by have := (hown.lt b (by rw [hv]; rfl)).1; omega
      clear hown
      subst hv
      obtain ⟨M, hM⟩ : ∃ M, N + 2 = M := ⟨_, rfl⟩
      rw [hM]
      have m1 : 16 * M ≤ s := by omega
      have m2 : s < 16 * M + 16 := by omega
      change Hid _ at hM
      clear n3 n4
      go_wp2_with fail
      go_loopw [67] (fun t wx => ∃ j : Nat, j ≤ M ∧ t = .int .i64 j ∧ Blk wx w.heap.size 3 ((marks p s (16 * j)).map (Value.int .i64)) ∧ Reads .i64 wx (some ⟨b, 0, none⟩) cap (firsts p N) ∧ Below w.heap.size w wx) (fun t _ => M - (intOf t).toNat)
      case atStart => exact ⟨0, by omega, rfl, hblk, hrd, hbel⟩
      case round =>
        obtain ⟨j, hj, rfl, hbx, hrx, hlx⟩ := hrel
        clear hblk hrd hbel
        by_cases hlt : j < M
        · clear hnxt husd
          obtain ⟨A, hA⟩ : ∃ A, 16 * blk p j = A := ⟨_, rfl⟩
          have hA2 : A + 16 ≤ s := by
            have := hM.out
            unfold blk at hA
            split at hA
            · omega
            · split at hA <;> omega
          have hck : wr.cell? ⟨b, j, none⟩ = some (.int .i64 (A : Int)) := by
            obtain ⟨b', o', e, _, hc⟩ := hrx.2.2.2 (by rw [firsts_len]; omega)
            simp only [Option.some.injEq, Addr.mk.injEq, and_true] at e
            obtain ⟨rfl, rfl⟩ := e
            have := hc j (by rw [firsts_len, hM.out]; exact hlt)
            rw [firsts_at (by rw [hM.out]; exact hlt), hA, Nat.zero_add] at this
            exact this
          have hlt' : (j : Int) < (M : Int) := by omega
          have d1 : ¬ (A : Int) < 0 := by omega
          have d2 : ¬ (s : Int) - 16 < (A : Int) := by omega
          have hturn : ∀ y, A ≤ y → y < A + 16 → turn p y = 16 * j + (y - A) := fun y h1 h2 => by
            have := turn_at hp j (y - A) (by omega)
            rwa [hA, show A + (y - A) = y by omega] at this
          have hst : Blk wr w.heap.size 3 ((marks p s (16 * j + (A - A))).map (Value.int .i64)) := by simpa using hbx
          have HT : Hid (∀ y, A ≤ y → y < A + 16 → turn p y = 16 * j + (y - A)) := hturn
          clear hturn hA hbx
          go_wp2_with fail
          go_loopw [14] (fun t wy => ∃ y : Nat, A ≤ y ∧ y ≤ A + 16 ∧ t = .int .i64 y ∧ Blk wy w.heap.size 3 ((marks p s (16 * j + (y - A))).map (Value.int .i64)) ∧ Reads .i64 wy (some ⟨b, 0, none⟩) cap (firsts p N) ∧ Below w.heap.size w wy) (fun t _ => A + 16 - (intOf t).toNat)
          case atStart => exact ⟨A, Nat.le_refl _, by omega, rfl, hst, hrx, hlx⟩
          case round =>
            obtain ⟨y, hy1, hy2, rfl, hby, hry, hly⟩ := hrel
            clear hst hrx hlx hck
            by_cases hyl : y < A + 16
            · have ht := HT.out y hy1 hyl
              have hys : y < s := by omega
              have hys' : (y : Int) < (s : Int) := by omega
              have k1 : wr.cell? ⟨w.heap.size, y, none⟩ = some (.int .i64 0) := by
                rw [hby.cell, List.getElem?_map, marks_at hys, if_neg (by omega)]
                rfl
              have k2 := hby.frozen y
              have hb2 := hby.put y (.int .i64 1)
              rw [show (Value.int .i64 1 : Value) = Value.int .i64 (1 : Int) from rfl, ← List.map_set, marks_set hp ht] at hb2
              have k3 : (wr.setCell ⟨w.heap.size, y, none⟩ (.int .i64 1)).cell? ⟨w.heap.size, y, none⟩ = some (.int .i64 1) := by
                rw [hb2.cell, List.getElem?_map, marks_at hys, if_pos (by omega)]
                rfl
              have hr2 := hry.kept (only_put wr ⟨w.heap.size, y, none⟩ (.int .i64 1)) (fun _ a ha => by
                obtain rfl := Option.some.inj ha
                exact fun e => by simp only at e; omega)
              have hl2 : Below w.heap.size w (wr.setCell ⟨w.heap.size, y, none⟩ (.int .i64 1)) := hly.setCell (Nat.le_refl _) _
              rw [show 16 * j + (y - A) + 1 = 16 * j + (y + 1 - A) by omega] at hb2
              clear hby hry hly ht
              go_wp2_with fail
              go_roundw
              case rel => exact ⟨y + 1, by omega, by omega, by go_num, hb2, hr2, hl2⟩
              case measure => simp [intOf]; omega
            · obtain rfl : y = A + 16 := by omega
              rw [show 16 * j + (A + 16 - A) = 16 * (j + 1) by omega] at hby
              go_wp2_with fail
              go_roundw
              case rel => exact ⟨j + 1, by omega, by go_num, hby, hry, hly⟩
              case measure => simp [intOf]; omega
        · obtain rfl : M = j := by omega
          clear hbx hrx
          go_wp2_with fail
          go_loop [15, 16] (fun k t => ∃ y : Nat, y ≤ N ∧ t = .int .i64 ((y + 1 : Nat) : Int) ∧ k = .int .i64 ((if y = N then 0 else y : Nat) : Int)) (fun _ t => N + 1 - (intOf t).toNat)
          case atStart => exact ⟨0, by omega, rfl, by rw [if_neg (by omega)]; rfl⟩
          case round =>
            obtain ⟨y, hy, rfl, rfl⟩ := hrel
            by_cases hyl : y < N
            · have c1 := hnxt y hyl
              have c2 := husd y hyl
              rw [if_neg (by omega)]
              obtain ⟨z, hz⟩ : ∃ z, (if y + 1 = N then 0 else y + 1) = z := ⟨_, rfl⟩
              have HZ : Hid ((if y + 1 = N then 0 else y + 1) = z) := hz
              rw [hz] at c1
              clear hnxt husd hz
              go_wp2_with (first
                | (go_at_call 12; refine (c1 _).mono ?_; rintro e wz ⟨rfl, hw⟩; rw [hw]; clear hw)
                | (go_at_call 14; refine (c2 _).mono ?_; rintro e wz ⟨rfl, hw⟩; rw [hw]; clear hw))
              go_round
              case rel => exact ⟨y + 1, by omega, by go_num, by rw [HZ.out]⟩
              case measure => simp [intOf]; omega
            · obtain rfl : N = y := by omega
              rw [if_pos rfl]
              clear hnxt husd
              have q1 : ¬ (N : Int) + 1 ≤ (N : Int) := by omega
              have q2 : decide ((s : Int) - (M : Int) * 16 < 16) = true := by simp; omega
              go_wp2_with fail
              go_ret
              exact ⟨rfl, hlx⟩
end Go.Proofs.Ythghnboblmdehaa.Area
