/-
  Generations of the same parity have one slot; a bigger disk has the smaller one's segments where it has them.
-/
import Derived.Test.YthghnboblmdehaaAreaAlive
import Derived.Deep.RegionHeld
import Derived.LoopTactic
namespace Go.Proofs.Ythghnboblmdehaa.Area
open Go.RowKit Go.Proofs.Ythghnboblmdehaa.Mem
set_option maxRecDepth 100000

theorem same_slot {g h : Int} (hg : 0 ≤ g) (hh : 0 ≤ h) : (slotAt g == slotAt h) = (g.tmod 2 == h.tmod 2) := by
  rw [Bool.eq_iff_iff, beq_iff_eq, beq_iff_eq, Int.tmod_eq_emod_of_nonneg hg, Int.tmod_eq_emod_of_nonneg hh]
  unfold slotAt
  omega
theorem more_segs {S T : Int} (h : S ≤ T) (h1 : 64 ≤ S) (h2 : T ≤ 512) : (S - 32) / 16 ≤ (T - 32) / 16 ∧ ∀ k : Nat, (k : Int) < (S - 32) / 16 → there S k = true ∧ there T k = true :=
  ⟨by omega, fun k hk => ⟨there_iff.2 ⟨by omega, by omega, hk⟩, there_iff.2 ⟨by omega, by omega, by omega⟩⟩⟩
set_option maxHeartbeats 400000 in
theorem slots_any (g h S T : Int) (hg : Word g) (hh : Word h) (w : World) :
    Calls Try.prog 6 #[.agg #[.int .u64 g, .int .u64 h], .agg #[.int .i64 S, .int .i64 T]] w fun e w' => e = .returned (.bool true) ∧ Below w.heap.size w w' := by
  have ha := fun w => alive_any w
  have h1 := fun w => area_Slot g hg w
  have h2 := fun w => area_Slot h hh w
  have hd := same_slot hg.1 hh.1
  have hB := ((((Below.refl w.heap.size w).alloc (Nat.le_refl _) (.cells #[.int .u64 g, .int .u64 h] 38)).alloc (by simp) (.cells #[.int .i64 S, .int .i64 T] 27)).drew)
  obtain ⟨g0, g1⟩ := hg
  obtain ⟨h0, h9⟩ := hh
  go_enter Try.func6, Try.ntmps6
  go_wp2_with (go_at_call 9; refine (ha _).mono ?_; rintro e w1 ⟨rfl, hw⟩; rw [hw]; clear hw)
  go_region_held (fun w' => w'.cell? ⟨w.heap.size, 0, none⟩ = some (.int .u64 g) ∧ w'.cell? ⟨w.heap.size, 1, none⟩ = some (.int .u64 h)) (simp [go_sem, *])
    ((go_at_call 16; (first | ((with_reducible refine (h1 _).mono ?_); rintro e w1 ⟨rfl, hw⟩; rw [hw]; clear hw) | ((with_reducible refine (h2 _).mono ?_); rintro e w1 ⟨rfl, hw⟩; rw [hw]; clear hw))))
  by_cases c1 : T < S
  · go_wp2_with fail
    go_ret
    exact ⟨rfl, hB⟩
  by_cases c2 : S < 64
  · go_wp2_with fail
    go_ret
    exact ⟨rfl, hB⟩
  by_cases c3 : 512 < T
  · go_wp2_with fail
    go_ret
    exact ⟨rfl, hB⟩
  obtain ⟨hnm, hth⟩ := more_segs (S := S) (T := T) (by omega) (by omega) (by omega)
  have hS := area_Segs S
  have hT := area_Segs T
  have fS : fits S = true := fits_iff.2 (by omega)
  have fT : fits T = true := fits_iff.2 (by omega)
  rw [cnt_ok fS, segE_ok fS] at hS
  rw [cnt_ok fT, segE_ok fT] at hT
  have h7 : (S - 32) / 16 ≤ 30 := by omega
  have h8 : 0 ≤ (S - 32) / 16 := by omega
  clear fS fT
  generalize (S - 32) / 16 = n at *
  generalize (T - 32) / 16 = m at *
  have hc : ∀ k : Nat, (k : Int) < n → ∀ w, Calls Try.prog 8 #[.int .i64 S, .int .i64 (k : Int)] w fun e w' => e = .returned (.tuple #[.int .i64 (32 + (k : Int) * 16), .int .i64 0]) ∧ w' = w := fun k hk w => by
    have := area_Seg S k w
    rwa [plc_ok (hth k hk).1, plE_ok (hth k hk).1] at this
  have hd2 : ∀ k : Nat, (k : Int) < n → ∀ w, Calls Try.prog 8 #[.int .i64 T, .int .i64 (k : Int)] w fun e w' => e = .returned (.tuple #[.int .i64 (32 + (k : Int) * 16), .int .i64 0]) ∧ w' = w := fun k hk w => by
    have := area_Seg T k w
    rwa [plc_ok (hth k hk).2, plE_ok (hth k hk).2] at this
  clear hth
  go_wp2_with (go_at_call 7; (first | ((with_reducible refine (hS _).mono ?_); rintro e w1 ⟨rfl, hw⟩; rw [hw]; clear hw) | ((with_reducible refine (hT _).mono ?_); rintro e w1 ⟨rfl, hw⟩; rw [hw]; clear hw)))
  go_loop [9] (fun x => ∃ k : Nat, x = .int .i64 k ∧ (k : Int) ≤ n) (fun x => 40 - (intOf x).toNat)
  case atStart => exact ⟨0, rfl, by omega⟩
  case round =>
    obtain ⟨k, rfl, hk⟩ := hrel
    by_cases hlt : (k : Int) < n
    · have c4 := hc k hlt
      have c5 := hd2 k hlt
      go_wp2_with (go_at_call 8; (first | ((with_reducible refine (c4 _).mono ?_); rintro e w1 ⟨rfl, hw⟩; rw [hw]; clear hw) | ((with_reducible refine (c5 _).mono ?_); rintro e w1 ⟨rfl, hw⟩; rw [hw]; clear hw)))
      go_round
      case rel => exact ⟨k + 1, by go_num, by omega⟩
      case measure => simp [intOf]; omega
    · go_wp2_with fail
      go_ret
      exact ⟨rfl, hB⟩
end Go.Proofs.Ythghnboblmdehaa.Area
