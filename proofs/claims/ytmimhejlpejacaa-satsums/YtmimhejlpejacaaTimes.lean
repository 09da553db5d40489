/-
  What floodgateref01.Times gives: four parts of the product.
-/
import Derived.Test.YtmimhejlpejacaaRef
namespace Go.Proofs.Ytmimhejlpejacaa.Sat
open Go.RowKit Go.Shelf

set_option maxHeartbeats 2000000 in
theorem times_any (a b : Int) (ha : Word a) (hb : Word b) (w : World) :
    Calls Try.prog 34 #[.int .u64 a, .int .u64 b] w fun e w' => ∃ z0 z1 z2 z3, e = .returned (.agg #[.int .u64 z0, .int .u64 z1, .int .u64 z2, .int .u64 z3]) ∧ (Part z0 ∧ Part z1 ∧ Part z2 ∧ Part z3 ∧ val z0 z1 z2 z3 = a * b) ∧ New w w' := by
  have T : Hid (_ = _) := times_val a b
  have m00 := part_mul (part_mod a) (part_mod b)
  have m01 := part_mul (part_mod a) (part_div hb.1 hb.2)
  have m10 := part_mul (part_div ha.1 ha.2) (part_mod b)
  have m11 := part_mul (part_div ha.1 ha.2) (part_div hb.1 hb.2)
  obtain ⟨n00, k00⟩ := m00
  obtain ⟨n01, k01⟩ := m01
  obtain ⟨n10, k10⟩ := m10
  obtain ⟨n11, k11⟩ := m11
  go_enter Try.func34, Try.ntmps34
  go_wp2_with (go_at_call 33; refine (of_any _ ‹_› _).mono ?_; rintro e w1 ⟨rfl, c1, rfl⟩)
  refine wp_loop_rounds 3 ?_
  rw [rounds_succ]
  go_wp2
  refine wp_loop_rounds 3 ?_
  rw [rounds_succ]
  go_wp2
  go_region
  go_wp2_with (go_at_call 32; refine (plus_any _ _ _ _ _ _ _ _ part_zero part_zero part_zero part_zero (part_mod _) (part_div n00 (by omega)) part_zero part_zero ?_ _).mono ?_; (rw [val_zero, val_lo]; omega); rintro e w1 ⟨s0, s1, s2, s3, rfl, ⟨sp0, sp1, sp2, sp3, HS'⟩, sc1, sc2, sc3, sc4, rfl⟩; have HS : Hid (_ = _) := HS'; clear HS')
  rw [rounds_succ]
  go_wp2
  go_region
  go_wp2_with (go_at_call 32; refine (plus_any _ _ _ _ _ _ _ _ sp0 sp1 sp2 sp3 part_zero (part_mod _) (part_div n01 (by omega)) part_zero ?_ _).mono ?_; (rw [HS.out, val_zero, val_lo, val_mid]; omega); rintro e w1 ⟨t0, t1, t2, t3, rfl, ⟨tp0, tp1, tp2, tp3, HT'⟩, tc1, tc2, tc3, tc4, rfl⟩; have HT : Hid (_ = _) := HT'; clear HT')
  rw [rounds_succ]
  go_wp2
  rw [rounds_succ]
  go_wp2
  refine wp_loop_rounds 3 ?_
  rw [rounds_succ]
  go_wp2
  go_region
  go_wp2_with (go_at_call 32; refine (plus_any _ _ _ _ _ _ _ _ tp0 tp1 tp2 tp3 part_zero (part_mod _) (part_div n10 (by omega)) part_zero ?_ _).mono ?_; (rw [HT.out, HS.out, val_zero, val_lo, val_mid, val_mid]; omega); rintro e w1 ⟨u0, u1, u2, u3, rfl, ⟨up0, up1, up2, up3, HU'⟩, uc1, uc2, uc3, uc4, rfl⟩; have HU : Hid (_ = _) := HU'; clear HU')
  rw [rounds_succ]
  go_wp2
  go_region
  go_wp2_with (go_at_call 32; refine (plus_any _ _ _ _ _ _ _ _ up0 up1 up2 up3 part_zero part_zero (part_mod _) (part_div n11 (by omega)) ?_ _).mono ?_; (rw [HU.out, HT.out, HS.out, val_zero, val_lo, val_mid, val_mid, val_top]; omega); rintro e w1 ⟨v0, v1, v2, v3, rfl, ⟨vp0, vp1, vp2, vp3, HV'⟩, vc1, vc2, vc3, vc4, rfl⟩; have HV : Hid (_ = _) := HV'; clear HV')
  rw [rounds_succ]
  go_wp2
  rw [rounds_succ]
  go_wp2
  refine bodyPost_ret (v := .agg #[.int .u64 v0, .int .u64 v1, .int .u64 v2, .int .u64 v3]) (by simp [results, Try.results34, go_sem]) rfl ⟨v0, v1, v2, v3, rfl, ⟨vp0, vp1, vp2, vp3, ?_⟩, ?_⟩
  · rw [HV.out, HU.out, HT.out, HS.out, val_zero, val_lo, val_mid, val_mid, val_top, ← T.out]; omega
  · repeat (first | with_reducible exact New.refl _ | with_reducible apply New.drew | with_reducible apply New.alloc)
end Go.Proofs.Ytmimhejlpejacaa.Sat
