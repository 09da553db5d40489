/-
  The walk of the statement SatParts: it returns true at every level, rate, most and two spells of ticks.
-/
import Derived.Test.YtmimhejlpejacaaRef
import Derived.Deep.RegionHeld3
namespace Go.Proofs.Ytmimhejlpejacaa.Sat
open Go.RowKit Go.Shelf

set_option maxHeartbeats 1000000 in
theorem parts_any (a b c p q : Int) (ha : Word a) (hb : Word b) (hc : Word c) (hp : Word p) (hq : Word q) (w : World) :
    Calls Try.prog 8 #[.agg #[.int .u64 a, .int .u64 b, .int .u64 c], .agg #[.int .u64 p, .int .u64 q]] w fun e w' => e = .returned (.bool true) ∧ New w w' := by
  by_cases h1 : 9223372036854775807 < p
  · go_enter Try.func8, Try.ntmps8
    go_wp2_with (go_at_call 9; refine (alive_any _).mono ?_; rintro e w' ⟨rfl, rfl⟩)
    go_region
    go_wp2
    go_ret
    exact ⟨rfl, by repeat (first | with_reducible exact New.refl _ | with_reducible apply New.drew | with_reducible apply New.alloc)⟩
  by_cases h2 : 9223372036854775807 < q
  · go_enter Try.func8, Try.ntmps8
    go_wp2_with (go_at_call 9; refine (alive_any _).mono ?_; rintro e w' ⟨rfl, rfl⟩)
    go_region
    go_wp2
    go_ret
    exact ⟨rfl, by repeat (first | with_reducible exact New.refl _ | with_reducible apply New.drew | with_reducible apply New.alloc)⟩
  have hl := min_word ha hc
  have hpq : Word (p + q) := ⟨by have := hp.1; have := hq.1; omega, by omega⟩
  obtain ⟨e1, e2, e3⟩ := fill_parts hl hb hp hq hpq hc (by omega)
  have hs := sfill_word hl hb hp hc
  have p0 := hp.1
  have q0 := hq.1
  go_enter Try.func8, Try.ntmps8
  go_wp2_with (go_at_call 9; refine (alive_any _).mono ?_; rintro e w' ⟨rfl, rfl⟩)
  go_region
  go_wp2_with fail
  go_region_held3 (fun w' => w'.cell? ⟨w.heap.size + 1, 0, none⟩ = some (.int .u64 p) ∧ w'.cell? ⟨w.heap.size + 1, 1, none⟩ = some (.int .u64 q)) (simp [go_sem, *])
    ((go_at_call 22; refine (fill_any _ _ _ _ ?_ ?_ ?_ _).mono ?_; assumption; assumption; assumption; rintro e w' ⟨rfl, rfl⟩))
  go_wp2_with (go_at_call 22; refine (fill_any _ _ _ _ ?_ ?_ ?_ _).mono ?_; assumption; assumption; assumption; rintro e w' ⟨rfl, rfl⟩)
  go_ret
  exact ⟨rfl, by repeat (first | with_reducible exact New.refl _ | with_reducible apply New.drew | with_reducible apply New.alloc)⟩
end Go.Proofs.Ytmimhejlpejacaa.Sat
