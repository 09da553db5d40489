/-
  The walk of the statement SatRefills: it returns true at every four numbers.
-/
import Derived.Test.YtmimhejlpejacaaParts
namespace Go.Proofs.Ytmimhejlpejacaa.Sat
open Go.RowKit Go.Shelf

set_option maxHeartbeats 1000000 in
theorem refills_any (a b c d : Int) (ha : Word a) (hb : Word b) (hc : Word c) (hd : Word d) (w : World) :
    Calls Try.prog 6 #[.agg #[.int .u64 a, .int .u64 b, .int .u64 c, .int .u64 d]] w fun e w' => e = .returned (.bool true) ∧ New w w' := by
  go_enter Try.func6, Try.ntmps6
  go_wp2
  go_region_held3 (fun w' => w'.cell? ⟨w.heap.size, 0, none⟩ = some (.int .u64 a) ∧ w'.cell? ⟨w.heap.size, 1, none⟩ = some (.int .u64 b) ∧ w'.cell? ⟨w.heap.size, 2, none⟩ = some (.int .u64 c) ∧ w'.cell? ⟨w.heap.size, 3, none⟩ = some (.int .u64 d)) (simp [go_sem, *])
    (first
      | (go_at_call 9; refine (alive_any _).mono ?_; rintro e w' ⟨rfl, rfl⟩)
      | (go_at_call 22; refine (fill_any _ _ _ _ ha hb hc _).mono ?_; rintro e w' ⟨rfl, rfl⟩)
      | (go_at_call 24; refine (cross_any _ _ _ _ ha hb hc hd _).mono ?_; rintro e w' ⟨rfl, rfl⟩)
      | (go_at_call 23; refine (rfill_any _ _ _ _ ha hb hc hd _).mono ?_; rintro e w2 ⟨rfl, hn2'⟩; have hc2 := fun o => hn2'.cell (k := w.heap.size) (o := o) (by simp); have hs2 : w.heap.size < w2.heap.size := (by have := hn2'.size; simp at this; omega); have hn2 : Hid (New _ _) := hn2'; clear hn2')
      | (go_at_call 25; refine (rcross_any _ _ _ _ ha hb hc hd _).mono ?_; rintro e w3 ⟨rfl, hn3'⟩; have hc3 := fun o => hn3'.cell (k := w.heap.size) (o := o) (by simpa using hs2); have hn3 : Hid (New _ _) := hn3'; clear hn3'))
  go_wp2
  go_ret
  exact ⟨rfl, (((New.refl _).alloc _ _).drew.trans hn2.out).trans hn3.out⟩
end Go.Proofs.Ytmimhejlpejacaa.Sat
