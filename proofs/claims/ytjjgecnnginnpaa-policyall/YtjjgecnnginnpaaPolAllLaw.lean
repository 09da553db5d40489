/-
  The walk of PolicyAll.
-/
import Derived.Test.YtjjgecnnginnpaaPolAppend
import Derived.Test.YtjjgecnnginnpaaPolAlive
import Derived.Test.YtjjgecnnginnpaaPolRefAll
namespace Go.Proofs.Ytjjgecnnginnpaa.Policy
open Go.RowKit Go.Proofs.Ytjjgecnnginnpaa.Mem Go.Proofs.Ytjjgecnnginnpaa.Addr
set_option maxRecDepth 100000

set_option maxHeartbeats 2000000 in
theorem all_any (q : Option Addr) (n c : Nat) (xs : List Po) (hl : xs.length = n) (w : World) (r : RK pl w q c xs) (ho : ∀ p ∈ xs, PoOk p) :
    Calls Try.prog 5 #[.slice q n c] w fun e w' => e = .returned (.bool true) ∧ Below w.heap.size w w' := by
  have ha := fun W => alive_any W
  by_cases h40 : 40 < n
  · have h40i : (40 : Int) < (n : Int) := by omega
    go_enter Try.func5, Try.ntmps5
    go_wp2_with ((with_reducible refine (ha _).mono ?_); rintro e w2 ⟨rfl, hB2⟩)
    go_ret
    exact ⟨rfl, hB2⟩
  · have h40i : decide ((40 : Int) < (n : Int)) = false := decide_eq_false (by omega)
    have hA := fun {W : World} {q c} (r : RK pl W q c xs) => policy_All q n c xs hl (by omega) W r ho
    have hB := fun {W : World} {q c} (r : RK pl W q c xs) => ref_AllP q n c xs hl (by omega) W r ho
    generalize allE xs = E at hA hB
    go_enter Try.func5, Try.ntmps5
    go_wp2_with (first
      | ((fail_if_success (have _ := hB2)); (with_reducible refine (ha _).mono ?_); rintro e w2 ⟨rfl, hB2⟩; have hown := none_own w2; have r3 := (r.below hB2).alloc (.cells #[] 28))
      | ((fail_if_success (have _ := hB4)); (have _ := hB2); (refine at_append_pol _ _ (by rfl) w2.heap.size (.slice (some ⟨w2.heap.size, 0, none⟩) 0 0) 0 [] (by rfl) hown q n c xs (by rfl) hl r3 (by omega) (by simp) (by rfl) ?_); intro v4 V4 ho4 hg4; obtain ⟨q4, c4, hv4, r4, -⟩ := own_rk pl_len (by decide) ho4; subst hv4; simp only [List.nil_append] at r4; rw [List.nil_append, hl]; have hB4 : Below w2.heap.size w2 V4 := (bnew w2 (.cells #[] 28)).grown hg4 (by simp) (fun j hj => by simp [Value.ownBlock] at hj; omega); have hB14 := bnext hB2 hB4)
      | ((fail_if_success (have _ := hB5)); (have _ := hB4); (with_reducible refine (hA r4).mono ?_); rintro e w5 ⟨rfl, hB5⟩; have hB15 := bnext hB14 hB5; have r15 := r.below hB15)
      | ((fail_if_success (have _ := hB6)); (have _ := hB5); (with_reducible refine (hB r15).mono ?_); rintro e w6 ⟨rfl, hB6⟩))
    go_ret
    exact ⟨rfl, bnext hB15 hB6⟩
end Go.Proofs.Ytjjgecnnginnpaa.Policy
