/-
  The walk of LebApart: it returns true, whatever its arguments, and no memory that was there has turned.
-/
import Derived.Test.YtcbhenjfjncddaaLebAlive
import Derived.Deep.QuietTactic
import Derived.BigQuiet
namespace Go.Proofs.Ytcbhenjfjncddaa.Leb
open Go.RowKit

theorem apart_same (a : Int) (ha : Word a) (w : World) :
    Calls Try.prog 8 #[.int .u64 a, .int .u64 a] w fun e w' => e = .returned (.bool true) ∧ Below w.heap.size w w' := by
  go_enter Try.func8, Try.ntmps8
  go_wp2_with (first
    | (go_at_call 10; refine (alive_any _).mono ?_; rintro e w1 ⟨rfl, hb1⟩)
    | (go_at_call 14; first
      | (clear h2; refine (put_any a ha _).mono ?_; rintro e w3 ⟨g3, cp3, rfl, hr3, hb3⟩; have hcv3 := conv hr3 rfl; have hcv2 := conv (hr2.below hb3) rfl)
      | (refine (put_any a ha _).mono ?_; rintro e w2 ⟨g2, cp2, rfl, hr2, hb2⟩; have h2 := hb2)))
  go_ret
  exact ⟨rfl, bnext (bnext hb1 hb2) (by assumption)⟩

set_option maxHeartbeats 4000000 in
theorem apart_other (a b : Int) (ha : Word a) (hb : Word b) (h : ¬ a = b) (w : World) :
    Calls Try.prog 8 #[.int .u64 a, .int .u64 b] w fun e w' => e = .returned (.bool true) ∧ Below w.heap.size w w' := by
  have hne : (a == b) = false := by simpa using h
  obtain ⟨L, hL⟩ : ∃ L, L = min (put a).length (put b).length := ⟨_, rfl⟩
  have hmin : min ((put a).length : Int) ((put b).length : Int) = (L : Int) := by omega
  have hs : ((str ((put a).take L)).toList == (str ((put b).take L)).toList) = false := by
    rw [str_eq (fun c hc => put_bytes a ha.1 c (List.mem_of_mem_take hc)) (fun c hc => put_bytes b hb.1 c (List.mem_of_mem_take hc))]
    have := put_apart ha hb h
    rw [← hL] at this
    simpa using this
  have t1 : ((put a).take L).length = L := by simp; omega
  have t2 : ((put b).take L).length = L := by simp; omega
  have hord : (a < b ∧ (put a).length ≤ (put b).length) ∨ (b < a ∧ (put b).length ≤ (put a).length) := by
    rcases Int.lt_or_gt_of_ne h with g | g
    · exact .inl ⟨g, put_mono ha.1 (by omega)⟩
    · exact .inr ⟨g, put_mono hb.1 (by omega)⟩
  have hLa : L ≤ (put a).length := by omega
  have hLb : L ≤ (put b).length := by omega
  obtain ⟨A, hA⟩ : ∃ A, A = (put a).length := ⟨_, rfl⟩
  obtain ⟨B, hB⟩ : ∃ B, B = (put b).length := ⟨_, rfl⟩
  have pa := fun w => put_any a ha w
  have pb := fun w => put_any b hb w
  rw [← hA] at pa hmin hord hLa
  rw [← hB] at pb hmin hord hLb
  have HA : Hid (A = (put a).length) := hA
  have HB : Hid (B = (put b).length) := hB
  clear hL hA hB
  have key : (decide (b < a) = false ∧ decide (B < A) = false ∧ (A == B) = true) ∨ (decide (b < a) = false ∧ decide (B < A) = false ∧ (A == B) = false) ∨
      (decide (b < a) = true ∧ decide (B < A) = true ∧ (A == B) = false) ∨ (decide (b < a) = true ∧ decide (B < A) = false ∧ (A == B) = true) := by
    have n1 : (A == B) = decide (A = B) := by rw [Bool.eq_iff_iff]; simp
    rw [n1]
    simp only [decide_eq_true_eq, decide_eq_false_iff_not]
    omega
  have n2 : decide ((B : Int) < (A : Int)) = decide (B < A) := by simp
  have n3 : ((A : Int) == (B : Int)) = (A == B) := by rw [Bool.eq_iff_iff]; simp; omega
  clear hord h
  rcases key with ⟨e1, e2, e3⟩ | ⟨e1, e2, e3⟩ | ⟨e1, e2, e3⟩ | ⟨e1, e2, e3⟩
  all_goals
    go_enter Try.func8, Try.ntmps8
    go_wp2_with (first
      | (go_at_call 10; refine (alive_any _).mono ?_; rintro e w1 ⟨rfl, hb1⟩)
      | (go_at_call 14; first
        | ((with_reducible refine (pa _).mono ?_); rintro e w2 ⟨g2, cp2, rfl, hr2, hb2⟩)
        | ((with_reducible refine (pb _).mono ?_); rintro e w3 ⟨g3, cp3, rfl, hr3, hb3⟩; have hc2 := fun w => run_upto w g2 0 A cp2 L (by have := hr2.1; have := HA.out; omega); have hc3 := fun w => run_upto w g3 0 B cp3 L (by have := hr3.1; have := HB.out; omega); have hcv2 := fun n => conv (((hr2.below hb3).drewN n).upto L) t1; have hcv3 := fun n => conv ((hr3.drewN n).upto L) t2)))
    go_quiet (fail)
    go_wp2_with fail
    go_ret
    exact ⟨rfl, bnext (bnext (bnext hb1 hb2) hb3) (bdrewN _ _)⟩

theorem apart_any (a b : Int) (ha : Word a) (hb : Word b) (w : World) :
    Calls Try.prog 8 #[.int .u64 a, .int .u64 b] w fun e w' => e = .returned (.bool true) ∧ Below w.heap.size w w' := by
  by_cases h : a = b
  · subst h; exact apart_same a ha w
  · exact apart_other a b ha hb h w
end Go.Proofs.Ytcbhenjfjncddaa.Leb
