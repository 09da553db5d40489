/-
  What each function of package sat gives, for every input of its types: one contract a function, the world as it was.
-/
import Derived.Test.YtmimhejlpejacabRows
import Derived.Test.YtmimhejlpejacabShelf
import Derived.Test.YtmimhejlpejacabPlain
import Derived.Test.YtmimhejlpejacabNews
import Derived.WalkKit
import Derived.WalkSpells
import Derived.WalkLawsBesides
import Derived.RowKit3
import Derived.Laws.Externs
namespace Go.Proofs.Ytmimhejlpejacab.Sat
open Go.RowKit Go.Shelf

theorem add64 (x y : Int) (hx : 0 ≤ x) (hy : 0 ≤ y) (w : World) : (callFunc 17 #[.int .u64 x, .int .u64 y, .int .u64 0]).run Try.prog w =
    .ok (.value (.tuple #[.int .u64 ((x + y) % 18446744073709551616), .int .u64 ((x + y) / 18446744073709551616)])) w := by
  rw [run_callFunc_extern Try.func17 (by kernel_rfl) (by kernel_rfl) (by kernel_rfl) (e := add64Entry) (by kernel_rfl), run_add64 x y 0 hx hy (by omega) (by omega)]
  simp only [Result.andThen, Int.add_zero]

/-- What a reading hands over of a uint64, and of an int. -/
theorem word_of_wf {x : Int} (h : (Lit.int .u64 x).wf = true) : Word x := by
  simp [Lit.wf, IntKind.min, IntKind.max, IntKind.signed, IntKind.bits] at h
  exact ⟨by omega, by omega⟩
theorem inty_of_wf {x : Int} (h : (Lit.int .i64 x).wf = true) : Inty x := by
  simp [Lit.wf, IntKind.min, IntKind.max, IntKind.signed, IntKind.bits] at h
  exact ⟨by omega, by omega⟩

theorem ret_int {k : IntKind} {a b : Int} (h : a = b) : Ending.returned (.int k a) = .returned (.int k b) := by rw [h]

/-- sat.Add. -/
theorem add_any (a b : Int) (ha : Word a) (hb : Word b) (w : World) :
    Calls Try.prog 8 #[.int .u64 a, .int .u64 b] w fun e w' => e = .returned (.int .u64 (sadd a b)) ∧ w' = w := by
  obtain ⟨a0, a1⟩ := ha; obtain ⟨b0, b1⟩ := hb
  unfold sadd
  by_cases h : a + b ≤ 18446744073709551615
  · go_enter Try.func8, Try.ntmps8
    go_wp2_with (simp only [add64 a b a0 b0])
    go_ret
    exact ⟨ret_int (by omega), rfl⟩
  · go_enter Try.func8, Try.ntmps8
    go_wp2_with (simp only [add64 a b a0 b0])
    go_ret
    exact ⟨rfl, rfl⟩

/-- sat.Sub. -/
theorem sub_any (a b : Int) (ha : Word a) (hb : Word b) (w : World) :
    Calls Try.prog 13 #[.int .u64 a, .int .u64 b] w fun e w' => e = .returned (.int .u64 (ssub a b)) ∧ w' = w := by
  obtain ⟨a0, a1⟩ := ha; obtain ⟨b0, b1⟩ := hb
  unfold ssub
  by_cases h : a < b
  · go_enter Try.func13, Try.ntmps13
    go_wp2
    go_ret
    exact ⟨rfl, rfl⟩
  · go_enter Try.func13, Try.ntmps13
    go_wp2
    go_ret
    exact ⟨rfl, rfl⟩

/-- math/bits.Mul64, over whole numbers. -/
theorem mul64 (x y : Int) (hx : Word x) (hy : Word y) (w : World) :
    Calls Try.prog 15 #[.int .u64 x, .int .u64 y] w fun e w' => e = .returned (.tuple #[.int .u64 (hi x y), .int .u64 (lo x y)]) ∧ w' = w := by
  obtain ⟨x0, x1⟩ := hx; obtain ⟨y0, y1⟩ := hy
  obtain ⟨X, rfl⟩ := Int.eq_ofNat_of_zero_le x0
  obtain ⟨Y, rfl⟩ := Int.eq_ofNat_of_zero_le y0
  refine (Try.bits_Mul64 X Y (by omega) (by omega) w).mono ?_
  rintro e w' ⟨rfl, rfl⟩
  refine ⟨?_, rfl⟩
  simp [hi, lo]

/-- sat.Mul. -/
theorem mul_any (a b : Int) (ha : Word a) (hb : Word b) (w : World) :
    Calls Try.prog 9 #[.int .u64 a, .int .u64 b] w fun e w' => e = .returned (.int .u64 (smul a b)) ∧ w' = w := by
  by_cases h : a * b ≤ 18446744073709551615
  · have e1 : (hi a b != 0) = false := by rw [hi_zero ha hb h]; rfl
    have e2 : smul a b = lo a b := by rw [lo_zero ha hb h]; unfold smul; rw [if_pos h]
    rw [e2]; clear e2 h
    go_enter Try.func9, Try.ntmps9
    go_wp2_with (go_at_call 15; refine (mul64 a b ha hb _).mono ?_; rintro e w' ⟨rfl, rfl⟩)
    go_ret
    exact ⟨rfl, rfl⟩
  · have e1 : (hi a b != 0) = true := by simpa using hi_pos h
    have e2 : smul a b = 18446744073709551615 := by unfold smul; rw [if_neg h]
    rw [e2]; clear e2 h
    go_enter Try.func9, Try.ntmps9
    go_wp2_with (go_at_call 15; refine (mul64 a b ha hb _).mono ?_; rintro e w' ⟨rfl, rfl⟩)
    go_ret
    exact ⟨rfl, rfl⟩

/-- sat.compare. -/
theorem cmp_any (a b : Int) (w : World) :
    Calls Try.prog 16 #[.int .u64 a, .int .u64 b] w fun e w' => e = .returned (.int .i64 (scmp a b)) ∧ w' = w := by
  unfold scmp
  by_cases h : a < b
  · go_enter Try.func16, Try.ntmps16
    go_wp2
    go_ret
    exact ⟨rfl, rfl⟩
  · by_cases h' : b < a
    · go_enter Try.func16, Try.ntmps16
      go_wp2
      go_ret
      exact ⟨rfl, rfl⟩
    · go_enter Try.func16, Try.ntmps16
      go_wp2
      go_ret
      exact ⟨rfl, rfl⟩

/-- sat.Cross. -/
theorem cross_any (a b c d : Int) (ha : Word a) (hb : Word b) (hc : Word c) (hd : Word d) (w : World) :
    Calls Try.prog 7 #[.int .u64 a, .int .u64 b, .int .u64 c, .int .u64 d] w fun e w' => e = .returned (.int .i64 (scmp (a * b) (c * d))) ∧ w' = w := by
  rw [scmp_hilo a b c d]
  by_cases h : hi a b = hi c d
  · have e1 : (hi a b != hi c d) = false := by simpa using h
    rw [if_pos h]; clear h
    go_enter Try.func7, Try.ntmps7
    go_wp2_with (first | (go_at_call 15; refine (mul64 _ _ ‹_› ‹_› _).mono ?_; rintro e w' ⟨rfl, rfl⟩) | (go_at_call 16; refine (cmp_any _ _ _).mono ?_; rintro e w' ⟨rfl, rfl⟩))
    go_ret
    exact ⟨rfl, rfl⟩
  · have e1 : (hi a b != hi c d) = true := by simpa using h
    rw [if_neg h]; clear h
    go_enter Try.func7, Try.ntmps7
    go_wp2_with (first | (go_at_call 15; refine (mul64 _ _ ‹_› ‹_› _).mono ?_; rintro e w' ⟨rfl, rfl⟩) | (go_at_call 16; refine (cmp_any _ _ _).mono ?_; rintro e w' ⟨rfl, rfl⟩))
    go_ret
    exact ⟨rfl, rfl⟩

/-- sat.Refill. -/
theorem fill_any (l r t m : Int) (hl : Word l) (hr : Word r) (ht : Word t) (w : World) :
    Calls Try.prog 14 #[.int .u64 l, .int .u64 r, .int .u64 t, .int .u64 m] w fun e w' => e = .returned (.int .u64 (sfill l r t m)) ∧ w' = w := by
  have hrt := smul_word hr ht
  unfold sfill
  go_enter Try.func14, Try.ntmps14
  go_wp2_with (first | (go_at_call 9; refine (mul_any _ _ hr ht _).mono ?_; rintro e w' ⟨rfl, rfl⟩) | (go_at_call 8; refine (add_any _ _ hl hrt _).mono ?_; rintro e w' ⟨rfl, rfl⟩))
  go_ret
  exact ⟨rfl, rfl⟩

/-- sat.Log. -/
theorem log_any (a : Int) (ha : Word a) (w : World) :
    Calls Try.prog 12 #[.int .u64 a] w fun e w' => e = .returned (.int .i64 (slog a)) ∧ w' = w := by
  obtain ⟨a0, a1⟩ := ha
  unfold slog
  go_enter Try.func12, Try.ntmps12
  go_wp2_with (go_at_call 19; refine (Try.bits_Len64 a _ a0 a1).mono ?_; rintro e w' ⟨rfl, rfl⟩)
  go_ret
  exact ⟨rfl, rfl⟩

/-- sat.Shr. -/
theorem shr_any (a n : Int) (ha : Word a) (hn : Inty n) (w : World) :
    Calls Try.prog 11 #[.int .u64 a, .int .i64 n] w fun e w' => e = .returned (.int .u64 (sshr a n)) ∧ w' = w := by
  obtain ⟨a0, a1⟩ := ha; obtain ⟨n0, n1⟩ := hn
  by_cases h : n < 0
  · have e1 : sshr a n = a := by unfold sshr; rw [if_pos h]
    rw [e1]
    go_enter Try.func11, Try.ntmps11
    go_wp2
    go_ret
    exact ⟨rfl, rfl⟩
  · rw [← shr_min ⟨a0, a1⟩ h]
    go_enter Try.func11, Try.ntmps11
    go_wp2
    go_ret
    exact ⟨rfl, rfl⟩

/-- sat.Shl. -/
theorem shl_any (a n : Int) (ha : Word a) (hn : Inty n) (w : World) :
    Calls Try.prog 10 #[.int .u64 a, .int .i64 n] w fun e w' => e = .returned (.int .u64 (sshl a n)) ∧ w' = w := by
  obtain ⟨a0, a1⟩ := ha; obtain ⟨n0, n1⟩ := hn
  by_cases hz : a = 0
  · subst hz
    have e1 : sshl 0 n = 0 := by unfold sshl; simp
    rw [e1]
    by_cases h : n < 0
    all_goals
      go_enter Try.func10, Try.ntmps10
      go_wp2
      go_ret
      exact ⟨rfl, rfl⟩
  by_cases h : n < 0
  · have e1 : sshl a n = a := by unfold sshl; rw [if_pos h]
    rw [e1]
    go_enter Try.func10, Try.ntmps10
    go_wp2
    go_ret
    exact ⟨rfl, rfl⟩
  by_cases hb : 64 - slog a < n
  · have e1 : sshl a n = 18446744073709551615 := sshl_over ⟨a0, a1⟩ hz hb
    rw [e1]; clear e1
    unfold slog at hb
    go_enter Try.func10, Try.ntmps10
    go_wp2_with (go_at_call 18; refine (Try.bits_LeadingZeros64 a _ a0 a1).mono ?_; rintro e w' ⟨rfl, rfl⟩)
    go_ret
    exact ⟨rfl, rfl⟩
  · obtain ⟨e1, e2⟩ := sshl_in ⟨a0, a1⟩ h hb
    have e3 : IntKind.u64.wrap (a * 2 ^ n.toNat) = a * 2 ^ n.toNat := by
      have := Int.mul_nonneg a0 (Int.le_of_lt (two_pow_pos n.toNat))
      rw [IntKind.wrap_u64]; omega
    rw [e1, ← e3]; clear e1 e2 e3
    unfold slog at hb
    go_enter Try.func10, Try.ntmps10
    go_wp2_with (go_at_call 18; refine (Try.bits_LeadingZeros64 a _ a0 a1).mono ?_; rintro e w' ⟨rfl, rfl⟩)
    go_ret
    exact ⟨rfl, rfl⟩

/-- The chapter's examples hold. -/
theorem alive_any (w : World) : Calls Try.prog 6 #[] w fun e w' => e = .returned (.bool true) ∧ w' = w := by
  have f1 : sfill 5 3 4 10 = 10 := by decide
  have f2 : scmp (2 * 3) (1 * 7) = -1 := by decide
  have f3 : sadd 2 3 = 5 := by decide
  have f4 : smul 6 7 = 42 := by decide
  have g1 := fill_any 5 3 4 10 ⟨by decide, by decide⟩ ⟨by decide, by decide⟩ ⟨by decide, by decide⟩
  have g2 := cross_any 2 3 1 7 ⟨by decide, by decide⟩ ⟨by decide, by decide⟩ ⟨by decide, by decide⟩ ⟨by decide, by decide⟩
  have g3 := add_any 2 3 ⟨by decide, by decide⟩ ⟨by decide, by decide⟩
  have g4 := mul_any 6 7 ⟨by decide, by decide⟩ ⟨by decide, by decide⟩
  rw [f1] at g1; rw [f2] at g2; rw [f3] at g3; rw [f4] at g4
  clear f1 f2 f3 f4
  go_enter Try.func6, Try.ntmps6
  go_wp2_with (first | (go_at_call 14; refine (g1 _).mono ?_; rintro e w' ⟨rfl, rfl⟩) | (go_at_call 7; refine (g2 _).mono ?_; rintro e w' ⟨rfl, rfl⟩) | (go_at_call 8; refine (g3 _).mono ?_; rintro e w' ⟨rfl, rfl⟩) | (go_at_call 9; refine (g4 _).mono ?_; rintro e w' ⟨rfl, rfl⟩))
  go_ret
  exact ⟨rfl, rfl⟩
end Go.Proofs.Ytmimhejlpejacab.Sat
