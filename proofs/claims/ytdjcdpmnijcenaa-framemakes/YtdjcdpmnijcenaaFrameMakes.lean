/-
  The sectors of any record, and how many these are; it stays.
-/
import Derived.Test.YtdjcdpmnijcenaaFrameAlive
import Derived.Test.YtdjcdpmnijcenaaFrameRefMake
namespace Go.Proofs.Ytdjcdpmnijcenaa.Frame
open Go.RowKit Go.Proofs.Ytdjcdpmnijcenaa.Mem Go.Proofs.Ytdjcdpmnijcenaa.Sect Go.Proofs.Ytdjcdpmnijcenaa.Crc
set_option maxRecDepth 100000

theorem made_few (s e : Nat) (p : List Int) : (made s e p).length ≤ 12 := by
  unfold made
  split
  · rw [secs_len]; unfold size; split <;> omega
  · simp
set_option maxHeartbeats 2000000 in
theorem makes_any (s e : Nat) (q : Option Addr) (n c : Nat) (xs : List Int) (x : Int) (hs : s < 18446744073709551616) (he : e < 4294967296) (l : xs.length = n) (hb : ∀ c ∈ xs, Byte c) (w : World) (r : Reads .u8 w q c xs) :
    Calls Try.prog 4 #[.agg #[.int .u64 (s : Int), .int .u32 (e : Int), .slice q n c], .int .i64 x] w fun e w' => e = .returned (.bool true) ∧ Below w.heap.size w w' := by
  obtain ⟨i0, hi, hz0, hz1, hz2⟩ := info_parts info_byte
  have ha := fun w => alive_any w
  have Y1 := Blk.new w #[.int .u64 (s : Int), .int .u32 (e : Int), .slice q n c] 30
  have hB1 := bnew w (.cells #[.int .u64 (s : Int), .int .u32 (e : Int), .slice q n c] 30)
  by_cases h2 : 2000 < n
  · have d : decide ((2000 : Int) < (n : Int)) = true := by simp; omega
    go_enter Try.func4, Try.ntmps4
    go_wp2_with (go_at_call 11; refine (ha _).mono ?_; rintro e w1 ⟨rfl, hb1⟩; have Y2 := Y1.below hb1; have k2 := Y2.cell)
    go_ret
    exact ⟨rfl, bnext hB1 hb1⟩
  · have d : decide ((2000 : Int) < (n : Int)) = false := by simp; omega
    have hM := fun q c W (hW : Reads .u8 W q c xs) => frame_Make s e q n c xs l hs he hb W hW
    have hR := fun q c W (hW : Reads .u8 W q c xs) => ref_Make s e q n c xs l hs he hb W hW
    have hE := fun q1 q2 c1 c2 W (h1 : RK sc W q1 c1 (made s e xs)) (h2 : RK sc W q2 c2 (made s e xs)) => same_secs q1 q2 _ _ c1 c2 _ _ rfl rfl (by have := made_few s e xs; omega) W h1 h2
    have hS1 := fun w => frame_Size x w
    have hS2 := fun w => ref_Size x w
    rw [decide_eq_true (rfl : made s e xs = made s e xs)] at hE
    obtain ⟨M, hMM⟩ : ∃ M, made s e xs = M := ⟨_, rfl⟩
    obtain ⟨F, hF⟩ : ∃ F, fault s xs = F := ⟨_, rfl⟩
    obtain ⟨Z, hZ⟩ : ∃ Z, sizeI x = Z := ⟨_, rfl⟩
    obtain ⟨X, hX⟩ : ∃ X, M.length = X := ⟨_, rfl⟩
    rw [hMM, hF] at hM hR
    rw [hMM] at hE
    rw [hX] at hM hR hE
    rw [hZ] at hS1 hS2
    clear hMM hF hZ hX
    go_enter Try.func4, Try.ntmps4
    go_wp2_with (first
      | (go_at_call 11; refine (ha _).mono ?_; rintro e w1 ⟨rfl, hb1⟩; have Y2 := Y1.below hb1; have k2 := Y2.cell; have k2a := (Y2.alloc (.cells #[] 5)).cell; have rb := r.below (bnext hB1 hb1); have O2 := lit_none (k := .u8) (e := 5) w1)
      | (at_builtin; refine wpList_append_reads _ rfl _ _ 28 rfl w1.heap.size 5 i0 (.int .u8 0) 1 .u8 Try.underlying28 hi hz0 hz1 hz2 rfl (.slice (some ⟨w1.heap.size, 0, none⟩) 0 0) 0 [] rfl O2 q n c xs rfl l (rb.alloc _) ?c3 ?c4 ?c5 ?_))
    case c3 => unfold maxLen; omega
    case c4 => omega
    case c5 => simp
    · intro v3 w3 hown3 hg3
      have R := grew0 (ys := []) (zs := xs) (Nat.le_refl _) (bnew w1 _) O2 hown3 hg3
      clear hown3 hg3 O2
      obtain ⟨hown3, hb3⟩ := R
      rw [List.nil_append] at hown3
      obtain ⟨q3, c3, rfl, r3, -⟩ := own_reads_new hown3
      rw [l]
      have Y3 := Y2.below hb3
      have k3 := Y3.cell
      have rb3 := rb.below hb3
      have hB3 := bnext (bnext hB1 hb1) hb3
      clear hown3 k2 k2a Y2 Y1 rb r hb3 hb1 hB1
      go_wp2_with (first
        | (go_at_call 9; refine (hM q c _ rb3).mono ?_; rintro e w4 ⟨q4, c4, rfl, rk4, hb4⟩; have Y4 := Y3.below hb4; have k4 := Y4.cell; have r4 := r3.below hb4; have rb4 := rb3.below hb4)
        | (go_at_call 13; refine (hR q3 c3 _ r4).mono ?_; rintro e w5 ⟨q5, c5, rfl, rk5, hb5⟩; have Y5 := Y4.below hb5; have r5 := r4.below hb5; have rb5 := rb4.below hb5; have rk5' := rk4.below hb5)
        | (go_at_call 14; refine (hE _ _ _ _ _ rk5' rk5).mono ?_; rintro e w6 ⟨rfl, hb6⟩; have Y6 := Y5.below hb6; have k6 := Y6.cell; have cv1 := conv (r5.below hb6) l; have cv2 := conv (rb5.below hb6) l)
        | (go_at_call 12; refine (hS1 _).mono ?_; rintro e w7 ⟨rfl, rfl⟩)
        | (go_at_call 15; refine (hS2 _).mono ?_; rintro e w8 ⟨rfl, rfl⟩))
      go_ret
      exact ⟨rfl, bnext (bnext (bnext hB3 hb4) hb5) hb6⟩
end Go.Proofs.Ytdjcdpmnijcenaa.Frame
