/-
  The walk of PolicyPart. (Written by gen_ppart.py.)
-/
import Derived.Test.YtjjgecnnginnpaaPolAppend
import Derived.Test.YtjjgecnnginnpaaPolAlive
import Derived.Test.YtjjgecnnginnpaaPolRefAll
namespace Go.Proofs.Ytjjgecnnginnpaa.Policy
open Go.RowKit Go.Proofs.Ytjjgecnnginnpaa.Mem Go.Proofs.Ytjjgecnnginnpaa.Addr
set_option maxRecDepth 100000

theorem less_all {xs : List Po} (h : Tog xs) {a b : Nat} (hab : a ≤ b) : allE (xs.take a ++ xs.drop b) = 0 := all_yes (tog_sub h (less_sub xs hab))
theorem twice_all {xs : List Po} {a b : Nat} (hab : a < b) (hb : b ≤ xs.length) : allE (xs.take b ++ xs.drop a) = 111 := all_no (twice_no hab hb)
theorem part_ok {xs : List Po} (ho : ∀ p ∈ xs, PoOk p) (a b : Nat) : ∀ p ∈ xs.take a ++ xs.drop b, PoOk p := fun p hp => by
  rcases List.mem_append.1 hp with h | h
  · exact ho p (List.mem_of_mem_take h)
  · exact ho p (List.mem_of_mem_drop h)
set_option maxHeartbeats 8000000 in
theorem part_main (q : Option Addr) (n c : Nat) (xs : List Po) (ya zb : Nat) (hl : xs.length = n) (hn : n ≤ 8) (w : World) (r : RK pl w q c xs) (ho : ∀ p ∈ xs, PoOk p) (hT : allE xs = 0) (hab : ya ≤ zb) (hbn : zb ≤ n) :
    Calls Try.prog 7 #[.slice q n c, .agg #[.int .i64 (ya : Int), .int .i64 (zb : Int)]] w fun e w' => e = .returned (.bool true) ∧ Below w.heap.size w w' := by
  have ha := fun W => alive_any W
  have hcap := r.1
  have h8i : decide ((8 : Int) < (n : Int)) = false := decide_eq_false (by omega)
  have hA := fun {W : World} {q c} (r : RK pl W q c xs) => policy_All q n c xs hl (by omega) W r ho
  rw [hT] at hA
  have hTog : Tog xs := by
    apply Classical.byContradiction
    intro h
    rw [all_no h] at hT
    cases hT
  have hla : (xs.take ya).length = ya := by rw [List.length_take]; omega
  have hlb : (xs.take zb).length = zb := by rw [List.length_take]; omega
  have hda : (xs.drop ya).length = n - ya := by rw [List.length_drop]; omega
  have hdb : (xs.drop zb).length = n - zb := by rw [List.length_drop]; omega
  have hLs := fun {W : World} {q c} (r : RK pl W q c (xs.take ya ++ xs.drop zb)) => policy_All q (ya + (n - zb)) c (xs.take ya ++ xs.drop zb) (by rw [List.length_append, hla, hdb]) (by omega) W r (part_ok ho ya zb)
  rw [less_all hTog hab] at hLs
  have hW := fun {W : World} {q c} (hlt : ya < zb) (r : RK pl W q c (xs.take zb ++ xs.drop ya)) => policy_All q (zb + (n - ya)) c (xs.take zb ++ xs.drop ya) (by rw [List.length_append, hlb, hda]) (by omega) W r (part_ok ho zb ya)
  have hW2 : ya < zb → allE (xs.take zb ++ xs.drop ya) = 111 := fun h => twice_all h (by omega)
  have hua := fun W => run_upto_p W q n c ya (by omega)
  have hub := fun W => run_upto_p W q n c zb (by omega)
  have hfa := fun W => run_from_p W q n c ya (by omega)
  have hfb := fun W => run_from_p W q n c zb (by omega)
  have g0 : decide ((ya : Int) < 0) = false := decide_eq_false (by omega)
  have g1 : decide ((zb : Int) < (ya : Int)) = false := decide_eq_false (by omega)
  have g2 : decide ((n : Int) < (zb : Int)) = false := decide_eq_false (by omega)
  have g3 : decide (zb < ya) = false := decide_eq_false (by omega)
  have g4 : decide (n < zb) = false := decide_eq_false (by omega)
  have HL : Hid (xs.length = n) := hl
  clear hl hT hTog
  go_enter Try.func7, Try.ntmps7
  go_wp2_with (first
    | ((fail_if_success (have _ := hB2)); (with_reducible refine (ha _).mono ?_); rintro e w2 ⟨rfl, hB2⟩; have hX1 := Blk.new w #[.int .i64 (ya : Int), .int .i64 (zb : Int)] 46; have hX2 := hX1.below hB2; have hB12 := bnext (bnew w (.cells #[.int .i64 (ya : Int), .int .i64 (zb : Int)] 46)) hB2; have r2 := r.below hB12)
    | ((fail_if_success (have _ := hB3)); (have _ := hB2); (with_reducible refine (hA r2).mono ?_); rintro e w3 ⟨rfl, hB3⟩; have hX3 := hX2.below hB3; have hB13 := bnext hB12 hB3; have r3 := r2.below hB3; have hk3 : ∀ i, w3.cell? ⟨w.heap.size, i, none⟩ = [Value.int .i64 (ya : Int), .int .i64 (zb : Int)][i]? := hX3.cell))
  clear hB2 hB3 hX1 hX2 hB12 r2 hA ha
  refine Inv.region_inv (fun L a w' => ∃ (g : Nat) (v5 : Value) (v10 : Value), a = { tmps := #[(Value.slice q n c), (Value.agg #[Value.int IntKind.i64 ↑ya, Value.int IntKind.i64 ↑zb]), undef, (Value.pointer (some { block := w.heap.size, off := 0 })), (Value.bool false), (if L 11 = true then v10 else undef), undef, (Value.bool true), (Value.bool false), (Value.slice q n c), (Value.int IntKind.i64 ↑n), (Value.bool false), (Value.bool false), (Value.slice q n c), (Value.int IntKind.i64 0), (Value.bool false), (Value.bool false), (Value.bool false), (Value.pointer (some { block := w.heap.size, off := 0 })), (Value.int IntKind.i64 ↑ya), (Value.bool false), (Value.bool false), (Value.bool false), (Value.pointer (some { block := w.heap.size, off := 1 })), (Value.int IntKind.i64 ↑zb), (Value.pointer (some { block := w.heap.size, off := 0 })), (Value.int IntKind.i64 ↑ya), (Value.bool false), (Value.bool false), (Value.bool false), (Value.pointer (some { block := w.heap.size, off := 1 })), (Value.int IntKind.i64 ↑zb), (Value.slice q n c), (Value.int IntKind.i64 ↑n), (Value.bool false), (Value.bool false), (if L 0 = true then (.slice (some ⟨g, 0, none⟩) 0 0) else undef), (if L 1 = true then (Value.slice q n c) else undef), (if L 2 = true then (.pointer (some ⟨w.heap.size, 0, none⟩)) else undef), (if L 3 = true then (.int .i64 (ya : Int)) else undef), (if L 4 = true then (.slice q ya c) else undef), (if L 5 = true then v5 else undef), (if L 6 = true then (Value.slice q n c) else undef), (if L 7 = true then (.pointer (some ⟨w.heap.size, 1, none⟩)) else undef), (if L 8 = true then (.int .i64 (zb : Int)) else undef), (if L 9 = true then (.slice (cutK 13 q c zb) (n - zb) (c - zb)) else undef), (if L 10 = true then v10 else undef), undef, undef, undef, undef, undef, undef, undef, undef, undef, undef, undef, undef, undef, undef, undef, undef, undef, undef, undef, undef, undef, undef, undef, undef, undef, undef], defers := [] } ∧ (Below w3.heap.size w3 w' ∧ (L 0 = true → L 5 = false → w'.ownsRow w3.heap.size 28 13 (.slice (some ⟨g, 0, none⟩) 0 0) (0) ((([] : List Po)).flatMap pl)) ∧ (L 5 = true → L 10 = false → w'.ownsRow w3.heap.size 28 13 v5 (ya) ((xs.take ya).flatMap pl)) ∧ (L 10 = true → w'.ownsRow w3.heap.size 28 13 v10 (ya + (n - zb)) ((xs.take ya ++ xs.drop zb).flatMap pl)) ∧ (L 5 = true → L 0 = true) ∧ (L 10 = true → L 5 = true) ∧ (L 11 = true → L 10 = true))) (by kernel_rfl) (by kernel_rfl) ?h0 ?step ?done
  case h0 => exact ⟨0, undef, undef, by simp, (Below.refl _ _).drew, by simp, by simp, by simp, by simp, by simp, by simp⟩
  case step =>
    refine Inv.Steps.cons rfl ?_ ?_
    · intro L a w' hI hL hd K hK
      obtain ⟨g, v5, v10, rfl, hI⟩ := hI
      clear hd
      rw [if_pos (by rfl)]
      have f5 : L 5 = false := by
        cases h : L 5 with
        | false => rfl
        | true => exact absurd (hI.2.2.2.2.1 h) (by simp [hL])
      have f10 : L 10 = false := by
        cases h : L 10 with
        | false => rfl
        | true => exact absurd (hI.2.2.2.2.2.1 h) (by simp [f5])
      have f11 : L 11 = false := by
        cases h : L 11 with
        | false => rfl
        | true => exact absurd (hI.2.2.2.2.2.2 h) (by simp [f10])
      go_simp
      exact hK.out _ _ ⟨w'.heap.size, v5, v10, by simp [f5, f10, f11], hI.1.alloc hI.1.size _, fun _ _ => own_lower (none_own w') hI.1.size, fun h => by simp [f5] at h, fun h => by simp [f10] at h, by simp, by simp [f10], by simp [f11]⟩
    refine Inv.Steps.cons rfl ?_ ?_
    · intro L a w' hI hL hd K hK
      obtain ⟨g, v5, v10, rfl, hI⟩ := hI
      clear hd
      rw [if_pos (by rfl)]
      go_simp
      exact hK.out _ _ ⟨g, v5, v10, by simp, by simpa using hI⟩
    refine Inv.Steps.cons rfl ?_ ?_
    · intro L a w' hI hL hd K hK
      obtain ⟨g, v5, v10, rfl, hI⟩ := hI
      clear hd
      rw [if_pos (by rfl)]
      go_simp
      exact hK.out _ _ ⟨g, v5, v10, by simp, by simpa using hI⟩
    refine Inv.Steps.cons rfl ?_ ?_
    · intro L a w' hI hL hd K hK
      obtain ⟨g, v5, v10, rfl, hI⟩ := hI
      simp [Region.binds] at hd
      simp only [hd, if_true]
      rw [if_pos (by rfl)]
      have hk : ∀ i, w'.cell? ⟨w.heap.size, i, none⟩ = [Value.int .i64 (ya : Int), .int .i64 (zb : Int)][i]? := (hX3.below hI.1).cell
      go_simp
      exact hK.out _ _ ⟨g, v5, v10, by simp [hd], by simpa using hI⟩
    refine Inv.Steps.cons rfl ?_ ?_
    · intro L a w' hI hL hd K hK
      obtain ⟨g, v5, v10, rfl, hI⟩ := hI
      simp [Region.binds] at hd
      simp only [hd, if_true]
      rw [if_pos (by rfl)]
      go_simp
      exact hK.out _ _ ⟨g, v5, v10, by simp [hd], by simpa using hI⟩
    refine Inv.Steps.cons rfl ?_ ?_
    · intro L a w' hI hL hd K hK
      obtain ⟨g, v5, v10, rfl, hI⟩ := hI
      simp [Region.binds] at hd
      simp only [hd, if_true]
      rw [if_pos (by rfl)]
      have f10 : L 10 = false := by
        cases h : L 10 with
        | false => rfl
        | true => exact absurd (hI.2.2.2.2.2.1 h) (by simp [hL])
      have f11 : L 11 = false := by
        cases h : L 11 with
        | false => rfl
        | true => exact absurd (hI.2.2.2.2.2.2 h) (by simp [f10])
      have h0 := hI.2.1 (by simp [hd]) hL
      refine wp_append_pol _ _ (by rfl) w3.heap.size _ 0 [] (by rfl) h0 q ya c (xs.take ya) (by rfl) hla ((r3.below hI.1).upto pl_len ya) (by omega) hI.1.size ?_
      intro u6 w6 ho6 hg6
      exact hK.out _ _ ⟨g, u6, v10, by simp [hd, Act.put, f10, f11], hI.1.grown hg6 hI.1.size (fun j hj => (h0.lt j hj).1), by simp, fun _ _ => by simpa using ho6, fun h => by simp [f10] at h, by simp [hd], by simp, by simp [f11]⟩
    refine Inv.Steps.cons rfl ?_ ?_
    · intro L a w' hI hL hd K hK
      obtain ⟨g, v5, v10, rfl, hI⟩ := hI
      clear hd
      rw [if_pos (by rfl)]
      go_simp
      exact hK.out _ _ ⟨g, v5, v10, by simp, by simpa using hI⟩
    refine Inv.Steps.cons rfl ?_ ?_
    · intro L a w' hI hL hd K hK
      obtain ⟨g, v5, v10, rfl, hI⟩ := hI
      clear hd
      rw [if_pos (by rfl)]
      go_simp
      exact hK.out _ _ ⟨g, v5, v10, by simp, by simpa using hI⟩
    refine Inv.Steps.cons rfl ?_ ?_
    · intro L a w' hI hL hd K hK
      obtain ⟨g, v5, v10, rfl, hI⟩ := hI
      simp [Region.binds] at hd
      simp only [hd, if_true]
      rw [if_pos (by rfl)]
      have hk : ∀ i, w'.cell? ⟨w.heap.size, i, none⟩ = [Value.int .i64 (ya : Int), .int .i64 (zb : Int)][i]? := (hX3.below hI.1).cell
      go_simp
      exact hK.out _ _ ⟨g, v5, v10, by simp [hd], by simpa using hI⟩
    refine Inv.Steps.cons rfl ?_ ?_
    · intro L a w' hI hL hd K hK
      obtain ⟨g, v5, v10, rfl, hI⟩ := hI
      simp [Region.binds] at hd
      simp only [hd, if_true]
      rw [if_pos (by rfl)]
      go_simp
      exact hK.out _ _ ⟨g, v5, v10, by simp [hd], by simpa using hI⟩
    refine Inv.Steps.cons rfl ?_ ?_
    · intro L a w' hI hL hd K hK
      obtain ⟨g, v5, v10, rfl, hI⟩ := hI
      simp [Region.binds] at hd
      simp only [hd, if_true]
      rw [if_pos (by rfl)]
      have f11 : L 11 = false := by
        cases h : L 11 with
        | false => rfl
        | true => exact absurd (hI.2.2.2.2.2.2 h) (by simp [hL])
      have h0 := hI.2.2.1 (by simp [hd]) hL
      refine wp_append_pol _ _ (by rfl) w3.heap.size _ ya (xs.take ya) (by rfl) h0 (cutK 13 q c zb) (n - zb) (c - zb) (xs.drop zb) (by rfl) hdb ((r3.below hI.1).cut pl_len zb (by rw [HL.out]; omega)) (by omega) hI.1.size ?_
      intro u6 w6 ho6 hg6
      exact hK.out _ _ ⟨g, v5, u6, by simp [hd, Act.put, f11], hI.1.grown hg6 hI.1.size (fun j hj => (h0.lt j hj).1), fun _ h => by simp [hd] at h, by simp, fun _ => by simpa using ho6, by simpa using hI.2.2.2.2.1, by simp [hd], by simp⟩
    refine Inv.Steps.cons rfl ?_ ?_
    · intro L a w' hI hL hd K hK
      obtain ⟨g, v5, v10, rfl, hI⟩ := hI
      simp [Region.binds] at hd
      simp only [hd, if_true]
      rw [if_pos (by rfl)]
      go_simp
      exact hK.out _ _ ⟨g, v5, v10, by simp [hd], hI.1, by simpa using hI.2.1, by simpa using hI.2.2.1, by simpa using hI.2.2.2.1, by simpa using hI.2.2.2.2.1, by simpa using hI.2.2.2.2.2.1, by simp [hd]⟩
    exact Inv.Steps.nil (by decide)
  case done =>
    intro L a w' hI hall
    obtain ⟨g, v5, v10, rfl, hI⟩ := hI
    simp only [hall, if_true] at hI ⊢
    have ho5 := hI.2.2.2.1 trivial
    have hB5 := hI.1
    obtain ⟨p5, c5, hv5, rl5, -⟩ := own_rk pl_len (by decide) ho5
    rw [List.length_append, hla, hdb] at hv5
    subst hv5
    have hX5 := hX3.below hB5
    have hB15 := bnext hB13 hB5
    have r5 := r3.below hB5
    generalize hV : w' = V5 at *
    clear hI ho5 hV hB5 r3 hall hk3
    go_wp2
    refine Inv.region_inv (fun L a w' => ∃ (g6 : Nat) (v6 : Value) (v16 : Value), a = { tmps := #[(Value.slice q n c), (Value.agg #[Value.int IntKind.i64 ↑ya, Value.int IntKind.i64 ↑zb]), undef, (Value.pointer (some { block := w.heap.size, off := 0 })), (Value.bool false), (.slice p5 (ya + (n - zb)) c5), (if L 11 = true then v16 else undef), (Value.bool true), (Value.bool false), (Value.slice q n c), (Value.int IntKind.i64 ↑n), (Value.bool false), (Value.bool false), (Value.slice q n c), (Value.int IntKind.i64 0), (Value.bool false), (Value.bool false), (Value.bool false), (Value.pointer (some { block := w.heap.size, off := 0 })), (Value.int IntKind.i64 ↑ya), (Value.bool false), (Value.bool false), (Value.bool false), (Value.pointer (some { block := w.heap.size, off := 1 })), (Value.int IntKind.i64 ↑zb), (Value.pointer (some { block := w.heap.size, off := 0 })), (Value.int IntKind.i64 ↑ya), (Value.bool false), (Value.bool false), (Value.bool false), (Value.pointer (some { block := w.heap.size, off := 1 })), (Value.int IntKind.i64 ↑zb), (Value.slice q n c), (Value.int IntKind.i64 ↑n), (Value.bool false), (Value.bool false), (.slice (some ⟨g, 0, none⟩) 0 0), (Value.slice q n c), (.pointer (some ⟨w.heap.size, 0, none⟩)), (.int .i64 (ya : Int)), (.slice q ya c), v5, (Value.slice q n c), (.pointer (some ⟨w.heap.size, 1, none⟩)), (.int .i64 (zb : Int)), (.slice (cutK 13 q c zb) (n - zb) (c - zb)), (.slice p5 (ya + (n - zb)) c5), (if L 0 = true then (.slice (some ⟨g6, 0, none⟩) 0 0) else undef), (if L 1 = true then (Value.slice q n c) else undef), (if L 2 = true then (.pointer (some ⟨w.heap.size, 1, none⟩)) else undef), (if L 3 = true then (.int .i64 (zb : Int)) else undef), (if L 4 = true then (.slice q zb c) else undef), (if L 5 = true then v6 else undef), (if L 6 = true then (Value.slice q n c) else undef), (if L 7 = true then (.pointer (some ⟨w.heap.size, 0, none⟩)) else undef), (if L 8 = true then (.int .i64 (ya : Int)) else undef), (if L 9 = true then (.slice (cutK 13 q c ya) (n - ya) (c - ya)) else undef), (if L 10 = true then v16 else undef), undef, undef, undef, undef, undef, undef, undef, undef, undef, undef, undef, undef, undef, undef, undef], defers := [] } ∧ (Below V5.heap.size V5 w' ∧ (L 0 = true → L 5 = false → w'.ownsRow V5.heap.size 28 13 (.slice (some ⟨g6, 0, none⟩) 0 0) (0) ((([] : List Po)).flatMap pl)) ∧ (L 5 = true → L 10 = false → w'.ownsRow V5.heap.size 28 13 v6 (zb) ((xs.take zb).flatMap pl)) ∧ (L 10 = true → w'.ownsRow V5.heap.size 28 13 v16 (zb + (n - ya)) ((xs.take zb ++ xs.drop ya).flatMap pl)) ∧ (L 5 = true → L 0 = true) ∧ (L 10 = true → L 5 = true) ∧ (L 11 = true → L 10 = true))) (by kernel_rfl) (by kernel_rfl) ?h0 ?step ?done
    case h0 => exact ⟨0, undef, undef, by simp, (Below.refl _ _).drew, by simp, by simp, by simp, by simp, by simp, by simp⟩
    case step =>
      refine Inv.Steps.cons rfl ?_ ?_
      · intro L a w' hI hL hd K hK
        obtain ⟨g6, v6, v16, rfl, hI⟩ := hI
        clear hd
        rw [if_pos (by rfl)]
        have f5 : L 5 = false := by
          cases h : L 5 with
          | false => rfl
          | true => exact absurd (hI.2.2.2.2.1 h) (by simp [hL])
        have f10 : L 10 = false := by
          cases h : L 10 with
          | false => rfl
          | true => exact absurd (hI.2.2.2.2.2.1 h) (by simp [f5])
        have f11 : L 11 = false := by
          cases h : L 11 with
          | false => rfl
          | true => exact absurd (hI.2.2.2.2.2.2 h) (by simp [f10])
        go_simp
        exact hK.out _ _ ⟨w'.heap.size, v6, v16, by simp [f5, f10, f11], hI.1.alloc hI.1.size _, fun _ _ => own_lower (none_own w') hI.1.size, fun h => by simp [f5] at h, fun h => by simp [f10] at h, by simp, by simp [f10], by simp [f11]⟩
      refine Inv.Steps.cons rfl ?_ ?_
      · intro L a w' hI hL hd K hK
        obtain ⟨g6, v6, v16, rfl, hI⟩ := hI
        clear hd
        rw [if_pos (by rfl)]
        go_simp
        exact hK.out _ _ ⟨g6, v6, v16, by simp, by simpa using hI⟩
      refine Inv.Steps.cons rfl ?_ ?_
      · intro L a w' hI hL hd K hK
        obtain ⟨g6, v6, v16, rfl, hI⟩ := hI
        clear hd
        rw [if_pos (by rfl)]
        go_simp
        exact hK.out _ _ ⟨g6, v6, v16, by simp, by simpa using hI⟩
      refine Inv.Steps.cons rfl ?_ ?_
      · intro L a w' hI hL hd K hK
        obtain ⟨g6, v6, v16, rfl, hI⟩ := hI
        simp [Region.binds] at hd
        simp only [hd, if_true]
        rw [if_pos (by rfl)]
        have hk : ∀ i, w'.cell? ⟨w.heap.size, i, none⟩ = [Value.int .i64 (ya : Int), .int .i64 (zb : Int)][i]? := (hX5.below hI.1).cell
        go_simp
        exact hK.out _ _ ⟨g6, v6, v16, by simp [hd], by simpa using hI⟩
      refine Inv.Steps.cons rfl ?_ ?_
      · intro L a w' hI hL hd K hK
        obtain ⟨g6, v6, v16, rfl, hI⟩ := hI
        simp [Region.binds] at hd
        simp only [hd, if_true]
        rw [if_pos (by rfl)]
        go_simp
        exact hK.out _ _ ⟨g6, v6, v16, by simp [hd], by simpa using hI⟩
      refine Inv.Steps.cons rfl ?_ ?_
      · intro L a w' hI hL hd K hK
        obtain ⟨g6, v6, v16, rfl, hI⟩ := hI
        simp [Region.binds] at hd
        simp only [hd, if_true]
        rw [if_pos (by rfl)]
        have f10 : L 10 = false := by
          cases h : L 10 with
          | false => rfl
          | true => exact absurd (hI.2.2.2.2.2.1 h) (by simp [hL])
        have f11 : L 11 = false := by
          cases h : L 11 with
          | false => rfl
          | true => exact absurd (hI.2.2.2.2.2.2 h) (by simp [f10])
        have h0 := hI.2.1 (by simp [hd]) hL
        refine wp_append_pol _ _ (by rfl) V5.heap.size _ 0 [] (by rfl) h0 q zb c (xs.take zb) (by rfl) hlb ((r5.below hI.1).upto pl_len zb) (by omega) hI.1.size ?_
        intro u6 w6 ho6 hg6
        exact hK.out _ _ ⟨g6, u6, v16, by simp [hd, Act.put, f10, f11], hI.1.grown hg6 hI.1.size (fun j hj => (h0.lt j hj).1), by simp, fun _ _ => by simpa using ho6, fun h => by simp [f10] at h, by simp [hd], by simp, by simp [f11]⟩
      refine Inv.Steps.cons rfl ?_ ?_
      · intro L a w' hI hL hd K hK
        obtain ⟨g6, v6, v16, rfl, hI⟩ := hI
        clear hd
        rw [if_pos (by rfl)]
        go_simp
        exact hK.out _ _ ⟨g6, v6, v16, by simp, by simpa using hI⟩
      refine Inv.Steps.cons rfl ?_ ?_
      · intro L a w' hI hL hd K hK
        obtain ⟨g6, v6, v16, rfl, hI⟩ := hI
        clear hd
        rw [if_pos (by rfl)]
        go_simp
        exact hK.out _ _ ⟨g6, v6, v16, by simp, by simpa using hI⟩
      refine Inv.Steps.cons rfl ?_ ?_
      · intro L a w' hI hL hd K hK
        obtain ⟨g6, v6, v16, rfl, hI⟩ := hI
        simp [Region.binds] at hd
        simp only [hd, if_true]
        rw [if_pos (by rfl)]
        have hk : ∀ i, w'.cell? ⟨w.heap.size, i, none⟩ = [Value.int .i64 (ya : Int), .int .i64 (zb : Int)][i]? := (hX5.below hI.1).cell
        go_simp
        exact hK.out _ _ ⟨g6, v6, v16, by simp [hd], by simpa using hI⟩
      refine Inv.Steps.cons rfl ?_ ?_
      · intro L a w' hI hL hd K hK
        obtain ⟨g6, v6, v16, rfl, hI⟩ := hI
        simp [Region.binds] at hd
        simp only [hd, if_true]
        rw [if_pos (by rfl)]
        go_simp
        exact hK.out _ _ ⟨g6, v6, v16, by simp [hd], by simpa using hI⟩
      refine Inv.Steps.cons rfl ?_ ?_
      · intro L a w' hI hL hd K hK
        obtain ⟨g6, v6, v16, rfl, hI⟩ := hI
        simp [Region.binds] at hd
        simp only [hd, if_true]
        rw [if_pos (by rfl)]
        have f11 : L 11 = false := by
          cases h : L 11 with
          | false => rfl
          | true => exact absurd (hI.2.2.2.2.2.2 h) (by simp [hL])
        have h0 := hI.2.2.1 (by simp [hd]) hL
        refine wp_append_pol _ _ (by rfl) V5.heap.size _ zb (xs.take zb) (by rfl) h0 (cutK 13 q c ya) (n - ya) (c - ya) (xs.drop ya) (by rfl) hda ((r5.below hI.1).cut pl_len ya (by rw [HL.out]; omega)) (by omega) hI.1.size ?_
        intro u6 w6 ho6 hg6
        exact hK.out _ _ ⟨g6, v6, u6, by simp [hd, Act.put, f11], hI.1.grown hg6 hI.1.size (fun j hj => (h0.lt j hj).1), fun _ h => by simp [hd] at h, by simp, fun _ => by simpa using ho6, by simpa using hI.2.2.2.2.1, by simp [hd], by simp⟩
      refine Inv.Steps.cons rfl ?_ ?_
      · intro L a w' hI hL hd K hK
        obtain ⟨g6, v6, v16, rfl, hI⟩ := hI
        simp [Region.binds] at hd
        simp only [hd, if_true]
        rw [if_pos (by rfl)]
        go_simp
        exact hK.out _ _ ⟨g6, v6, v16, by simp [hd], hI.1, by simpa using hI.2.1, by simpa using hI.2.2.1, by simpa using hI.2.2.2.1, by simpa using hI.2.2.2.2.1, by simpa using hI.2.2.2.2.2.1, by simp [hd]⟩
      exact Inv.Steps.nil (by decide)
    case done =>
      intro L a w' hI hall
      obtain ⟨g6, v6, v16, rfl, hI⟩ := hI
      simp only [hall, if_true] at hI ⊢
      have ho8 := hI.2.2.2.1 trivial
      have hB8 := hI.1
      obtain ⟨p8, c8, hv8, r8, -⟩ := own_rk pl_len (by decide) ho8
      rw [List.length_append, hlb, hda] at hv8
      subst hv8
      have rl8 := rl5.below hB8
      have hX8 := hX5.below hB8
      have hB18 := bnext hB15 hB8
      have hk8 : ∀ i, w'.cell? ⟨w.heap.size, i, none⟩ = [Value.int .i64 (ya : Int), .int .i64 (zb : Int)][i]? := hX8.cell
      have hXX8 := hX8
      clear hI ho8 hua hub hfa hfb hX8 hX5 hX3 hla hlb hda hdb
      rcases Nat.lt_or_ge ya zb with hlt | hge
      · rw [hW2 hlt] at hW
        have hne : ((ya : Int) == (zb : Int)) = false := by simp; omega
        go_wp2_with (first
          | ((fail_if_success (have _ := hB9)); (with_reducible refine (hLs rl8).mono ?_); rintro e w9 ⟨rfl, hB9⟩; have hk9 : ∀ i, w9.cell? ⟨w.heap.size, i, none⟩ = [Value.int .i64 (ya : Int), .int .i64 (zb : Int)][i]? := (hXX8.below hB9).cell; have r9 := r8.below hB9)
          | ((fail_if_success (have _ := hB10)); (have _ := hB9); (with_reducible refine (hW hlt r9).mono ?_); rintro e w10 ⟨rfl, hB10⟩))
        go_ret
        exact ⟨rfl, bnext (bnext hB18 hB9) hB10⟩
      · obtain rfl : ya = zb := by omega
        have heq : ((ya : Int) == (ya : Int)) = true := by simp
        have hLn := hLs rl8
        rw [show ya + (n - ya) = n by omega] at hLn
        go_wp2_with (first
          | ((fail_if_success (have _ := hB9)); (with_reducible refine hLn.mono ?_); rintro e w9 ⟨rfl, hB9⟩; have hk9 : ∀ i, w9.cell? ⟨w.heap.size, i, none⟩ = [Value.int .i64 (ya : Int), .int .i64 (ya : Int)][i]? := (hXX8.below hB9).cell))
        go_ret
        exact ⟨rfl, bnext hB18 hB9⟩
theorem part_any (q : Option Addr) (n c : Nat) (xs : List Po) (y z : Int) (hl : xs.length = n) (w : World) (r : RK pl w q c xs) (ho : ∀ p ∈ xs, PoOk p) :
    Calls Try.prog 7 #[.slice q n c, .agg #[.int .i64 y, .int .i64 z]] w fun e w' => e = .returned (.bool true) ∧ Below w.heap.size w w' := by
  by_cases h8 : 8 < n
  · have ha := fun W => alive_any W
    have h8i : (8 : Int) < (n : Int) := by omega
    go_enter Try.func7, Try.ntmps7
    go_wp2_with (first
      | ((fail_if_success (have _ := hB2)); (with_reducible refine (ha _).mono ?_); rintro e w2 ⟨rfl, hB2⟩; have hB12 := bnext (bnew w (.cells #[.int .i64 y, .int .i64 z] 46)) hB2))
    go_ret
    exact ⟨rfl, hB12⟩
  · have hA := fun {W : World} {q c} (r : RK pl W q c xs) => policy_All q n c xs hl (by omega) W r ho
    have hE : allE xs = 0 ∨ allE xs = 111 := by unfold allE; split <;> simp
    by_cases hok : allE xs = 0 ∧ 0 ≤ y ∧ y ≤ z ∧ z ≤ n
    · obtain ⟨h0, h1, h2, h3⟩ := hok
      obtain ⟨a, rfl⟩ := Int.eq_ofNat_of_zero_le h1
      obtain ⟨b, rfl⟩ := Int.eq_ofNat_of_zero_le (Int.le_trans h1 h2)
      exact part_main q n c xs a b hl (by omega) w r ho h0 (by omega) (by omega)
    · have ha := fun W => alive_any W
      have h8i : decide ((8 : Int) < (n : Int)) = false := decide_eq_false (by omega)
      have hdo : ∀ (D1 D2 : Bool), decide (y < 0) = D1 → decide (z < y) = D2 → (allE xs = 0 → D1 = false → D2 = false → (n : Int) < z) → Calls Try.prog 7 #[.slice q n c, .agg #[.int .i64 y, .int .i64 z]] w fun e w' => e = .returned (.bool true) ∧ Below w.heap.size w w' := by
        intro D1 D2 hD1 hD2 h3
        rcases hE with hE | hE
        · rw [hE] at hA
          have h3 := h3 hE
          cases D1 with
          | true =>
            have hD1' := of_decide_eq_true hD1
            clear hok hE
            go_enter Try.func7, Try.ntmps7
            go_wp2_with (first
              | ((fail_if_success (have _ := hB2)); (with_reducible refine (ha _).mono ?_); rintro e w2 ⟨rfl, hB2⟩; have hX2 := (Blk.new w #[.int .i64 y, .int .i64 z] 46).below hB2; have hB12 := bnext (bnew w (.cells #[.int .i64 y, .int .i64 z] 46)) hB2; have r2 := r.below hB12)
              | ((fail_if_success (have _ := hB3)); (have _ := hB2); (with_reducible refine (hA r2).mono ?_); rintro e w3 ⟨rfl, hB3⟩; have hk3 : ∀ i, w3.cell? ⟨w.heap.size, i, none⟩ = [Value.int .i64 y, .int .i64 z][i]? := (hX2.below hB3).cell))
            go_ret
            exact ⟨rfl, bnext hB12 hB3⟩
          | false =>
            cases D2 with
            | true =>
              have hD2' := of_decide_eq_true hD2
              clear hok hE
              go_enter Try.func7, Try.ntmps7
              go_wp2_with (first
                | ((fail_if_success (have _ := hB2)); (with_reducible refine (ha _).mono ?_); rintro e w2 ⟨rfl, hB2⟩; have hX2 := (Blk.new w #[.int .i64 y, .int .i64 z] 46).below hB2; have hB12 := bnext (bnew w (.cells #[.int .i64 y, .int .i64 z] 46)) hB2; have r2 := r.below hB12)
                | ((fail_if_success (have _ := hB3)); (have _ := hB2); (with_reducible refine (hA r2).mono ?_); rintro e w3 ⟨rfl, hB3⟩; have hk3 : ∀ i, w3.cell? ⟨w.heap.size, i, none⟩ = [Value.int .i64 y, .int .i64 z][i]? := (hX2.below hB3).cell))
              go_ret
              exact ⟨rfl, bnext hB12 hB3⟩
            | false =>
              have h3 := h3 rfl rfl
              clear hok hE
              go_enter Try.func7, Try.ntmps7
              go_wp2_with (first
                | ((fail_if_success (have _ := hB2)); (with_reducible refine (ha _).mono ?_); rintro e w2 ⟨rfl, hB2⟩; have hX2 := (Blk.new w #[.int .i64 y, .int .i64 z] 46).below hB2; have hB12 := bnext (bnew w (.cells #[.int .i64 y, .int .i64 z] 46)) hB2; have r2 := r.below hB12)
                | ((fail_if_success (have _ := hB3)); (have _ := hB2); (with_reducible refine (hA r2).mono ?_); rintro e w3 ⟨rfl, hB3⟩; have hk3 : ∀ i, w3.cell? ⟨w.heap.size, i, none⟩ = [Value.int .i64 y, .int .i64 z][i]? := (hX2.below hB3).cell))
              go_ret
              exact ⟨rfl, bnext hB12 hB3⟩
        · rw [hE] at hA
          clear h3
          clear hok hE
          go_enter Try.func7, Try.ntmps7
          go_wp2_with (first
            | ((fail_if_success (have _ := hB2)); (with_reducible refine (ha _).mono ?_); rintro e w2 ⟨rfl, hB2⟩; have hX2 := (Blk.new w #[.int .i64 y, .int .i64 z] 46).below hB2; have hB12 := bnext (bnew w (.cells #[.int .i64 y, .int .i64 z] 46)) hB2; have r2 := r.below hB12)
            | ((fail_if_success (have _ := hB3)); (have _ := hB2); (with_reducible refine (hA r2).mono ?_); rintro e w3 ⟨rfl, hB3⟩; have hk3 : ∀ i, w3.cell? ⟨w.heap.size, i, none⟩ = [Value.int .i64 y, .int .i64 z][i]? := (hX2.below hB3).cell))
          go_ret
          exact ⟨rfl, bnext hB12 hB3⟩
      exact hdo _ _ rfl rfl (fun h0 d1 d2 => by
        have d1 := of_decide_eq_false d1
        have d2 := of_decide_eq_false d2
        apply Classical.byContradiction
        intro h
        exact hok ⟨h0, by omega, by omega, by omega⟩)
end Go.Proofs.Ytjjgecnnginnpaa.Policy
