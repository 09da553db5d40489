/-
  Small facts on memory that books want; taken over from the texts on events.
-/
import Derived.Test.YtnaofcggdjbocaaPolRight
import Derived.Test.YtnaofcggdjbocaaPolSat
import Derived.Test.YtnaofcggdjbocaaInvB
import Derived.Test.YtnaofcggdjbocaaPolRefRight
import Derived.Test.YtnaofcggdjbocaaBkSmall
/-
  The policy of numbers: Of. (Written by gen_pof.py.)
-/
namespace Go.Proofs.Ytnaofcggdjbocaa.Policy
open Go.RowKit Go.Proofs.Ytnaofcggdjbocaa.Mem Go.Proofs.Ytnaofcggdjbocaa.Addr
set_option maxRecDepth 100000

theorem wrap_u32 {c : Int} (h0 : 0 ≤ c) (h : c ≤ 4294967295) : IntKind.u32.wrap c = ((c.toNat : Nat) : Int) := by rw [IntKind.wrap_u32]; omega
theorem at10 {w : World} {b o c i : Nat} {l : List Int} (h : Reads .u64 w (some ⟨b, o, none⟩) c l) (hi : i < l.length) : w.cell? ⟨b, o + i, none⟩ = some (.int .u64 (l.getD i 0)) := by
  obtain ⟨b', o', e, _, hc⟩ := h.2.2.2 (by omega)
  simp only [Option.some.injEq, Addr.mk.injEq, and_true] at e
  obtain ⟨rfl, rfl⟩ := e
  exact hc i hi
/-- Ten numbers that are read. -/
theorem cells10 {w : World} {q : Option Addr} {c : Nat} {c0 c1 c2 c3 c4 c5 c6 c7 c8 c9 : Int} (h : Reads .u64 w q c [c0, c1, c2, c3, c4, c5, c6, c7, c8, c9]) : ∃ b o, q = some ⟨b, o, none⟩ ∧ b < w.heap.size ∧
    w.cell? ⟨b, o, none⟩ = some (.int .u64 c0) ∧ w.cell? ⟨b, o + 1, none⟩ = some (.int .u64 c1) ∧ w.cell? ⟨b, o + 2, none⟩ = some (.int .u64 c2) ∧ w.cell? ⟨b, o + 3, none⟩ = some (.int .u64 c3) ∧ w.cell? ⟨b, o + 4, none⟩ = some (.int .u64 c4) ∧ w.cell? ⟨b, o + 5, none⟩ = some (.int .u64 c5) ∧ w.cell? ⟨b, o + 6, none⟩ = some (.int .u64 c6) ∧ w.cell? ⟨b, o + 7, none⟩ = some (.int .u64 c7) ∧ w.cell? ⟨b, o + 8, none⟩ = some (.int .u64 c8) ∧ w.cell? ⟨b, o + 9, none⟩ = some (.int .u64 c9) := by
  obtain ⟨b, o, e, hb, hc⟩ := h.2.2.2 (by simp)
  have k := fun i (hi : i < 10) => hc i (by simpa using hi)
  exact ⟨b, o, e, hb, k 0 (by omega), k 1 (by omega), k 2 (by omega), k 3 (by omega), k 4 (by omega), k 5 (by omega), k 6 (by omega), k 7 (by omega), k 8 (by omega), k 9 (by omega)⟩
theorem policy_Of_len (q : Option Addr) (m c : Nat) (hm : m ≠ 10) (w : World) :
    Calls Try.prog 57 #[.slice q m c] w fun e w' => e = .returned (.tuple #[pv zeroP, .int .i64 111]) ∧ Below w.heap.size w w' := by
  have hne : ((m : Int) == 10) = false := by simp; omega
  go_enter Try.func57, Try.ntmps57
  go_wp2_with (first
    | ((fail_if_success (have _ := hX1)); (refine at_alloc_po (by rfl) (by rfl) ?_); intro V1 hX1 hB1 hz1)
    | ((fail_if_success (have _ := hX2)); (refine at_build0 (by rfl) (by rfl) ?_))
    | ((fail_if_success (have _ := hX2)); (refine at_store_po _ _ _ _ _ (by rfl) (by rfl) (by rfl) hX1 rfl (by rfl) ?_); intro V2 hX2 hg2 hz2))
  refine ret_po2 (by rfl) rfl _ zeroP rfl hX2 ⟨rfl, ?_⟩
  exact hB1.grown hg2 hB1.size (by simp)
set_option maxHeartbeats 4000000 in
theorem policy_Of_ten (q : Option Addr) (c : Nat) (c0 c1 c2 c3 c4 c5 c6 c7 c8 c9 : Int) (w : World) (r : Reads .u64 w q c [c0, c1, c2, c3, c4, c5, c6, c7, c8, c9]) (hw : ∀ x ∈ [c0, c1, c2, c3, c4, c5, c6, c7, c8, c9], Word x) :
    Calls Try.prog 57 #[.slice q 10 c] w fun e w' => e = .returned (.tuple #[pv (ofP [c0, c1, c2, c3, c4, c5, c6, c7, c8, c9]), .int .i64 (ofE [c0, c1, c2, c3, c4, c5, c6, c7, c8, c9])]) ∧ Below w.heap.size w w' := by
  obtain ⟨b, o, rfl, hb, k0, k1, k2, k3, k4, k5, k6, k7, k8, k9⟩ := cells10 r
  have hc1 := hw c1 (by simp)
  by_cases hbig : 4294967295 < c1
  · have hno : isP [c0, c1, c2, c3, c4, c5, c6, c7, c8, c9] = false := by
      rw [← Bool.not_eq_true, isP_iff]
      rintro ⟨-, h, -⟩
      exact absurd h (by simp; omega)
    have e1 : ofP [c0, c1, c2, c3, c4, c5, c6, c7, c8, c9] = zeroP := by unfold ofP; rw [hno]; rfl
    have e2 : ofE [c0, c1, c2, c3, c4, c5, c6, c7, c8, c9] = 111 := by unfold ofE; rw [hno]; rfl
    rw [e1, e2]
    clear e1 e2 hno
    go_enter Try.func57, Try.ntmps57
    go_wp2_with (first
      | ((fail_if_success (have _ := hX1)); (refine at_alloc_po (by rfl) (by rfl) ?_); intro V1 hX1 hB1 hz1; have q1 := (hB1.cell (p := ⟨b, o + 1, none⟩) hb).trans k1)
      | ((fail_if_success (have _ := hX2)); (refine at_build0 (by rfl) (by rfl) ?_))
      | ((fail_if_success (have _ := hX2)); (refine at_store_po _ _ _ _ _ (by rfl) (by rfl) (by rfl) hX1 rfl (by rfl) ?_); intro V2 hX2 hg2 hz2))
    refine ret_po2 (by rfl) rfl _ zeroP rfl hX2 ⟨rfl, ?_⟩
    exact hB1.grown hg2 hB1.size (by simp)
  · have hi0 := fun W => int_any c0 (hw c0 (by simp)) W
    have hi2 := fun W => int_any c2 (hw c2 (by simp)) W
    obtain ⟨y0, hy0⟩ : ∃ y, sint c0 = y := ⟨_, rfl⟩
    obtain ⟨y2, hy2⟩ : ∃ y, sint c2 = y := ⟨_, rfl⟩
    obtain ⟨F0, hF0⟩ : ∃ y, fits c0 = y := ⟨_, rfl⟩
    obtain ⟨F2, hF2⟩ : ∃ y, fits c2 = y := ⟨_, rfl⟩
    rw [hy0, hF0] at hi0
    rw [hy2, hF2] at hi2
    have hwr := wrap_u32 hc1.1 (by omega)
    have hN : c1.toNat < 4294967296 := by have := hc1.1; omega
    obtain ⟨N, hNN⟩ : ∃ N, c1.toNat = N := ⟨_, rfl⟩
    rw [hNN] at hN hwr
    obtain ⟨n3, rfl⟩ := Int.eq_ofNat_of_zero_le (hw c3 (by simp)).1
    obtain ⟨n4, rfl⟩ := Int.eq_ofNat_of_zero_le (hw c4 (by simp)).1
    obtain ⟨n5, rfl⟩ := Int.eq_ofNat_of_zero_le (hw c5 (by simp)).1
    obtain ⟨n6, rfl⟩ := Int.eq_ofNat_of_zero_le (hw c6 (by simp)).1
    obtain ⟨n7, rfl⟩ := Int.eq_ofNat_of_zero_le (hw c7 (by simp)).1
    obtain ⟨n8, rfl⟩ := Int.eq_ofNat_of_zero_le (hw c8 (by simp)).1
    obtain ⟨n9, rfl⟩ := Int.eq_ofNat_of_zero_le (hw c9 (by simp)).1
    have hof := fun W => addr_Of N hN W
    unfold adr at hof
    obtain ⟨E, hE⟩ : ∃ E, isP [c0, c1, c2, (n3 : Int), (n4 : Int), (n5 : Int), (n6 : Int), (n7 : Int), (n8 : Int), (n9 : Int)] = E := ⟨_, rfl⟩
    unfold ofP ofE
    rw [hE]
    replace hE : Hid (isP [c0, c1, c2, (n3 : Int), (n4 : Int), (n5 : Int), (n6 : Int), (n7 : Int), (n8 : Int), (n9 : Int)] = E) := hE
    go_enter Try.func57, Try.ntmps57
    go_wp2_with (first
      | ((fail_if_success (have _ := hX1)); (refine at_alloc_po (by rfl) (by rfl) ?_); intro V1 hX1 hB1 hz1; have q0 := (hB1.cell (p := ⟨b, o, none⟩) hb).trans k0; have q1 := (hB1.cell (p := ⟨b, o + 1, none⟩) hb).trans k1; have q2 := (hB1.cell (p := ⟨b, o + 2, none⟩) hb).trans k2)
      | ((with_reducible refine (hi0 _).mono ?_); rintro e w3 ⟨rfl, hw⟩; rw [hw]; clear hw)
      | ((with_reducible refine (hi2 _).mono ?_); rintro e w4 ⟨rfl, hw⟩; rw [hw]; clear hw))
    refine Inv.region_inv (fun L a w' => ∃ (g : Nat), a = { tmps := #[(.slice (some ⟨b, o, none⟩) 10 c), undef, (.pointer (some ⟨w.heap.size, 0, none⟩)), (.int .i64 0), (.int .i64 y0), (.bool F0), (.int .i64 y2), (.bool F2), (if L 30 = true then (.pointer (some ⟨g, 0, none⟩)) else undef), (.slice (some ⟨b, o, none⟩) 10 c), (.int .i64 10), (.bool false), (.bool false), (.slice (some ⟨b, o, none⟩) 10 c), (.pointer (some ⟨b, o + 1, none⟩)), (.int .u64 c1), (.bool false), (.bool false), undef, (.tuple #[.int .i64 y0, .bool F0]), (.slice (some ⟨b, o, none⟩) 10 c), (.pointer (some ⟨b, o, none⟩)), (.int .u64 c0), (.tuple #[.int .i64 y0, .bool F0]), (.int .i64 y0), (.bool F0), (.tuple #[.int .i64 y2, .bool F2]), (.slice (some ⟨b, o, none⟩) 10 c), (.pointer (some ⟨b, o + 2, none⟩)), (.int .u64 c2), (.tuple #[.int .i64 y2, .bool F2]), (.int .i64 y2), (.bool F2), (if L 0 = true then (.int .i64 y0) else undef), (if L 1 = true then (.slice (some ⟨b, o, none⟩) 10 c) else undef), (if L 2 = true then (.pointer (some ⟨b, o + 1, none⟩)) else undef), (if L 3 = true then (.int .u64 c1) else undef), (if L 4 = true then (.int .u32 (N : Int)) else undef), (if L 5 = true then (.agg #[.int .u8 (b0 N), .int .u8 (b1 N), .int .u8 (b2 N), .int .u8 (b3 N)]) else undef), (if L 6 = true then (.int .i64 y2) else undef), (if L 7 = true then (.agg #[.int .u8 (b0 N), .int .u8 (b1 N), .int .u8 (b2 N), .int .u8 (b3 N), .int .i64 y2]) else undef), (if L 8 = true then (.slice (some ⟨b, o, none⟩) 10 c) else undef), (if L 9 = true then (.pointer (some ⟨b, o + 3, none⟩)) else undef), (if L 10 = true then (.int .u64 (n3 : Int)) else undef), (if L 11 = true then (.slice (some ⟨b, o, none⟩) 10 c) else undef), (if L 12 = true then (.pointer (some ⟨b, o + 4, none⟩)) else undef), (if L 13 = true then (.int .u64 (n4 : Int)) else undef), (if L 14 = true then (.slice (some ⟨b, o, none⟩) 10 c) else undef), (if L 15 = true then (.pointer (some ⟨b, o + 5, none⟩)) else undef), (if L 16 = true then (.int .u64 (n5 : Int)) else undef), (if L 17 = true then (.slice (some ⟨b, o, none⟩) 10 c) else undef), (if L 18 = true then (.pointer (some ⟨b, o + 6, none⟩)) else undef), (if L 19 = true then (.int .u64 (n6 : Int)) else undef), (if L 20 = true then (.slice (some ⟨b, o, none⟩) 10 c) else undef), (if L 21 = true then (.pointer (some ⟨b, o + 7, none⟩)) else undef), (if L 22 = true then (.int .u64 (n7 : Int)) else undef), (if L 23 = true then (.slice (some ⟨b, o, none⟩) 10 c) else undef), (if L 24 = true then (.pointer (some ⟨b, o + 8, none⟩)) else undef), (if L 25 = true then (.int .u64 (n8 : Int)) else undef), (if L 26 = true then (.slice (some ⟨b, o, none⟩) 10 c) else undef), (if L 27 = true then (.pointer (some ⟨b, o + 9, none⟩)) else undef), (if L 28 = true then (.int .u64 (n9 : Int)) else undef), (if L 29 = true then (.agg #[.int .i64 y0, .int .u8 (b0 N), .int .u8 (b1 N), .int .u8 (b2 N), .int .u8 (b3 N), .int .i64 y2, .int .u64 (n3 : Int), .int .u64 (n4 : Int), .int .u64 (n5 : Int), .int .u64 (n6 : Int), .int .u64 (n7 : Int), .int .u64 (n8 : Int), .int .u64 (n9 : Int)]) else undef), undef, undef, undef, undef, undef, undef, undef, undef, undef, undef, undef, undef, undef], defers := [] } ∧ (Below V1.heap.size V1 w' ∧ Reads .u64 w' (some ⟨b, o, none⟩) c [c0, c1, c2, (n3 : Int), (n4 : Int), (n5 : Int), (n6 : Int), (n7 : Int), (n8 : Int), (n9 : Int)] ∧ (L 30 = true → Blk w' g 47 (pl (if L 31 = true then ⟨y0, N, y2, n3, n4, n5, n6, n7, n8, n9⟩ else zeroP)) ∧ V1.heap.size ≤ g) ∧ (L 31 = true → L 30 = true))) (by kernel_rfl) (by kernel_rfl) ?h0 ?step ?done
    case h0 => exact ⟨0, by simp, (Below.refl _ _).drew, r.below hB1.drew, by simp, by simp⟩
    case step =>
      refine Inv.Steps.cons rfl ?_ ?_
      · intro L a w' hI hL hd K hK
        obtain ⟨g, rfl, hI⟩ := hI
        clear hd
        rw [if_pos (by rfl)]
        go_simp
        exact hK.out _ _ ⟨g, by simp, by simpa using hI⟩
      refine Inv.Steps.cons rfl ?_ ?_
      · intro L a w' hI hL hd K hK
        obtain ⟨g, rfl, hI⟩ := hI
        clear hd
        rw [if_pos (by rfl)]
        go_simp
        exact hK.out _ _ ⟨g, by simp, by simpa using hI⟩
      refine Inv.Steps.cons rfl ?_ ?_
      · intro L a w' hI hL hd K hK
        obtain ⟨g, rfl, hI⟩ := hI
        simp [Region.binds] at hd
        simp only [hd, if_true]
        rw [if_pos (by rfl)]
        go_simp
        exact hK.out _ _ ⟨g, by simp [hd], by simpa using hI⟩
      refine Inv.Steps.cons rfl ?_ ?_
      · intro L a w' hI hL hd K hK
        obtain ⟨g, rfl, hI⟩ := hI
        simp [Region.binds] at hd
        simp only [hd, if_true]
        rw [if_pos (by rfl)]
        have q := at10 (i := 1) hI.2.1 (by simp)
        simp only [List.getD_cons_succ, List.getD_cons_zero] at q
        go_simp
        exact hK.out _ _ ⟨g, by simp [hd], by simpa using hI⟩
      refine Inv.Steps.cons rfl ?_ ?_
      · intro L a w' hI hL hd K hK
        obtain ⟨g, rfl, hI⟩ := hI
        simp [Region.binds] at hd
        simp only [hd, if_true]
        rw [if_pos (by rfl)]
        go_simp
        exact hK.out _ _ ⟨g, by simp [hd], by simpa using hI⟩
      refine Inv.Steps.cons rfl ?_ ?_
      · intro L a w' hI hL hd K hK
        obtain ⟨g, rfl, hI⟩ := hI
        simp [Region.binds] at hd
        simp only [hd, if_true]
        rw [if_pos (by rfl)]
        go_simp
        refine (hof _).mono ?_
        rintro e w6 ⟨rfl, hB6⟩
        exact hK.out _ _ ⟨g, by simp [hd], bnext hI.1 hB6, hI.2.1.below hB6, fun h => ⟨((by simpa using hI.2.2.1 (by simpa using h) : Blk _ _ _ _ ∧ _).1).below hB6, (hI.2.2.1 (by simpa using h)).2⟩, by simpa using hI.2.2.2⟩
      refine Inv.Steps.cons rfl ?_ ?_
      · intro L a w' hI hL hd K hK
        obtain ⟨g, rfl, hI⟩ := hI
        clear hd
        rw [if_pos (by rfl)]
        go_simp
        exact hK.out _ _ ⟨g, by simp, by simpa using hI⟩
      refine Inv.Steps.cons rfl ?_ ?_
      · intro L a w' hI hL hd K hK
        obtain ⟨g, rfl, hI⟩ := hI
        simp [Region.binds] at hd
        simp only [hd, if_true]
        rw [if_pos (by rfl)]
        go_simp
        exact hK.out _ _ ⟨g, by simp [hd], by simpa using hI⟩
      refine Inv.Steps.cons rfl ?_ ?_
      · intro L a w' hI hL hd K hK
        obtain ⟨g, rfl, hI⟩ := hI
        clear hd
        rw [if_pos (by rfl)]
        go_simp
        exact hK.out _ _ ⟨g, by simp, by simpa using hI⟩
      refine Inv.Steps.cons rfl ?_ ?_
      · intro L a w' hI hL hd K hK
        obtain ⟨g, rfl, hI⟩ := hI
        simp [Region.binds] at hd
        simp only [hd, if_true]
        rw [if_pos (by rfl)]
        go_simp
        exact hK.out _ _ ⟨g, by simp [hd], by simpa using hI⟩
      refine Inv.Steps.cons rfl ?_ ?_
      · intro L a w' hI hL hd K hK
        obtain ⟨g, rfl, hI⟩ := hI
        simp [Region.binds] at hd
        simp only [hd, if_true]
        rw [if_pos (by rfl)]
        have q := at10 (i := 3) hI.2.1 (by simp)
        simp only [List.getD_cons_succ, List.getD_cons_zero] at q
        go_simp
        exact hK.out _ _ ⟨g, by simp [hd], by simpa using hI⟩
      refine Inv.Steps.cons rfl ?_ ?_
      · intro L a w' hI hL hd K hK
        obtain ⟨g, rfl, hI⟩ := hI
        clear hd
        rw [if_pos (by rfl)]
        go_simp
        exact hK.out _ _ ⟨g, by simp, by simpa using hI⟩
      refine Inv.Steps.cons rfl ?_ ?_
      · intro L a w' hI hL hd K hK
        obtain ⟨g, rfl, hI⟩ := hI
        simp [Region.binds] at hd
        simp only [hd, if_true]
        rw [if_pos (by rfl)]
        go_simp
        exact hK.out _ _ ⟨g, by simp [hd], by simpa using hI⟩
      refine Inv.Steps.cons rfl ?_ ?_
      · intro L a w' hI hL hd K hK
        obtain ⟨g, rfl, hI⟩ := hI
        simp [Region.binds] at hd
        simp only [hd, if_true]
        rw [if_pos (by rfl)]
        have q := at10 (i := 4) hI.2.1 (by simp)
        simp only [List.getD_cons_succ, List.getD_cons_zero] at q
        go_simp
        exact hK.out _ _ ⟨g, by simp [hd], by simpa using hI⟩
      refine Inv.Steps.cons rfl ?_ ?_
      · intro L a w' hI hL hd K hK
        obtain ⟨g, rfl, hI⟩ := hI
        clear hd
        rw [if_pos (by rfl)]
        go_simp
        exact hK.out _ _ ⟨g, by simp, by simpa using hI⟩
      refine Inv.Steps.cons rfl ?_ ?_
      · intro L a w' hI hL hd K hK
        obtain ⟨g, rfl, hI⟩ := hI
        simp [Region.binds] at hd
        simp only [hd, if_true]
        rw [if_pos (by rfl)]
        go_simp
        exact hK.out _ _ ⟨g, by simp [hd], by simpa using hI⟩
      refine Inv.Steps.cons rfl ?_ ?_
      · intro L a w' hI hL hd K hK
        obtain ⟨g, rfl, hI⟩ := hI
        simp [Region.binds] at hd
        simp only [hd, if_true]
        rw [if_pos (by rfl)]
        have q := at10 (i := 5) hI.2.1 (by simp)
        simp only [List.getD_cons_succ, List.getD_cons_zero] at q
        go_simp
        exact hK.out _ _ ⟨g, by simp [hd], by simpa using hI⟩
      refine Inv.Steps.cons rfl ?_ ?_
      · intro L a w' hI hL hd K hK
        obtain ⟨g, rfl, hI⟩ := hI
        clear hd
        rw [if_pos (by rfl)]
        go_simp
        exact hK.out _ _ ⟨g, by simp, by simpa using hI⟩
      refine Inv.Steps.cons rfl ?_ ?_
      · intro L a w' hI hL hd K hK
        obtain ⟨g, rfl, hI⟩ := hI
        simp [Region.binds] at hd
        simp only [hd, if_true]
        rw [if_pos (by rfl)]
        go_simp
        exact hK.out _ _ ⟨g, by simp [hd], by simpa using hI⟩
      refine Inv.Steps.cons rfl ?_ ?_
      · intro L a w' hI hL hd K hK
        obtain ⟨g, rfl, hI⟩ := hI
        simp [Region.binds] at hd
        simp only [hd, if_true]
        rw [if_pos (by rfl)]
        have q := at10 (i := 6) hI.2.1 (by simp)
        simp only [List.getD_cons_succ, List.getD_cons_zero] at q
        go_simp
        exact hK.out _ _ ⟨g, by simp [hd], by simpa using hI⟩
      refine Inv.Steps.cons rfl ?_ ?_
      · intro L a w' hI hL hd K hK
        obtain ⟨g, rfl, hI⟩ := hI
        clear hd
        rw [if_pos (by rfl)]
        go_simp
        exact hK.out _ _ ⟨g, by simp, by simpa using hI⟩
      refine Inv.Steps.cons rfl ?_ ?_
      · intro L a w' hI hL hd K hK
        obtain ⟨g, rfl, hI⟩ := hI
        simp [Region.binds] at hd
        simp only [hd, if_true]
        rw [if_pos (by rfl)]
        go_simp
        exact hK.out _ _ ⟨g, by simp [hd], by simpa using hI⟩
      refine Inv.Steps.cons rfl ?_ ?_
      · intro L a w' hI hL hd K hK
        obtain ⟨g, rfl, hI⟩ := hI
        simp [Region.binds] at hd
        simp only [hd, if_true]
        rw [if_pos (by rfl)]
        have q := at10 (i := 7) hI.2.1 (by simp)
        simp only [List.getD_cons_succ, List.getD_cons_zero] at q
        go_simp
        exact hK.out _ _ ⟨g, by simp [hd], by simpa using hI⟩
      refine Inv.Steps.cons rfl ?_ ?_
      · intro L a w' hI hL hd K hK
        obtain ⟨g, rfl, hI⟩ := hI
        clear hd
        rw [if_pos (by rfl)]
        go_simp
        exact hK.out _ _ ⟨g, by simp, by simpa using hI⟩
      refine Inv.Steps.cons rfl ?_ ?_
      · intro L a w' hI hL hd K hK
        obtain ⟨g, rfl, hI⟩ := hI
        simp [Region.binds] at hd
        simp only [hd, if_true]
        rw [if_pos (by rfl)]
        go_simp
        exact hK.out _ _ ⟨g, by simp [hd], by simpa using hI⟩
      refine Inv.Steps.cons rfl ?_ ?_
      · intro L a w' hI hL hd K hK
        obtain ⟨g, rfl, hI⟩ := hI
        simp [Region.binds] at hd
        simp only [hd, if_true]
        rw [if_pos (by rfl)]
        have q := at10 (i := 8) hI.2.1 (by simp)
        simp only [List.getD_cons_succ, List.getD_cons_zero] at q
        go_simp
        exact hK.out _ _ ⟨g, by simp [hd], by simpa using hI⟩
      refine Inv.Steps.cons rfl ?_ ?_
      · intro L a w' hI hL hd K hK
        obtain ⟨g, rfl, hI⟩ := hI
        clear hd
        rw [if_pos (by rfl)]
        go_simp
        exact hK.out _ _ ⟨g, by simp, by simpa using hI⟩
      refine Inv.Steps.cons rfl ?_ ?_
      · intro L a w' hI hL hd K hK
        obtain ⟨g, rfl, hI⟩ := hI
        simp [Region.binds] at hd
        simp only [hd, if_true]
        rw [if_pos (by rfl)]
        go_simp
        exact hK.out _ _ ⟨g, by simp [hd], by simpa using hI⟩
      refine Inv.Steps.cons rfl ?_ ?_
      · intro L a w' hI hL hd K hK
        obtain ⟨g, rfl, hI⟩ := hI
        simp [Region.binds] at hd
        simp only [hd, if_true]
        rw [if_pos (by rfl)]
        have q := at10 (i := 9) hI.2.1 (by simp)
        simp only [List.getD_cons_succ, List.getD_cons_zero] at q
        go_simp
        exact hK.out _ _ ⟨g, by simp [hd], by simpa using hI⟩
      refine Inv.Steps.cons rfl ?_ ?_
      · intro L a w' hI hL hd K hK
        obtain ⟨g, rfl, hI⟩ := hI
        simp [Region.binds] at hd
        simp only [hd, if_true]
        rw [if_pos (by rfl)]
        go_simp
        exact hK.out _ _ ⟨g, by simp [hd], by simpa using hI⟩
      refine Inv.Steps.cons rfl ?_ ?_
      · intro L a w' hI hL hd K hK
        obtain ⟨g, rfl, hI⟩ := hI
        clear hd
        rw [if_pos (by rfl)]
        have h31 : L 31 = false := by
          cases h : L 31 with
          | false => rfl
          | true => exact absurd (hI.2.2.2 h) (by simp [hL])
        refine wp_alloc_po (by rfl) ?_
        intro w6 hX6 hB6 hz6
        exact hK.out _ _ ⟨w'.heap.size, by simp [Act.put], bnext hI.1 hB6, hI.2.1.below hB6, fun _ => ⟨by simpa [h31] using hX6, hI.1.size⟩, by simp⟩
      refine Inv.Steps.cons rfl ?_ ?_
      · intro L a w' hI hL hd K hK
        obtain ⟨g, rfl, hI⟩ := hI
        simp [Region.binds] at hd
        simp only [hd, if_true]
        rw [if_pos (by rfl)]
        have h30 := hI.2.2.1 (by simp [hd])
        simp only [hL, Bool.false_eq_true, if_false] at h30
        refine wp_store_po _ _ g _ ⟨y0, N, y2, n3, n4, n5, n6, n7, n8, n9⟩ (by rfl) (by rfl) (by rfl) h30.1 (by rfl) ?_
        intro w6 hX6 hg6 hz6
        exact hK.out _ _ ⟨g, by simp [hd, Act.put], hI.1.grown hg6 hI.1.size (fun j hj => by simp at hj; subst hj; exact h30.2), hI.2.1.kept hg6 (fun _ a ha => by obtain rfl := Option.some.inj ha; show b ≠ g; have := h30.2; have := hb; have := hB1.size; omega), fun _ => ⟨by simpa using hX6, h30.2⟩, by simp [hd]⟩
      exact Inv.Steps.nil (by decide)
    case done =>
      intro L a w' hI hall
      obtain ⟨g, rfl, hI⟩ := hI
      simp only [hall, if_true] at hI ⊢
      obtain ⟨hB9, hR9, h30, -⟩ := hI
      have hX9 := (h30 trivial).1
      have hok : PoOk ⟨y0, N, y2, n3, n4, n5, n6, n7, n8, n9⟩ := by
        have k0 := hw c0 (by simp)
        have k2 := hw c2 (by simp)
        have k3 := (hw (n3 : Int) (by simp)).2
        have k4 := (hw (n4 : Int) (by simp)).2
        have k5 := (hw (n5 : Int) (by simp)).2
        have k6 := (hw (n6 : Int) (by simp)).2
        have k7 := (hw (n7 : Int) (by simp)).2
        have k8 := (hw (n8 : Int) (by simp)).2
        have k9 := (hw (n9 : Int) (by simp)).2
        obtain ⟨z0, z1⟩ := k0
        obtain ⟨u0, u1⟩ := k2
        refine ⟨?_, hN, ?_, by simp only; omega, by simp only; omega, by simp only; omega, by simp only; omega, by simp only; omega, by simp only; omega, by simp only; omega⟩
        · rw [← hy0]; unfold sint Inty; simp only; split <;> omega
        · rw [← hy2]; unfold sint Inty; simp only; split <;> omega
      have hr := fun W => policy_Right _ hok W
      have hE1 : Hid (isP [c0, c1, c2, (n3 : Int), (n4 : Int), (n5 : Int), (n6 : Int), (n7 : Int), (n8 : Int), (n9 : Int)] = true → F0 = true ∧ F2 = true ∧ rightP ⟨y0, N, y2, n3, n4, n5, n6, n7, n8, n9⟩ = true) := fun h => by
        obtain ⟨-, -, h3⟩ := isP_iff.1 h
        obtain ⟨h4, h5, h6, -⟩ := rightP_iff.1 h3
        have h7 := bits_of h6
        simp [asP] at h4 h5 h7
        have f0 : fits c0 = true := by unfold fits; simp; omega
        have f2 : fits c2 = true := by unfold fits; simp; omega
        have s0 : sint c0 = c0 := by unfold sint; rw [if_neg (by omega)]
        have s2 : sint c2 = c2 := by unfold sint; rw [if_neg (by omega)]
        refine ⟨hF0.symm.trans f0, hF2.symm.trans f2, ?_⟩
        rw [← hy0, ← hy2, s0, s2, ← hNN]
        simpa [asP] using h3
      have hE2 : Hid (F0 = true → F2 = true → asP [c0, c1, c2, (n3 : Int), (n4 : Int), (n5 : Int), (n6 : Int), (n7 : Int), (n8 : Int), (n9 : Int)] = ⟨y0, N, y2, n3, n4, n5, n6, n7, n8, n9⟩) := fun f0 f2 => by
        have f0 := hF0.trans f0
        have f2 := hF2.trans f2
        unfold fits at f0 f2
        simp only [decide_eq_true_eq] at f0 f2
        have s0 : sint c0 = c0 := by unfold sint; rw [if_neg (by omega)]
        have s2 : sint c2 = c2 := by unfold sint; rw [if_neg (by omega)]
        rw [← hy0, ← hy2, s0, s2, ← hNN]
        simp [asP]
      have hE3 : Hid (∀ h : F0 = true ∧ F2 = true ∧ rightP ⟨y0, N, y2, n3, n4, n5, n6, n7, n8, n9⟩ = true, isP [c0, c1, c2, (n3 : Int), (n4 : Int), (n5 : Int), (n6 : Int), (n7 : Int), (n8 : Int), (n9 : Int)] = true) := fun h => isP_iff.2 ⟨rfl, by simp; omega, by rw [hE2.out h.1 h.2.1]; exact h.2.2⟩
      have hXw := hX1.below hB9
      have hB19 := bnext hB1 hB9
      clear hB9 hX1 hB1 k0 k1 k2 k3 k4 k5 k6 k7 k8 k9 hw r hR9 hall hy0 hy2 hF0 hF2 hNN h30 hi0 hi2 hof hwr q0 q1 q2
      cases hF0e : F0 with
      | false =>
        subst hF0e
        obtain rfl : E = false := by
          cases hEE : E with
          | false => rfl
          | true => have := hE1.out (hE.out.trans hEE); simp_all
        go_wp2_with (first
          | ((fail_if_success (have _ := hX8)); (refine at_build0 (by rfl) (by rfl) ?_))
          | ((fail_if_success (have _ := hX8)); (refine at_store_po _ _ _ _ _ (by rfl) (by rfl) (by rfl) hXw rfl (by rfl) ?_); intro V8 hX8 hg8 hz8))
        refine ret_po2 (by rfl) rfl _ zeroP rfl hX8 ⟨rfl, ?_⟩
        exact (hB19).grown hg8 (hB19).size (by simp)
      | true =>
        cases hF2e : F2 with
        | false =>
          subst hF0e hF2e
          obtain rfl : E = false := by
            cases hEE : E with
            | false => rfl
            | true => have := hE1.out (hE.out.trans hEE); simp_all
          go_wp2_with (first
            | ((fail_if_success (have _ := hX8)); (refine at_build0 (by rfl) (by rfl) ?_))
            | ((fail_if_success (have _ := hX8)); (refine at_store_po _ _ _ _ _ (by rfl) (by rfl) (by rfl) hXw rfl (by rfl) ?_); intro V8 hX8 hg8 hz8))
          refine ret_po2 (by rfl) rfl _ zeroP rfl hX8 ⟨rfl, ?_⟩
          exact (hB19).grown hg8 (hB19).size (by simp)
        | true =>
          subst hF0e hF2e
          cases hRR : rightP ⟨y0, N, y2, n3, n4, n5, n6, n7, n8, n9⟩ with
          | false =>
            rw [hRR] at hr
            obtain rfl : E = false := by
              cases hEE : E with
              | false => rfl
              | true => have := hE1.out (hE.out.trans hEE); simp_all
            go_wp2_with (first
              | ((fail_if_success (have _ := hX8)); (refine at_build0 (by rfl) (by rfl) ?_))
              | ((fail_if_success (have _ := hB7)); (refine at_load_po _ _ _ (by rfl) (by rfl) hX9 (by rfl) ?_))
              | ((with_reducible refine (hr _).mono ?_); rintro e w7 ⟨rfl, hB7⟩; have hXw7 := hXw.below hB7)
              | ((fail_if_success (have _ := hX8)); (refine at_store_po _ _ _ _ _ (by rfl) (by rfl) (by rfl) hXw7 rfl (by rfl) ?_); intro V8 hX8 hg8 hz8))
            refine ret_po2 (by rfl) rfl _ zeroP rfl hX8 ⟨rfl, ?_⟩
            exact (bnext hB19 hB7).grown hg8 (bnext hB19 hB7).size (by simp)
          | true =>
            rw [hRR] at hr
            obtain rfl : E = true := hE.out.symm.trans (hE3.out ⟨rfl, rfl, hRR⟩)
            have hAs := hE2.out rfl rfl
            go_wp2_with (first
              | ((fail_if_success (have _ := hB7)); (refine at_load_po _ _ _ (by rfl) (by rfl) hX9 (by rfl) ?_))
              | ((with_reducible refine (hr _).mono ?_); rintro e w7 ⟨rfl, hB7⟩; have hX7 := hX9.below hB7; have hXw7 := hXw.below hB7)
              | ((fail_if_success (have _ := hX8)); (refine at_load_po _ _ _ (by rfl) (by rfl) hX7 (by rfl) ?_))
              | ((fail_if_success (have _ := hX8)); (refine at_store_po _ _ _ _ _ (by rfl) (by rfl) (by rfl) hXw7 rfl (by rfl) ?_); intro V8 hX8 hg8 hz8))
            refine ret_po2 (by rfl) rfl _ _ rfl hX8 ⟨?_, ?_⟩
            · rfl
            · exact (bnext hB19 hB7).grown hg8 (bnext hB19 hB7).size (by simp)
/-- The policy of whatever numbers. -/
theorem policy_Of (q : Option Addr) (m c : Nat) (l : List Int) (hl : l.length = m) (w : World) (r : Reads .u64 w q c l) (hw : ∀ x ∈ l, Word x) :
    Calls Try.prog 57 #[.slice q m c] w fun e w' => e = .returned (.tuple #[pv (ofP l), .int .i64 (ofE l)]) ∧ Below w.heap.size w w' := by
  by_cases hm : m = 10
  · subst hm
    obtain ⟨c0, c1, c2, c3, c4, c5, c6, c7, c8, c9, rfl⟩ := list10 l hl
    exact policy_Of_ten q c c0 c1 c2 c3 c4 c5 c6 c7 c8 c9 w r hw
  · have hno : isP l = false := by
      rw [← Bool.not_eq_true, isP_iff]
      rintro ⟨h, -⟩
      omega
    have e1 : ofP l = zeroP := by unfold ofP; rw [hno]; rfl
    have e2 : ofE l = 111 := by unfold ofE; rw [hno]; rfl
    rw [e1, e2]
    exact policy_Of_len q m c hm w
end Go.Proofs.Ytnaofcggdjbocaa.Policy
/-
  The policy of numbers: the document's Of. (Written by gen_prefof.py.)
-/
namespace Go.Proofs.Ytnaofcggdjbocaa.Policy
open Go.RowKit Go.Proofs.Ytnaofcggdjbocaa.Mem Go.Proofs.Ytnaofcggdjbocaa.Addr
set_option maxRecDepth 100000

section
variable {o : Oper} {a : Act} {w : World} {ops : Array Oper} {rest : List Oper} {Q : Exit → Act → World → Prop}
/-- A number into one cell of a block that is known whole. -/
theorem wp_store_u64 {K : Act → World → Prop} (x y : Operand) (g k : Nat) (t : TypeId) (cs : List Value) (v : Int) (ho : o.op = .store 22 x y) (hx : a.eval x = .pointer (some ⟨g, k, none⟩)) (hy : a.eval y = .int .u64 v) (hb : Blk w g t cs) (hk : k < cs.length)
    (h : ∀ w', Blk w' g t (cs.set k (.int .u64 v)) → w.grownBy w' (some g) → Hid (w'.heap.size = w.heap.size) → K (a.put o.dst undef) w') : o.wp Try.prog a w K Q := by
  have c := hb.cell k
  have f := hb.frozen k
  rw [List.getElem?_eq_getElem hk] at c
  have hh := h _ (hb.put k (.int .u64 v)) (only_put w ⟨g, k, none⟩ _) (by unfold Hid; simp)
  unfold Oper.wp execOp
  simp only [ho, hx, hy, Instr.storeAt, Instr.sureAddr, Sem.run_bind, Sem.run_pure, Result.andThen_ok]
  simp [go_sem, c, f]
  exact hh
/-- A network into a policy that is known whole. -/
theorem wp_store_net {K : Act → World → Prop} (x y : Operand) (g : Nat) (p : Po) (N : Nat) (b : Int) (ho : o.op = .store 45 x y) (hx : a.eval x = .pointer (some ⟨g, 1, none⟩)) (hy : a.eval y = .agg #[.int .u8 (b0 N), .int .u8 (b1 N), .int .u8 (b2 N), .int .u8 (b3 N), .int .i64 b]) (hb : Blk w g 47 (pl p))
    (h : ∀ w', Blk w' g 47 (pl { p with N := N, b := b }) → w.grownBy w' (some g) → Hid (w'.heap.size = w.heap.size) → K (a.put o.dst undef) w') : o.wp Try.prog a w K Q := by
  have c := hb.cell
  have f := hb.frozen
  unfold pl at c
  have hh := h _ (((((hb.put 1 (.int .u8 (b0 N))).put 2 (.int .u8 (b1 N))).put 3 (.int .u8 (b2 N))).put 4 (.int .u8 (b3 N))).put 5 (.int .i64 b)) (((((only_put w ⟨g, 1, none⟩ _).trans (only_put _ ⟨g, 2, none⟩ _)).trans (only_put _ ⟨g, 3, none⟩ _)).trans (only_put _ ⟨g, 4, none⟩ _)).trans (only_put _ ⟨g, 5, none⟩ _)) (by unfold Hid; simp)
  unfold Oper.wp execOp
  simp only [ho, hx, hy, Instr.storeAt, Instr.sureAddr, Sem.run_bind, Sem.run_pure, Result.andThen_ok]
  simp [go_sem, c, f]
  exact hh
theorem at_store_u64 (x y : Operand) (g k : Nat) (t : TypeId) (cs : List Value) (v : Int) (ho : o.op = .store 22 x y) (hx : a.eval x = .pointer (some ⟨g, k, none⟩)) (hy : a.eval y = .int .u64 v) (hb : Blk w g t cs) (hk : k < cs.length) (hw : Region.wanted o (yielded ops a.tmps) = true)
    (h : ∀ w', Blk w' g t (cs.set k (.int .u64 v)) → w.grownBy w' (some g) → Hid (w'.heap.size = w.heap.size) → wpList Try.prog ops Q rest (a.put o.dst undef) w') : wpList Try.prog ops Q (o :: rest) a w :=
  BigFrame.wpList_want hw fun _ hK => wp_store_u64 x y g k t cs v ho hx hy hb hk (fun w2 h1 h2 h3 => hK _ _ (h w2 h1 h2 h3))
end
theorem run_build1 (c : Int) (w : World) : (Instr.build 47 #[(0, .int .i64 c)]).run Try.prog w = .ok (pv ⟨c, 0, 0, 0, 0, 0, 0, 0, 0, 0⟩) w := by kernel_rfl
theorem at_build1 {o : Oper} {a : Act} {w : World} {ops : Array Oper} {rest : List Oper} {Q : Exit → Act → World → Prop} (x : Operand) (c : Int) (ho : o.op = .build 47 #[(0, x)]) (hx : a.eval x = .int .i64 c) (hw : Region.wanted o (yielded ops a.tmps) = true) (h : wpList Try.prog ops Q rest (a.put o.dst (pv ⟨c, 0, 0, 0, 0, 0, 0, 0, 0, 0⟩)) w) : wpList Try.prog ops Q (o :: rest) a w :=
  BigFrame.wpList_want hw fun _ hK => wp_run (Instr.build 47 #[(0, .int .i64 c)]) (by simp [execOp, ho, hx]) (run_build1 c w) (hK _ _ h)
theorem ref_Of_len (q : Option Addr) (m c : Nat) (hm : m ≠ 10) (w : World) :
    Calls Try.prog 43 #[.slice q m c] w fun e w' => e = .returned (.tuple #[pv zeroP, .int .i64 111]) ∧ Below w.heap.size w w' := by
  have hne : ((m : Int) == 10) = false := by simp; omega
  go_enter Try.func43, Try.ntmps43
  go_wp2_with (first
    | ((fail_if_success (have _ := hX1)); (refine at_alloc_po (by rfl) (by rfl) ?_); intro V1 hX1 hB1 hz1)
    | ((fail_if_success (have _ := hX2)); (refine at_build0 (by rfl) (by rfl) ?_))
    | ((fail_if_success (have _ := hX2)); (refine at_store_po _ _ _ _ _ (by rfl) (by rfl) (by rfl) hX1 rfl (by rfl) ?_); intro V2 hX2 hg2 hz2))
  refine ret_po2 (by rfl) rfl _ zeroP rfl hX2 ⟨rfl, ?_⟩
  exact hB1.grown hg2 hB1.size (by simp)
set_option maxHeartbeats 4000000 in
theorem ref_Of_no (q : Option Addr) (c : Nat) (c0 c1 c2 c3 c4 c5 c6 c7 c8 c9 : Int) (w : World) (r : Reads .u64 w q c [c0, c1, c2, c3, c4, c5, c6, c7, c8, c9]) (hno : 255 < c0 ∨ 4294967295 < c1 ∨ 32 < c2) :
    Calls Try.prog 43 #[.slice q 10 c] w fun e w' => e = .returned (.tuple #[pv zeroP, .int .i64 111]) ∧ Below w.heap.size w w' := by
  obtain ⟨b, o, rfl, hb, k0, k1, k2, -⟩ := cells10 r
  rcases (show 255 < c0 ∨ (c0 ≤ 255 ∧ 4294967295 < c1) ∨ (c0 ≤ 255 ∧ c1 ≤ 4294967295 ∧ 32 < c2) by omega) with h0 | ⟨h0, h1⟩ | ⟨h0, h1, h2⟩
  all_goals
    try have m0 : decide (255 < c0) = false := decide_eq_false (by omega)
    try have m1 : decide (4294967295 < c1) = false := decide_eq_false (by omega)
    go_enter Try.func43, Try.ntmps43
    go_wp2_with (first
      | ((fail_if_success (have _ := hX1)); (refine at_alloc_po (by rfl) (by rfl) ?_); intro V1 hX1 hB1 hz1; have q0 := (hB1.cell (p := ⟨b, o, none⟩) hb).trans k0; have q1 := (hB1.cell (p := ⟨b, o + 1, none⟩) hb).trans k1; have q2 := (hB1.cell (p := ⟨b, o + 2, none⟩) hb).trans k2)
      | ((fail_if_success (have _ := hX2)); (refine at_build0 (by rfl) (by rfl) ?_))
      | ((fail_if_success (have _ := hX2)); (refine at_store_po _ _ _ _ _ (by rfl) (by rfl) (by rfl) hX1 rfl (by rfl) ?_); intro V2 hX2 hg2 hz2))
    refine ret_po2 (by rfl) rfl _ zeroP rfl hX2 ⟨rfl, ?_⟩
    exact hB1.grown hg2 hB1.size (by simp)
set_option maxHeartbeats 4000000 in
theorem ref_Of_ten (q : Option Addr) (c : Nat) (c0 c1 c2 : Int) (n3 n4 n5 n6 n7 n8 n9 : Nat) (w : World) (r : Reads .u64 w q c [c0, c1, c2, (n3 : Int), (n4 : Int), (n5 : Int), (n6 : Int), (n7 : Int), (n8 : Int), (n9 : Int)]) (hw : ∀ x ∈ [c0, c1, c2, (n3 : Int), (n4 : Int), (n5 : Int), (n6 : Int), (n7 : Int), (n8 : Int), (n9 : Int)], Word x) (h0 : c0 ≤ 255) (h1 : c1 ≤ 4294967295) (h2 : c2 ≤ 32) :
    Calls Try.prog 43 #[.slice q 10 c] w fun e w' => e = .returned (.tuple #[pv (ofP [c0, c1, c2, (n3 : Int), (n4 : Int), (n5 : Int), (n6 : Int), (n7 : Int), (n8 : Int), (n9 : Int)]), .int .i64 (ofE [c0, c1, c2, (n3 : Int), (n4 : Int), (n5 : Int), (n6 : Int), (n7 : Int), (n8 : Int), (n9 : Int)])]) ∧ Below w.heap.size w w' := by
  obtain ⟨b, o, rfl, hb, k0, k1, k2, -⟩ := cells10 r
  have p0 := (hw c0 (by simp)).1
  have p1 := (hw c1 (by simp)).1
  have p2 := (hw c2 (by simp)).1
  have hwr := wrap_u32 p1 h1
  have hw0 : IntKind.i64.wrap c0 = c0 := by rw [IntKind.wrap_i64]; omega
  have hw2 : IntKind.i64.wrap c2 = c2 := by rw [IntKind.wrap_i64]; omega
  have m0 : decide (255 < c0) = false := decide_eq_false (by omega)
  have m1 : decide (4294967295 < c1) = false := decide_eq_false (by omega)
  have m2 : decide (32 < c2) = false := decide_eq_false (by omega)
  have hN : c1.toNat < 4294967296 := by omega
  obtain ⟨N, hNN⟩ : ∃ N, c1.toNat = N := ⟨_, rfl⟩
  rw [hNN] at hN hwr
  have hof := fun W => ref_Of N hN W
  unfold adr at hof
  have hok : PoOk ⟨c0, N, c2, n3, n4, n5, n6, n7, n8, n9⟩ := by
    have z3 := (hw (n3 : Int) (by simp)).2
    have z4 := (hw (n4 : Int) (by simp)).2
    have z5 := (hw (n5 : Int) (by simp)).2
    have z6 := (hw (n6 : Int) (by simp)).2
    have z7 := (hw (n7 : Int) (by simp)).2
    have z8 := (hw (n8 : Int) (by simp)).2
    have z9 := (hw (n9 : Int) (by simp)).2
    exact ⟨⟨by simp only; omega, by simp only; omega⟩, hN, ⟨by simp only; omega, by simp only; omega⟩, by simp only; omega, by simp only; omega, by simp only; omega, by simp only; omega, by simp only; omega, by simp only; omega, by simp only; omega⟩
  have hr := fun W => ref_RightP _ hok W
  have hAs : asP [c0, c1, c2, (n3 : Int), (n4 : Int), (n5 : Int), (n6 : Int), (n7 : Int), (n8 : Int), (n9 : Int)] = ⟨c0, N, c2, n3, n4, n5, n6, n7, n8, n9⟩ := by rw [← hNN]; simp [asP]
  have hI : isP [c0, c1, c2, (n3 : Int), (n4 : Int), (n5 : Int), (n6 : Int), (n7 : Int), (n8 : Int), (n9 : Int)] = rightP ⟨c0, N, c2, n3, n4, n5, n6, n7, n8, n9⟩ := by
    unfold isP
    rw [hAs]
    simp; intros; omega
  unfold ofP ofE
  rw [hI, hAs]
  clear hI hAs hok p0 p1 p2 hNN hw h0 h1 h2
  generalize hRR : rightP ⟨c0, N, c2, n3, n4, n5, n6, n7, n8, n9⟩ = R at *
  clear hRR
  go_enter Try.func43, Try.ntmps43
  go_wp2_with (first
    | ((fail_if_success (have _ := hX1)); (refine at_alloc_po (by rfl) (by rfl) ?_); intro V1 hX1 hB1 hz1; have q0 := (hB1.cell (p := ⟨b, o, none⟩) hb).trans k0; have q1 := (hB1.cell (p := ⟨b, o + 1, none⟩) hb).trans k1; have q2 := (hB1.cell (p := ⟨b, o + 2, none⟩) hb).trans k2; clear k0 k1 k2)
    | ((fail_if_success (have _ := hX2)); (have _ := hX1); (refine at_build1 _ c0 (by rfl) (by rfl) (by rfl) ?_))
    | ((fail_if_success (have _ := hX2)); (have _ := hX1); (refine at_alloc_po (by rfl) (by rfl) ?_); intro V2 hX2 hB2 hz2)
    | ((fail_if_success (have _ := hX3)); (have _ := hX2); (refine at_store_po _ _ _ _ ⟨c0, 0, 0, 0, 0, 0, 0, 0, 0, 0⟩ (by rfl) (by rfl) (by rfl) hX2 rfl (by rfl) ?_); intro V3 hX3 hg3 hz3))
  have hB13 : Below V1.heap.size V1 V3 := hB2.grown hg3 hB2.size (by simp)
  have r3 := r.below (bnext hB1 hB13)
  have hX13 := hX1.below hB13
  have hnw : some w.heap.size ≠ some V1.heap.size := by have := hX1.lt; simp; omega
  have hbs : b < V1.heap.size := Nat.lt_of_lt_of_le hb hB1.size
  clear hB2 hX2 hz1 hz2 hz3 q0 q1 q2 r hX1 hg3
  have q1 := at10 (i := 1) r3 (by simp)
  have q2 := at10 (i := 2) r3 (by simp)
  simp only [List.getD_cons_succ, List.getD_cons_zero] at q1 q2
  refine Inv.region_inv (fun L a w' => a = { tmps := #[(.slice (some ⟨b, o, none⟩) 10 c), undef, (.pointer (some ⟨w.heap.size, 0, none⟩)), (.int .i64 0), (.pointer (some ⟨V1.heap.size, 0, none⟩)), (.slice (some ⟨b, o, none⟩) 10 c), (.int .i64 10), (.bool false), (.bool false), (.slice (some ⟨b, o, none⟩) 10 c), (.pointer (some ⟨b, o, none⟩)), (.int .u64 c0), (.bool false), (.bool false), (.bool false), (.slice (some ⟨b, o, none⟩) 10 c), (.pointer (some ⟨b, o + 1, none⟩)), (.int .u64 c1), (.bool false), (.bool false), (.bool false), (.slice (some ⟨b, o, none⟩) 10 c), (.pointer (some ⟨b, o + 2, none⟩)), (.int .u64 c2), (.bool false), (.bool false), undef, (.slice (some ⟨b, o, none⟩) 10 c), (.pointer (some ⟨b, o, none⟩)), (.int .u64 c0), (.int .i64 c0), (pv ⟨c0, 0, 0, 0, 0, 0, 0, 0, 0, 0⟩), (if L 0 = true then (.slice (some ⟨b, o, none⟩) 10 c) else undef), (if L 1 = true then (.pointer (some ⟨b, o + 1, none⟩)) else undef), (if L 2 = true then (.int .u64 c1) else undef), (if L 3 = true then (.int .u32 (N : Int)) else undef), (if L 4 = true then (.agg #[.int .u8 (b0 N), .int .u8 (b1 N), .int .u8 (b2 N), .int .u8 (b3 N)]) else undef), (if L 5 = true then (.slice (some ⟨b, o, none⟩) 10 c) else undef), (if L 6 = true then (.pointer (some ⟨b, o + 2, none⟩)) else undef), (if L 7 = true then (.int .u64 c2) else undef), (if L 8 = true then (.int .i64 c2) else undef), (if L 9 = true then (.agg #[.int .u8 (b0 N), .int .u8 (b1 N), .int .u8 (b2 N), .int .u8 (b3 N), .int .i64 c2]) else undef), (if L 10 = true then (.pointer (some ⟨V1.heap.size, 1, none⟩)) else undef), undef, undef, undef, undef, undef, undef, undef, undef, undef, undef, undef, undef, undef, undef, undef, undef, undef, undef, undef, undef, undef, undef, undef, undef, undef, undef, undef, undef, undef, undef, undef, undef, undef], defers := [] } ∧ (Below V1.heap.size V1 w' ∧ Reads .u64 w' (some ⟨b, o, none⟩) c [c0, c1, c2, (n3 : Int), (n4 : Int), (n5 : Int), (n6 : Int), (n7 : Int), (n8 : Int), (n9 : Int)] ∧ Blk w' V1.heap.size 47 (pl (if L 11 = true then ⟨c0, N, c2, 0, 0, 0, 0, 0, 0, 0⟩ else ⟨c0, 0, 0, 0, 0, 0, 0, 0, 0, 0⟩)) ∧ Blk w' w.heap.size 47 (pl zeroP))) (by kernel_rfl) (by kernel_rfl) ?h0 ?step ?done
  case h0 => exact ⟨by simp [Act.put], hB13.drew, r3.drew, by simpa using hX3.drew, hX13.drew⟩
  case step =>
    refine Inv.Steps.cons rfl ?_ ?_
    · intro L a w' hI hL hd K hK
      obtain ⟨rfl, hI⟩ := hI
      clear hd
      rw [if_pos (by rfl)]
      go_simp
      exact hK.out _ _ ⟨by simp, by simpa using hI⟩
    refine Inv.Steps.cons rfl ?_ ?_
    · intro L a w' hI hL hd K hK
      obtain ⟨rfl, hI⟩ := hI
      simp [Region.binds] at hd
      simp only [hd, if_true]
      rw [if_pos (by rfl)]
      go_simp
      exact hK.out _ _ ⟨by simp [hd], by simpa using hI⟩
    refine Inv.Steps.cons rfl ?_ ?_
    · intro L a w' hI hL hd K hK
      obtain ⟨rfl, hI⟩ := hI
      simp [Region.binds] at hd
      simp only [hd, if_true]
      rw [if_pos (by rfl)]
      have q := at10 (i := 1) hI.2.1 (by simp)
      simp only [List.getD_cons_succ, List.getD_cons_zero] at q
      go_simp
      exact hK.out _ _ ⟨by simp [hd], by simpa using hI⟩
    refine Inv.Steps.cons rfl ?_ ?_
    · intro L a w' hI hL hd K hK
      obtain ⟨rfl, hI⟩ := hI
      simp [Region.binds] at hd
      simp only [hd, if_true]
      rw [if_pos (by rfl)]
      go_simp
      exact hK.out _ _ ⟨by simp [hd], by simpa using hI⟩
    refine Inv.Steps.cons rfl ?_ ?_
    · intro L a w' hI hL hd K hK
      obtain ⟨rfl, hI⟩ := hI
      simp [Region.binds] at hd
      simp only [hd, if_true]
      rw [if_pos (by rfl)]
      go_simp
      refine (hof _).mono ?_
      rintro e w6 ⟨rfl, hB6⟩
      exact hK.out _ _ ⟨by simp [hd], bnext hI.1 hB6, hI.2.1.below hB6, (by simpa using hI.2.2.1 : Blk _ _ _ _).below hB6, hI.2.2.2.below hB6⟩
    refine Inv.Steps.cons rfl ?_ ?_
    · intro L a w' hI hL hd K hK
      obtain ⟨rfl, hI⟩ := hI
      clear hd
      rw [if_pos (by rfl)]
      go_simp
      exact hK.out _ _ ⟨by simp, by simpa using hI⟩
    refine Inv.Steps.cons rfl ?_ ?_
    · intro L a w' hI hL hd K hK
      obtain ⟨rfl, hI⟩ := hI
      simp [Region.binds] at hd
      simp only [hd, if_true]
      rw [if_pos (by rfl)]
      go_simp
      exact hK.out _ _ ⟨by simp [hd], by simpa using hI⟩
    refine Inv.Steps.cons rfl ?_ ?_
    · intro L a w' hI hL hd K hK
      obtain ⟨rfl, hI⟩ := hI
      simp [Region.binds] at hd
      simp only [hd, if_true]
      rw [if_pos (by rfl)]
      have q := at10 (i := 2) hI.2.1 (by simp)
      simp only [List.getD_cons_succ, List.getD_cons_zero] at q
      go_simp
      exact hK.out _ _ ⟨by simp [hd], by simpa using hI⟩
    refine Inv.Steps.cons rfl ?_ ?_
    · intro L a w' hI hL hd K hK
      obtain ⟨rfl, hI⟩ := hI
      simp [Region.binds] at hd
      simp only [hd, if_true]
      rw [if_pos (by rfl)]
      go_simp
      exact hK.out _ _ ⟨by simp [hd], by simpa using hI⟩
    refine Inv.Steps.cons rfl ?_ ?_
    · intro L a w' hI hL hd K hK
      obtain ⟨rfl, hI⟩ := hI
      simp [Region.binds] at hd
      simp only [hd, if_true]
      rw [if_pos (by rfl)]
      go_simp
      exact hK.out _ _ ⟨by simp [hd], by simpa using hI⟩
    refine Inv.Steps.cons rfl ?_ ?_
    · intro L a w' hI hL hd K hK
      obtain ⟨rfl, hI⟩ := hI
      simp [Region.binds] at hd
      simp only [hd, if_true]
      rw [if_pos (by rfl)]
      go_simp
      exact hK.out _ _ ⟨by simp [hd], by simpa using hI⟩
    refine Inv.Steps.cons rfl ?_ ?_
    · intro L a w' hI hL hd K hK
      obtain ⟨rfl, hI⟩ := hI
      simp [Region.binds] at hd
      simp only [hd, if_true]
      rw [if_pos (by rfl)]
      have h30 := hI.2.2.1
      simp only [hL, Bool.false_eq_true, if_false] at h30
      refine wp_store_net _ _ _ _ N c2 (by rfl) (by rfl) (by rfl) h30 ?_
      intro w6 hX6 hg6 hz6
      exact hK.out _ _ ⟨by simp [hd, Act.put], hI.1.grown hg6 hI.1.size (fun j hj => by simp at hj; omega), hI.2.1.kept hg6 (fun _ a ha => by obtain rfl := Option.some.inj ha; show b ≠ V1.heap.size; omega), by simpa using hX6, hI.2.2.2.kept hg6 hnw⟩
    exact Inv.Steps.nil (by decide)
  case done =>
    intro L a w' hI hall
    obtain ⟨rfl, hI⟩ := hI
    simp only [hall, if_true] at hI ⊢
    obtain ⟨hB9, hR9, hX9, hX9w⟩ := hI
    have hne : ∀ {l : List Int}, 0 < l.length → ∀ a, some (⟨b, o, none⟩ : Addr) = some a → a.block ≠ V1.heap.size := fun _ a ha => by obtain rfl := Option.some.inj ha; show b ≠ V1.heap.size; omega
    have q3 := at10 (i := 3) hR9 (by simp)
    simp only [List.getD_cons_succ, List.getD_cons_zero] at q3
    have v5 := hX9w
    have c5 := hB9
    clear hof hall hX13 r3 q1 q2
    cases R with
    | false =>
      go_wp2_with (first
        | ((fail_if_success (have _ := hY6)); (refine at_store_u64 _ _ _ 6 _ _ (n3 : Int) (by rfl) (by rfl) (by rfl) hX9 (by simp [pl]) (by rfl) ?_); intro U6 hY6 hh6 hz6; have v6 := v5.kept hh6 hnw; have c6 := c5.grown hh6 c5.size (by simp); have s6 := hR9.kept hh6 hne; have q4 := at10 (i := 4) s6 (by simp); simp only [List.getD_cons_succ, List.getD_cons_zero] at q4)
        | ((fail_if_success (have _ := hY7)); (have _ := hY6); (refine at_store_u64 _ _ _ 7 _ _ (n4 : Int) (by rfl) (by rfl) (by rfl) hY6 (by simp [pl]) (by rfl) ?_); intro U7 hY7 hh7 hz7; have v7 := v6.kept hh7 hnw; have c7 := c6.grown hh7 c6.size (by simp); have s7 := s6.kept hh7 hne; have q5 := at10 (i := 5) s7 (by simp); simp only [List.getD_cons_succ, List.getD_cons_zero] at q5)
        | ((fail_if_success (have _ := hY8)); (have _ := hY7); (refine at_store_u64 _ _ _ 8 _ _ (n5 : Int) (by rfl) (by rfl) (by rfl) hY7 (by simp [pl]) (by rfl) ?_); intro U8 hY8 hh8 hz8; have v8 := v7.kept hh8 hnw; have c8 := c7.grown hh8 c7.size (by simp); have s8 := s7.kept hh8 hne; have q6 := at10 (i := 6) s8 (by simp); simp only [List.getD_cons_succ, List.getD_cons_zero] at q6)
        | ((fail_if_success (have _ := hY9)); (have _ := hY8); (refine at_store_u64 _ _ _ 9 _ _ (n6 : Int) (by rfl) (by rfl) (by rfl) hY8 (by simp [pl]) (by rfl) ?_); intro U9 hY9 hh9 hz9; have v9 := v8.kept hh9 hnw; have c9 := c8.grown hh9 c8.size (by simp); have s9 := s8.kept hh9 hne; have q7 := at10 (i := 7) s9 (by simp); simp only [List.getD_cons_succ, List.getD_cons_zero] at q7)
        | ((fail_if_success (have _ := hY10)); (have _ := hY9); (refine at_store_u64 _ _ _ 10 _ _ (n7 : Int) (by rfl) (by rfl) (by rfl) hY9 (by simp [pl]) (by rfl) ?_); intro U10 hY10 hh10 hz10; have v10 := v9.kept hh10 hnw; have c10 := c9.grown hh10 c9.size (by simp); have s10 := s9.kept hh10 hne; have q8 := at10 (i := 8) s10 (by simp); simp only [List.getD_cons_succ, List.getD_cons_zero] at q8)
        | ((fail_if_success (have _ := hY11)); (have _ := hY10); (refine at_store_u64 _ _ _ 11 _ _ (n8 : Int) (by rfl) (by rfl) (by rfl) hY10 (by simp [pl]) (by rfl) ?_); intro U11 hY11 hh11 hz11; have v11 := v10.kept hh11 hnw; have c11 := c10.grown hh11 c10.size (by simp); have s11 := s10.kept hh11 hne; have q9 := at10 (i := 9) s11 (by simp); simp only [List.getD_cons_succ, List.getD_cons_zero] at q9)
        | ((fail_if_success (have _ := hY12)); (have _ := hY11); (refine at_store_u64 _ _ _ 12 _ _ (n9 : Int) (by rfl) (by rfl) (by rfl) hY11 (by simp [pl]) (by rfl) ?_); intro U12 hY12 hh12 hz12; have v12 := v11.kept hh12 hnw; have c12 := c11.grown hh12 c11.size (by simp))
        | ((fail_if_success (have _ := hBr)); (have _ := hY12); (refine at_load_po _ _ ⟨c0, N, c2, n3, n4, n5, n6, n7, n8, n9⟩ (by rfl) (by rfl) hY12 (by rfl) ?_))
        | ((with_reducible refine (hr _).mono ?_); rintro e U13 ⟨rfl, hBr⟩; have v13 := v12.below hBr; have hY13 : Blk _ _ _ (pl ⟨c0, N, c2, n3, n4, n5, n6, n7, n8, n9⟩) := hY12.below hBr; have c13 := c12.trans (hBr.mono c12.size); have hBB := bnext hB1 c13)
        | ((fail_if_success (have _ := hX14)); (have _ := v13); (refine at_build0 (by rfl) (by rfl) ?_))
        | ((fail_if_success (have _ := hX14)); (have _ := v13); (refine at_store_po _ _ _ _ _ (by rfl) (by rfl) (by rfl) v13 rfl (by rfl) ?_); intro U14 hX14 hg14 hz14))
      refine ret_po2 (by rfl) rfl _ zeroP rfl hX14 ⟨rfl, ?_⟩
      exact hBB.grown hg14 hBB.size (by simp)
    | true =>
      go_wp2_with (first
        | ((fail_if_success (have _ := hY6)); (refine at_store_u64 _ _ _ 6 _ _ (n3 : Int) (by rfl) (by rfl) (by rfl) hX9 (by simp [pl]) (by rfl) ?_); intro U6 hY6 hh6 hz6; have v6 := v5.kept hh6 hnw; have c6 := c5.grown hh6 c5.size (by simp); have s6 := hR9.kept hh6 hne; have q4 := at10 (i := 4) s6 (by simp); simp only [List.getD_cons_succ, List.getD_cons_zero] at q4)
        | ((fail_if_success (have _ := hY7)); (have _ := hY6); (refine at_store_u64 _ _ _ 7 _ _ (n4 : Int) (by rfl) (by rfl) (by rfl) hY6 (by simp [pl]) (by rfl) ?_); intro U7 hY7 hh7 hz7; have v7 := v6.kept hh7 hnw; have c7 := c6.grown hh7 c6.size (by simp); have s7 := s6.kept hh7 hne; have q5 := at10 (i := 5) s7 (by simp); simp only [List.getD_cons_succ, List.getD_cons_zero] at q5)
        | ((fail_if_success (have _ := hY8)); (have _ := hY7); (refine at_store_u64 _ _ _ 8 _ _ (n5 : Int) (by rfl) (by rfl) (by rfl) hY7 (by simp [pl]) (by rfl) ?_); intro U8 hY8 hh8 hz8; have v8 := v7.kept hh8 hnw; have c8 := c7.grown hh8 c7.size (by simp); have s8 := s7.kept hh8 hne; have q6 := at10 (i := 6) s8 (by simp); simp only [List.getD_cons_succ, List.getD_cons_zero] at q6)
        | ((fail_if_success (have _ := hY9)); (have _ := hY8); (refine at_store_u64 _ _ _ 9 _ _ (n6 : Int) (by rfl) (by rfl) (by rfl) hY8 (by simp [pl]) (by rfl) ?_); intro U9 hY9 hh9 hz9; have v9 := v8.kept hh9 hnw; have c9 := c8.grown hh9 c8.size (by simp); have s9 := s8.kept hh9 hne; have q7 := at10 (i := 7) s9 (by simp); simp only [List.getD_cons_succ, List.getD_cons_zero] at q7)
        | ((fail_if_success (have _ := hY10)); (have _ := hY9); (refine at_store_u64 _ _ _ 10 _ _ (n7 : Int) (by rfl) (by rfl) (by rfl) hY9 (by simp [pl]) (by rfl) ?_); intro U10 hY10 hh10 hz10; have v10 := v9.kept hh10 hnw; have c10 := c9.grown hh10 c9.size (by simp); have s10 := s9.kept hh10 hne; have q8 := at10 (i := 8) s10 (by simp); simp only [List.getD_cons_succ, List.getD_cons_zero] at q8)
        | ((fail_if_success (have _ := hY11)); (have _ := hY10); (refine at_store_u64 _ _ _ 11 _ _ (n8 : Int) (by rfl) (by rfl) (by rfl) hY10 (by simp [pl]) (by rfl) ?_); intro U11 hY11 hh11 hz11; have v11 := v10.kept hh11 hnw; have c11 := c10.grown hh11 c10.size (by simp); have s11 := s10.kept hh11 hne; have q9 := at10 (i := 9) s11 (by simp); simp only [List.getD_cons_succ, List.getD_cons_zero] at q9)
        | ((fail_if_success (have _ := hY12)); (have _ := hY11); (refine at_store_u64 _ _ _ 12 _ _ (n9 : Int) (by rfl) (by rfl) (by rfl) hY11 (by simp [pl]) (by rfl) ?_); intro U12 hY12 hh12 hz12; have v12 := v11.kept hh12 hnw; have c12 := c11.grown hh12 c11.size (by simp))
        | ((fail_if_success (have _ := hBr)); (have _ := hY12); (refine at_load_po _ _ ⟨c0, N, c2, n3, n4, n5, n6, n7, n8, n9⟩ (by rfl) (by rfl) hY12 (by rfl) ?_))
        | ((with_reducible refine (hr _).mono ?_); rintro e U13 ⟨rfl, hBr⟩; have v13 := v12.below hBr; have hY13 : Blk _ _ _ (pl ⟨c0, N, c2, n3, n4, n5, n6, n7, n8, n9⟩) := hY12.below hBr; have c13 := c12.trans (hBr.mono c12.size); have hBB := bnext hB1 c13)
        | ((fail_if_success (have _ := hX14)); (have _ := hY13); (refine at_load_po _ _ _ (by rfl) (by rfl) hY13 (by rfl) ?_))
        | ((fail_if_success (have _ := hX14)); (have _ := v13); (refine at_store_po _ _ _ _ _ (by rfl) (by rfl) (by rfl) v13 rfl (by rfl) ?_); intro U14 hX14 hg14 hz14))
      refine ret_po2 (by rfl) rfl _ _ rfl hX14 ⟨rfl, ?_⟩
      exact hBB.grown hg14 hBB.size (by simp)
/-- The policy of whatever numbers. -/
theorem ref_OfP (q : Option Addr) (m c : Nat) (l : List Int) (hl : l.length = m) (w : World) (r : Reads .u64 w q c l) (hw : ∀ x ∈ l, Word x) :
    Calls Try.prog 43 #[.slice q m c] w fun e w' => e = .returned (.tuple #[pv (ofP l), .int .i64 (ofE l)]) ∧ Below w.heap.size w w' := by
  by_cases hm : m = 10
  · subst hm
    obtain ⟨c0, c1, c2, c3, c4, c5, c6, c7, c8, c9, rfl⟩ := list10 l hl
    by_cases hno : 255 < c0 ∨ 4294967295 < c1 ∨ 32 < c2
    · have hi : isP [c0, c1, c2, c3, c4, c5, c6, c7, c8, c9] = false := by
        rw [← Bool.not_eq_true, isP_iff]
        rintro ⟨-, h1, h2⟩
        obtain ⟨-, h3, h4, -⟩ := rightP_iff.1 h2
        have h5 := bits_of h4
        simp [asP] at h1 h3 h5
        omega
      have e1 : ofP [c0, c1, c2, c3, c4, c5, c6, c7, c8, c9] = zeroP := by unfold ofP; rw [hi]; rfl
      have e2 : ofE [c0, c1, c2, c3, c4, c5, c6, c7, c8, c9] = 111 := by unfold ofE; rw [hi]; rfl
      rw [e1, e2]
      exact ref_Of_no q c c0 c1 c2 c3 c4 c5 c6 c7 c8 c9 w r hno
    · obtain ⟨n3, rfl⟩ := Int.eq_ofNat_of_zero_le (hw c3 (by simp)).1
      obtain ⟨n4, rfl⟩ := Int.eq_ofNat_of_zero_le (hw c4 (by simp)).1
      obtain ⟨n5, rfl⟩ := Int.eq_ofNat_of_zero_le (hw c5 (by simp)).1
      obtain ⟨n6, rfl⟩ := Int.eq_ofNat_of_zero_le (hw c6 (by simp)).1
      obtain ⟨n7, rfl⟩ := Int.eq_ofNat_of_zero_le (hw c7 (by simp)).1
      obtain ⟨n8, rfl⟩ := Int.eq_ofNat_of_zero_le (hw c8 (by simp)).1
      obtain ⟨n9, rfl⟩ := Int.eq_ofNat_of_zero_le (hw c9 (by simp)).1
      exact ref_Of_ten q c c0 c1 c2 n3 n4 n5 n6 n7 n8 n9 w r hw (by omega) (by omega) (by omega)
  · have hno : isP l = false := by
      rw [← Bool.not_eq_true, isP_iff]
      rintro ⟨h, -⟩
      omega
    have e1 : ofP l = zeroP := by unfold ofP; rw [hno]; rfl
    have e2 : ofE l = 111 := by unfold ofE; rw [hno]; rfl
    rw [e1, e2]
    exact ref_Of_len q m c hm w
end Go.Proofs.Ytnaofcggdjbocaa.Policy
namespace Go.Proofs.Ytnaofcggdjbocaa.Event
open Go.RowKit Go.Proofs.Ytnaofcggdjbocaa.Mem Go.Proofs.Ytnaofcggdjbocaa.Policy
set_option maxRecDepth 100000

theorem lit_own {k : IntKind} {w : World} {B : Nat} {e : TypeId} (cs : Array Value) (zs : List Int) (n : Nat) (hcs : cs = (zs.map (Value.int k)).toArray) (hn : n = zs.length) (hl : zs.length ≤ 1000) (hB : B ≤ w.heap.size) :
    (w.alloc (.cells cs e)).ownsRow B e 1 (.slice (some ⟨w.heap.size, 0, none⟩) n n) zs.length (zs.map (Value.int k)) := by
  subst hcs hn
  have h := World.ownsRow_lit (base := B) (e := e) (size := 1) w (zs.map (Value.int k)).toArray zs.length hB (by unfold maxLen; omega) (by simp)
  simpa using h
theorem run_from_u (w : World) (p : Option Addr) (n cap l : Nat) (hl : l ≤ n) :
    (Instr.slice 65 (.slice p n cap) (some (.int .i64 (l : Int))) none none).run Try.prog w = .ok (.slice (cutP p cap l) (n - l) (cap - l)) w := by
  have ht : Try.prog.underlying 65 = some (.slice (Try.prog.elem 65)) := by simp [Program.elem, Try.underlying65]
  have he : Try.prog.elem 65 = 22 := by simp [Program.elem, Try.underlying65]
  rw [run_slice_l w 65 p n cap ht .i64 (l : Int) (by omega) (by omega), he, Try.sizeOf22]
  simp [Result.andThen, sliced, cutP]
theorem run_upto_u (w : World) (p : Option Addr) (n cap l : Nat) (hl : l ≤ cap) :
    (Instr.slice 65 (.slice p n cap) none (some (.int .i64 (l : Int))) none).run Try.prog w = .ok (.slice p l cap) w := by
  have ht : Try.prog.underlying 65 = some (.slice (Try.prog.elem 65)) := by simp [Program.elem, Try.underlying65]
  have he : Try.prog.elem 65 = 22 := by simp [Program.elem, Try.underlying65]
  rw [run_slice_h w 65 p n cap ht .i64 (l : Int) (by omega) (by omega), he, Try.sizeOf22]
  cases p <;> simp [Result.andThen, sliced, Addr.add]
theorem info_i64 : ∃ i, Try.prog.info? 3 = some i ∧ i.zero = some (.int .i64 0) ∧ i.size = 1 ∧ i.bytes = 8 := by
  have h : (Try.prog.info? 3).map (fun i => (i.zero, i.size, i.bytes)) = some (some (.int .i64 0), 1, 8) := by kernel_rfl
  obtain ⟨i, hi, he⟩ := Option.map_eq_some_iff.1 h
  simp only [Prod.mk.injEq] at he
  exact ⟨i, hi, he⟩
theorem lit_pols (w : World) (l : List Po) (n : Nat) (hl : l.length = n) (hn : n ≤ 1000) : RK pl (w.alloc (.cells (l.flatMap pl).toArray 47)) (some ⟨w.heap.size, 0, none⟩) n l :=
  ⟨by omega, by unfold maxLen; omega, by simp, fun _ => ⟨w.heap.size, 0, rfl, by simp, fun j v hv => by rw [Nat.zero_add, (new_blk w _ _).cell j]; exact hv⟩⟩
theorem run_pol1 (p : Po) (w : World) : (Instr.buildSlice 29 1 #[(0, pv p)]).run Try.prog w = .ok (.slice (some ⟨w.heap.size, 0, none⟩) 1 1) (w.alloc (.cells ([p].flatMap pl).toArray 47)) := by kernel_rfl
theorem at_pol1 {o : Oper} {a : Act} {w : World} {ops : Array Oper} {rest : List Oper} {Q : Exit → Act → World → Prop} (x : Operand) (p : Po) (ho : o.op = .buildSlice 29 1 #[(0, x)]) (hx : a.eval x = pv p) (hw : Region.wanted o (yielded ops a.tmps) = true)
    (h : ∀ w', RK pl w' (some ⟨w.heap.size, 0, none⟩) 1 [p] → Below w.heap.size w w' → wpList Try.prog ops Q rest (a.put o.dst (.slice (some ⟨w.heap.size, 0, none⟩) 1 1)) w') : wpList Try.prog ops Q (o :: rest) a w :=
  BigFrame.wpList_want hw fun _ hK => wp_run (Instr.buildSlice 29 1 #[(0, pv p)]) (by simp [execOp, ho, hx]) (run_pol1 p w) (hK _ _ (h _ (lit_pols w [p] 1 rfl (by decide)) (bnew _ _)))
theorem rk_kept {α : Type} {enc : α → List Value} {w w' : World} {p : Option Addr} {cap g : Nat} {xs : List α} (h : RK enc w p cap xs) (hg : w.grownBy w' (some g)) (hne : 0 < xs.length → ∀ a, p = some a → a.block ≠ g) : RK enc w' p cap xs := by
  obtain ⟨h1, h2, h3, h4⟩ := h
  refine ⟨h1, h2, h3, fun hz => ?_⟩
  obtain ⟨b, o, e, hlt, hc⟩ := h4 hz
  exact ⟨b, o, e, Nat.lt_of_lt_of_le hlt hg.size, fun j v hv => hg.cell (hc j v hv) (by have := hne hz _ e; simpa using this)⟩
theorem own_from {w : World} {B n : Nat} {e : TypeId} {v : Value} {k : IntKind} {xs : List Int} (h : w.ownsRow B e 1 v n (xs.map (Value.int k))) :
    ∃ p cap, v = .slice p xs.length cap ∧ Reads k w p cap xs ∧ ∀ a, p = some a → B ≤ a.block := by
  obtain ⟨_, p, cap, hv, hr⟩ := own_reads h
  refine ⟨p, cap, hv, hr, fun a ha => ?_⟩
  rcases h.2 with ⟨h1, -⟩ | ⟨g, cap', cur, h1, hb, -⟩
  · rw [hv, ha] at h1; simp at h1
  · rw [hv, ha] at h1
    simp only [Value.slice.injEq, Option.some.injEq] at h1
    rw [h1.1]
    exact hb
theorem run_part_u (w : World) (p : Option Addr) (n cap l h : Nat) (hl : l ≤ h) (hh : h ≤ cap) :
    (Instr.slice 65 (.slice p n cap) (some (.int .i64 (l : Int))) (some (.int .i64 (h : Int))) none).run Try.prog w = .ok (.slice (cutP p cap l) (h - l) (cap - l)) w := by
  have ht : Try.prog.underlying 65 = some (.slice (Try.prog.elem 65)) := by simp [Program.elem, Try.underlying65]
  have he : Try.prog.elem 65 = 22 := by simp [Program.elem, Try.underlying65]
  rw [run_slice_lh w 65 p n cap ht .i64 .i64 (l : Int) (h : Int) (by omega) (by omega) (by omega), he, Try.sizeOf22]
  simp [Result.andThen, sliced, cutP]
theorem own_kept {w w' : World} {B n s g : Nat} {e : TypeId} {v : Value} {xs : List Value} (h : w.ownsRow B e s v n xs) (hg : w.grownBy w' (some g)) (hB : g < B) : w'.ownsRow B e s v n xs := by
  refine ⟨h.1, ?_⟩
  rcases h.2 with h0 | ⟨b, cap, cur, hv, hb, hh, r⟩
  · exact .inl h0
  · exact .inr ⟨b, cap, cur, hv, hb, (hg.block b (Array.getElem?_eq_some_iff.1 hh).1 (by simp; omega)).trans hh, r⟩
theorem reads_kept {k : IntKind} {w w' : World} {p : Option Addr} {cap : Nat} {zs : List Int} {row : Option Nat} (h : Reads k w p cap zs) (hg : w.grownBy w' row) (hne : 0 < zs.length → ∀ a, p = some a → some a.block ≠ row) : Reads k w' p cap zs := by
  obtain ⟨h1, h2, h3, h4⟩ := h
  refine ⟨h1, h2, h3, fun hz => ?_⟩
  obtain ⟨b, o, e, hlt, hc⟩ := h4 hz
  exact ⟨b, o, e, Nat.lt_of_lt_of_le hlt hg.size, fun i hi => hg.cell (hc i hi) (show some b ≠ row from hne hz ⟨b, o, none⟩ e)⟩
end Go.Proofs.Ytnaofcggdjbocaa.Event
