/-
  The policy of numbers: Of. (Written by gen_pof.py.)
-/
import Derived.Test.YtfgndecnakfhnaaPolRight
import Derived.Test.YtfgndecnakfhnaaPolSat
import Derived.Test.YtfgndecnakfhnaaInv
namespace Go.Proofs.Ytfgndecnakfhnaa.Policy
open Go.RowKit Go.Proofs.Ytfgndecnakfhnaa.Mem Go.Proofs.Ytfgndecnakfhnaa.Addr
set_option maxRecDepth 100000

theorem wrap_u32 {c : Int} (h0 : 0 ≤ c) (h : c ≤ 4294967295) : IntKind.u32.wrap c = ((c.toNat : Nat) : Int) := by rw [IntKind.wrap_u32]; omega
theorem at10 {w : World} {b o c i : Nat} {l : List Int} (h : Reads .u64 w (some ⟨b, o, none⟩) c l) (hi : i < l.length) : w.cell? ⟨b, o + i, none⟩ = some (.int .u64 (l.getD i 0)) := by
  obtain ⟨b', o', e, _, hc⟩ := h.2.2.2 (by omega)
  simp only [Option.some.injEq, Addr.mk.injEq, and_true] at e
  obtain ⟨rfl, rfl⟩ := e
  exact hc i hi
/-- Ten numbers that are read. -/
theorem cells10 {w : World} {q : Option Addr} {c : Nat} {c0 c1 c2 c3 c4 c5 c6 c7 c8 c9 : Int} (h : Reads .u64 w q c [c0, c1, c2, c3, c4, c5, c6, c7, c8, c9]) : ∃ b o, q = some ⟨b, o, none⟩ ∧ b < w.heap.size ∧
    w.cell? ⟨b, o, none⟩ = some (.int .u64 c0) ∧ w.cell? ⟨b, o + 1, none⟩ = some (.int .u64 c1) ∧ w.cell? ⟨b, o + 2, none⟩ = some (.int .u64 c2) ∧ w.cell? ⟨b, o + 3, none⟩ = some (.int .u64 c3) ∧ w.cell? ⟨b, o + 4, none⟩ = some (.int .u64 c4) ∧ w.cell? ⟨b, o + 5, none⟩ = some (.int .u64 c5) ∧ w.cell? ⟨b, o + 6, none⟩ = some (.int .u64 c6) ∧ w.cell? ⟨b, o + 7, none⟩ = some (.int .u64 c7) ∧ w.cell? ⟨b, o + 8, none⟩ = some (.int .u64 c8) ∧ w.cell? ⟨b, o + 9, none⟩ = some (.int .u64 c9) := by
  obtain ⟨b, o, e, hb, hc⟩ := h.2.2.2 (by simp)
  have k := fun i (hi : i < 10) => hc i (by simpa using hi)
  exact ⟨b, o, e, hb, k 0 (by omega), k 1 (by omega), k 2 (by omega), k 3 (by omega), k 4 (by omega), k 5 (by omega), k 6 (by omega), k 7 (by omega), k 8 (by omega), k 9 (by omega)⟩
theorem policy_Of_len (q : Option Addr) (m c : Nat) (hm : m ≠ 10) (w : World) :
    Calls Try.prog 62 #[.slice q m c] w fun e w' => e = .returned (.tuple #[pv zeroP, .int .i64 111]) ∧ Below w.heap.size w w' := by
  have hne : ((m : Int) == 10) = false := by simp; omega
  go_enter Try.func62, Try.ntmps62
  go_wp2_with (first
    | ((fail_if_success (have _ := hX1)); (refine at_alloc_po (by rfl) (by rfl) ?_); intro V1 hX1 hB1 hz1)
    | ((fail_if_success (have _ := hX2)); (refine at_build0 (by rfl) (by rfl) ?_))
    | ((fail_if_success (have _ := hX2)); (refine at_store_po _ _ _ _ _ (by rfl) (by rfl) (by rfl) hX1 rfl (by rfl) ?_); intro V2 hX2 hg2 hz2))
  refine ret_po2 (by rfl) rfl _ zeroP rfl hX2 ⟨rfl, ?_⟩
  exact hB1.grown hg2 hB1.size (by simp)
set_option maxHeartbeats 4000000 in
theorem policy_Of_ten (q : Option Addr) (c : Nat) (c0 c1 c2 c3 c4 c5 c6 c7 c8 c9 : Int) (w : World) (r : Reads .u64 w q c [c0, c1, c2, c3, c4, c5, c6, c7, c8, c9]) (hw : ∀ x ∈ [c0, c1, c2, c3, c4, c5, c6, c7, c8, c9], Word x) :
    Calls Try.prog 62 #[.slice q 10 c] w fun e w' => e = .returned (.tuple #[pv (ofP [c0, c1, c2, c3, c4, c5, c6, c7, c8, c9]), .int .i64 (ofE [c0, c1, c2, c3, c4, c5, c6, c7, c8, c9])]) ∧ Below w.heap.size w w' := by
  obtain ⟨b, o, rfl, hb, k0, k1, k2, k3, k4, k5, k6, k7, k8, k9⟩ := cells10 r
  have hc1 := hw c1 (by simp)
  by_cases hbig : 4294967295 < c1
  · have hno : isP [c0, c1, c2, c3, c4, c5, c6, c7, c8, c9] = false := by
      rw [← Bool.not_eq_true, isP_iff]
      rintro ⟨-, h, -⟩
      exact absurd h (by simp; omega)
    have e1 : ofP [c0, c1, c2, c3, c4, c5, c6, c7, c8, c9] = zeroP := by unfold ofP; rw [hno]; rfl
    have e2 : ofE [c0, c1, c2, c3, c4, c5, c6, c7, c8, c9] = 111 := by unfold ofE; rw [hno]; rfl
    rw [e1, e2]
    clear e1 e2 hno
    go_enter Try.func62, Try.ntmps62
    go_wp2_with (first
      | ((fail_if_success (have _ := hX1)); (refine at_alloc_po (by rfl) (by rfl) ?_); intro V1 hX1 hB1 hz1; have q1 := (hB1.cell (p := ⟨b, o + 1, none⟩) hb).trans k1)
      | ((fail_if_success (have _ := hX2)); (refine at_build0 (by rfl) (by rfl) ?_))
      | ((fail_if_success (have _ := hX2)); (refine at_store_po _ _ _ _ _ (by rfl) (by rfl) (by rfl) hX1 rfl (by rfl) ?_); intro V2 hX2 hg2 hz2))
    refine ret_po2 (by rfl) rfl _ zeroP rfl hX2 ⟨rfl, ?_⟩
    exact hB1.grown hg2 hB1.size (by simp)
  · have hi0 := fun W => int_any c0 (hw c0 (by simp)) W
    have hi2 := fun W => int_any c2 (hw c2 (by simp)) W
    obtain ⟨y0, hy0⟩ : ∃ y, sint c0 = y := ⟨_, rfl⟩
    obtain ⟨y2, hy2⟩ : ∃ y, sint c2 = y := ⟨_, rfl⟩
    obtain ⟨F0, hF0⟩ : ∃ y, fits c0 = y := ⟨_, rfl⟩
    obtain ⟨F2, hF2⟩ : ∃ y, fits c2 = y := ⟨_, rfl⟩
    rw [hy0, hF0] at hi0
    rw [hy2, hF2] at hi2
    have hwr := wrap_u32 hc1.1 (by omega)
    have hN : c1.toNat < 4294967296 := by have := hc1.1; omega
    obtain ⟨N, hNN⟩ : ∃ N, c1.toNat = N := ⟨_, rfl⟩
    rw [hNN] at hN hwr
    obtain ⟨n3, rfl⟩ := Int.eq_ofNat_of_zero_le (hw c3 (by simp)).1
    obtain ⟨n4, rfl⟩ := Int.eq_ofNat_of_zero_le (hw c4 (by simp)).1
    obtain ⟨n5, rfl⟩ := Int.eq_ofNat_of_zero_le (hw c5 (by simp)).1
    obtain ⟨n6, rfl⟩ := Int.eq_ofNat_of_zero_le (hw c6 (by simp)).1
    obtain ⟨n7, rfl⟩ := Int.eq_ofNat_of_zero_le (hw c7 (by simp)).1
    obtain ⟨n8, rfl⟩ := Int.eq_ofNat_of_zero_le (hw c8 (by simp)).1
    obtain ⟨n9, rfl⟩ := Int.eq_ofNat_of_zero_le (hw c9 (by simp)).1
    have hof := fun W => addr_Of N hN W
    unfold adr at hof
    obtain ⟨E, hE⟩ : ∃ E, isP [c0, c1, c2, (n3 : Int), (n4 : Int), (n5 : Int), (n6 : Int), (n7 : Int), (n8 : Int), (n9 : Int)] = E := ⟨_, rfl⟩
    unfold ofP ofE
    rw [hE]
    replace hE : Hid (isP [c0, c1, c2, (n3 : Int), (n4 : Int), (n5 : Int), (n6 : Int), (n7 : Int), (n8 : Int), (n9 : Int)] = E) := hE
    go_enter Try.func62, Try.ntmps62
    go_wp2_with (first
      | ((fail_if_success (have _ := hX1)); (refine at_alloc_po (by rfl) (by rfl) ?_); intro V1 hX1 hB1 hz1; have q0 := (hB1.cell (p := ⟨b, o, none⟩) hb).trans k0; have q1 := (hB1.cell (p := ⟨b, o + 1, none⟩) hb).trans k1; have q2 := (hB1.cell (p := ⟨b, o + 2, none⟩) hb).trans k2)
      | ((with_reducible refine (hi0 _).mono ?_); rintro e w3 ⟨rfl, hw⟩; rw [hw]; clear hw)
      | ((with_reducible refine (hi2 _).mono ?_); rintro e w4 ⟨rfl, hw⟩; rw [hw]; clear hw))
    refine Inv.region_inv (fun L a w' => ∃ (g : Nat), a = { tmps := #[(.slice (some ⟨b, o, none⟩) 10 c), undef, (.pointer (some ⟨w.heap.size, 0, none⟩)), (.int .i64 0), (.int .i64 y0), (.bool F0), (.int .i64 y2), (.bool F2), (if L 30 = true then (.pointer (some ⟨g, 0, none⟩)) else undef), (.slice (some ⟨b, o, none⟩) 10 c), (.int .i64 10), (.bool false), (.bool false), (.slice (some ⟨b, o, none⟩) 10 c), (.pointer (some ⟨b, o + 1, none⟩)), (.int .u64 c1), (.bool false), (.bool false), undef, (.tuple #[.int .i64 y0, .bool F0]), (.slice (some ⟨b, o, none⟩) 10 c), (.pointer (some ⟨b, o, none⟩)), (.int .u64 c0), (.tuple #[.int .i64 y0, .bool F0]), (.int .i64 y0), (.bool F0), (.tuple #[.int .i64 y2, .bool F2]), (.slice (some ⟨b, o, none⟩) 10 c), (.pointer (some ⟨b, o + 2, none⟩)), (.int .u64 c2), (.tuple #[.int .i64 y2, .bool F2]), (.int .i64 y2), (.bool F2), (if L 0 = true then (.int .i64 y0) else undef), (if L 1 = true then (.slice (some ⟨b, o, none⟩) 10 c) else undef), (if L 2 = true then (.pointer (some ⟨b, o + 1, none⟩)) else undef), (if L 3 = true then (.int .u64 c1) else undef), (if L 4 = true then (.int .u32 (N : Int)) else undef), (if L 5 = true then (.agg #[.int .u8 (b0 N), .int .u8 (b1 N), .int .u8 (b2 N), .int .u8 (b3 N)]) else undef), (if L 6 = true then (.int .i64 y2) else undef), (if L 7 = true then (.agg #[.int .u8 (b0 N), .int .u8 (b1 N), .int .u8 (b2 N), .int .u8 (b3 N), .int .i64 y2]) else undef), (if L 8 = true then (.slice (some ⟨b, o, none⟩) 10 c) else undef), (if L 9 = true then (.pointer (some ⟨b, o + 3, none⟩)) else undef), (if L 10 = true then (.int .u64 (n3 : Int)) else undef), (if L 11 = true then (.slice (some ⟨b, o, none⟩) 10 c) else undef), (if L 12 = true then (.pointer (some ⟨b, o + 4, none⟩)) else undef), (if L 13 = true then (.int .u64 (n4 : Int)) else undef), (if L 14 = true then (.slice (some ⟨b, o, none⟩) 10 c) else undef), (if L 15 = true then (.pointer (some ⟨b, o + 5, none⟩)) else undef), (if L 16 = true then (.int .u64 (n5 : Int)) else undef), (if L 17 = true then (.slice (some ⟨b, o, none⟩) 10 c) else undef), (if L 18 = true then (.pointer (some ⟨b, o + 6, none⟩)) else undef), (if L 19 = true then (.int .u64 (n6 : Int)) else undef), (if L 20 = true then (.slice (some ⟨b, o, none⟩) 10 c) else undef), (if L 21 = true then (.pointer (some ⟨b, o + 7, none⟩)) else undef), (if L 22 = true then (.int .u64 (n7 : Int)) else undef), (if L 23 = true then (.slice (some ⟨b, o, none⟩) 10 c) else undef), (if L 24 = true then (.pointer (some ⟨b, o + 8, none⟩)) else undef), (if L 25 = true then (.int .u64 (n8 : Int)) else undef), (if L 26 = true then (.slice (some ⟨b, o, none⟩) 10 c) else undef), (if L 27 = true then (.pointer (some ⟨b, o + 9, none⟩)) else undef), (if L 28 = true then (.int .u64 (n9 : Int)) else undef), (if L 29 = true then (.agg #[.int .i64 y0, .int .u8 (b0 N), .int .u8 (b1 N), .int .u8 (b2 N), .int .u8 (b3 N), .int .i64 y2, .int .u64 (n3 : Int), .int .u64 (n4 : Int), .int .u64 (n5 : Int), .int .u64 (n6 : Int), .int .u64 (n7 : Int), .int .u64 (n8 : Int), .int .u64 (n9 : Int)]) else undef), undef, undef, undef, undef, undef, undef, undef, undef, undef, undef, undef, undef, undef], defers := [] } ∧ (Below V1.heap.size V1 w' ∧ Reads .u64 w' (some ⟨b, o, none⟩) c [c0, c1, c2, (n3 : Int), (n4 : Int), (n5 : Int), (n6 : Int), (n7 : Int), (n8 : Int), (n9 : Int)] ∧ (L 30 = true → Blk w' g 54 (pl (if L 31 = true then ⟨y0, N, y2, n3, n4, n5, n6, n7, n8, n9⟩ else zeroP)) ∧ V1.heap.size ≤ g) ∧ (L 31 = true → L 30 = true))) (by kernel_rfl) (by kernel_rfl) ?h0 ?step ?done
    case h0 => exact ⟨0, by simp, (Below.refl _ _).drew, r.below hB1.drew, by simp, by simp⟩
    case step =>
      refine Inv.Steps.cons rfl ?_ ?_
      · intro L a w' hI hL hd K hK
        obtain ⟨g, rfl, hI⟩ := hI
        clear hd
        rw [if_pos (by rfl)]
        go_simp
        exact hK.out _ _ ⟨g, by simp, by simpa using hI⟩
      refine Inv.Steps.cons rfl ?_ ?_
      · intro L a w' hI hL hd K hK
        obtain ⟨g, rfl, hI⟩ := hI
        clear hd
        rw [if_pos (by rfl)]
        go_simp
        exact hK.out _ _ ⟨g, by simp, by simpa using hI⟩
      refine Inv.Steps.cons rfl ?_ ?_
      · intro L a w' hI hL hd K hK
        obtain ⟨g, rfl, hI⟩ := hI
        simp [Region.binds] at hd
        simp only [hd, if_true]
        rw [if_pos (by rfl)]
        go_simp
        exact hK.out _ _ ⟨g, by simp [hd], by simpa using hI⟩
      refine Inv.Steps.cons rfl ?_ ?_
      · intro L a w' hI hL hd K hK
        obtain ⟨g, rfl, hI⟩ := hI
        simp [Region.binds] at hd
        simp only [hd, if_true]
        rw [if_pos (by rfl)]
        have q := at10 (i := 1) hI.2.1 (by simp)
        simp only [List.getD_cons_succ, List.getD_cons_zero] at q
        go_simp
        exact hK.out _ _ ⟨g, by simp [hd], by simpa using hI⟩
      refine Inv.Steps.cons rfl ?_ ?_
      · intro L a w' hI hL hd K hK
        obtain ⟨g, rfl, hI⟩ := hI
        simp [Region.binds] at hd
        simp only [hd, if_true]
        rw [if_pos (by rfl)]
        go_simp
        exact hK.out _ _ ⟨g, by simp [hd], by simpa using hI⟩
      refine Inv.Steps.cons rfl ?_ ?_
      · intro L a w' hI hL hd K hK
        obtain ⟨g, rfl, hI⟩ := hI
        simp [Region.binds] at hd
        simp only [hd, if_true]
        rw [if_pos (by rfl)]
        go_simp
        refine (hof _).mono ?_
        rintro e w6 ⟨rfl, hB6⟩
        exact hK.out _ _ ⟨g, by simp [hd], bnext hI.1 hB6, hI.2.1.below hB6, fun h => ⟨((by simpa using hI.2.2.1 (by simpa using h) : Blk _ _ _ _ ∧ _).1).below hB6, (hI.2.2.1 (by simpa using h)).2⟩, by simpa using hI.2.2.2⟩
      refine Inv.Steps.cons rfl ?_ ?_
      · intro L a w' hI hL hd K hK
        obtain ⟨g, rfl, hI⟩ := hI
        clear hd
        rw [if_pos (by rfl)]
        go_simp
        exact hK.out _ _ ⟨g, by simp, by simpa using hI⟩
      refine Inv.Steps.cons rfl ?_ ?_
      · intro L a w' hI hL hd K hK
        obtain ⟨g, rfl, hI⟩ := hI
        simp [Region.binds] at hd
        simp only [hd, if_true]
        rw [if_pos (by rfl)]
        go_simp
        exact hK.out _ _ ⟨g, by simp [hd], by simpa using hI⟩
      refine Inv.Steps.cons rfl ?_ ?_
      · intro L a w' hI hL hd K hK
        obtain ⟨g, rfl, hI⟩ := hI
        clear hd
        rw [if_pos (by rfl)]
        go_simp
        exact hK.out _ _ ⟨g, by simp, by simpa using hI⟩
      refine Inv.Steps.cons rfl ?_ ?_
      · intro L a w' hI hL hd K hK
        obtain ⟨g, rfl, hI⟩ := hI
        simp [Region.binds] at hd
        simp only [hd, if_true]
        rw [if_pos (by rfl)]
        go_simp
        exact hK.out _ _ ⟨g, by simp [hd], by simpa using hI⟩
      refine Inv.Steps.cons rfl ?_ ?_
      · intro L a w' hI hL hd K hK
        obtain ⟨g, rfl, hI⟩ := hI
        simp [Region.binds] at hd
        simp only [hd, if_true]
        rw [if_pos (by rfl)]
        have q := at10 (i := 3) hI.2.1 (by simp)
        simp only [List.getD_cons_succ, List.getD_cons_zero] at q
        go_simp
        exact hK.out _ _ ⟨g, by simp [hd], by simpa using hI⟩
      refine Inv.Steps.cons rfl ?_ ?_
      · intro L a w' hI hL hd K hK
        obtain ⟨g, rfl, hI⟩ := hI
        clear hd
        rw [if_pos (by rfl)]
        go_simp
        exact hK.out _ _ ⟨g, by simp, by simpa using hI⟩
      refine Inv.Steps.cons rfl ?_ ?_
      · intro L a w' hI hL hd K hK
        obtain ⟨g, rfl, hI⟩ := hI
        simp [Region.binds] at hd
        simp only [hd, if_true]
        rw [if_pos (by rfl)]
        go_simp
        exact hK.out _ _ ⟨g, by simp [hd], by simpa using hI⟩
      refine Inv.Steps.cons rfl ?_ ?_
      · intro L a w' hI hL hd K hK
        obtain ⟨g, rfl, hI⟩ := hI
        simp [Region.binds] at hd
        simp only [hd, if_true]
        rw [if_pos (by rfl)]
        have q := at10 (i := 4) hI.2.1 (by simp)
        simp only [List.getD_cons_succ, List.getD_cons_zero] at q
        go_simp
        exact hK.out _ _ ⟨g, by simp [hd], by simpa using hI⟩
      refine Inv.Steps.cons rfl ?_ ?_
      · intro L a w' hI hL hd K hK
        obtain ⟨g, rfl, hI⟩ := hI
        clear hd
        rw [if_pos (by rfl)]
        go_simp
        exact hK.out _ _ ⟨g, by simp, by simpa using hI⟩
      refine Inv.Steps.cons rfl ?_ ?_
      · intro L a w' hI hL hd K hK
        obtain ⟨g, rfl, hI⟩ := hI
        simp [Region.binds] at hd
        simp only [hd, if_true]
        rw [if_pos (by rfl)]
        go_simp
        exact hK.out _ _ ⟨g, by simp [hd], by simpa using hI⟩
      refine Inv.Steps.cons rfl ?_ ?_
      · intro L a w' hI hL hd K hK
        obtain ⟨g, rfl, hI⟩ := hI
        simp [Region.binds] at hd
        simp only [hd, if_true]
        rw [if_pos (by rfl)]
        have q := at10 (i := 5) hI.2.1 (by simp)
        simp only [List.getD_cons_succ, List.getD_cons_zero] at q
        go_simp
        exact hK.out _ _ ⟨g, by simp [hd], by simpa using hI⟩
      refine Inv.Steps.cons rfl ?_ ?_
      · intro L a w' hI hL hd K hK
        obtain ⟨g, rfl, hI⟩ := hI
        clear hd
        rw [if_pos (by rfl)]
        go_simp
        exact hK.out _ _ ⟨g, by simp, by simpa using hI⟩
      refine Inv.Steps.cons rfl ?_ ?_
      · intro L a w' hI hL hd K hK
        obtain ⟨g, rfl, hI⟩ := hI
        simp [Region.binds] at hd
        simp only [hd, if_true]
        rw [if_pos (by rfl)]
        go_simp
        exact hK.out _ _ ⟨g, by simp [hd], by simpa using hI⟩
      refine Inv.Steps.cons rfl ?_ ?_
      · intro L a w' hI hL hd K hK
        obtain ⟨g, rfl, hI⟩ := hI
        simp [Region.binds] at hd
        simp only [hd, if_true]
        rw [if_pos (by rfl)]
        have q := at10 (i := 6) hI.2.1 (by simp)
        simp only [List.getD_cons_succ, List.getD_cons_zero] at q
        go_simp
        exact hK.out _ _ ⟨g, by simp [hd], by simpa using hI⟩
      refine Inv.Steps.cons rfl ?_ ?_
      · intro L a w' hI hL hd K hK
        obtain ⟨g, rfl, hI⟩ := hI
        clear hd
        rw [if_pos (by rfl)]
        go_simp
        exact hK.out _ _ ⟨g, by simp, by simpa using hI⟩
      refine Inv.Steps.cons rfl ?_ ?_
      · intro L a w' hI hL hd K hK
        obtain ⟨g, rfl, hI⟩ := hI
        simp [Region.binds] at hd
        simp only [hd, if_true]
        rw [if_pos (by rfl)]
        go_simp
        exact hK.out _ _ ⟨g, by simp [hd], by simpa using hI⟩
      refine Inv.Steps.cons rfl ?_ ?_
      · intro L a w' hI hL hd K hK
        obtain ⟨g, rfl, hI⟩ := hI
        simp [Region.binds] at hd
        simp only [hd, if_true]
        rw [if_pos (by rfl)]
        have q := at10 (i := 7) hI.2.1 (by simp)
        simp only [List.getD_cons_succ, List.getD_cons_zero] at q
        go_simp
        exact hK.out _ _ ⟨g, by simp [hd], by simpa using hI⟩
      refine Inv.Steps.cons rfl ?_ ?_
      · intro L a w' hI hL hd K hK
        obtain ⟨g, rfl, hI⟩ := hI
        clear hd
        rw [if_pos (by rfl)]
        go_simp
        exact hK.out _ _ ⟨g, by simp, by simpa using hI⟩
      refine Inv.Steps.cons rfl ?_ ?_
      · intro L a w' hI hL hd K hK
        obtain ⟨g, rfl, hI⟩ := hI
        simp [Region.binds] at hd
        simp only [hd, if_true]
        rw [if_pos (by rfl)]
        go_simp
        exact hK.out _ _ ⟨g, by simp [hd], by simpa using hI⟩
      refine Inv.Steps.cons rfl ?_ ?_
      · intro L a w' hI hL hd K hK
        obtain ⟨g, rfl, hI⟩ := hI
        simp [Region.binds] at hd
        simp only [hd, if_true]
        rw [if_pos (by rfl)]
        have q := at10 (i := 8) hI.2.1 (by simp)
        simp only [List.getD_cons_succ, List.getD_cons_zero] at q
        go_simp
        exact hK.out _ _ ⟨g, by simp [hd], by simpa using hI⟩
      refine Inv.Steps.cons rfl ?_ ?_
      · intro L a w' hI hL hd K hK
        obtain ⟨g, rfl, hI⟩ := hI
        clear hd
        rw [if_pos (by rfl)]
        go_simp
        exact hK.out _ _ ⟨g, by simp, by simpa using hI⟩
      refine Inv.Steps.cons rfl ?_ ?_
      · intro L a w' hI hL hd K hK
        obtain ⟨g, rfl, hI⟩ := hI
        simp [Region.binds] at hd
        simp only [hd, if_true]
        rw [if_pos (by rfl)]
        go_simp
        exact hK.out _ _ ⟨g, by simp [hd], by simpa using hI⟩
      refine Inv.Steps.cons rfl ?_ ?_
      · intro L a w' hI hL hd K hK
        obtain ⟨g, rfl, hI⟩ := hI
        simp [Region.binds] at hd
        simp only [hd, if_true]
        rw [if_pos (by rfl)]
        have q := at10 (i := 9) hI.2.1 (by simp)
        simp only [List.getD_cons_succ, List.getD_cons_zero] at q
        go_simp
        exact hK.out _ _ ⟨g, by simp [hd], by simpa using hI⟩
      refine Inv.Steps.cons rfl ?_ ?_
      · intro L a w' hI hL hd K hK
        obtain ⟨g, rfl, hI⟩ := hI
        simp [Region.binds] at hd
        simp only [hd, if_true]
        rw [if_pos (by rfl)]
        go_simp
        exact hK.out _ _ ⟨g, by simp [hd], by simpa using hI⟩
      refine Inv.Steps.cons rfl ?_ ?_
      · intro L a w' hI hL hd K hK
        obtain ⟨g, rfl, hI⟩ := hI
        clear hd
        rw [if_pos (by rfl)]
        have h31 : L 31 = false := by
          cases h : L 31 with
          | false => rfl
          | true => exact absurd (hI.2.2.2 h) (by simp [hL])
        refine wp_alloc_po (by rfl) ?_
        intro w6 hX6 hB6 hz6
        exact hK.out _ _ ⟨w'.heap.size, by simp [Act.put], bnext hI.1 hB6, hI.2.1.below hB6, fun _ => ⟨by simpa [h31] using hX6, hI.1.size⟩, by simp⟩
      refine Inv.Steps.cons rfl ?_ ?_
      · intro L a w' hI hL hd K hK
        obtain ⟨g, rfl, hI⟩ := hI
        simp [Region.binds] at hd
        simp only [hd, if_true]
        rw [if_pos (by rfl)]
        have h30 := hI.2.2.1 (by simp [hd])
        simp only [hL, Bool.false_eq_true, if_false] at h30
        refine wp_store_po _ _ g _ ⟨y0, N, y2, n3, n4, n5, n6, n7, n8, n9⟩ (by rfl) (by rfl) (by rfl) h30.1 (by rfl) ?_
        intro w6 hX6 hg6 hz6
        exact hK.out _ _ ⟨g, by simp [hd, Act.put], hI.1.grown hg6 hI.1.size (fun j hj => by simp at hj; subst hj; exact h30.2), hI.2.1.kept hg6 (fun _ a ha => by obtain rfl := Option.some.inj ha; show b ≠ g; have := h30.2; have := hb; have := hB1.size; omega), fun _ => ⟨by simpa using hX6, h30.2⟩, by simp [hd]⟩
      exact Inv.Steps.nil (by decide)
    case done =>
      intro L a w' hI hall
      obtain ⟨g, rfl, hI⟩ := hI
      simp only [hall, if_true] at hI ⊢
      obtain ⟨hB9, hR9, h30, -⟩ := hI
      have hX9 := (h30 trivial).1
      have hok : PoOk ⟨y0, N, y2, n3, n4, n5, n6, n7, n8, n9⟩ := by
        have k0 := hw c0 (by simp)
        have k2 := hw c2 (by simp)
        have k3 := (hw (n3 : Int) (by simp)).2
        have k4 := (hw (n4 : Int) (by simp)).2
        have k5 := (hw (n5 : Int) (by simp)).2
        have k6 := (hw (n6 : Int) (by simp)).2
        have k7 := (hw (n7 : Int) (by simp)).2
        have k8 := (hw (n8 : Int) (by simp)).2
        have k9 := (hw (n9 : Int) (by simp)).2
        obtain ⟨z0, z1⟩ := k0
        obtain ⟨u0, u1⟩ := k2
        refine ⟨?_, hN, ?_, by simp only; omega, by simp only; omega, by simp only; omega, by simp only; omega, by simp only; omega, by simp only; omega, by simp only; omega⟩
        · rw [← hy0]; unfold sint Inty; simp only; split <;> omega
        · rw [← hy2]; unfold sint Inty; simp only; split <;> omega
      have hr := fun W => policy_Right _ hok W
      have hE1 : Hid (isP [c0, c1, c2, (n3 : Int), (n4 : Int), (n5 : Int), (n6 : Int), (n7 : Int), (n8 : Int), (n9 : Int)] = true → F0 = true ∧ F2 = true ∧ rightP ⟨y0, N, y2, n3, n4, n5, n6, n7, n8, n9⟩ = true) := fun h => by
        obtain ⟨-, -, h3⟩ := isP_iff.1 h
        obtain ⟨h4, h5, h6, -⟩ := rightP_iff.1 h3
        have h7 := bits_of h6
        simp [asP] at h4 h5 h7
        have f0 : fits c0 = true := by unfold fits; simp; omega
        have f2 : fits c2 = true := by unfold fits; simp; omega
        have s0 : sint c0 = c0 := by unfold sint; rw [if_neg (by omega)]
        have s2 : sint c2 = c2 := by unfold sint; rw [if_neg (by omega)]
        refine ⟨hF0.symm.trans f0, hF2.symm.trans f2, ?_⟩
        rw [← hy0, ← hy2, s0, s2, ← hNN]
        simpa [asP] using h3
      have hE2 : Hid (F0 = true → F2 = true → asP [c0, c1, c2, (n3 : Int), (n4 : Int), (n5 : Int), (n6 : Int), (n7 : Int), (n8 : Int), (n9 : Int)] = ⟨y0, N, y2, n3, n4, n5, n6, n7, n8, n9⟩) := fun f0 f2 => by
        have f0 := hF0.trans f0
        have f2 := hF2.trans f2
        unfold fits at f0 f2
        simp only [decide_eq_true_eq] at f0 f2
        have s0 : sint c0 = c0 := by unfold sint; rw [if_neg (by omega)]
        have s2 : sint c2 = c2 := by unfold sint; rw [if_neg (by omega)]
        rw [← hy0, ← hy2, s0, s2, ← hNN]
        simp [asP]
      have hE3 : Hid (∀ h : F0 = true ∧ F2 = true ∧ rightP ⟨y0, N, y2, n3, n4, n5, n6, n7, n8, n9⟩ = true, isP [c0, c1, c2, (n3 : Int), (n4 : Int), (n5 : Int), (n6 : Int), (n7 : Int), (n8 : Int), (n9 : Int)] = true) := fun h => isP_iff.2 ⟨rfl, by simp; omega, by rw [hE2.out h.1 h.2.1]; exact h.2.2⟩
      have hXw := hX1.below hB9
      have hB19 := bnext hB1 hB9
      clear hB9 hX1 hB1 k0 k1 k2 k3 k4 k5 k6 k7 k8 k9 hw r hR9 hall hy0 hy2 hF0 hF2 hNN h30 hi0 hi2 hof hwr q0 q1 q2
      cases hF0e : F0 with
      | false =>
        subst hF0e
        obtain rfl : E = false := by
          cases hEE : E with
          | false => rfl
          | true => have := hE1.out (hE.out.trans hEE); simp_all
        go_wp2_with (first
          | ((fail_if_success (have _ := hX8)); (refine at_build0 (by rfl) (by rfl) ?_))
          | ((fail_if_success (have _ := hX8)); (refine at_store_po _ _ _ _ _ (by rfl) (by rfl) (by rfl) hXw rfl (by rfl) ?_); intro V8 hX8 hg8 hz8))
        refine ret_po2 (by rfl) rfl _ zeroP rfl hX8 ⟨rfl, ?_⟩
        exact (hB19).grown hg8 (hB19).size (by simp)
      | true =>
        cases hF2e : F2 with
        | false =>
          subst hF0e hF2e
          obtain rfl : E = false := by
            cases hEE : E with
            | false => rfl
            | true => have := hE1.out (hE.out.trans hEE); simp_all
          go_wp2_with (first
            | ((fail_if_success (have _ := hX8)); (refine at_build0 (by rfl) (by rfl) ?_))
            | ((fail_if_success (have _ := hX8)); (refine at_store_po _ _ _ _ _ (by rfl) (by rfl) (by rfl) hXw rfl (by rfl) ?_); intro V8 hX8 hg8 hz8))
          refine ret_po2 (by rfl) rfl _ zeroP rfl hX8 ⟨rfl, ?_⟩
          exact (hB19).grown hg8 (hB19).size (by simp)
        | true =>
          subst hF0e hF2e
          cases hRR : rightP ⟨y0, N, y2, n3, n4, n5, n6, n7, n8, n9⟩ with
          | false =>
            rw [hRR] at hr
            obtain rfl : E = false := by
              cases hEE : E with
              | false => rfl
              | true => have := hE1.out (hE.out.trans hEE); simp_all
            go_wp2_with (first
              | ((fail_if_success (have _ := hX8)); (refine at_build0 (by rfl) (by rfl) ?_))
              | ((fail_if_success (have _ := hB7)); (refine at_load_po _ _ _ (by rfl) (by rfl) hX9 (by rfl) ?_))
              | ((with_reducible refine (hr _).mono ?_); rintro e w7 ⟨rfl, hB7⟩; have hXw7 := hXw.below hB7)
              | ((fail_if_success (have _ := hX8)); (refine at_store_po _ _ _ _ _ (by rfl) (by rfl) (by rfl) hXw7 rfl (by rfl) ?_); intro V8 hX8 hg8 hz8))
            refine ret_po2 (by rfl) rfl _ zeroP rfl hX8 ⟨rfl, ?_⟩
            exact (bnext hB19 hB7).grown hg8 (bnext hB19 hB7).size (by simp)
          | true =>
            rw [hRR] at hr
            obtain rfl : E = true := hE.out.symm.trans (hE3.out ⟨rfl, rfl, hRR⟩)
            have hAs := hE2.out rfl rfl
            go_wp2_with (first
              | ((fail_if_success (have _ := hB7)); (refine at_load_po _ _ _ (by rfl) (by rfl) hX9 (by rfl) ?_))
              | ((with_reducible refine (hr _).mono ?_); rintro e w7 ⟨rfl, hB7⟩; have hX7 := hX9.below hB7; have hXw7 := hXw.below hB7)
              | ((fail_if_success (have _ := hX8)); (refine at_load_po _ _ _ (by rfl) (by rfl) hX7 (by rfl) ?_))
              | ((fail_if_success (have _ := hX8)); (refine at_store_po _ _ _ _ _ (by rfl) (by rfl) (by rfl) hXw7 rfl (by rfl) ?_); intro V8 hX8 hg8 hz8))
            refine ret_po2 (by rfl) rfl _ _ rfl hX8 ⟨?_, ?_⟩
            · rfl
            · exact (bnext hB19 hB7).grown hg8 (bnext hB19 hB7).size (by simp)
/-- The policy of whatever numbers. -/
theorem policy_Of (q : Option Addr) (m c : Nat) (l : List Int) (hl : l.length = m) (w : World) (r : Reads .u64 w q c l) (hw : ∀ x ∈ l, Word x) :
    Calls Try.prog 62 #[.slice q m c] w fun e w' => e = .returned (.tuple #[pv (ofP l), .int .i64 (ofE l)]) ∧ Below w.heap.size w w' := by
  by_cases hm : m = 10
  · subst hm
    obtain ⟨c0, c1, c2, c3, c4, c5, c6, c7, c8, c9, rfl⟩ := list10 l hl
    exact policy_Of_ten q c c0 c1 c2 c3 c4 c5 c6 c7 c8 c9 w r hw
  · have hno : isP l = false := by
      rw [← Bool.not_eq_true, isP_iff]
      rintro ⟨h, -⟩
      omega
    have e1 : ofP l = zeroP := by unfold ofP; rw [hno]; rfl
    have e2 : ofE l = 111 := by unfold ofE; rw [hno]; rfl
    rw [e1, e2]
    exact policy_Of_len q m c hm w
end Go.Proofs.Ytfgndecnakfhnaa.Policy
