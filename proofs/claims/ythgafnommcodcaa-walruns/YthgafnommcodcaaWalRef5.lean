/-
  The document's log: Room. (Written by gen_wref5.py.)
-/
import Derived.Test.YthgafnommcodcaaWalRef2
import Derived.Test.YthgafnommcodcaaInvB
namespace Go.Proofs.Ythgafnommcodcaa.Wal
open Go.RowKit Go.Proofs.Ythgafnommcodcaa.Mem Go.Proofs.Ythgafnommcodcaa.Sect Go.Proofs.Ythgafnommcodcaa.Frame Go.Proofs.Ythgafnommcodcaa.Disk Go.Proofs.Ythgafnommcodcaa.Area
set_option maxRecDepth 100000

theorem ref_Room {n S st j t : Nat} (hc : Can n S st j t) (ep nx : Nat) (x : Int) (w : World) :
    Calls Try.prog 20 #[lv ⟨ep, nx, st, segOf S st j, t⟩, .int .i64 (n : Int), .int .i64 x] w fun e w' => e = .returned (.bool (room S j t nx (sizeN x))) ∧ Below w.heap.size w w' := by
  have hS := fun w => ref_Size x w
  rw [sizeI_sizeN] at hS
  have hP := fun V => ref_place hc ep nx (sizeN x) (sizeN_le x) V
  generalize sizeN x = z at *
  generalize plv S ep nx st j t z = l2 at *
  generalize room S j t nx z = RB at *
  obtain ⟨l, hl⟩ : ∃ l : RLg, l = ⟨ep, nx, st, segOf S st j, t⟩ := ⟨_, rfl⟩
  rw [← hl] at hP ⊢
  clear hl hc
  go_enter Try.func20, Try.ntmps20
  go_wp2_with (first
    | ((refine at_box_ll _ _ (by rfl) (by rfl) (by rfl) ?_); intro V1 hY1 hB1 hz1))
  refine Inv.region_invB (fun L a w' => ∃ (G : Nat), a = { tmps := #[(lv l), (Value.int IntKind.i64 (n : Int)), (Value.int IntKind.i64 x), (Value.pointer (some { block := w.heap.size, off := 0 })), (undef), (undef), (Value.bool false), (if L 8 = true then (.pointer (some ⟨G, 0, none⟩)) else (undef)), (if L 10 = true then (.bool RB) else (undef)), (if L 5 = true then (.tuple #[lv l2, .bool RB]) else (undef)), (if L 0 = true then (lv l) else (undef)), (if L 1 = true then (Value.int IntKind.i64 (n : Int)) else (undef)), (if L 2 = true then (Value.int IntKind.i64 x) else (undef)), (if L 3 = true then (.int .i64 (z : Int)) else (undef)), (if L 4 = true then (.tuple #[lv l2, .bool RB]) else (undef)), (if L 6 = true then (lv l2) else (undef)), (if L 7 = true then (.bool RB) else (undef)), (undef)], defers := [] } ∧ (Blk w' w.heap.size 42 (ll l) ∧ Below w.heap.size w w' ∧ (L 8 = true → ∃ cs, Blk w' G 42 cs ∧ cs.length = 5 ∧ w.heap.size < G))) (by kernel_rfl) (by kernel_rfl) ?h0 ?step ?done
  case h0 => exact ⟨0, by simp, ⟨hY1.drew, hB1.drew, by simp⟩⟩
  case step =>
    refine Inv.Steps.cons rfl ?_ ?_
    · intro L a w' hI hL hd K hK
      obtain ⟨G, rfl, hI⟩ := hI
      clear hd
      rw [if_pos (by rfl)]
      refine wp_load_ll _ w.heap.size l (by rfl) (by rfl) hI.1 ?_
      exact hK.out _ _ ⟨G, by simp [Act.put], ⟨hI.1, hI.2.1, by simpa using hI.2.2⟩⟩
    refine Inv.Steps.cons rfl ?_ ?_
    · intro L a w' hI hL hd K hK
      obtain ⟨G, rfl, hI⟩ := hI
      clear hd
      rw [if_pos (by rfl)]
      go_simp
      exact hK.out _ _ ⟨G, by simp, ⟨hI.1, hI.2.1, by simpa using hI.2.2⟩⟩
    refine Inv.Steps.cons rfl ?_ ?_
    · intro L a w' hI hL hd K hK
      obtain ⟨G, rfl, hI⟩ := hI
      clear hd
      rw [if_pos (by rfl)]
      go_simp
      exact hK.out _ _ ⟨G, by simp, ⟨hI.1, hI.2.1, by simpa using hI.2.2⟩⟩
    refine Inv.Steps.cons rfl ?_ ?_
    · intro L a w' hI hL hd K hK
      obtain ⟨G, rfl, hI⟩ := hI
      simp [Region.binds] at hd
      simp only [hd, if_true]
      rw [if_pos (by rfl)]
      go_simp
      refine (hS _).mono ?_
      rintro e6 w6 ⟨rfl, hw6⟩
      rw [hw6]
      exact hK.out _ _ ⟨G, by simp [hd], ⟨hI.1, hI.2.1, by simpa using hI.2.2⟩⟩
    refine Inv.Steps.cons rfl ?_ ?_
    · intro L a w' hI hL hd K hK
      obtain ⟨G, rfl, hI⟩ := hI
      simp [Region.binds] at hd
      simp only [hd, if_true]
      rw [if_pos (by rfl)]
      have hlt := hI.1.lt
      go_simp
      refine (hP _).mono ?_
      rintro e6 w6 ⟨rfl, hb6⟩
      exact hK.out _ _ ⟨G, by simp [hd], hI.1.below hb6, bnext hI.2.1 hb6, fun h => by obtain ⟨cs, h1, h2, h3⟩ := hI.2.2 (by simpa using h); exact ⟨cs, h1.below hb6, h2, h3⟩⟩
    refine Inv.Steps.cons rfl ?_ ?_
    · intro L a w' hI hL hd K hK
      obtain ⟨G, rfl, hI⟩ := hI
      simp [Region.binds] at hd
      simp only [hd, if_true]
      rw [if_pos (by rfl)]
      go_simp
      exact hK.out _ _ ⟨G, by simp [hd], ⟨hI.1, hI.2.1, by simpa using hI.2.2⟩⟩
    refine Inv.Steps.cons rfl ?_ ?_
    · intro L a w' hI hL hd K hK
      obtain ⟨G, rfl, hI⟩ := hI
      simp [Region.binds] at hd
      simp only [hd, if_true]
      rw [if_pos (by rfl)]
      go_simp
      exact hK.out _ _ ⟨G, by simp [hd], ⟨hI.1, hI.2.1, by simpa using hI.2.2⟩⟩
    refine Inv.Steps.cons rfl ?_ ?_
    · intro L a w' hI hL hd K hK
      obtain ⟨G, rfl, hI⟩ := hI
      simp [Region.binds] at hd
      simp only [hd, if_true]
      rw [if_pos (by rfl)]
      go_simp
      exact hK.out _ _ ⟨G, by simp [hd], ⟨hI.1, hI.2.1, by simpa using hI.2.2⟩⟩
    refine Inv.Steps.cons rfl ?_ ?_
    · intro L a w' hI hL hd K hK
      obtain ⟨G, rfl, hI⟩ := hI
      clear hd
      rw [if_pos (by rfl)]
      have hlt := hI.1.lt
      refine wp_alloc_ll (by rfl) ?_
      intro w6 hb6 hB6 hz6
      exact hK.out _ _ ⟨w'.heap.size, by simp [hL, Act.put], hI.1.below hB6, bnext hI.2.1 hB6, fun _ => ⟨_, hb6, rfl, hlt⟩⟩
    refine Inv.Steps.cons rfl ?_ ?_
    · intro L a w' hI hL hd K hK
      obtain ⟨G, rfl, hI⟩ := hI
      simp [Region.binds] at hd
      simp only [hd, if_true]
      rw [if_pos (by rfl)]
      obtain ⟨cs, hcs, hl5, hG⟩ := hI.2.2 (by simp [hd])
      refine wp_store_ll _ _ G cs l2 (by rfl) (by rfl) (by rfl) hcs hl5 ?_
      intro w6 hb6 hg6 _
      exact hK.out _ _ ⟨G, by simp [hd, Act.put], hI.1.kept hg6 (fun q => by have := Option.some.inj q; omega), hI.2.1.grown hg6 hI.2.1.size (fun j hj => by have := Option.some.inj hj; omega), fun _ => ⟨_, hb6, rfl, hG⟩⟩
    refine Inv.Steps.cons rfl ?_ ?_
    · intro L a w' hI hL hd K hK
      obtain ⟨G, rfl, hI⟩ := hI
      simp [Region.binds] at hd
      simp only [hd, if_true]
      rw [if_pos (by rfl)]
      go_simp
      exact hK.out _ _ ⟨G, by simp [hd], ⟨hI.1, hI.2.1, by simpa using hI.2.2⟩⟩
    exact Inv.Steps.nil (by decide)
  case done =>
    intro L a w' hI hall
    obtain ⟨G, rfl, hI⟩ := hI
    simp only [hall, if_true] at hI ⊢
    have hE := hI.2.1
    go_wp2
    go_ret
    exact ⟨rfl, hE⟩
end Go.Proofs.Ythgafnommcodcaa.Wal
