/-
  A packet's header and payload: head.Read. (Written by gen_read.py.)
-/
import Derived.Test.YtogijgpamdcjkaaHeadReadE
namespace Go.Proofs.Ytogijgpamdcjkaa.Head
open Go.RowKit Go.Proofs.Ytogijgpamdcjkaa.Mem
set_option linter.unusedVariables false

theorem run_cut (w : World) (b o n c l h : Nat) (hl : l ≤ h) (hh : h ≤ c) :
    (Instr.slice 24 (.slice (some ⟨b, o, none⟩) n c) (some (.int .i64 (l : Int))) (some (.int .i64 (h : Int))) none).run Try.prog w = .ok (.slice (cutP (some ⟨b, o, none⟩) c l) (h - l) (c - l)) w := by
  have ht : Try.prog.underlying 24 = some (.slice (Try.prog.elem 24)) := by simp [Program.elem, Try.underlying24]
  have he : Try.prog.elem 24 = 5 := by simp [Program.elem, Try.underlying24]
  rw [run_slice_lh w 24 _ n c ht .i64 .i64 (l : Int) (h : Int) (by omega) (by omega) (by omega), he, Try.sizeOf5]
  simp [Result.andThen, sliced, cutP]
/-- A slice between two places. -/
theorem Reads.mid {k : IntKind} {w : World} {p : Option Addr} {cap : Nat} {zs : List Int} (h : Reads k w p cap zs) (l u : Nat) (hl : l ≤ u) (hu : u ≤ zs.length) : Reads k w (cutP p cap l) (cap - l) ((zs.take u).drop l) :=
  Mem.Reads.cut (h.upto u) l (by simp; omega)
set_option maxRecDepth 100000 in
set_option maxHeartbeats 4000000 in
theorem read_core (b o n c m H : Nat) (xs os ps : List Int) (x1 x8 x9 i4 i6 y0 y1 y2 y3 z0 z1 z2 z3 : Int) (hn : n ≤ 9223372036854775807) (h20 : 20 ≤ n) (hH1 : 20 ≤ H) (hH2 : H ≤ n) (hm : H - 20 = m) (hnc : n ≤ c) (w : World) (r : Reads .u8 w (some ⟨b, o, none⟩) c xs) (hbl : b < w.heap.size)
    (b1 : 0 ≤ x1 ∧ x1 < 256) (b8 : 0 ≤ x8 ∧ x8 < 256) (b9 : 0 ≤ x9 ∧ x9 < 256)
    (hf : ∀ w', Reads .u8 w' (some ⟨b, o, none⟩) c xs → Calls Try.prog 19 #[.slice (some ⟨b, o, none⟩) n c] w' fun e w'' => e = .returned (.int .i64 0) ∧ Below w'.heap.size w' w'')
    (hn4 : ∀ w', Reads .u8 w' (some ⟨b, o, none⟩) c xs → Calls Try.prog 20 #[.slice (some ⟨b, o, none⟩) n c, .int .i64 4] w' fun e w'' => e = .returned (.int .i64 i4) ∧ Below w'.heap.size w' w'')
    (hn6 : ∀ w', Reads .u8 w' (some ⟨b, o, none⟩) c xs → Calls Try.prog 20 #[.slice (some ⟨b, o, none⟩) n c, .int .i64 6] w' fun e w'' => e = .returned (.int .i64 i6) ∧ Below w'.heap.size w' w'')
    (hhs : ∀ w', Reads .u8 w' (some ⟨b, o, none⟩) c xs → Calls Try.prog 22 #[.slice (some ⟨b, o, none⟩) n c] w' fun e w'' => e = .returned (.int .i64 (H : Int)) ∧ w'' = w')
    (hcl : ∀ w', Reads .u8 w' (some ⟨b, o, none⟩) c xs → Calls Try.prog 21 #[.slice (cutP (some ⟨b, o, none⟩) c 20) m (c - 20)] w' fun e w'' => ∃ q d, e = .returned (.slice q m d) ∧ Reads .u8 w'' q d os ∧ (∀ a, q = some a → w'.heap.size ≤ a.block) ∧ Below w'.heap.size w' w'')
    (hcp : ∀ w', Reads .u8 w' (some ⟨b, o, none⟩) c xs → Calls Try.prog 21 #[.slice (cutP (some ⟨b, o, none⟩) c H) (n - H) (c - H)] w' fun e w'' => ∃ q d, e = .returned (.slice q (n - H) d) ∧ Reads .u8 w'' q d ps ∧ (∀ a, q = some a → w'.heap.size ≤ a.block) ∧ Below w'.heap.size w' w'')
    (hcell : ∀ w', Reads .u8 w' (some ⟨b, o, none⟩) c xs → w'.cell? ⟨b, o + 1, none⟩ = some (.int .u8 x1) ∧ w'.cell? ⟨b, o + 8, none⟩ = some (.int .u8 x8) ∧ w'.cell? ⟨b, o + 9, none⟩ = some (.int .u8 x9))
    (hsrc : ∀ w', Reads .u8 w' (some ⟨b, o, none⟩) c xs → (∀ j v, (bs [y0, y1, y2, y3])[j]? = some v → w'.cell? ((⟨b, o + 12, none⟩ : Addr).add j) = some v) ∧ (∀ j v, (bs [z0, z1, z2, z3])[j]? = some v → w'.cell? ((⟨b, o + 16, none⟩ : Addr).add j) = some v)) :
    Calls Try.prog 9 #[.slice (some ⟨b, o, none⟩) n c] w fun e w' => ∃ oq oc pq pc, e = .returned (.tuple #[.agg #[.int .i64 x1, .int .i64 i4, .int .i64 i6, .int .i64 x8, .int .i64 x9, .int .u8 y0, .int .u8 y1, .int .u8 y2, .int .u8 y3, .int .u8 z0, .int .u8 z1, .int .u8 z2, .int .u8 z3, .slice oq m oc], .slice pq (n - H) pc, .int .i64 0]) ∧ Reads .u8 w' oq oc os ∧ Reads .u8 w' pq pc ps ∧ Below w.heap.size w w' := by
  obtain ⟨S, hS⟩ : ∃ S : World → Prop, S = fun w' => Reads .u8 w' (some ⟨b, o, none⟩) c xs ∧ Blk w' w.heap.size 26 zcs ∧ Below w.heap.size w w' := ⟨_, rfl⟩
  have Sn : ∀ w1 w2, S w1 → Below w1.heap.size w1 w2 → S w2 := fun w1 w2 h hb => by rw [hS] at h ⊢; exact ⟨h.1.below hb, h.2.1.below hb, bnext h.2.2 hb⟩
  have Sk : ∀ w1 w2 G, S w1 → w1.grownBy w2 (some G) → w.heap.size + 1 ≤ G → S w2 := fun w1 w2 G h hg hG => by
    rw [hS] at h ⊢
    exact ⟨h.1.kept hg (r.apart (by omega)), h.2.1.kept hg (by simp; omega), h.2.2.grown hg h.2.2.size (by intro k hk; simp at hk; omega)⟩
  have Sl : ∀ w1, S w1 → w.heap.size + 1 ≤ w1.heap.size := fun w1 h => by rw [hS] at h; have := h.2.1.lt; omega
  have Sr : ∀ w1, S w1 → Reads .u8 w1 (some ⟨b, o, none⟩) c xs := fun w1 h => by rw [hS] at h; exact h.1
  have Sz : ∀ w1, S w1 → Blk w1 w.heap.size 26 zcs := fun w1 h => by rw [hS] at h; exact h.2.1
  have Sb : ∀ w1, S w1 → Below w.heap.size w w1 := fun w1 h => by rw [hS] at h; exact h.2.2
  have S0 : S (w.alloc (.cells #[.int .i64 0, .int .i64 0, .int .i64 0, .int .i64 0, .int .i64 0, .int .u8 0, .int .u8 0, .int .u8 0, .int .u8 0, .int .u8 0, .int .u8 0, .int .u8 0, .int .u8 0, .slice none 0 0] 26)) := by rw [hS]; exact ⟨r.alloc _, Blk.new w _ _, bnew _ _⟩
  replace hf := hf _ (Sr _ S0)
  replace hn4 := fun w' h => hn4 w' (Sr w' h)
  replace hn6 := fun w' h => hn6 w' (Sr w' h)
  replace hhs := fun w' h => hhs w' (Sr w' h)
  replace hcl := fun w' h => hcl w' (Sr w' h)
  replace hcp := fun w' h => hcp w' (Sr w' h)
  replace hcell := fun w' h => hcell w' (Sr w' h)
  replace hsrc := fun w' h => hsrc w' (Sr w' h)
  have hcut : ∀ w, (Instr.slice 24 (.slice (some ⟨b, o, none⟩) n c) (some (.int .i64 20)) (some (.int .i64 (H : Int))) none).run Try.prog w = .ok (.slice (cutP (some ⟨b, o, none⟩) c 20) m (c - 20)) w := fun w => by
    have := run_cut w b o n c 20 H hH1 (by omega)
    rw [hm] at this
    exact this
  have hc12 : ∀ w, (Instr.slice 24 (.slice (some ⟨b, o, none⟩) n c) (some (.int .i64 12)) none none).run Try.prog w = .ok (.slice (some ⟨b, o + 12, none⟩) (n - 12) (c - 12)) w := fun w => by
    have := run_from w (some ⟨b, o, none⟩) n c 12 (by omega)
    rw [show cutP (some ⟨b, o, none⟩) c 12 = some ⟨b, o + 12, none⟩ by unfold cutP; rw [if_neg (by omega)]; simp [Addr.add]] at this
    exact this
  have hc16 : ∀ w, (Instr.slice 24 (.slice (some ⟨b, o, none⟩) n c) (some (.int .i64 16)) none none).run Try.prog w = .ok (.slice (some ⟨b, o + 16, none⟩) (n - 16) (c - 16)) w := fun w => by
    have := run_from w (some ⟨b, o, none⟩) n c 16 (by omega)
    rw [show cutP (some ⟨b, o, none⟩) c 16 = some ⟨b, o + 16, none⟩ by unfold cutP; rw [if_neg (by omega)]; simp [Addr.add]] at this
    exact this
  have hcH := fun w => run_from w (some ⟨b, o, none⟩) n c H hH2
  obtain ⟨cq, hcq⟩ : ∃ cq, cq = cutP (some ⟨b, o, none⟩) c 20 := ⟨_, rfl⟩
  obtain ⟨cp, hcpq⟩ : ∃ cp, cp = cutP (some ⟨b, o, none⟩) c H := ⟨_, rfl⟩
  rw [← hcq] at hcut hcl
  rw [← hcpq] at hcH hcp
  clear hcq hcpq hS
  have q1 : (1 : Int) < (n : Int) := by omega
  have q8 : (8 : Int) < (n : Int) := by omega
  have q9 : (9 : Int) < (n : Int) := by omega
  have v1 : IntKind.i64.wrap x1 = x1 := by simp [IntKind.wrap, IntKind.bits, IntKind.signed]; omega
  have v8 : IntKind.i64.wrap x8 = x8 := by simp [IntKind.wrap, IntKind.bits, IntKind.signed]; omega
  have v9 : IntKind.i64.wrap x9 = x9 := by simp [IntKind.wrap, IntKind.bits, IntKind.signed]; omega
  go_enter Try.func9, Try.ntmps9
  go_wp2_with (go_at_call 19; refine hf.mono ?_; rintro e w1 ⟨rfl, hb1⟩)
  have S1 := Sn _ _ (Sn _ _ S0 hb1) (Below.refl _ _).drew
  clear hf S0 hb1
  refine Inv.region_inv (fun L a w' => ∃ (oq : Option Addr) (oc : Nat) (G : Nat), a = { tmps := #[(.slice (some ⟨b, o, none⟩) n c), undef, (.pointer (some ⟨w.heap.size, 0, none⟩)), (.slice none 0 0), (.int .i64 0), (.int .i64 0), (if L 22 = true then (.pointer (some ⟨G, 0, none⟩)) else undef), (.slice (some ⟨b, o, none⟩) n c), (.int .i64 0), (.int .i64 0), (.bool false), undef, undef, (if L 0 = true then (.slice (some ⟨b, o, none⟩) n c) else undef), (if L 1 = true then (.pointer (some ⟨b, o + 1, none⟩)) else undef), (if L 2 = true then (.int .u8 x1) else undef), (if L 3 = true then (.int .i64 x1) else undef), (if L 4 = true then (.slice (some ⟨b, o, none⟩) n c) else undef), (if L 5 = true then (.int .i64 i4) else undef), (if L 6 = true then (.slice (some ⟨b, o, none⟩) n c) else undef), (if L 7 = true then (.int .i64 i6) else undef), (if L 8 = true then (.slice (some ⟨b, o, none⟩) n c) else undef), (if L 9 = true then (.pointer (some ⟨b, o + 8, none⟩)) else undef), (if L 10 = true then (.int .u8 x8) else undef), (if L 11 = true then (.int .i64 x8) else undef), (if L 12 = true then (.slice (some ⟨b, o, none⟩) n c) else undef), (if L 13 = true then (.pointer (some ⟨b, o + 9, none⟩)) else undef), (if L 14 = true then (.int .u8 x9) else undef), (if L 15 = true then (.int .i64 x9) else undef), (if L 16 = true then (.slice (some ⟨b, o, none⟩) n c) else undef), (if L 17 = true then (.slice (some ⟨b, o, none⟩) n c) else undef), (if L 18 = true then (.int .i64 (H : Int)) else undef), (if L 19 = true then (.slice cq m (c - 20)) else undef), (if L 20 = true then (.slice oq m oc) else undef), (if L 21 = true then (.agg #[.int .i64 x1, .int .i64 i4, .int .i64 i6, .int .i64 x8, .int .i64 x9, .int .u8 0, .int .u8 0, .int .u8 0, .int .u8 0, .int .u8 0, .int .u8 0, .int .u8 0, .int .u8 0, .slice oq m oc]) else undef), undef, undef, undef, undef, undef, undef, undef, undef, undef, undef, undef, undef, undef, undef, undef, undef], defers := [] } ∧ (((L 0 = true ∧ L 1 = true ∧ L 2 = true ∧ L 3 = true ∧ L 4 = true ∧ L 5 = true ∧ L 6 = true ∧ L 7 = true ∧ L 8 = true ∧ L 9 = true ∧ L 10 = true ∧ L 11 = true ∧ L 12 = true ∧ L 13 = true ∧ L 14 = true ∧ L 15 = true ∧ L 16 = true ∧ L 17 = true ∧ L 18 = true ∧ L 19 = true ∧ L 20 = true ∧ L 21 = true ∧ L 22 = true ∧ L 23 = true) ∧ S w' ∧ Reads .u8 w' oq oc os ∧ Blk w' G 26 [.int .i64 x1, .int .i64 i4, .int .i64 i6, .int .i64 x8, .int .i64 x9, .int .u8 0, .int .u8 0, .int .u8 0, .int .u8 0, .int .u8 0, .int .u8 0, .int .u8 0, .int .u8 0, .slice oq m oc] ∧ w.heap.size + 1 ≤ G ∧ (0 < os.length → ∀ a, oq = some a → a.block ≠ G) ∧ (0 < os.length → ∀ a, oq = some a → a.block ≠ w.heap.size)) ∨ (L 23 = false ∧ S w' ∧ (L 20 = true → Reads .u8 w' oq oc os) ∧ (L 22 = true → Blk w' G 26 zcs) ∧ (L 20 = true → L 22 = true → (0 < os.length → ∀ a, oq = some a → a.block ≠ G)) ∧ (L 22 = true → w.heap.size + 1 ≤ G) ∧ (L 20 = true → (0 < os.length → ∀ a, oq = some a → a.block ≠ w.heap.size)) ∧ (L 21 = true → L 20 = true)))) (by kernel_rfl) (by kernel_rfl) ?h0 ?step ?done
  case h0 => exact ⟨none, 0, 0, by simp, .inr ⟨by simp, S1, by simp, by simp, by simp, by simp, by simp, by simp⟩⟩
  case step =>
    refine Inv.Steps.cons rfl ?_ ?_
    · intro L a w' hI hL hd K hK
      obtain ⟨oq, oc, G, rfl, hI⟩ := hI
      rcases hI with ⟨hall, -⟩ | ⟨hlast, hSw, f0, f1, f2, f3, f4, o0⟩
      · simp [hL] at hall
      clear hd
      rw [if_pos (by rfl)]
      go_simp
      exact hK.out _ _ ⟨oq, oc, G, by simp, .inr ⟨by simpa using hlast, hSw, by simpa using f0, by simpa using f1, by simpa using f2, by simpa using f3, by simpa using f4, by simpa using o0⟩⟩
    refine Inv.Steps.cons rfl ?_ ?_
    · intro L a w' hI hL hd K hK
      obtain ⟨oq, oc, G, rfl, hI⟩ := hI
      rcases hI with ⟨hall, -⟩ | ⟨hlast, hSw, f0, f1, f2, f3, f4, o0⟩
      · simp [hL] at hall
      simp [Region.binds] at hd
      simp only [hd, if_true]
      rw [if_pos (by rfl)]
      go_simp
      exact hK.out _ _ ⟨oq, oc, G, by simp [hd], .inr ⟨by simpa using hlast, hSw, by simpa using f0, by simpa using f1, by simpa using f2, by simpa using f3, by simpa using f4, by simpa using o0⟩⟩
    refine Inv.Steps.cons rfl ?_ ?_
    · intro L a w' hI hL hd K hK
      obtain ⟨oq, oc, G, rfl, hI⟩ := hI
      rcases hI with ⟨hall, -⟩ | ⟨hlast, hSw, f0, f1, f2, f3, f4, o0⟩
      · simp [hL] at hall
      simp [Region.binds] at hd
      simp only [hd, if_true]
      rw [if_pos (by rfl)]
      obtain ⟨k1, k8, k9⟩ := hcell _ hSw
      go_simp
      exact hK.out _ _ ⟨oq, oc, G, by simp [hd], .inr ⟨by simpa using hlast, hSw, by simpa using f0, by simpa using f1, by simpa using f2, by simpa using f3, by simpa using f4, by simpa using o0⟩⟩
    refine Inv.Steps.cons rfl ?_ ?_
    · intro L a w' hI hL hd K hK
      obtain ⟨oq, oc, G, rfl, hI⟩ := hI
      rcases hI with ⟨hall, -⟩ | ⟨hlast, hSw, f0, f1, f2, f3, f4, o0⟩
      · simp [hL] at hall
      simp [Region.binds] at hd
      simp only [hd, if_true]
      rw [if_pos (by rfl)]
      go_simp
      exact hK.out _ _ ⟨oq, oc, G, by simp [hd], .inr ⟨by simpa using hlast, hSw, by simpa using f0, by simpa using f1, by simpa using f2, by simpa using f3, by simpa using f4, by simpa using o0⟩⟩
    refine Inv.Steps.cons rfl ?_ ?_
    · intro L a w' hI hL hd K hK
      obtain ⟨oq, oc, G, rfl, hI⟩ := hI
      rcases hI with ⟨hall, -⟩ | ⟨hlast, hSw, f0, f1, f2, f3, f4, o0⟩
      · simp [hL] at hall
      clear hd
      rw [if_pos (by rfl)]
      go_simp
      exact hK.out _ _ ⟨oq, oc, G, by simp, .inr ⟨by simpa using hlast, hSw, by simpa using f0, by simpa using f1, by simpa using f2, by simpa using f3, by simpa using f4, by simpa using o0⟩⟩
    refine Inv.Steps.cons rfl ?_ ?_
    · intro L a w' hI hL hd K hK
      obtain ⟨oq, oc, G, rfl, hI⟩ := hI
      rcases hI with ⟨hall, -⟩ | ⟨hlast, hSw, f0, f1, f2, f3, f4, o0⟩
      · simp [hL] at hall
      simp [Region.binds] at hd
      simp only [hd, if_true]
      rw [if_pos (by rfl)]
      go_simp
      refine (hn4 _ hSw).mono ?_
      rintro e w6 ⟨rfl, hb6⟩
      exact hK.out _ _ ⟨oq, oc, G, by simp [hd], .inr ⟨by simpa using hlast, Sn _ _ hSw hb6, fun h0 => by simpa using (f0 (by simpa using h0)).below hb6, fun h0 => by simpa using (f1 (by simpa using h0)).below hb6, by simpa using f2, by simpa using f3, by simpa using f4, by simpa using o0⟩⟩
    refine Inv.Steps.cons rfl ?_ ?_
    · intro L a w' hI hL hd K hK
      obtain ⟨oq, oc, G, rfl, hI⟩ := hI
      rcases hI with ⟨hall, -⟩ | ⟨hlast, hSw, f0, f1, f2, f3, f4, o0⟩
      · simp [hL] at hall
      clear hd
      rw [if_pos (by rfl)]
      go_simp
      exact hK.out _ _ ⟨oq, oc, G, by simp, .inr ⟨by simpa using hlast, hSw, by simpa using f0, by simpa using f1, by simpa using f2, by simpa using f3, by simpa using f4, by simpa using o0⟩⟩
    refine Inv.Steps.cons rfl ?_ ?_
    · intro L a w' hI hL hd K hK
      obtain ⟨oq, oc, G, rfl, hI⟩ := hI
      rcases hI with ⟨hall, -⟩ | ⟨hlast, hSw, f0, f1, f2, f3, f4, o0⟩
      · simp [hL] at hall
      simp [Region.binds] at hd
      simp only [hd, if_true]
      rw [if_pos (by rfl)]
      go_simp
      refine (hn6 _ hSw).mono ?_
      rintro e w6 ⟨rfl, hb6⟩
      exact hK.out _ _ ⟨oq, oc, G, by simp [hd], .inr ⟨by simpa using hlast, Sn _ _ hSw hb6, fun h0 => by simpa using (f0 (by simpa using h0)).below hb6, fun h0 => by simpa using (f1 (by simpa using h0)).below hb6, by simpa using f2, by simpa using f3, by simpa using f4, by simpa using o0⟩⟩
    refine Inv.Steps.cons rfl ?_ ?_
    · intro L a w' hI hL hd K hK
      obtain ⟨oq, oc, G, rfl, hI⟩ := hI
      rcases hI with ⟨hall, -⟩ | ⟨hlast, hSw, f0, f1, f2, f3, f4, o0⟩
      · simp [hL] at hall
      clear hd
      rw [if_pos (by rfl)]
      go_simp
      exact hK.out _ _ ⟨oq, oc, G, by simp, .inr ⟨by simpa using hlast, hSw, by simpa using f0, by simpa using f1, by simpa using f2, by simpa using f3, by simpa using f4, by simpa using o0⟩⟩
    refine Inv.Steps.cons rfl ?_ ?_
    · intro L a w' hI hL hd K hK
      obtain ⟨oq, oc, G, rfl, hI⟩ := hI
      rcases hI with ⟨hall, -⟩ | ⟨hlast, hSw, f0, f1, f2, f3, f4, o0⟩
      · simp [hL] at hall
      simp [Region.binds] at hd
      simp only [hd, if_true]
      rw [if_pos (by rfl)]
      go_simp
      exact hK.out _ _ ⟨oq, oc, G, by simp [hd], .inr ⟨by simpa using hlast, hSw, by simpa using f0, by simpa using f1, by simpa using f2, by simpa using f3, by simpa using f4, by simpa using o0⟩⟩
    refine Inv.Steps.cons rfl ?_ ?_
    · intro L a w' hI hL hd K hK
      obtain ⟨oq, oc, G, rfl, hI⟩ := hI
      rcases hI with ⟨hall, -⟩ | ⟨hlast, hSw, f0, f1, f2, f3, f4, o0⟩
      · simp [hL] at hall
      simp [Region.binds] at hd
      simp only [hd, if_true]
      rw [if_pos (by rfl)]
      obtain ⟨k1, k8, k9⟩ := hcell _ hSw
      go_simp
      exact hK.out _ _ ⟨oq, oc, G, by simp [hd], .inr ⟨by simpa using hlast, hSw, by simpa using f0, by simpa using f1, by simpa using f2, by simpa using f3, by simpa using f4, by simpa using o0⟩⟩
    refine Inv.Steps.cons rfl ?_ ?_
    · intro L a w' hI hL hd K hK
      obtain ⟨oq, oc, G, rfl, hI⟩ := hI
      rcases hI with ⟨hall, -⟩ | ⟨hlast, hSw, f0, f1, f2, f3, f4, o0⟩
      · simp [hL] at hall
      simp [Region.binds] at hd
      simp only [hd, if_true]
      rw [if_pos (by rfl)]
      go_simp
      exact hK.out _ _ ⟨oq, oc, G, by simp [hd], .inr ⟨by simpa using hlast, hSw, by simpa using f0, by simpa using f1, by simpa using f2, by simpa using f3, by simpa using f4, by simpa using o0⟩⟩
    refine Inv.Steps.cons rfl ?_ ?_
    · intro L a w' hI hL hd K hK
      obtain ⟨oq, oc, G, rfl, hI⟩ := hI
      rcases hI with ⟨hall, -⟩ | ⟨hlast, hSw, f0, f1, f2, f3, f4, o0⟩
      · simp [hL] at hall
      clear hd
      rw [if_pos (by rfl)]
      go_simp
      exact hK.out _ _ ⟨oq, oc, G, by simp, .inr ⟨by simpa using hlast, hSw, by simpa using f0, by simpa using f1, by simpa using f2, by simpa using f3, by simpa using f4, by simpa using o0⟩⟩
    refine Inv.Steps.cons rfl ?_ ?_
    · intro L a w' hI hL hd K hK
      obtain ⟨oq, oc, G, rfl, hI⟩ := hI
      rcases hI with ⟨hall, -⟩ | ⟨hlast, hSw, f0, f1, f2, f3, f4, o0⟩
      · simp [hL] at hall
      simp [Region.binds] at hd
      simp only [hd, if_true]
      rw [if_pos (by rfl)]
      go_simp
      exact hK.out _ _ ⟨oq, oc, G, by simp [hd], .inr ⟨by simpa using hlast, hSw, by simpa using f0, by simpa using f1, by simpa using f2, by simpa using f3, by simpa using f4, by simpa using o0⟩⟩
    refine Inv.Steps.cons rfl ?_ ?_
    · intro L a w' hI hL hd K hK
      obtain ⟨oq, oc, G, rfl, hI⟩ := hI
      rcases hI with ⟨hall, -⟩ | ⟨hlast, hSw, f0, f1, f2, f3, f4, o0⟩
      · simp [hL] at hall
      simp [Region.binds] at hd
      simp only [hd, if_true]
      rw [if_pos (by rfl)]
      obtain ⟨k1, k8, k9⟩ := hcell _ hSw
      go_simp
      exact hK.out _ _ ⟨oq, oc, G, by simp [hd], .inr ⟨by simpa using hlast, hSw, by simpa using f0, by simpa using f1, by simpa using f2, by simpa using f3, by simpa using f4, by simpa using o0⟩⟩
    refine Inv.Steps.cons rfl ?_ ?_
    · intro L a w' hI hL hd K hK
      obtain ⟨oq, oc, G, rfl, hI⟩ := hI
      rcases hI with ⟨hall, -⟩ | ⟨hlast, hSw, f0, f1, f2, f3, f4, o0⟩
      · simp [hL] at hall
      simp [Region.binds] at hd
      simp only [hd, if_true]
      rw [if_pos (by rfl)]
      go_simp
      exact hK.out _ _ ⟨oq, oc, G, by simp [hd], .inr ⟨by simpa using hlast, hSw, by simpa using f0, by simpa using f1, by simpa using f2, by simpa using f3, by simpa using f4, by simpa using o0⟩⟩
    refine Inv.Steps.cons rfl ?_ ?_
    · intro L a w' hI hL hd K hK
      obtain ⟨oq, oc, G, rfl, hI⟩ := hI
      rcases hI with ⟨hall, -⟩ | ⟨hlast, hSw, f0, f1, f2, f3, f4, o0⟩
      · simp [hL] at hall
      clear hd
      rw [if_pos (by rfl)]
      go_simp
      exact hK.out _ _ ⟨oq, oc, G, by simp, .inr ⟨by simpa using hlast, hSw, by simpa using f0, by simpa using f1, by simpa using f2, by simpa using f3, by simpa using f4, by simpa using o0⟩⟩
    refine Inv.Steps.cons rfl ?_ ?_
    · intro L a w' hI hL hd K hK
      obtain ⟨oq, oc, G, rfl, hI⟩ := hI
      rcases hI with ⟨hall, -⟩ | ⟨hlast, hSw, f0, f1, f2, f3, f4, o0⟩
      · simp [hL] at hall
      clear hd
      rw [if_pos (by rfl)]
      go_simp
      exact hK.out _ _ ⟨oq, oc, G, by simp, .inr ⟨by simpa using hlast, hSw, by simpa using f0, by simpa using f1, by simpa using f2, by simpa using f3, by simpa using f4, by simpa using o0⟩⟩
    refine Inv.Steps.cons rfl ?_ ?_
    · intro L a w' hI hL hd K hK
      obtain ⟨oq, oc, G, rfl, hI⟩ := hI
      rcases hI with ⟨hall, -⟩ | ⟨hlast, hSw, f0, f1, f2, f3, f4, o0⟩
      · simp [hL] at hall
      simp [Region.binds] at hd
      simp only [hd, if_true]
      rw [if_pos (by rfl)]
      go_simp
      refine (hhs _ hSw).mono ?_
      rintro e w6 ⟨rfl, rfl⟩
      exact hK.out _ _ ⟨oq, oc, G, by simp [hd], .inr ⟨by simpa using hlast, hSw, by simpa using f0, by simpa using f1, by simpa using f2, by simpa using f3, by simpa using f4, by simpa using o0⟩⟩
    refine Inv.Steps.cons rfl ?_ ?_
    · intro L a w' hI hL hd K hK
      obtain ⟨oq, oc, G, rfl, hI⟩ := hI
      rcases hI with ⟨hall, -⟩ | ⟨hlast, hSw, f0, f1, f2, f3, f4, o0⟩
      · simp [hL] at hall
      simp [Region.binds] at hd
      simp only [hd, if_true]
      rw [if_pos (by rfl)]
      go_simp
      exact hK.out _ _ ⟨oq, oc, G, by simp [hd], .inr ⟨by simpa using hlast, hSw, by simpa using f0, by simpa using f1, by simpa using f2, by simpa using f3, by simpa using f4, by simpa using o0⟩⟩
    refine Inv.Steps.cons rfl ?_ ?_
    · intro L a w' hI hL hd K hK
      obtain ⟨oq, oc, G, rfl, hI⟩ := hI
      rcases hI with ⟨hall, -⟩ | ⟨hlast, hSw, f0, f1, f2, f3, f4, o0⟩
      · simp [hL] at hall
      simp [Region.binds] at hd
      simp only [hd, if_true]
      rw [if_pos (by rfl)]
      have hn21 : L 21 = false := by cases h : L 21 with | false => rfl | true => exact absurd (o0 h) (by simp [hL])
      go_simp
      refine (hcl _ hSw).mono ?_
      rintro e w6 ⟨q6, d6, rfl, hr6, hfr6, hb6⟩
      exact hK.out _ _ ⟨q6, d6, G, by simp [hd, hn21], .inr ⟨by simpa using hlast, Sn _ _ hSw hb6, fun _ => hr6, fun h0 => by simpa using (f1 (by simpa using h0)).below hb6, fun _ h => fun _ a ha => by have := (f1 (by simpa using h)).lt; have := hfr6 a ha; omega, by simpa using f3, fun _ => fun _ a ha => by have := Sl _ hSw; have := hfr6 a ha; omega, by simp⟩⟩
    refine Inv.Steps.cons rfl ?_ ?_
    · intro L a w' hI hL hd K hK
      obtain ⟨oq, oc, G, rfl, hI⟩ := hI
      rcases hI with ⟨hall, -⟩ | ⟨hlast, hSw, f0, f1, f2, f3, f4, o0⟩
      · simp [hL] at hall
      simp [Region.binds] at hd
      simp only [hd, if_true]
      rw [if_pos (by rfl)]
      go_simp
      exact hK.out _ _ ⟨oq, oc, G, by simp [hd], .inr ⟨by simpa using hlast, hSw, by simpa using f0, by simpa using f1, by simpa using f2, by simpa using f3, by simpa using f4, by simp [hd]⟩⟩
    refine Inv.Steps.cons rfl ?_ ?_
    · intro L a w' hI hL hd K hK
      obtain ⟨oq, oc, G, rfl, hI⟩ := hI
      rcases hI with ⟨hall, -⟩ | ⟨hlast, hSw, f0, f1, f2, f3, f4, o0⟩
      · simp [hL] at hall
      clear hd
      rw [if_pos (by rfl)]
      go_simp
      exact hK.out _ _ ⟨oq, oc, w'.heap.size, by simp, .inr ⟨by simpa using hlast, Sn _ _ hSw (bnew _ _), fun h0 => by simpa using (f0 (by simpa using h0)).below (bnew _ _), fun _ => Blk.new _ _ _, fun h _ => (f0 (by simpa using h)).apart (Nat.le_refl _), fun _ => Sl _ hSw, by simpa using f4, by simpa using o0⟩⟩
    refine Inv.Steps.cons rfl ?_ ?_
    · intro L a w' hI hL hd K hK
      obtain ⟨oq, oc, G, rfl, hI⟩ := hI
      rcases hI with ⟨hall, -⟩ | ⟨hlast, hSw, f0, f1, f2, f3, f4, o0⟩
      · simp [hL] at hall
      simp [Region.binds] at hd
      simp only [hd, if_true]
      rw [if_pos (by rfl)]
      replace f0 := f0 (by simp [hd])
      replace f1 := f1 (by simp [hd])
      replace f2 := f2 (by simp [hd]) (by simp [hd])
      replace f3 := f3 (by simp [hd])
      replace f4 := f4 (by simp [hd])
      have kB := f1.cell
      have zB := f1.frozen
      simp only [zcs] at kB
      go_simp
      exact hK.out _ _ ⟨oq, oc, G, by simp [hd], .inl ⟨by simp [hd], ⟨Sk _ _ _ hSw (sets14 _ _ _ _ _ _ _ _ _ _ _ _ _ _ _ _) f3, f0.kept (sets14 _ _ _ _ _ _ _ _ _ _ _ _ _ _ _ _) f2, put14 f1 rfl _ _ _ _ _ _ _ _ _ _ _ _ _ _, f3, f2, f4⟩⟩⟩
    exact Inv.Steps.nil (by decide)
  case done =>
    intro L a w' hI hall
    obtain ⟨oq, oc, G, rfl, hI⟩ := hI
    have hT := (hI.resolve_right (fun h => by have := h.1; simp [hall] at this)).2
    clear hI
    simp only [hall, if_true]
    obtain ⟨S2, R2, B2, hG, hP, hQ⟩ := hT
    replace S2 : S w'.drew := Sn _ _ S2 (Below.refl _ _).drew
    replace B2 := B2.drew
    replace R2 := R2.drew
    go_wp2
    go_region_law (refine step_copy_blk rfl (.tmp 36) (.tmp 38) 24 24 rfl 5 Try.underlying24 info_one (some ⟨G, 5, none⟩) (some ⟨b, o + 12, none⟩) 4 4 (n - 12) (c - 12) (by simp [Act.eval, Act.put]) (by simp [Act.eval, Act.put]) G 5 _ 26 B2 (bs [y0, y1, y2, y3]) (by show 4 = min (n - 12) 4; omega) (fun _ => ⟨rfl, _, rfl, (hsrc _ S2).1⟩) (by simp [bs]) bs_one ?_; intro w3 B3 N3)
    replace B3 : Blk w3 G 26 [.int .i64 x1, .int .i64 i4, .int .i64 i6, .int .i64 x8, .int .i64 x9, .int .u8 y0, .int .u8 y1, .int .u8 y2, .int .u8 y3, .int .u8 0, .int .u8 0, .int .u8 0, .int .u8 0, .slice oq m oc] := B3
    have R3 := (R2.kept N3 hP).drew
    have S3 : S w3.drew := Sn _ _ (Sk _ _ _ S2 N3 hG) (Below.refl _ _).drew
    clear R2 B2 S2 N3
    replace B3 := B3.drew
    go_wp2
    go_region_law (refine step_copy_blk rfl (.tmp 41) (.tmp 43) 24 24 rfl 5 Try.underlying24 info_one (some ⟨G, 9, none⟩) (some ⟨b, o + 16, none⟩) 4 4 (n - 16) (c - 16) (by simp [Act.eval, Act.put]) (by simp [Act.eval, Act.put]) G 9 _ 26 B3 (bs [z0, z1, z2, z3]) (by show 4 = min (n - 16) 4; omega) (fun _ => ⟨rfl, _, rfl, (hsrc _ S3).2⟩) (by simp [bs]) bs_one ?_; intro w4 B4 N4)
    replace B4 : Blk w4 G 26 [.int .i64 x1, .int .i64 i4, .int .i64 i6, .int .i64 x8, .int .i64 x9, .int .u8 y0, .int .u8 y1, .int .u8 y2, .int .u8 y3, .int .u8 z0, .int .u8 z1, .int .u8 z2, .int .u8 z3, .slice oq m oc] := B4
    have R4 := (R3.kept N4 hP).drew
    have S4 : S w4.drew := Sn _ _ (Sk _ _ _ S3 N4 hG) (Below.refl _ _).drew
    clear R3 B3 S3 N4
    replace B4 := B4.drew
    have k4 := B4.cell
    go_wp2
    go_region_law (first
      | (rw [if_pos (by rfl)]; go_simp; refine (hhs _ S4).mono ?_; rintro e w5 ⟨rfl, rfl⟩)
      | (rw [if_pos (by rfl)]; go_simp; refine (hcp _ S4).mono ?_; rintro e w6 ⟨pq, pc, rfl, R6, hfr6, hb6⟩; have k6 := (B4.below hb6).cell; have z6 := ((Sz _ S4).below hb6).cell; have f6 := ((Sz _ S4).below hb6).frozen; simp only [zcs] at z6))
    all_goals
      have hbe := bnext (Sb _ S4) hb6
      go_wp2
      exact bodyPost_ret (v := .tuple #[.agg #[.int .i64 x1, .int .i64 i4, .int .i64 i6, .int .i64 x8, .int .i64 x9, .int .u8 y0, .int .u8 y1, .int .u8 y2, .int .u8 y3, .int .u8 z0, .int .u8 z1, .int .u8 z2, .int .u8 z3, .slice oq m oc], .slice pq (n - H) pc, .int .i64 0]) (by simp [results, Try.results9, go_sem, z6]) rfl ⟨oq, oc, pq, pc, rfl, (R4.below hb6).kept (sets14 _ _ _ _ _ _ _ _ _ _ _ _ _ _ _ _) hQ, R6.kept (sets14 _ _ _ _ _ _ _ _ _ _ _ _ _ _ _ _) (fun _ a ha => by have := Sl _ S4; have := hfr6 a ha; omega), hbe.grown (sets14 _ _ _ _ _ _ _ _ _ _ _ _ _ _ _ _) hbe.size (by intro k hk; simp at hk; omega)⟩
end Go.Proofs.Ytogijgpamdcjkaa.Head
