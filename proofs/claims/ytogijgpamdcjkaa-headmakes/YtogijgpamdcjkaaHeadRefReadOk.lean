/-
  The document's answers, as they are typed out: Read, of a packet. (Written by gen_refreadok.py.)
-/
import Derived.Test.YtogijgpamdcjkaaHeadRefReadE
import Derived.Test.YtogijgpamdcjkaaHeadRefHead
import Derived.Test.YtogijgpamdcjkaaHeadReadOk
namespace Go.Proofs.Ytogijgpamdcjkaa.Head
open Go.RowKit Go.Proofs.Ytogijgpamdcjkaa.Mem
set_option linter.unusedVariables false

/-- What stands all along: the bytes, the result's block as it was laid, and what was there before. -/
def Kp (xs : List Int) (b o c : Nat) (w W : World) : Prop := Reads .u8 W (some ⟨b, o, none⟩) c xs ∧ Blk W w.heap.size 26 zcs ∧ Below w.heap.size w W
section
variable {xs : List Int} {b o c : Nat} {w W W' : World}
theorem Kp.next (s : Kp xs b o c w W) (hb : Below W.heap.size W W') : Kp xs b o c w W' := ⟨s.1.below hb, s.2.1.below hb, bnext s.2.2 hb⟩
theorem Kp.drew (s : Kp xs b o c w W) : Kp xs b o c w W.drew := s.next (Below.refl _ _).drew
theorem Kp.lt (s : Kp xs b o c w W) : w.heap.size < W.heap.size := s.2.1.lt
theorem Kp.grown (hb : b < w.heap.size) (s : Kp xs b o c w W) {G : Nat} (hg : W.grownBy W' (some G)) (hG : w.heap.size < G) : Kp xs b o c w W' := by
  refine ⟨s.1.kept hg (fun _ a ha => ?_), s.2.1.kept hg (by simp; omega), s.2.2.grown hg s.2.2.size (by intro k hk; simp at hk; omega)⟩
  obtain rfl := Option.some.inj ha
  exact fun e => by simp only at e; omega
end
theorem sets4 (X : World) (G i : Nat) (v0 v1 v2 v3 : Value) : X.grownBy ((((X.setCell ⟨G, i, none⟩ v0).setCell ⟨G, i + 1, none⟩ v1).setCell ⟨G, i + 2, none⟩ v2).setCell ⟨G, i + 3, none⟩ v3) (some G) :=
  (((only_put X ⟨G, i, none⟩ v0).trans (only_put _ ⟨G, i + 1, none⟩ v1)).trans (only_put _ ⟨G, i + 2, none⟩ v2)).trans (only_put _ ⟨G, i + 3, none⟩ v3)
set_option maxRecDepth 100000 in
set_option maxHeartbeats 8000000 in
theorem rread_core (b o n c m H : Nat) (xs os ps : List Int) (y x1 x2 x3 x4 x5 x6 x7 x8 x9 x12 x13 x14 x15 x16 x17 x18 x19 : Int) (hn : n ≤ 1500) (h20 : 20 ≤ n) (hH1 : 20 ≤ H) (hH2 : H ≤ n) (hm : H - 20 = m) (hnc : n ≤ c) (w : World) (r : Reads .u8 w (some ⟨b, o, none⟩) c xs) (hbl : b < w.heap.size)
    (by0 : 0 ≤ y ∧ y < 256) (bx1 : 0 ≤ x1 ∧ x1 < 256) (bx2 : 0 ≤ x2 ∧ x2 < 256) (bx3 : 0 ≤ x3 ∧ x3 < 256) (bx4 : 0 ≤ x4 ∧ x4 < 256) (bx5 : 0 ≤ x5 ∧ x5 < 256) (bx6 : 0 ≤ x6 ∧ x6 < 256) (bx7 : 0 ≤ x7 ∧ x7 < 256) (bx8 : 0 ≤ x8 ∧ x8 < 256) (bx9 : 0 ≤ x9 ∧ x9 < 256) (bx12 : 0 ≤ x12 ∧ x12 < 256) (bx13 : 0 ≤ x13 ∧ x13 < 256) (bx14 : 0 ≤ x14 ∧ x14 < 256) (bx15 : 0 ≤ x15 ∧ x15 < 256) (bx16 : 0 ≤ x16 ∧ x16 < 256) (bx17 : 0 ≤ x17 ∧ x17 < 256) (bx18 : 0 ≤ x18 ∧ x18 < 256) (bx19 : 0 ≤ x19 ∧ x19 < 256)
    (d4 : (y / 16 == 4) = true) (hHc : 4 * (y % 16) = (H : Int)) (hK : 256 * x2 + x3 = (n : Int))
    (hy : ∀ W, Reads .u8 W (some ⟨b, o, none⟩) c xs → W.cell? ⟨b, o, none⟩ = some (.int .u8 y))
    (hcell : ∀ W, Reads .u8 W (some ⟨b, o, none⟩) c xs → W.cell? ⟨b, o + 1, none⟩ = some (.int .u8 x1) ∧ W.cell? ⟨b, o + 2, none⟩ = some (.int .u8 x2) ∧ W.cell? ⟨b, o + 3, none⟩ = some (.int .u8 x3) ∧ W.cell? ⟨b, o + 4, none⟩ = some (.int .u8 x4) ∧ W.cell? ⟨b, o + 5, none⟩ = some (.int .u8 x5) ∧ W.cell? ⟨b, o + 6, none⟩ = some (.int .u8 x6) ∧ W.cell? ⟨b, o + 7, none⟩ = some (.int .u8 x7) ∧ W.cell? ⟨b, o + 8, none⟩ = some (.int .u8 x8) ∧ W.cell? ⟨b, o + 9, none⟩ = some (.int .u8 x9) ∧ W.cell? ⟨b, o + 12, none⟩ = some (.int .u8 x12) ∧ W.cell? ⟨b, o + 13, none⟩ = some (.int .u8 x13) ∧ W.cell? ⟨b, o + 14, none⟩ = some (.int .u8 x14) ∧ W.cell? ⟨b, o + 15, none⟩ = some (.int .u8 x15) ∧ W.cell? ⟨b, o + 16, none⟩ = some (.int .u8 x16) ∧ W.cell? ⟨b, o + 17, none⟩ = some (.int .u8 x17) ∧ W.cell? ⟨b, o + 18, none⟩ = some (.int .u8 x18) ∧ W.cell? ⟨b, o + 19, none⟩ = some (.int .u8 x19))
    (hsm : ∀ W, Reads .u8 W (some ⟨b, o, none⟩) c xs → Calls Try.prog 13 #[.slice (some ⟨b, o, none⟩) H c] W fun e w'' => e = .returned (.int .i64 0) ∧ w'' = W)
    (lo : os.length = m) (lp : ps.length = n - H) (hos : ∀ W, Reads .u8 W (some ⟨b, o, none⟩) c xs → Reads .u8 W (cutP (some ⟨b, o, none⟩) c 20) (c - 20) os) (hps : ∀ W, Reads .u8 W (some ⟨b, o, none⟩) c xs → Reads .u8 W (cutP (some ⟨b, o, none⟩) c H) (c - H) ps) :
    Calls Try.prog 15 #[.slice (some ⟨b, o, none⟩) n c] w fun e w' => ∃ oq oc pq pc, e = .returned (.tuple #[.agg #[.int .i64 x1, .int .i64 (256 * x4 + x5), .int .i64 (256 * x6 + x7), .int .i64 x8, .int .i64 x9, .int .u8 x12, .int .u8 x13, .int .u8 x14, .int .u8 x15, .int .u8 x16, .int .u8 x17, .int .u8 x18, .int .u8 x19, .slice oq m oc], .slice pq (n - H) pc, .int .i64 0]) ∧ Reads .u8 w' oq oc os ∧ Reads .u8 w' pq pc ps ∧ Below w.heap.size w w' := by
  obtain ⟨i0, hi, hz0, hz1, hz2⟩ := info_parts info_byte
  obtain ⟨y0, y1⟩ := by0
  have hne : b ≠ w.heap.size := by omega
  have h1 := hy w r
  have S0 : Kp xs b o c w (w.alloc (.cells #[.int .i64 0, .int .i64 0, .int .i64 0, .int .i64 0, .int .i64 0, .int .u8 0, .int .u8 0, .int .u8 0, .int .u8 0, .int .u8 0, .int .u8 0, .int .u8 0, .int .u8 0, .slice none 0 0] 26)) := ⟨r.alloc _, Blk.new w _ _, bnew _ _⟩
  obtain ⟨h2, h3⟩ : w.cell? ⟨b, o + 2, none⟩ = some (.int .u8 x2) ∧ w.cell? ⟨b, o + 3, none⟩ = some (.int .u8 x3) := by
    obtain ⟨k1, k2, k3, k4, k5, k6, k7, k8, k9, k12, k13, k14, k15, k16, k17, k18, k19⟩ := hcell w r
    exact ⟨k2, k3⟩
  have e1 : decide ((H : Int) < 20) = false := by simp; omega
  have e1n : decide (H < 20) = false := by simp; omega
  have e2 : decide (n < H) = false := by simp; omega
  have e2i : decide ((n : Int) < (H : Int)) = false := by simp; omega
  have e3 : (256 * x2 + x3 != (n : Int)) = false := by simp; omega
  have e4 : decide (1500 < n) = false := by simp; omega
  have e4i : decide (1500 < (n : Int)) = false := by simp; omega
  have hup := fun w => run_upto w b o n c H (by omega)
  have hcut : ∀ w, (Instr.slice 24 (.slice (some ⟨b, o, none⟩) n c) (some (.int .i64 20)) (some (.int .i64 (H : Int))) none).run Try.prog w = .ok (.slice (cutP (some ⟨b, o, none⟩) c 20) m (c - 20)) w := fun w => by
    have := run_cut w b o n c 20 H hH1 (by omega)
    rw [hm] at this
    exact this
  have hcH := fun w => run_from w (some ⟨b, o, none⟩) n c H hH2
  obtain ⟨cq, hcq⟩ : ∃ cq, cq = cutP (some ⟨b, o, none⟩) c 20 := ⟨_, rfl⟩
  obtain ⟨cp, hcpq⟩ : ∃ cp, cp = cutP (some ⟨b, o, none⟩) c H := ⟨_, rfl⟩
  rw [← hcq] at hcut hos
  rw [← hcpq] at hcH hps
  clear hcq hcpq
  have q1 : (1 : Int) < (n : Int) := by omega
  have q2 : (2 : Int) < (n : Int) := by omega
  have q3 : (3 : Int) < (n : Int) := by omega
  have q4 : (4 : Int) < (n : Int) := by omega
  have q5 : (5 : Int) < (n : Int) := by omega
  have q6 : (6 : Int) < (n : Int) := by omega
  have q7 : (7 : Int) < (n : Int) := by omega
  have q8 : (8 : Int) < (n : Int) := by omega
  have q9 : (9 : Int) < (n : Int) := by omega
  have q12 : (12 : Int) < (n : Int) := by omega
  have q13 : (13 : Int) < (n : Int) := by omega
  have q14 : (14 : Int) < (n : Int) := by omega
  have q15 : (15 : Int) < (n : Int) := by omega
  have q16 : (16 : Int) < (n : Int) := by omega
  have q17 : (17 : Int) < (n : Int) := by omega
  have q18 : (18 : Int) < (n : Int) := by omega
  have q19 : (19 : Int) < (n : Int) := by omega
  have v0 : IntKind.i64.wrap (x1) = x1 := by simp [IntKind.wrap, IntKind.bits, IntKind.signed]; omega
  have v1 : IntKind.i64.wrap (x2) = x2 := by simp [IntKind.wrap, IntKind.bits, IntKind.signed]; omega
  have v2 : IntKind.i64.wrap (x3) = x3 := by simp [IntKind.wrap, IntKind.bits, IntKind.signed]; omega
  have v3 : IntKind.i64.wrap (x4) = x4 := by simp [IntKind.wrap, IntKind.bits, IntKind.signed]; omega
  have v4 : IntKind.i64.wrap (x5) = x5 := by simp [IntKind.wrap, IntKind.bits, IntKind.signed]; omega
  have v5 : IntKind.i64.wrap (x6) = x6 := by simp [IntKind.wrap, IntKind.bits, IntKind.signed]; omega
  have v6 : IntKind.i64.wrap (x7) = x7 := by simp [IntKind.wrap, IntKind.bits, IntKind.signed]; omega
  have v7 : IntKind.i64.wrap (x8) = x8 := by simp [IntKind.wrap, IntKind.bits, IntKind.signed]; omega
  have v8 : IntKind.i64.wrap (x9) = x9 := by simp [IntKind.wrap, IntKind.bits, IntKind.signed]; omega
  have v9 : IntKind.i64.wrap (256 * x2) = 256 * x2 := by simp [IntKind.wrap, IntKind.bits, IntKind.signed]; omega
  have v10 : IntKind.i64.wrap (256 * x2 + x3) = 256 * x2 + x3 := by simp [IntKind.wrap, IntKind.bits, IntKind.signed]; omega
  have v11 : IntKind.i64.wrap (256 * x4) = 256 * x4 := by simp [IntKind.wrap, IntKind.bits, IntKind.signed]; omega
  have v12 : IntKind.i64.wrap (256 * x4 + x5) = 256 * x4 + x5 := by simp [IntKind.wrap, IntKind.bits, IntKind.signed]; omega
  have v13 : IntKind.i64.wrap (256 * x6) = 256 * x6 := by simp [IntKind.wrap, IntKind.bits, IntKind.signed]; omega
  have v14 : IntKind.i64.wrap (256 * x6 + x7) = 256 * x6 + x7 := by simp [IntKind.wrap, IntKind.bits, IntKind.signed]; omega
  have HK : Hid (256 * x2 + x3 = (n : Int)) := hK
  clear hK
  go_enter Try.func15, Try.ntmps15
  go_wp2
  go_quiet (fail)
  go_wp2_with (go_at_call 13; refine (hsm _ ((r.alloc _).drewN _)).mono ?_; rintro e w3 ⟨rfl, rfl⟩)
  have S1w := S0.next (bdrewN _ nq)
  generalize hW : (w.alloc (.cells #[.int .i64 0, .int .i64 0, .int .i64 0, .int .i64 0, .int .i64 0, .int .u8 0, .int .u8 0, .int .u8 0, .int .u8 0, .int .u8 0, .int .u8 0, .int .u8 0, .int .u8 0, .slice none 0 0] 26)).drewN nq = W1 at S1w ⊢
  have S1 := S1w.drew
  clear S0 hsm hup e1 e1n e2 e2i e3 e4 e4i hW h1 h2 h3
  have KF10 : ∀ W, Kp xs b o c w W → (Kp xs b o c w W ∧ W.cell? ⟨b, o + 1, none⟩ = some (.int .u8 x1) ∧ W.cell? ⟨b, o + 4, none⟩ = some (.int .u8 x4) ∧ W.cell? ⟨b, o + 5, none⟩ = some (.int .u8 x5) ∧ W.cell? ⟨b, o + 6, none⟩ = some (.int .u8 x6) ∧ W.cell? ⟨b, o + 7, none⟩ = some (.int .u8 x7) ∧ W.cell? ⟨b, o + 8, none⟩ = some (.int .u8 x8) ∧ W.cell? ⟨b, o + 9, none⟩ = some (.int .u8 x9)) := fun W h => by obtain ⟨k1, k2, k3, k4, k5, k6, k7, k8, k9, k12, k13, k14, k15, k16, k17, k18, k19⟩ := hcell W h.1; exact ⟨h, k1, k4, k5, k6, k7, k8, k9⟩
  have F1 : Kp xs b o c w W1.drew ∧ W1.drew.cell? ⟨b, o + 1, none⟩ = some (.int .u8 x1) ∧ W1.drew.cell? ⟨b, o + 4, none⟩ = some (.int .u8 x4) ∧ W1.drew.cell? ⟨b, o + 5, none⟩ = some (.int .u8 x5) ∧ W1.drew.cell? ⟨b, o + 6, none⟩ = some (.int .u8 x6) ∧ W1.drew.cell? ⟨b, o + 7, none⟩ = some (.int .u8 x7) ∧ W1.drew.cell? ⟨b, o + 8, none⟩ = some (.int .u8 x8) ∧ W1.drew.cell? ⟨b, o + 9, none⟩ = some (.int .u8 x9) := KF10 _ S1
  go_region_held (fun W => Kp xs b o c w W ∧ W.cell? ⟨b, o + 1, none⟩ = some (.int .u8 x1) ∧ W.cell? ⟨b, o + 4, none⟩ = some (.int .u8 x4) ∧ W.cell? ⟨b, o + 5, none⟩ = some (.int .u8 x5) ∧ W.cell? ⟨b, o + 6, none⟩ = some (.int .u8 x6) ∧ W.cell? ⟨b, o + 7, none⟩ = some (.int .u8 x7) ∧ W.cell? ⟨b, o + 8, none⟩ = some (.int .u8 x8) ∧ W.cell? ⟨b, o + 9, none⟩ = some (.int .u8 x9)) (first | assumption | exact KF10 _ (Kp.next S1 (bnew _ _))) (fail)
  obtain ⟨G, hG⟩ : ∃ G, G = W1.heap.size := ⟨_, rfl⟩
  have hGl : w.heap.size < G := by have := S1w.lt; omega
  have B2 : Blk (W1.alloc (.cells #[.int .i64 x1, .int .i64 (256 * x4 + x5), .int .i64 (256 * x6 + x7), .int .i64 x8, .int .i64 x9, .int .u8 0, .int .u8 0, .int .u8 0, .int .u8 0, .int .u8 0, .int .u8 0, .int .u8 0, .int .u8 0, .slice none 0 0] 26)).drew G 26 [.int .i64 x1, .int .i64 (256 * x4 + x5), .int .i64 (256 * x6 + x7), .int .i64 x8, .int .i64 x9, .int .u8 0, .int .u8 0, .int .u8 0, .int .u8 0, .int .u8 0, .int .u8 0, .int .u8 0, .int .u8 0, .slice none 0 0] := by rw [hG]; exact Blk.new W1 #[.int .i64 x1, .int .i64 (256 * x4 + x5), .int .i64 (256 * x6 + x7), .int .i64 x8, .int .i64 x9, .int .u8 0, .int .u8 0, .int .u8 0, .int .u8 0, .int .u8 0, .int .u8 0, .int .u8 0, .int .u8 0, .slice none 0 0] _
  have S2 : Kp xs b o c w (W1.alloc (.cells #[.int .i64 x1, .int .i64 (256 * x4 + x5), .int .i64 (256 * x6 + x7), .int .i64 x8, .int .i64 x9, .int .u8 0, .int .u8 0, .int .u8 0, .int .u8 0, .int .u8 0, .int .u8 0, .int .u8 0, .int .u8 0, .slice none 0 0] 26)).drew := (S1w.next (bnew _ _)).drew
  rw [← hG]
  generalize hW2 : (W1.alloc (.cells #[.int .i64 x1, .int .i64 (256 * x4 + x5), .int .i64 (256 * x6 + x7), .int .i64 x8, .int .i64 x9, .int .u8 0, .int .u8 0, .int .u8 0, .int .u8 0, .int .u8 0, .int .u8 0, .int .u8 0, .int .u8 0, .slice none 0 0] 26)).drew = W2 at B2 S2 ⊢
  clear hG hW2 S1 S1w F1 KF10
  go_wp2
  have k2 := B2.cell
  have f2 := B2.frozen
  have S2w := S2
  have B2w := B2
  replace S2 := S2.drew
  have KF11 : ∀ W, Kp xs b o c w W → (Kp xs b o c w W ∧ W.cell? ⟨b, o + 12, none⟩ = some (.int .u8 x12) ∧ W.cell? ⟨b, o + 13, none⟩ = some (.int .u8 x13) ∧ W.cell? ⟨b, o + 14, none⟩ = some (.int .u8 x14) ∧ W.cell? ⟨b, o + 15, none⟩ = some (.int .u8 x15)) := fun W h => by obtain ⟨k1, k2, k3, k4, k5, k6, k7, k8, k9, k12, k13, k14, k15, k16, k17, k18, k19⟩ := hcell W h.1; exact ⟨h, k12, k13, k14, k15⟩
  have F2 : Kp xs b o c w W2.drew ∧ W2.drew.cell? ⟨b, o + 12, none⟩ = some (.int .u8 x12) ∧ W2.drew.cell? ⟨b, o + 13, none⟩ = some (.int .u8 x13) ∧ W2.drew.cell? ⟨b, o + 14, none⟩ = some (.int .u8 x14) ∧ W2.drew.cell? ⟨b, o + 15, none⟩ = some (.int .u8 x15) := KF11 _ S2
  go_region_held (fun W => Kp xs b o c w W ∧ W.cell? ⟨b, o + 12, none⟩ = some (.int .u8 x12) ∧ W.cell? ⟨b, o + 13, none⟩ = some (.int .u8 x13) ∧ W.cell? ⟨b, o + 14, none⟩ = some (.int .u8 x14) ∧ W.cell? ⟨b, o + 15, none⟩ = some (.int .u8 x15)) (first | assumption | exact KF11 _ (Kp.grown hbl S2 (sets4 _ G 5 (.int .u8 x12) (.int .u8 x13) (.int .u8 x14) (.int .u8 x15)) hGl)) (fail)
  have B3 : Blk ((((W2.setCell ⟨G, 5, none⟩ (.int .u8 x12)).setCell ⟨G, 6, none⟩ (.int .u8 x13)).setCell ⟨G, 7, none⟩ (.int .u8 x14)).setCell ⟨G, 8, none⟩ (.int .u8 x15)).drew G 26 [.int .i64 x1, .int .i64 (256 * x4 + x5), .int .i64 (256 * x6 + x7), .int .i64 x8, .int .i64 x9, .int .u8 x12, .int .u8 x13, .int .u8 x14, .int .u8 x15, .int .u8 0, .int .u8 0, .int .u8 0, .int .u8 0, .slice none 0 0] := (((B2w.put 5 _).put 6 _).put 7 _).put 8 _
  have S3 : Kp xs b o c w ((((W2.setCell ⟨G, 5, none⟩ (.int .u8 x12)).setCell ⟨G, 6, none⟩ (.int .u8 x13)).setCell ⟨G, 7, none⟩ (.int .u8 x14)).setCell ⟨G, 8, none⟩ (.int .u8 x15)).drew := (Kp.grown hbl S2w (sets4 _ G 5 _ _ _ _) hGl).drew
  generalize hW3 : ((((W2.setCell ⟨G, 5, none⟩ (.int .u8 x12)).setCell ⟨G, 6, none⟩ (.int .u8 x13)).setCell ⟨G, 7, none⟩ (.int .u8 x14)).setCell ⟨G, 8, none⟩ (.int .u8 x15)).drew = W3 at B3 S3 ⊢
  clear hW3 B2 S2 k2 f2 F2 S2w B2w KF11
  go_wp2
  have k3 := B3.cell
  have f3 := B3.frozen
  have S3w := S3
  have B3w := B3
  replace S3 := S3.drew
  have KF12 : ∀ W, Kp xs b o c w W → (Kp xs b o c w W ∧ W.cell? ⟨b, o + 16, none⟩ = some (.int .u8 x16) ∧ W.cell? ⟨b, o + 17, none⟩ = some (.int .u8 x17) ∧ W.cell? ⟨b, o + 18, none⟩ = some (.int .u8 x18) ∧ W.cell? ⟨b, o + 19, none⟩ = some (.int .u8 x19)) := fun W h => by obtain ⟨k1, k2, k3, k4, k5, k6, k7, k8, k9, k12, k13, k14, k15, k16, k17, k18, k19⟩ := hcell W h.1; exact ⟨h, k16, k17, k18, k19⟩
  have F3 : Kp xs b o c w W3.drew ∧ W3.drew.cell? ⟨b, o + 16, none⟩ = some (.int .u8 x16) ∧ W3.drew.cell? ⟨b, o + 17, none⟩ = some (.int .u8 x17) ∧ W3.drew.cell? ⟨b, o + 18, none⟩ = some (.int .u8 x18) ∧ W3.drew.cell? ⟨b, o + 19, none⟩ = some (.int .u8 x19) := KF12 _ S3
  go_region_held (fun W => Kp xs b o c w W ∧ W.cell? ⟨b, o + 16, none⟩ = some (.int .u8 x16) ∧ W.cell? ⟨b, o + 17, none⟩ = some (.int .u8 x17) ∧ W.cell? ⟨b, o + 18, none⟩ = some (.int .u8 x18) ∧ W.cell? ⟨b, o + 19, none⟩ = some (.int .u8 x19)) (first | assumption | exact KF12 _ (Kp.grown hbl S3 (sets4 _ G 9 (.int .u8 x16) (.int .u8 x17) (.int .u8 x18) (.int .u8 x19)) hGl)) (fail)
  have B4 : Blk ((((W3.setCell ⟨G, 9, none⟩ (.int .u8 x16)).setCell ⟨G, 10, none⟩ (.int .u8 x17)).setCell ⟨G, 11, none⟩ (.int .u8 x18)).setCell ⟨G, 12, none⟩ (.int .u8 x19)).drew G 26 [.int .i64 x1, .int .i64 (256 * x4 + x5), .int .i64 (256 * x6 + x7), .int .i64 x8, .int .i64 x9, .int .u8 x12, .int .u8 x13, .int .u8 x14, .int .u8 x15, .int .u8 x16, .int .u8 x17, .int .u8 x18, .int .u8 x19, .slice none 0 0] := (((B3w.put 9 _).put 10 _).put 11 _).put 12 _
  have S4 : Kp xs b o c w ((((W3.setCell ⟨G, 9, none⟩ (.int .u8 x16)).setCell ⟨G, 10, none⟩ (.int .u8 x17)).setCell ⟨G, 11, none⟩ (.int .u8 x18)).setCell ⟨G, 12, none⟩ (.int .u8 x19)).drew := (Kp.grown hbl S3w (sets4 _ G 9 _ _ _ _) hGl).drew
  generalize hW4 : ((((W3.setCell ⟨G, 9, none⟩ (.int .u8 x16)).setCell ⟨G, 10, none⟩ (.int .u8 x17)).setCell ⟨G, 11, none⟩ (.int .u8 x18)).setCell ⟨G, 12, none⟩ (.int .u8 x19)).drew = W4 at B4 S4 ⊢
  clear hW4 B3 S3 k3 f3 F3 S3w B3w KF12
  have hG4 := B4.lt
  go_wp2_with (at_builtin; refine wpList_append_reads _ rfl _ _ 24 rfl W4.heap.size 5 i0 (.int .u8 0) 1 .u8 Try.underlying24 hi hz0 hz1 hz2 rfl (.slice (some ⟨W4.heap.size, 0, none⟩) 0 0) 0 [] rfl (lit_none (k := .u8) W4) cq m (c - 20) os rfl lo ((hos _ S4.1).alloc _) ?c3 ?c4 ?c5 ?_)
  case c3 => unfold maxLen; omega
  case c4 => omega
  case c5 => simp
  intro v5 w5 own5 hg5
  replace hg5 : (W4.alloc (.cells #[] 5)).grownBy w5 (some W4.heap.size) := hg5
  replace own5 : w5.ownsRow W4.heap.size 5 1 v5 m (os.map (Value.int .u8)) := by simpa using own5
  have hfr5 : ∀ a, v5.ownBlock = some a → W4.heap.size ≤ a := fun a ha => (own5.lt a ha).1
  obtain ⟨-, oq, oc, hv5, R5⟩ := own_reads own5
  rw [lo] at hv5
  subst hv5
  replace hfr5 : ∀ a, oq = some a → W4.heap.size ≤ a.block := fun a ha => hfr5 a.block (by rw [ha]; rfl)
  have S4l := S4.lt
  have B5 := (B4.alloc (.cells #[] 5)).kept hg5 (by simp; omega)
  have S5 : Kp xs b o c w w5 := Kp.grown hbl (S4.next (bnew _ _)) hg5 S4l
  have k5 := B5.cell
  have f5 := B5.frozen
  have hsz5 : W4.heap.size < w5.heap.size := by have := hg5.size; simp at this; omega
  clear own5 hg5
  go_wp2
  have g6 := only_put w5 ⟨G, 13, none⟩ (.slice oq m oc)
  have B6 : Blk (w5.setCell ⟨G, 13, none⟩ (.slice oq m oc)) G 26 [.int .i64 x1, .int .i64 (256 * x4 + x5), .int .i64 (256 * x6 + x7), .int .i64 x8, .int .i64 x9, .int .u8 x12, .int .u8 x13, .int .u8 x14, .int .u8 x15, .int .u8 x16, .int .u8 x17, .int .u8 x18, .int .u8 x19, .slice oq m oc] := B5.put 13 _
  have S6 := Kp.grown hbl S5 g6 hGl
  have R6 := R5.kept g6 (fun _ a ha => by have := hfr5 a ha; simp only; omega)
  generalize hW6 : w5.setCell ⟨G, 13, none⟩ (.slice oq m oc) = W6 at B6 S6 R6 ⊢
  have hw4 : W4.heap.size ≤ W6.heap.size := by rw [← hW6]; simp; omega
  clear hW6 g6 k5 f5 B5 S5 R5
  have k6 := B6.cell
  have hG6 := B6.lt
  have hG6n : G ≠ W6.heap.size := by omega
  have S6d := S6.drew
  have z6 := S6.2.1
  have hp6 := hps _ S6d.1
  go_region_law (refine step_append_reads rfl (.tmp 126) (.tmp 129) 24 rfl W6.heap.size 5 i0 .u8 Try.underlying24 hi hz0 hz1 hz2 (.slice (some ⟨W6.heap.size, 0, none⟩) 0 0) 0 [] (by simp [Act.eval]) (lit_none (k := .u8) W6.drew) cp (n - H) (c - H) ps (by simp [Act.eval]) lp (hp6.alloc _) (by omega) (by simp) ?_; intro v7 w7 own7 hg7; replace hg7 : (W6.drew.alloc (.cells #[] 5)).grownBy w7 (some W6.heap.size) := hg7; replace own7 : w7.ownsRow W6.heap.size 5 1 v7 (n - H) (ps.map (Value.int .u8)) := (by simpa using own7); have hfr7 : ∀ a, v7.ownBlock = some a → W6.heap.size ≤ a := (fun a ha => (own7.lt a ha).1); obtain ⟨-, pq, pc, hv7, R7⟩ := own_reads own7; rw [lp] at hv7; subst hv7; have k7 := (((B6.drew).alloc (.cells #[] 5)).kept hg7 (by simp; omega)).cell; have z7 := (((z6.drew).alloc (.cells #[] 5)).kept hg7 (by simp; omega)).cell; have f7 := (((z6.drew).alloc (.cells #[] 5)).kept hg7 (by simp; omega)).frozen; simp only [zcs] at z7)
  all_goals
    have hb7 : Below w.heap.size w w7 := (bnext S6d.2.2 (bnew _ (.cells #[] 5))).grown hg7 (by have := S6.lt; simp; omega) (by intro k hk; simp at hk; have := S6.lt; omega)
    have R8 := ((R6.drew.alloc (.cells #[] 5)).kept hg7 (by intro hz a ha; obtain ⟨b', o', e', hlt, _⟩ := R6.2.2.2 hz; rw [e'] at ha; obtain rfl := Option.some.inj ha; simp only; omega))
    go_wp2
    exact bodyPost_ret (v := .tuple #[.agg #[.int .i64 x1, .int .i64 (256 * x4 + x5), .int .i64 (256 * x6 + x7), .int .i64 x8, .int .i64 x9, .int .u8 x12, .int .u8 x13, .int .u8 x14, .int .u8 x15, .int .u8 x16, .int .u8 x17, .int .u8 x18, .int .u8 x19, .slice oq m oc], .slice pq (n - H) pc, .int .i64 0]) (by simp [results, Try.results15, go_sem, z7]) rfl ⟨oq, oc, pq, pc, rfl, R8.kept (sets14 _ _ _ _ _ _ _ _ _ _ _ _ _ _ _ _) (fun _ a ha => by have := hfr5 a ha; omega), R7.kept (sets14 _ _ _ _ _ _ _ _ _ _ _ _ _ _ _ _) (fun _ a ha => by have := hfr7 a.block (by rw [ha]; rfl); have := S6.lt; omega), hb7.grown (sets14 _ _ _ _ _ _ _ _ _ _ _ _ _ _ _ _) hb7.size (by intro k hk; simp at hk; omega)⟩
end Go.Proofs.Ytogijgpamdcjkaa.Head
