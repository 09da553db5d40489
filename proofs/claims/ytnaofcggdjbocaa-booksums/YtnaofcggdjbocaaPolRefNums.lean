/-
  The numbers of a policy: the document's Nums.
-/
import Derived.Test.YtnaofcggdjbocaaPolRight
import Derived.Test.YtnaofcggdjbocaaPolSat
import Derived.Deep.RegionHeld
import Derived.Test.YtnaofcggdjbocaaPolRefRight
/-
  The numbers of a policy: Nums.
-/
namespace Go.Proofs.Ytnaofcggdjbocaa.Policy
open Go.RowKit Go.Proofs.Ytnaofcggdjbocaa.Mem Go.Proofs.Ytnaofcggdjbocaa.Addr
set_option maxRecDepth 100000

/-- A slice of numbers that is new. -/
def Made (w w' : World) (e : Ending) (l : List Int) : Prop := ∃ q c, e = .returned (.slice q l.length c) ∧ Reads .u64 w' q c l ∧ Below w.heap.size w w' ∧ ∀ a, q = some a → w.heap.size ≤ a.block
theorem wrap32 {N : Nat} (h : N < 4294967296) : IntKind.u64.wrap (N : Int) = N := by rw [IntKind.wrap_u64]; omega
/-- A policy in a box of its own, behind a call's beginning. -/
def NS (p : Po) (g : Nat) (w W : World) : Prop := Blk W g 47 (pl p) ∧ Below w.heap.size w W
theorem NS.below {p : Po} {g : Nat} {w W W' : World} (h : NS p g w W) (hb : Below W.heap.size W W') : NS p g w W' := ⟨h.1.below hb, bnext h.2 hb⟩
set_option maxHeartbeats 4000000 in
theorem policy_Nums (p : Po) (hp : PoOk p) (w : World) :
    Calls Try.prog 33 #[pv p] w fun e w' => Made w w' e (numsP p) := by
  have hr := fun W => policy_Right p hp W
  cases hR : rightP p with
  | false =>
    have hn : numsP p = [] := by unfold numsP; rw [hR]; rfl
    rw [hR] at hr
    rw [hn]
    go_enter Try.func33, Try.ntmps33
    go_wp2_with (first
      | ((fail_if_success (have _ := hX1)); (refine at_box_po _ _ (by rfl) (by rfl) (by rfl) ?_); intro V1 hX1 hB1 hz1)
      | ((refine at_load_po _ _ _ (by rfl) (by rfl) hX1 (by rfl) ?_))
      | ((with_reducible refine (hr _).mono ?_); rintro e w2 ⟨rfl, hB2⟩))
    go_ret
    exact ⟨none, 0, rfl, Reads.nil _ _, bnext hB1 hB2, by simp⟩
  | true =>
    have hn : numsP p = numsL p := by unfold numsP; rw [hR]; rfl
    rw [hR] at hr
    rw [hn]
    clear hn
    obtain ⟨r1, r2, r3, -⟩ := rightP_iff.1 hR
    obtain ⟨r4, r5⟩ := bits_of r3
    have hu1 := fun W => uint_any p.s hp.1 W
    have hu2 := fun W => uint_any p.b hp.2.2.1 W
    have hN := hp.2.1
    have hnum := fun W => addr_Num p.N hN W
    have hwN := wrap32 hN
    have e1 : suint p.s = p.s := by unfold suint; rw [if_neg (by omega)]
    have e2 : suint p.b = p.b := by unfold suint; rw [if_neg (by omega)]
    rw [e1] at hu1
    rw [e2] at hu2
    have hN2 : Hid (p.N < 4294967296) := hN
    clear hp hR r1 r2 r3 r4 r5 e1 e2 hN
    obtain ⟨s, N, b, x0, x1, x2, x3, x4, x5, x6⟩ := p
    unfold adr at hnum
    simp only at hu1 hu2 hnum hwN
    go_enter Try.func33, Try.ntmps33
    go_wp2_with (first
      | ((fail_if_success (have _ := hX1)); (refine at_box_po _ _ (by rfl) (by rfl) (by rfl) ?_); intro V1 hX1 hB1 hz1)
      | ((fail_if_success (have _ := hB2)); (refine at_load_po _ _ _ (by rfl) (by rfl) hX1 (by rfl) ?_))
      | ((with_reducible refine (hr _).mono ?_); rintro e w2 ⟨rfl, hB2⟩; have hX2 := hX1.below hB2; have hk2 := cells13 hX2)
      | ((with_reducible refine (hu1 _).mono ?_); rintro e w3 ⟨rfl, hw⟩; rw [hw]; clear hw)
      | ((with_reducible refine (hu2 _).mono ?_); rintro e w4 ⟨rfl, hw⟩; rw [hw]; clear hw))
    have hN0 : NS ⟨s, N, b, x0, x1, x2, x3, x4, x5, x6⟩ w.heap.size w w2.drew := ⟨hX2.drew, (bnext hB1 hB2).drew⟩
    have hS0 := And.intro hN0 (cells13 hN0.1)
    clear hB1 hB2 hX2 hk2 hX1
    go_region_held (fun W => NS ⟨s, N, b, x0, x1, x2, x3, x4, x5, x6⟩ w.heap.size w W ∧ ∀ i, W.cell? ⟨w.heap.size, i, none⟩ = [Value.int .i64 s, .int .u8 (b0 N), .int .u8 (b1 N), .int .u8 (b2 N), .int .u8 (b3 N), .int .i64 b, .int .u64 (x0 : Int), .int .u64 (x1 : Int), .int .u64 (x2 : Int), .int .u64 (x3 : Int), .int .u64 (x4 : Int), .int .u64 (x5 : Int), .int .u64 (x6 : Int)][i]?)
      (first | exact hS0 | exact hS6 | exact ⟨hS6.1.below (bnew _ _), cells13 (hS6.1.below (bnew _ _)).1⟩)
      (((with_reducible refine (hnum _).mono ?_); rintro e w6 ⟨rfl, hB6⟩; have hN6 := hN0.below hB6; have hS6 := And.intro hN6 (cells13 hN6.1)))
    go_wp2
    go_ret
    refine ⟨some ⟨w6.heap.size, 0, none⟩, 10, rfl, Blk.reads (zs := numsL ⟨s, N, b, x0, x1, x2, x3, x4, x5, x6⟩) (Blk.new w6 _ _) (by simp [numsL]), bnext hN6.2 (bnew _ _), fun a ha => ?_⟩
    obtain rfl := Option.some.inj ha
    exact hN6.2.size
end Go.Proofs.Ytnaofcggdjbocaa.Policy
namespace Go.Proofs.Ytnaofcggdjbocaa.Policy
open Go.RowKit Go.Proofs.Ytnaofcggdjbocaa.Mem Go.Proofs.Ytnaofcggdjbocaa.Addr
set_option maxRecDepth 100000

theorem info_u64 : ∃ i, Try.prog.info? 22 = some i ∧ i.zero = some (.int .u64 0) ∧ i.size = 1 ∧ i.bytes = 8 := by
  have h : (Try.prog.info? 22).map (fun i => (i.zero, i.size, i.bytes)) = some (some (.int .u64 0), 1, 8) := by kernel_rfl
  obtain ⟨i, hi, he⟩ := Option.map_eq_some_iff.1 h
  simp only [Prod.mk.injEq] at he
  exact ⟨i, hi, he.1, he.2.1, he.2.2⟩
set_option maxHeartbeats 4000000 in
theorem ref_Nums (p : Po) (hp : PoOk p) (w : World) :
    Calls Try.prog 35 #[pv p] w fun e w' => Made w w' e (numsP p) := by
  have hr := fun W => ref_RightP p hp W
  cases hR : rightP p with
  | false =>
    have hn : numsP p = [] := by unfold numsP; rw [hR]; rfl
    rw [hR] at hr
    rw [hn]
    go_enter Try.func35, Try.ntmps35
    go_wp2_with (first
      | ((fail_if_success (have _ := hX1)); (refine at_box_po _ _ (by rfl) (by rfl) (by rfl) ?_); intro V1 hX1 hB1 hz1)
      | ((refine at_load_po _ _ _ (by rfl) (by rfl) hX1 (by rfl) ?_))
      | ((with_reducible refine (hr _).mono ?_); rintro e w2 ⟨rfl, hB2⟩))
    go_ret
    exact ⟨none, 0, rfl, Reads.nil _ _, bnext hB1 hB2, by simp⟩
  | true =>
    have hn : numsP p = numsL p := by unfold numsP; rw [hR]; rfl
    rw [hR] at hr
    rw [hn]
    clear hn
    obtain ⟨r1, r2, r3, -⟩ := rightP_iff.1 hR
    obtain ⟨r4, r5⟩ := bits_of r3
    have hN := hp.2.1
    have hnum := fun W => ref_Num p.N hN W
    have hwN := wrap32 hN
    have hws : IntKind.u64.wrap p.s = p.s := by rw [IntKind.wrap_u64]; omega
    have hwb : IntKind.u64.wrap p.b = p.b := by rw [IntKind.wrap_u64]; omega
    have hN2 : Hid (p.N < 4294967296) := hN
    clear hp hR r1 r2 r3 r4 r5 hN
    obtain ⟨s, N, b, x0, x1, x2, x3, x4, x5, x6⟩ := p
    unfold adr at hnum
    simp only at hnum hwN hws hwb
    go_enter Try.func35, Try.ntmps35
    go_wp2_with (first
      | ((fail_if_success (have _ := hX1)); (refine at_box_po _ _ (by rfl) (by rfl) (by rfl) ?_); intro V1 hX1 hB1 hz1)
      | ((fail_if_success (have _ := hB2)); (refine at_load_po _ _ _ (by rfl) (by rfl) hX1 (by rfl) ?_))
      | ((with_reducible refine (hr _).mono ?_); rintro e w2 ⟨rfl, hB2⟩; have hX2 := hX1.below hB2))
    have hN0 : NS ⟨s, N, b, x0, x1, x2, x3, x4, x5, x6⟩ w.heap.size w w2.drew := ⟨hX2.drew, (bnext hB1 hB2).drew⟩
    have hS0 := And.intro hN0 (cells13 hN0.1)
    clear hB1 hB2 hX2 hX1
    go_region_held (fun W => NS ⟨s, N, b, x0, x1, x2, x3, x4, x5, x6⟩ w.heap.size w W ∧ ∀ i, W.cell? ⟨w.heap.size, i, none⟩ = [Value.int .i64 s, .int .u8 (b0 N), .int .u8 (b1 N), .int .u8 (b2 N), .int .u8 (b3 N), .int .i64 b, .int .u64 (x0 : Int), .int .u64 (x1 : Int), .int .u64 (x2 : Int), .int .u64 (x3 : Int), .int .u64 (x4 : Int), .int .u64 (x5 : Int), .int .u64 (x6 : Int)][i]?)
      (first | exact hS0 | exact hS6 | exact ⟨hS6.1.below (bnew _ _), cells13 (hS6.1.below (bnew _ _)).1⟩)
      (((with_reducible refine (hnum _).mono ?_); rintro e w6 ⟨rfl, hB6⟩; have hN6 := hN0.below hB6; have hS6 := And.intro hN6 (cells13 hN6.1)))
    have hown : (w6.alloc (.cells #[.int .u64 s, .int .u64 (N : Int), .int .u64 b] 22)).ownsRow w6.heap.size 22 1 (.slice (some ⟨w6.heap.size, 0, none⟩) 3 3) 3 ([s, (N : Int), b].map (Value.int .u64)) := World.ownsRow_lit w6 _ 3 (Nat.le_refl _) (by decide) (by simp)
    have hN7 := hN6.below (bnew w6 (.cells #[.int .u64 s, .int .u64 (N : Int), .int .u64 b] 22))
    have hs7 : w6.heap.size < (w6.alloc (.cells #[.int .u64 s, .int .u64 (N : Int), .int .u64 b] 22)).heap.size := by simp
    have hs6 := hN6.2.size
    have hb6 := hN6.2
    generalize hW7 : w6.alloc (.cells #[.int .u64 s, .int .u64 (N : Int), .int .u64 b] 22) = W7 at *
    have hb7 : Below w6.heap.size w6 W7 := by rw [← hW7]; exact bnew _ _
    have hk7 := cells13 hN7.1
    clear hN0 hS0 hS6 hN6 hW7
    obtain ⟨i0, hi, hz0, hz1, hz2⟩ := info_u64
    have hr7 : Reads .u64 (W7.alloc (.cells #[.int .u64 (x0 : Int), .int .u64 (x1 : Int), .int .u64 (x2 : Int), .int .u64 (x3 : Int), .int .u64 (x4 : Int), .int .u64 (x5 : Int), .int .u64 (x6 : Int)] 22)) (some ⟨W7.heap.size, 0, none⟩) 7 [x0, x1, x2, x3, x4, x5, x6] := Blk.reads (zs := [x0, x1, x2, x3, x4, x5, x6]) (Blk.new W7 _ _) (by simp)
    go_wp2_with (at_builtin; refine wpList_append_reads _ rfl _ _ 65 rfl w6.heap.size 22 i0 (.int .u64 0) 8 .u64 Try.underlying65 hi hz0 hz1 hz2 rfl (.slice (some ⟨w6.heap.size, 0, none⟩) 3 3) 3 ([s, (N : Int), b].map (Value.int .u64)) rfl (hown.alloc _) (some ⟨W7.heap.size, 0, none⟩) 7 7 [x0, x1, x2, x3, x4, x5, x6] rfl rfl hr7 (by decide) (by decide) (by simp; omega) ?_)
    intro v8 W8 ho8 hg8
    have ho9 : W8.ownsRow w6.heap.size 22 1 v8 10 ((numsL ⟨s, N, b, x0, x1, x2, x3, x4, x5, x6⟩).map (Value.int .u64)) := ho8
    obtain ⟨g, c, rfl, hr9⟩ := own_reads_pos ho9 (by simp [numsL])
    have hb8 : Below w6.heap.size w6 W8 := (bnext hb7 (bnew W7 (.cells #[.int .u64 (x0 : Int), .int .u64 (x1 : Int), .int .u64 (x2 : Int), .int .u64 (x3 : Int), .int .u64 (x4 : Int), .int .u64 (x5 : Int), .int .u64 (x6 : Int)] 22))).grown hg8 (by have := hb7.size; simp; omega) (fun j hj => by simp [Value.ownBlock] at hj; omega)
    go_wp2
    go_ret
    refine ⟨some ⟨g, 0, none⟩, c, rfl, hr9, bnext hb6 hb8, fun a ha => ?_⟩
    obtain rfl := Option.some.inj ha
    have := (ho9.lt g rfl).1
    show w.heap.size ≤ g
    omega
end Go.Proofs.Ytnaofcggdjbocaa.Policy
