/-
  The address of a text.
-/
import Derived.Test.YtpekkmnomfeglabDoorAddrText
namespace Go.Proofs.YtpekkmnomfeglabDoor.Addr
open Go.RowKit Go.Proofs.YtpekkmnomfeglabDoor.Mem

theorem number_hit (n : Nat) (most : Nat) (hm : most < 256) (hn : n ≤ most) (w : World) (hF : Fact w) :
    Calls Tryd.prog 16 #[.string (bs (dec3 n)), .int .i64 most] w fun e w' => e = .returned (.tuple #[.int .i64 n, .bool true]) ∧ Below w.heap.size w w' := by
  refine (number_any (dec3 n) (by have := (dec3_pos n).2; omega) most hm w hF).mono fun e w' ⟨he, hb⟩ => ⟨?_, hb⟩
  rcases he with ⟨k, hk, e2, he⟩ | ⟨hno, _⟩
  · have h1 := dec3_atoi n (by omega)
    rw [e2, dec3_atoi k (by omega)] at h1
    injection h1 with h1
    rw [he, h1]
  · exact absurd rfl (hno n hn)
theorem number_miss (l : List UInt8) (hl : l.length ≤ 1000000) (most : Nat) (hm : most < 256) (h : ∀ n : Nat, n ≤ most → l ≠ dec3 n) (w : World) (hF : Fact w) :
    Calls Tryd.prog 16 #[.string (bs l), .int .i64 most] w fun e w' => e = .returned (.tuple #[.int .i64 0, .bool false]) ∧ Below w.heap.size w w' := by
  refine (number_any l hl most hm w hF).mono fun e w' ⟨he, hb⟩ => ⟨?_, hb⟩
  rcases he with ⟨k, hk, e2, he⟩ | ⟨_, he⟩
  · exact absurd e2 (h k hk)
  · exact he

/-- Between the parts: the address as far as it has been read, the place of the result, the parts. -/
def Part (w X : World) (g : Nat) (a0 a1 a2 a3 : Value) (p0 p1 p2 p3 : ByteArray) : Prop :=
  Box4 X (w.heap.size + 1) a0 a1 a2 a3 ∧ Box4 X w.heap.size (.int .u8 0) (.int .u8 0) (.int .u8 0) (.int .u8 0) ∧
  (X.cell? ⟨g, 0, none⟩ = some (.string p0) ∧ X.cell? ⟨g, 1, none⟩ = some (.string p1) ∧ X.cell? ⟨g, 2, none⟩ = some (.string p2) ∧ X.cell? ⟨g, 3, none⟩ = some (.string p3)) ∧ Below w.heap.size w X
theorem Part.below {w X Y : World} {g : Nat} {a0 a1 a2 a3 : Value} {p0 p1 p2 p3 : ByteArray} (h : Part w X g a0 a1 a2 a3 p0 p1 p2 p3) (hb : Below X.heap.size X Y) : Part w Y g a0 a1 a2 a3 p0 p1 p2 p3 :=
  ⟨h.1.below hb, h.2.1.below hb, ⟨cell_stays hb h.2.2.1.1, cell_stays hb h.2.2.1.2.1, cell_stays hb h.2.2.1.2.2.1, cell_stays hb h.2.2.1.2.2.2⟩, bnext h.2.2.2 hb⟩
theorem Box4.other {X : World} {g : Nat} {v0 v1 v2 v3 : Value} (h : Box4 X g v0 v1 v2 v3) {p : Addr} (hp : g ≠ p.block) (v : Value) : Box4 (X.setCell p v) g v0 v1 v2 v3 := by
  obtain ⟨k0, k1, k2, k3, f0, f1, f2, f3, hg⟩ := h
  have hb := Below.heap_setCell X p v g hp
  exact ⟨(World.cell?_of_block (w := X) (a := ⟨g, 0, none⟩) hb).trans k0, (World.cell?_of_block (w := X) (a := ⟨g, 1, none⟩) hb).trans k1, (World.cell?_of_block (w := X) (a := ⟨g, 2, none⟩) hb).trans k2, (World.cell?_of_block (w := X) (a := ⟨g, 3, none⟩) hb).trans k3,
    (World.frozen?_of_block (w := X) (a := ⟨g, 0, none⟩) hb).trans f0, (World.frozen?_of_block (w := X) (a := ⟨g, 1, none⟩) hb).trans f1, (World.frozen?_of_block (w := X) (a := ⟨g, 2, none⟩) hb).trans f2, (World.frozen?_of_block (w := X) (a := ⟨g, 3, none⟩) hb).trans f3, by simpa using hg⟩
theorem Part.set0 {w X : World} {g : Nat} {a0 a1 a2 a3 : Value} {p0 p1 p2 p3 : ByteArray} (h : Part w X g a0 a1 a2 a3 p0 p1 p2 p3) (hg : w.heap.size + 2 ≤ g) (v : Value) : Part w (X.setCell ⟨w.heap.size + 1, 0, none⟩ v) g v a1 a2 a3 p0 p1 p2 p3 := by
  obtain ⟨h1, h2, ⟨h3, h4, h5, h6⟩, h7⟩ := h
  obtain ⟨k0, k1, k2, k3, f0, f1, f2, f3, hl⟩ := h1
  have hb := Below.heap_setCell X ⟨w.heap.size + 1, 0, none⟩ v g (by simp; omega)
  refine ⟨⟨?_, ?_, ?_, ?_, ?_, ?_, ?_, ?_, by simpa using hl⟩, h2.other (by simp) v, ⟨(World.cell?_of_block (w := X) (a := ⟨g, 0, none⟩) hb).trans h3, (World.cell?_of_block (w := X) (a := ⟨g, 1, none⟩) hb).trans h4, (World.cell?_of_block (w := X) (a := ⟨g, 2, none⟩) hb).trans h5, (World.cell?_of_block (w := X) (a := ⟨g, 3, none⟩) hb).trans h6⟩, h7.setCell (by simp) v⟩
  all_goals first | simpa using f0 | simpa using f1 | simpa using f2 | simpa using f3 | simp [go_sem, k0, k1, k2, k3]
theorem Part.set1 {w X : World} {g : Nat} {a0 a1 a2 a3 : Value} {p0 p1 p2 p3 : ByteArray} (h : Part w X g a0 a1 a2 a3 p0 p1 p2 p3) (hg : w.heap.size + 2 ≤ g) (v : Value) : Part w (X.setCell ⟨w.heap.size + 1, 1, none⟩ v) g a0 v a2 a3 p0 p1 p2 p3 := by
  obtain ⟨h1, h2, ⟨h3, h4, h5, h6⟩, h7⟩ := h
  obtain ⟨k0, k1, k2, k3, f0, f1, f2, f3, hl⟩ := h1
  have hb := Below.heap_setCell X ⟨w.heap.size + 1, 1, none⟩ v g (by simp; omega)
  refine ⟨⟨?_, ?_, ?_, ?_, ?_, ?_, ?_, ?_, by simpa using hl⟩, h2.other (by simp) v, ⟨(World.cell?_of_block (w := X) (a := ⟨g, 0, none⟩) hb).trans h3, (World.cell?_of_block (w := X) (a := ⟨g, 1, none⟩) hb).trans h4, (World.cell?_of_block (w := X) (a := ⟨g, 2, none⟩) hb).trans h5, (World.cell?_of_block (w := X) (a := ⟨g, 3, none⟩) hb).trans h6⟩, h7.setCell (by simp) v⟩
  all_goals first | simpa using f0 | simpa using f1 | simpa using f2 | simpa using f3 | simp [go_sem, k0, k1, k2, k3]
theorem Part.set2 {w X : World} {g : Nat} {a0 a1 a2 a3 : Value} {p0 p1 p2 p3 : ByteArray} (h : Part w X g a0 a1 a2 a3 p0 p1 p2 p3) (hg : w.heap.size + 2 ≤ g) (v : Value) : Part w (X.setCell ⟨w.heap.size + 1, 2, none⟩ v) g a0 a1 v a3 p0 p1 p2 p3 := by
  obtain ⟨h1, h2, ⟨h3, h4, h5, h6⟩, h7⟩ := h
  obtain ⟨k0, k1, k2, k3, f0, f1, f2, f3, hl⟩ := h1
  have hb := Below.heap_setCell X ⟨w.heap.size + 1, 2, none⟩ v g (by simp; omega)
  refine ⟨⟨?_, ?_, ?_, ?_, ?_, ?_, ?_, ?_, by simpa using hl⟩, h2.other (by simp) v, ⟨(World.cell?_of_block (w := X) (a := ⟨g, 0, none⟩) hb).trans h3, (World.cell?_of_block (w := X) (a := ⟨g, 1, none⟩) hb).trans h4, (World.cell?_of_block (w := X) (a := ⟨g, 2, none⟩) hb).trans h5, (World.cell?_of_block (w := X) (a := ⟨g, 3, none⟩) hb).trans h6⟩, h7.setCell (by simp) v⟩
  all_goals first | simpa using f0 | simpa using f1 | simpa using f2 | simpa using f3 | simp [go_sem, k0, k1, k2, k3]
theorem Part.set3 {w X : World} {g : Nat} {a0 a1 a2 a3 : Value} {p0 p1 p2 p3 : ByteArray} (h : Part w X g a0 a1 a2 a3 p0 p1 p2 p3) (hg : w.heap.size + 2 ≤ g) (v : Value) : Part w (X.setCell ⟨w.heap.size + 1, 3, none⟩ v) g a0 a1 a2 v p0 p1 p2 p3 := by
  obtain ⟨h1, h2, ⟨h3, h4, h5, h6⟩, h7⟩ := h
  obtain ⟨k0, k1, k2, k3, f0, f1, f2, f3, hl⟩ := h1
  have hb := Below.heap_setCell X ⟨w.heap.size + 1, 3, none⟩ v g (by simp; omega)
  refine ⟨⟨?_, ?_, ?_, ?_, ?_, ?_, ?_, ?_, by simpa using hl⟩, h2.other (by simp) v, ⟨(World.cell?_of_block (w := X) (a := ⟨g, 0, none⟩) hb).trans h3, (World.cell?_of_block (w := X) (a := ⟨g, 1, none⟩) hb).trans h4, (World.cell?_of_block (w := X) (a := ⟨g, 2, none⟩) hb).trans h5, (World.cell?_of_block (w := X) (a := ⟨g, 3, none⟩) hb).trans h6⟩, h7.setCell (by simp) v⟩
  all_goals first | simpa using f0 | simpa using f1 | simpa using f2 | simpa using f3 | simp [go_sem, k0, k1, k2, k3]

set_option maxRecDepth 100000 in
theorem parse_len (s : ByteArray) (w : World) (hF : Fact w) (M : Nat) (n : Nat) (hn : n ≠ 4)
    (hs : ∀ w, Fact w → Calls Tryd.prog 15 #[.string s, .string ⟨#[46]⟩, .int .i64 5] w fun e w' => ∃ g, e = .returned (.slice (some ⟨g, 0, none⟩) n M) ∧ w.heap.size ≤ g ∧ Below w.heap.size w w') :
    Calls Tryd.prog 10 #[.string s] w fun e w' => e = .returned (.tuple #[.agg #[.int .u8 0, .int .u8 0, .int .u8 0, .int .u8 0], .int .i64 41]) ∧ Below w.heap.size w w' := by
  have hd : ((n : Int) == 4) = false := by simp; omega
  have hfa := hF.below (bal (bnew w (.cells #[.int .u8 0, .int .u8 0, .int .u8 0, .int .u8 0] 23)) (.cells #[.int .u8 0, .int .u8 0, .int .u8 0, .int .u8 0] 23))
  clear hF
  go_enter Tryd.func10, Tryd.ntmps10
  go_wp2_with (go_at_call 15; refine (hs _ hfa).mono ?_; rintro e w1 ⟨g, rfl, hle, hb1⟩; obtain ⟨k0, k1, k2, k3, f0, f1, f2, f3, hg⟩ := ((new4 w _ _ _ _ _).alloc _).below hb1)
  exact bodyPost_ret (v := .tuple #[.agg #[.int .u8 0, .int .u8 0, .int .u8 0, .int .u8 0], .int .i64 41]) (by simp [results, Tryd.results10, go_sem, k0, k1, k2, k3]) rfl ⟨rfl, (((((bnext (bal (bnew w _) _) hb1).setCell (Nat.le_refl _) _).setCell (Nat.le_refl _) _).setCell (Nat.le_refl _) _).setCell (Nat.le_refl _) _)⟩
set_option maxRecDepth 100000 in
theorem parse_bad0 (s : ByteArray) (w : World) (hF : Fact w) (M : Nat) (p0 p1 p2 p3 : ByteArray)
    (hs : ∀ w, Fact w → Calls Tryd.prog 15 #[.string s, .string ⟨#[46]⟩, .int .i64 5] w fun e w' => ∃ g, e = .returned (.slice (some ⟨g, 0, none⟩) 4 M) ∧ w.heap.size ≤ g ∧ (w'.cell? ⟨g, 0, none⟩ = some (.string p0) ∧ w'.cell? ⟨g, 1, none⟩ = some (.string p1) ∧ w'.cell? ⟨g, 2, none⟩ = some (.string p2) ∧ w'.cell? ⟨g, 3, none⟩ = some (.string p3)) ∧ Below w.heap.size w w')
    (y0 : ∀ w, Fact w → Calls Tryd.prog 16 #[.string p0, .int .i64 255] w fun e w' => e = .returned (.tuple #[.int .i64 0, .bool false]) ∧ Below w.heap.size w w') :
    Calls Tryd.prog 10 #[.string s] w fun e w' => e = .returned (.tuple #[.agg #[.int .u8 0, .int .u8 0, .int .u8 0, .int .u8 0], .int .i64 41]) ∧ Below w.heap.size w w' := by
  have hfa := hF.below (bal (bnew w (.cells #[.int .u8 0, .int .u8 0, .int .u8 0, .int .u8 0] 23)) (.cells #[.int .u8 0, .int .u8 0, .int .u8 0, .int .u8 0] 23))
  go_enter Tryd.func10, Tryd.ntmps10
  go_wp2_with (go_at_call 15; refine (hs _ hfa).mono ?_; rintro e w1 ⟨g, rfl, hle, hcs, hb1⟩; obtain ⟨d0, d1, d2, d3⟩ := hcs)
  have hga : w.heap.size + 2 ≤ g := by simpa using hle
  have P0 : Part w w1 g (.int .u8 0) (.int .u8 0) (.int .u8 0) (.int .u8 0) p0 p1 p2 p3 := ⟨(by simpa using (new4 (w.alloc _) _ _ _ _ _).below hb1), ((new4 w _ _ _ _ _).alloc _).below hb1, ⟨d0, d1, d2, d3⟩, bnext (bal (bnew w _) _) hb1⟩
  clear hle hs hb1 hfa d1 d2 d3
  refine wp_loop_rounds 5 ?_
  rw [rounds_succ]
  go_wp2_with (go_at_call 16; refine (y0 _ (hF.below P0.2.2.2)).mono ?_; rintro e u0 ⟨rfl, hb0⟩; have Q0 := P0.below hb0; clear d0 hb0 P0; obtain ⟨⟨k0, k1, k2, k3, f0, f1, f2, f3, hg⟩, ⟨l0, l1, l2, l3, g0, g1, g2, g3, hl⟩, -, hB0⟩ := id Q0)
  try simp only [Exit.inBlock, Exit.then]
  exact bodyPost_ret (v := .tuple #[.agg #[.int .u8 0, .int .u8 0, .int .u8 0, .int .u8 0], .int .i64 41]) (by simp [results, Tryd.results10, go_sem, l0, l1, l2, l3]) rfl ⟨rfl, ((((hB0.setCell (Nat.le_refl _) _).setCell (Nat.le_refl _) _).setCell (Nat.le_refl _) _).setCell (Nat.le_refl _) _)⟩
set_option maxRecDepth 100000 in
theorem parse_bad1 (s : ByteArray) (w : World) (hF : Fact w) (M : Nat) (p0 p1 p2 p3 : ByteArray)
    (hs : ∀ w, Fact w → Calls Tryd.prog 15 #[.string s, .string ⟨#[46]⟩, .int .i64 5] w fun e w' => ∃ g, e = .returned (.slice (some ⟨g, 0, none⟩) 4 M) ∧ w.heap.size ≤ g ∧ (w'.cell? ⟨g, 0, none⟩ = some (.string p0) ∧ w'.cell? ⟨g, 1, none⟩ = some (.string p1) ∧ w'.cell? ⟨g, 2, none⟩ = some (.string p2) ∧ w'.cell? ⟨g, 3, none⟩ = some (.string p3)) ∧ Below w.heap.size w w') (m0 : Int) (t0 : 0 ≤ m0) (r0 : m0 < 256)
    (y0 : ∀ w, Fact w → Calls Tryd.prog 16 #[.string p0, .int .i64 255] w fun e w' => e = .returned (.tuple #[.int .i64 m0, .bool true]) ∧ Below w.heap.size w w')
    (y1 : ∀ w, Fact w → Calls Tryd.prog 16 #[.string p1, .int .i64 255] w fun e w' => e = .returned (.tuple #[.int .i64 0, .bool false]) ∧ Below w.heap.size w w') :
    Calls Tryd.prog 10 #[.string s] w fun e w' => e = .returned (.tuple #[.agg #[.int .u8 0, .int .u8 0, .int .u8 0, .int .u8 0], .int .i64 41]) ∧ Below w.heap.size w w' := by
  have hfa := hF.below (bal (bnew w (.cells #[.int .u8 0, .int .u8 0, .int .u8 0, .int .u8 0] 23)) (.cells #[.int .u8 0, .int .u8 0, .int .u8 0, .int .u8 0] 23))
  go_enter Tryd.func10, Tryd.ntmps10
  go_wp2_with (go_at_call 15; refine (hs _ hfa).mono ?_; rintro e w1 ⟨g, rfl, hle, hcs, hb1⟩; obtain ⟨d0, d1, d2, d3⟩ := hcs)
  have hga : w.heap.size + 2 ≤ g := by simpa using hle
  have P0 : Part w w1 g (.int .u8 0) (.int .u8 0) (.int .u8 0) (.int .u8 0) p0 p1 p2 p3 := ⟨(by simpa using (new4 (w.alloc _) _ _ _ _ _).below hb1), ((new4 w _ _ _ _ _).alloc _).below hb1, ⟨d0, d1, d2, d3⟩, bnext (bal (bnew w _) _) hb1⟩
  clear hle hs hb1 hfa d1 d2 d3
  refine wp_loop_rounds 5 ?_
  rw [rounds_succ]
  go_wp2_with (go_at_call 16; refine (y0 _ (hF.below P0.2.2.2)).mono ?_; rintro e u0 ⟨rfl, hb0⟩; have Q0 := P0.below hb0; clear d0 hb0 P0; obtain ⟨⟨k0, k1, k2, k3, f0, f1, f2, f3, hg⟩, ⟨l0, l1, l2, l3, g0, g1, g2, g3, hl⟩, -, hB0⟩ := id Q0)
  have P1 := Q0.set0 hga (.int .u8 m0)
  clear k0 k1 k2 k3 f0 f1 f2 f3 hg l0 l1 l2 l3 g0 g1 g2 g3 hl hB0 Q0
  have d1 := P1.2.2.1.2.1
  rw [rounds_succ]
  go_wp2_with (go_at_call 16; refine (y1 _ (hF.below P1.2.2.2)).mono ?_; rintro e u1 ⟨rfl, hb1⟩; have Q1 := P1.below hb1; clear d1 hb1 P1; obtain ⟨⟨k0, k1, k2, k3, f0, f1, f2, f3, hg⟩, ⟨l0, l1, l2, l3, g0, g1, g2, g3, hl⟩, -, hB1⟩ := id Q1)
  try simp only [Exit.inBlock, Exit.then]
  exact bodyPost_ret (v := .tuple #[.agg #[.int .u8 0, .int .u8 0, .int .u8 0, .int .u8 0], .int .i64 41]) (by simp [results, Tryd.results10, go_sem, l0, l1, l2, l3]) rfl ⟨rfl, ((((hB1.setCell (Nat.le_refl _) _).setCell (Nat.le_refl _) _).setCell (Nat.le_refl _) _).setCell (Nat.le_refl _) _)⟩
set_option maxRecDepth 100000 in
theorem parse_bad2 (s : ByteArray) (w : World) (hF : Fact w) (M : Nat) (p0 p1 p2 p3 : ByteArray)
    (hs : ∀ w, Fact w → Calls Tryd.prog 15 #[.string s, .string ⟨#[46]⟩, .int .i64 5] w fun e w' => ∃ g, e = .returned (.slice (some ⟨g, 0, none⟩) 4 M) ∧ w.heap.size ≤ g ∧ (w'.cell? ⟨g, 0, none⟩ = some (.string p0) ∧ w'.cell? ⟨g, 1, none⟩ = some (.string p1) ∧ w'.cell? ⟨g, 2, none⟩ = some (.string p2) ∧ w'.cell? ⟨g, 3, none⟩ = some (.string p3)) ∧ Below w.heap.size w w') (m0 : Int) (t0 : 0 ≤ m0) (r0 : m0 < 256)
    (y0 : ∀ w, Fact w → Calls Tryd.prog 16 #[.string p0, .int .i64 255] w fun e w' => e = .returned (.tuple #[.int .i64 m0, .bool true]) ∧ Below w.heap.size w w') (m1 : Int) (t1 : 0 ≤ m1) (r1 : m1 < 256)
    (y1 : ∀ w, Fact w → Calls Tryd.prog 16 #[.string p1, .int .i64 255] w fun e w' => e = .returned (.tuple #[.int .i64 m1, .bool true]) ∧ Below w.heap.size w w')
    (y2 : ∀ w, Fact w → Calls Tryd.prog 16 #[.string p2, .int .i64 255] w fun e w' => e = .returned (.tuple #[.int .i64 0, .bool false]) ∧ Below w.heap.size w w') :
    Calls Tryd.prog 10 #[.string s] w fun e w' => e = .returned (.tuple #[.agg #[.int .u8 0, .int .u8 0, .int .u8 0, .int .u8 0], .int .i64 41]) ∧ Below w.heap.size w w' := by
  have hfa := hF.below (bal (bnew w (.cells #[.int .u8 0, .int .u8 0, .int .u8 0, .int .u8 0] 23)) (.cells #[.int .u8 0, .int .u8 0, .int .u8 0, .int .u8 0] 23))
  go_enter Tryd.func10, Tryd.ntmps10
  go_wp2_with (go_at_call 15; refine (hs _ hfa).mono ?_; rintro e w1 ⟨g, rfl, hle, hcs, hb1⟩; obtain ⟨d0, d1, d2, d3⟩ := hcs)
  have hga : w.heap.size + 2 ≤ g := by simpa using hle
  have P0 : Part w w1 g (.int .u8 0) (.int .u8 0) (.int .u8 0) (.int .u8 0) p0 p1 p2 p3 := ⟨(by simpa using (new4 (w.alloc _) _ _ _ _ _).below hb1), ((new4 w _ _ _ _ _).alloc _).below hb1, ⟨d0, d1, d2, d3⟩, bnext (bal (bnew w _) _) hb1⟩
  clear hle hs hb1 hfa d1 d2 d3
  refine wp_loop_rounds 5 ?_
  rw [rounds_succ]
  go_wp2_with (go_at_call 16; refine (y0 _ (hF.below P0.2.2.2)).mono ?_; rintro e u0 ⟨rfl, hb0⟩; have Q0 := P0.below hb0; clear d0 hb0 P0; obtain ⟨⟨k0, k1, k2, k3, f0, f1, f2, f3, hg⟩, ⟨l0, l1, l2, l3, g0, g1, g2, g3, hl⟩, -, hB0⟩ := id Q0)
  have P1 := Q0.set0 hga (.int .u8 m0)
  clear k0 k1 k2 k3 f0 f1 f2 f3 hg l0 l1 l2 l3 g0 g1 g2 g3 hl hB0 Q0
  have d1 := P1.2.2.1.2.1
  rw [rounds_succ]
  go_wp2_with (go_at_call 16; refine (y1 _ (hF.below P1.2.2.2)).mono ?_; rintro e u1 ⟨rfl, hb1⟩; have Q1 := P1.below hb1; clear d1 hb1 P1; obtain ⟨⟨k0, k1, k2, k3, f0, f1, f2, f3, hg⟩, ⟨l0, l1, l2, l3, g0, g1, g2, g3, hl⟩, -, hB1⟩ := id Q1)
  have P2 := Q1.set1 hga (.int .u8 m1)
  clear k0 k1 k2 k3 f0 f1 f2 f3 hg l0 l1 l2 l3 g0 g1 g2 g3 hl hB1 Q1
  have d2 := P2.2.2.1.2.2.1
  rw [rounds_succ]
  go_wp2_with (go_at_call 16; refine (y2 _ (hF.below P2.2.2.2)).mono ?_; rintro e u2 ⟨rfl, hb2⟩; have Q2 := P2.below hb2; clear d2 hb2 P2; obtain ⟨⟨k0, k1, k2, k3, f0, f1, f2, f3, hg⟩, ⟨l0, l1, l2, l3, g0, g1, g2, g3, hl⟩, -, hB2⟩ := id Q2)
  try simp only [Exit.inBlock, Exit.then]
  exact bodyPost_ret (v := .tuple #[.agg #[.int .u8 0, .int .u8 0, .int .u8 0, .int .u8 0], .int .i64 41]) (by simp [results, Tryd.results10, go_sem, l0, l1, l2, l3]) rfl ⟨rfl, ((((hB2.setCell (Nat.le_refl _) _).setCell (Nat.le_refl _) _).setCell (Nat.le_refl _) _).setCell (Nat.le_refl _) _)⟩
set_option maxRecDepth 100000 in
theorem parse_bad3 (s : ByteArray) (w : World) (hF : Fact w) (M : Nat) (p0 p1 p2 p3 : ByteArray)
    (hs : ∀ w, Fact w → Calls Tryd.prog 15 #[.string s, .string ⟨#[46]⟩, .int .i64 5] w fun e w' => ∃ g, e = .returned (.slice (some ⟨g, 0, none⟩) 4 M) ∧ w.heap.size ≤ g ∧ (w'.cell? ⟨g, 0, none⟩ = some (.string p0) ∧ w'.cell? ⟨g, 1, none⟩ = some (.string p1) ∧ w'.cell? ⟨g, 2, none⟩ = some (.string p2) ∧ w'.cell? ⟨g, 3, none⟩ = some (.string p3)) ∧ Below w.heap.size w w') (m0 : Int) (t0 : 0 ≤ m0) (r0 : m0 < 256)
    (y0 : ∀ w, Fact w → Calls Tryd.prog 16 #[.string p0, .int .i64 255] w fun e w' => e = .returned (.tuple #[.int .i64 m0, .bool true]) ∧ Below w.heap.size w w') (m1 : Int) (t1 : 0 ≤ m1) (r1 : m1 < 256)
    (y1 : ∀ w, Fact w → Calls Tryd.prog 16 #[.string p1, .int .i64 255] w fun e w' => e = .returned (.tuple #[.int .i64 m1, .bool true]) ∧ Below w.heap.size w w') (m2 : Int) (t2 : 0 ≤ m2) (r2 : m2 < 256)
    (y2 : ∀ w, Fact w → Calls Tryd.prog 16 #[.string p2, .int .i64 255] w fun e w' => e = .returned (.tuple #[.int .i64 m2, .bool true]) ∧ Below w.heap.size w w')
    (y3 : ∀ w, Fact w → Calls Tryd.prog 16 #[.string p3, .int .i64 255] w fun e w' => e = .returned (.tuple #[.int .i64 0, .bool false]) ∧ Below w.heap.size w w') :
    Calls Tryd.prog 10 #[.string s] w fun e w' => e = .returned (.tuple #[.agg #[.int .u8 0, .int .u8 0, .int .u8 0, .int .u8 0], .int .i64 41]) ∧ Below w.heap.size w w' := by
  have hfa := hF.below (bal (bnew w (.cells #[.int .u8 0, .int .u8 0, .int .u8 0, .int .u8 0] 23)) (.cells #[.int .u8 0, .int .u8 0, .int .u8 0, .int .u8 0] 23))
  go_enter Tryd.func10, Tryd.ntmps10
  go_wp2_with (go_at_call 15; refine (hs _ hfa).mono ?_; rintro e w1 ⟨g, rfl, hle, hcs, hb1⟩; obtain ⟨d0, d1, d2, d3⟩ := hcs)
  have hga : w.heap.size + 2 ≤ g := by simpa using hle
  have P0 : Part w w1 g (.int .u8 0) (.int .u8 0) (.int .u8 0) (.int .u8 0) p0 p1 p2 p3 := ⟨(by simpa using (new4 (w.alloc _) _ _ _ _ _).below hb1), ((new4 w _ _ _ _ _).alloc _).below hb1, ⟨d0, d1, d2, d3⟩, bnext (bal (bnew w _) _) hb1⟩
  clear hle hs hb1 hfa d1 d2 d3
  refine wp_loop_rounds 5 ?_
  rw [rounds_succ]
  go_wp2_with (go_at_call 16; refine (y0 _ (hF.below P0.2.2.2)).mono ?_; rintro e u0 ⟨rfl, hb0⟩; have Q0 := P0.below hb0; clear d0 hb0 P0; obtain ⟨⟨k0, k1, k2, k3, f0, f1, f2, f3, hg⟩, ⟨l0, l1, l2, l3, g0, g1, g2, g3, hl⟩, -, hB0⟩ := id Q0)
  have P1 := Q0.set0 hga (.int .u8 m0)
  clear k0 k1 k2 k3 f0 f1 f2 f3 hg l0 l1 l2 l3 g0 g1 g2 g3 hl hB0 Q0
  have d1 := P1.2.2.1.2.1
  rw [rounds_succ]
  go_wp2_with (go_at_call 16; refine (y1 _ (hF.below P1.2.2.2)).mono ?_; rintro e u1 ⟨rfl, hb1⟩; have Q1 := P1.below hb1; clear d1 hb1 P1; obtain ⟨⟨k0, k1, k2, k3, f0, f1, f2, f3, hg⟩, ⟨l0, l1, l2, l3, g0, g1, g2, g3, hl⟩, -, hB1⟩ := id Q1)
  have P2 := Q1.set1 hga (.int .u8 m1)
  clear k0 k1 k2 k3 f0 f1 f2 f3 hg l0 l1 l2 l3 g0 g1 g2 g3 hl hB1 Q1
  have d2 := P2.2.2.1.2.2.1
  rw [rounds_succ]
  go_wp2_with (go_at_call 16; refine (y2 _ (hF.below P2.2.2.2)).mono ?_; rintro e u2 ⟨rfl, hb2⟩; have Q2 := P2.below hb2; clear d2 hb2 P2; obtain ⟨⟨k0, k1, k2, k3, f0, f1, f2, f3, hg⟩, ⟨l0, l1, l2, l3, g0, g1, g2, g3, hl⟩, -, hB2⟩ := id Q2)
  have P3 := Q2.set2 hga (.int .u8 m2)
  clear k0 k1 k2 k3 f0 f1 f2 f3 hg l0 l1 l2 l3 g0 g1 g2 g3 hl hB2 Q2
  have d3 := P3.2.2.1.2.2.2
  rw [rounds_succ]
  go_wp2_with (go_at_call 16; refine (y3 _ (hF.below P3.2.2.2)).mono ?_; rintro e u3 ⟨rfl, hb3⟩; have Q3 := P3.below hb3; clear d3 hb3 P3; obtain ⟨⟨k0, k1, k2, k3, f0, f1, f2, f3, hg⟩, ⟨l0, l1, l2, l3, g0, g1, g2, g3, hl⟩, -, hB3⟩ := id Q3)
  try simp only [Exit.inBlock, Exit.then]
  exact bodyPost_ret (v := .tuple #[.agg #[.int .u8 0, .int .u8 0, .int .u8 0, .int .u8 0], .int .i64 41]) (by simp [results, Tryd.results10, go_sem, l0, l1, l2, l3]) rfl ⟨rfl, ((((hB3.setCell (Nat.le_refl _) _).setCell (Nat.le_refl _) _).setCell (Nat.le_refl _) _).setCell (Nat.le_refl _) _)⟩
set_option maxRecDepth 100000 in
theorem parse_good (s : ByteArray) (w : World) (hF : Fact w) (M : Nat) (p0 p1 p2 p3 : ByteArray)
    (hs : ∀ w, Fact w → Calls Tryd.prog 15 #[.string s, .string ⟨#[46]⟩, .int .i64 5] w fun e w' => ∃ g, e = .returned (.slice (some ⟨g, 0, none⟩) 4 M) ∧ w.heap.size ≤ g ∧ (w'.cell? ⟨g, 0, none⟩ = some (.string p0) ∧ w'.cell? ⟨g, 1, none⟩ = some (.string p1) ∧ w'.cell? ⟨g, 2, none⟩ = some (.string p2) ∧ w'.cell? ⟨g, 3, none⟩ = some (.string p3)) ∧ Below w.heap.size w w') (m0 : Int) (t0 : 0 ≤ m0) (r0 : m0 < 256)
    (y0 : ∀ w, Fact w → Calls Tryd.prog 16 #[.string p0, .int .i64 255] w fun e w' => e = .returned (.tuple #[.int .i64 m0, .bool true]) ∧ Below w.heap.size w w') (m1 : Int) (t1 : 0 ≤ m1) (r1 : m1 < 256)
    (y1 : ∀ w, Fact w → Calls Tryd.prog 16 #[.string p1, .int .i64 255] w fun e w' => e = .returned (.tuple #[.int .i64 m1, .bool true]) ∧ Below w.heap.size w w') (m2 : Int) (t2 : 0 ≤ m2) (r2 : m2 < 256)
    (y2 : ∀ w, Fact w → Calls Tryd.prog 16 #[.string p2, .int .i64 255] w fun e w' => e = .returned (.tuple #[.int .i64 m2, .bool true]) ∧ Below w.heap.size w w') (m3 : Int) (t3 : 0 ≤ m3) (r3 : m3 < 256)
    (y3 : ∀ w, Fact w → Calls Tryd.prog 16 #[.string p3, .int .i64 255] w fun e w' => e = .returned (.tuple #[.int .i64 m3, .bool true]) ∧ Below w.heap.size w w') :
    Calls Tryd.prog 10 #[.string s] w fun e w' => e = .returned (.tuple #[.agg #[.int .u8 m0, .int .u8 m1, .int .u8 m2, .int .u8 m3], .int .i64 0]) ∧ Below w.heap.size w w' := by
  have hfa := hF.below (bal (bnew w (.cells #[.int .u8 0, .int .u8 0, .int .u8 0, .int .u8 0] 23)) (.cells #[.int .u8 0, .int .u8 0, .int .u8 0, .int .u8 0] 23))
  go_enter Tryd.func10, Tryd.ntmps10
  go_wp2_with (go_at_call 15; refine (hs _ hfa).mono ?_; rintro e w1 ⟨g, rfl, hle, hcs, hb1⟩; obtain ⟨d0, d1, d2, d3⟩ := hcs)
  have hga : w.heap.size + 2 ≤ g := by simpa using hle
  have P0 : Part w w1 g (.int .u8 0) (.int .u8 0) (.int .u8 0) (.int .u8 0) p0 p1 p2 p3 := ⟨(by simpa using (new4 (w.alloc _) _ _ _ _ _).below hb1), ((new4 w _ _ _ _ _).alloc _).below hb1, ⟨d0, d1, d2, d3⟩, bnext (bal (bnew w _) _) hb1⟩
  clear hle hs hb1 hfa d1 d2 d3
  refine wp_loop_rounds 5 ?_
  rw [rounds_succ]
  go_wp2_with (go_at_call 16; refine (y0 _ (hF.below P0.2.2.2)).mono ?_; rintro e u0 ⟨rfl, hb0⟩; have Q0 := P0.below hb0; clear d0 hb0 P0; obtain ⟨⟨k0, k1, k2, k3, f0, f1, f2, f3, hg⟩, ⟨l0, l1, l2, l3, g0, g1, g2, g3, hl⟩, -, hB0⟩ := id Q0)
  have P1 := Q0.set0 hga (.int .u8 m0)
  clear k0 k1 k2 k3 f0 f1 f2 f3 hg l0 l1 l2 l3 g0 g1 g2 g3 hl hB0 Q0
  have d1 := P1.2.2.1.2.1
  rw [rounds_succ]
  go_wp2_with (go_at_call 16; refine (y1 _ (hF.below P1.2.2.2)).mono ?_; rintro e u1 ⟨rfl, hb1⟩; have Q1 := P1.below hb1; clear d1 hb1 P1; obtain ⟨⟨k0, k1, k2, k3, f0, f1, f2, f3, hg⟩, ⟨l0, l1, l2, l3, g0, g1, g2, g3, hl⟩, -, hB1⟩ := id Q1)
  have P2 := Q1.set1 hga (.int .u8 m1)
  clear k0 k1 k2 k3 f0 f1 f2 f3 hg l0 l1 l2 l3 g0 g1 g2 g3 hl hB1 Q1
  have d2 := P2.2.2.1.2.2.1
  rw [rounds_succ]
  go_wp2_with (go_at_call 16; refine (y2 _ (hF.below P2.2.2.2)).mono ?_; rintro e u2 ⟨rfl, hb2⟩; have Q2 := P2.below hb2; clear d2 hb2 P2; obtain ⟨⟨k0, k1, k2, k3, f0, f1, f2, f3, hg⟩, ⟨l0, l1, l2, l3, g0, g1, g2, g3, hl⟩, -, hB2⟩ := id Q2)
  have P3 := Q2.set2 hga (.int .u8 m2)
  clear k0 k1 k2 k3 f0 f1 f2 f3 hg l0 l1 l2 l3 g0 g1 g2 g3 hl hB2 Q2
  have d3 := P3.2.2.1.2.2.2
  rw [rounds_succ]
  go_wp2_with (go_at_call 16; refine (y3 _ (hF.below P3.2.2.2)).mono ?_; rintro e u3 ⟨rfl, hb3⟩; have Q3 := P3.below hb3; clear d3 hb3 P3; obtain ⟨⟨k0, k1, k2, k3, f0, f1, f2, f3, hg⟩, ⟨l0, l1, l2, l3, g0, g1, g2, g3, hl⟩, -, hB3⟩ := id Q3)
  have P4 := Q3.set3 hga (.int .u8 m3)
  clear k0 k1 k2 k3 f0 f1 f2 f3 hg l0 l1 l2 l3 g0 g1 g2 g3 hl hB3 Q3
  rw [rounds_succ]
  obtain ⟨⟨k0, k1, k2, k3, f0, f1, f2, f3, hg⟩, ⟨l0, l1, l2, l3, g0, g1, g2, g3, hl⟩, -, hB⟩ := id P4
  generalize u3.setCell ⟨w.heap.size + 1, 3, none⟩ (.int .u8 m3) = X at *
  go_wp2_with fail
  exact bodyPost_ret (v := .tuple #[.agg #[.int .u8 m0, .int .u8 m1, .int .u8 m2, .int .u8 m3], .int .i64 0]) (by simp [results, Tryd.results10, go_sem, l0, l1, l2, l3]) rfl ⟨rfl, ((((hB.setCell (Nat.le_refl _) _).setCell (Nat.le_refl _) _).setCell (Nat.le_refl _) _).setCell (Nat.le_refl _) _)⟩
end Go.Proofs.YtpekkmnomfeglabDoor.Addr
