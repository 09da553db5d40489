/-
  frame.put and frame.number: a number laid into bytes, the highest first, and read of them.
-/
import Derived.Test.YthgafnommcodcaaFrameIter
import Derived.Laws.BitsAllLaws
namespace Go.Proofs.Ythgafnommcodcaa.Frame
open Go.RowKit Go.Shelf Go.Proofs.Ythgafnommcodcaa.Mem
attribute [local go_sem] Oper.semAt_some

/-- Bytes, as memory holds them. -/
def bs (zs : List Int) : List Value := zs.map (Value.int .u8)
theorem bs_len (zs : List Int) : (bs zs).length = zs.length := by simp [bs]
theorem bs_at {zs : List Int} {i : Nat} (h : i < zs.length) : (bs zs)[i]? = some (.int .u8 (zs.getD i 0)) := by simp [bs, h]
/-- One step of put. -/
def putS (off : Nat) {n : Nat} (s : List Int × Nat) (x : Pl n) : List Int × Nat := (s.1.set (off + x.1.1) ((s.2 % 256 : Nat) : Int), s.2 / 256)
def putF (off : Nat) {n : Nat} (zs : List Int) (v : Nat) (ys : List (Pl n)) : List Int × Nat := ys.foldl (putS off) (zs, v)
theorem putF_snoc (off : Nat) {n : Nat} (zs : List Int) (v : Nat) (ys : List (Pl n)) (x : Pl n) : putF off zs v (ys ++ [x]) = putS off (putF off zs v ys) x := by simp [putF]
theorem putF_len (off : Nat) {n : Nat} (zs : List Int) (v : Nat) (ys : List (Pl n)) : (putF off zs v ys).1.length = zs.length := by
  unfold putF
  induction ys generalizing zs v with
  | nil => rfl
  | cons x r ih => rw [List.foldl_cons, ih]; simp [putS]
theorem putF_small (off : Nat) {n : Nat} (zs : List Int) (v : Nat) (ys : List (Pl n)) : (putF off zs v ys).2 ≤ v := by
  unfold putF
  induction ys generalizing zs v with
  | nil => exact Nat.le_refl _
  | cons x r ih => rw [List.foldl_cons]; exact Nat.le_trans (ih _ _) (by simp only; omega)
theorem putF_bytes (off : Nat) {n : Nat} (zs : List Int) (v : Nat) (ys : List (Pl n)) (h : ∀ c ∈ zs, Byte c) : ∀ c ∈ (putF off zs v ys).1, Byte c := by
  unfold putF
  induction ys generalizing zs v with
  | nil => exact h
  | cons x r ih =>
    rw [List.foldl_cons]
    refine ih _ _ fun c hc => ?_
    rcases List.mem_or_eq_of_mem_set hc with hc | rfl
    · exact h c hc
    · constructor <;> omega
theorem putF_done (off : Nat) {n : Nat} (V : Nat → Int → Prop) (zs : List Int) (v : Nat) (hl : off + n ≤ zs.length) : ∀ (k : Nat) (ys : List (Pl n)), k ≤ n → Down n V k ys → putF off zs v ys = (zs.take (off + n - k) ++ be k v ++ zs.drop (off + n), v / 256 ^ k)
  | 0, ys, _, hd => by
    obtain rfl : ys = [] := List.eq_nil_of_length_eq_zero hd.1
    simp [putF, be]
  | k + 1, ys, hk, hd => by
    obtain ⟨h1, h2⟩ := hd
    obtain ⟨ys', x, rfl⟩ : ∃ ys' x, ys = ys' ++ [x] := ⟨ys.dropLast, ys.getLast (by intro q; simp [q] at h1), (List.dropLast_concat_getLast _).symm⟩
    have h1' : ys'.length = k := by simpa using h1
    have hd' : Down n V k ys' := ⟨h1', fun i y hy => h2 i y (by rw [List.getElem?_append_left (List.getElem?_eq_some_iff.1 hy).1]; exact hy)⟩
    have hx := (h2 k x (by rw [List.getElem?_append_right (by omega), h1']; simp)).1
    rw [putF_snoc, putF_done off V zs v hl k ys' (by omega) hd', putS, be_front]
    have ex : off + x.1.1 = off + n - (k + 1) := by omega
    have e1 : zs.take (off + n - k) = zs.take (off + n - (k + 1)) ++ [zs.getD (off + n - (k + 1)) 0] := by
      rw [show off + n - k = off + n - (k + 1) + 1 by omega, List.take_succ_eq_append_getElem (by omega)]
      simp [show off + n - (k + 1) < zs.length by omega]
    have hlt : (zs.take (off + n - (k + 1))).length = off + n - (k + 1) := by simp; omega
    simp only [Prod.mk.injEq]
    refine ⟨?_, by rw [Nat.div_div_eq_div_mul, Nat.pow_succ]⟩
    rw [ex, e1, List.append_assoc, List.append_assoc, List.set_append_right _ _ (by omega), hlt]
    simp
theorem grown_from {w W W' : World} {g : Nat} {row : Option Nat} (h : w.grownBy W (some g)) (hg : W.grownBy W' row) (hr : ∀ r, row = some r → w.heap.size ≤ r) : w.grownBy W' (some g) :=
  ⟨hg.os.trans h.os, hg.tape.trans h.tape, hg.output.trans h.output, Nat.le_trans h.size hg.size, fun k hk hne => (hg.block k (Nat.lt_of_lt_of_le hk h.size) (fun e => by have := hr k e.symm; omega)).trans (h.block k hk hne)⟩
theorem blk_turn {W W' : World} {g : Nat} {t : TypeId} {cs : List Value} {row : Option Nat} (h : Blk W g t cs) (hg : W.grownBy W' row) (hr : ∀ r, row = some r → ∃ o : Obj, W.heap[r]? = some o ∧ o.isCells = false) : Blk W' g t cs :=
  h.kept hg (fun e => by
    obtain ⟨o, h1, h2⟩ := hr g e.symm
    unfold Blk at h
    rw [h] at h1
    obtain rfl := Option.some.inj h1
    cases h2)
set_option maxRecDepth 100000 in
set_option maxHeartbeats 2000000 in
theorem frame_put (g off n cap v : Nat) (zs : List Int) (hz : ∀ c ∈ zs, Byte c) (hl : off + n ≤ zs.length) (hn : n ≤ 8) (hv : v < 18446744073709551616) (w : World) (hb : Blk w g 5 (bs zs)) :
    Calls Try.prog 76 #[.slice (some ⟨g, off, none⟩) n cap, .int .u64 (v : Int)] w fun e w' => e = .returned (.tuple #[]) ∧ Blk w' g 5 (bs (zs.take off ++ be n v ++ zs.drop (off + n))) ∧ w.grownBy w' (some g) := by
  refine (callsIn_wide (n := 3)).1 ?_
  refine callsIn_of_wp_marks Try.func76 rfl trivial ?_ rfl
  simp only [Try.ntmps76, List.size_toArray, List.length_cons, List.length_nil, Nat.reduceAdd, Nat.reduceSub, Array.replicate_succ, Array.replicate_zero, List.push_toArray, List.append_toArray, List.nil_append, List.cons_append]
  gi_wp2_with (first | (refine ⟨trivial, ?_⟩; gi_at_call 79; refine (backward_in Fence.wide _ trivial rfl _ _ _ _).mono ?_; rintro e w' ⟨rfl, rfl⟩) | (gi_at_call 79; refine (backward_in Fence.wide _ trivial rfl _ _ _ _).mono ?_; rintro e w' ⟨rfl, rfl⟩))
  have hg := hb.lt
  have hg0 : g ≠ w.heap.size := by omega
  have hg1 : g ≠ w.heap.size + 1 := by omega
  have hg2 : g ≠ w.heap.size + 1 + 1 := by omega
  obtain ⟨W0, hW0⟩ : ∃ W0, ((w.alloc (.cells #[.slice (some ⟨g, off, none⟩) n cap] 48)).alloc (.cells #[.int .u64 (v : Int)] 29)).alloc (.cells #[.slice (some ⟨g, off, none⟩) n cap] 48) = W0 := ⟨_, rfl⟩
  rw [hW0]
  have hsz : W0.heap.size = w.heap.size + 1 + 1 + 1 := by rw [← hW0]; simp
  have b1 : Blk W0 w.heap.size 48 [.slice (some ⟨g, off, none⟩) n cap] := by rw [← hW0]; exact ((Blk.new w _ _).alloc _).alloc _
  have b2 : Blk W0 (w.heap.size + 1) 29 [.int .u64 (v : Int)] := by rw [← hW0]; exact (Blk.new1 _ (by simp) _ _).alloc _
  have b3 : Blk W0 (w.heap.size + 1 + 1) 48 [.slice (some ⟨g, off, none⟩) n cap] := by rw [← hW0]; exact Blk.new1 _ (by simp) _ _
  have b4 : Blk W0 g 5 (bs zs) := by rw [← hW0]; exact ((hb.alloc _).alloc _).alloc _
  have hgr0 : w.grownBy W0 (some g) := by
    rw [← hW0]
    exact ((World.grownBy_alloc w _ _).trans (World.grownBy_alloc _ _ _)).trans (World.grownBy_alloc _ _ _)
  clear hW0
  have hC : Ck (w.heap.size + 1 + 1) g off n cap (fun _ _ => True) W0 := ⟨b3.cell 0, fun j hj => ⟨_, (b4.cell (off + j)).trans (bs_at (by omega)), trivial, hz _ (by rw [List.getD_eq_getElem?_getD, List.getElem?_eq_getElem (by omega)]; simp)⟩⟩
  refine wpIn_rangeFunc_ownG rfl (by omega) (gf := 84) (lb := #[.pointer (some ⟨w.heap.size + 1 + 1, 0, none⟩)]) rfl trivial (enters_of Try.func84 (by kernel_rfl) rfl)
    (back_stops Fence.wide _ trivial rfl (by omega) (w.heap.size + 1 + 1) g off n cap (by omega) (fun _ _ => True) W0 hC) (fun h k q => k (h q)) (fun W l o o' _ h ho _ hc => hc.kept (grownBy_putObj' W l o') (fun r e => by cases e; exact ⟨_, h, ho⟩)) (Below.refl _ _) (fun _ => rfl)
    (fun pre W => Blk W w.heap.size 48 [.slice (some ⟨g, off, none⟩) n cap] ∧ Blk W (w.heap.size + 1) 29 [.int .u64 (((putF off zs v pre).2 : Nat) : Int)] ∧ Blk W g 5 (bs (putF off zs v pre).1) ∧ w.grownBy W (some g))
    (fun _ _ _ => False)
    (fun s A B row hs hgr hr => ⟨blk_turn hs.1 hgr (fun r e => (hr r e).2), blk_turn hs.2.1 hgr (fun r e => (hr r e).2), blk_turn hs.2.2.1 hgr (fun r e => (hr r e).2), grown_from hs.2.2.2 hgr (fun r e => by have := (hr r e).1; omega)⟩)
    (fun _ _ _ _ _ hs _ _ => hs)
    ⟨b1, b2, b4, hgr0⟩
    (fun x => { tmps := #[.slice (some ⟨g, off, none⟩) n cap, .int .u64 (v : Int), .pointer (some ⟨w.heap.size, 0, none⟩), .pointer (some ⟨w.heap.size + 1, 0, none⟩), .int .i64 (x.1.1 : Int), .slice (some ⟨g, off, none⟩) n cap, .func (.func 84) #[] #[.pointer (some ⟨w.heap.size + 1 + 1, 0, none⟩)], .int .i64 (x.1.1 : Int), .int .u8 x.1.2, undef, undef, undef, undef, undef, undef, undef], defers := [] }) ?assign ?body ?done ?stop
  case assign =>
    intro l x W K hK
    gi_wp2
    exact hK
  case body =>
    rintro l pre ⟨⟨i, z⟩, hi, hzz⟩ W ⟨k1, k2, k3, k4⟩ _
    simp only at hi
    have hlen := putF_len off zs v pre
    have hsm := putF_small off zs v pre
    have hsn := putF_snoc off zs v pre ⟨(i, z), hi, hzz⟩
    obtain ⟨X, hX⟩ : ∃ X, putF off zs v pre = X := ⟨_, rfl⟩
    rw [hX] at k2 k3 hlen hsm hsn
    obtain ⟨us, y⟩ := X
    simp only at k2 k3 hlen hsm
    simp only [putS] at hsn
    have HSN : Hid (putF off zs v (pre ++ [⟨(i, z), hi, hzz⟩]) = (us.set (off + i) ((y % 256 : Nat) : Int), y / 256)) := hsn
    clear hsn hX
    have c1 := k1.cell 0
    have c2 := k2.cell 0
    have c3 := (k3.cell (off + i)).trans (bs_at (by omega))
    have f2 := k2.frozen 0
    have f3 := k3.frozen (off + i)
    simp only [List.getElem?_cons_zero] at c1 c2
    have hi1 : (i : Int) < n := by omega
    have hy0 : (0 : Int) ≤ y := by omega
    have hy1 : (y : Int) < 18446744073709551616 := by omega
    have hsk : w.heap.size + 1 ≠ g := by omega
    have e3 : (bs us).set (off + i) (.int .u8 ((y % 256 : Nat) : Int)) = bs (us.set (off + i) ((y % 256 : Nat) : Int)) := by simp [bs]
    have HB : Hid (∀ (B : Nat) (a : Act) (q r : Value), q = .int .u8 ((y % 256 : Nat) : Int) → r = .int .u64 ((y / 256 : Nat) : Int) → ownPostG B (fun W W' => Ck (w.heap.size + 1 + 1) g off n cap (fun _ _ => True) W → Ck (w.heap.size + 1 + 1) g off n cap (fun _ _ => True) W')
      (fun pre W => Blk W w.heap.size 48 [.slice (some ⟨g, off, none⟩) n cap] ∧ Blk W (w.heap.size + 1) 29 [.int .u64 (((putF off zs v pre).2 : Nat) : Int)] ∧ Blk W g 5 (bs (putF off zs v pre).1) ∧ w.grownBy W (some g))
      (fun _ _ _ => False) (pre ++ [⟨(i, z), hi, hzz⟩]) W .normal a ((W.setCell ⟨g, off + i, none⟩ q).setCell ⟨w.heap.size + 1, 0, none⟩ r)) := by
      rintro B a q r rfl rfl
      refine ⟨((KeepsOthers.setCell _ _ _).trans (KeepsOthers.setCell _ _ _)).from _, fun hq => ⟨?_, fun j hj => ?_⟩, ?_⟩
      · have := hq.1
        rw [World.cell?_setCell_other _ _ _ _ (by simp), World.cell?_setCell_other _ _ _ _ (by simp)]
        exact this
      · obtain ⟨z', hz1, hz2⟩ := hq.2 j hj
        rw [World.cell?_setCell_other _ _ _ _ (by simp)]
        by_cases hji : j = i
        · subst hji
          exact ⟨_, World.cell?_setCell_same' _ _ _ (by rw [c3]; rfl), trivial, by constructor <;> omega⟩
        · rw [World.cell?_setCell_other _ _ _ _ (by simp only [ne_eq, Addr.mk.injEq, and_true, true_and]; omega)]
          exact ⟨z', hz1, hz2⟩
      · dsimp only
        rw [HSN.out]
        refine ⟨(k1.other (by simpa using hg0.symm) _).other (by simp) _, (k2.other (by simpa using hsk) _).put 0 _, ?_, ?_⟩
        · have := (k3.put (off + i) (.int .u8 ((y % 256 : Nat) : Int))).other (p := ⟨w.heap.size + 1, 0, none⟩) (by simpa using hg1) (.int .u64 ((y / 256 : Nat) : Int))
          rw [e3] at this
          exact this
        · exact grown_from (k4.trans (only_put _ _ _)) (only_put _ _ _) (fun r e => by cases e; simp)
    clear HSN e3
    gi_wp2
    refine HB.out _ _ _ _ ?_ ?_
    · congr 1
    · congr 1
  case done =>
    rintro D ys W hD hd ⟨k1, k2, k3, k4⟩ hK
    gi_wp2
    rw [putF_done off _ zs v hl n ys (Nat.le_refl _) hd, show off + n - n = off by omega] at k3
    refine ⟨by simp, .inl ⟨_, _, rfl, run_takeDeferred hK, ?_⟩⟩
    exact ⟨_, results_none rfl _ _ _, rfl, blk_turn k3 (grownBy_putObj' _ D (.deferred none)) (fun r e => by cases e; exact ⟨_, hK, rfl⟩), grown_from k4 (grownBy_putObj' _ D (.deferred none)) (fun r e => by cases e; omega)⟩
  case stop =>
    rintro D c pre W _ _ h _
    exact h.elim
/-- What number has so far. -/
def accR {n : Nat} (ys : List (Pl n)) : Nat := num ((ys.map (·.1.2)).reverse)
theorem accR_snoc {n : Nat} (ys : List (Pl n)) (x : Pl n) : accR (ys ++ [x]) = x.1.2.toNat * 256 ^ ys.length + accR ys := by
  simp [accR, num_cons]
theorem accR_lt {n : Nat} (ys : List (Pl n)) : accR ys < 256 ^ ys.length := by
  have := num_lt ((ys.map (·.1.2)).reverse) (fun c hc => by
    simp only [List.mem_reverse, List.mem_map] at hc
    obtain ⟨x, _, rfl⟩ := hc
    exact x.2.2)
  simpa [accR] using this
theorem accR_done {n : Nat} (zs : List Int) (hl : zs.length = n) (ys : List (Pl n)) (hd : Down n (fun j z => z = zs.getD j 0) n ys) : accR ys = num zs := by
  unfold accR
  congr 1
  refine List.ext_getElem? fun i => ?_
  obtain ⟨h1, h2⟩ := hd
  rcases Nat.lt_or_ge i n with hi | hi
  · have hx := h2 (n - 1 - i) ys[n - 1 - i] (List.getElem?_eq_getElem (by omega))
    rw [List.getElem?_reverse (by simpa [h1] using hi)]
    simp only [List.length_map, h1, List.getElem?_map, List.getElem?_eq_getElem (show n - 1 - i < ys.length by omega), Option.map_some]
    rw [hx.2, show ys[n - 1 - i].1.1 = i by omega]
    simp [show i < zs.length by omega]
  · rw [List.getElem?_eq_none (by simp; omega), List.getElem?_eq_none (by omega)]
theorem or_byte (A m : Nat) (z : Int) (hA : A < 256 ^ m) (h0 : 0 ≤ z) (h1 : z < 256) (hm : m < 8) : bits .or .u64 (A : Int) (IntKind.u64.wrap (z * 2 ^ (8 * m))) = ((z.toNat * 256 ^ m + A : Nat) : Int) := by
  obtain ⟨y, rfl⟩ := Int.eq_ofNat_of_zero_le h0
  have hp : (256 : Nat) ^ m = 2 ^ (8 * m) := by rw [Nat.pow_mul]
  have hpm : 2 ^ (8 * m) ≤ 2 ^ 56 := Nat.pow_le_pow_right (by omega) (by omega)
  have hb : y * 2 ^ (8 * m) ≤ 255 * 2 ^ 56 := Nat.mul_le_mul (by omega) hpm
  have hw : IntKind.u64.wrap ((y : Int) * 2 ^ (8 * m)) = ((y * 2 ^ (8 * m) : Nat) : Int) := by
    rw [IntKind.wrap_u64]
    have : (y : Int) * 2 ^ (8 * m) = ((y * 2 ^ (8 * m) : Nat) : Int) := by simp
    rw [this]
    omega
  rw [hw, hp]
  rw [hp] at hA
  have hor : A ||| y * 2 ^ (8 * m) = y * 2 ^ (8 * m) + A := by
    rw [Nat.or_comm, Nat.mul_comm]
    exact (Nat.two_pow_add_eq_or_of_lt hA y).symm
  rw [u64_or_nat _ _ (by omega) (by omega), hor]
  simp
set_option maxRecDepth 100000 in
set_option maxHeartbeats 2000000 in
theorem frame_number (b off n cap : Nat) (zs : List Int) (hl : zs.length = n) (hz : ∀ c ∈ zs, Byte c) (hn : n ≤ 8) (w : World) (hr : ∀ j, j < n → w.cell? ⟨b, off + j, none⟩ = some (.int .u8 (zs.getD j 0))) :
    Calls Try.prog 72 #[.slice (some ⟨b, off, none⟩) n cap] w fun e w' => e = .returned (.int .u64 (num zs : Nat)) ∧ Below w.heap.size w w' := by
  refine (callsIn_wide (n := 3)).1 ?_
  refine callsIn_of_wp_marks Try.func72 rfl trivial ?_ rfl
  simp only [Try.ntmps72, List.size_toArray, List.length_cons, List.length_nil, Nat.reduceAdd, Nat.reduceSub, Array.replicate_succ, Array.replicate_zero, List.push_toArray, List.append_toArray, List.nil_append, List.cons_append]
  gi_wp2_with (first | (refine ⟨trivial, ?_⟩; gi_at_call 79; refine (backward_in Fence.wide _ trivial rfl _ _ _ _).mono ?_; rintro e w' ⟨rfl, rfl⟩) | (gi_at_call 79; refine (backward_in Fence.wide _ trivial rfl _ _ _ _).mono ?_; rintro e w' ⟨rfl, rfl⟩))
  obtain ⟨W0, hW0⟩ : ∃ W0, ((w.alloc (.cells #[.int .u64 0] 29)).alloc (.cells #[.int .i64 0] 3)).alloc (.cells #[.slice (some ⟨b, off, none⟩) n cap] 48) = W0 := ⟨_, rfl⟩
  rw [hW0]
  have hsz : W0.heap.size = w.heap.size + 1 + 1 + 1 := by rw [← hW0]; simp
  have b1 : Blk W0 w.heap.size 29 [.int .u64 0] := by rw [← hW0]; exact ((Blk.new w _ _).alloc _).alloc _
  have b2 : Blk W0 (w.heap.size + 1) 3 [.int .i64 0] := by rw [← hW0]; exact (Blk.new1 _ (by simp) _ _).alloc _
  have b3 : Blk W0 (w.heap.size + 1 + 1) 48 [.slice (some ⟨b, off, none⟩) n cap] := by rw [← hW0]; exact Blk.new1 _ (by simp) _ _
  have hB0 : Below w.heap.size w W0 := by rw [← hW0]; exact bnext (bnext (bnew _ _) (bnew _ _)) (bnew _ _)
  clear hW0
  have hlb : 0 < n → b < w.heap.size := fun h => World.block_lt_of_cell? w _ (hr 0 h)
  have hC : Ck (w.heap.size + 1 + 1) b off n cap (fun j z => z = zs.getD j 0) W0 := ⟨b3.cell 0, fun j hj => ⟨_, (hB0.cell (p := ⟨b, off + j, none⟩) (hlb (by omega))).trans (hr j hj), rfl, hz _ (by rw [List.getD_eq_getElem?_getD, List.getElem?_eq_getElem (by omega)]; simp)⟩⟩
  refine wpIn_rangeFunc_ownG rfl (by omega) (gf := 84) (lb := #[.pointer (some ⟨w.heap.size + 1 + 1, 0, none⟩)]) rfl trivial (enters_of Try.func84 (by kernel_rfl) rfl)
    (back_stops Fence.wide _ trivial rfl (by omega) (w.heap.size + 1 + 1) b off n cap (by omega) (fun j z => z = zs.getD j 0) W0 hC) (fun h k q => k (h q)) (fun W l o o' _ h ho _ hc => hc.kept (grownBy_putObj' W l o') (fun r e => by cases e; exact ⟨_, h, ho⟩)) (Below.refl _ _) (fun _ => rfl)
    (fun pre W => Blk W w.heap.size 29 [.int .u64 ((accR pre : Nat) : Int)] ∧ Blk W (w.heap.size + 1) 3 [.int .i64 ((8 * pre.length : Nat) : Int)] ∧ Below w.heap.size w W)
    (fun _ _ _ => False)
    (fun s A B row hs hgr hr => ⟨blk_turn hs.1 hgr (fun r e => (hr r e).2), blk_turn hs.2.1 hgr (fun r e => (hr r e).2), hs.2.2.grown hgr (Nat.le_trans (Nat.le_refl _) hs.2.2.size) (fun r e => by have := (hr r e).1; omega)⟩)
    (fun _ _ _ _ _ hs _ _ => hs)
    ⟨b1, b2, hB0⟩
    (fun x => { tmps := #[.slice (some ⟨b, off, none⟩) n cap, undef, .int .u64 0, .pointer (some ⟨w.heap.size, 0, none⟩), .pointer (some ⟨w.heap.size + 1, 0, none⟩), undef, .int .u8 x.1.2, .slice (some ⟨b, off, none⟩) n cap, .func (.func 84) #[] #[.pointer (some ⟨w.heap.size + 1 + 1, 0, none⟩)], .int .i64 (x.1.1 : Int), .int .u8 x.1.2, undef, undef, undef, undef, undef, undef, undef, undef, undef], defers := [] }) ?assign ?body ?done ?stop
  case assign =>
    intro l x W K hK
    gi_wp2
    exact hK
  case body =>
    rintro l pre ⟨⟨i, z⟩, hi, hzz⟩ W ⟨k1, k2, k4⟩ hlt
    simp only at hi hzz
    obtain ⟨z0, z1⟩ := hzz
    have hal := accR_lt pre
    have hsn := accR_snoc pre ⟨(i, z), hi, z0, z1⟩
    simp only at hsn
    obtain ⟨A, hA⟩ : ∃ A, accR pre = A := ⟨_, rfl⟩
    rw [hA] at k1 hal hsn
    have HSN : Hid (accR (pre ++ [⟨(i, z), hi, z0, z1⟩]) = z.toNat * 256 ^ pre.length + A) := hsn
    clear hsn hA
    obtain ⟨m, hm⟩ : ∃ m, pre.length = m := ⟨_, rfl⟩
    rw [hm] at hal hlt HSN k2
    have c1 := k1.cell 0
    have c2 := k2.cell 0
    have f1 := k1.frozen 0
    have f2 := k2.frozen 0
    simp only [List.getElem?_cons_zero] at c1 c2
    have hzw : IntKind.u64.wrap z = z := by rw [IntKind.wrap_u64]; omega
    have h8 : (0 : Int) ≤ ((8 * m : Nat) : Int) := by omega
    have hmx : Try.prog.follows .mixedOrders = true := by kernel_rfl
    have HB : Hid (∀ (B : Nat) (a : Act) (q r : Value), q = .int .u64 ((z.toNat * 256 ^ m + A : Nat) : Int) → r = .int .i64 ((8 * (m + 1) : Nat) : Int) → ownPostG B (fun W W' => Ck (w.heap.size + 1 + 1) b off n cap (fun j z => z = zs.getD j 0) W → Ck (w.heap.size + 1 + 1) b off n cap (fun j z => z = zs.getD j 0) W')
      (fun pre W => Blk W w.heap.size 29 [.int .u64 ((accR pre : Nat) : Int)] ∧ Blk W (w.heap.size + 1) 3 [.int .i64 ((8 * pre.length : Nat) : Int)] ∧ Below w.heap.size w W)
      (fun _ _ _ => False) (pre ++ [⟨(i, z), hi, z0, z1⟩]) W .normal a ((W.setCell ⟨w.heap.size, 0, none⟩ q).setCell ⟨w.heap.size + 1, 0, none⟩ r).drew) := by
      rintro B a q r rfl rfl
      have hlen : (pre ++ [(⟨(i, z), hi, z0, z1⟩ : Pl n)]).length = m + 1 := by simp [hm]
      have hbl := hlb (by omega)
      refine ⟨(((KeepsOthers.setCell _ _ _).trans (KeepsOthers.setCell _ _ _)).trans (KeepsOthers.drew _)).from _, fun hq => ⟨?_, fun j hj => ?_⟩, ?_⟩
      · show World.cell? ((W.setCell _ _).setCell _ _) _ = _
        rw [World.cell?_setCell_other _ _ _ _ (by simp), World.cell?_setCell_other _ _ _ _ (by simp)]
        exact hq.1
      · obtain ⟨z', hz1, hz2⟩ := hq.2 j hj
        refine ⟨z', ?_, hz2⟩
        show World.cell? ((W.setCell _ _).setCell _ _) _ = _
        rw [World.cell?_setCell_other _ _ _ _ (by simp only [ne_eq, Addr.mk.injEq]; omega), World.cell?_setCell_other _ _ _ _ (by simp only [ne_eq, Addr.mk.injEq]; omega)]
        exact hz1
      · dsimp only
        rw [HSN.out, hlen]
        exact ⟨((k1.put 0 _).other (by simp) _).drew, ((k2.other (by simp) _).put 0 _).drew, ((k4.setCell (p := ⟨w.heap.size, 0, none⟩) (Nat.le_refl _) _).setCell (p := ⟨w.heap.size + 1, 0, none⟩) (by simp) _).drew⟩
    have HO : Hid (bits .or .u64 (A : Int) (IntKind.u64.wrap (z * 2 ^ (8 * m))) = ((z.toNat * 256 ^ m + A : Nat) : Int)) := or_byte A m z hal z0 z1 (by omega)
    clear HSN hm
    gi_wp2
    gi_region_with_o (fail)
    all_goals gi_wp2
    all_goals
      refine HB.out _ _ _ _ ?_ ?_
      · rw [HO.out]
      · congr 1
  case done =>
    rintro D ys W hD hd ⟨k1, k2, k4⟩ hK
    rw [accR_done zs hl ys hd] at k1
    have c1 := k1.cell 0
    simp only [List.getElem?_cons_zero] at c1
    gi_wp2
    refine ⟨by simp, .inl ⟨_, _, rfl, run_takeDeferred hK, ?_⟩⟩
    exact ⟨_, results_tmp rfl _ _ _, rfl, k4.grown (grownBy_putObj' _ D (.deferred none)) k4.size (fun r e => by cases e; omega)⟩
  case stop =>
    rintro D c pre W _ _ h _
    exact h.elim
end Go.Proofs.Ythgafnommcodcaa.Frame
