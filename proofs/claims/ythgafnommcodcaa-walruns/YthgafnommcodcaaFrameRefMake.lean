/-
  The document's Make, as it is typed out. (Written by gen_frmake.py.)
-/
import Derived.Test.YthgafnommcodcaaFrameRef
import Derived.Test.YthgafnommcodcaaCrcRefSeal
import Derived.Test.YthgafnommcodcaaFrameEq
namespace Go.Proofs.Ythgafnommcodcaa.Frame
open Go.RowKit Go.Proofs.Ythgafnommcodcaa.Mem Go.Proofs.Ythgafnommcodcaa.Sect Go.Proofs.Ythgafnommcodcaa.Crc
set_option maxRecDepth 100000

/-- A row of bytes of one's own. -/
def Mine (B : Nat) (W : World) (v : Value) (zs : List Int) : Prop := W.ownsRow B 5 1 v zs.length (zs.map (Value.int .u8))
theorem Mine.below {B : Nat} {W W' : World} {v : Value} {zs : List Int} (h : Mine B W v zs) (hb : Below W.heap.size W W') : Mine B W' v zs := own_below h hb
theorem Mine.lower {B B' : Nat} {W : World} {v : Value} {zs : List Int} (h : Mine B W v zs) (hB : B' ≤ B) : Mine B' W v zs := by
  refine ⟨h.1, ?_⟩
  rcases h.2 with h | ⟨g, cap, cur, h1, h2, h3⟩
  · exact .inl h
  · exact .inr ⟨g, cap, cur, h1, by omega, h3⟩
/-- An append of what is read to what is one's own, as one operation. -/
theorem wp_append_mine {o : Oper} {a : Act} {w : World} {K : Act → World → Prop} {Q : Exit → Act → World → Prop} (s x : Operand)
    (ho : o.op = .call { callee := .builtin .append, args := #[s, x], argTypes := #[48, 48] }) (B : Nat) (v : Value) (ys : List Int) (hs : a.eval s = v) (hown : Mine B w v ys)
    (p : Option Addr) (m c : Nat) (zs : List Int) (hx : a.eval x = .slice p m c) (hm : zs.length = m) (hr : Reads .u8 w p c zs) (h63 : ys.length + m ≤ 100000) (hbase : B ≤ w.heap.size)
    (h : ∀ v' w', Mine B w' v' (ys ++ zs) → w.grownBy w' v.ownBlock → K (a.put o.dst v') w') : o.wp Try.prog a w K Q := by
  obtain ⟨i0, hi, hz0, hz1, hz2⟩ := info_parts info_byte
  obtain ⟨v', w', hrun, h1, h2⟩ := run_append_reads (P := Try.prog) w 48 o.type B 5 i0 .u8 Try.underlying48 hi hz0 hz1 hz2 v _ _ hown p m c zs hm hr h63 hbase
  unfold Oper.wp
  simp [execOp, ho, resolve, invoke, builtin, hs, hx, hrun, Result.andThen]
  refine h v' w' ?_ h2
  unfold Mine
  rw [List.length_append, hm, List.map_append]
  exact h1
theorem reads_row {k : IntKind} {w w' : World} {p : Option Addr} {cap : Nat} {zs : List Int} {row : Option Nat} (h : Reads k w p cap zs) (hg : w.grownBy w' row) (hne : ∀ a, p = some a → row ≠ some a.block) : Reads k w' p cap zs := by
  obtain ⟨h1, h2, h3, h4⟩ := h
  refine ⟨h1, h2, h3, fun hz => ?_⟩
  obtain ⟨b, o, e, hlt, hc⟩ := h4 hz
  exact ⟨b, o, e, Nat.lt_of_lt_of_le hlt hg.size, fun i hi => (World.cell?_of_block (w := w) (hg.block b hlt (fun q => hne _ e q.symm))).trans (hc i hi)⟩
theorem reads_lt {k : IntKind} {w : World} {p : Option Addr} {cap : Nat} {zs : List Int} (h : Reads k w p cap zs) (h0 : 0 < zs.length) : ∀ a, p = some a → a.block < w.heap.size := by
  intro a ha
  obtain ⟨b, o, e, hlt, _⟩ := h.2.2.2 h0
  rw [e] at ha
  obtain rfl := Option.some.inj ha
  exact hlt
theorem ref_Make_no (s e : Nat) (q : Option Addr) (n c : Nat) (p : List Int) (l : p.length = n) (hr : right s p = false) (w : World) (r : Reads .u8 w q c p) :
    Calls Try.prog 47 #[.agg #[.int .u64 (s : Int), .int .u32 (e : Int), .slice q n c]] w fun x w' => x = .returned (.tuple #[.slice none 0 0, .int .i64 81]) ∧ Below w.heap.size w w' := by
  subst l
  have hcap := r.1
  have hmax := r.2.1
  unfold maxLen at hmax
  by_cases h7 : p.length ≤ 700
  · have h0 : s = 0 := by simp [right, h7] at hr; exact hr
    subst h0
    have d1 : decide ((700 : Int) < (p.length : Int)) = false := by simp; omega
    go_enter Try.func47, Try.ntmps47
    go_wp2
    all_goals (go_ret2; exact ⟨rfl, bnew _ _⟩)
  · have d1 : decide ((700 : Int) < (p.length : Int)) = true := by simp; omega
    go_enter Try.func47, Try.ntmps47
    go_wp2
    go_ret2
    exact ⟨rfl, bnew _ _⟩
/-- A sector of zeros behind a row of one's own. -/
theorem at_append_zero {o : Oper} {a : Act} {w : World} {ops : Array Oper} {rest : List Oper} {Q : Exit → Act → World → Prop} (hgd : o.guard = none) (x y : Operand)
    (ho : o.op = .call { callee := .builtin .append, args := #[x, y], argTypes := #[36, 36] }) (B : Nat) (v : Value) (n : Nat) (xs : List Value) (hs : a.eval x = v) (hown : w.ownsRow B 70 64 v n xs)
    (g : Nat) (hx : a.eval y = .slice (some ⟨g, 0, none⟩) 1 1) (hg : Blk w g 70 (sc zero)) (hn : n ≤ 1000) (hB : B ≤ w.heap.size)
    (h : ∀ v' w', w'.ownsRow B 70 64 v' (n + 1) (xs ++ sc zero) → w.grownBy w' v.ownBlock → wpList Try.prog ops Q rest (a.put o.dst v') w') : wpList Try.prog ops Q (o :: rest) a w := by
  obtain ⟨i, h1, h2, h3, h4⟩ := info_sec
  refine wpList_append_own w hgd x y 36 ho B 70 i (secv zero) 64 64 Try.underlying36 h1 h2 h3 h4 (by rfl) (by omega) v n xs hs hown ⟨g, 0, none⟩ 1 1 (sc zero) hx (by rw [sc_len]) (fun j u hu => ?_) (sc_one zero) (by unfold maxLen; omega) (by omega) hB fun v' w' h5 h6 _ => h v' w' h5 h6
  rw [Addr.add_lit, Nat.zero_add, hg.cell]
  exact hu
/-- So many bytes have come. -/
def part (b : List Int) (t k : Nat) : List Int := b.take k ++ List.replicate (64 * t - k) 0
theorem part_zero (b : List Int) (t k : Nat) (h : k = 64 * t) : bs (part b t k) ++ sc zero = bs (part b (t + 1) k) := by
  unfold part bs
  show _ ++ List.map (Value.int .u8) (List.replicate 64 0) = _
  rw [← List.map_append, List.append_assoc, List.replicate_append_replicate]
  congr 3
  omega
theorem part_next (b : List Int) (t k : Nat) (c : Int) (hk : k < b.length) (hc : b.getD k 0 = c) (h : k < 64 * t) : (bs (part b t k)).set k (.int .u8 c) = bs (part b t (k + 1)) := by
  unfold part bs
  have hl : (b.take k).length = k := by rw [List.length_take]; omega
  obtain ⟨z, hz⟩ : ∃ z, 64 * t - k = z + 1 := ⟨64 * t - k - 1, by omega⟩
  have hz2 : 64 * t - (k + 1) = z := by omega
  rw [hz, hz2, List.replicate_succ, List.map_append, List.set_append_right _ _ (by simp; omega), List.length_map, hl, Nat.sub_self, List.map_cons, List.set_cons_zero, List.take_succ_eq_append_getElem hk]
  rw [List.getD_eq_getElem?_getD, List.getElem?_eq_getElem hk] at hc
  simp at hc
  simp [hc]
set_option maxHeartbeats 4000000 in
theorem ref_Make_ok (s e : Nat) (q : Option Addr) (n c : Nat) (p : List Int) (l : p.length = n) (hr : right s p = true) (hs : s < 18446744073709551616) (he : e < 4294967296) (hp : ∀ c ∈ p, Byte c) (w : World) (r : Reads .u8 w q c p) :
    Calls Try.prog 47 #[.agg #[.int .u64 (s : Int), .int .u32 (e : Int), .slice q n c]] w fun x w' => ∃ q' c', x = .returned (.tuple #[.slice q' (made s e p).length c', .int .i64 0]) ∧ RK sc w' q' c' (made s e p) ∧ Below w.heap.size w w' := by
  have h7 : n ≤ 700 := by simp [right] at hr; omega
  have h0 : 0 < s := by simp [right] at hr; omega
  have hs0 : ((s : Int) == 0) = false := by simp; omega
  have d7 : decide ((700 : Int) < (n : Int)) = false := by simp; omega
  have Y1 := Blk.new w #[.int .u64 (s : Int), .int .u32 (e : Int), .slice q n c] 75
  have hB1 := bnew w (.cells #[.int .u64 (s : Int), .int .u32 (e : Int), .slice q n c] 75)
  have hwn : IntKind.u64.wrap (n : Int) = (n : Int) := by rw [IntKind.wrap_u64]; omega
  have hwe : IntKind.u64.wrap (e : Int) = (e : Int) := by rw [IntKind.wrap_u64]; omega
  have hN1 : ∀ W, Calls Try.prog 66 #[.int .u64 (n : Int), .int .i64 2] W fun x w' => ∃ v, x = .returned v ∧ Mine W.heap.size w' v (be 2 n) ∧ Below W.heap.size W w' := fun W => ref_bytes 2 n (by omega) (by omega) W
  have hN2 : ∀ W, Calls Try.prog 66 #[.int .u64 (s : Int), .int .i64 8] W fun x w' => ∃ v, x = .returned v ∧ Mine W.heap.size w' v (be 8 s) ∧ Below W.heap.size W w' := fun W => ref_bytes 8 s (by omega) hs W
  have hN3 : ∀ W, Calls Try.prog 66 #[.int .u64 (e : Int), .int .i64 4] W fun x w' => ∃ v, x = .returned v ∧ Mine W.heap.size w' v (be 4 e) ∧ Below W.heap.size W w' := fun W => ref_bytes 4 e (by omega) (by omega) W
  have hl2 := be_len 2 n
  have hl8 := be_len 8 s
  have hl4 := be_len 4 e
  have HPL : Hid (be 2 n ++ be 8 s ++ be 4 e ++ p = plain s e p) := by unfold Hid plain; rw [l]; simp
  generalize be 2 n = b2 at *
  generalize be 8 s = b8 at *
  generalize be 4 e = b4 at *
  go_enter Try.func47, Try.ntmps47
  go_wp2
  generalize hWW : w.alloc (.cells #[.int .u64 (s : Int), .int .u32 (e : Int), .slice q n c] 75) = W1 at *
  clear hWW
  refine Inv.region_inv (fun L a w' => ∃ (v4 : Value) (q7 : Option Addr) (c7 : Nat) (v8 : Value) (q12 : Option Addr) (c12 : Nat) (v13 : Value), a = { tmps := #[(.agg #[.int .u64 (s : Int), .int .u32 (e : Int), .slice q n c]), (.pointer (some ⟨w.heap.size, 0, none⟩)), (.slice none 0 0), (.int .i64 0), (if L 14 = true then v13 else undef), undef, undef, undef, (.pointer (some ⟨w.heap.size, 2, none⟩)), (.slice q n c), (.int .i64 (n : Int)), (.bool false), (.bool false), (.pointer (some ⟨w.heap.size, 0, none⟩)), (.int .u64 (s : Int)), (.bool false), (.bool false), (if L 0 = true then (.pointer (some ⟨w.heap.size, 2, none⟩)) else undef), (if L 1 = true then (.slice q n c) else undef), (if L 2 = true then (.int .i64 (n : Int)) else undef), (if L 3 = true then (.int .u64 (n : Int)) else undef), (if L 4 = true then v4 else undef), (if L 5 = true then (.pointer (some ⟨w.heap.size, 0, none⟩)) else undef), (if L 6 = true then (.int .u64 (s : Int)) else undef), (if L 7 = true then (.slice q7 8 c7) else undef), (if L 8 = true then v8 else undef), (if L 9 = true then (.pointer (some ⟨w.heap.size, 1, none⟩)) else undef), (if L 10 = true then (.int .u32 (e : Int)) else undef), (if L 11 = true then (.int .u64 (e : Int)) else undef), (if L 12 = true then (.slice q12 4 c12) else undef), (if L 13 = true then v13 else undef), undef, undef, undef, undef, undef, undef, undef, undef, undef, undef, undef, undef, undef, undef, undef, undef, undef, undef, undef, undef, undef, undef, undef, undef, undef, undef, undef, undef, undef, undef, undef], defers := [] } ∧ ((Below w.heap.size w w' ∧ Blk w' w.heap.size 75 [.int .u64 (s : Int), .int .u32 (e : Int), .slice q n c]) ∧ (L 4 = true → L 8 = false → Mine (w.heap.size + 1) w' v4 b2) ∧ (L 7 = true → L 8 = false → Reads .u8 w' q7 c7 b8) ∧ (L 8 = true → L 13 = false → Mine (w.heap.size + 1) w' v8 (b2 ++ b8)) ∧ (L 12 = true → L 13 = false → Reads .u8 w' q12 c12 b4) ∧ (L 13 = true → Mine (w.heap.size + 1) w' v13 (b2 ++ b8 ++ b4)) ∧ (L 4 = true → L 12 = true → L 8 = false → ∀ a, q12 = some a → v4.ownBlock ≠ some a.block) ∧ (L 8 = true → L 4 = true ∧ L 7 = true) ∧ (L 13 = true → L 8 = true ∧ L 12 = true) ∧ (L 14 = true → L 13 = true))) (by kernel_rfl) (by kernel_rfl) ?h0 ?step ?done
  case h0 => exact ⟨undef, none, 0, undef, none, 0, undef, by simp, ⟨⟨hB1.drew, Y1.drew⟩, by simp, by simp, by simp, by simp, by simp, by simp, by simp, by simp, by simp⟩⟩
  case step =>
    refine Inv.Steps.cons rfl ?_ ?_
    · intro L a w' hI hL hd K hK
      obtain ⟨v4, q7, c7, v8, q12, c12, v13, rfl, hI⟩ := hI
      clear hd
      rw [if_pos (by rfl)]
      go_simp
      exact hK.out _ _ ⟨v4, q7, c7, v8, q12, c12, v13, by simp, by simpa using hI⟩
    refine Inv.Steps.cons rfl ?_ ?_
    · intro L a w' hI hL hd K hK
      obtain ⟨v4, q7, c7, v8, q12, c12, v13, rfl, hI⟩ := hI
      simp [Region.binds] at hd
      simp only [hd, if_true]
      rw [if_pos (by rfl)]
      have hc := hI.1.2.cell
      go_simp
      exact hK.out _ _ ⟨v4, q7, c7, v8, q12, c12, v13, by simp [hd], by simpa using hI⟩
    refine Inv.Steps.cons rfl ?_ ?_
    · intro L a w' hI hL hd K hK
      obtain ⟨v4, q7, c7, v8, q12, c12, v13, rfl, hI⟩ := hI
      simp [Region.binds] at hd
      simp only [hd, if_true]
      rw [if_pos (by rfl)]
      go_simp
      exact hK.out _ _ ⟨v4, q7, c7, v8, q12, c12, v13, by simp [hd], by simpa using hI⟩
    refine Inv.Steps.cons rfl ?_ ?_
    · intro L a w' hI hL hd K hK
      obtain ⟨v4, q7, c7, v8, q12, c12, v13, rfl, hI⟩ := hI
      simp [Region.binds] at hd
      simp only [hd, if_true]
      rw [if_pos (by rfl)]
      go_simp
      exact hK.out _ _ ⟨v4, q7, c7, v8, q12, c12, v13, by simp [hd], by simpa using hI⟩
    refine Inv.Steps.cons rfl ?_ ?_
    · intro L a w' hI hL hd K hK
      obtain ⟨v4, q7, c7, v8, q12, c12, v13, rfl, hI⟩ := hI
      simp [Region.binds] at hd
      simp only [hd, if_true]
      rw [if_pos (by rfl)]
      go_simp
      obtain ⟨⟨k0, kY⟩, k1, k2, k3, k4, k5, k6, k7, k8, k9⟩ := hI
      have h8 : L 8 = false := Bool.eq_false_iff.2 fun h => by have := (k7 h).1; simp [hL] at this
      have h13 : L 13 = false := Bool.eq_false_iff.2 fun h => by have := (k8 h).1; simp [h8] at this
      have h14 : L 14 = false := Bool.eq_false_iff.2 fun h => by have := k9 h; simp [h13] at this
      have hlw := kY.lt
      refine (hN1 _).mono ?_
      rintro e6 w6 ⟨v6, rfl, ho6, hb6⟩
      exact hK.out _ _ ⟨v6, q7, c7, v8, q12, c12, v13, by simp [hd], ⟨bnext k0 hb6, kY.below hb6⟩, fun _ _ => ho6.lower (by omega), fun h k => (k2 (by simpa using h) (by simpa using k)).below hb6, fun h k => (k3 (by simpa using h) (by simpa using k)).below hb6, fun h k => (k4 (by simpa using h) (by simpa using k)).below hb6, fun h => (k5 (by simpa using h)).below hb6, fun _ h12 _ a ha hv => (by have h1 := (ho6.lt _ hv).1; have h2 := reads_lt (k4 (by simpa using h12) h13) (by omega) a ha; omega), by simp [h8], by simp [h13], by simp [h14]⟩
    refine Inv.Steps.cons rfl ?_ ?_
    · intro L a w' hI hL hd K hK
      obtain ⟨v4, q7, c7, v8, q12, c12, v13, rfl, hI⟩ := hI
      clear hd
      rw [if_pos (by rfl)]
      go_simp
      exact hK.out _ _ ⟨v4, q7, c7, v8, q12, c12, v13, by simp, by simpa using hI⟩
    refine Inv.Steps.cons rfl ?_ ?_
    · intro L a w' hI hL hd K hK
      obtain ⟨v4, q7, c7, v8, q12, c12, v13, rfl, hI⟩ := hI
      simp [Region.binds] at hd
      simp only [hd, if_true]
      rw [if_pos (by rfl)]
      have hc := hI.1.2.cell
      go_simp
      exact hK.out _ _ ⟨v4, q7, c7, v8, q12, c12, v13, by simp [hd], by simpa using hI⟩
    refine Inv.Steps.cons rfl ?_ ?_
    · intro L a w' hI hL hd K hK
      obtain ⟨v4, q7, c7, v8, q12, c12, v13, rfl, hI⟩ := hI
      simp [Region.binds] at hd
      simp only [hd, if_true]
      rw [if_pos (by rfl)]
      go_simp
      obtain ⟨⟨k0, kY⟩, k1, k2, k3, k4, k5, k6, k7, k8, k9⟩ := hI
      have h8 : L 8 = false := Bool.eq_false_iff.2 fun h => by have := (k7 h).2; simp [hL] at this
      have h13 : L 13 = false := Bool.eq_false_iff.2 fun h => by have := (k8 h).1; simp [h8] at this
      have h14 : L 14 = false := Bool.eq_false_iff.2 fun h => by have := k9 h; simp [h13] at this
      refine (hN2 _).mono ?_
      rintro e6 w6 ⟨v6, rfl, ho6, hb6⟩
      obtain ⟨q6, c6, rfl, hr6, hn6⟩ := own_reads_new ho6
      rw [hl8]
      exact hK.out _ _ ⟨v4, q6, c6, v8, q12, c12, v13, by simp [hd], ⟨bnext k0 hb6, kY.below hb6⟩, fun h k => (k1 (by simpa using h) (by simpa using k)).below hb6, fun _ _ => hr6, fun h k => (k3 (by simpa using h) (by simpa using k)).below hb6, fun h k => (k4 (by simpa using h) (by simpa using k)).below hb6, fun h => (k5 (by simpa using h)).below hb6, fun h k m => k6 (by simpa using h) (by simpa using k) (by simpa using m), by simp [h8], by simp [h13], by simp [h14]⟩
    refine Inv.Steps.cons rfl ?_ ?_
    · intro L a w' hI hL hd K hK
      obtain ⟨v4, q7, c7, v8, q12, c12, v13, rfl, hI⟩ := hI
      simp [Region.binds] at hd
      simp only [hd, if_true]
      rw [if_pos (by rfl)]
      obtain ⟨⟨k0, kY⟩, k1, k2, k3, k4, k5, k6, k7, k8, k9⟩ := hI
      have h13 : L 13 = false := Bool.eq_false_iff.2 fun h => by have := (k8 h).1; simp [hL] at this
      have h14 : L 14 = false := Bool.eq_false_iff.2 fun h => by have := k9 h; simp [h13] at this
      have hm6 := k1 (by simp [hd]) hL
      have hlw := kY.lt
      refine wp_append_mine _ _ (by rfl) _ v4 b2 (by rfl) hm6 q7 8 c7 b8 (by rfl) hl8 (k2 (by simp [hd]) hL) (by omega) (by omega) ?_
      intro v6 w6 ho6 hg6
      exact hK.out _ _ ⟨v4, q7, c7, v6, q12, c12, v13, by simp [hd, Act.put], ⟨k0.grown hg6 k0.size (fun j hj => by have := (hm6.lt j hj).1; omega), kY.kept hg6 (fun e6 => by have := (hm6.lt _ e6.symm).1; omega)⟩, by simp, by simp, fun _ _ => ho6, fun h k => reads_row (k4 (by simpa using h) h13) hg6 (k6 (by simp [hd]) (by simpa using h) hL), by simp [h13], by simp, by simp [hd], by simp [h13], by simp [h14]⟩
    refine Inv.Steps.cons rfl ?_ ?_
    · intro L a w' hI hL hd K hK
      obtain ⟨v4, q7, c7, v8, q12, c12, v13, rfl, hI⟩ := hI
      clear hd
      rw [if_pos (by rfl)]
      go_simp
      exact hK.out _ _ ⟨v4, q7, c7, v8, q12, c12, v13, by simp, by simpa using hI⟩
    refine Inv.Steps.cons rfl ?_ ?_
    · intro L a w' hI hL hd K hK
      obtain ⟨v4, q7, c7, v8, q12, c12, v13, rfl, hI⟩ := hI
      simp [Region.binds] at hd
      simp only [hd, if_true]
      rw [if_pos (by rfl)]
      have hc := hI.1.2.cell
      go_simp
      exact hK.out _ _ ⟨v4, q7, c7, v8, q12, c12, v13, by simp [hd], by simpa using hI⟩
    refine Inv.Steps.cons rfl ?_ ?_
    · intro L a w' hI hL hd K hK
      obtain ⟨v4, q7, c7, v8, q12, c12, v13, rfl, hI⟩ := hI
      simp [Region.binds] at hd
      simp only [hd, if_true]
      rw [if_pos (by rfl)]
      go_simp
      exact hK.out _ _ ⟨v4, q7, c7, v8, q12, c12, v13, by simp [hd], by simpa using hI⟩
    refine Inv.Steps.cons rfl ?_ ?_
    · intro L a w' hI hL hd K hK
      obtain ⟨v4, q7, c7, v8, q12, c12, v13, rfl, hI⟩ := hI
      simp [Region.binds] at hd
      simp only [hd, if_true]
      rw [if_pos (by rfl)]
      go_simp
      obtain ⟨⟨k0, kY⟩, k1, k2, k3, k4, k5, k6, k7, k8, k9⟩ := hI
      have h47 := k7 (by simp [hd])
      have h13 : L 13 = false := Bool.eq_false_iff.2 fun h => by have := (k8 h).2; simp [hL] at this
      have h14 : L 14 = false := Bool.eq_false_iff.2 fun h => by have := k9 h; simp [h13] at this
      refine (hN3 _).mono ?_
      rintro e6 w6 ⟨v6, rfl, ho6, hb6⟩
      obtain ⟨q6, c6, rfl, hr6, hn6⟩ := own_reads_new ho6
      rw [hl4]
      exact hK.out _ _ ⟨v4, q7, c7, v8, q6, c6, v13, by simp [hd, h47.1, h47.2], ⟨bnext k0 hb6, kY.below hb6⟩, fun h k => (k1 (by simpa using h) (by simpa using k)).below hb6, fun h k => (k2 (by simpa using h) (by simpa using k)).below hb6, fun h k => (k3 (by simpa using h) (by simpa using k)).below hb6, fun _ _ => hr6, fun h => (k5 (by simpa using h)).below hb6, fun h _ m a ha hv => (by have h1 := ((k1 (by simpa using h) (by simpa using m)).lt _ hv).2; have h2 := hn6 a ha; omega), by simpa using k7, by simp [h13], by simp [h14]⟩
    refine Inv.Steps.cons rfl ?_ ?_
    · intro L a w' hI hL hd K hK
      obtain ⟨v4, q7, c7, v8, q12, c12, v13, rfl, hI⟩ := hI
      simp [Region.binds] at hd
      simp only [hd, if_true]
      rw [if_pos (by rfl)]
      obtain ⟨⟨k0, kY⟩, k1, k2, k3, k4, k5, k6, k7, k8, k9⟩ := hI
      have h47 := k7 (by simp [hd])
      have h14 : L 14 = false := Bool.eq_false_iff.2 fun h => by have := k9 h; simp [hL] at this
      have hm6 := k3 (by simp [hd]) hL
      have hlw := kY.lt
      refine wp_append_mine _ _ (by rfl) _ v8 (b2 ++ b8) (by rfl) hm6 q12 4 c12 b4 (by rfl) hl4 (k4 (by simp [hd]) hL) (by rw [List.length_append]; omega) (by omega) ?_
      intro v6 w6 ho6 hg6
      exact hK.out _ _ ⟨v4, q7, c7, v8, q12, c12, v6, by simp [hd, h14, h47.1, h47.2, Act.put], ⟨k0.grown hg6 k0.size (fun j hj => by have := (hm6.lt j hj).1; omega), kY.kept hg6 (fun e6 => by have := (hm6.lt _ e6.symm).1; omega)⟩, by simp [hd], by simp [hd], by simp, by simp, fun _ => ho6, by simp [hd], by simpa using k7, by simp [hd], by simp [h14]⟩
    refine Inv.Steps.cons rfl ?_ ?_
    · intro L a w' hI hL hd K hK
      obtain ⟨v4, q7, c7, v8, q12, c12, v13, rfl, hI⟩ := hI
      simp [Region.binds] at hd
      simp only [hd, if_true]
      rw [if_pos (by rfl)]
      go_simp
      obtain ⟨⟨k0, kY⟩, k1, k2, k3, k4, k5, k6, k7, k8, k9⟩ := hI
      exact hK.out _ _ ⟨v4, q7, c7, v8, q12, c12, v13, by simp [hd], ⟨k0, kY⟩, by simpa using k1, by simpa using k2, by simpa using k3, by simpa using k4, by simpa using k5, by simpa using k6, by simpa using k7, by simpa using k8, by simp [hd]⟩
    exact Inv.Steps.nil (by decide)
  case done =>
    intro L a w' hI hall
    obtain ⟨v4, q7, c7, v8, q12, c12, v13, rfl, hI⟩ := hI
    simp only [hall, if_true] at hI ⊢
    obtain ⟨⟨k0, kY⟩, -, -, -, -, k5, -⟩ := hI
    replace k5 := k5 trivial
    obtain ⟨i0, hi, hz0, hz1, hz2⟩ := info_parts info_byte
    have kc := kY.cell
    have rp := r.below k0
    have hX : (b2 ++ b8 ++ b4).length = 14 := by simp [hl2, hl8, hl4]
    unfold Mine at k5
    obtain ⟨X, hXX⟩ : ∃ X, b2 ++ b8 ++ b4 = X := ⟨_, rfl⟩
    rw [hXX] at k5 hX HPL
    rw [hX] at k5
    clear hXX
    have hlw := kY.lt
    have hLP : (plain s e p).length = n + 14 := by rw [plain_len, l]
    have hpb := plain_bytes (s := s) (e := e) hp
    have hrb := r.2.1
    clear hN1 hN2 hN3 Y1 hB1
    go_wp2_with (at_builtin; refine wpList_append_reads _ rfl _ _ 48 rfl (w.heap.size + 1) 5 i0 (.int .u8 0) 1 .u8 Try.underlying48 hi hz0 hz1 hz2 rfl v13 14 (X.map (Value.int .u8)) rfl k5 q n c p rfl l rp ?c3 ?c4 ?c5 ?_)
    case c3 => unfold maxLen; omega
    case c4 => omega
    case c5 => omega
    intro v3 w3 hown3 hg3
    rw [← List.map_append, HPL.out, show 14 + n = (plain s e p).length by omega] at hown3
    have hB3 : Below w.heap.size w w3 := k0.grown hg3 k0.size (fun j hj => by have := (k5.lt j hj).1; omega)
    obtain ⟨g3, c3, rfl, r3⟩ := own_reads_pos hown3 (by omega)
    rw [hLP]
    have hSl := ref_Seal (some ⟨g3, 0, none⟩) (n + 14) c3 (plain s e p) hLP hpb (by omega) w3 r3
    clear hown3 hg3 k5 HPL hX rp
    go_wp2_with (go_at_call 67; refine hSl.mono ?_; rintro x w4 ⟨q4, d4, rfl, r4, hB4⟩)
    have hB4' := bnext hB3 hB4
    have O5 := World.ownsRow_lit (base := w4.heap.size) (e := 70) (size := 64) w4 #[] 0 (Nat.le_refl _) (by decide) rfl
    have hB5 := bnew w4 (.cells #[] 70)
    obtain ⟨b, hb⟩ : ∃ b, all s e p = b := ⟨_, rfl⟩
    have hbl : b.length = n + 18 := by rw [← hb, all_len, l]
    have r4' : Reads .u8 w4 q4 d4 b := by rw [← hb]; exact r4
    have HF : Hid ((made s e p).flatMap sc = bs (part b (size n) b.length)) := by
      unfold Hid
      rw [sc_flat, flat_made hr, hb, part, List.take_of_length_le (Nat.le_refl _), hbl, l]
    have HZ : Hid ((n + 18 + 63) / 64 = size n) := by unfold Hid size; rw [if_pos h7]
    clear hSl hb r4 r3
    go_loopw [5, 39] (fun v i wr => ∃ k : Nat, k ≤ n + 18 ∧ i = .int .i64 k ∧ wr.ownsRow w4.heap.size 70 64 v ((k + 63) / 64) (bs (part b ((k + 63) / 64) k)) ∧ Below w4.heap.size w4 wr) (fun _ i _ => n + 18 - (intOf i).toNat)
    case atStart => exact ⟨0, by omega, rfl, by simpa [part, bs] using O5, hB5⟩
    case round =>
      obtain ⟨k, hk, rfl, hown, hB⟩ := hrel
      by_cases hlt : k < n + 18
      · obtain ⟨bb, oo, rfl, hltb, hcell⟩ := r4'.2.2.2 (by omega)
        obtain ⟨y, hy⟩ : ∃ y, b.getD k 0 = y := ⟨_, rfl⟩
        have hck : ∀ {W : World}, Below w4.heap.size w4 W → W.cell? ⟨bb, oo + k, none⟩ = some (.int .u8 y) := fun hB => (hB.cell (p := ⟨bb, oo + k, none⟩) hltb).trans (by rw [← hy]; exact hcell k (by omega))
        obtain ⟨t, ht⟩ : ∃ t, k / 64 = t := ⟨_, rfl⟩
        obtain ⟨u, hu⟩ : ∃ u, k % 64 = u := ⟨_, rfl⟩
        have hu64 : u < 64 := by omega
        have hku : t * 64 + u = k := by omega
        have hmod : (k : Int) % 64 = (u : Int) := by omega
        have HT : Hid ((k + 1 + 63) / 64 = t + 1) := by unfold Hid; omega
        have HP : Hid (∀ {W : World} {g cap : Nat}, W.ownsRow w4.heap.size 70 64 (.slice (some ⟨g, 0, none⟩) (t + 1) cap) (t + 1) (bs (part b (t + 1) k)) → (W.setCell ⟨g, t * 64 + u, none⟩ (.int .u8 y)).ownsRow w4.heap.size 70 64 (.slice (some ⟨g, 0, none⟩) (t + 1) cap) (t + 1) (bs (part b (t + 1) (k + 1))) ∧ W.grownBy (W.setCell ⟨g, t * 64 + u, none⟩ (.int .u8 y)) (some g) ∧ (∃ z, W.cell? ⟨g, t * 64 + u, none⟩ = some (.int .u8 z)) ∧ W.frozen? ⟨g, t * 64 + u, none⟩ = false) := by
          intro W g cap ho
          have h1 := ho.stored (t * 64 + u) (.int .u8 y)
          have hpl : (part b (t + 1) k).length = 64 * (t + 1) := by unfold part; rw [List.length_append, List.length_take, List.length_replicate]; omega
          rw [hku] at h1 ⊢
          rw [part_next b (t + 1) k y (by omega) hy (by omega)] at h1
          refine ⟨h1.1, h1.2, ⟨_, (ho.cellAt k (by omega)).trans (bs_at (by omega))⟩, ho.frozenAt k⟩
        have hkc := hck hB
        have hlt' : (k : Int) < (n : Int) + 14 + 4 := by omega
        have hkn : (k : Int) < ((n + 14 + 4 : Nat) : Int) := by omega
        have hui : (u : Int) < 64 := by omega
        by_cases hz : u = 0
        · subst hz
          have hc1 : (k + 63) / 64 = t := by omega
          rw [hc1] at hown
          clear ht hu hcell hy
          go_wp2_with (first
            | (refine at_build0 (by rfl) (by rfl) ?_)
            | ((refine at_lits _ _ (by rfl) (by rfl) (by rfl) ?_); intro W1 hW1 hBn1 hz1'; have hown1 := own_below hown hBn1; have hB1' : Below w4.heap.size w4 W1 := bnext hB hBn1)
            | (at_builtin; (refine at_append_zero rfl _ _ rfl w4.heap.size u5 t (bs (part b t k)) rfl hown1 wr.heap.size rfl hW1 (by omega) hB1'.size ?_); intro v7 w7 hown7 hg7; rw [part_zero b t k (by omega)] at hown7; obtain ⟨g7, cp7, rfl⟩ := ownsRow_succ hown7; obtain ⟨hs7, hgr7, ⟨z7, hz7⟩, hf7⟩ := HP.out hown7; rw [Nat.add_zero] at hs7 hgr7 hz7 hf7; have hB7 : Below w4.heap.size w4 w7 := hB1'.grown hg7 hB1'.size (fun j hj => (hown1.lt j hj).1); have hg7l := (hown7.lt g7 rfl).1))
          go_roundw
          case rel => exact ⟨k + 1, by omega, by go_num, by rw [HT.out]; exact hs7, hB7.grown hgr7 hB7.size (fun j hj => by simp at hj; omega)⟩
          case measure => simp [intOf]; omega
        · have hc1 : (k + 63) / 64 = t + 1 := by omega
          rw [hc1] at hown
          have hu0 : ((u : Int) == 0) = false := by simp; omega
          obtain ⟨g7, cp7, rfl⟩ := ownsRow_succ hown
          obtain ⟨hs7, hgr7, ⟨z7, hz7⟩, hf7⟩ := HP.out hown
          have hg7l := (hown.lt g7 rfl).1
          have htb : t ≤ 100 := by omega
          clear ht hu hcell hy hz hku hc1 HP
          go_wp2
          go_roundw
          case rel => exact ⟨k + 1, by omega, by go_num, by rw [HT.out]; exact hs7, hB.grown hgr7 hB.size (fun j hj => by simp at hj; omega)⟩
          case measure => simp [intOf]; omega
      · obtain rfl : k = n + 18 := by omega
        rw [HZ.out, ← hbl, ← HF.out] at hown
        obtain ⟨q9, c9, rfl, r9, _⟩ := own_rk sc_len (by omega) hown
        clear hown
        go_wp2
        go_ret2
        exact ⟨q9, c9, rfl, r9, bnext hB4' hB⟩
/-- Whatever the record. -/
theorem ref_Make (s e : Nat) (q : Option Addr) (n c : Nat) (p : List Int) (l : p.length = n) (hs : s < 18446744073709551616) (he : e < 4294967296) (hp : ∀ c ∈ p, Byte c) (w : World) (r : Reads .u8 w q c p) :
    Calls Try.prog 47 #[.agg #[.int .u64 (s : Int), .int .u32 (e : Int), .slice q n c]] w fun x w' => ∃ q' c', x = .returned (.tuple #[.slice q' (made s e p).length c', .int .i64 (fault s p)]) ∧ RK sc w' q' c' (made s e p) ∧ Below w.heap.size w w' := by
  cases hr : right s p with
  | false =>
    refine (ref_Make_no s e q n c p l hr w r).mono ?_
    rintro x w' ⟨rfl, hB⟩
    have e1 : made s e p = [] := by simp [made, hr]
    have e2 : fault s p = 81 := by simp [fault, hr]
    rw [e1, e2]
    exact ⟨none, 0, rfl, RK.nil _ _, hB⟩
  | true =>
    refine (ref_Make_ok s e q n c p l hr hs he hp w r).mono ?_
    rintro x w' ⟨q', c', rfl, hrk, hB⟩
    have e2 : fault s p = 0 := by simp [fault, hr]
    rw [e2]
    exact ⟨_, _, rfl, hrk, hB⟩
end Go.Proofs.Ythgafnommcodcaa.Frame
