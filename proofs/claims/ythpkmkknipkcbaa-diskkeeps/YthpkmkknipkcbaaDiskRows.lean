/-
  Slices of bytes, each in a block of its own, that are appended to and cut; a slice of such slices; what may be on a disk behind a crash, in plain lists.
-/
import Derived.Test.YthpkmkknipkcbaaDiskOpen
namespace Go.Proofs.Ythpkmkknipkcbaa.Disk
open Go.RowKit Go.Proofs.Ythpkmkknipkcbaa.Mem
set_option maxRecDepth 100000

/-- These bytes, in block b, and nothing else is known to lie there. -/
def Row8 (w : World) (b : Nat) (v : Value) (M : List Int) : Prop :=
  ∃ o c cs, v = .slice (some ⟨b, o, none⟩) M.length c ∧ Blk w b 5 cs ∧ o + c ≤ cs.length ∧ M.length ≤ c ∧ c ≤ maxLen ∧ ∀ i x, M[i]? = some x → cs[o + i]? = some (.int .u8 x)
theorem Row8.kept {w w' : World} {b : Nat} {v : Value} {M : List Int} (h : Row8 w b v M) (hb : w'.heap[b]? = w.heap[b]?) : Row8 w' b v M := by
  obtain ⟨o, c, cs, h1, h2, h3⟩ := h
  exact ⟨o, c, cs, h1, hb.trans h2, h3⟩
theorem Row8.lt {w : World} {b : Nat} {v : Value} {M : List Int} (h : Row8 w b v M) : b < w.heap.size := by
  obtain ⟨o, c, cs, h1, h2, h3⟩ := h
  exact h2.lt
theorem row8_lit (w : World) (y : Int) : Row8 (w.alloc (.cells #[.int .u8 y] 5)) w.heap.size (.slice (some ⟨w.heap.size, 0, none⟩) 1 1) [y] := by
  refine ⟨0, 1, [.int .u8 y], rfl, Blk.new w #[.int .u8 y] 5, by simp, by simp, by unfold maxLen; omega, fun i x hx => ?_⟩
  match i, hx with
  | 0, hx => simpa using hx
theorem info_u8' : ∃ i, Try.prog.info? 5 = some i ∧ i.zero = some (.int .u8 0) ∧ i.size = 1 ∧ i.bytes = 1 := by
  have h : (Try.prog.info? 5).map (fun i => (i.zero, i.size, i.bytes)) = some (some (.int .u8 0), 1, 1) := by kernel_rfl
  obtain ⟨i, h1, h2⟩ := Option.map_eq_some_iff.1 h
  simp only [Prod.mk.injEq] at h2
  exact ⟨i, h1, h2⟩
theorem row8_append {w : World} {b L : Nat} {v : Value} {M : List Int} {y : Int} (ty : TypeId) (h : Row8 w b v M) (hn : M.length ≤ 1000) (hL : Blk w L 5 [.int .u8 y]) :
    ∃ v' w' b', (Builtin.append_ #[56, 56] ty #[v, .slice (some ⟨L, 0, none⟩) 1 1]).run Try.prog w = .ok v' w' ∧ Row8 w' b' v' (M ++ [y]) ∧ (b' = b ∨ w.heap.size ≤ b') ∧ w.grownBy w' (some b) := by
  obtain ⟨o, c, cs, rfl, h2, h3, h4, h5, h6⟩ := h
  obtain ⟨i, k1, k2, k3, k4⟩ := info_u8'
  have hnews : ∀ j u, [Value.int .u8 y][j]? = some u → w.cell? ((⟨L, 0, none⟩ : Addr).add j) = some u := fun j u hu => by rw [Addr.add_lit, Nat.zero_add, hL.cell]; exact hu
  by_cases hroom : M.length + 1 ≤ c
  · have hf := run_firstCells_some (P := Try.prog) w i.size 1 ⟨L, 0, none⟩ 1 1 [.int .u8 y] (by simp [k3]) hnews
    have hst := run_storeCells_at Try.prog b (o + M.length) 5 [.int .u8 y] 0 cs.toArray w h2 (by simp; omega) (fun v hv => by simp at hv; subst hv; rfl)
    simp only [Nat.add_zero] at hst
    have hb' : Blk (w.setRow b (cs.take (o + M.length) ++ [Value.int .u8 y] ++ cs.drop (o + M.length + 1)).toArray) b 5 (cs.take (o + M.length) ++ [Value.int .u8 y] ++ cs.drop (o + M.length + 1)) := setRow_heap w b _ _ _ _ h2
    refine ⟨.slice (some ⟨b, o, none⟩) (M.length + 1) c, _, b, ?_, ⟨o, c, _, by simp, hb', ?_, by simp; exact hroom, h5, fun j x hx => ?_⟩, .inl rfl, ⟨rfl, rfl, rfl, by simp [World.setRow], fun k _ hk => setRow_other w b k _ (fun e => hk (by simp [e]))⟩⟩
    · simp [Builtin.append_, run_underlying Try.underlying56, sizeOf, typeInfo, k1, k3, Builtin.lenOf, hroom, Addr.add_lit]
      simp [k3] at hf
      simp [hf]
      rw [hst]
      simp
    · simp
      omega
    · have hle : o + M.length ≤ cs.length := by omega
      rcases Nat.lt_or_ge j M.length with hj | hj
      · rw [List.getElem?_append_left hj] at hx
        rw [List.append_assoc, List.getElem?_append_left (by simp; omega), List.getElem?_take, if_pos (by omega)]
        exact h6 j x hx
      · rw [List.getElem?_append_right hj] at hx
        have hj0 : j = M.length := by
          have := (List.getElem?_eq_some_iff.1 hx).1
          simp at this
          omega
        subst hj0
        simp at hx
        subst hx
        rw [List.append_assoc, List.getElem?_append_right (by simp; omega)]
        simp [Nat.min_eq_left hle]
  · have holds : ∀ j u, (M.map (Value.int .u8))[j]? = some u → w.cell? ((⟨b, o, none⟩ : Addr).add j) = some u := fun j u hu => by
      rw [Addr.add_lit, h2.cell]
      rw [List.getElem?_map] at hu
      obtain ⟨x, hx, rfl⟩ := Option.map_eq_some_iff.1 hu
      exact h6 j x hx
    have hr := run_append_grow (P := Try.prog) w 56 ty 5 i _ Try.underlying56 k1 k2 ⟨b, o, none⟩ M.length c (M.map (Value.int .u8)) (by simp [k3]) holds ⟨L, 0, none⟩ 1 1 [.int .u8 y] (by simp [k3]) hnews (by omega) (by omega) (growslice_fits (by omega) (by rw [k4]; omega))
    have hge := grownCap_ge w (M.length + 1) c 5
    have hle := grownCap_le_maxLen w (M.length + 1) c 5 (by unfold maxLen; omega)
    refine ⟨_, _, w.heap.size, hr, ⟨0, grownCap w (M.length + 1) c 5, _, by simp, Blk.new w.drew _ _, ?_, by simp; exact hge, ?_, fun j x hx => ?_⟩, .inr (Nat.le_refl _), ⟨rfl, rfl, rfl, by simp, fun k hk _ => (bnew w.drew _).block k hk⟩⟩
    · simp [size_zeroCells, Value.cells]
      omega
    · exact hle
    · rw [Nat.zero_add]
      simp only [Array.toList_append, List.append_assoc]
      rw [← List.append_assoc, List.getElem?_append_left (by have := (List.getElem?_eq_some_iff.1 hx).1; simpa using this)]
      have e1 : M.map (Value.int .u8) ++ [.int .u8 y] = (M ++ [y]).map (Value.int .u8) := by simp
      show (M.map (Value.int .u8) ++ [.int .u8 y])[j]? = _
      rw [e1, List.getElem?_map, hx]
      rfl
/-- A slice of slices of bytes, of which the first so many are known: what each may be. -/
def My (B : Nat) (S : Nat → Prop) (w : World) (G N : Nat) (Ms : List (List Int)) (vs : List Value) (bs : List Nat) : Prop :=
  Blk w G 56 vs ∧ vs.length = N ∧ Ms.length ≤ N ∧ bs.length = Ms.length ∧ (∀ (i : Nat) (v : Value) (b : Nat) (M : List Int), vs[i]? = some v → bs[i]? = some b → Ms[i]? = some M → Row8 w b v M) ∧
    (∀ (i j b : Nat), bs[i]? = some b → bs[j]? = some b → i = j) ∧ (∀ b ∈ bs, ¬ S b ∧ b ≠ G ∧ B ≤ b ∧ b < w.heap.size) ∧ ¬ S G ∧ B ≤ G
section
variable {B G N : Nat} {S S' : Nat → Prop} {w w' : World} {Ms : List (List Int)} {vs : List Value} {bs : List Nat}
theorem My.fr (h : My B S w G N Ms vs bs) (hF : Fr S w w') (hS : ∀ k, S' k → S k ∨ w.heap.size ≤ k) : My B S' w' G N Ms vs bs := by
  obtain ⟨h1, h2, h3, h4, h5, h6, h7, h8, h9⟩ := h
  refine ⟨hF.blk h1 h8, h2, h3, h4, fun i v b M a1 a2 a3 => ?_, h6, fun b hb => ?_, fun q => ?_, h9⟩
  · have hb := h7 b (List.mem_of_getElem? a2)
    exact (h5 i v b M a1 a2 a3).kept (hF.2.2.2.2 b hb.2.2.2 hb.1)
  · obtain ⟨k1, k2, k3, k4⟩ := h7 b hb
    exact ⟨fun q => by rcases hS b q with q | q; exact k1 q; omega, k2, k3, Nat.lt_of_lt_of_le k4 hF.size⟩
  · rcases hS G q with q | q
    · exact h8 q
    · have := h1.lt; omega
theorem My.below (h : My B S w G N Ms vs bs) (hb : Below w.heap.size w w') : My B S w' G N Ms vs bs := h.fr (Fr.of_below hb S) (fun _ h => .inl h)
/-- One of them is turned: its row, and the cell that holds it. -/
theorem My.turn {w1 : World} {k b b' : Nat} {v' : Value} {M : List Int} (h : My B S w G N Ms vs bs) (hS : ∀ k, S k → k < w.heap.size) (_hB : B ≤ w.heap.size) (hk : k < Ms.length) (hb : bs[k]? = some b) (hrow : Row8 w1 b' v' M) (hb' : b' = b ∨ w.heap.size ≤ b') (hg : w.grownBy w1 (some b)) :
    My B S (w1.setCell ⟨G, k, none⟩ v') G N (Ms.set k M) (vs.set k v') (bs.set k b') ∧ Blk w1 G 56 vs ∧ (∀ B', B' ≤ B → Below B' w (w1.setCell ⟨G, k, none⟩ v')) := by
  obtain ⟨h1, h2, h3, h4, h5, h6, h7, h8, h9⟩ := h
  obtain ⟨q1, q2, q3, q4⟩ := h7 b (List.mem_of_getElem? hb)
  have hG := h1.lt
  have hX : Blk w1 G 56 vs := h1.kept hg (by simpa using fun e => q2 e.symm)
  have hlt' := hrow.lt
  have hsz := hg.size
  have hput := only_put w1 ⟨G, k, none⟩ v'
  have hb'G : b' ≠ G := by rcases hb' with rfl | h; exact q2; omega
  refine ⟨⟨hX.put k v', by simp [h2], by simp [h3], by simp [h4], fun i v c M' a1 a2 a3 => ?_, fun i j c a1 a2 => ?_, fun c hc => ?_, h8, h9⟩, hX, fun B' hB' => ?_⟩
  · by_cases hik : k = i
    · subst hik
      have l1 : k < vs.length := by omega
      have l2 : k < bs.length := by omega
      simp [l1] at a1
      simp [l2] at a2
      simp [hk] at a3
      subst a1 a2 a3
      exact hrow.kept (heap_setCell_other w1 ⟨G, k, none⟩ b' v' (by simpa using hb'G))
    · rw [List.getElem?_set_ne hik] at a1 a2 a3
      obtain ⟨r1, r2, r3, r4⟩ := h7 c (List.mem_of_getElem? a2)
      have hcb : c ≠ b := fun e => hik (h6 k i b hb (e ▸ a2))
      exact ((h5 i v c M' a1 a2 a3).kept (hg.block c r4 (by simpa using hcb))).kept (heap_setCell_other w1 ⟨G, k, none⟩ c v' (by simpa using r2))
  · by_cases hik : k = i
    · by_cases hjk : k = j
      · omega
      · subst hik
        have l2 : k < bs.length := by omega
        rw [List.getElem?_set_ne hjk] at a2
        simp [l2] at a1
        subst a1
        obtain ⟨r1, r2, r3, r4⟩ := h7 b' (List.mem_of_getElem? a2)
        rcases hb' with rfl | h
        · exact h6 k j b' hb a2
        · omega
    · by_cases hjk : k = j
      · subst hjk
        have l2 : k < bs.length := by omega
        rw [List.getElem?_set_ne hik] at a1
        simp [l2] at a2
        subst a2
        obtain ⟨r1, r2, r3, r4⟩ := h7 b' (List.mem_of_getElem? a1)
        rcases hb' with rfl | h
        · exact h6 i k b' a1 hb
        · omega
      · rw [List.getElem?_set_ne hik] at a1
        rw [List.getElem?_set_ne hjk] at a2
        exact h6 i j c a1 a2
  · have hse : (w1.setCell ⟨G, k, none⟩ v').heap.size = w1.heap.size := by simp
    rw [hse]
    rcases List.mem_or_eq_of_mem_set hc with hc | rfl
    · obtain ⟨r1, r2, r3, r4⟩ := h7 c hc
      exact ⟨r1, r2, r3, by omega⟩
    · refine ⟨fun q => ?_, hb'G, ?_, hlt'⟩
      · rcases hb' with rfl | h
        · exact q1 q
        · have := hS _ q; omega
      · rcases hb' with rfl | h
        · exact q3
        · omega
  · refine Below.grown (Below.grown (Below.refl B' w) hg (by omega) (by simp; omega)) hput (by omega) (by simp; omega)
end
/-! ### What may be on a disk -/
/-- What each sector may be: the last of it is what is read. -/
def May (d : Dsk) (Ms : List (List Int)) : Prop :=
  Ms.length = d.st.length ∧ ∀ (i : Nat) (M : List Int), Ms[i]? = some M → M ≠ [] ∧ (∃ c ∈ M, d.st[i]? = some (one c)) ∧ (∀ x ∈ d.pe, x.1 = (i : Int) → ∃ c ∈ M, x.2 = one c) ∧ ∃ c, M.getLast? = some c ∧ (d.read i).1 = one c
theorem settle_last : ∀ (l : List Wr) (n : Nat) (st : List Sec) (i : Nat) (s : Sec), (∀ x ∈ l, 0 ≤ x.1) → st[i]? = some s → (settle (fun _ => true) n l st)[i]? = some (match last l i with | some t => t | none => s)
  | [], _, _, _, _, _, h => h
  | x :: r, n, st, i, s, hx, h => by
    have hi : i < st.length := (List.getElem?_eq_some_iff.1 h).1
    have h0 := hx x (by simp)
    show (settle (fun _ => true) (n + 1) r (st.set x.1.toNat x.2))[i]? = _
    show _ = some (match (match last r i with | some s => some s | none => if x.1 = (i : Int) then some x.2 else none) with | some t => t | none => s)
    by_cases hxi : x.1 = (i : Int)
    · have e : x.1.toNat = i := by omega
      rw [settle_last r (n + 1) _ i x.2 (fun y hy => hx y (by simp [hy])) (by rw [e]; simp [hi])]
      cases last r i <;> simp [hxi]
    · have e : x.1.toNat ≠ i := by omega
      rw [settle_last r (n + 1) _ i s (fun y hy => hx y (by simp [hy])) (by rw [List.getElem?_set_ne e]; exact h)]
      cases last r i <;> simp [hxi]
theorem settle_mem (f : Nat → Bool) : ∀ (l : List Wr) (n : Nat) (st : List Sec) (i : Nat) (s : Sec), (∀ x ∈ l, 0 ≤ x.1) → (settle f n l st)[i]? = some s → st[i]? = some s ∨ ∃ x ∈ l, x.1 = (i : Int) ∧ x.2 = s
  | [], _, _, _, _, _, h => .inl h
  | x :: r, n, st, i, s, hx, h => by
    have h0 := hx x (by simp)
    rcases settle_mem f r (n + 1) _ i s (fun y hy => hx y (by simp [hy])) h with h | ⟨y, hy, h⟩
    · split at h
      · by_cases e : x.1.toNat = i
        · right
          refine ⟨x, by simp, by omega, ?_⟩
          have hi : i < st.length := by have := (List.getElem?_eq_some_iff.1 h).1; simpa using this
          rw [e] at h
          simpa [hi] using h
        · rw [List.getElem?_set_ne e] at h
          exact .inl h
      · exact .inl h
    · exact .inr ⟨y, by simp [hy], h⟩
theorem read_in {d : Dsk} {i : Nat} (hi : i < d.st.length) : (d.read i).1 = (match last d.pe i with | some t => t | none => d.st.getD i zero) ∧ (d.read i).2 = 0 := by
  unfold Dsk.read
  cases last d.pe i with
  | some t => exact ⟨rfl, rfl⟩
  | none =>
    simp only [stab]
    rw [if_pos (by simp [has]; exact hi)]
    simp
theorem may_fresh (n : Nat) : May (fresh n) (List.replicate n [0]) := by
  refine ⟨by simp [fresh], fun i M hM => ?_⟩
  have hi : i < n := by have := (List.getElem?_eq_some_iff.1 hM).1; simpa using this
  simp [hi] at hM
  subst hM
  have hz : zero = one 0 := rfl
  refine ⟨by simp, ⟨0, by simp, by simp [fresh, hi, hz]⟩, by simp [fresh], 0, rfl, ?_⟩
  rw [(read_in (by simp [fresh]; exact hi)).1]
  simp [fresh, last, hi, hz]
theorem may_same {d d' : Dsk} {Ms : List (List Int)} (h : May d Ms) (h1 : d'.st = d.st) (h2 : d'.pe = d.pe) : May d' Ms := by
  refine ⟨by rw [h1]; exact h.1, fun i M hM => ?_⟩
  obtain ⟨k1, k2, k3, c, k4, k5⟩ := h.2 i M hM
  refine ⟨k1, by rw [h1]; exact k2, by rw [h2]; exact k3, c, k4, ?_⟩
  have : d'.read i = d.read i := by unfold Dsk.read; rw [h1, h2]
  rw [this]; exact k5
theorem may_put {d : Dsk} {Ms : List (List Int)} {k : Nat} {M : List Int} {b : Int} (h : May d Ms) (hM : Ms[k]? = some M) (hno : d.no = false) (hk : has d.st.length k = true) : May (d.put k (one b)) (Ms.set k (M ++ [b])) := by
  have e1 : d.put k (one b) = ⟨d.st, d.pe ++ [((k : Int), one b)], d.acted.dn, d.acted.lf⟩ := by unfold Dsk.put; rw [hk, hno, ← acted_st d]; rfl
  have hkl : k < Ms.length := (List.getElem?_eq_some_iff.1 hM).1
  rw [e1]
  refine ⟨by simp [h.1], fun i M' hM' => ?_⟩
  have hil : i < d.st.length := by have := (List.getElem?_eq_some_iff.1 hM').1; simp at this; rw [← h.1]; exact this
  have hrd := (read_in (d := ⟨d.st, d.pe ++ [((k : Int), one b)], d.acted.dn, d.acted.lf⟩) (i := i) hil).1
  simp only [last_app] at hrd
  by_cases hik : k = i
  · subst hik
    simp [hkl] at hM'
    subst hM'
    obtain ⟨k1, ⟨c, k2, k3⟩, k4, _⟩ := h.2 k M hM
    refine ⟨by simp, ⟨c, by simp [k2], k3⟩, fun x hx hxi => ?_, b, by simp, ?_⟩
    · simp only [List.mem_append, List.mem_singleton] at hx
      rcases hx with hx | rfl
      · obtain ⟨c', q1, q2⟩ := k4 x hx hxi
        exact ⟨c', by simp [q1], q2⟩
      · exact ⟨b, by simp, rfl⟩
    · rw [hrd]; simp
  · rw [List.getElem?_set_ne hik] at hM'
    obtain ⟨k1, k2, k4, c, k5, k6⟩ := h.2 i M' hM'
    refine ⟨k1, k2, fun x hx hxi => ?_, c, k5, ?_⟩
    · simp only [List.mem_append, List.mem_singleton] at hx
      rcases hx with hx | rfl
      · exact k4 x hx hxi
      · simp at hxi; omega
    · rw [hrd, ← k6, (read_in hil).1]
      have : ¬ ((k : Int) = (i : Int)) := by omega
      simp [this]
theorem may_sync {d : Dsk} {Ms : List (List Int)} (h : May d Ms) (hd : d.ok) (hno : d.no = false) : May d.sync (Ms.map fun M => M.drop (M.length - 1)) := by
  have e1 : d.sync = d.acted.settled fun _ => true := by unfold Dsk.sync; rw [hno]; rfl
  rw [e1]
  refine ⟨by simp [Dsk.settled, settle_len, acted_st, h.1], fun i M' hM' => ?_⟩
  rw [List.getElem?_map] at hM'
  obtain ⟨M, hM, rfl⟩ := Option.map_eq_some_iff.1 hM'
  obtain ⟨k1, ⟨c0, _, k3⟩, _, c, k5, k6⟩ := h.2 i M hM
  have hil : i < d.st.length := (List.getElem?_eq_some_iff.1 k3).1
  have hlast : M.drop (M.length - 1) = [c] := by
    have hpos : 0 < M.length := List.length_pos_iff.2 k1
    rw [List.getLast?_eq_getElem?] at k5
    obtain ⟨hl, he⟩ := List.getElem?_eq_some_iff.1 k5
    rw [List.drop_eq_getElem_cons hl, he, List.drop_of_length_le (by omega)]
  have hst : (settle (fun _ => true) 0 d.pe d.st)[i]? = some (one c) := by
    rw [settle_last d.pe 0 d.st i _ (fun x hx => (hd.2.2.1 x hx).1) k3, ← k6, (read_in hil).1]
    simp [k3]
  have hst' : (d.acted.settled fun _ => true).st[i]? = some (one c) := by simp only [Dsk.settled, acted_st, acted_pe]; exact hst
  rw [hlast]
  refine ⟨by simp, ⟨c, by simp, hst'⟩, by simp [Dsk.settled], c, rfl, ?_⟩
  rw [(read_in (by have := (List.getElem?_eq_some_iff.1 hst').1; exact this)).1]
  simp only [Dsk.settled, last] at hst' ⊢
  simp [hst']
theorem may_crash {d : Dsk} {Ms : List (List Int)} {i : Nat} {M : List Int} (h : May d Ms) (hd : d.ok) (ks : List Bool) (hM : Ms[i]? = some M) : ∃ c ∈ M, (d.crash ks).read i = (one c, 0) := by
  obtain ⟨_, ⟨c0, q0, k3⟩, k4, _⟩ := h.2 i M hM
  have hil : i < d.st.length := (List.getElem?_eq_some_iff.1 k3).1
  have hil' : i < (d.crash ks).st.length := by simp [Dsk.crash, Dsk.settled, settle_len]; exact hil
  obtain ⟨s, hs⟩ : ∃ s, (d.crash ks).st[i]? = some s := ⟨_, List.getElem?_eq_getElem hil'⟩
  have hr := read_in hil'
  have hr1 : ((d.crash ks).read i).1 = s := by
    rw [hr.1]
    simp [Dsk.crash, Dsk.settled, last] at hs ⊢
    simp [hs]
  have key : ∃ c ∈ M, s = one c := by
    rcases settle_mem (keeps ks) d.pe 0 d.st i s (fun x hx => (hd.2.2.1 x hx).1) hs with q | ⟨x, hx, q1, q2⟩
    · rw [k3] at q
      exact ⟨c0, q0, (Option.some.inj q).symm⟩
    · obtain ⟨c, q3, q4⟩ := k4 x hx q1
      exact ⟨c, q3, by rw [← q2, q4]⟩
  obtain ⟨c, q1, q2⟩ := key
  exact ⟨c, q1, Prod.ext (by rw [hr1, q2]) hr.2⟩
end Go.Proofs.Ythpkmkknipkcbaa.Disk
