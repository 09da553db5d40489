/-
  The document's log: Scan, from where it begins. (Written by gen_wref7.py.)
-/
import Derived.Test.YthgafnommcodcaaWalAlive
import Derived.Test.YthgafnommcodcaaWalRef3
/-
  Records that a law has made, beside a disk and a log that turn.
-/
namespace Go.Proofs.Ythgafnommcodcaa.Wal
open Go.RowKit Go.Proofs.Ythgafnommcodcaa.Mem Go.Proofs.Ythgafnommcodcaa.Sect Go.Proofs.Ythgafnommcodcaa.Frame Go.Proofs.Ythgafnommcodcaa.Disk Go.Proofs.Ythgafnommcodcaa.Area
set_option maxRecDepth 100000

/-- Records in a row of one's own; the row and the payloads lie outside of the blocks of T. -/
def Made (w : World) (B : Nat) (T : Nat → Prop) (v : Value) (rs : List Rv) : Prop := Rows w B v rs ∧ Pays T w rs ∧ ∀ k, ownOf v k → ¬ T k
section
variable {w w' : World} {B : Nat} {T T' : Nat → Prop} {v v' : Value} {rs : List Rv}
theorem Made.below (h : Made w B T v rs) (hb : Below w.heap.size w w') : Made w' B T v rs := ⟨h.1.below hb, h.2.1.below hb, h.2.2⟩
theorem Made.fr (h : Made w B T v rs) (hF : Fr T w w') : Made w' B T v rs := by
  obtain ⟨⟨h1, h2, h3⟩, h4, h5⟩ := h
  have h6 := h4.fr hF
  exact ⟨⟨own_fr h1 hF h5, fun r hr => ⟨(h6 r hr).1, (h2 r hr).2⟩, h3⟩, h6, h5⟩
theorem Made.more (h : Made w B T v rs) (hT : ∀ k, T' k → T k ∨ w.heap.size ≤ k) : Made w B T' v rs := by
  refine ⟨h.1, h.2.1.more hT, fun k hk q => ?_⟩
  rcases hT k q with q | q
  · exact h.2.2 k hk q
  · have := (h.1.lt k hk).2; omega
theorem made_nil (w : World) (T : Nat → Prop) (hT : ∀ k, T k → k < w.heap.size) : Made (w.alloc (.cells #[] 75)) w.heap.size T (.slice (some ⟨w.heap.size, 0, none⟩) 0 0) [] :=
  ⟨⟨lit_none_k (α := Rv) (enc := rc) w, Pays.nil _ _, fun _ h => by cases h⟩, Pays.nil _ _, fun k hk q => by
    obtain rfl : w.heap.size = k := by simpa [ownOf, Value.ownBlock] using hk
    exact Nat.lt_irrefl _ (hT _ q)⟩
theorem made_rows (h : Rows w B v rs) (hT : ∀ k, T k → k < B) : Made w B T v rs :=
  ⟨h, fun r hr => ⟨(h.2.1 r hr).1, (h.2.1 r hr).2.1, off_fresh (h.2.2 r hr) hT, (h.2.1 r hr).2.2.2⟩, fun k hk q => by
    have := (h.lt k hk).1
    have := hT k q
    omega⟩
theorem Made.lower {B' : Nat} (h : Made w B T v rs) (hB : B' ≤ B) : Made w B' T v rs := ⟨⟨own_lower h.1.1 hB, h.1.2.1, h.1.2.2.lower hB⟩, h.2⟩
theorem Fr.mono {U : Nat → Prop} (h : Fr T w w') (hU : ∀ k, T k → U k) : Fr U w w' := ⟨h.1, h.2.1, h.2.2.1, h.2.2.2.1, fun k hk hs => h.2.2.2.2 k hk fun q => hs (hU k q)⟩
theorem Made.step (h : Made w B T v rs) (hF : Fr T w w') (hT : ∀ k, T' k → T k ∨ w.heap.size ≤ k) : Made w' B T' v rs :=
  ((h.more (T' := fun k => T k ∨ T' k) (fun k hk => by rcases hk with hk | hk; exact .inl hk; exact hT k hk)).fr (Fr.mono hF fun _ hk => .inl hk)).more fun _ hk => .inl (.inr hk)
/-- One more. -/
theorem Made.push {w0 : World} {r : Rv} (h : Made w B T v rs) (hb : Below w.heap.size w w0) (h1 : Reads .u8 w0 r.q r.d r.g.p) (h2 : ∀ c ∈ r.g.p, Byte c) (h3 : ∀ a, r.q = some a → B ≤ a.block ∧ w.heap.size ≤ a.block) (h4 : r.g.p.length ≤ 700) (hT : ∀ k, T k → k < w.heap.size)
    (ho : w'.ownsRow B 75 3 v' (rs.length + 1) ((rs ++ [r]).flatMap rc)) (hg : w0.grownBy w' v.ownBlock) (hl : ∀ k, v'.ownBlock = some k → v.ownBlock = some k ∨ w0.heap.size ≤ k) : Made w' B T v' (rs ++ [r]) := by
  have hz : Pays (ownOf v) w0 [r] := (Pays.nil _ _).snoc (rs := []) h1 h2 (off_fresh (fun a ha => (h3 a ha).2) fun k hk => (h.1.lt k hk).2) h4
  have hz2 : Pays T w0 [r] := (Pays.nil _ _).snoc (rs := []) h1 h2 (off_fresh (fun a ha => (h3 a ha).2) hT) h4
  have hR := h.1.more hb hz (fun x hx a ha => by rw [List.mem_singleton] at hx; subst hx; exact (h3 a ha).1) rfl ho hg hl
  refine ⟨hR, fun x hx => ⟨(hR.2.1 x hx).1, (hR.2.1 x hx).2.1, ?_, (hR.2.1 x hx).2.2.2⟩, fun k hk q => ?_⟩
  · exact (((h.2.1.below hb).app hz2) x hx).2.2.1
  · rcases hl k hk with q2 | q2
    · exact h.2.2 k q2 q
    · have := hT k q
      have := hb.size
      omega
end
/-- A log and its disk stay while what is none of them turns. -/
theorem Lg.fr {B g gl n S st ep nx0 j t safe : Nat} {S0 U : Nat → Prop} {w w' : World} {d : Dsk} {ps : List (List Int)} (h : Lg B S0 w g gl n S st ep nx0 d j t ps safe) (hF : Fr U w w') (hU : ∀ k, U k → ¬ (S0 k ∨ k = gl)) : Lg B S0 w' g gl n S st ep nx0 d j t ps safe :=
  ⟨dk_fr h.1 hF fun k hk q => hU k q (.inl hk), hF.blk h.2.1 fun q => hU gl q (.inr rfl), h.2.2⟩
theorem tells_snoc (ep : Nat) : ∀ (nx : Nat) (ps : List (List Int)) (p : List Int), tells ep nx (ps ++ [p]) = tells ep nx ps ++ [⟨true, size p.length, nx + ps.length, ep, p⟩]
  | nx, [], p => by simp [tells]
  | nx, q :: r, p => by
    show _ :: tells ep (nx + 1) (r ++ [p]) = _ :: tells ep (nx + 1) r ++ _
    rw [tells_snoc ep (nx + 1) r p]
    simp only [List.length_cons, List.cons_append]
    rw [show nx + 1 + r.length = nx + (r.length + 1) by omega]
/-- So many bytes as are asked. -/
theorem payload_nat (x c : Int) (w : World) {m : Nat} (hm : payN x = m) :
    Calls Try.prog 14 #[.int .i64 x, .int .u8 c] w fun e w' => ∃ g, e = .returned (.slice (some ⟨g, 0, none⟩) m m) ∧ Reads .u8 w' (some ⟨g, 0, none⟩) m (pay x c) ∧ (w.heap.size ≤ g ∧ g < w'.heap.size) ∧ Below w.heap.size w w' := by
  have h := payload_any x c w
  rw [pay_len, hm] at h
  exact h
/-- A record's row, one more. -/
theorem at_push {o : Oper} {a : Act} {W : World} {ops : Array Oper} {rest : List Oper} {Q : Exit → Act → World → Prop} (hgd : o.guard = none) (x y : Operand) (ho : o.op = .call { callee := .builtin .append, args := #[x, y], argTypes := #[30, 30] })
    {w0 : World} {B : Nat} {T : Nat → Prop} (p8 : Option Addr) (c8 L : Nat) (rs : List Rv) (hM : Made w0 B T (.slice p8 L c8) rs) (hL : rs.length = L) (hl : L ≤ 1000) (hx : a.eval x = .slice p8 L c8) (r : Rv) (s e m : Nat) (h1 : r.g.s = s) (h2 : r.g.e = e) (h3 : r.g.p.length = m) (hW : W = w0.alloc (.cells #[.int .u64 (s : Int), .int .u32 (e : Int), .slice r.q m r.d] 75)) (hy : a.eval y = .slice (some ⟨w0.heap.size, 0, none⟩) 1 1)
    (hB : B ≤ w0.heap.size) (k1 : Reads .u8 w0 r.q r.d r.g.p) (k2 : ∀ c ∈ r.g.p, Byte c) (k3 : ∀ a, r.q = some a → B ≤ a.block ∧ (∀ k, (T k ∨ ownOf (.slice p8 L c8) k) → k ≠ a.block)) (k4 : r.g.p.length ≤ 700) (hT : ∀ k, T k → k < w0.heap.size)
    (h : ∀ p' c' w', Made w' B T (.slice p' (L + 1) c') (rs ++ [r]) → Fr (ownOf (.slice p8 L c8)) w0 w' → Below B w0 w' → wpList Try.prog ops Q rest (a.put o.dst (.slice p' (L + 1) c')) w') : wpList Try.prog ops Q (o :: rest) a W := by
  subst hW h1 h2 h3 hL
  have hb := bnew w0 (.cells #[.int .u64 (r.g.s : Int), .int .u32 (r.g.e : Int), .slice r.q r.g.p.length r.d] 75)
  refine at_append_rec hgd x y ho B _ rs.length rs hx (hM.below hb).1.1 _ 1 1 [r] hy rfl (lit_rk rfl) (by omega) (by simp; omega) fun v' w' ho' hg' hl' => ?_
  have hz : Pays (ownOf (.slice p8 rs.length c8)) w0 [r] := (Pays.nil _ _).snoc (rs := []) k1 k2 (fun _ a ha q => (k3 a ha).2 _ (.inr q) rfl) k4
  have hz2 : Pays T w0 [r] := (Pays.nil _ _).snoc (rs := []) k1 k2 (fun _ a ha q => (k3 a ha).2 _ (.inl q) rfl) k4
  have hR := (hM.1.below hb).more (Below.refl _ _) (hz.below hb) (fun x hx a ha => by rw [List.mem_singleton] at hx; subst hx; exact (k3 a ha).1) rfl ho' hg' hl'
  obtain ⟨p', c', rfl, -, -⟩ := own_rk rc_len (by decide) hR.1
  rw [List.length_append, List.length_singleton] at hR ho' hl' ⊢
  refine h p' c' w' ⟨hR, fun x hx => ⟨(hR.2.1 x hx).1, (hR.2.1 x hx).2.1, ((hM.2.1.app hz2) x hx).2.2.1, (hR.2.1 x hx).2.2.2⟩, fun k hk q => ?_⟩ ((Fr.of_below hb _).trans (Fr.of_grown hg' fun k hk => hk) fun _ h => .inl h) ?_
  · rcases hl' k hk with q2 | q2
    · exact hM.2.2 k q2 q
    · have := hT k q
      have := hb.size
      omega
  · exact ((bnew w0 _).mono hB).grown hg' (by simp; omega) fun k hk => (hM.1.lt k hk).1
theorem step_set {S0 S7 : Nat → Prop} {gl : Nat} {W : World} (h : ∀ k, S7 k → S0 k ∨ W.heap.size ≤ k) : ∀ k, (S7 k ∨ k = gl) → (S0 k ∨ k = gl) ∨ W.heap.size ≤ k := fun k hk => by
  rcases hk with hk | hk
  · rcases h k hk with q | q
    · exact .inl (.inl q)
    · exact .inr q
  · exact .inl (.inr hk)
theorem apart_set {S0 S7 O : Nat → Prop} {gl b g6 : Nat} {W : World} (h : ∀ k, S7 k → S0 k ∨ W.heap.size ≤ k) (hm : ∀ k, (S0 k ∨ k = gl) → k < b) (ho : ∀ k, O k → k < b) (hb : b ≤ g6) (hg : g6 < W.heap.size) : ∀ k, ((S7 k ∨ k = gl) ∨ O k) → k ≠ g6 := fun k hk => by
  rcases hk with (hk | hk) | hk
  · rcases h k hk with q | q
    · have := hm k (.inl q); omega
    · omega
  · have := hm k (.inr hk); omega
  · have := ho k hk; omega
theorem Made.rk {w : World} {B L c : Nat} {T : Nat → Prop} {p : Option Addr} {rs : List Rv} (h : Made w B T (.slice p L c) rs) : RK rc w p c rs := by
  obtain ⟨p', c', e, hk, -⟩ := own_rk rc_len (by decide) h.1.1
  simp only [Value.slice.injEq] at e
  obtain ⟨rfl, -, rfl⟩ := e
  exact hk
/-- Records that are told alike are the same. -/
theorem made_same {w : World} {B B' L L' c c' : Nat} {T T' : Nat → Prop} {p p' : Option Addr} {rs zs : List Rv} (h : Made w B T (.slice p L c) rs) (h' : Made w B' T' (.slice p' L' c') zs) (hl : rs.length = L) (hl' : zs.length = L') (h1 : L ≤ 10000) (h2 : L' ≤ 10000) (he : rs.map (·.g) = zs.map (·.g)) :
    Calls Try.prog 26 #[.slice p L c, .slice p' L' c'] w fun x w' => x = .returned (.bool true) ∧ Below w.heap.size w w' := by
  have hs := ref_SameRecords p L c rs hl p' L' c' zs hl' h1 h2 w h.rk h'.rk h.2.1 h'.2.1
  have e : rs.map key = zs.map key := by
    have := congrArg (List.map fun g : Got => (g.s, g.e, g.p)) he
    rw [List.map_map, List.map_map] at this
    exact this
  rw [decide_eq_true e] at hs
  exact hs
end Go.Proofs.Ythgafnommcodcaa.Wal
/-
  The document's log: Scan.
-/
namespace Go.Proofs.Ythgafnommcodcaa.Wal
open Go.RowKit Go.Proofs.Ythgafnommcodcaa.Mem Go.Proofs.Ythgafnommcodcaa.Sect Go.Proofs.Ythgafnommcodcaa.Frame Go.Proofs.Ythgafnommcodcaa.Disk Go.Proofs.Ythgafnommcodcaa.Area
set_option maxRecDepth 100000

theorem ref_Scan_no (r : Rfd) (p : Option Addr) (c : Nat) (q : Option Addr) (e : Nat) {n : Nat} (hn : r.st.length = n) (ep s : Nat) (k : Int) {E : Int} (hE : chk n k s = E) (hE0 : E ≠ 0) (w : World) :
    Calls Try.prog 25 #[rv r p c q e, .int .u32 (ep : Int), .int .u64 (s : Int), .int .i64 k] w fun x w' => x = .returned (.tuple #[.slice none 0 0, .int .i64 0, .int .i64 E]) ∧ Below w.heap.size w w' := by
  have hst := fun W => ref_Start_no (n : Int) k ep s hE hE0 W
  have hb : (E != 0) = true := by simp [hE0]
  have hrl : rl r p c q e = [.slice p n c, .slice q r.pe.length e, .bool r.ct, .int .i64 r.lf, .bool r.dn] := by unfold rl; rw [hn]
  clear hE hE0 hn
  go_enter Try.func25, Try.ntmps25
  go_wp2_with (first
    | (have _ := hB2; (refine at_alloc_ll (by rfl) (by rfl) ?_); intro V3 hY3 hB3 hz3)
    | ((refine at_box_rd _ _ _ _ _ _ (by rfl) (by rfl) (by rfl) ?_); intro V1 hX1 hB1 hz1; have hk1 : ∀ i, V1.cell? ⟨w.heap.size, i, none⟩ = [Value.slice p n c, .slice q r.pe.length e, .bool r.ct, .int .i64 r.lf, .bool r.dn][i]? := (by rw [← hrl]; exact hX1.cell))
    | ((with_reducible refine (hst _).mono ?_); rintro e w2 ⟨rfl, hB2⟩)
    | ((refine at_store_ll _ _ _ _ _ (by rfl) (by rfl) (by rfl) hY3 rfl (by rfl) ?_); intro V4 hY4 hg4 hz4))
  have hB23 := bnext (bnext hB1 hB2) hB3
  go_ret3
  exact ⟨rfl, hB23.grown hg4 hB23.size (by have := hB1.size; have := hB2.size; simp; omega)⟩
/-- The walk's facts of a round: the disk, the log, the records so far. -/
def Sc (w W : World) (b4 b11 B : Nat) (l : RLg) (r : Rfd) (p : Option Addr) (c : Nat) (q : Option Addr) (e : Nat) (v : Value) (rs : List Rv) : Prop :=
  Blk W b4 39 (rl r p c q e) ∧ Blk W b11 42 (ll l) ∧ Made W B (fun k => k = b11 ∨ k = b4) v rs ∧ Below w.heap.size w W ∧ (w.heap.size ≤ b4 ∧ w.heap.size ≤ b11 ∧ b4 ≠ b11 ∧ w.heap.size ≤ B ∧ b4 < B ∧ b11 < B ∧ B ≤ W.heap.size)
theorem Sc.below {w W W' : World} {b4 b11 B : Nat} {l : RLg} {r : Rfd} {p : Option Addr} {c : Nat} {q : Option Addr} {e : Nat} {v : Value} {rs : List Rv} (h : Sc w W b4 b11 B l r p c q e v rs) (hb : Below W.heap.size W W') : Sc w W' b4 b11 B l r p c q e v rs :=
  ⟨h.1.below hb, h.2.1.below hb, h.2.2.1.below hb, bnext h.2.2.2.1 hb, h.2.2.2.2.1, h.2.2.2.2.2.1, h.2.2.2.2.2.2.1, h.2.2.2.2.2.2.2.1, h.2.2.2.2.2.2.2.2.1, h.2.2.2.2.2.2.2.2.2.1, Nat.le_trans h.2.2.2.2.2.2.2.2.2.2 hb.size⟩
/-- The log turns. -/
theorem Sc.log {w W W' : World} {b4 b11 B : Nat} {l l' : RLg} {r : Rfd} {p : Option Addr} {c : Nat} {q : Option Addr} {e : Nat} {v : Value} {rs : List Rv} (h : Sc w W b4 b11 B l r p c q e v rs) (hY : Blk W' b11 42 (ll l')) (hg : W.grownBy W' (some b11)) : Sc w W' b4 b11 B l' r p c q e v rs := by
  obtain ⟨h1, h2, h3, h4, n1, n2, n3, n4, n5, n6, n7⟩ := h
  exact ⟨h1.kept hg (fun q => n3 (Option.some.inj q)), hY, h3.fr (Fr.of_grown hg fun k hk => .inl (Option.some.inj hk).symm), h4.grown hg h4.size (fun k hk => by obtain rfl := Option.some.inj hk; exact n2), n1, n2, n3, n4, n5, n6, Nat.le_trans n7 hg.size⟩
/-- A record more. -/
theorem Sc.push {w W W' : World} {b4 b11 B : Nat} {l : RLg} {r : Rfd} {p : Option Addr} {c : Nat} {q : Option Addr} {e : Nat} {v v' : Value} {rs zs : List Rv} (h : Sc w W b4 b11 B l r p c q e v rs) (hM : Made W' B (fun k => k = b11 ∨ k = b4) v' zs) (hF : Fr (ownOf v) W W') (hB : Below B W W') : Sc w W' b4 b11 B l r p c q e v' zs := by
  obtain ⟨h1, h2, h3, h4, n1, n2, n3, n4, n5, n6, n7⟩ := h
  exact ⟨hF.blk h1 fun q => h3.2.2 _ q (.inr rfl), hF.blk h2 fun q => h3.2.2 _ q (.inl rfl), hM, h4.trans (hB.mono n4), n1, n2, n3, n4, n5, n6, Nat.le_trans n7 hF.size⟩
theorem scan_here {rd : Rd} {S ep f nx j t : Nat} (h0 : nx ≠ 0) (h : (atPlace rd ep nx j t).ok = true) : scan rd S ep (f + 1) nx j t = ((atPlace rd ep nx j t) :: (scan rd S ep f (more nx) j (t + (atPlace rd ep nx j t).n)).1, (scan rd S ep f (more nx) j (t + (atPlace rd ep nx j t).n)).2) := by
  rw [scan_step, if_neg h0, if_pos h]
theorem scan_next {rd : Rd} {S ep f nx j t : Nat} (h0 : nx ≠ 0) (h : (atPlace rd ep nx j t).ok = false) (hj : j + 1 ≠ S) (h2 : (atPlace rd ep nx (j + 1) 0).ok = true) : scan rd S ep (f + 1) nx j t = ((atPlace rd ep nx (j + 1) 0) :: (scan rd S ep f (more nx) (j + 1) (atPlace rd ep nx (j + 1) 0).n).1, (scan rd S ep f (more nx) (j + 1) (atPlace rd ep nx (j + 1) 0).n).2) := by
  rw [scan_step, if_neg h0, if_neg (by simp [h]), if_neg hj, if_pos h2]
theorem scan_end {rd : Rd} {S ep f nx j t : Nat} (h : nx = 0 ∨ ((atPlace rd ep nx j t).ok = false ∧ (j + 1 = S ∨ (atPlace rd ep nx (j + 1) 0).ok = false))) : scan rd S ep (f + 1) nx j t = ([], j) := by
  rw [scan_step]
  by_cases h0 : nx = 0
  · rw [if_pos h0]
  · rcases h with h | ⟨h, h2⟩
    · exact absurd h h0
    · rw [if_neg h0, if_neg (by simp [h])]
      by_cases h3 : j + 1 = S
      · rw [if_pos h3]
      · rw [if_neg h3]
        rcases h2 with h2 | h2
        · exact absurd h2 h3
        · rw [if_neg (by simp [h2])]
theorem at_not {rd : Rd} {ep nx j t : Nat} (h : (atPlace rd ep nx j t).ok = false) : atPlace rd ep nx j t = nought := by
  unfold atPlace at h ⊢
  split at h
  · rename_i hc
    simp only [Bool.and_eq_true] at hc
    rw [hc.1] at h
    cases h
  · rename_i hc
    rw [if_neg hc]
theorem Rows.lower' {w : World} {B B' : Nat} {v : Value} {rs : List Rv} (h : Rows w B v rs) (hB : B' ≤ B) : Rows w B' v rs := ⟨own_lower h.1 hB, h.2.1, h.2.2.lower hB⟩
theorem set41 {W : World} {g ep nx st nw t N : Nat} (m : Nat) {x : Int} (hx : Hid (x = ((t + N : Nat) : Int))) (h : Blk W g 42 (ll ⟨ep, nx, st, nw, t⟩)) :
    Blk ((W.setCell ⟨g, 4, none⟩ (.int .i64 x)).setCell ⟨g, 1, none⟩ (.int .u64 ((m : Nat) : Int))) g 42 (ll ⟨ep, m, st, nw, t + N⟩) ∧ W.grownBy ((W.setCell ⟨g, 4, none⟩ (.int .i64 x)).setCell ⟨g, 1, none⟩ (.int .u64 ((m : Nat) : Int))) (some g) := by
  refine ⟨?_, grown2 (only_put W ⟨g, 4, none⟩ _) (only_put _ ⟨g, 1, none⟩ _)⟩
  rw [hx.out]
  exact (h.put 4 _).put 1 _
theorem ne_block {g b : Nat} {q : Option Addr} (h : ∀ a, q = some a → b ≤ a.block) (hg : g < b) {n : Nat} : 0 < n → ∀ a, q = some a → a.block ≠ g := fun _ a ha e => by
  have := h a ha
  omega
/-- A new record's payload lies apart. -/
theorem new_apart {B b b11 b4 : Nat} {O : Nat → Prop} {q : Option Addr} (h : ∀ a, q = some a → b ≤ a.block) (hB : B ≤ b) (h1 : b11 < b) (h4 : b4 < b) (hO : ∀ k, O k → k < b) : ∀ a, q = some a → B ≤ a.block ∧ ∀ k, ((k = b11 ∨ k = b4) ∨ O k) → k ≠ a.block := fun a ha => by
  have hb := h a ha
  refine ⟨by omega, fun k hk => ?_⟩
  rcases hk with (hk | hk) | hk
  · omega
  · omega
  · have := hO k hk; omega
theorem at_push2 {o : Oper} {a : Act} {W : World} {ops : Array Oper} {rest : List Oper} {Q : Exit → Act → World → Prop} (hgd : o.guard = none) (x y : Operand) (ho : o.op = .call { callee := .builtin .append, args := #[x, y], argTypes := #[30, 30] })
    {w0 : World} {B : Nat} {T : Nat → Prop} (p8 : Option Addr) (c8 L : Nat) (rs : List Rv) (hM : Made w0 B T (.slice p8 L c8) rs) (hL : rs.length = L) (hl : L ≤ 1000) (hx : a.eval x = .slice p8 L c8) (r : Rv) (s e m : Nat) (h1 : r.g.s = s) (h2 : r.g.e = e) (h3 : r.g.p.length = m) (hW : W = w0.alloc (.cells #[.int .u64 (s : Int), .int .u32 (e : Int), .slice r.q m r.d] 75)) (G : Nat) (hG : w0.heap.size = G) (hy : a.eval y = .slice (some ⟨G, 0, none⟩) 1 1)
    (hB : B ≤ w0.heap.size) (k1 : Reads .u8 w0 r.q r.d r.g.p) (k2 : ∀ c ∈ r.g.p, Byte c) (k3 : ∀ a, r.q = some a → B ≤ a.block ∧ (∀ k, (T k ∨ ownOf (.slice p8 L c8) k) → k ≠ a.block)) (k4 : r.g.p.length ≤ 700) (hT : ∀ k, T k → k < w0.heap.size)
    (h : ∀ p' c' w', Made w' B T (.slice p' (L + 1) c') (rs ++ [r]) → Fr (ownOf (.slice p8 L c8)) w0 w' → Below B w0 w' → wpList Try.prog ops Q rest (a.put o.dst (.slice p' (L + 1) c')) w') : wpList Try.prog ops Q (o :: rest) a W := by
  subst hG
  exact at_push hgd x y ho p8 c8 L rs hM hL hl hx r s e m h1 h2 h3 hW hy hB k1 k2 k3 k4 hT h
theorem some_from {B g : Nat} (h : B ≤ g) : ∀ j, some g = some j → B ≤ j := fun j hj => by
  obtain rfl := Option.some.inj hj
  exact h
theorem set3441 {W : World} {g ep nx st nw t N : Nat} (m k : Nat) (h : Blk W g 42 (ll ⟨ep, nx, st, nw, t⟩)) :
    Blk ((((W.setCell ⟨g, 3, none⟩ (.int .i64 (k : Int))).setCell ⟨g, 4, none⟩ (.int .i64 0)).setCell ⟨g, 4, none⟩ (.int .i64 (N : Int))).setCell ⟨g, 1, none⟩ (.int .u64 ((m : Nat) : Int))) g 42 (ll ⟨ep, m, st, k, N⟩) ∧
      W.grownBy ((((W.setCell ⟨g, 3, none⟩ (.int .i64 (k : Int))).setCell ⟨g, 4, none⟩ (.int .i64 0)).setCell ⟨g, 4, none⟩ (.int .i64 (N : Int))).setCell ⟨g, 1, none⟩ (.int .u64 ((m : Nat) : Int))) (some g) :=
  ⟨(((h.put 3 _).put 4 _).put 4 _).put 1 _, grown2 (grown2 (grown2 (only_put W ⟨g, 3, none⟩ _) (only_put _ ⟨g, 4, none⟩ _)) (only_put _ ⟨g, 4, none⟩ _)) (only_put _ ⟨g, 1, none⟩ _)⟩
end Go.Proofs.Ythgafnommcodcaa.Wal
namespace Go.Proofs.Ythgafnommcodcaa.Wal
open Go.RowKit Go.Proofs.Ythgafnommcodcaa.Mem Go.Proofs.Ythgafnommcodcaa.Sect Go.Proofs.Ythgafnommcodcaa.Frame Go.Proofs.Ythgafnommcodcaa.Disk Go.Proofs.Ythgafnommcodcaa.Area
set_option maxRecDepth 100000

set_option maxHeartbeats 4000000 in
theorem ref_Scan {n S st : Nat} (hc : Can n S st 0 0) (r : Rfd) (p : Option Addr) (c : Nat) (q : Option Addr) (e : Nat) (hn : r.st.length = n) (hok : r.ok) (ep s : Nat) (hs0 : s ≠ 0) (hs : s < 18446744073709551616) (hep : ep < 4294967296) (hb : ∀ i t, ∀ x ∈ view (rvis r S st) i t, BS x) (w : World) (r1 : RK sc w p c r.st) (r2 : RK wc w q e r.pe) :
    Calls Try.prog 25 #[rv r p c q e, .int .u32 (ep : Int), .int .u64 (s : Int), .int .i64 (st : Int)] w fun x w' => Found w w' x (scan (rvis r S st) S ep (16 * S + 1) s 0 0).1 (segOf S st (scan (rvis r S st) S ep (16 * S + 1) s 0 0).2) := by
  have hstt := fun W => ref_Start (n : Int) st ep s (by unfold chk; rw [if_pos hc.begin, if_neg hs0]) W
  have hrl : rl r p c q e = [.slice p n c, .slice q r.pe.length e, .bool r.ct, .int .i64 r.lf, .bool r.dn] := by unfold rl; rw [hn]
  have hnx := fun (i : Nat) W => ref_Next (n : Int) (segOf S st i : Int) W
  simp only [(hc.next _).1, (hc.next _).2] at hnx
  have hS2 := hc.two
  have hrd := fun i (hi : i < S) => seg_round (j := i) hc.2.2.2.1 hi
  have hfst := seg_first hc.2.2.2.1
  have hatc := fun {W : World} (hW : Below w.heap.size w W) (nx s3 s4 s5 i t0 : Nat) (ht0 : t0 ≤ 16) (hnx : nx < 18446744073709551616) => ref_at r p c q e ep nx s3 s4 s5 W hok (r1.below hW) (r2.below hW) hn hc i t0 ht0 (hb i t0) hep hnx
  have h700 := fun i t nx (ho : (atPlace (rvis r S st) ep nx i t).ok = true) => (by rw [(at_ok ho).2.2.2.2]; exact (rights_fits (by rw [← at_rights]; exact ho : rights (view (rvis r S st) i t) ep nx = true)).2.2.2.2.2.2 : (atPlace (rvis r S st) ep nx i t).p.length ≤ 700)
  have hbyt := fun i t nx (ho : (atPlace (rvis r S st) ep nx i t).ok = true) => (by rw [(at_ok ho).2.2.2.2]; exact got_bytes (hb i t) : ∀ x ∈ (atPlace (rvis r S st) ep nx i t).p, Byte x)
  have hT : Hid (scan (rvis r S st) S ep (16 * S + 1) s 0 0 = (([] : List Rv).map (·.g) ++ (scan (rvis r S st) S ep (16 * S + 1) s 0 0).1, (scan (rvis r S st) S ep (16 * S + 1) s 0 0).2)) := rfl
  have hlast : r.st.length = n := hn
  clear hb
  generalize hV : rvis r S st = V at *
  generalize hTT : scan V S ep (16 * S + 1) s 0 0 = T at *
  obtain ⟨T1, T2⟩ := T
  rw [← hTT] at hT
  replace hTT : Hid (scan V S ep (16 * S + 1) s 0 0 = (T1, T2)) := hTT
  have hT0 : Hid ((T1, T2) = (([] : List Rv).map (·.g) ++ (scan V S ep (16 * S + 1) s 0 0).1, (scan V S ep (16 * S + 1) s 0 0).2)) := hTT.out.symm.trans hT.out
  clear hT hTT hV hc r1 r2 hok hn hlast
  go_enter Try.func25, Try.ntmps25
  go_wp2_with (first
    | (have _ := hB2; (refine at_alloc_ll (by rfl) (by rfl) ?_); intro V3 hY3 hB3 hz3; have hB23 := bnext hB2 hB3)
    | ((refine at_box_rd _ _ _ _ _ _ (by rfl) (by rfl) (by rfl) ?_); intro V1 hX1 hB1 hz1; have hk1 : ∀ i, V1.cell? ⟨w.heap.size, i, none⟩ = [Value.slice p n c, .slice q r.pe.length e, .bool r.ct, .int .i64 r.lf, .bool r.dn][i]? := (by rw [← hrl]; exact hX1.cell))
    | ((with_reducible refine (hstt _).mono ?_); rintro e w2 ⟨rfl, hB2⟩)
    | ((refine at_store_ll _ _ _ _ _ (by rfl) (by rfl) (by rfl) hY3 rfl (by rfl) ?_); intro V4 hY4 hg4 hz4))
  have hs12 : w.heap.size < V1.heap.size ∧ V1.heap.size ≤ w2.heap.size ∧ w2.heap.size < V4.heap.size := ⟨hX1.lt, hB2.size, hY4.lt⟩
  have hB14 : Below V1.heap.size V1 V4 := hB23.grown hg4 hB23.size (by have := hB2.size; simp; omega)
  have hSc0 : Sc w (V4.alloc (.cells #[] 75)) w.heap.size w2.heap.size V4.heap.size ⟨ep, s, st, segOf S st 0, 0⟩ r p c q e (.slice (some ⟨V4.heap.size, 0, none⟩) 0 0) [] :=
    ⟨(hX1.below hB14).below (bnew V4 _), by rw [hfst]; exact hY4.below (bnew V4 _), made_nil V4 _ (fun k hk => by rcases hk with rfl | rfl <;> omega), bnext (bnext hB1 hB14) (bnew V4 _), by omega, by omega, by omega, by omega, by omega, by omega, by simp⟩
  generalize hb11 : w2.heap.size = b11 at *
  generalize hBB : V4.heap.size = B at *
  clear hX1 hY3 hB1 hB2 hB3 hB23 hY4 hg4 hz1 hz3 hz4 hB14 hk1 hstt hs12 hb11 hBB hfst
  go_loopw [13] (fun s13 wr => ∃ (nx j t f : Nat) (rs : List Rv) (p7 : Option Addr) (c7 : Nat), s13 = .slice p7 rs.length c7 ∧ Sc w wr w.heap.size b11 B ⟨ep, nx, st, segOf S st j, t⟩ r p c q e (.slice p7 rs.length c7) rs ∧ j < S ∧ t ≤ 16 ∧ nx < 18446744073709551616 ∧ Hid (16 * S < 16 * j + t + f) ∧ Hid (rs.length ≤ 16 * j + t) ∧ Hid ((T1, T2) = (rs.map (·.g) ++ (scan V S ep f nx j t).1, (scan V S ep f nx j t).2))) (fun s13 _ => 1000 - lenV s13)
  case atStart => exact ⟨s, 0, 0, 16 * S + 1, [], some ⟨B, 0, none⟩, 0, rfl, hSc0, by omega, by omega, hs, by unfold Hid; omega, by unfold Hid; simp, hT0⟩
  case round =>
    obtain ⟨nx, j, t, f, rs, p7, c7, rfl, hSc, hj, ht, hnx2, HF, HL, HW⟩ := hrel
    have hX := hSc.1
    have hY := hSc.2.1
    have hk11 := cells5 hY
    have hB := hSc.2.2.2.1
    have hHF := HF.out
    have hHL := HL.out
    obtain ⟨f, rfl⟩ : ∃ g, f = g + 1 := ⟨f - 1, by omega⟩
    have hk4 : ∀ i, wr.cell? ⟨w.heap.size, i, none⟩ = [Value.slice p n c, .slice q r.pe.length e, .bool r.ct, .int .i64 r.lf, .bool r.dn][i]? := by rw [← hrl]; exact hX.cell
    obtain ⟨m1, m2, m3, m4, m5, m6, m7⟩ := hSc.2.2.2.2
    clear hk4
    by_cases h0 : nx = 0
    · have hend := scan_end (rd := V) (S := S) (ep := ep) (f := f) (nx := nx) (j := j) (t := t) (.inl h0)

      have HW2 := HW.out
      rw [hend, List.append_nil] at HW2
      simp only [Prod.mk.injEq] at HW2
      obtain ⟨hQ1, hQ2⟩ := HW2
      subst hQ1
      obtain rfl : j = T2 := hQ2.symm
      clear HW hend

      subst h0
      go_wp2

      go_quiet (fail)
      go_wp2
      go_ret3
      exact ⟨_, rs, rfl, (hSc.2.2.1.1.lower' (by omega)).below (bdrewN _ _), rfl, bnext hSc.2.2.2.1 (bdrewN _ _)⟩
    cases hA : (atPlace V ep nx j t).ok with
    | true =>
      have hao := at_ok hA
      have hP7 := h700 j t nx hA
      have hPb := hbyt j t nx hA
      have hat1 := hatc hB nx st (segOf S st j) t j t ht hnx2
      have HW2 := HW.out
      rw [scan_here h0 hA] at HW2
      have hHn := HF.out
      have hown := fun k (hk : ownOf (.slice p7 rs.length c7) k) => Nat.lt_of_lt_of_le (hSc.2.2.1.1.lt k hk).2 (Nat.le_refl _)
      generalize hG : atPlace V ep nx j t = G at *
      obtain ⟨ok, N, s5, e5, P⟩ := G
      simp only at hao hA hP7 hPb
      obtain ⟨a1, a2, rfl, rfl, -⟩ := hao
      subst hA
      simp only at HW2
      unfold toldAt at hat1
      simp only at hat1
      have hN0 : ((N : Int) == 0) = false := by simp; omega
      have hwt : IntKind.i64.wrap ((t : Int) + (N : Int)) = (t : Int) + (N : Int) := wrap_int ⟨by omega, by omega⟩
      have hwc : ((t : Int) + (N : Int)) = ((t + N : Nat) : Int) := by omega
      have hwm := wrap_more s5
      replace hwc : Hid ((t : Int) + (N : Int) = ((t + N : Nat) : Int)) := hwc
      clear HW hG hatc hnx h700 hbyt hrd hrl
      go_wp2_with (first
        | ((refine at_load_ll _ _ _ (by rfl) (by rfl) hY (by rfl) ?_))
        | ((refine at_load_rd _ _ _ _ _ _ _ (by rfl) (by rfl) hX (by rfl) ?_))
        | ((with_reducible refine hat1.mono ?_); rintro e w5 ⟨q5, d5, rfl, rP5, hB5, hn5⟩; have hSc5 := hSc.below hB5; have Y5 := Blk.new w5 #[.int .u64 0, .int .u32 0, .slice none 0 0] 75; have hs5 := hB5.size)
        | (refine at_store_rec _ _ _ _ _ _ _ (by rfl) (by rfl) (by rfl) Y5 rfl ⟨rfl, rfl, rfl⟩ (by rfl) ?_; intro V6 Y6 G6; have hB56 : Below w5.heap.size w5 V6 := (bnew w5 (.cells #[.int .u64 0, .int .u32 0, .slice none 0 0] 75)).grown G6 (by simp) (by simp); have hSc6 := hSc5.below hB56; have hY6 := hSc6.2.1; have hX6 := hSc6.1; have hk6 := cells5 hY6; have hf6 := hY6.frozen; have k6 := Y6.cell; have hne1 : w5.heap.size ≠ b11 := (by omega); have hne2 : b11 ≠ w5.heap.size := (by omega); obtain ⟨hY41, hg41⟩ := set41 (more s5) hwc hY6; have hSc7 := hSc6.log hY41 hg41; have rP7 := ((rP5.alloc (.cells #[.int .u64 0, .int .u32 0, .slice none 0 0] 75)).kept G6 (fun h0 => rP5.apart (Nat.le_refl _) h0)).kept hg41 (ne_block (g := b11) hn5 (by omega)); have hnq := new_apart (b11 := b11) (b4 := w.heap.size) hn5 m7 (by omega) (by omega) hown)
        | (at_builtin; refine at_push2 rfl _ _ rfl p7 c7 rs.length rs hSc7.2.2.1 rfl (by omega) rfl ⟨⟨true, N, s5, e5, P⟩, q5, d5⟩ s5 e5 P.length rfl rfl rfl rfl _ (by simp) rfl (hSc7.2.2.2.2.2.2.2.2.2.2) rP7 hPb hnq hP7 (fun k hk => by have := hSc7.2.2.2.2.2.2.2.2.2.2; rcases hk with hk | hk <;> omega) ?_; intro p9 c9 w9 hM9 hF9 hB9))
      have e9 : (rs ++ [(⟨⟨true, N, s5, e5, P⟩, q5, d5⟩ : Rv)]).length = rs.length + 1 := by simp
      refine ⟨⟨more s5, j, t + N, f, rs ++ [⟨⟨true, N, s5, e5, P⟩, q5, d5⟩], p9, c9, by rw [e9], by rw [e9]; exact hSc7.push hM9 hF9 hB9, by omega, by omega, more_lt s5, by unfold Hid; omega, by unfold Hid; rw [e9]; omega, by unfold Hid; rw [HW2, List.map_append, List.append_assoc]; rfl⟩, by simp only [lenV]; omega⟩
    | false =>
      have hnG := at_not hA
      have hat1 := hatc hB nx st (segOf S st j) t j t ht hnx2
      rw [hnG] at hat1
      unfold toldAt nought at hat1
      simp only [List.length_nil] at hat1
      replace hat1 : Calls Try.prog 54 #[lv ⟨ep, nx, st, segOf S st j, t⟩, rv r p c q e, .int .i64 (segOf S st j : Int), .int .i64 (t : Int)] wr fun x w' => ∃ q d, x = .returned (.tuple #[.agg #[.int .u64 0, .int .u32 0, .slice q 0 d], .int .i64 0]) ∧ Reads .u8 w' q d [] ∧ Below wr.heap.size wr w' ∧ ∀ a, q = some a → wr.heap.size ≤ a.block := hat1
      have hnxj := fun W => hnx j W
      have hrj := hrd j hj
      have hown := fun k (hk : ownOf (.slice p7 rs.length c7) k) => (hSc.2.2.1.1.lt k hk).2
      by_cases hjS : j + 1 = S
      · have hend := scan_end (rd := V) (S := S) (ep := ep) (f := f) (nx := nx) (j := j) (t := t) (.inr ⟨hA, .inl hjS⟩)

        have HW2 := HW.out
        rw [hend, List.append_nil] at HW2
        simp only [Prod.mk.injEq] at HW2
        obtain ⟨hQ1, hQ2⟩ := HW2
        subst hQ1
        obtain rfl : j = T2 := hQ2.symm
        clear HW hend

        have hbS : ((segOf S st (j + 1) : Int) == (st : Int)) = true := by rw [hrj.2 hjS]; simp
        clear hjS hatc hnx h700 hbyt hrd hA hnG hrj
        go_wp2_with (first
          | ((refine at_load_ll _ _ _ (by rfl) (by rfl) hY (by rfl) ?_))
          | ((refine at_load_rd _ _ _ _ _ _ _ (by rfl) (by rfl) hX (by rfl) ?_))
          | ((with_reducible refine hat1.mono ?_); rintro e w5 ⟨q5, d5, rfl, rP5, hB5, hn5⟩; have hSc5 := hSc.below hB5; have Y5 := Blk.new w5 #[.int .u64 0, .int .u32 0, .slice none 0 0] 75; have hs5 := hB5.size)
          | (refine at_store_rec _ _ _ _ _ _ _ (by rfl) (by rfl) (by rfl) Y5 rfl ⟨rfl, rfl, rfl⟩ (by rfl) ?_; intro V6 Y6 G6; have hB56 : Below w5.heap.size w5 V6 := (bnew w5 (.cells #[.int .u64 0, .int .u32 0, .slice none 0 0] 75)).grown G6 (by simp) (by simp); have hSc6 := hSc5.below hB56; have hY6 := hSc6.2.1; have hX6 := hSc6.1; have hk6 := cells5 hY6; have hf6 := hY6.frozen; have k6 := Y6.cell; have hne1 : w5.heap.size ≠ b11 := (by omega); have hne2 : b11 ≠ w5.heap.size := (by omega); have hBr6 := bnext hB5 hB56; have hk46 : ∀ i, V6.cell? ⟨w.heap.size, i, none⟩ = [Value.slice p n c, .slice q r.pe.length e, .bool r.ct, .int .i64 r.lf, .bool r.dn][i]? := (by rw [← hrl]; exact hX6.cell))
          | ((with_reducible refine (hnxj _).mono ?_); rintro e w2 ⟨rfl, hw⟩; rw [hw]; clear hw))
        go_quiet (fail)
        go_wp2
        go_ret3
        exact ⟨_, rs, rfl, (hSc6.2.2.1.1.lower' (by omega)).below (bdrewN _ _), rfl, bnext hSc6.2.2.2.1 (bdrewN _ _)⟩
      · have hbS : ((segOf S st (j + 1) : Int) == (st : Int)) = false := by
          rw [beq_eq_false_iff_ne]
          intro qq
          exact hjS (hrj.1 (by omega))
        have hat2 : ∀ {W : World}, Below w.heap.size w W → Calls Try.prog 54 #[lv ⟨ep, nx, st, segOf S st j, t⟩, rv r p c q e, .int .i64 (segOf S st (j + 1) : Int), .int .i64 0] W fun x w' => toldAt x W w' (atPlace V ep nx (j + 1) 0) := fun hW => hatc hW nx st (segOf S st j) t (j + 1) 0 (by omega) hnx2
        cases hA2 : (atPlace V ep nx (j + 1) 0).ok with
        | true =>
          have hao := at_ok hA2
          have hP7 := h700 (j + 1) 0 nx hA2
          have hPb := hbyt (j + 1) 0 nx hA2
          have HW2 := HW.out
          rw [scan_next h0 hA hjS hA2] at HW2
          have hjS2 : j + 1 < S := by omega
          generalize hG : atPlace V ep nx (j + 1) 0 = G at *
          obtain ⟨ok, N, s5, e5, P⟩ := G
          simp only at hao hA2 hP7 hPb
          obtain ⟨a1, a2, rfl, rfl, -⟩ := hao
          subst hA2
          simp only at HW2
          unfold toldAt at hat2
          simp only at hat2
          have hN0 : ((N : Int) == 0) = false := by simp; omega
          have hwt : IntKind.i64.wrap (N : Int) = (N : Int) := wrap_int ⟨by omega, by omega⟩
          have hwm := wrap_more s5
          clear HW hG hatc hnx h700 hbyt hrd hA hnG hrj hjS
          go_wp2_with (first
            | ((fail_if_success (have _ := hSc9)); (refine at_load_ll _ _ _ (by rfl) (by rfl) hY (by rfl) ?_))
            | ((fail_if_success (have _ := hSc9)); (refine at_load_rd _ _ _ _ _ _ _ (by rfl) (by rfl) hX (by rfl) ?_))
            | ((fail_if_success (have _ := hSc9)); (refine at_load_ll _ _ _ (by rfl) (by rfl) hY6 (by rfl) ?_))
            | ((fail_if_success (have _ := hSc9)); (refine at_load_rd _ _ _ _ _ _ _ (by rfl) (by rfl) hX6 (by rfl) ?_))
            | ((fail_if_success (have _ := hSc9)); (with_reducible refine hat26.mono ?_); rintro e w8 ⟨q8, d8, rfl, rP8, hB8, hn8⟩; have Y8 := Y6.below hB8; have hBr8 := bnext hBr6 hB8; have hs8 := hB8.size; have hs6 := hBr6.size; have hl6 := Y6.lt)
            | ((fail_if_success (have _ := hSc9)); have _ := hBr8; refine at_store_rec _ _ _ _ _ _ _ (by rfl) (by rfl) (by rfl) Y8 rfl ⟨rfl, rfl, rfl⟩ (by rfl) ?_; intro V9 Y9 G9; have hBr9 := hBr8.grown G9 hBr8.size (some_from (by omega)); have hSc9 := hSc.below hBr9; have hk9 := cells5 hSc9.2.1; have hf9 := hSc9.2.1.frozen; have k9 := Y9.cell; obtain ⟨hY41, hg41⟩ := set3441 (N := N) (more s5) (segOf S st (j + 1)) hSc9.2.1; have hSc7 := hSc9.log hY41 hg41; have rP7 := (rP8.kept G9 (ne_block (g := w5.heap.size) hn8 (by omega))).kept hg41 (ne_block (g := b11) hn8 (by omega)); have hnq := new_apart (b11 := b11) (b4 := w.heap.size) hn8 (by omega : B ≤ V6.heap.size) (by omega) (by omega) (fun k hk => Nat.lt_of_lt_of_le (hown k hk) hs6))
            | ((fail_if_success (have _ := hSc9)); (with_reducible refine hat1.mono ?_); rintro e w5 ⟨q5, d5, rfl, rP5, hB5, hn5⟩; have hSc5 := hSc.below hB5; have Y5 := Blk.new w5 #[.int .u64 0, .int .u32 0, .slice none 0 0] 75; have hs5 := hB5.size)
            | ((fail_if_success (have _ := hSc9)); refine at_store_rec _ _ _ _ _ _ _ (by rfl) (by rfl) (by rfl) Y5 rfl ⟨rfl, rfl, rfl⟩ (by rfl) ?_; intro V6 Y6 G6; have hB56 : Below w5.heap.size w5 V6 := (bnew w5 (.cells #[.int .u64 0, .int .u32 0, .slice none 0 0] 75)).grown G6 (by simp) (by simp); have hSc6 := hSc5.below hB56; have hY6 := hSc6.2.1; have hX6 := hSc6.1; have hk6 := cells5 hY6; have hf6 := hY6.frozen; have k6 := Y6.cell; have hne1 : w5.heap.size ≠ b11 := (by omega); have hne2 : b11 ≠ w5.heap.size := (by omega); have hBr6 := bnext hB5 hB56; have hk46 : ∀ i, V6.cell? ⟨w.heap.size, i, none⟩ = [Value.slice p n c, .slice q r.pe.length e, .bool r.ct, .int .i64 r.lf, .bool r.dn][i]? := (by rw [← hrl]; exact hX6.cell); have hat26 := hat2 hSc6.2.2.2.1)
            | ((fail_if_success (have _ := hSc9)); (with_reducible refine (hnxj _).mono ?_); rintro e w2 ⟨rfl, hw⟩; rw [hw]; clear hw)
            | (at_builtin; refine at_push2 rfl _ _ rfl p7 c7 rs.length rs hSc7.2.2.1 rfl (by omega) rfl ⟨⟨true, N, s5, e5, P⟩, q8, d8⟩ s5 e5 P.length rfl rfl rfl rfl _ (by simp) rfl (hSc7.2.2.2.2.2.2.2.2.2.2) rP7 hPb hnq hP7 (fun k hk => by have := hSc7.2.2.2.2.2.2.2.2.2.2; rcases hk with hk | hk <;> omega) ?_; intro p9 c9 w9 hM9 hF9 hB9))
          have e9 : (rs ++ [(⟨⟨true, N, s5, e5, P⟩, q8, d8⟩ : Rv)]).length = rs.length + 1 := by simp
          refine ⟨⟨more s5, j + 1, N, f, rs ++ [⟨⟨true, N, s5, e5, P⟩, q8, d8⟩], p9, c9, by rw [e9], by rw [e9]; exact hSc7.push hM9 hF9 hB9, by omega, by omega, more_lt s5, by unfold Hid; omega, by unfold Hid; rw [e9]; omega, by unfold Hid; rw [HW2, List.map_append, List.append_assoc]; rfl⟩, by simp only [lenV]; omega⟩
        | false =>
          have hend := scan_end (rd := V) (S := S) (ep := ep) (f := f) (nx := nx) (j := j) (t := t) (.inr ⟨hA, .inr hA2⟩)

          have HW2 := HW.out
          rw [hend, List.append_nil] at HW2
          simp only [Prod.mk.injEq] at HW2
          obtain ⟨hQ1, hQ2⟩ := HW2
          subst hQ1
          obtain rfl : j = T2 := hQ2.symm
          clear HW hend

          rw [at_not hA2] at hat2
          unfold toldAt nought at hat2
          simp only [List.length_nil] at hat2
          have hat2' : ∀ {W : World}, Below w.heap.size w W → Calls Try.prog 54 #[lv ⟨ep, nx, st, segOf S st j, t⟩, rv r p c q e, .int .i64 (segOf S st (j + 1) : Int), .int .i64 0] W fun x w' => ∃ q d, x = .returned (.tuple #[.agg #[.int .u64 0, .int .u32 0, .slice q 0 d], .int .i64 0]) ∧ Reads .u8 w' q d [] ∧ Below W.heap.size W w' ∧ ∀ a, q = some a → W.heap.size ≤ a.block := fun hW => hat2 hW
          clear hjS hatc hnx h700 hbyt hrd hA hnG hrj hA2 hat2
          go_wp2_with (first
            | ((refine at_load_ll _ _ _ (by rfl) (by rfl) hY (by rfl) ?_))
            | ((refine at_load_rd _ _ _ _ _ _ _ (by rfl) (by rfl) hX (by rfl) ?_))
            | ((refine at_load_ll _ _ _ (by rfl) (by rfl) hY6 (by rfl) ?_))
            | ((refine at_load_rd _ _ _ _ _ _ _ (by rfl) (by rfl) hX6 (by rfl) ?_))
            | ((with_reducible refine hat26.mono ?_); rintro e w8 ⟨q8, d8, rfl, rP8, hB8, hn8⟩; have Y8 := Y6.below hB8; have hBr8 := bnext hBr6 hB8; have hs8 := hB8.size; have hs6 := hBr6.size; have hl6 := Y6.lt)
            | (have _ := hBr8; refine at_store_rec _ _ _ _ _ _ _ (by rfl) (by rfl) (by rfl) Y8 rfl ⟨rfl, rfl, rfl⟩ (by rfl) ?_; intro V9 Y9 G9; have hBr9 := hBr8.grown G9 hBr8.size (some_from (by omega)); have hSc9 := hSc.below hBr9; have hk9 := cells5 hSc9.2.1; have hf9 := hSc9.2.1.frozen; have k9 := Y9.cell)
            | ((with_reducible refine hat1.mono ?_); rintro e w5 ⟨q5, d5, rfl, rP5, hB5, hn5⟩; have hSc5 := hSc.below hB5; have Y5 := Blk.new w5 #[.int .u64 0, .int .u32 0, .slice none 0 0] 75; have hs5 := hB5.size)
            | (refine at_store_rec _ _ _ _ _ _ _ (by rfl) (by rfl) (by rfl) Y5 rfl ⟨rfl, rfl, rfl⟩ (by rfl) ?_; intro V6 Y6 G6; have hB56 : Below w5.heap.size w5 V6 := (bnew w5 (.cells #[.int .u64 0, .int .u32 0, .slice none 0 0] 75)).grown G6 (by simp) (by simp); have hSc6 := hSc5.below hB56; have hY6 := hSc6.2.1; have hX6 := hSc6.1; have hk6 := cells5 hY6; have hf6 := hY6.frozen; have k6 := Y6.cell; have hne1 : w5.heap.size ≠ b11 := (by omega); have hne2 : b11 ≠ w5.heap.size := (by omega); have hBr6 := bnext hB5 hB56; have hk46 : ∀ i, V6.cell? ⟨w.heap.size, i, none⟩ = [Value.slice p n c, .slice q r.pe.length e, .bool r.ct, .int .i64 r.lf, .bool r.dn][i]? := (by rw [← hrl]; exact hX6.cell); have hat26 := hat2' hSc6.2.2.2.1)
            | ((with_reducible refine (hnxj _).mono ?_); rintro e w2 ⟨rfl, hw⟩; rw [hw]; clear hw))
          go_quiet (fail)
          go_wp2
          go_ret3
          exact ⟨_, rs, rfl, (hSc9.2.2.1.1.lower' (by omega)).below (bdrewN _ _), rfl, bnext hSc9.2.2.2.1 (bdrewN _ _)⟩
end Go.Proofs.Ythgafnommcodcaa.Wal
