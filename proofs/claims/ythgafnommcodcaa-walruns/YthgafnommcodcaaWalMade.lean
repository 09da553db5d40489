/-
  Records that a law has made, beside a disk and a log that turn.
-/
import Derived.Test.YthgafnommcodcaaWalAlive
namespace Go.Proofs.Ythgafnommcodcaa.Wal
open Go.RowKit Go.Proofs.Ythgafnommcodcaa.Mem Go.Proofs.Ythgafnommcodcaa.Sect Go.Proofs.Ythgafnommcodcaa.Frame Go.Proofs.Ythgafnommcodcaa.Disk Go.Proofs.Ythgafnommcodcaa.Area
set_option maxRecDepth 100000

/-- Records in a row of one's own; the row and the payloads lie outside of the blocks of T. -/
def Made (w : World) (B : Nat) (T : Nat → Prop) (v : Value) (rs : List Rv) : Prop := Rows w B v rs ∧ Pays T w rs ∧ ∀ k, ownOf v k → ¬ T k
section
variable {w w' : World} {B : Nat} {T T' : Nat → Prop} {v v' : Value} {rs : List Rv}
theorem Made.below (h : Made w B T v rs) (hb : Below w.heap.size w w') : Made w' B T v rs := ⟨h.1.below hb, h.2.1.below hb, h.2.2⟩
theorem Made.fr (h : Made w B T v rs) (hF : Fr T w w') : Made w' B T v rs := by
  obtain ⟨⟨h1, h2, h3⟩, h4, h5⟩ := h
  have h6 := h4.fr hF
  exact ⟨⟨own_fr h1 hF h5, fun r hr => ⟨(h6 r hr).1, (h2 r hr).2⟩, h3⟩, h6, h5⟩
theorem Made.more (h : Made w B T v rs) (hT : ∀ k, T' k → T k ∨ w.heap.size ≤ k) : Made w B T' v rs := by
  refine ⟨h.1, h.2.1.more hT, fun k hk q => ?_⟩
  rcases hT k q with q | q
  · exact h.2.2 k hk q
  · have := (h.1.lt k hk).2; omega
theorem made_nil (w : World) (T : Nat → Prop) (hT : ∀ k, T k → k < w.heap.size) : Made (w.alloc (.cells #[] 75)) w.heap.size T (.slice (some ⟨w.heap.size, 0, none⟩) 0 0) [] :=
  ⟨⟨lit_none_k (α := Rv) (enc := rc) w, Pays.nil _ _, fun _ h => by cases h⟩, Pays.nil _ _, fun k hk q => by
    obtain rfl : w.heap.size = k := by simpa [ownOf, Value.ownBlock] using hk
    exact Nat.lt_irrefl _ (hT _ q)⟩
theorem made_rows (h : Rows w B v rs) (hT : ∀ k, T k → k < B) : Made w B T v rs :=
  ⟨h, fun r hr => ⟨(h.2.1 r hr).1, (h.2.1 r hr).2.1, off_fresh (h.2.2 r hr) hT, (h.2.1 r hr).2.2.2⟩, fun k hk q => by
    have := (h.lt k hk).1
    have := hT k q
    omega⟩
theorem Made.lower {B' : Nat} (h : Made w B T v rs) (hB : B' ≤ B) : Made w B' T v rs := ⟨⟨own_lower h.1.1 hB, h.1.2.1, h.1.2.2.lower hB⟩, h.2⟩
theorem Fr.mono {U : Nat → Prop} (h : Fr T w w') (hU : ∀ k, T k → U k) : Fr U w w' := ⟨h.1, h.2.1, h.2.2.1, h.2.2.2.1, fun k hk hs => h.2.2.2.2 k hk fun q => hs (hU k q)⟩
theorem Made.step (h : Made w B T v rs) (hF : Fr T w w') (hT : ∀ k, T' k → T k ∨ w.heap.size ≤ k) : Made w' B T' v rs :=
  ((h.more (T' := fun k => T k ∨ T' k) (fun k hk => by rcases hk with hk | hk; exact .inl hk; exact hT k hk)).fr (Fr.mono hF fun _ hk => .inl hk)).more fun _ hk => .inl (.inr hk)
/-- One more. -/
theorem Made.push {w0 : World} {r : Rv} (h : Made w B T v rs) (hb : Below w.heap.size w w0) (h1 : Reads .u8 w0 r.q r.d r.g.p) (h2 : ∀ c ∈ r.g.p, Byte c) (h3 : ∀ a, r.q = some a → B ≤ a.block ∧ w.heap.size ≤ a.block) (h4 : r.g.p.length ≤ 700) (hT : ∀ k, T k → k < w.heap.size)
    (ho : w'.ownsRow B 75 3 v' (rs.length + 1) ((rs ++ [r]).flatMap rc)) (hg : w0.grownBy w' v.ownBlock) (hl : ∀ k, v'.ownBlock = some k → v.ownBlock = some k ∨ w0.heap.size ≤ k) : Made w' B T v' (rs ++ [r]) := by
  have hz : Pays (ownOf v) w0 [r] := (Pays.nil _ _).snoc (rs := []) h1 h2 (off_fresh (fun a ha => (h3 a ha).2) fun k hk => (h.1.lt k hk).2) h4
  have hz2 : Pays T w0 [r] := (Pays.nil _ _).snoc (rs := []) h1 h2 (off_fresh (fun a ha => (h3 a ha).2) hT) h4
  have hR := h.1.more hb hz (fun x hx a ha => by rw [List.mem_singleton] at hx; subst hx; exact (h3 a ha).1) rfl ho hg hl
  refine ⟨hR, fun x hx => ⟨(hR.2.1 x hx).1, (hR.2.1 x hx).2.1, ?_, (hR.2.1 x hx).2.2.2⟩, fun k hk q => ?_⟩
  · exact (((h.2.1.below hb).app hz2) x hx).2.2.1
  · rcases hl k hk with q2 | q2
    · exact h.2.2 k q2 q
    · have := hT k q
      have := hb.size
      omega
end
/-- A log and its disk stay while what is none of them turns. -/
theorem Lg.fr {B g gl n S st ep nx0 j t safe : Nat} {S0 U : Nat → Prop} {w w' : World} {d : Dsk} {ps : List (List Int)} (h : Lg B S0 w g gl n S st ep nx0 d j t ps safe) (hF : Fr U w w') (hU : ∀ k, U k → ¬ (S0 k ∨ k = gl)) : Lg B S0 w' g gl n S st ep nx0 d j t ps safe :=
  ⟨dk_fr h.1 hF fun k hk q => hU k q (.inl hk), hF.blk h.2.1 fun q => hU gl q (.inr rfl), h.2.2⟩
theorem tells_snoc (ep : Nat) : ∀ (nx : Nat) (ps : List (List Int)) (p : List Int), tells ep nx (ps ++ [p]) = tells ep nx ps ++ [⟨true, size p.length, nx + ps.length, ep, p⟩]
  | nx, [], p => by simp [tells]
  | nx, q :: r, p => by
    show _ :: tells ep (nx + 1) (r ++ [p]) = _ :: tells ep (nx + 1) r ++ _
    rw [tells_snoc ep (nx + 1) r p]
    simp only [List.length_cons, List.cons_append]
    rw [show nx + 1 + r.length = nx + (r.length + 1) by omega]
/-- So many bytes as are asked. -/
theorem payload_nat (x c : Int) (w : World) {m : Nat} (hm : payN x = m) :
    Calls Try.prog 14 #[.int .i64 x, .int .u8 c] w fun e w' => ∃ g, e = .returned (.slice (some ⟨g, 0, none⟩) m m) ∧ Reads .u8 w' (some ⟨g, 0, none⟩) m (pay x c) ∧ (w.heap.size ≤ g ∧ g < w'.heap.size) ∧ Below w.heap.size w w' := by
  have h := payload_any x c w
  rw [pay_len, hm] at h
  exact h
/-- A record's row, one more. -/
theorem at_push {o : Oper} {a : Act} {W : World} {ops : Array Oper} {rest : List Oper} {Q : Exit → Act → World → Prop} (hgd : o.guard = none) (x y : Operand) (ho : o.op = .call { callee := .builtin .append, args := #[x, y], argTypes := #[30, 30] })
    {w0 : World} {B : Nat} {T : Nat → Prop} (p8 : Option Addr) (c8 L : Nat) (rs : List Rv) (hM : Made w0 B T (.slice p8 L c8) rs) (hL : rs.length = L) (hl : L ≤ 1000) (hx : a.eval x = .slice p8 L c8) (r : Rv) (s e m : Nat) (h1 : r.g.s = s) (h2 : r.g.e = e) (h3 : r.g.p.length = m) (hW : W = w0.alloc (.cells #[.int .u64 (s : Int), .int .u32 (e : Int), .slice r.q m r.d] 75)) (hy : a.eval y = .slice (some ⟨w0.heap.size, 0, none⟩) 1 1)
    (hB : B ≤ w0.heap.size) (k1 : Reads .u8 w0 r.q r.d r.g.p) (k2 : ∀ c ∈ r.g.p, Byte c) (k3 : ∀ a, r.q = some a → B ≤ a.block ∧ (∀ k, (T k ∨ ownOf (.slice p8 L c8) k) → k ≠ a.block)) (k4 : r.g.p.length ≤ 700) (hT : ∀ k, T k → k < w0.heap.size)
    (h : ∀ p' c' w', Made w' B T (.slice p' (L + 1) c') (rs ++ [r]) → Fr (ownOf (.slice p8 L c8)) w0 w' → Below B w0 w' → wpList Try.prog ops Q rest (a.put o.dst (.slice p' (L + 1) c')) w') : wpList Try.prog ops Q (o :: rest) a W := by
  subst hW h1 h2 h3 hL
  have hb := bnew w0 (.cells #[.int .u64 (r.g.s : Int), .int .u32 (r.g.e : Int), .slice r.q r.g.p.length r.d] 75)
  refine at_append_rec hgd x y ho B _ rs.length rs hx (hM.below hb).1.1 _ 1 1 [r] hy rfl (lit_rk rfl) (by omega) (by simp; omega) fun v' w' ho' hg' hl' => ?_
  have hz : Pays (ownOf (.slice p8 rs.length c8)) w0 [r] := (Pays.nil _ _).snoc (rs := []) k1 k2 (fun _ a ha q => (k3 a ha).2 _ (.inr q) rfl) k4
  have hz2 : Pays T w0 [r] := (Pays.nil _ _).snoc (rs := []) k1 k2 (fun _ a ha q => (k3 a ha).2 _ (.inl q) rfl) k4
  have hR := (hM.1.below hb).more (Below.refl _ _) (hz.below hb) (fun x hx a ha => by rw [List.mem_singleton] at hx; subst hx; exact (k3 a ha).1) rfl ho' hg' hl'
  obtain ⟨p', c', rfl, -, -⟩ := own_rk rc_len (by decide) hR.1
  rw [List.length_append, List.length_singleton] at hR ho' hl' ⊢
  refine h p' c' w' ⟨hR, fun x hx => ⟨(hR.2.1 x hx).1, (hR.2.1 x hx).2.1, ((hM.2.1.app hz2) x hx).2.2.1, (hR.2.1 x hx).2.2.2⟩, fun k hk q => ?_⟩ ((Fr.of_below hb _).trans (Fr.of_grown hg' fun k hk => hk) fun _ h => .inl h) ?_
  · rcases hl' k hk with q2 | q2
    · exact hM.2.2 k q2 q
    · have := hT k q
      have := hb.size
      omega
  · exact ((bnew w0 _).mono hB).grown hg' (by simp; omega) fun k hk => (hM.1.lt k hk).1
theorem step_set {S0 S7 : Nat → Prop} {gl : Nat} {W : World} (h : ∀ k, S7 k → S0 k ∨ W.heap.size ≤ k) : ∀ k, (S7 k ∨ k = gl) → (S0 k ∨ k = gl) ∨ W.heap.size ≤ k := fun k hk => by
  rcases hk with hk | hk
  · rcases h k hk with q | q
    · exact .inl (.inl q)
    · exact .inr q
  · exact .inl (.inr hk)
theorem apart_set {S0 S7 O : Nat → Prop} {gl b g6 : Nat} {W : World} (h : ∀ k, S7 k → S0 k ∨ W.heap.size ≤ k) (hm : ∀ k, (S0 k ∨ k = gl) → k < b) (ho : ∀ k, O k → k < b) (hb : b ≤ g6) (hg : g6 < W.heap.size) : ∀ k, ((S7 k ∨ k = gl) ∨ O k) → k ≠ g6 := fun k hk => by
  rcases hk with (hk | hk) | hk
  · rcases h k hk with q | q
    · have := hm k (.inl q); omega
    · omega
  · have := hm k (.inr hk); omega
  · have := ho k hk; omega
theorem Made.rk {w : World} {B L c : Nat} {T : Nat → Prop} {p : Option Addr} {rs : List Rv} (h : Made w B T (.slice p L c) rs) : RK rc w p c rs := by
  obtain ⟨p', c', e, hk, -⟩ := own_rk rc_len (by decide) h.1.1
  simp only [Value.slice.injEq] at e
  obtain ⟨rfl, -, rfl⟩ := e
  exact hk
/-- Records that are told alike are the same. -/
theorem made_same {w : World} {B B' L L' c c' : Nat} {T T' : Nat → Prop} {p p' : Option Addr} {rs zs : List Rv} (h : Made w B T (.slice p L c) rs) (h' : Made w B' T' (.slice p' L' c') zs) (hl : rs.length = L) (hl' : zs.length = L') (h1 : L ≤ 10000) (h2 : L' ≤ 10000) (he : rs.map (·.g) = zs.map (·.g)) :
    Calls Try.prog 26 #[.slice p L c, .slice p' L' c'] w fun x w' => x = .returned (.bool true) ∧ Below w.heap.size w w' := by
  have hs := ref_SameRecords p L c rs hl p' L' c' zs hl' h1 h2 w h.rk h'.rk h.2.1 h'.2.1
  have e : rs.map key = zs.map key := by
    have := congrArg (List.map fun g : Got => (g.s, g.e, g.p)) he
    rw [List.map_map, List.map_map] at this
    exact this
  rw [decide_eq_true e] at hs
  exact hs
end Go.Proofs.Ythgafnommcodcaa.Wal
