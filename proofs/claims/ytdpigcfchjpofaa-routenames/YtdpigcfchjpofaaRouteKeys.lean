/-
  A table's map in memory: its keys are networks, and what it holds is a list of routes.
-/
import Derived.Test.YtdpigcfchjpofaaRoutePlain
import Derived.Test.YtdpigcfchjpofaaRowK
import Derived.Test.YtdpigcfchjpofaaAddrEq
import Derived.Maps.RangeWalk
import Derived.DeepKeys4
namespace Go.Proofs.Ytdpigcfchjpofaa.Route
open Go.RowKit Go.Maps Go.Proofs.Ytdpigcfchjpofaa.Mem Go.Proofs.Ytdpigcfchjpofaa.Addr

theorem laidOut : laidOutB Try.prog = true := by kernel_rfl
theorem rowNet : (29 : TypeId) < Try.prog.types.size := of_decide_eq_true (by kernel_rfl)
theorem wideNet : (match Try.prog.underlying 29 with | some (.array _ _) | some (.struct _) => true | _ => false) = true := by kernel_rfl
theorem law : Keyed Try.prog 29 := Keyed.of_law (deep_law_laid laidOut (m := 3) (by omega) rowNet (by kernel_rfl) wideNet)
theorem cellsNet : Try.prog.cellsOf 29 = 5 := by kernel_rfl
theorem cellsAdr : Try.prog.cellsOf 27 = 4 := by kernel_rfl
theorem cellsInt : Try.prog.cellsOf 3 = 1 := by kernel_rfl
theorem keyNet : Try.prog.keyType 29 = true := by kernel_rfl
theorem manyTypes : ∃ n, Try.prog.types.size + 1 = n + 4 := ⟨Try.prog.types.size - 3, by
  have : 3 ≤ Try.prog.types.size := of_decide_eq_true (by kernel_rfl)
  omega⟩
/-- What a network reads as where it is a key. -/
def klit (k : Nt) : Lit := .string (keyBytes [.int .u8 (b0 k.1), .int .u8 (b1 k.1), .int .u8 (b2 k.1), .int .u8 (b3 k.1), .int .i64 k.2])
theorem wf_byte {x : Int} (h : 0 ≤ x ∧ x < 256) : (Lit.int .u8 x).wf = true := by
  simp [Lit.wf, IntKind.min, IntKind.max, IntKind.signed, IntKind.bits]; omega
theorem wf_inty {x : Int} (h : Inty x) : (Lit.int .i64 x).wf = true := by
  obtain ⟨h1, h2⟩ := h
  simp [Lit.wf, IntKind.min, IntKind.max, IntKind.signed, IntKind.bits]; omega
theorem lits_net (n : Nat) (c0 c1 c2 c3 c4 : Value) :
    Try.prog.keyLits (n + 4) 29 [c0, c1, c2, c3, c4] =
      (Try.prog.keyLits (n + 2) 5 [c0]).bind fun a => (Try.prog.keyLits (n + 2) 5 [c1]).bind fun b => (Try.prog.keyLits (n + 2) 5 [c2]).bind fun c => (Try.prog.keyLits (n + 2) 5 [c3]).bind fun d =>
        (Try.prog.keyLits (n + 3) 3 [c4]).map fun e => a ++ b ++ c ++ d ++ e := by
  have r : List.range 4 = [0, 1, 2, 3] := rfl
  conv => lhs; unfold Program.keyLits
  simp only [Try.underlying29, cellsNet]
  have h4 : Try.prog.keyLits (n + 3) 27 [c0, c1, c2, c3] = (Try.prog.keyLits (n + 2) 5 [c0]).bind fun a => (Try.prog.keyLits (n + 2) 5 [c1]).bind fun b => (Try.prog.keyLits (n + 2) 5 [c2]).bind fun c => (Try.prog.keyLits (n + 2) 5 [c3]).map fun d => a ++ b ++ c ++ d := by
    conv => lhs; unfold Program.keyLits
    simp only [Try.underlying27, cellsAdr, cells_u8, r]
    simp
    generalize Try.prog.keyLits (n + 2) 5 [c0] = o0
    generalize Try.prog.keyLits (n + 2) 5 [c1] = o1
    generalize Try.prog.keyLits (n + 2) 5 [c2] = o2
    generalize Try.prog.keyLits (n + 2) 5 [c3] = o3
    cases o0 <;> cases o1 <;> cases o2 <;> cases o3 <;> simp
  simp [cellsAdr, cellsInt, h4]
  cases Try.prog.keyLits (n + 2) 5 [c0] <;> cases Try.prog.keyLits (n + 2) 5 [c1] <;> cases Try.prog.keyLits (n + 2) 5 [c2] <;> cases Try.prog.keyLits (n + 2) 5 [c3] <;> cases Try.prog.keyLits (n + 3) 3 [c4] <;> simp
theorem lits_u8 (n : Nat) (c : Value) (l : List Lit) : Try.prog.keyLits (n + 1) 5 [c] = some l ↔ ∃ x, c = .int .u8 x ∧ (Lit.int .u8 x).wf = true ∧ l = [.int .u8 x] := by
  unfold Program.keyLits
  simp only [Try.underlying5]
  cases c <;> simp
  rename_i q x
  constructor
  · rintro ⟨⟨rfl, h⟩, rfl⟩; exact ⟨x, ⟨rfl, rfl⟩, h, rfl⟩
  · rintro ⟨y, ⟨rfl, rfl⟩, h, rfl⟩; exact ⟨⟨rfl, h⟩, rfl⟩
theorem lits_int (n : Nat) (c : Value) (l : List Lit) : Try.prog.keyLits (n + 1) 3 [c] = some l ↔ ∃ x, c = .int .i64 x ∧ (Lit.int .i64 x).wf = true ∧ l = [.int .i64 x] := by
  unfold Program.keyLits
  simp only [Try.underlying3]
  cases c <;> simp
  rename_i q x
  constructor
  · rintro ⟨⟨rfl, h⟩, rfl⟩; exact ⟨x, ⟨rfl, rfl⟩, h, rfl⟩
  · rintro ⟨y, ⟨rfl, rfl⟩, h, rfl⟩; exact ⟨⟨rfl, h⟩, rfl⟩
theorem formed_net (c0 c1 c2 c3 c4 : Value) : (Value.agg #[c0, c1, c2, c3, c4]).formed Try.prog 29 = true := by
  simp [Value.formed, Try.underlying29, cellsNet]
theorem keyOf_net {k : Nt} (h : NOk k) : keyOf Try.prog 29 (net k.1 k.2) = some (klit k) := by
  obtain ⟨n, hn⟩ := manyTypes
  unfold keyOf net
  simp only [Try.underlying29]
  rw [if_pos (by rw [keyNet, formed_net]; rfl), hn]
  have e0 := (lits_u8 (n + 1) (.int .u8 (b0 k.1)) _).2 ⟨_, rfl, wf_byte (by have := b0_lt k.1; omega), rfl⟩
  have e1 := (lits_u8 (n + 1) (.int .u8 (b1 k.1)) _).2 ⟨_, rfl, wf_byte (by have := b1_lt k.1; omega), rfl⟩
  have e2 := (lits_u8 (n + 1) (.int .u8 (b2 k.1)) _).2 ⟨_, rfl, wf_byte (by have := b2_lt k.1; omega), rfl⟩
  have e3 := (lits_u8 (n + 1) (.int .u8 (b3 k.1)) _).2 ⟨_, rfl, wf_byte (by have := b3_lt k.1; omega), rfl⟩
  have e4 := (lits_int (n + 2) (.int .i64 k.2) _).2 ⟨_, rfl, wf_inty h.2, rfl⟩
  simp only [Value.cells]
  rw [lits_net, e0, e1, e2, e3, e4]
  rfl
theorem keyOf_inv {v : Value} {l : Lit} (h : keyOf Try.prog 29 v = some l) : ∃ k, NOk k ∧ v = net k.1 k.2 ∧ l = klit k := by
  obtain ⟨n, hn⟩ := manyTypes
  have h0 := h
  unfold keyOf at h
  simp only [Try.underlying29] at h
  split at h
  · rename_i hf
    rw [keyNet, Bool.true_and] at hf
    obtain ⟨cs, rfl⟩ : ∃ cs, v = .agg cs := by
      cases v <;> simp [Value.formed, Try.underlying29] at hf
      exact ⟨_, rfl⟩
    have hsz : cs.size = 5 := by simpa [Value.formed, Try.underlying29, cellsNet] using hf
    obtain ⟨L⟩ := cs
    match L, hsz with
    | [c0, c1, c2, c3, c4], _ =>
      rw [hn] at h
      simp only [Value.cells] at h
      rw [lits_net] at h
      obtain ⟨ls, hls, rfl⟩ := Option.map_eq_some_iff.1 h
      obtain ⟨l0, g0, hls⟩ := Option.bind_eq_some_iff.1 hls
      obtain ⟨l1, g1, hls⟩ := Option.bind_eq_some_iff.1 hls
      obtain ⟨l2, g2, hls⟩ := Option.bind_eq_some_iff.1 hls
      obtain ⟨l3, g3, hls⟩ := Option.bind_eq_some_iff.1 hls
      obtain ⟨l4, g4, rfl⟩ := Option.map_eq_some_iff.1 hls
      obtain ⟨x0, rfl, w0, rfl⟩ := (lits_u8 _ _ _).1 g0
      obtain ⟨x1, rfl, w1, rfl⟩ := (lits_u8 _ _ _).1 g1
      obtain ⟨x2, rfl, w2, rfl⟩ := (lits_u8 _ _ _).1 g2
      obtain ⟨x3, rfl, w3, rfl⟩ := (lits_u8 _ _ _).1 g3
      obtain ⟨x4, rfl, w4, rfl⟩ := (lits_int _ _ _).1 g4
      have y0 := byte_of_wf w0
      have y1 := byte_of_wf w1
      have y2 := byte_of_wf w2
      have y3 := byte_of_wf w3
      obtain ⟨z0, rfl⟩ := Int.eq_ofNat_of_zero_le y0.1
      obtain ⟨z1, rfl⟩ := Int.eq_ofNat_of_zero_le y1.1
      obtain ⟨z2, rfl⟩ := Int.eq_ofNat_of_zero_le y2.1
      obtain ⟨z3, rfl⟩ := Int.eq_ofNat_of_zero_le y3.1
      have q0 : z0 < 256 := by have := y0.2; omega
      have q1 : z1 < 256 := by have := y1.2; omega
      have q2 : z2 < 256 := by have := y2.2; omega
      have q3 : z3 < 256 := by have := y3.2; omega
      obtain ⟨f0, f1, f2, f3⟩ := num_bytes q0 q1 q2 q3
      refine ⟨(z0 * 16777216 + z1 * 65536 + z2 * 256 + z3, x4), ⟨by simp only; omega, inty_of_wf w4⟩, ?_, ?_⟩
      · simp only [net, f0, f1, f2, f3]
      · simp only [klit, f0, f1, f2, f3]
        rfl
  · cases h
theorem net_inj {j k : Nt} (hj : NOk j) (hk : NOk k) (h : net j.1 j.2 = net k.1 k.2) : j = k := by
  simp only [net, Value.agg.injEq, Array.mk.injEq, List.cons.injEq, Value.int.injEq, true_and, and_true, Int.natCast_inj] at h
  obtain ⟨h0, h1, h2, h3, h4⟩ := h
  exact Prod.ext (bytes_inj hj.1 hk.1 h0 h1 h2 h3) h4
theorem klit_inj {j k : Nt} (hj : NOk j) (hk : NOk k) (h : klit j = klit k) : j = k := by
  have e := keyOf_net hj
  rw [h] at e
  exact net_inj hj hk (law.inj e (keyOf_net hk))
theorem klit_key {k : Nt} (hk : NOk k) : WideAt.IsKeyLit (klit k) := law.key (keyOf_net hk)
theorem klit_same {j k : Nt} (hj : NOk j) (hk : NOk k) : (klit j).sameKey (klit k) = decide (j = k) := by
  by_cases h : j = k
  · subst h; rw [WideAt.sameKey_self (klit_key hj)]; simp
  · rw [decide_eq_false h, sameKey_ne fun e => h (klit_inj hj hk e)]

/-! ### What the map holds -/
/-- The map as it is read, and a list of routes, say the same. -/
def Ag (D : DataW Unit) (M : List Rt) : Prop :=
  (∀ k, NOk k → has D (klit k) = hasM M k) ∧ (∀ r ∈ M, ∀ z, D.atKey (klit (kof r)) z = .lit (.int .i64 r.2.2)) ∧ size D = M.length
theorem ag_nil : Ag (.map []) [] := ⟨fun _ _ => rfl, by simp, rfl⟩
theorem ag_put {D : DataW Unit} {M : List Rt} {r : Rt} (hD : Tidy D) (hM : Good M) (hr : ROk r) (h : Ag D M) : Ag (D.put (klit (kof r)) (.lit (.int .i64 r.2.2))) (insM M r) := by
  refine ⟨fun k hk => ?_, fun x hx z => ?_, ?_⟩
  · rw [has_ins]
    by_cases e : k = kof r
    · subst e
      rw [has_put_same hD.isMap (klit_key hk)]; simp
    · rw [has_put_other fun q => e (klit_inj hk hr.1 q), h.1 k hk]; simp [e]
  · rcases mem_ins.1 hx with rfl | ⟨hx, hne⟩
    · exact atKey_put_same hD.isMap (klit_key hr.1) _ _
    · rw [atKey_put_other fun q => hne (klit_inj (hM.2 x hx).1 hr.1 q)]
      exact h.2.1 x hx z
  · rw [size_put hD, len_ins hM.1, h.1 _ hr.1, h.2.2]
theorem ag_del {D : DataW Unit} {M : List Rt} {k : Nt} (hD : Tidy D) (hM : Good M) (hk : NOk k) (h : Ag D M) : Ag (D.del (klit k)) (delM M k) := by
  refine ⟨fun j hj => ?_, fun x hx z => ?_, ?_⟩
  · rw [has_del]
    by_cases e : j = k
    · subst e
      rw [has_del_same]; simp
    · rw [has_del_other fun q => e (klit_inj hj hk q), h.1 j hj]; simp [e]
  · obtain ⟨hx, hne⟩ := mem_del.1 hx
    rw [atKey_del_other fun q => hne (klit_inj (hM.2 x hx).1 hk q)]
    exact h.2.1 x hx z
  · have h1 := size_del (k := klit k) hD
    rw [h.1 k hk, h.2.2] at h1
    by_cases e : hasM M k = true
    · have := len_del hM.1 e
      rw [if_pos e] at h1
      omega
    · rw [if_neg e] at h1
      rw [del_none (by simpa using e)]
      exact h1

/-- Block b is a map that holds these routes. -/
def Tab (w : World) (b : Nat) (M : List Rt) : Prop := Good M ∧ ∃ D : DataW Unit, w.ownsMap Try.prog 29 (plainElem Try.prog 3) b M.length D ∧ Ag D M
/-- The table at g: its one field leads to the map in block b. -/
def TabAt (w : World) (g b : Nat) (M : List Rt) : Prop := w.cell? ⟨g, 0, none⟩ = some (.map (some b)) ∧ Tab w b M

theorem tight {w : World} {b n : Nat} {D : DataW Unit} (h : w.ownsMap Try.prog 29 (plainElem Try.prog 3) b n D) : w.ownsMap Try.prog 29 (plainElem Try.prog 3) b (size D) D := by
  obtain ⟨es, clock, hb, F, _, rfl⟩ := h
  exact ⟨es, clock, hb, F, by simp [size, length_sorted], rfl⟩
theorem tab_mk {w : World} {b n : Nat} {D : DataW Unit} {M : List Rt} (hM : Good M) (h : w.ownsMap Try.prog 29 (plainElem Try.prog 3) b n D) (ha : Ag D M) : Tab w b M :=
  ⟨hM, D, by have := tight h; rw [ha.2.2] at this; exact this, ha⟩
theorem Tab.map {w : World} {b : Nat} {M : List Rt} (h : Tab w b M) : ∃ es clock, w.heap[b]? = some (.map es clock) := by
  obtain ⟨_, D, ⟨es, clock, hb, _⟩, _⟩ := h
  exact ⟨es, clock, hb⟩
theorem Tab.lt {w : World} {b : Nat} {M : List Rt} (h : Tab w b M) : b < w.heap.size := by
  obtain ⟨_, D, ho, _⟩ := h
  exact ho.lt
theorem Tab.kept {w w' : World} {b : Nat} {M : List Rt} {row : Option Nat} (h : Tab w b M) (hg : w.grownBy w' row) (hne : some b ≠ row) : Tab w' b M := by
  obtain ⟨hM, D, ho, ha⟩ := h
  exact ⟨hM, D, ho.kept hg hne, ha⟩
theorem grown_of_below {w w' : World} (h : Below w.heap.size w w') : w.grownBy w' none := ⟨h.os, h.tape, h.output, h.size, fun k hk _ => h.block k hk⟩
theorem Tab.below {w w' : World} {b : Nat} {M : List Rt} (h : Tab w b M) (hb : Below w.heap.size w w') : Tab w' b M := h.kept (grown_of_below hb) (by simp)
theorem TabAt.lt {w : World} {g b : Nat} {M : List Rt} (h : TabAt w g b M) : g < w.heap.size := World.block_lt_of_cell? w _ h.1
theorem TabAt.ne {w : World} {g b c : Nat} {M N : List Rt} (h : TabAt w g b M) (k : Tab w c N) : g ≠ c := by
  rintro rfl
  obtain ⟨es, clock, hb⟩ := k.map
  have := h.1
  simp [World.cell?, hb] at this
theorem TabAt.kept {w w' : World} {g b c : Nat} {M N : List Rt} (h : TabAt w g b M) (k : Tab w c N) (hg : w.grownBy w' (some c)) (hne : b ≠ c) : TabAt w' g b M :=
  ⟨(World.cell?_of_block (w := w) (hg.block g h.lt (by simpa using h.ne k))).trans h.1, h.2.kept hg (by simpa using hne)⟩
theorem TabAt.below {w w' : World} {g b : Nat} {M : List Rt} (h : TabAt w g b M) (hb : Below w.heap.size w w') : TabAt w' g b M :=
  ⟨(hb.cell (p := ⟨g, 0, none⟩) h.lt).trans h.1, h.2.below hb⟩
/-- Behind a change of its own map. -/
theorem TabAt.turned {w w' : World} {g b : Nat} {M N : List Rt} (h : TabAt w g b M) (hg : w.grownBy w' (some b)) (k : Tab w' b N) : TabAt w' g b N :=
  ⟨(World.cell?_of_block (w := w) (hg.block g h.lt (by simpa using h.ne h.2))).trans h.1, k⟩
/-- What is below stays below behind a change of a map that is the call's own. -/
theorem below_turn {B : Nat} {a w w' : World} {b : Nat} (h : Below B a w) (hg : w.grownBy w' (some b)) (hB : B ≤ w.heap.size) (hb : B ≤ b) : Below B a w' :=
  h.grown hg hB fun k hk => by simp at hk; omega

/-! ### What is done with it -/
theorem zeroInt (w : World) : (zeroValue 3).run Try.prog w = .ok (.int .i64 0) w := by kernel_rfl
theorem tab_look {w : World} {b : Nat} {M : List Rt} (h : Tab w b M) {k : Nt} (hk : NOk k) :
    ∃ c, (Instr.lookup 54 (.map (some b)) (net k.1 k.2) true).run Try.prog w = .ok (.tuple #[.int .i64 c, .bool (hasM M k)]) w := by
  obtain ⟨hM, D, ho, ha⟩ := h
  obtain ⟨v, ps, hrun, hv⟩ := ho.look_ok law Try.underlying54 (zeroInt w) (plainElem_int Try.underlying3 (by decide)) (keyOf_net hk)
  obtain ⟨c, rfl, _, _⟩ := plainElem_int_inv Try.underlying3 hv
  exact ⟨c, by rw [hrun, ha.1 k hk]⟩
theorem tab_len {w : World} {b : Nat} {M : List Rt} (h : Tab w b M) (ty : TypeId) : (Builtin.len_ #[54] ty #[.map (some b)]).run Try.prog w = .ok (.int .i64 M.length) w := by
  obtain ⟨hM, D, ho, ha⟩ := h
  rw [ho.len Try.underlying54 ty, ha.2.2]
theorem tab_store {w : World} {b : Nat} {M : List Rt} (h : Tab w b M) {r : Rt} (hr : ROk r) (hl : M.length ≤ 1000) :
    ∃ w', (Instr.mapUpdate 54 (.map (some b)) (net r.1 r.2.1) (.int .i64 r.2.2)).run Try.prog w = .ok () w' ∧ Tab w' b (insM M r) ∧ w.grownBy w' (some b) := by
  obtain ⟨hM, D, ho, ha⟩ := h
  obtain ⟨w', hrun, ho', hg⟩ := ho.update law Try.underlying54 (by unfold maxLen; omega) (keyOf_net hr.1) (plainElem_int Try.underlying3 (wf_inty hr.2))
  exact ⟨w', hrun, tab_mk (good_ins hM hr) ho' (ag_put (ho.tidy law) hM hr ha), hg⟩
theorem tab_drop {w : World} {b : Nat} {M : List Rt} (h : Tab w b M) {k : Nt} (hk : NOk k) (ty : TypeId) :
    ∃ w', (Builtin.delete_ #[54, 29] ty #[.map (some b), net k.1 k.2]).run Try.prog w = .ok (.tuple #[]) w' ∧ Tab w' b (delM M k) ∧ w.grownBy w' (some b) := by
  obtain ⟨hM, D, ho, ha⟩ := h
  obtain ⟨w', hrun, ho', hg⟩ := ho.drop law Try.underlying54 (keyOf_net hk) ty
  exact ⟨w', hrun, tab_mk (good_del hM k) ho' (ag_del (ho.tidy law) hM hk ha), hg.grown⟩
end Go.Proofs.Ytdpigcfchjpofaa.Route
