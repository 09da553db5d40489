/-
  A set of networks: a map whose keys are networks.
-/
import Derived.Test.YtfgndecnakfhnaaPolPlain
import Derived.Test.YtfgndecnakfhnaaRowK
import Derived.Test.YtfgndecnakfhnaaAddrEq
import Derived.Maps.RangeWalk
import Derived.Maps.OwnSet
import Derived.DeepKeys4
namespace Go.Proofs.Ytfgndecnakfhnaa.Policy
open Go.RowKit Go.Maps Go.Proofs.Ytfgndecnakfhnaa.Mem Go.Proofs.Ytfgndecnakfhnaa.Addr
set_option maxRecDepth 100000

def NOk (k : Nat × Int) : Prop := k.1 < 4294967296 ∧ Inty k.2
theorem laidOut : laidOutB Try.prog = true := by kernel_rfl
theorem rowNet : (52 : TypeId) < Try.prog.types.size := of_decide_eq_true (by kernel_rfl)
theorem wideNet : (match Try.prog.underlying 52 with | some (.array _ _) | some (.struct _) => true | _ => false) = true := by kernel_rfl
theorem law : Keyed Try.prog 52 := Keyed.of_law (deep_law_laid laidOut (m := 3) (by omega) rowNet (by kernel_rfl) wideNet)
theorem cellsNet : Try.prog.cellsOf 52 = 5 := by kernel_rfl
theorem cellsAdr : Try.prog.cellsOf 50 = 4 := by kernel_rfl
theorem cellsInt : Try.prog.cellsOf 3 = 1 := by kernel_rfl
theorem keyNet : Try.prog.keyType 52 = true := by kernel_rfl
theorem manyTypes : ∃ n, Try.prog.types.size + 1 = n + 4 := ⟨Try.prog.types.size - 3, by
  have : 3 ≤ Try.prog.types.size := of_decide_eq_true (by kernel_rfl)
  omega⟩
/-- What a network reads as where it is a key. -/
def klit (k : Nat × Int) : Lit := .string (keyBytes [.int .u8 (b0 k.1), .int .u8 (b1 k.1), .int .u8 (b2 k.1), .int .u8 (b3 k.1), .int .i64 k.2])
theorem wf_byte {x : Int} (h : 0 ≤ x ∧ x < 256) : (Lit.int .u8 x).wf = true := by
  simp [Lit.wf, IntKind.min, IntKind.max, IntKind.signed, IntKind.bits]; omega
theorem wf_inty {x : Int} (h : Inty x) : (Lit.int .i64 x).wf = true := by
  obtain ⟨h1, h2⟩ := h
  simp [Lit.wf, IntKind.min, IntKind.max, IntKind.signed, IntKind.bits]; omega
theorem lits_net (n : Nat) (c0 c1 c2 c3 c4 : Value) :
    Try.prog.keyLits (n + 4) 52 [c0, c1, c2, c3, c4] =
      (Try.prog.keyLits (n + 2) 5 [c0]).bind fun a => (Try.prog.keyLits (n + 2) 5 [c1]).bind fun b => (Try.prog.keyLits (n + 2) 5 [c2]).bind fun c => (Try.prog.keyLits (n + 2) 5 [c3]).bind fun d =>
        (Try.prog.keyLits (n + 3) 3 [c4]).map fun e => a ++ b ++ c ++ d ++ e := by
  have r : List.range 4 = [0, 1, 2, 3] := rfl
  conv => lhs; unfold Program.keyLits
  simp only [Try.underlying52, cellsNet]
  have h4 : Try.prog.keyLits (n + 3) 50 [c0, c1, c2, c3] = (Try.prog.keyLits (n + 2) 5 [c0]).bind fun a => (Try.prog.keyLits (n + 2) 5 [c1]).bind fun b => (Try.prog.keyLits (n + 2) 5 [c2]).bind fun c => (Try.prog.keyLits (n + 2) 5 [c3]).map fun d => a ++ b ++ c ++ d := by
    conv => lhs; unfold Program.keyLits
    simp only [Try.underlying50, cellsAdr, cells_u8, r]
    simp
    generalize Try.prog.keyLits (n + 2) 5 [c0] = o0
    generalize Try.prog.keyLits (n + 2) 5 [c1] = o1
    generalize Try.prog.keyLits (n + 2) 5 [c2] = o2
    generalize Try.prog.keyLits (n + 2) 5 [c3] = o3
    cases o0 <;> cases o1 <;> cases o2 <;> cases o3 <;> simp
  simp [cellsAdr, cellsInt, h4]
  cases Try.prog.keyLits (n + 2) 5 [c0] <;> cases Try.prog.keyLits (n + 2) 5 [c1] <;> cases Try.prog.keyLits (n + 2) 5 [c2] <;> cases Try.prog.keyLits (n + 2) 5 [c3] <;> cases Try.prog.keyLits (n + 3) 3 [c4] <;> simp
theorem lits_u8 (n : Nat) (c : Value) (l : List Lit) : Try.prog.keyLits (n + 1) 5 [c] = some l ↔ ∃ x, c = .int .u8 x ∧ (Lit.int .u8 x).wf = true ∧ l = [.int .u8 x] := by
  unfold Program.keyLits
  simp only [Try.underlying5]
  cases c <;> simp
  rename_i q x
  constructor
  · rintro ⟨⟨rfl, h⟩, rfl⟩; exact ⟨x, ⟨rfl, rfl⟩, h, rfl⟩
  · rintro ⟨y, ⟨rfl, rfl⟩, h, rfl⟩; exact ⟨⟨rfl, h⟩, rfl⟩
theorem lits_int (n : Nat) (c : Value) (l : List Lit) : Try.prog.keyLits (n + 1) 3 [c] = some l ↔ ∃ x, c = .int .i64 x ∧ (Lit.int .i64 x).wf = true ∧ l = [.int .i64 x] := by
  unfold Program.keyLits
  simp only [Try.underlying3]
  cases c <;> simp
  rename_i q x
  constructor
  · rintro ⟨⟨rfl, h⟩, rfl⟩; exact ⟨x, ⟨rfl, rfl⟩, h, rfl⟩
  · rintro ⟨y, ⟨rfl, rfl⟩, h, rfl⟩; exact ⟨⟨rfl, h⟩, rfl⟩
theorem formed_net (c0 c1 c2 c3 c4 : Value) : (Value.agg #[c0, c1, c2, c3, c4]).formed Try.prog 52 = true := by
  simp [Value.formed, Try.underlying52, cellsNet]
theorem keyOf_net {k : Nat × Int} (h : NOk k) : keyOf Try.prog 52 (net k.1 k.2) = some (klit k) := by
  obtain ⟨n, hn⟩ := manyTypes
  unfold keyOf net
  simp only [Try.underlying52]
  rw [if_pos (by rw [keyNet, formed_net]; rfl), hn]
  have e0 := (lits_u8 (n + 1) (.int .u8 (b0 k.1)) _).2 ⟨_, rfl, wf_byte (by have := b0_lt k.1; omega), rfl⟩
  have e1 := (lits_u8 (n + 1) (.int .u8 (b1 k.1)) _).2 ⟨_, rfl, wf_byte (by have := b1_lt k.1; omega), rfl⟩
  have e2 := (lits_u8 (n + 1) (.int .u8 (b2 k.1)) _).2 ⟨_, rfl, wf_byte (by have := b2_lt k.1; omega), rfl⟩
  have e3 := (lits_u8 (n + 1) (.int .u8 (b3 k.1)) _).2 ⟨_, rfl, wf_byte (by have := b3_lt k.1; omega), rfl⟩
  have e4 := (lits_int (n + 2) (.int .i64 k.2) _).2 ⟨_, rfl, wf_inty h.2, rfl⟩
  simp only [Value.cells]
  rw [lits_net, e0, e1, e2, e3, e4]
  rfl
theorem keyOf_inv {v : Value} {l : Lit} (h : keyOf Try.prog 52 v = some l) : ∃ k, NOk k ∧ v = net k.1 k.2 ∧ l = klit k := by
  obtain ⟨n, hn⟩ := manyTypes
  have h0 := h
  unfold keyOf at h
  simp only [Try.underlying52] at h
  split at h
  · rename_i hf
    rw [keyNet, Bool.true_and] at hf
    obtain ⟨cs, rfl⟩ : ∃ cs, v = .agg cs := by
      cases v <;> simp [Value.formed, Try.underlying52] at hf
      exact ⟨_, rfl⟩
    have hsz : cs.size = 5 := by simpa [Value.formed, Try.underlying52, cellsNet] using hf
    obtain ⟨L⟩ := cs
    match L, hsz with
    | [c0, c1, c2, c3, c4], _ =>
      rw [hn] at h
      simp only [Value.cells] at h
      rw [lits_net] at h
      obtain ⟨ls, hls, rfl⟩ := Option.map_eq_some_iff.1 h
      obtain ⟨l0, g0, hls⟩ := Option.bind_eq_some_iff.1 hls
      obtain ⟨l1, g1, hls⟩ := Option.bind_eq_some_iff.1 hls
      obtain ⟨l2, g2, hls⟩ := Option.bind_eq_some_iff.1 hls
      obtain ⟨l3, g3, hls⟩ := Option.bind_eq_some_iff.1 hls
      obtain ⟨l4, g4, rfl⟩ := Option.map_eq_some_iff.1 hls
      obtain ⟨x0, rfl, w0, rfl⟩ := (lits_u8 _ _ _).1 g0
      obtain ⟨x1, rfl, w1, rfl⟩ := (lits_u8 _ _ _).1 g1
      obtain ⟨x2, rfl, w2, rfl⟩ := (lits_u8 _ _ _).1 g2
      obtain ⟨x3, rfl, w3, rfl⟩ := (lits_u8 _ _ _).1 g3
      obtain ⟨x4, rfl, w4, rfl⟩ := (lits_int _ _ _).1 g4
      have y0 := byte_of_wf w0
      have y1 := byte_of_wf w1
      have y2 := byte_of_wf w2
      have y3 := byte_of_wf w3
      obtain ⟨z0, rfl⟩ := Int.eq_ofNat_of_zero_le y0.1
      obtain ⟨z1, rfl⟩ := Int.eq_ofNat_of_zero_le y1.1
      obtain ⟨z2, rfl⟩ := Int.eq_ofNat_of_zero_le y2.1
      obtain ⟨z3, rfl⟩ := Int.eq_ofNat_of_zero_le y3.1
      have q0 : z0 < 256 := by have := y0.2; omega
      have q1 : z1 < 256 := by have := y1.2; omega
      have q2 : z2 < 256 := by have := y2.2; omega
      have q3 : z3 < 256 := by have := y3.2; omega
      obtain ⟨f0, f1, f2, f3⟩ := num_bytes q0 q1 q2 q3
      refine ⟨(z0 * 16777216 + z1 * 65536 + z2 * 256 + z3, x4), ⟨by simp only; omega, inty_of_wf w4⟩, ?_, ?_⟩
      · simp only [net, f0, f1, f2, f3]
      · simp only [klit, f0, f1, f2, f3]
        rfl
  · cases h
theorem net_inj {j k : Nat × Int} (hj : NOk j) (hk : NOk k) (h : net j.1 j.2 = net k.1 k.2) : j = k := by
  simp only [net, Value.agg.injEq, Array.mk.injEq, List.cons.injEq, Value.int.injEq, true_and, and_true, Int.natCast_inj] at h
  obtain ⟨h0, h1, h2, h3, h4⟩ := h
  exact Prod.ext (bytes_inj hj.1 hk.1 h0 h1 h2 h3) h4
theorem klit_inj {j k : Nat × Int} (hj : NOk j) (hk : NOk k) (h : klit j = klit k) : j = k := by
  have e := keyOf_net hj
  rw [h] at e
  exact net_inj hj hk (law.inj e (keyOf_net hk))
theorem klit_key {k : Nat × Int} (hk : NOk k) : WideAt.IsKeyLit (klit k) := law.key (keyOf_net hk)
theorem klit_same {j k : Nat × Int} (hj : NOk j) (hk : NOk k) : (klit j).sameKey (klit k) = decide (j = k) := by
  by_cases h : j = k
  · subst h; rw [WideAt.sameKey_self (klit_key hj)]; simp
  · rw [decide_eq_false h, sameKey_ne fun e => h (klit_inj hj hk e)]

/-! ### What the map holds -/
/-- Block b is a map whose keys are these networks. -/
def Seen (w : World) (b : Nat) (L : List (Nat × Int)) : Prop := (∀ k ∈ L, NOk k) ∧ ∃ D : DataW Unit, w.ownsMap Try.prog 52 unitElem b L.length D ∧ ∀ k, NOk k → has D (klit k) = decide (k ∈ L)
theorem Seen.kept {w w' : World} {b : Nat} {L : List (Nat × Int)} {row : Option Nat} (h : Seen w b L) (hg : w.grownBy w' row) (hne : some b ≠ row) : Seen w' b L := by
  obtain ⟨hM, D, ho, ha⟩ := h
  exact ⟨hM, D, ho.kept hg hne, ha⟩
theorem grown_of_below {w w' : World} (h : Below w.heap.size w w') : w.grownBy w' none := ⟨h.os, h.tape, h.output, h.size, fun k hk _ => h.block k hk⟩
theorem Seen.below {w w' : World} {b : Nat} {L : List (Nat × Int)} (h : Seen w b L) (hb : Below w.heap.size w w') : Seen w' b L := h.kept (grown_of_below hb) (by simp)
theorem Seen.lt {w : World} {b : Nat} {L : List (Nat × Int)} (h : Seen w b L) : b < w.heap.size := by
  obtain ⟨_, D, ho, _⟩ := h
  exact ho.lt
theorem Seen.map {w : World} {b : Nat} {L : List (Nat × Int)} (h : Seen w b L) : ∃ es clock, w.heap[b]? = some (.map es clock) := by
  obtain ⟨_, D, ⟨es, clock, hb, _⟩, _⟩ := h
  exact ⟨es, clock, hb⟩
theorem seen_nil (w : World) : Seen (w.alloc (.map #[] 0)) w.heap.size [] := ⟨fun _ h => absurd h (by simp), .map [], World.ownsMap_made w Try.prog 52 unitElem, fun _ _ => by simp [has]⟩
theorem zeroUnit (w : World) : (zeroValue 97).run Try.prog w = .ok (.agg #[]) w := by kernel_rfl
theorem seen_look {w : World} {b : Nat} {L : List (Nat × Int)} (h : Seen w b L) {k : Nat × Int} (hk : NOk k) :
    (Instr.lookup 96 (.map (some b)) (net k.1 k.2) true).run Try.prog w = .ok (.tuple #[.agg #[], .bool (decide (k ∈ L))]) w := by
  obtain ⟨hM, D, ho, ha⟩ := h
  obtain ⟨v, ps, hrun, hv⟩ := ho.look_ok law Try.underlying96 (zeroUnit w) unitElem_mk (keyOf_net hk)
  obtain ⟨rfl, _⟩ := unitElem_inv hv
  rw [hrun, ha k hk]
theorem seen_store {w : World} {b : Nat} {L : List (Nat × Int)} (h : Seen w b L) {k : Nat × Int} (hk : NOk k) (hl : L.length ≤ 1000) :
    ∃ w', (Instr.mapUpdate 96 (.map (some b)) (net k.1 k.2) (.agg #[])).run Try.prog w = .ok () w' ∧ Seen w' b (k :: L) ∧ w.grownBy w' (some b) := by
  obtain ⟨hM, D, ho, ha⟩ := h
  obtain ⟨w', hrun, ho', hg⟩ := ho.update law Try.underlying96 (by unfold maxLen; omega) (keyOf_net hk) unitElem_mk
  refine ⟨w', hrun, ⟨fun j hj => ?_, _, ho', fun j hj => ?_⟩, hg⟩
  · rcases List.mem_cons.1 hj with rfl | hj
    · exact hk
    · exact hM j hj
  · by_cases e : j = k
    · subst e
      rw [has_put_same (ho.tidy law).isMap (klit_key hk)]; simp
    · rw [has_put_other fun q => e (klit_inj hj hk q), ha j hj]; simp [e]
end Go.Proofs.Ytfgndecnakfhnaa.Policy
