/-
  Policies together: All.
-/
import Derived.Test.YtnaofcggdjbocaaPolPlain
import Derived.Test.YtnaofcggdjbocaaBlk
import Derived.Test.YtnaofcggdjbocaaAddrEq
import Derived.Maps.RangeWalk
import Derived.Maps.OwnSet
import Derived.DeepKeys4
import Derived.Test.YtnaofcggdjbocaaPolRight
/-
  A set of networks: a map whose keys are networks.
-/
namespace Go.Proofs.Ytnaofcggdjbocaa.Policy
open Go.RowKit Go.Maps Go.Proofs.Ytnaofcggdjbocaa.Mem Go.Proofs.Ytnaofcggdjbocaa.Addr
set_option maxRecDepth 100000

def NOk (k : Nat × Int) : Prop := k.1 < 4294967296 ∧ Inty k.2
theorem laidOut : laidOutB Try.prog = true := by kernel_rfl
theorem rowNet : (45 : TypeId) < Try.prog.types.size := of_decide_eq_true (by kernel_rfl)
theorem wideNet : (match Try.prog.underlying 45 with | some (.array _ _) | some (.struct _) => true | _ => false) = true := by kernel_rfl
theorem law : Keyed Try.prog 45 := Keyed.of_law (deep_law_laid laidOut (m := 3) (by omega) rowNet (by kernel_rfl) wideNet)
theorem cellsNet : Try.prog.cellsOf 45 = 5 := by kernel_rfl
theorem cellsAdr : Try.prog.cellsOf 43 = 4 := by kernel_rfl
theorem cellsInt : Try.prog.cellsOf 3 = 1 := by kernel_rfl
theorem keyNet : Try.prog.keyType 45 = true := by kernel_rfl
theorem manyTypes : ∃ n, Try.prog.types.size + 1 = n + 4 := ⟨Try.prog.types.size - 3, by
  have : 3 ≤ Try.prog.types.size := of_decide_eq_true (by kernel_rfl)
  omega⟩
/-- What a network reads as where it is a key. -/
def klit (k : Nat × Int) : Lit := .string (keyBytes [.int .u8 (b0 k.1), .int .u8 (b1 k.1), .int .u8 (b2 k.1), .int .u8 (b3 k.1), .int .i64 k.2])
theorem wf_byte {x : Int} (h : 0 ≤ x ∧ x < 256) : (Lit.int .u8 x).wf = true := by
  simp [Lit.wf, IntKind.min, IntKind.max, IntKind.signed, IntKind.bits]; omega
theorem wf_inty {x : Int} (h : Inty x) : (Lit.int .i64 x).wf = true := by
  obtain ⟨h1, h2⟩ := h
  simp [Lit.wf, IntKind.min, IntKind.max, IntKind.signed, IntKind.bits]; omega
theorem lits_net (n : Nat) (c0 c1 c2 c3 c4 : Value) :
    Try.prog.keyLits (n + 4) 45 [c0, c1, c2, c3, c4] =
      (Try.prog.keyLits (n + 2) 5 [c0]).bind fun a => (Try.prog.keyLits (n + 2) 5 [c1]).bind fun b => (Try.prog.keyLits (n + 2) 5 [c2]).bind fun c => (Try.prog.keyLits (n + 2) 5 [c3]).bind fun d =>
        (Try.prog.keyLits (n + 3) 3 [c4]).map fun e => a ++ b ++ c ++ d ++ e := by
  have r : List.range 4 = [0, 1, 2, 3] := rfl
  conv => lhs; unfold Program.keyLits
  simp only [Try.underlying45, cellsNet]
  have h4 : Try.prog.keyLits (n + 3) 43 [c0, c1, c2, c3] = (Try.prog.keyLits (n + 2) 5 [c0]).bind fun a => (Try.prog.keyLits (n + 2) 5 [c1]).bind fun b => (Try.prog.keyLits (n + 2) 5 [c2]).bind fun c => (Try.prog.keyLits (n + 2) 5 [c3]).map fun d => a ++ b ++ c ++ d := by
    conv => lhs; unfold Program.keyLits
    simp only [Try.underlying43, cellsAdr, cells_u8, r]
    simp
    generalize Try.prog.keyLits (n + 2) 5 [c0] = o0
    generalize Try.prog.keyLits (n + 2) 5 [c1] = o1
    generalize Try.prog.keyLits (n + 2) 5 [c2] = o2
    generalize Try.prog.keyLits (n + 2) 5 [c3] = o3
    cases o0 <;> cases o1 <;> cases o2 <;> cases o3 <;> simp
  simp [cellsAdr, cellsInt, h4]
  cases Try.prog.keyLits (n + 2) 5 [c0] <;> cases Try.prog.keyLits (n + 2) 5 [c1] <;> cases Try.prog.keyLits (n + 2) 5 [c2] <;> cases Try.prog.keyLits (n + 2) 5 [c3] <;> cases Try.prog.keyLits (n + 3) 3 [c4] <;> simp
theorem lits_u8 (n : Nat) (c : Value) (l : List Lit) : Try.prog.keyLits (n + 1) 5 [c] = some l ↔ ∃ x, c = .int .u8 x ∧ (Lit.int .u8 x).wf = true ∧ l = [.int .u8 x] := by
  unfold Program.keyLits
  simp only [Try.underlying5]
  cases c <;> simp
  rename_i q x
  constructor
  · rintro ⟨⟨rfl, h⟩, rfl⟩; exact ⟨x, ⟨rfl, rfl⟩, h, rfl⟩
  · rintro ⟨y, ⟨rfl, rfl⟩, h, rfl⟩; exact ⟨⟨rfl, h⟩, rfl⟩
theorem lits_int (n : Nat) (c : Value) (l : List Lit) : Try.prog.keyLits (n + 1) 3 [c] = some l ↔ ∃ x, c = .int .i64 x ∧ (Lit.int .i64 x).wf = true ∧ l = [.int .i64 x] := by
  unfold Program.keyLits
  simp only [Try.underlying3]
  cases c <;> simp
  rename_i q x
  constructor
  · rintro ⟨⟨rfl, h⟩, rfl⟩; exact ⟨x, ⟨rfl, rfl⟩, h, rfl⟩
  · rintro ⟨y, ⟨rfl, rfl⟩, h, rfl⟩; exact ⟨⟨rfl, h⟩, rfl⟩
theorem formed_net (c0 c1 c2 c3 c4 : Value) : (Value.agg #[c0, c1, c2, c3, c4]).formed Try.prog 45 = true := by
  simp [Value.formed, Try.underlying45, cellsNet]
theorem keyOf_net {k : Nat × Int} (h : NOk k) : keyOf Try.prog 45 (net k.1 k.2) = some (klit k) := by
  obtain ⟨n, hn⟩ := manyTypes
  unfold keyOf net
  simp only [Try.underlying45]
  rw [if_pos (by rw [keyNet, formed_net]; rfl), hn]
  have e0 := (lits_u8 (n + 1) (.int .u8 (b0 k.1)) _).2 ⟨_, rfl, wf_byte (by have := b0_lt k.1; omega), rfl⟩
  have e1 := (lits_u8 (n + 1) (.int .u8 (b1 k.1)) _).2 ⟨_, rfl, wf_byte (by have := b1_lt k.1; omega), rfl⟩
  have e2 := (lits_u8 (n + 1) (.int .u8 (b2 k.1)) _).2 ⟨_, rfl, wf_byte (by have := b2_lt k.1; omega), rfl⟩
  have e3 := (lits_u8 (n + 1) (.int .u8 (b3 k.1)) _).2 ⟨_, rfl, wf_byte (by have := b3_lt k.1; omega), rfl⟩
  have e4 := (lits_int (n + 2) (.int .i64 k.2) _).2 ⟨_, rfl, wf_inty h.2, rfl⟩
  simp only [Value.cells]
  rw [lits_net, e0, e1, e2, e3, e4]
  rfl
theorem keyOf_inv {v : Value} {l : Lit} (h : keyOf Try.prog 45 v = some l) : ∃ k, NOk k ∧ v = net k.1 k.2 ∧ l = klit k := by
  obtain ⟨n, hn⟩ := manyTypes
  have h0 := h
  unfold keyOf at h
  simp only [Try.underlying45] at h
  split at h
  · rename_i hf
    rw [keyNet, Bool.true_and] at hf
    obtain ⟨cs, rfl⟩ : ∃ cs, v = .agg cs := by
      cases v <;> simp [Value.formed, Try.underlying45] at hf
      exact ⟨_, rfl⟩
    have hsz : cs.size = 5 := by simpa [Value.formed, Try.underlying45, cellsNet] using hf
    obtain ⟨L⟩ := cs
    match L, hsz with
    | [c0, c1, c2, c3, c4], _ =>
      rw [hn] at h
      simp only [Value.cells] at h
      rw [lits_net] at h
      obtain ⟨ls, hls, rfl⟩ := Option.map_eq_some_iff.1 h
      obtain ⟨l0, g0, hls⟩ := Option.bind_eq_some_iff.1 hls
      obtain ⟨l1, g1, hls⟩ := Option.bind_eq_some_iff.1 hls
      obtain ⟨l2, g2, hls⟩ := Option.bind_eq_some_iff.1 hls
      obtain ⟨l3, g3, hls⟩ := Option.bind_eq_some_iff.1 hls
      obtain ⟨l4, g4, rfl⟩ := Option.map_eq_some_iff.1 hls
      obtain ⟨x0, rfl, w0, rfl⟩ := (lits_u8 _ _ _).1 g0
      obtain ⟨x1, rfl, w1, rfl⟩ := (lits_u8 _ _ _).1 g1
      obtain ⟨x2, rfl, w2, rfl⟩ := (lits_u8 _ _ _).1 g2
      obtain ⟨x3, rfl, w3, rfl⟩ := (lits_u8 _ _ _).1 g3
      obtain ⟨x4, rfl, w4, rfl⟩ := (lits_int _ _ _).1 g4
      have y0 := byte_of_wf w0
      have y1 := byte_of_wf w1
      have y2 := byte_of_wf w2
      have y3 := byte_of_wf w3
      obtain ⟨z0, rfl⟩ := Int.eq_ofNat_of_zero_le y0.1
      obtain ⟨z1, rfl⟩ := Int.eq_ofNat_of_zero_le y1.1
      obtain ⟨z2, rfl⟩ := Int.eq_ofNat_of_zero_le y2.1
      obtain ⟨z3, rfl⟩ := Int.eq_ofNat_of_zero_le y3.1
      have q0 : z0 < 256 := by have := y0.2; omega
      have q1 : z1 < 256 := by have := y1.2; omega
      have q2 : z2 < 256 := by have := y2.2; omega
      have q3 : z3 < 256 := by have := y3.2; omega
      obtain ⟨f0, f1, f2, f3⟩ := num_bytes q0 q1 q2 q3
      refine ⟨(z0 * 16777216 + z1 * 65536 + z2 * 256 + z3, x4), ⟨by simp only; omega, inty_of_wf w4⟩, ?_, ?_⟩
      · simp only [net, f0, f1, f2, f3]
      · simp only [klit, f0, f1, f2, f3]
        rfl
  · cases h
theorem net_inj {j k : Nat × Int} (hj : NOk j) (hk : NOk k) (h : net j.1 j.2 = net k.1 k.2) : j = k := by
  simp only [net, Value.agg.injEq, Array.mk.injEq, List.cons.injEq, Value.int.injEq, true_and, and_true, Int.natCast_inj] at h
  obtain ⟨h0, h1, h2, h3, h4⟩ := h
  exact Prod.ext (bytes_inj hj.1 hk.1 h0 h1 h2 h3) h4
theorem klit_inj {j k : Nat × Int} (hj : NOk j) (hk : NOk k) (h : klit j = klit k) : j = k := by
  have e := keyOf_net hj
  rw [h] at e
  exact net_inj hj hk (law.inj e (keyOf_net hk))
theorem klit_key {k : Nat × Int} (hk : NOk k) : WideAt.IsKeyLit (klit k) := law.key (keyOf_net hk)
theorem klit_same {j k : Nat × Int} (hj : NOk j) (hk : NOk k) : (klit j).sameKey (klit k) = decide (j = k) := by
  by_cases h : j = k
  · subst h; rw [WideAt.sameKey_self (klit_key hj)]; simp
  · rw [decide_eq_false h, sameKey_ne fun e => h (klit_inj hj hk e)]

/-! ### What the map holds -/
/-- Block b is a map whose keys are these networks. -/
def Seen (w : World) (b : Nat) (L : List (Nat × Int)) : Prop := (∀ k ∈ L, NOk k) ∧ ∃ D : DataW Unit, w.ownsMap Try.prog 45 unitElem b L.length D ∧ ∀ k, NOk k → has D (klit k) = decide (k ∈ L)
theorem Seen.kept {w w' : World} {b : Nat} {L : List (Nat × Int)} {row : Option Nat} (h : Seen w b L) (hg : w.grownBy w' row) (hne : some b ≠ row) : Seen w' b L := by
  obtain ⟨hM, D, ho, ha⟩ := h
  exact ⟨hM, D, ho.kept hg hne, ha⟩
theorem grown_of_below {w w' : World} (h : Below w.heap.size w w') : w.grownBy w' none := ⟨h.os, h.tape, h.output, h.size, fun k hk _ => h.block k hk⟩
theorem Seen.below {w w' : World} {b : Nat} {L : List (Nat × Int)} (h : Seen w b L) (hb : Below w.heap.size w w') : Seen w' b L := h.kept (grown_of_below hb) (by simp)
theorem Seen.lt {w : World} {b : Nat} {L : List (Nat × Int)} (h : Seen w b L) : b < w.heap.size := by
  obtain ⟨_, D, ho, _⟩ := h
  exact ho.lt
theorem Seen.map {w : World} {b : Nat} {L : List (Nat × Int)} (h : Seen w b L) : ∃ es clock, w.heap[b]? = some (.map es clock) := by
  obtain ⟨_, D, ⟨es, clock, hb, _⟩, _⟩ := h
  exact ⟨es, clock, hb⟩
theorem seen_nil (w : World) : Seen (w.alloc (.map #[] 0)) w.heap.size [] := ⟨fun _ h => absurd h (by simp), .map [], World.ownsMap_made w Try.prog 45 unitElem, fun _ _ => by simp [has]⟩
theorem zeroUnit (w : World) : (zeroValue 104).run Try.prog w = .ok (.agg #[]) w := by kernel_rfl
theorem seen_look {w : World} {b : Nat} {L : List (Nat × Int)} (h : Seen w b L) {k : Nat × Int} (hk : NOk k) :
    (Instr.lookup 103 (.map (some b)) (net k.1 k.2) true).run Try.prog w = .ok (.tuple #[.agg #[], .bool (decide (k ∈ L))]) w := by
  obtain ⟨hM, D, ho, ha⟩ := h
  obtain ⟨v, ps, hrun, hv⟩ := ho.look_ok law Try.underlying103 (zeroUnit w) unitElem_mk (keyOf_net hk)
  obtain ⟨rfl, _⟩ := unitElem_inv hv
  rw [hrun, ha k hk]
theorem seen_store {w : World} {b : Nat} {L : List (Nat × Int)} (h : Seen w b L) {k : Nat × Int} (hk : NOk k) (hl : L.length ≤ 1000) :
    ∃ w', (Instr.mapUpdate 103 (.map (some b)) (net k.1 k.2) (.agg #[])).run Try.prog w = .ok () w' ∧ Seen w' b (k :: L) ∧ w.grownBy w' (some b) := by
  obtain ⟨hM, D, ho, ha⟩ := h
  obtain ⟨w', hrun, ho', hg⟩ := ho.update law Try.underlying103 (by unfold maxLen; omega) (keyOf_net hk) unitElem_mk
  refine ⟨w', hrun, ⟨fun j hj => ?_, _, ho', fun j hj => ?_⟩, hg⟩
  · rcases List.mem_cons.1 hj with rfl | hj
    · exact hk
    · exact hM j hj
  · by_cases e : j = k
    · subst e
      rw [has_put_same (ho.tidy law).isMap (klit_key hk)]; simp
    · rw [has_put_other fun q => e (klit_inj hj hk q), ha j hj]; simp [e]
end Go.Proofs.Ytnaofcggdjbocaa.Policy
namespace Go.Proofs.Ytnaofcggdjbocaa.Policy
open Go.RowKit Go.Proofs.Ytnaofcggdjbocaa.Mem Go.Proofs.Ytnaofcggdjbocaa.Addr
set_option maxRecDepth 100000

/-- One of a row of them. -/
theorem row_at {w : World} {q : Option Addr} {c k : Nat} {xs : List Po} {x : Po} (r : RK pl w q c xs) (hx : xs[k]? = some x) : ∃ b o, q = some ⟨b, o, none⟩ ∧ b < w.heap.size ∧ ∀ j v, (pl x)[j]? = some v → w.cell? ⟨b, o + k * 13 + j, none⟩ = some v := r.at pl_len hx
set_option maxHeartbeats 4000000 in
theorem policy_All (q : Option Addr) (n c : Nat) (xs : List Po) (hl : xs.length = n) (hn : n ≤ 1000) (w : World) (r : RK pl w q c xs) (ho : ∀ p ∈ xs, PoOk p) :
    Calls Try.prog 29 #[.slice q n c] w fun e w' => e = .returned (.int .i64 (allE xs)) ∧ Below w.heap.size w w' := by
  by_cases h8 : 8 < n
  · have hno : allE xs = 111 := by
      unfold allE allB
      rw [decide_eq_false (by omega)]
      rfl
    have h8i : (8 : Int) < (n : Int) := by omega
    rw [hno]
    go_enter Try.func29, Try.ntmps29
    go_wp2
    go_ret
    exact ⟨rfl, Below.refl _ _⟩
  · have h8i : decide ((8 : Int) < (n : Int)) = false := decide_eq_false (by omega)
    obtain ⟨B, hB⟩ : ∃ B, walkB 0 [] xs = B := ⟨_, rfl⟩
    have hall : allE xs = if B = true then 0 else 111 := by
      unfold allE allB
      rw [decide_eq_true (by omega), hB, Bool.true_and]
    rw [hall]
    replace hB : Hid (walkB 0 [] (xs.drop 0) = B) := by unfold Hid; simpa using hB
    clear hall
    have hmm := @run_makeMap Try.prog
    have hS0 := seen_nil w
    go_enter Try.func29, Try.ntmps29
    go_wp2
    have hB0 := bnew w (.map #[] 0)
    generalize hW1 : w.alloc (.map #[] 0) = w1 at *
    have r1 := r.below hB0
    generalize hG : w.heap.size = G at *
    have hBG : Below G w1 w1 := Below.refl _ _
    clear hmm h8i r hW1
    go_loopw [3, 15] (fun v3 i wr => ∃ (k : Nat) (last : Int) (seen : List (Nat × Int)), k ≤ n ∧ v3 = .int .i64 last ∧ i = .int .i64 k ∧ Below G w wr ∧ RK pl wr q c xs ∧ Seen wr G seen ∧ Hid (seen.length = k) ∧ Hid (walkB last seen (xs.drop k) = B)) (fun _ i _ => n - (intOf i).toNat)
    case atStart => exact ⟨0, 0, [], by omega, rfl, rfl, hB0, r1, hS0, rfl, hB⟩
    case round =>
      obtain ⟨k, last, seen, hk, rfl, rfl, hBr, rr, hS, HL, HW⟩ := hrel
      clear hB0 r1 hS0 hBG
      by_cases hlt : k < n
      · have hlt2 : decide ((k : Int) < (n : Int)) = true := decide_eq_true (by omega)
        have hlt3 : (k : Int) < (n : Int) := by omega
        obtain ⟨x, hx⟩ : ∃ x, xs[k]? = some x := ⟨_, List.getElem?_eq_getElem (by omega)⟩
        have hok := ho x (List.mem_of_getElem? hx)
        obtain ⟨b, o, rfl, hb, hc⟩ := row_at rr hx
        have hr := fun W => policy_Right x hok W
        have hstep : Hid ((stepB last seen x && walkB x.s (kof x :: seen) (xs.drop (k + 1))) = B) := by
          have := HW.out
          rw [List.drop_eq_getElem_cons (by omega), show xs[k] = x from by rw [List.getElem?_eq_getElem (by omega)] at hx; exact Option.some.inj hx] at this
          exact this
        have hlen := HL.out
        clear HW hx
        obtain ⟨F, hF⟩ : ∃ F, decide (kof x ∈ seen) = F := ⟨_, rfl⟩
        obtain ⟨R, hR⟩ : ∃ R, rightP x = R := ⟨_, rfl⟩
        have hST : Hid (stepB last seen x = (R && !decide (x.s ≤ last) && !F)) := by unfold Hid stepB; rw [hR, hF]
        rw [hR] at hr
        have hk2 : NOk (kof x) := ⟨hok.2.1, hok.2.2.1⟩
        have hlk := fun {W : World} (h : Seen W G seen) => seen_look h hk2
        rw [hF] at hlk
        have hsto := fun {W : World} (h : Seen W G seen) => seen_store h hk2 (by omega)
        simp only [kof, net] at hlk hsto
        clear hF hR hok hk2
        obtain ⟨s, N, bb, x0, x1, x2, x3, x4, x5, x6⟩ := x
        simp only at hlk hsto hST
        cases R with
        | false =>
          obtain rfl : B = false := by rw [← hstep.out, hST.out]; rfl
          go_wp2_with (first
            | ((fail_if_success (have _ := hX1)); (refine at_load_pr _ _ _ _ (by rfl) (by rfl) hc (by rfl) ?_))
            | ((fail_if_success (have _ := hX1)); (refine at_alloc_po (by rfl) (by rfl) ?_); intro V1 hX1 hB1 hz1)
            | ((fail_if_success (have _ := hX2)); (have _ := hX1); (refine at_store_po _ _ _ _ _ (by rfl) (by rfl) (by rfl) hX1 rfl (by rfl) ?_); intro V2 hX2 hg2 hz2; have hB2 := hB1.grown hg2 hB1.size (by simp); have hkk2 := cells13 hX2; have hlk2 := hlk (hS.below hB2); have hX3 := hX2.alloc (.cells #[] 104); have hB3 := bnext hB2 (bnew V2 (.cells #[] 104)))
            | ((fail_if_success (have _ := hX5)); (have _ := hX3); (refine at_load_po _ _ _ (by rfl) (by rfl) hX3 (by rfl) ?_))
            | ((with_reducible refine (hr _).mono ?_); rintro e w5 ⟨rfl, hB5⟩; have hX5 := hX3.below hB5; have hkk5 := cells13 hX5; have hB35 := bnext hB3 hB5))
          go_ret
          exact ⟨rfl, hBr.trans (hB35.mono (by rw [← hG]; exact hBr.size))⟩
        | true =>
          by_cases hle : s ≤ last
          · have hleb : decide (s ≤ last) = true := decide_eq_true hle
            obtain rfl : B = false := by rw [← hstep.out, hST.out, hleb]; rfl
            go_wp2_with (first
              | ((fail_if_success (have _ := hX1)); (refine at_load_pr _ _ _ _ (by rfl) (by rfl) hc (by rfl) ?_))
              | ((fail_if_success (have _ := hX1)); (refine at_alloc_po (by rfl) (by rfl) ?_); intro V1 hX1 hB1 hz1)
              | ((fail_if_success (have _ := hX2)); (have _ := hX1); (refine at_store_po _ _ _ _ _ (by rfl) (by rfl) (by rfl) hX1 rfl (by rfl) ?_); intro V2 hX2 hg2 hz2; have hB2 := hB1.grown hg2 hB1.size (by simp); have hkk2 := cells13 hX2; have hlk2 := hlk (hS.below hB2); have hX3 := hX2.alloc (.cells #[] 104); have hB3 := bnext hB2 (bnew V2 (.cells #[] 104)))
              | ((fail_if_success (have _ := hX5)); (have _ := hX3); (refine at_load_po _ _ _ (by rfl) (by rfl) hX3 (by rfl) ?_))
              | ((with_reducible refine (hr _).mono ?_); rintro e w5 ⟨rfl, hB5⟩; have hX5 := hX3.below hB5; have hkk5 := cells13 hX5; have hB35 := bnext hB3 hB5))
            go_ret
            exact ⟨rfl, hBr.trans (hB35.mono (by rw [← hG]; exact hBr.size))⟩
          · have hleb : decide (s ≤ last) = false := decide_eq_false hle
            cases F with
            | true =>
              obtain rfl : B = false := by rw [← hstep.out, hST.out, hleb]; rfl
              go_wp2_with (first
                | ((fail_if_success (have _ := hX1)); (refine at_load_pr _ _ _ _ (by rfl) (by rfl) hc (by rfl) ?_))
                | ((fail_if_success (have _ := hX1)); (refine at_alloc_po (by rfl) (by rfl) ?_); intro V1 hX1 hB1 hz1)
                | ((fail_if_success (have _ := hX2)); (have _ := hX1); (refine at_store_po _ _ _ _ _ (by rfl) (by rfl) (by rfl) hX1 rfl (by rfl) ?_); intro V2 hX2 hg2 hz2; have hB2 := hB1.grown hg2 hB1.size (by simp); have hkk2 := cells13 hX2; have hlk2 := hlk (hS.below hB2); have hX3 := hX2.alloc (.cells #[] 104); have hB3 := bnext hB2 (bnew V2 (.cells #[] 104)))
                | ((fail_if_success (have _ := hX5)); (have _ := hX3); (refine at_load_po _ _ _ (by rfl) (by rfl) hX3 (by rfl) ?_))
                | ((with_reducible refine (hr _).mono ?_); rintro e w5 ⟨rfl, hB5⟩; have hX5 := hX3.below hB5; have hkk5 := cells13 hX5; have hB35 := bnext hB3 hB5))
              go_ret
              exact ⟨rfl, hBr.trans (hB35.mono (by rw [← hG]; exact hBr.size))⟩
            | false =>
              have hW2 : Hid (walkB s (kof ⟨s, N, bb, x0, x1, x2, x3, x4, x5, x6⟩ :: seen) (xs.drop (k + 1)) = B) := by
                have := hstep.out
                rw [hST.out, hleb] at this
                exact this
              have hXne : some wr.heap.size ≠ some G := by have := hS.lt; simp; omega
              go_wp2_with (first
                | ((fail_if_success (have _ := hX1)); (refine at_load_pr _ _ _ _ (by rfl) (by rfl) hc (by rfl) ?_))
                | ((fail_if_success (have _ := hX1)); (refine at_alloc_po (by rfl) (by rfl) ?_); intro V1 hX1 hB1 hz1)
                | ((fail_if_success (have _ := hX2)); (have _ := hX1); (refine at_store_po _ _ _ _ _ (by rfl) (by rfl) (by rfl) hX1 rfl (by rfl) ?_); intro V2 hX2 hg2 hz2; have hB2 := hB1.grown hg2 hB1.size (by simp); have hkk2 := cells13 hX2; have hlk2 := hlk (hS.below hB2); have hX3 := hX2.alloc (.cells #[] 104); have hB3 := bnext hB2 (bnew V2 (.cells #[] 104)))
                | ((fail_if_success (have _ := hX5)); (have _ := hX3); (refine at_load_po _ _ _ (by rfl) (by rfl) hX3 (by rfl) ?_))
                | ((with_reducible refine (hr _).mono ?_); rintro e w5 ⟨rfl, hB5⟩; have hX5 := hX3.below hB5; have hkk5 := cells13 hX5; have hB35 := bnext hB3 hB5; have hS5 := hS.below hB35; obtain ⟨w6, hst6, hS6, hg6⟩ := hsto hS5; have hX6 := hX5.kept hg6 hXne; have hkk6 := cells13 hX6))
              obtain ⟨es, ck, hmap⟩ := hS5.map
              have hBr6 := (hBr.trans (hB35.mono (by rw [← hG]; exact hBr.size))).grown hg6 (by have := hBr.size; have := hB35.size; omega) (fun j hj => by simp at hj; omega)
              have rr6 := (rr.below hB35).turn pl_len (by decide) hmap hg6
              go_roundw
              case rel => exact ⟨k + 1, s, _ :: seen, by omega, rfl, by go_num, hBr6, rr6, hS6, by unfold Hid; simp [hlen], hW2.out⟩
              case measure => simp [intOf]; omega
      · obtain rfl : k = n := by omega
        have hd : xs.drop k = [] := List.drop_eq_nil_of_le (by omega)
        obtain rfl : B = true := by rw [← HW.out, hd]; rfl
        have hlt2 : decide ((k : Int) < (k : Int)) = false := decide_eq_false (by omega)
        go_wp2
        go_ret
        exact ⟨rfl, hBr⟩
end Go.Proofs.Ytnaofcggdjbocaa.Policy
