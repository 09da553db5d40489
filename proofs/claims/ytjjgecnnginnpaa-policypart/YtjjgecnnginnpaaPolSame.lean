/-
  When two lists of numbers, and two policies, are the same.
-/
import Derived.Test.YtjjgecnnginnpaaPolMem
import Derived.Laws.StructEq
namespace Go.Proofs.Ytjjgecnnginnpaa.Policy
open Go.RowKit Go.Proofs.Ytjjgecnnginnpaa.Mem Go.Proofs.Ytjjgecnnginnpaa.Addr
set_option maxRecDepth 100000

theorem ref_SameList (p q : Option Addr) (m n c d : Nat) (zs ys : List Int) (hm : zs.length = m) (hn : ys.length = n) (w : World) (h1 : Reads .u64 w p c zs) (h2 : Reads .u64 w q d ys) :
    Calls Try.prog 15 #[.slice p m c, .slice q n d] w fun e w' => e = .returned (.bool (decide (zs = ys))) ∧ Below w.heap.size w w' := by
  have hbig : m ≤ 9223372036854775807 := by have := h1.1; have := h1.2.1; unfold maxLen at this; omega
  by_cases hmn : m = n
  · subst hmn
    have heq : ((m : Int) == (m : Int)) = true := by simp
    obtain ⟨R, hR⟩ : ∃ R, R = decide (zs = ys) := ⟨_, rfl⟩
    rw [← hR]
    have HR : Hid (R = decide (zs = ys)) := hR
    have HM : Hid (zs.length = m) := hm
    have HN : Hid (ys.length = m) := hn
    clear hR hm hn
    go_enter Try.func15, Try.ntmps15
    go_wp2_with fail
    go_loopw [13] (fun i wr => ∃ k : Nat, k ≤ m ∧ i = .int .i64 k ∧ Below w.heap.size w wr ∧ Hid (∀ j, j < k → zs.getD j 0 = ys.getD j 0)) (fun i _ => m - (intOf i).toNat)
    case atStart => exact ⟨0, Nat.zero_le _, rfl, Below.refl _ _, fun j hj => absurd hj (by omega)⟩
    case round =>
      obtain ⟨k, hk, rfl, hnx, HK⟩ := hrel
      by_cases hlt : k < m
      · obtain ⟨b, o, rfl, _, hcell⟩ := (h1.below hnx).2.2.2 (by rw [HM.out]; omega)
        obtain ⟨b', o', rfl, _, hcell'⟩ := (h2.below hnx).2.2.2 (by rw [HN.out]; omega)
        have hk1 := hcell k (by rw [HM.out]; omega)
        have hk2 := hcell' k (by rw [HN.out]; omega)
        have hi0 : (0 : Int) ≤ (k : Int) := by omega
        have hi1 : (k : Int) < (m : Int) := by omega
        obtain ⟨x, hx⟩ : ∃ x, x = zs.getD k 0 := ⟨_, rfl⟩
        obtain ⟨y, hy⟩ : ∃ y, y = ys.getD k 0 := ⟨_, rfl⟩
        rw [← hx] at hk1
        rw [← hy] at hk2
        have HX : Hid (x = zs.getD k 0) := hx
        have HY : Hid (y = ys.getD k 0) := hy
        clear hcell hcell' hx hy
        by_cases hxy : x = y
        · subst hxy
          have hbb : (x == x) = true := by simp
          go_wp2_with fail
          go_quiet (fail)
          go_wp2_with fail
          go_roundw
          case rel => exact ⟨k + 1, by omega, by go_num, bnext hnx (bdrewN _ _), fun j hj => by
            rcases Nat.lt_or_ge j k with h | h
            · exact HK.out j h
            · obtain rfl : j = k := by omega
              rw [← HX.out, ← HY.out]⟩
          case measure => simp [intOf]; omega
        · have hbb : (x == y) = false := by simpa using hxy
          obtain rfl : R = false := by
            rw [HR.out]
            exact decide_eq_false fun e => hxy (by rw [HX.out, HY.out, e])
          go_wp2_with fail
          go_quiet (fail)
          go_wp2_with fail
          go_ret
          exact ⟨rfl, bnext hnx (bdrewN _ _)⟩
      · obtain rfl : k = m := by omega
        obtain rfl : R = true := by
          rw [HR.out]
          refine decide_eq_true (List.ext_getElem? fun i => ?_)
          have l1 := HM.out
          have l2 := HN.out
          rcases Nat.lt_or_ge i k with h | h
          · have := HK.out i h
            simp only [List.getD_eq_getElem?_getD, List.getElem?_eq_getElem (show i < zs.length by omega), List.getElem?_eq_getElem (show i < ys.length by omega), Option.getD_some] at this
            rw [List.getElem?_eq_getElem (show i < zs.length by omega), List.getElem?_eq_getElem (show i < ys.length by omega), this]
          · rw [List.getElem?_eq_none (by omega), List.getElem?_eq_none (by omega)]
        go_wp2_with fail
        go_ret
        exact ⟨rfl, hnx⟩
  · have hne : ((m : Int) == (n : Int)) = false := by simp; omega
    have e : decide (zs = ys) = false := decide_eq_false fun e => hmn (by rw [← hm, ← hn, e])
    rw [e]
    go_enter Try.func15, Try.ntmps15
    go_wp2_with fail
    go_ret
    exact ⟨rfl, Below.refl _ _⟩

theorem stood_po : Try.prog.stoodInHeld 28 = false := by kernel_rfl
/-- The same, field by field. -/
def eqB (p q : Po) : Bool := decide (p.s = q.s) && (decide (p.N = q.N) && decide (p.b = q.b)) && decide (p.x0 = q.x0) && decide (p.x1 = q.x1) && decide (p.x2 = q.x2) && decide (p.x3 = q.x3) && decide (p.x4 = q.x4) && decide (p.x5 = q.x5) && decide (p.x6 = q.x6)
theorem eqB_iff {p q : Po} : eqB p q = true ↔ p = q := by
  obtain ⟨s, N, b, x0, x1, x2, x3, x4, x5, x6⟩ := p
  obtain ⟨s', N', b', y0, y1, y2, y3, y4, y5, y6⟩ := q
  unfold eqB
  simp only [Bool.and_eq_true, decide_eq_true_eq, Po.mk.injEq, and_assoc]
set_option maxHeartbeats 2000000 in
theorem eq_po {p q : Po} (hp : PoOk p) (hq : PoOk q) (w : World) : (Op.equalIn 10000 28 (pv p) (pv q)).run Try.prog w = .ok (eqB p q) w := by
  obtain ⟨s, N, b, x0, x1, x2, x3, x4, x5, x6⟩ := p
  obtain ⟨s', N', b', y0, y1, y2, y3, y4, y5, y6⟩ := q
  have hN := hp.2.1
  have hN' := hq.2.1
  simp only at hN hN'
  have hf : Try.prog.underlying 28 = some (.struct (Try.prog.fieldsOf 28)) := by simp [Program.fieldsOf, Try.underlying28]
  have e := eq_bytes hN hN'
  have e4 := eq4 9996 (b0 N) (b1 N) (b2 N) (b3 N) (b0 N') (b1 N') (b2 N') (b3 N') w
  rw [e] at e4
  unfold pv pl eqB
  rw [run_equalIn_struct w 9999 _ _ _ hf stood_po]
  clear hp hq
  simp [Program.fieldsOf, Try.underlying28, Op.eqFields, part, Try.isAgg25, Try.sizeOf25, Try.isAgg3, Try.isAgg26, go_sem, e4]
  by_cases k1 : s = s'
  · by_cases k2 : N = N'
    · by_cases k3 : b = b'
      · by_cases k4 : x0 = y0
        · by_cases k5 : x1 = y1
          · by_cases k6 : x2 = y2
            · by_cases k7 : x3 = y3
              · by_cases k8 : x4 = y4
                · by_cases k9 : x5 = y5 <;> by_cases k10 : x6 = y6 <;> simp [Int.natCast_inj, k1, k2, k3, k4, k5, k6, k7, k8, k9, k10]
                · simp [Int.natCast_inj, k1, k2, k3, k4, k5, k6, k7, k8]
              · simp [Int.natCast_inj, k1, k2, k3, k4, k5, k6, k7]
            · simp [Int.natCast_inj, k1, k2, k3, k4, k5, k6]
          · simp [Int.natCast_inj, k1, k2, k3, k4, k5]
        · simp [Int.natCast_inj, k1, k2, k3, k4]
      · simp [k1, k2, k3]
    · simp [k1, k2]
  · simp [k1]
theorem guard_po : Try.prog.eqGuardType Try.prog.depth 28 = false := by kernel_rfl
theorem eqg_po (x y : Operand) (p q : Po) (w : World) : (eqGuard .eql 28 x y (pv p) (pv q)).run Try.prog w = .ok () w := by
  unfold pv
  simp [eqGuard, go_sem]
theorem neg_po (x y : Operand) (p q : Po) (w : World) : (eqGuard .neq 28 x y (pv p) (pv q)).run Try.prog w = .ok () w := by
  unfold pv
  simp [eqGuard, go_sem]
theorem eqs_po {p q : Po} (hp : PoOk p) (hq : PoOk q) (w : World) : (binOp .eql 28 (pv p) (pv q)).run Try.prog w = .ok (.bool (eqB p q)) w := by
  have h := eq_po hp hq w
  unfold pv at h ⊢
  simp [binOp, Op.equal, Op.maxDepth, h]
theorem nes_po {p q : Po} (hp : PoOk p) (hq : PoOk q) (w : World) : (binOp .neq 28 (pv p) (pv q)).run Try.prog w = .ok (.bool (!eqB p q)) w := by
  have h := eq_po hp hq w
  unfold pv at h ⊢
  simp [binOp, Op.equal, Op.maxDepth, h]
end Go.Proofs.Ytjjgecnnginnpaa.Policy
