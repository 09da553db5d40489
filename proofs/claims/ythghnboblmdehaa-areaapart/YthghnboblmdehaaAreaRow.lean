/-
  Which sectors are taken: slots and segments one behind the other, as a list of marks; and a slice of ints that is made.
-/
import Derived.Test.YthghnboblmdehaaAreaPlain
import Derived.Test.YthghnboblmdehaaBlk
import Derived.Laws.BitsAllLaws
namespace Go.Proofs.Ythghnboblmdehaa.Area
open Go.RowKit Go.Proofs.Ythghnboblmdehaa.Mem

/-- The blocks of sixteen sectors in the order in which they are taken: the generation's slot, the other one, the segments. -/
def blk (p j : Nat) : Nat := if j = 0 then p else if j = 1 then 1 - p else j
theorem blk_blk {p : Nat} (hp : p ≤ 1) (j : Nat) : blk p (blk p j) = j := by
  unfold blk
  repeat' split
  all_goals omega
/-- The place of a sector in that order. -/
def turn (p i : Nat) : Nat := 16 * blk p (i / 16) + i % 16
theorem turn_at {p : Nat} (hp : p ≤ 1) (j m : Nat) (hm : m < 16) : turn p (16 * blk p j + m) = 16 * j + m := by
  unfold turn
  rw [show (16 * blk p j + m) / 16 = blk p j by omega, show (16 * blk p j + m) % 16 = m by omega, blk_blk hp]
theorem turn_inj {p : Nat} (hp : p ≤ 1) {i k : Nat} (h : turn p i = turn p k) : i = k := by
  unfold turn at h
  have h1 : blk p (i / 16) = blk p (k / 16) := by omega
  have h2 := congrArg (blk p) h1
  rw [blk_blk hp, blk_blk hp] at h2
  omega
/-- The marks when so many sectors have been taken. -/
def marks (p s t : Nat) : List Int := (List.range s).map fun i => if turn p i < t then 1 else 0
theorem marks_len (p s t : Nat) : (marks p s t).length = s := by simp [marks]
theorem marks_none (p s : Nat) : marks p s 0 = List.replicate s 0 := by
  refine List.ext_getElem? fun i => ?_
  rcases Nat.lt_or_ge i s with hi | hi <;> simp [marks, hi]
theorem marks_at {p s t i : Nat} (hi : i < s) : (marks p s t)[i]? = some (if turn p i < t then 1 else 0) := by simp [marks, hi]
theorem marks_set {p s t i : Nat} (hp : p ≤ 1) (ht : turn p i = t) : (marks p s t).set i 1 = marks p s (t + 1) := by
  refine List.ext_getElem? fun k => ?_
  rcases Nat.lt_or_ge k s with hk | hk
  · by_cases hik : i = k
    · subst hik
      rw [List.getElem?_set_self (by rw [marks_len]; exact hk), marks_at hk, if_pos (by omega)]
    · rw [List.getElem?_set_ne hik, marks_at hk, marks_at hk]
      have hne : turn p k ≠ t := fun e => hik (turn_inj hp (ht.trans e.symm))
      by_cases h : turn p k < t
      · rw [if_pos h, if_pos (by omega)]
      · rw [if_neg h, if_neg (by omega)]
  · rw [List.getElem?_eq_none (by rw [List.length_set, marks_len]; exact hk), List.getElem?_eq_none (by rw [marks_len]; exact hk)]
/-- Where they begin. -/
def firsts (p k : Nat) : List Int := (List.range (2 + k)).map fun j => ((16 * blk p j : Nat) : Int)
theorem firsts_len (p k : Nat) : (firsts p k).length = k + 2 := by simp [firsts]; omega
theorem firsts_none (p : Nat) : firsts p 0 = [((16 * p : Nat) : Int), ((16 * (1 - p) : Nat) : Int)] := rfl
theorem firsts_more (p k : Nat) : firsts p (k + 1) = firsts p k ++ [32 + (k : Int) * 16] := by
  unfold firsts
  rw [show 2 + (k + 1) = (2 + k) + 1 by omega, List.range_succ, List.map_append]
  have e : ((16 * blk p (2 + k) : Nat) : Int) = 32 + (k : Int) * 16 := by
    unfold blk
    rw [if_neg (by omega), if_neg (by omega)]
    omega
  rw [List.map_singleton, e]
theorem firsts_at {p k j : Nat} (h : j < k + 2) : (firsts p k).getD j 0 = ((16 * blk p j : Nat) : Int) := by simp [firsts, show j < 2 + k by omega]
/-- The other generation's slot. -/
theorem other_slot (g : Nat) (hg : g < 18446744073709551616) : ∃ h : Nat, bits .xor .u64 (g : Int) 1 = (h : Int) ∧ Word (h : Int) ∧ slotAt (h : Int) = ((16 * (1 - g % 2) : Nat) : Int) := by
  have hx := u64_xor_nat g 1 hg (by omega)
  have hlt : g ^^^ 1 < 2 ^ 64 := Nat.xor_lt_two_pow (by simpa using hg) (by decide)
  have hm : (g ^^^ 1) % 2 = 1 - g % 2 := by
    have h : (g ^^^ 1) % 2 = 1 ↔ ¬(g % 2 = 1 ↔ 1 % 2 = 1) := Nat.xor_mod_two_eq_one
    have e : 1 % 2 = 1 := rfl
    by_cases hg : g % 2 = 1
    · have : ¬ (g ^^^ 1) % 2 = 1 := fun c => h.1 c ⟨fun _ => e, fun _ => hg⟩
      omega
    · have := h.2 fun c => hg (c.2 e)
      omega
  refine ⟨g ^^^ 1, hx, ⟨by omega, by omega⟩, ?_⟩
  unfold slotAt
  omega
theorem this_slot (g : Nat) : slotAt (g : Int) = ((16 * (g % 2) : Nat) : Int) := by unfold slotAt; omega
theorem info_int : ∃ i, Try.prog.info? 3 = some i ∧ i.zero = some (.int .i64 0) ∧ i.size = 1 ∧ i.bytes = 8 := by
  have h : (Try.prog.info? 3).map (fun i => (i.zero, i.size, i.bytes)) = some (some (.int .i64 0), 1, 8) := by kernel_rfl
  obtain ⟨i, h1, h2⟩ := Option.map_eq_some_iff.1 h
  simp only [Prod.mk.injEq] at h2
  exact ⟨i, h1, h2⟩
/-- A slice of ints that is made. -/
theorem run_make_ints (w : World) (n : Nat) (hn : n ≤ 100000) :
    ∃ w', (Instr.makeSlice 36 (.int .i64 (n : Int)) (.int .i64 (n : Int))).run Try.prog w = .ok (.slice (some ⟨w.heap.size, 0, none⟩) n n) w' ∧ Blk w' w.heap.size 3 ((List.replicate n (0 : Int)).map (Value.int .i64)) ∧ w.grownBy w' none := by
  obtain ⟨i, hi, hz, hsize, hby⟩ := info_int
  obtain ⟨w', hr, ho, hg⟩ := run_make_full (P := Try.prog) w w.heap.size 36 3 i (.int .i64 0) 1 Try.underlying36 hi hz hsize .i64 .i64 n (by rw [hby]; omega) (by unfold maxLen; omega) (Nat.le_refl _)
  refine ⟨w', hr, ?_, hg⟩
  rcases ho.2 with ⟨h, _⟩ | ⟨g, cap, cur, hv, _, hh, _, _, hs, htk⟩
  · simp at h
  · simp only [Value.slice.injEq, Option.some.injEq, Addr.mk.injEq, and_true, true_and] at hv
    obtain ⟨rfl, rfl⟩ := hv
    unfold Blk
    rw [hh]
    have e1 : cur.toList = (madeCells #[Value.int .i64 0] n).toList := by
      rw [List.take_of_length_le (by rw [Array.length_toList, hs]; exact Nat.le_refl _)] at htk
      simpa [Value.cells] using htk
    rw [toList_madeCells_one] at e1
    have e2 : cur = (List.replicate n (Value.int .i64 0)).toArray := by rw [← e1]
    rw [e2]
    simp
end Go.Proofs.Ythghnboblmdehaa.Area
