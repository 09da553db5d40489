/-
  Where things are on a disk: facts on whole numbers and lists; nothing of a program is named here.
-/
import Derived.Test.YthgafnommcodcaaFramePlain
namespace Go.Proofs.Ythgafnommcodcaa.Area

/-- A disk of so many sectors can be. -/
def fits (S : Int) : Bool := decide (64 ≤ S) && decide (S ≤ 512)
/-- How many segments; the error's number. -/
def cnt (S : Int) : Int := if fits S = true then (S - 32) / 16 else 0
def segE (S : Int) : Int := if fits S = true then 0 else 91
/-- There is such a segment; where it is, which one is behind it; the error's number. -/
def there (S k : Int) : Bool := fits S && (decide (0 ≤ k) && decide (k < (S - 32) / 16))
def plE (S k : Int) : Int := if there S k = true then 0 else 91
def plc (S k : Int) : Int := if there S k = true then 32 + k * 16 else 0
def nxt (S k : Int) : Int := if there S k = true then (if k + 1 = (S - 32) / 16 then 0 else k + 1) else 0
/-- How many from one to another one. -/
def way (n a b : Int) : Int := if a ≤ b then b - a + 1 else b - a + n + 1
def usd (S a b : Int) : Int := if (there S a && there S b) = true then way ((S - 32) / 16) a b else 0
def usE (S a b : Int) : Int := if (there S a && there S b) = true then 0 else 91
/-- Where a generation's slot is. -/
def slotAt (g : Int) : Int := g % 2 * 16

theorem fits_iff {S : Int} : fits S = true ↔ 64 ≤ S ∧ S ≤ 512 := by unfold fits; simp
theorem there_iff {S k : Int} : there S k = true ↔ (64 ≤ S ∧ S ≤ 512) ∧ 0 ≤ k ∧ k < (S - 32) / 16 := by unfold there; simp [fits_iff]
theorem cnt_ok {S : Int} (h : fits S = true) : cnt S = (S - 32) / 16 := if_pos h
theorem segE_ok {S : Int} (h : fits S = true) : segE S = 0 := if_pos h
theorem cnt_no {S : Int} (h : fits S = false) : cnt S = 0 := if_neg (by simp [h])
theorem segE_no {S : Int} (h : fits S = false) : segE S = 91 := if_neg (by simp [h])
theorem plE_ok {S k : Int} (h : there S k = true) : plE S k = 0 := if_pos h
theorem plc_ok {S k : Int} (h : there S k = true) : plc S k = 32 + k * 16 := if_pos h
theorem nxt_ok {S k : Int} (h : there S k = true) : nxt S k = if k + 1 = (S - 32) / 16 then 0 else k + 1 := if_pos h
theorem plE_no {S k : Int} (h : there S k = false) : plE S k = 91 := if_neg (by simp [h])
theorem plc_no {S k : Int} (h : there S k = false) : plc S k = 0 := if_neg (by simp [h])
theorem nxt_no {S k : Int} (h : there S k = false) : nxt S k = 0 := if_neg (by simp [h])
theorem usd_ok {S a b : Int} (ha : there S a = true) (hb : there S b = true) : usd S a b = way ((S - 32) / 16) a b := if_pos (by simp [ha, hb])
theorem usE_ok {S a b : Int} (ha : there S a = true) (hb : there S b = true) : usE S a b = 0 := if_pos (by simp [ha, hb])
theorem usd_no {S a b : Int} (h : there S a = false ∨ there S b = false) : usd S a b = 0 := if_neg (by rcases h with h | h <;> simp [h])
theorem usE_no {S a b : Int} (h : there S a = false ∨ there S b = false) : usE S a b = 91 := if_neg (by rcases h with h | h <;> simp [h])
theorem there_fits {S k : Int} (h : there S k = true) : fits S = true := fits_iff.2 (there_iff.1 h).1
theorem there_no {S k : Int} (h : there S k = false) (hf : fits S = true) : k < 0 ∨ (0 ≤ k ∧ (S - 32) / 16 ≤ k) := by
  have hn : ¬ there S k = true := by simp [h]
  rw [there_iff] at hn
  have := fits_iff.1 hf
  omega
theorem nofits {S : Int} (h : fits S = false) : S < 64 ∨ 512 < S := by
  have hn : ¬ fits S = true := by simp [h]
  rw [fits_iff] at hn
  omega
theorem nothere {S k : Int} (h : fits S = false) : there S k = false := by unfold there; rw [h]; rfl
end Go.Proofs.Ythgafnommcodcaa.Area
