/-
  A disk that nothing ails: all is written; a crash that keeps nothing. Nothing of a program is named here.
-/
import Derived.Test.YthgafnommcodcaaWalTold
namespace Go.Proofs.Ythgafnommcodcaa.Wal
open Go.Proofs.Ythgafnommcodcaa.Frame Go.Proofs.Ythgafnommcodcaa.Disk

/-- It is not down, and no end of its acts is set. -/
def Fine (d : Dsk) : Prop := d.dn = false ∧ d.lf = -1
theorem fine_no {d : Dsk} (h : Fine d) : d.no = false := by unfold Dsk.no; rw [h.1, h.2]; rfl
theorem fine_acted {d : Dsk} (h : Fine d) : d.acted = d := by
  unfold Dsk.acted
  rw [if_neg (by simp [fine_no h])]
  obtain ⟨st, pe, dn, lf⟩ := d
  obtain ⟨_, h2⟩ := h
  simp only at h2
  subst h2
  rfl
theorem fine_fresh (n : Nat) : Fine (fresh n) := ⟨rfl, rfl⟩
theorem fine_put {d : Dsk} (h : Fine d) (i : Int) (s : Sec) : Fine (d.put i s) := by
  unfold Dsk.put
  split
  · rw [if_neg (by simp [fine_no h]), fine_acted h]
    exact h
  · exact h
theorem fine_putE {d : Dsk} (h : Fine d) {i : Nat} (hi : i < d.st.length) : d.putE i = 0 := by
  unfold Dsk.putE Dsk.err
  rw [if_pos (has_nat hi), if_neg (by simp [fine_no h])]
theorem fine_writes : ∀ (l : List Sec) (d : Dsk) (i : Nat), Fine d → i + l.length ≤ d.st.length → (writes d i l).2 = 0 ∧ Fine (writes d i l).1
  | [], _, _, h, _ => ⟨rfl, h⟩
  | s :: r, d, i, h, hl => by
    simp only [List.length_cons] at hl
    unfold writes
    rw [if_pos (fine_putE h (by omega))]
    exact fine_writes r _ _ (fine_put h _ s) (by rw [(put_len d i s).2]; omega)
theorem fine_sync {d : Dsk} (h : Fine d) : Fine d.sync := by
  unfold Dsk.sync
  rw [if_neg (by simp [fine_no h]), fine_acted h]
  exact h
theorem fine_err {d : Dsk} (h : Fine d) : d.err = 0 := by unfold Dsk.err; rw [if_neg (by simp [fine_no h])]
theorem settle_none : ∀ (l : List Wr) (n : Nat) (st : List Sec), Disk.settle (keeps []) n l st = st
  | [], _, _ => rfl
  | x :: r, n, st => by
    unfold Disk.settle
    rw [if_neg (by simp [keeps]), settle_none r (n + 1) st]
/-- Behind a crash that keeps nothing one sees what was stable. -/
theorem vis_crash_none (d : Dsk) (S st : Nat) : vis (d.crash []) S st = stb d S st := by
  rw [vis_quiet S st (show (d.crash []).pe = [] from rfl)]
  funext k u
  unfold stb
  rw [show (d.crash []).st = d.st from settle_none d.pe 0 d.st]
theorem adr_fits {n S st j t z : Nat} (hS : S = segsN n) (h0 : 0 < S) (ht : t + z ≤ 16) (hz : 0 < z) : adr S st j t + z ≤ n := by
  have := adr_lt (n := n) (st := st) (j := j) hS h0 (show t + z - 1 < 16 by omega)
  unfold adr at this ⊢
  omega
end Go.Proofs.Ythgafnommcodcaa.Wal
