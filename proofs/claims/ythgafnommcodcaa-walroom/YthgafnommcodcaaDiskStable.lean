/-
  What is stable of a sector.
-/
import Derived.Test.YthgafnommcodcaaDiskLaws
namespace Go.Proofs.Ythgafnommcodcaa.Disk
open Go.RowKit Go.Proofs.Ythgafnommcodcaa.Mem Go.Proofs.Ythgafnommcodcaa.Sect
open Go.Proofs.Ythgafnommcodcaa.Frame (Sec zero)
set_option maxRecDepth 100000
/-- Two results, the first a sector in a block of its own. -/
theorem ret_sec {fn : Func} {p u : Tmp} {R : Ending → World → Prop} {a : Act} {w : World} (h : fn.results = #[.cell p 70, .tmp u]) (hd : a.defers = []) (g : Nat) (s : Sec) (hp : a.tmps.getD p undef = .pointer (some ⟨g, 0, none⟩))
    (hb : Blk w g 70 (sc s)) (hR : R (.returned (.tuple #[secv s, a.tmps.getD u undef])) w) : bodyPost Try.prog fn R .ret a w :=
  ret_cell h hd g _ (sc s) _ hp hb und_sec rfl (size_sec s) hR
theorem stable_any {S : Nat → Prop} {B g : Nat} {w : World} {d : Dsk} (h : Dk B S w g d) (i : Int) :
    Calls Try.prog 31 #[.pointer (some ⟨g, 0, none⟩), .int .i64 i] w fun e w' => e = .returned (.tuple #[secv (stab d.st i).1, .int .i64 (stab d.st i).2]) ∧ Below w.heap.size w w' := by
  obtain ⟨p, c, q, e, hb, r1, _, _⟩ := h.parts
  cases hh : has d.st.length i with
  | false =>
    have e1 : stab d.st i = (zero, 71) := by simp [stab, hh]
    rw [e1]
    go_enter Try.func31, Try.ntmps31
    go_wp2_with (first
      | ((refine at_alloc_sec (by rfl) (by rfl) ?_); intro W hW hB hz; have hD := h.below hB)
      | ((with_reducible refine (has_any hD i).mono ?_); rintro e w1 ⟨rfl, rfl⟩; rw [hh])
      | ((refine at_build0 (by rfl) (by rfl) ?_))
      | ((refine at_store_sec _ _ _ _ _ (by rfl) (by rfl) (by rfl) hW (by rfl) ?_); intro W2 hW2 hg2 hz2))
    exact ret_sec rfl rfl _ _ rfl hW2 ⟨rfl, hB.grown hg2 hB.size (by simp)⟩
  | true =>
    have hi : 0 ≤ i ∧ i < d.st.length := by simpa [has] using hh
    obtain ⟨k, rfl⟩ := Int.eq_ofNat_of_zero_le hi.1
    have hk : k < d.st.length := by omega
    have e1 : stab d.st k = (d.st[k], 0) := by simp [stab, hh, hk]
    rw [e1]
    obtain ⟨b, o, rfl, hlt, hr⟩ := r1.at sc_len (List.getElem?_eq_getElem hk)
    have hr' : ∀ {W : World}, Below w.heap.size w W → W.rangeAt b (o + k * 64) (sc d.st[k]) := fun hB j v hv => (hB.cell (p := ⟨b, o + k * 64 + j, none⟩) hlt).trans (hr j v hv)
    go_enter Try.func31, Try.ntmps31
    go_wp2_with (first
      | ((refine at_alloc_sec (by rfl) (by rfl) ?_); intro W hW hB hz; have hD := h.below hB; have hc := (hb.below hB).cell)
      | ((with_reducible refine (has_any hD _).mono ?_); rintro e w1 ⟨rfl, rfl⟩; rw [hh])
      | ((refine at_load_sec _ _ _ _ (by rfl) (by rfl) (hr' hB) (by rfl) ?_))
      | ((refine at_store_sec _ _ _ _ _ (by rfl) (by rfl) (by rfl) hW (by rfl) ?_); intro W2 hW2 hg2 hz2))
    exact ret_sec rfl rfl _ _ rfl hW2 ⟨rfl, hB.grown hg2 hB.size (by simp)⟩
end Go.Proofs.Ythgafnommcodcaa.Disk
