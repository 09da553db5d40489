/-
  A sector as it is read: the last pending write, or what is stable.
-/
import Derived.Test.YthgafnommcodcaaDiskStable
import Derived.LoopTactic
namespace Go.Proofs.Ythgafnommcodcaa.Disk
open Go.RowKit Go.Proofs.Ythgafnommcodcaa.Mem Go.Proofs.Ythgafnommcodcaa.Sect
open Go.Proofs.Ythgafnommcodcaa.Frame (Sec zero)
set_option maxRecDepth 100000

theorem last_two : ∀ (l r : List Wr) (i : Int), last (l ++ r) i = match last r i with | some s => some s | none => last l i
  | [], r, i => by simp only [List.nil_append]; cases last r i <;> rfl
  | x :: l, r, i => by
    show (match last (l ++ r) i with | some s => some s | none => if x.1 = i then some x.2 else none) = _
    rw [last_two l r i]
    cases last r i <;> rfl
theorem last_here {pe : List Wr} {i : Int} {k : Nat} (hk : k < pe.length) (h : last (pe.drop (k + 1)) i = none) : last (pe.drop k) i = if (pe[k]).1 = i then some (pe[k]).2 else none := by
  rw [List.drop_eq_getElem_cons hk]
  show (match last (pe.drop (k + 1)) i with | some s => some s | none => if (pe[k]).1 = i then some (pe[k]).2 else none) = _
  rw [h]
theorem last_found {pe : List Wr} {i : Int} {k : Nat} {s : Sec} (h : last (pe.drop k) i = some s) : last pe i = some s := by
  rw [← List.take_append_drop k pe, last_two, h]
theorem rk_range {α : Type} {enc : α → List Value} {k : Nat} (hk : ∀ x, (enc x).length = k) {w : World} {p : Option Addr} {cap i : Nat} {xs : List α} {x : α} (h : RK enc w p cap xs) (hi : xs[i]? = some x) : ∃ b o, p = some ⟨b, o, none⟩ ∧ w.rangeAt b (o + i * k) (enc x) := by
  obtain ⟨b, o, e, _, hr⟩ := h.at hk hi
  exact ⟨b, o, e, hr⟩
theorem read_any {S : Nat → Prop} {B g : Nat} {w : World} {d : Dsk} (h : Dk B S w g d) (hd : d.ok) (i : Int) :
    Calls Try.prog 60 #[.pointer (some ⟨g, 0, none⟩), .int .i64 i] w fun e w' => e = .returned (.tuple #[secv (d.read i).1, .int .i64 (d.read i).2]) ∧ Below w.heap.size w w' := by
  obtain ⟨p, c, q, e, hb, _, r2, _⟩ := h.parts
  have hl := hd.2.1
  obtain ⟨L, hL⟩ : ∃ L, d.pe.length = L := ⟨_, rfl⟩
  rw [hL] at hb hl
  have hwl : IntKind.i64.wrap ((L : Int) - 1) = (L : Int) - 1 := wrap_int ⟨by omega, by omega⟩
  go_enter Try.func60, Try.ntmps60
  go_wp2_with (first
    | ((refine at_alloc_sec (by rfl) (by rfl) ?_); intro W hW hB hz; have hc := (hb.below hB).cell))
  clear hc
  go_loopw [6] (fun n wr => ∃ m : Nat, m ≤ L ∧ n = .int .i64 ((m : Int) - 1) ∧ Hid (last (d.pe.drop m) i = none) ∧ Blk wr w.heap.size 70 (sc zero) ∧ Below w.heap.size w wr) (fun n _ => (intOf n + 1).toNat)
  case atStart => exact ⟨L, Nat.le_refl _, by simp, by unfold Hid; rw [List.drop_of_length_le (by omega)]; rfl, hW, hB⟩
  case round =>
    obtain ⟨m, hm, rfl, HN, hR, hbel⟩ := hrel
    have hc := (hb.below hbel).cell
    cases m with
    | zero =>
      have hD := h.below hbel
      have e1 : d.read i = stab d.st i := by
        have := HN.out
        simp only [List.drop_zero] at this
        simp [Dsk.read, this]
      go_wp2_with (first
        | ((with_reducible refine (stable_any hD i).mono ?_); rintro e w1 ⟨rfl, hb1⟩; have hR1 := hR.below hb1)
        | ((refine at_store_sec _ _ _ _ _ (by rfl) (by rfl) (by rfl) hR1 (by rfl) ?_); intro W2 hW2 hg2 hz2))
      rw [e1]
      exact ret_sec rfl rfl _ _ rfl hW2 ⟨rfl, (bnext hbel hb1).grown hg2 (by have := hR1.lt; omega) (by simp)⟩
    | succ k =>
      have hk : k < d.pe.length := by omega
      obtain ⟨x, hx⟩ : ∃ x, d.pe[k]? = some x := ⟨_, List.getElem?_eq_getElem hk⟩
      obtain ⟨b, o, rfl, hr⟩ := rk_range wc_len (r2.below hbel) hx
      have hn : (((k + 1 : Nat) : Int) - 1) = (k : Int) := by omega
      have hkL : (k : Int) < (L : Int) := by omega
      have hwk : IntKind.i64.wrap ((k : Int) - 1) = (k : Int) - 1 := wrap_int ⟨by omega, by omega⟩
      rw [hn]
      clear hn
      go_wp2_with (first
        | ((refine at_load_wr _ _ _ _ (by rfl) (by rfl) hr (by rfl) ?_))
        | ((refine at_alloc_wr (by rfl) (by rfl) ?_); intro W1 hW1 hB1 hz1)
        | ((refine at_store_wv _ _ _ _ _ _ (size_wr _) (by rfl) (by rfl) (by rfl) hW1 (by rfl) ?_); intro W2 hW2 hg2 hz2; have hat := blk_wat hW2)
        | ((refine at_load_sec _ _ _ _ (by rfl) (by rfl) (blk_wsec hW2) (by rfl) ?_))
        | ((refine at_store_sec _ _ _ _ _ (by rfl) (by rfl) (by rfl) ((hR.below hB1).kept hg2 (by have := hR.lt; simp; omega)) (by rfl) ?_); intro W3 hW3 hg3 hz3))
      · have hxi : x.1 = i := by first | assumption | exact eq_of_beq ‹_›
        have e1 : d.read i = (x.2, 0) := by
          have := last_here hk HN.out
          rw [(List.getElem?_eq_some_iff.1 hx).2, if_pos hxi] at this
          simp [Dsk.read, last_found this]
        rw [e1]
        exact ret_sec rfl rfl _ _ rfl hW3 ⟨rfl, ((bnext hbel hB1).grown hg2 (by have := hR.lt; have := hz1.out; omega) (by have := hR.lt; simp; omega)).grown hg3 (by have := hR.lt; have := hz1.out; have := hz2.out; omega) (by simp)⟩
      · have hxi : ¬ x.1 = i := by first | assumption | exact ne_of_beq_false ‹_›
        refine ⟨⟨k, by omega, rfl, ?_, (hR.below hB1).kept hg2 (by have := hR.lt; simp; omega), (bnext hbel hB1).grown hg2 (by have := hR.lt; have := hz1.out; omega) (by have := hR.lt; simp; omega)⟩, by simp [intOf]⟩
        have := last_here hk HN.out
        rw [(List.getElem?_eq_some_iff.1 hx).2, if_neg hxi] at this
        exact this
end Go.Proofs.Ythgafnommcodcaa.Disk
