/-
  A record more, in both logs.
-/
import Derived.Test.YthgafnommcodcaaWalAct
import Derived.Test.YthgafnommcodcaaWalRef4
import Derived.Test.YthgafnommcodcaaWalRef5
import Derived.Test.YthgafnommcodcaaInvB
namespace Go.Proofs.Ythgafnommcodcaa.Wal
open Go.RowKit Go.Proofs.Ythgafnommcodcaa.Mem Go.Proofs.Ythgafnommcodcaa.Sect Go.Proofs.Ythgafnommcodcaa.Frame Go.Proofs.Ythgafnommcodcaa.Disk Go.Proofs.Ythgafnommcodcaa.Area
set_option maxRecDepth 100000

section
variable {w W : World} {g gl G GL n S st s0 k nx j t : Nat} {d : Dsk} {r : Rfd} {T : Nat → Prop} {p q : Option Addr} {c e : Nat}
/-- What the program's Append leaves. -/
def PDone (B : Nat) (T : Nat → Prop) (W' w' : World) (x : Ending) (g gl : Nat) (d' : Dsk) (L : List Value) (K : Nat) (E : Int) : Prop :=
  x = .returned (.tuple #[.int .u64 (K : Int), .int .i64 E]) ∧ ∃ T8, Dk B T8 w' g d' ∧ Fr (fun i => T i ∨ i = gl) W' w' ∧ (∀ i, T8 i → T i ∨ W'.heap.size ≤ i) ∧ Blk w' gl 86 L
/-- What the document's leaves. -/
def DDone (W' w' : World) (x : Ending) (l : RLg) (r' : Rfd) (p : Option Addr) (c : Nat) (q : Option Addr) (L : Nat) (K : Nat) (E : Int) : Prop :=
  ∃ q' e', x = .returned (.tuple #[lv l, rv r' p c q' e', .int .u64 (K : Int), .int .i64 E]) ∧ RK wc w' q' e' r'.pe ∧ ((q' = q ∧ r'.pe.length = L) ∨ ∀ a, q' = some a → W'.heap.size ≤ a.block) ∧ Below W'.heap.size W' w'
theorem both_append (h : St w W g gl G GL n S st s0 k d r T p c q e nx j t) (hk : 12 * k ≤ 720) (bp : List Int) (m : Nat) (hm : bp.length = m) (hbp : ∀ c ∈ bp, Byte c) :
    ∃ (K : Nat) (E : Int) (d' : Dsk) (r' : Rfd) (nx' j' t' : Nat),
      (d'.ok ∧ r'.ok ∧ Agree d' r' ∧ Byt d' ∧ Far d' (adr S st 1 0) s0 ∧ d'.st.length = n ∧ Can n S st j' t' ∧ Num s0 nx' j' t' ∧ nx' < 18446744073709551616 ∧ d'.pe.length ≤ 12 * (k + 1)) ∧ r'.st.length = r.st.length ∧ r'.st = r.st ∧
      (∀ {W' : World} {bq : Option Addr} {bc : Nat}, Below W.heap.size W W' → Reads .u8 W' bq bc bp → Calls Try.prog 15 #[.pointer (some ⟨gl, 0, none⟩), .slice bq m bc] W' fun x w' => PDone w.heap.size T W' w' x g gl d' (lgc g 5 nx' st (segOf S st j') t') K E) ∧
      (∀ {W' : World} {bq : Option Addr} {bc : Nat}, RK wc W' q e r.pe → Reads .u8 W' bq bc bp → Calls Try.prog 16 #[lv ⟨5, nx, st, segOf S st j, t⟩, rv r p c q e, .slice bq m bc] W' fun x w' => DDone W' w' x ⟨5, nx', st, segOf S st j', t'⟩ r' p c q r.pe.length K E) := by
  obtain ⟨⟨h1, h2, h3, h4, h5⟩, ⟨k1, k2, k3, k4, k5, k6⟩, od, or, hag, hby, hfar, hdn, hcn, hnum, hn64, hpl⟩ := h
  have hrn : r.st.length = n := by rw [← hag.1]; exact hdn
  have hrpe : r.pe.length = d.pe.length := by rw [hag.2.1]
  by_cases hz : size m = 0
  · have hzN : sizeN (m : Int) = 0 := by rw [sizeN_nat]; exact hz
    refine ⟨0, 81, d, r, nx, j, t, ⟨od, or, hag, hby, hfar, hdn, hcn, hnum, hn64, by omega⟩, rfl, rfl, fun {W' bq bc} hB _ => ?_, fun {W' bq bc} hq _ => ?_⟩
    · refine (wal_Append_long bq m bc hzN).mono ?_
      rintro x w' ⟨rfl, rfl⟩
      exact ⟨rfl, T, h1.below hB, Fr.refl _ _, fun i hi => .inl hi, h2.below hB⟩
    · refine (ref_Append_long _ r p c q e bq m bc hzN W').mono ?_
      rintro x w' ⟨rfl, hB⟩
      exact ⟨q, e, rfl, hq.below hB, .inl ⟨rfl, rfl⟩, hB⟩
  · have hzN : sizeN (m : Int) ≠ 0 := by rw [sizeN_nat]; exact hz
    cases hr : room S j t nx (size m) with
    | false =>
      refine ⟨0, 101, d, r, nx, j, t, ⟨od, or, hag, hby, hfar, hdn, hcn, hnum, hn64, by omega⟩, rfl, rfl, fun {W' bq bc} hB _ => ?_, fun {W' bq bc} hq _ => ?_⟩
      · refine (wal_Append_full (h1.below hB) (h2.below hB) (by rw [hdn]; exact hcn) bq m bc hzN (by rw [sizeN_nat]; exact hr)).mono ?_
        rintro x w' ⟨rfl, hB2⟩
        exact ⟨rfl, T, (h1.below hB).below hB2, Fr.of_below hB2 _, fun i hi => .inl hi, (h2.below hB).below hB2⟩
      · refine (ref_Append_full hcn 5 nx r hrn p c q e bq m bc hz hr W').mono ?_
        rintro x w' ⟨rfl, hB⟩
        exact ⟨q, e, rfl, hq.below hB, .inl ⟨rfl, rfl⟩, hB⟩
    | true =>
      obtain ⟨r1, r2, r3⟩ := room_parts hr
      have hm7 := size_pos r1
      have hrt := right_of (p := bp) (by omega) r2
      have hz12 := size_le m
      have hml : (made nx 5 bp).length = size m := by rw [made_len hrt, hm]
      have hJ : toJ j t (size m) < S ∧ toT t (size m) + size m ≤ 16 := by
        have := hcn.2.2.2.2.1
        rcases to_place r3 with ⟨q1, q2, q3⟩ | ⟨q1, q2, q3, q4⟩
        · rw [q2, q3]; omega
        · rw [q3, q4]; omega
      have hfit := adr_fits (n := n) (st := st) (j := toJ j t (size m)) hcn.2.2.1 (by have := hcn.two; omega) hJ.2 (by omega)
      have hall := writes_all (made nx 5 bp) d (adr S st (toJ j t (size m)) (toT t (size m))) (by rw [hml, hdn]; exact hfit)
      have hwok := writes_ok (made nx 5 bp) d (adr S st (toJ j t (size m)) (toT t (size m))) od (by rw [hml]; omega)
      have hagw := ag_writes (made nx 5 bp) d r (adr S st (toJ j t (size m)) (toT t (size m))) hag or (by rw [hml]; omega)
      have hbyw := byt_writes (made nx 5 bp) d (adr S st (toJ j t (size m)) (toT t (size m))) hby (bs_made hbp)
      have hfaw := far_append (ep := 5) (p := bp) hcn hfar hnum (by rw [hm]) hr hn64
      obtain ⟨⟨D, E⟩, hD⟩ : ∃ D, writes d (adr S st (toJ j t (size m)) (toT t (size m))) (made nx 5 bp) = D := ⟨_, rfl⟩
      obtain ⟨⟨R, E'⟩, hRD⟩ : ∃ D, rwrites r (adr S st (toJ j t (size m)) (toT t (size m))) (made nx 5 bp) = D := ⟨_, rfl⟩
      rw [hD, hRD] at hagw
      rw [hD] at hall hwok hbyw hfaw
      simp only at hagw hall hwok hbyw hfaw
      obtain ⟨ha1, rfl, ha3⟩ := hagw
      have hDst : D.st = d.st := hall.1
      have hRst : R.st = r.st := by rw [← ha1.1, hDst, hag.1]
      have hpel : D.pe.length ≤ d.pe.length + size m := by
        have := hall.2.2.1
        omega
      by_cases hE : E = 0
      · subst hE
        refine ⟨nx, 0, D, R, more nx, toJ j t (size m), toT t (size m) + size m, ⟨hwok, ha3, ha1, hbyw, hfaw, by rw [hDst]; exact hdn, ⟨hcn.1, hcn.2.1, hcn.2.2.1, hcn.2.2.2.1, hJ.1, hJ.2⟩, num_more hnum r2 hn64, more_lt nx, by omega⟩, by rw [hRst], hRst, fun {W' bq bc} hB hb => ?_, fun {W' bq bc} hq hb => ?_⟩
        · refine (wal_Append_room (h1.below hB) (h2.below hB) k1 (by rw [hdn]; exact hcn) od bq m bc bp hm hbp hb hr hn64 (by omega) (by omega) hD).mono ?_
          rintro x w' (⟨-, rfl, T8, q1, q2, q3, q4⟩ | ⟨hne, -⟩)
          · exact ⟨rfl, T8, q1, q2, q3, q4⟩
          · exact absurd rfl hne
        · refine (ref_Append_room hcn 5 nx r hrn or p c q e bq m bc bp hm hbp hr hn64 (by omega) (by omega) hRD W' hb hq).mono ?_
          rintro x w' ⟨hy, -⟩
          exact hy rfl
      · refine ⟨0, E, D, R, nx, j, t, ⟨hwok, ha3, ha1, hbyw, hfaw, by rw [hDst]; exact hdn, hcn, hnum, hn64, by omega⟩, by rw [hRst], hRst, fun {W' bq bc} hB hb => ?_, fun {W' bq bc} hq hb => ?_⟩
        · refine (wal_Append_room (h1.below hB) (h2.below hB) k1 (by rw [hdn]; exact hcn) od bq m bc bp hm hbp hb hr hn64 (by omega) (by omega) hD).mono ?_
          rintro x w' (⟨he, -⟩ | ⟨-, rfl, T8, q1, q2, q3, q4⟩)
          · exact absurd he hE
          · exact ⟨rfl, T8, q1, q2, q3, q4⟩
        · refine (ref_Append_room hcn 5 nx r hrn or p c q e bq m bc bp hm hbp hr hn64 (by omega) (by omega) hRD W' hb hq).mono ?_
          rintro x w' ⟨-, hy⟩
          exact hy hE
/-- The document's log is written, then its disk. -/
theorem st_app {W8 W9 W10 W11 : World} {nx' j' t' : Nat} {d' : Dsk} {r' : Rfd} {T8 : Nat → Prop} {q' : Option Addr} {e' : Nat} (h : St w W g gl G GL n S st s0 k d r T p c q e nx j t) (hF : Fr (fun i => T i ∨ i = gl) W W8) (hS : ∀ i, T8 i → T i ∨ W.heap.size ≤ i) (hD : Dk w.heap.size T8 W8 g d') (hY : Blk W8 gl 86 (lgc g 5 nx' st (segOf S st j') t'))
    (hB9 : Below W8.heap.size W8 W9) (hL10 : Blk W10 GL 42 (ll ⟨5, nx', st, segOf S st j', t'⟩)) (hg10 : W9.grownBy W10 (some GL)) (hX11 : Blk W11 G 39 (rl r' p c q' e')) (hg11 : W10.grownBy W11 (some G))
    (r2 : RK wc W9 q' e' r'.pe) (n2 : (q' = q ∧ r'.pe.length = r.pe.length) ∨ ∀ a, q' = some a → W8.heap.size ≤ a.block) (hst : r'.st = r.st)
    (hok : d'.ok ∧ r'.ok ∧ Agree d' r' ∧ Byt d' ∧ Far d' (adr S st 1 0) s0 ∧ d'.st.length = n ∧ Can n S st j' t' ∧ Num s0 nx' j' t' ∧ nx' < 18446744073709551616 ∧ d'.pe.length ≤ 12 * (k + 1)) :
    St w W11 g gl G GL n S st s0 (k + 1) d' r' T8 p c q' e' nx' j' t' := by
  obtain ⟨hL8, hR8, hB8⟩ := h.prog hF hS
  have hlt : ∀ i, ((T8 i ∨ i = gl ∨ i = GL) ∨ i = G) → i < W8.heap.size := fun i hi => by
    rcases hi with (hi | hi | hi) | hi
    · exact hD.lt i hi
    · subst hi; exact hY.lt
    · subst hi; exact hL8.lt
    · subst hi; exact hR8.1.lt
  have o1 := hR8.2.2.2.1
  have o2 := off_new (w := W8) hR8.2.2.2.2.1 hlt n2
  have hGGL : G ≠ GL := fun q => hR8.2.2.2.2.2 (.inr (.inr q))
  have f1 : Fr (fun i => i = G ∨ i = GL) W9 W11 := (Fr.of_grown hg10 (fun i hi => by simp at hi; exact .inr hi.symm)).trans (Fr.of_grown (S := fun i => i = G ∨ i = GL) hg11 (fun i hi => by simp at hi; exact .inl hi.symm)) (fun _ q => .inl q)
  have f2 : Fr (fun i => i = G ∨ i = GL) W8 W11 := (Fr.of_below hB9 _).trans f1 (fun _ q => .inl q)
  have up : ∀ i, (i = G ∨ i = GL) → ((T8 i ∨ i = gl ∨ i = GL) ∨ i = G) := fun i hi => by
    rcases hi with hi | hi
    · exact .inr hi
    · exact .inl (.inr (.inr hi))
  refine st_done h hF hS hD hY f2 hX11 (hL10.kept hg11 (by simpa using hGGL.symm)) ?_ (RKfr r2 o2 (Fr.mono f1 up)) (.inl ⟨rfl, by rw [hst]⟩) n2 hok
  rw [hst]
  exact RKfr hR8.2.1 o1 (Fr.mono f2 up)
end
end Go.Proofs.Ythgafnommcodcaa.Wal
