/-
  A log's write: sectors one behind the other, up to the first error.
-/
import Derived.Test.YthgafnommcodcaaWalLog
namespace Go.Proofs.Ythgafnommcodcaa.Wal
open Go.RowKit Go.Proofs.Ythgafnommcodcaa.Mem Go.Proofs.Ythgafnommcodcaa.Sect Go.Proofs.Ythgafnommcodcaa.Frame Go.Proofs.Ythgafnommcodcaa.Disk Go.Proofs.Ythgafnommcodcaa.Area
set_option maxRecDepth 100000

theorem writes_yes {d : Dsk} {i : Nat} (s : Sec) (r : List Sec) (h : d.putE i = 0) : writes d i (s :: r) = writes (d.put i s) (i + 1) r := by rw [writes, if_pos h]
theorem writes_no {d : Dsk} {i : Nat} (s : Sec) (r : List Sec) (h : d.putE i ≠ 0) : writes d i (s :: r) = (d.put i s, d.putE i) := by rw [writes, if_neg h]
theorem drop_at {α : Type} {l : List α} {i : Nat} {s : α} (h : l[i]? = some s) : l.drop i = s :: l.drop (i + 1) := by
  have hi := (List.getElem?_eq_some_iff.1 h).1
  rw [List.drop_eq_getElem_cons hi, (List.getElem?_eq_some_iff.1 h).2]
/-- The log's disk and the sector at hand lie there. -/
def Wr2 (gl g G : Nat) (s : Sec) (W : World) : Prop := W.cell? ⟨gl, 0, none⟩ = some (.pointer (some ⟨g, 0, none⟩)) ∧ W.rangeAt G 0 (sc s)
section
variable {S0 : Nat → Prop} {B g : Nat} {w : World} {d : Dsk} {gl S ep nx st j t : Nat}
set_option maxHeartbeats 2000000 in
theorem wal_write (h : Dk B S0 w g d) (hY : Blk w gl 86 (lgc g ep nx st (segOf S st j) t)) (hgl : ¬ S0 gl) (hc : Can d.st.length S st j t) (hd : d.ok) (j' t' : Nat) (l : List Sec) (q : Option Addr) (m c : Nat) (hm : l.length = m) (hm2 : m ≤ 12) (ht : t' + m ≤ 16)
    (hp : d.pe.length + m ≤ 1000) (r : RK sc w q c l) (ho : Off S0 q m) :
    Calls Try.prog 44 #[.pointer (some ⟨gl, 0, none⟩), .int .i64 (segOf S st j' : Int), .int .i64 (t' : Int), .slice q m c] w fun e w' => e = .returned (.int .i64 (writes d (adr S st j' t') l).2) ∧ Went B S0 w w' g (writes d (adr S st j' t') l).1 := by
  have hl := len_any h
  obtain ⟨hn, hE⟩ := hc.place j'
  have hs := area_Seg (d.st.length : Int) (segOf S st j' : Int) w
  rw [hn, hE] at hs
  have ha : adr S st j' t' = adr S st j' 0 + t' := by unfold adr; omega
  have hA : adr S st j' 0 ≤ 1000 := by
    have := seg_lt st j' (show 0 < S by have := hc.two; omega)
    have := hc.two
    unfold adr
    omega
  rw [ha]
  generalize adr S st j' 0 = A at *
  clear hn hE ha
  unfold lgc at hY
  have hk := hY.cell
  have hus := und_sec
  go_enter Try.func44, Try.ntmps44
  go_wp2_with (first
    | ((with_reducible refine hl.mono ?_); rintro e w1 ⟨rfl, hw⟩; rw [hw]; clear hw)
    | ((with_reducible refine hs.mono ?_); rintro e w1 ⟨rfl, hw⟩; rw [hw]; clear hw))
  clear hl hs hk
  go_loopw [29] (fun n wr => ∃ (i : Nat) (d' : Dsk) (S' : Nat → Prop), i ≤ m ∧ n = .int .i64 i ∧ Hid (writes d (A + t') l = writes d' (A + t' + i) (l.drop i)) ∧ d'.ok ∧ d'.pe.length ≤ d.pe.length + i ∧ Dk B S' wr g d' ∧ Fr S0 w wr ∧ Hid (∀ k, S' k → S0 k ∨ w.heap.size ≤ k)) (fun n _ => m - (intOf n).toNat)
  case atStart => exact ⟨0, d, S0, by omega, rfl, rfl, hd, by omega, h, Fr.refl _ _, fun k hk => .inl hk⟩
  case round =>
    obtain ⟨i, d', S', hi, rfl, HW, hok, hpe, hD, hF, hS'⟩ := hrel
    have hYr := hF.blk hY hgl
    have hkr := hYr.cell 0
    simp only [List.getElem?_cons_zero] at hkr
    have rr := RKfr r (by rw [hm]; exact ho) hF
    by_cases hlt : i < m
    · obtain ⟨s, hsi⟩ : ∃ s, l[i]? = some s := ⟨_, List.getElem?_eq_getElem (by omega)⟩
      obtain ⟨b, o, rfl, hr⟩ := rk_range sc_len rr hsi
      have hlt2 : decide ((i : Int) < (m : Int)) = true := by simp; omega
      have hsz := size_sec s
      have w1 : IntKind.i64.wrap ((A : Int) + (t' : Int)) = (A : Int) + (t' : Int) := wrap_int ⟨by omega, by omega⟩
      have w2 : IntKind.i64.wrap ((A : Int) + (t' : Int) + (i : Int)) = (A : Int) + (t' : Int) + (i : Int) := wrap_int ⟨by omega, by omega⟩
      have hcast : ((A : Int) + (t' : Int) + (i : Int)) = ((A + t' + i : Nat) : Int) := by omega
      have hwr := fun {W : World} (hW : Below wr.heap.size wr W) => write_any (hD.below hW) hok ((A : Int) + (t' : Int) + (i : Int)) s
      rw [hcast] at hwr
      simp only [secv] at hwr
      rw [← hcast] at hwr
      go_wp2_with (first
        | ((refine at_load_sec _ _ _ _ (by rfl) (by rfl) hr (by rfl) ?_))
        | ((refine at_alloc_sec (by rfl) (by rfl) ?_); intro W1 hW1 hB1 hz1)
        | ((refine at_store_sec _ _ _ _ _ (by rfl) (by rfl) (by rfl) hW1 (by rfl) ?_); intro W2 hW2 hg2 hz2))
      have hB2 : Below wr.heap.size wr W2 := hB1.grown hg2 hB1.size (by simp)
      have hB2d : Below wr.heap.size wr W2.drew := hB2.drew
      have k0 : W2.drew.cell? ⟨gl, 0, none⟩ = some (.pointer (some ⟨g, 0, none⟩)) := (hYr.below hB2d).cell 0
      have kS : W2.drew.rangeAt wr.heap.size 0 (sc s) := blk_sec hW2.drew
      have kE : Blk W2.drew wr.heap.size 70 (sc s) := hW2.drew
      have kY := hYr.below hB2d
      have hnG : ¬ S' wr.heap.size := fun q => by have := hD.lt _ q; omega
      have hnl : ¬ S' gl := fun q => by
        rcases hS'.out _ q with q | q
        · exact hgl q
        · have := hY.lt; omega
      obtain ⟨E, hE⟩ : ∃ E, d'.putE ((A + t' + i : Nat) : Int) = E := ⟨_, rfl⟩
      rw [hcast, hE, ← hcast] at hwr
      replace hE : Hid (d'.putE ((A + t' + i : Nat) : Int) = E) := hE
      replace hcast : Hid ((A : Int) + (t' : Int) + (i : Int) = ((A + t' + i : Nat) : Int)) := hcast
      go_region_held (fun W => W.cell? ⟨gl, 0, none⟩ = some (.pointer (some ⟨g, 0, none⟩)) ∧ W.rangeAt wr.heap.size 0 (sc s)) (first | exact ⟨k0, kS⟩ | exact ⟨k6, k7⟩ | assumption)
        (((with_reducible refine (hwr hB2d).mono ?_); rintro e w6 ⟨rfl, S6, hD6, hF6, hS6⟩; have k6 : w6.cell? ⟨gl, 0, none⟩ = some (.pointer (some ⟨g, 0, none⟩)) := ((hF6.blk kY hnl).cell 0); have k7 : w6.rangeAt wr.heap.size 0 (sc s) := blk_sec (hF6.blk kE hnG)))
      have hF' : Fr S0 w w6 := hF.trans ((Fr.of_below hB2d S').trans hF6 (fun _ h => .inl h)) hS'.out
      have hSS : ∀ k, S6 k → S0 k ∨ w.heap.size ≤ k := fun k hk => by
        rcases hS6 k hk with q | q
        · exact hS'.out k q
        · exact .inr (by have := hF.size; have := hB2d.size; omega)
      rw [hcast.out] at hD6
      have e1 := drop_at hsi
      have hpl := put_len d' ((A + t' + i : Nat) : Int) s
      have hok2 := put_ok hok ((A + t' + i : Nat) : Int) s (by omega)
      by_cases h0 : E = 0
      · have hb : (E != 0) = false := by simp [h0]
        have hp0 : d'.putE ((A + t' + i : Nat) : Int) = 0 := hE.out.trans h0
        have HW2 : Hid (writes d (A + t') l = writes (d'.put ((A + t' + i : Nat) : Int) s) (A + t' + (i + 1)) (l.drop (i + 1))) := by
          unfold Hid
          rw [HW.out, e1, writes_yes _ _ hp0, Nat.add_assoc (A + t') i 1]
        have hl1 : (d'.put ((A + t' + i : Nat) : Int) s).pe.length ≤ d.pe.length + (i + 1) := by have := hpl.1; omega
        have hSS' : Hid (∀ k, S6 k → S0 k ∨ w.heap.size ≤ k) := hSS
        generalize d'.put ((A + t' + i : Nat) : Int) s = d6 at *
        clear e1 hwr hSS hp0 hE HW hS6 hpl k0 k6 k7 kS kE kY hkr
        go_wp2
        go_roundw
        case rel => exact ⟨i + 1, d6, S6, by omega, by go_num, HW2, hok2, hl1, hD6, hF', hSS'⟩
        case measure => simp [intOf]; omega
      · have hb : (E != 0) = true := by simp [h0]
        have hp0 : d'.putE ((A + t' + i : Nat) : Int) ≠ 0 := by rw [hE.out]; exact h0
        have HW2 : Hid (writes d (A + t') l = (d'.put ((A + t' + i : Nat) : Int) s, E)) := by
          unfold Hid
          rw [HW.out, e1, writes_no _ _ hp0, hE.out]
        clear e1 hwr hp0 hE HW hpl k0 k6 k7 kS kE kY hkr
        go_wp2
        go_ret
        rw [HW2.out]
        exact ⟨rfl, S6, hD6, hF', hSS⟩
    · obtain rfl : i = m := by omega
      have e1 : l.drop i = [] := List.drop_of_length_le (by omega)
      have HW2 := HW.out
      rw [e1] at HW2
      replace HW2 : Hid (writes d (A + t') l = (d', 0)) := HW2
      clear HW e1 hkr
      go_wp2
      go_ret
      rw [HW2.out]
      exact ⟨rfl, S', hD, hF, hS'.out⟩
end
end Go.Proofs.Ythgafnommcodcaa.Wal
