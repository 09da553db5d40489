/-
  The sectors of a segment, read.
-/
import Derived.Test.YthgafnommcodcaaFrameCopy
import Derived.Test.YthgafnommcodcaaWalAppend
namespace Go.Proofs.Ythgafnommcodcaa.Wal
open Go.RowKit Go.Proofs.Ythgafnommcodcaa.Mem Go.Proofs.Ythgafnommcodcaa.Sect Go.Proofs.Ythgafnommcodcaa.Frame Go.Proofs.Ythgafnommcodcaa.Disk Go.Proofs.Ythgafnommcodcaa.Area
set_option maxRecDepth 100000

/-- Read so far. -/
def seen (V : List Sec) (i : Nat) : List Sec := V.take i ++ List.replicate (V.length - i) zero
theorem seen_len (V : List Sec) {i : Nat} (h : i ≤ V.length) : (seen V i).length = V.length := by unfold seen; rw [List.length_append, List.length_take, List.length_replicate]; omega
theorem seen_next {V : List Sec} {i : Nat} {s : Sec} (h : V[i]? = some s) : (seen V i).set i s = seen V (i + 1) := by
  have hi := (List.getElem?_eq_some_iff.1 h).1
  unfold seen
  rw [List.take_add_one, h, List.append_assoc]
  have e : V.length - i = (V.length - (i + 1)) + 1 := by omega
  rw [e, List.replicate_succ, List.set_append_right _ _ (by rw [List.length_take]; omega), List.length_take, Nat.min_eq_left (by omega), Nat.sub_self]
  rfl
theorem view_at {rd : Rd} {j i : Nat} (h : i < 16) : (view rd j 0)[i]? = some (rd j i) := by
  unfold view
  rw [List.getElem?_map, List.getElem?_range (by omega), Option.map_some, Nat.zero_add]
section
variable {S0 : Nat → Prop} {B g : Nat} {w : World} {d : Dsk} {S st j t : Nat}
set_option maxHeartbeats 2000000 in
theorem wal_segment (h : Dk B S0 w g d) (hd : d.ok) (hc : Can d.st.length S st j t) (i : Nat) :
    Calls Try.prog 38 #[.pointer (some ⟨g, 0, none⟩), .int .i64 (segOf S st i : Int)] w fun e w' => ∃ G, e = .returned (.slice (some ⟨G, 0, none⟩) 16 16) ∧ RK sc w' (some ⟨G, 0, none⟩) 16 (view (vis d S st) i 0) ∧ Below w.heap.size w w' := by
  have hl := len_any h
  obtain ⟨hn, hE⟩ := hc.place i
  have hs := area_Seg (d.st.length : Int) (segOf S st i : Int) w
  rw [hn, hE] at hs
  have hA : adr S st i 0 ≤ 1000 := by
    have := seg_lt st i (show 0 < S by have := hc.two; omega)
    have := hc.two
    unfold adr
    omega
  have hav : ∀ u : Nat, adr S st i u = adr S st i 0 + u := fun u => by unfold adr; omega
  have hrd := fun {W : World} (hW : Below w.heap.size w W) (k : Int) => read_any (h.below hW) hd k
  obtain ⟨V, hV⟩ : ∃ V, view (vis d S st) i 0 = V := ⟨_, rfl⟩
  have hVl : V.length = 16 := by rw [← hV, view_len]
  have hVi : ∀ k, k < 16 → V[k]? = some (d.read ((adr S st i 0 + k : Nat) : Int)).1 := fun k hk => by
    rw [← hV, view_at hk, ← hav k]
    rfl
  rw [hV]
  clear hV hn hE hav
  generalize adr S st i 0 = A at *
  obtain ⟨w2, hmk, O2, G2⟩ := run_make_secs w 16 16 rfl (by omega)
  have B2 : Blk w2 w.heap.size 70 (bs (flat (seen V 0))) := by
    rcases O2.2 with ⟨h, _⟩ | ⟨g, cap, cur, hv, _, hh, _, _, hcs, htk⟩
    · simp at h
    · simp only [Value.slice.injEq, Option.some.injEq, Addr.mk.injEq, and_true, true_and] at hv
      obtain ⟨rfl, rfl⟩ := hv
      unfold Blk
      rw [hh]
      rw [List.take_of_length_le (by rw [Array.length_toList, hcs]; exact Nat.le_refl _), sc_flat] at htk
      rw [seen, List.take_zero, List.nil_append, hVl, ← htk]
  have hB2 : Below w.heap.size w w2 := (Below.refl _ w).grown G2 (Nat.le_refl _) (by simp)
  clear O2 G2
  go_enter Try.func38, Try.ntmps38
  go_wp2_with (first
    | ((with_reducible refine hl.mono ?_); rintro e w1 ⟨rfl, hw⟩; rw [hw]; clear hw)
    | ((with_reducible refine hs.mono ?_); rintro e w1 ⟨rfl, hw⟩; rw [hw]; clear hw))
  clear hl hs hmk
  go_loopw [19] (fun n wr => ∃ k : Nat, k ≤ 16 ∧ n = .int .i64 k ∧ Blk wr w.heap.size 70 (bs (flat (seen V k))) ∧ Below w.heap.size w wr) (fun n _ => 16 - (intOf n).toNat)
  case atStart => exact ⟨0, by omega, rfl, B2, hB2⟩
  case round =>
    obtain ⟨k, hk, rfl, BV, hB⟩ := hrel
    by_cases hlt : k < 16
    · have hlt2 : decide ((k : Int) < 16) = true := by simp; omega
      have hlt3 : (k : Int) < 16 := by omega
      have w1 : IntKind.i64.wrap ((A : Int) + (k : Int)) = (A : Int) + (k : Int) := wrap_int ⟨by omega, by omega⟩
      have hcast : ((A : Int) + (k : Int)) = ((A + k : Nat) : Int) := by omega
      have hr1 := hrd hB ((A : Int) + (k : Int))
      have hVk := hVi k hlt
      rw [← hcast] at hVk
      generalize d.read ((A : Int) + (k : Int)) = R at hr1 hVk
      have hnx := seen_next hVk
      have hsl := seen_len V (i := k) (by omega)
      replace hcast : Hid ((A : Int) + (k : Int) = ((A + k : Nat) : Int)) := hcast
      clear hVk
      go_wp2_with (first
        | ((with_reducible refine hr1.mono ?_); rintro e w4 ⟨rfl, hB4⟩; have BV4 := BV.below hB4)
        | (refine at_store_in _ _ w.heap.size _ (seen V k) k R.1 (by rfl) (by rfl) (by rfl) BV4 (by omega) (by rfl) ?_; intro W9 B9 G9))
      go_roundw
      case rel => exact ⟨k + 1, by omega, by go_num, by rw [← hnx]; exact B9, (bnext hB hB4).grown G9 (bnext hB hB4).size (by simp)⟩
      case measure => simp [intOf]; omega
    · obtain rfl : k = 16 := by omega
      have e : seen V 16 = V := by unfold seen; rw [hVl, Nat.sub_self, List.take_of_length_le (by omega)]; simp
      rw [e] at BV
      have hrk := blk_rk BV (by omega)
      rw [hVl] at hrk
      go_wp2
      go_ret
      exact ⟨_, rfl, hrk, hB⟩
end
end Go.Proofs.Ythgafnommcodcaa.Wal
