/-
  What is pending, as the list of its places; a new disk.
-/
import Derived.Test.YthpkmkknipkcbaaDiskRead
namespace Go.Proofs.Ythpkmkknipkcbaa.Disk
open Go.RowKit Go.Proofs.Ythpkmkknipkcbaa.Mem
set_option maxRecDepth 100000

theorem made_zero : ∀ n : Nat, (madeCells (secv zero).cells (n * 64)).toList = (List.replicate n zero).flatMap sc := by
  intro n
  refine List.ext_getElem? fun j => ?_
  have e1 : (secv zero).cells = (sc zero).toArray := rfl
  have hz : ∀ k, k < 64 → (sc zero)[k]? = some (.int .u8 0) := fun k hk => by simp only [sc, zero, List.getElem?_map, List.getElem?_replicate, hk, if_true, Option.map_some]
  rcases Nat.lt_or_ge j (n * 64) with hj | hj
  · have hq : j / 64 < n := by omega
    have e2 := get_flat sc_len (List.replicate n zero) (j / 64) (j % 64) zero (by simp [hq]) (by omega)
    rw [show j / 64 * 64 + j % 64 = j by omega, hz _ (by omega)] at e2
    rw [e2, e1]
    simp [madeCells, hj, sc_len, hz (j % 64) (by omega)]
  · rw [List.getElem?_eq_none (by simp [madeCells]; exact hj), List.getElem?_eq_none (by rw [len_flat sc_len]; simpa using hj)]
theorem info_sec : ∃ i, Try.prog.info? 25 = some i ∧ i.zero = some (secv zero) ∧ i.size = 64 ∧ i.bytes = 64 := by
  have h : (Try.prog.info? 25).map (fun i => (i.zero, i.size, i.bytes)) = some (some (secv zero), 64, 64) := by kernel_rfl
  obtain ⟨i, h1, h2⟩ := Option.map_eq_some_iff.1 h
  simp only [Prod.mk.injEq] at h2
  exact ⟨i, h1, h2⟩
theorem run_make_secs (w : World) (n : Nat) (k : Int) (hk : k = n) (hn : n ≤ 1000) : ∃ w', (Instr.makeSlice 34 (.int .i64 k) (.int .i64 k)).run Try.prog w = .ok (.slice (some ⟨w.heap.size, 0, none⟩) n n) w' ∧
    w'.ownsRow w.heap.size 25 64 (.slice (some ⟨w.heap.size, 0, none⟩) n n) n ((List.replicate n zero).flatMap sc) ∧ w.grownBy w' none := by
  subst hk
  obtain ⟨i, h1, h2, h3, h4⟩ := info_sec
  obtain ⟨w', hr, ho, hg⟩ := run_make_full (P := Try.prog) w w.heap.size 34 25 i (secv zero) 64 Try.underlying34 h1 h2 h3 .i64 .i64 n (by rw [h4]; omega) (by unfold maxLen; omega) (Nat.le_refl _)
  rw [made_zero] at ho
  exact ⟨w', hr, ho, hg⟩
/-- A disk that was just made. -/
theorem fresh_dk {w w1 : World} {n : Nat} (ho : w1.ownsRow w.heap.size 25 64 (.slice (some ⟨w.heap.size, 0, none⟩) n n) n ((List.replicate n zero).flatMap sc)) (hg : w.grownBy w1 none) :
    Dk w.heap.size (fun k => k = w.heap.size ∨ k = w1.heap.size) (w1.alloc (.cells #[.slice (some ⟨w.heap.size, 0, none⟩) n n, .slice none 0 0, .bool false, .int .i64 (-1)] 61)) w1.heap.size (fresh n) ∧ Below w.heap.size w (w1.alloc (.cells #[.slice (some ⟨w.heap.size, 0, none⟩) n n, .slice none 0 0, .bool false, .int .i64 (-1)] 61)) := by
  have hl := (ho.lt w.heap.size rfl).2
  have e1 : (fresh n).st.length = n := by simp [fresh]
  refine ⟨⟨_, _, Blk.new _ _ _, ?_, ?_, .inr rfl, ?_, ?_, ?_⟩, ?_⟩
  · rw [e1]; exact ho.alloc _
  · exact ⟨by simp [fresh], .inl ⟨rfl, rfl⟩⟩
  · intro b hb
    simp [Value.ownBlock] at hb
    subst hb
    exact ⟨.inl rfl, by omega⟩
  · intro b hb; simp [Value.ownBlock] at hb
  · rintro k (rfl | rfl)
    · exact ⟨Nat.le_refl _, by simp; omega⟩
    · exact ⟨by omega, by simp⟩
  · exact bnext ((Below.refl w.heap.size w).grown hg (Nat.le_refl _) (by simp)) (bnew _ _)
theorem new_any (x : Int) (w : World) :
    Calls Try.prog 7 #[.int .i64 x] w fun e w' => ∃ g S, e = .returned (.pointer (some ⟨g, 0, none⟩)) ∧ Dk w.heap.size S w' g (fresh (clamp x)) ∧ Below w.heap.size w w' := by
  obtain ⟨n, hn⟩ : ∃ n, clamp x = n := ⟨_, rfl⟩
  have hn2 : n ≤ 512 := by unfold clamp at hn; omega
  have hmin : min (max x 0) 512 = (n : Int) := by unfold clamp at hn; omega
  rw [hn]
  rcases Int.lt_or_le x 0 with h0 | h0
  · obtain ⟨w1, hr, ho, hg⟩ := run_make_secs w n 0 (by omega) (by omega)
    obtain ⟨hD, hB⟩ := fresh_dk ho hg
    go_enter Try.func7, Try.ntmps7
    go_wp2
    go_ret
    exact ⟨_, _, rfl, hD, hB⟩
  · rcases Int.lt_or_le 512 x with h5 | h5
    · obtain ⟨w1, hr, ho, hg⟩ := run_make_secs w n 512 (by omega) (by omega)
      obtain ⟨hD, hB⟩ := fresh_dk ho hg
      go_enter Try.func7, Try.ntmps7
      go_wp2
      go_ret
      exact ⟨_, _, rfl, hD, hB⟩
    · obtain ⟨w1, hr, ho, hg⟩ := run_make_secs w n x (by omega) (by omega)
      obtain ⟨hD, hB⟩ := fresh_dk ho hg
      go_enter Try.func7, Try.ntmps7
      go_wp2
      go_ret
      exact ⟨_, _, rfl, hD, hB⟩
theorem info_int : ∃ i, Try.prog.info? 3 = some i ∧ i.zero = some (.int .i64 0) ∧ i.size = 1 ∧ i.bytes = 8 := by
  have h : (Try.prog.info? 3).map (fun i => (i.zero, i.size, i.bytes)) = some (some (.int .i64 0), 1, 8) := by kernel_rfl
  obtain ⟨i, h1, h2⟩ := Option.map_eq_some_iff.1 h
  simp only [Prod.mk.injEq] at h2
  exact ⟨i, h1, h2⟩
def places (l : List Wr) : List Int := l.map (·.1)
theorem places_take {l : List Wr} {k : Nat} {x : Wr} (hx : l[k]? = some x) : places (l.take (k + 1)) = places (l.take k) ++ [x.1] := by
  rw [List.take_add_one, hx]
  simp [places]
theorem pending_any {S : Nat → Prop} {B g : Nat} {w : World} {d : Dsk} (h : Dk B S w g d) (hd : d.ok) :
    Calls Try.prog 23 #[.pointer (some ⟨g, 0, none⟩)] w fun e w' => ∃ p c, e = .returned (.slice p d.pe.length c) ∧ Reads .i64 w' p c (places d.pe) ∧ Below w.heap.size w w' := by
  obtain ⟨p, c, q, e, hb, _, r2, _⟩ := h.parts
  have hl := hd.2.1
  obtain ⟨L, hL⟩ : ∃ L, d.pe.length = L := ⟨_, rfl⟩
  rw [hL] at hb hl
  obtain ⟨i0, hi, ha0, ha1, ha2⟩ := info_int
  obtain ⟨w1, hmk, hown, hgr⟩ := run_make_own (P := Try.prog) w w.heap.size 52 3 i0 (.int .i64 0) 1 Try.underlying52 hi ha0 ha1 .i64 .i64 L (by rw [ha2]; omega) (by unfold maxLen; omega) (Nat.le_refl _)
  have hB1 : Below w.heap.size w w1 := (Below.refl w.heap.size w).grown hgr (Nat.le_refl _) (by simp)
  have hc := hb.cell
  have hc1 := (hb.below hB1).cell
  rw [hL]
  go_enter Try.func23, Try.ntmps23
  go_wp2
  clear hc hc1 hmk
  go_loopw [3, 17] (fun v t wr => ∃ k : Nat, k ≤ L ∧ t = .int .i64 k ∧ wr.ownsRow w.heap.size 3 1 v k ((places (d.pe.take k)).map (Value.int .i64)) ∧ Below w.heap.size w wr) (fun _ t _ => L - (intOf t).toNat)
  case atStart => exact ⟨0, Nat.zero_le _, rfl, hown, hB1⟩
  case round =>
    obtain ⟨k, hk, rfl, hown, hbel⟩ := hrel
    by_cases hlt : k < L
    · obtain ⟨x, hx⟩ : ∃ x, d.pe[k]? = some x := ⟨_, List.getElem?_eq_getElem (by omega)⟩
      obtain ⟨b, o, rfl, hr⟩ := rk_range wc_len (r2.below hbel) hx
      have hlt' : (k : Int) < (L : Int) := by omega
      go_wp2_with (first
        | ((refine at_load_wr _ _ _ _ (by rfl) (by rfl) hr (by rfl) ?_))
        | ((refine at_alloc_wr (by rfl) (by rfl) ?_); intro W1 hW1 hB1 hz1)
        | ((refine at_store_wv _ _ _ _ _ _ (size_wr _) (by rfl) (by rfl) (by rfl) hW1 (by rfl) ?_); intro W2 hW2 hg2 hz2; have hat := blk_wat hW2; have hown2 := (own_below hown hB1).kept hg2 (.inr fun q => by have := (hown.lt _ q).2; omega))
        | (at_builtin; refine wpList_append_own _ rfl _ _ 52 rfl w.heap.size 3 i0 (.int .i64 0) 1 8 Try.underlying52 hi ha0 ha1 ha2 rfl (by decide) u3 k _ rfl (hown2.alloc _) ⟨W2.heap.size, 0, none⟩ 1 1 [.int .i64 x.1] rfl rfl one_cell one_one ?c3 ?c4 ?c5 ?_))
      case c3 => unfold maxLen; omega
      case c4 => omega
      case c5 =>
        have := hbel.size
        have := hB1.size
        have := hz2.out
        simp
        omega
      · intro v' w' hown3 hg3 hne3
        have hb2 : Below w.heap.size w W2 := (bnext hbel hB1).grown hg2 (by have := hbel.size; have := hB1.size; omega) (by have := hbel.size; simp; omega)
        have hb3 : Below w.heap.size w w' := (bnext hb2 (bnew _ _)).grown hg3 (by have := hb2.size; simp; omega) (fun b hb => (hown.lt b hb).1)
        have e3 : (places (d.pe.take k)).map (Value.int .i64) ++ [.int .i64 x.1] = (places (d.pe.take (k + 1))).map (Value.int .i64) := by rw [places_take hx]; simp
        rw [e3] at hown3
        clear hne3 hat
        go_wp2
        go_roundw
        case rel => exact ⟨k + 1, by omega, by go_num, hown3, hb3⟩
        case measure => simp [intOf]; omega
    · have hk' : d.pe.take k = d.pe := List.take_of_length_le (by omega)
      rw [hk'] at hown
      obtain ⟨e1, q2, c2, hv, hr⟩ := own_reads hown
      have hlen : (places d.pe).length = L := by simp [places, hL]
      rw [hlen] at hv
      go_wp2
      go_ret
      exact ⟨q2, c2, by subst hv; rfl, hr, hbel⟩
end Go.Proofs.Ythpkmkknipkcbaa.Disk
