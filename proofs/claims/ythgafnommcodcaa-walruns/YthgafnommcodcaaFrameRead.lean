/-
  frame.read: what the fields say. (Written by gen_fread.py.)
-/
import Derived.Test.YthgafnommcodcaaFrameEq
namespace Go.Proofs.Ythgafnommcodcaa.Frame
open Go.RowKit Go.Proofs.Ythgafnommcodcaa.Mem Go.Proofs.Ythgafnommcodcaa.Sect Go.Proofs.Ythgafnommcodcaa.Crc
set_option maxRecDepth 100000

theorem flat_next {l : List Sec} {k : Nat} (h : k < l.length) : flat (l.take (k + 1)) = flat (l.take k) ++ l[k].1 := by
  rw [take_next h, flat_app]
  simp [flat]
theorem flat_bytes {l : List Sec} (h : ∀ s ∈ l, ∀ c ∈ s.1, Byte c) : ∀ c ∈ flat l, Byte c := by
  intro c hc
  obtain ⟨s, hs, hc⟩ := List.mem_flatMap.1 hc
  exact h s hs c hc
/-- A part of what is read, as number asks for it. -/
theorem reads_part {w : World} {g cap o k : Nat} {zs : List Int} (h : Reads .u8 w (some ⟨g, 0, none⟩) cap zs) (hl : o + k ≤ zs.length) : ∀ j, j < k → w.cell? ⟨g, o + j, none⟩ = some (.int .u8 (((zs.drop o).take k).getD j 0)) := by
  intro j hj
  obtain ⟨b, o', e, _, hc⟩ := h.2.2.2 (by omega)
  simp only [Option.some.injEq, Addr.mk.injEq, and_true] at e
  obtain ⟨rfl, rfl⟩ := e
  have := hc (o + j) (by omega)
  rw [Nat.zero_add] at this
  rw [this]
  simp [hj]
theorem part_reads {w : World} {g cap o k : Nat} {zs : List Int} (h : Reads .u8 w (some ⟨g, 0, none⟩) cap zs) (hl : o + k ≤ zs.length) (hc : o < cap) : Reads .u8 w (some ⟨g, o, none⟩) (cap - o) ((zs.drop o).take k) := by
  have h1 := (h.cut o (by omega)).upto k
  unfold cutP at h1
  rw [if_neg (by omega)] at h1
  simpa [Addr.add_lit] using h1
set_option maxHeartbeats 2000000 in
theorem frame_read (p : Option Addr) (n c m : Nat) (l : List Sec) (hl : l.length = n) (h0 : 0 < n) (hn : n ≤ 12) (hm : 14 + m ≤ 64 * n) (hb : ∀ s ∈ l, ∀ c ∈ s.1, Byte c) (w : World) (r : RK sc w p c l) :
    Calls Try.prog 73 #[.slice p n c, .int .i64 (m : Int)] w fun x w' => ∃ q d, x = .returned (.agg #[.int .u64 (seqOf (flat l) : Nat), .int .u32 (epochOf (flat l) : Nat), .slice q m d]) ∧ Reads .u8 w' q d (((flat l).drop 14).take m) ∧ Below w.heap.size w w' ∧ ∀ a, q = some a → w.heap.size < a.block := by
  obtain ⟨i0, hi, hz0, hz1, hz2⟩ := info_parts info_byte
  have Y1 := Blk.new w #[.int .u64 0, .int .u32 0, .slice none 0 0] 75
  have hB1 := bnew w (.cells #[.int .u64 0, .int .u32 0, .slice none 0 0] 75)
  obtain ⟨w2, hmk, O2, G2⟩ := run_make_own (P := Try.prog) (w.alloc (.cells #[.int .u64 0, .int .u32 0, .slice none 0 0] 75)) (w.heap.size + 1) 48 5 i0 (.int .u8 0) 1 Try.underlying48 hi hz0 hz1 .i64 .i64 (n * 64) (by rw [hz2]; omega) (by unfold maxLen; omega) (by simp)
  rw [show ((n * 64 : Nat) : Int) = (n : Int) * 64 by omega] at hmk
  have hB2 : Below w.heap.size w w2 := hB1.grown G2 hB1.size (by simp)
  have Y2 := Y1.kept G2 (by simp)
  clear hB1 Y1
  have hfl := flat_len l
  rw [hl] at hfl
  have hfb := flat_bytes hb
  go_enter Try.func73, Try.ntmps73
  go_wp2
  go_loopw [5, 14] (fun v i wr => ∃ k : Nat, k ≤ n ∧ i = .int .i64 k ∧ wr.ownsRow (w.heap.size + 1) 5 1 v (flat (l.take k)).length ((flat (l.take k)).map (Value.int .u8)) ∧ Blk wr w.heap.size 75 [.int .u64 0, .int .u32 0, .slice none 0 0] ∧ Below w.heap.size w wr) (fun _ i _ => n - (intOf i).toNat)
  case atStart => exact ⟨0, by omega, rfl, by simpa [flat] using O2, Y2, hB2⟩
  case round =>
    obtain ⟨k, hk, rfl, hown, hY, hB⟩ := hrel
    by_cases hlt : k < n
    · obtain ⟨s, hs⟩ : ∃ s, l[k]? = some s := ⟨_, List.getElem?_eq_getElem (by omega)⟩
      have HS : Hid (flat (l.take (k + 1)) = flat (l.take k) ++ s.1) := by
        unfold Hid
        rw [flat_next (by omega)]
        rw [List.getElem?_eq_getElem (by omega)] at hs
        rw [← Option.some.inj hs]
      have hlk : (flat (l.take k)).length = 64 * k := by rw [flat_len, List.length_take]; omega
      obtain ⟨b, o, rfl, hltb, hc⟩ := r.at sc_len hs
      have hr : ∀ {W : World}, Below w.heap.size w W → W.rangeAt b (o + k * 64) (sc s) := fun hB j v hv => (hB.cell (p := ⟨b, o + k * 64 + j, none⟩) hltb).trans (hc j v hv)
      obtain ⟨X, hX⟩ : ∃ X, flat (l.take k) = X := ⟨_, rfl⟩
      rw [hX] at hown hlk HS
      clear hX hs hc
      have hlt' : (k : Int) < (n : Int) := by omega
      have hs2 := s.2
      go_wp2_with (first
        | (refine at_load_sec _ _ _ _ (by rfl) (by rfl) (hr hB) (by rfl) ?_)
        | ((refine at_alloc_sec (by rfl) (by rfl) ?_); intro W1 hW1 hBn1 hz1')
        | ((refine at_store_sec _ _ _ _ _ (by rfl) (by rfl) (by rfl) hW1 (by rfl) ?_); intro W2 hW2 hg2 hz2'; have hB2' : Below w.heap.size w W2 := bnext hB (hBn1.grown hg2 hBn1.size (by simp)); have hrd : Reads .u8 W2 (some ⟨wr.heap.size, 0, none⟩) 64 s.1 := (by have := Blk.reads (zs := s.1) hW2 (by omega); rwa [hs2] at this); have hown2 : W2.ownsRow (w.heap.size + 1) 5 1 u5 X.length (X.map (Value.int .u8)) := (own_below hown hBn1).kept hg2 (.inr fun q => by have := (hown.lt wr.heap.size q).2; omega); have hY2 := (hY.below hBn1).kept hg2 (by have := hY.lt; simp; omega))
        | (at_builtin; refine wpList_append_reads _ rfl _ _ 48 rfl (w.heap.size + 1) 5 i0 (.int .u8 0) 1 .u8 Try.underlying48 hi hz0 hz1 hz2 rfl u5 X.length (X.map (Value.int .u8)) rfl hown2 (some ⟨wr.heap.size, 0, none⟩) 64 64 s.1 rfl hs2 hrd ?c3 ?c4 ?c5 ?_))
      case c3 => unfold maxLen; omega
      case c4 => omega
      case c5 => have := hB2'.size; have := hY2.lt; omega
      · intro v3 w3 hown3 hg3
        have hl3 : 64 * k + 64 = (X ++ s.1).length := by rw [List.length_append, hs2, hlk]
        rw [hl3, ← List.map_append, ← HS.out] at hown3
        have hB3 : Below w.heap.size w w3 := hB2'.grown hg3 hB2'.size (fun j hj => by have := (hown2.lt j hj).1; omega)
        have hY3 := hY2.kept hg3 (fun e => by have := (hown2.lt _ e.symm).1; omega)
        clear hown hown2 hg3 hrd HS
        go_wp2
        go_roundw
        case rel => exact ⟨k + 1, by omega, by go_num, hown3, hY3, hB3⟩
        case measure => simp [intOf]; omega
    · obtain rfl : k = n := by omega
      rw [List.take_of_length_le (by omega)] at hown
      obtain ⟨b, hbb⟩ : ∃ b, flat l = b := ⟨_, rfl⟩
      rw [hbb] at hown hfl hfb
      have hrow := (fun a ha => (hown.lt a ha).1 : ∀ a, u5.ownBlock = some a → w.heap.size + 1 ≤ a)
      obtain ⟨g, cp, rfl, hrd⟩ := own_reads_pos hown (by omega)
      have hgB : w.heap.size + 1 ≤ g := hrow g (by simp [Value.ownBlock])
      have hcp := hrd.1
      rw [hfl] at hcp
      have hc1 : ∀ w, (Instr.slice 48 (.slice (some ⟨g, 0, none⟩) (64 * k) cp) (some (.int .i64 2)) (some (.int .i64 10)) none).run Try.prog w = .ok (.slice (some ⟨g, 2, none⟩) 8 (cp - 2)) w := fun w => run_mid w g 0 (64 * k) cp 2 10 (by omega) (by omega) (by omega)
      have hc2 : ∀ w, (Instr.slice 48 (.slice (some ⟨g, 0, none⟩) (64 * k) cp) (some (.int .i64 10)) (some (.int .i64 14)) none).run Try.prog w = .ok (.slice (some ⟨g, 10, none⟩) 4 (cp - 10)) w := fun w => run_mid w g 0 (64 * k) cp 10 14 (by omega) (by omega) (by omega)
      have hc3 : ∀ w, (Instr.slice 48 (.slice (some ⟨g, 0, none⟩) (64 * k) cp) (some (.int .i64 14)) (some (.int .i64 (14 + (m : Int)))) none).run Try.prog w = .ok (.slice (some ⟨g, 14, none⟩) m (cp - 14)) w := fun w => by
        have := run_mid w g 0 (64 * k) cp 14 (14 + m) (by omega) (by omega) (by omega)
        rw [show 14 + m - 14 = m by omega, show ((14 + m : Nat) : Int) = 14 + (m : Int) by omega] at this
        exact this
      have hw14 : IntKind.i64.wrap (14 + (m : Int)) = 14 + (m : Int) := by rw [IntKind.wrap_i64]; omega
      have hN1 := fun W (hW : Reads .u8 W (some ⟨g, 0, none⟩) cp b) => frame_number g 2 8 (cp - 2) ((b.drop 2).take 8) (by simp; omega) (fun c hc => hfb c (List.mem_of_mem_drop (List.mem_of_mem_take hc))) (by omega) W (reads_part hW (by omega))
      have hN2 := fun W (hW : Reads .u8 W (some ⟨g, 0, none⟩) cp b) => frame_number g 10 4 (cp - 10) ((b.drop 10).take 4) (by simp; omega) (fun c hc => hfb c (List.mem_of_mem_drop (List.mem_of_mem_take hc))) (by omega) W (reads_part hW (by omega))
      have hN3 := fun W (hW : Reads .u8 W (some ⟨g, 0, none⟩) cp b) => bytes_Clone (some ⟨g, 14, none⟩) m (cp - 14) ((b.drop 14).take m) (by simp; omega) W (part_reads hW (by omega) (by omega)) (by omega)
      have hpl : ((b.drop 14).take m).length = m := by simp; omega
      have hE : num ((b.drop 10).take 4) < 4294967296 := by
        have := num_lt ((b.drop 10).take 4) (fun c hc => hfb c (List.mem_of_mem_drop (List.mem_of_mem_take hc)))
        rw [show ((b.drop 10).take 4).length = 4 by simp; omega] at this
        exact this
      change Hid _ at hbb
      obtain ⟨S, hS⟩ : ∃ S, num ((b.drop 2).take 8) = S := ⟨_, rfl⟩
      obtain ⟨E, hE'⟩ : ∃ E, num ((b.drop 10).take 4) = E := ⟨_, rfl⟩
      obtain ⟨P, hP⟩ : ∃ P, (b.drop 14).take m = P := ⟨_, rfl⟩
      rw [hS] at hN1
      rw [hE'] at hN2 hE
      rw [hP] at hN3 hpl
      have hwE : IntKind.u32.wrap (E : Int) = (E : Int) := by simp [IntKind.wrap, IntKind.bits, IntKind.signed]; omega
      have HS : Hid (seqOf (flat l) = S ∧ epochOf (flat l) = E ∧ ((flat l).drop 14).take m = P) := by
        unfold Hid
        rw [hbb.out]
        exact ⟨hS, hE', hP⟩
      clear hS hE' hP hrow hown
      rw [hfl]
      go_wp2
      refine Inv.region_inv (fun L a w' => ∃ (q7 : Option Addr) (c7 : Nat), a = { tmps := #[(.slice p k c), (.int .i64 (m : Int)), undef, undef, (.pointer (some ⟨w.heap.size, 0, none⟩)), (.slice (some ⟨g, 0, none⟩) (64 * k) cp), undef, u7, (.slice p k c), (.int .i64 (k : Int)), (.int .i64 ((k : Int) * 64)), (.slice (some ⟨w.heap.size + 1, 0, none⟩) 0 (k * 64)), (.slice p k c), (.int .i64 (k : Int)), (.int .i64 (k : Int)), (.bool false), u16, u17, u18, u19, u20, u21, (if L 0 = true then (.slice (some ⟨g, 0, none⟩) (64 * k) cp) else undef), (if L 1 = true then (.slice (some ⟨g, 2, none⟩) 8 (cp - 2)) else undef), (if L 2 = true then (.int .u64 (S : Int)) else undef), (if L 3 = true then (.slice (some ⟨g, 0, none⟩) (64 * k) cp) else undef), (if L 4 = true then (.slice (some ⟨g, 10, none⟩) 4 (cp - 10)) else undef), (if L 5 = true then (.int .u64 (E : Int)) else undef), (if L 6 = true then (.int .u32 (E : Int)) else undef), (if L 7 = true then (.slice (some ⟨g, 0, none⟩) (64 * k) cp) else undef), (if L 8 = true then (.int .i64 (m : Int)) else undef), (if L 9 = true then (.int .i64 (14 + (m : Int))) else undef), (if L 10 = true then (.slice (some ⟨g, 14, none⟩) m (cp - 14)) else undef), (if L 11 = true then (.slice q7 m c7) else undef), (if L 12 = true then (.agg #[.int .u64 (S : Int), .int .u32 (E : Int), .slice q7 m c7]) else undef)], defers := [] } ∧ (Below w.heap.size w w' ∧ Reads .u8 w' (some ⟨g, 0, none⟩) cp b ∧ (L 11 = true → Reads .u8 w' q7 c7 P ∧ ∀ a, q7 = some a → w.heap.size < a.block) ∧ Blk w' w.heap.size 75 (if L 13 = true then [.int .u64 (S : Int), .int .u32 (E : Int), .slice q7 m c7] else [.int .u64 0, .int .u32 0, .slice none 0 0]) ∧ (L 12 = true → L 11 = true) ∧ (L 13 = true → L 11 = true))) (by kernel_rfl) (by kernel_rfl) ?h0 ?step ?done
      case h0 => exact ⟨none, 0, by simp, ⟨hB.drew, hrd.drew, by simp, by simpa using hY.drew, by simp⟩⟩
      case step =>
        refine Inv.Steps.cons rfl ?_ ?_
        · intro L a w' hI hL hd K hK
          obtain ⟨q7, c7, rfl, hI⟩ := hI
          clear hd
          rw [if_pos (by rfl)]
          go_simp
          exact hK.out _ _ ⟨q7, c7, by simp, ⟨hI.1, hI.2.1, by simpa using hI.2.2.1, by simpa using hI.2.2.2.1, by simpa using hI.2.2.2.2⟩⟩
        refine Inv.Steps.cons rfl ?_ ?_
        · intro L a w' hI hL hd K hK
          obtain ⟨q7, c7, rfl, hI⟩ := hI
          simp [Region.binds] at hd
          simp only [hd, if_true]
          rw [if_pos (by rfl)]
          go_simp
          exact hK.out _ _ ⟨q7, c7, by simp [hd], ⟨hI.1, hI.2.1, by simpa using hI.2.2.1, by simpa using hI.2.2.2.1, by simpa using hI.2.2.2.2⟩⟩
        refine Inv.Steps.cons rfl ?_ ?_
        · intro L a w' hI hL hd K hK
          obtain ⟨q7, c7, rfl, hI⟩ := hI
          simp [Region.binds] at hd
          simp only [hd, if_true]
          rw [if_pos (by rfl)]
          go_simp
          refine (hN1 _ hI.2.1).mono ?_
          rintro e6 w6 ⟨rfl, hb6⟩
          exact hK.out _ _ ⟨q7, c7, by simp [hd], bnext hI.1 hb6, hI.2.1.below hb6, fun h => ⟨(hI.2.2.1 (by simpa using h)).1.below hb6, (hI.2.2.1 (by simpa using h)).2⟩, by simpa using hI.2.2.2.1.below hb6, by simpa using hI.2.2.2.2⟩
        refine Inv.Steps.cons rfl ?_ ?_
        · intro L a w' hI hL hd K hK
          obtain ⟨q7, c7, rfl, hI⟩ := hI
          clear hd
          rw [if_pos (by rfl)]
          go_simp
          exact hK.out _ _ ⟨q7, c7, by simp, ⟨hI.1, hI.2.1, by simpa using hI.2.2.1, by simpa using hI.2.2.2.1, by simpa using hI.2.2.2.2⟩⟩
        refine Inv.Steps.cons rfl ?_ ?_
        · intro L a w' hI hL hd K hK
          obtain ⟨q7, c7, rfl, hI⟩ := hI
          simp [Region.binds] at hd
          simp only [hd, if_true]
          rw [if_pos (by rfl)]
          go_simp
          exact hK.out _ _ ⟨q7, c7, by simp [hd], ⟨hI.1, hI.2.1, by simpa using hI.2.2.1, by simpa using hI.2.2.2.1, by simpa using hI.2.2.2.2⟩⟩
        refine Inv.Steps.cons rfl ?_ ?_
        · intro L a w' hI hL hd K hK
          obtain ⟨q7, c7, rfl, hI⟩ := hI
          simp [Region.binds] at hd
          simp only [hd, if_true]
          rw [if_pos (by rfl)]
          go_simp
          refine (hN2 _ hI.2.1).mono ?_
          rintro e6 w6 ⟨rfl, hb6⟩
          exact hK.out _ _ ⟨q7, c7, by simp [hd], bnext hI.1 hb6, hI.2.1.below hb6, fun h => ⟨(hI.2.2.1 (by simpa using h)).1.below hb6, (hI.2.2.1 (by simpa using h)).2⟩, by simpa using hI.2.2.2.1.below hb6, by simpa using hI.2.2.2.2⟩
        refine Inv.Steps.cons rfl ?_ ?_
        · intro L a w' hI hL hd K hK
          obtain ⟨q7, c7, rfl, hI⟩ := hI
          simp [Region.binds] at hd
          simp only [hd, if_true]
          rw [if_pos (by rfl)]
          go_simp
          exact hK.out _ _ ⟨q7, c7, by simp [hd], ⟨hI.1, hI.2.1, by simpa using hI.2.2.1, by simpa using hI.2.2.2.1, by simpa using hI.2.2.2.2⟩⟩
        refine Inv.Steps.cons rfl ?_ ?_
        · intro L a w' hI hL hd K hK
          obtain ⟨q7, c7, rfl, hI⟩ := hI
          clear hd
          rw [if_pos (by rfl)]
          go_simp
          exact hK.out _ _ ⟨q7, c7, by simp, ⟨hI.1, hI.2.1, by simpa using hI.2.2.1, by simpa using hI.2.2.2.1, by simpa using hI.2.2.2.2⟩⟩
        refine Inv.Steps.cons rfl ?_ ?_
        · intro L a w' hI hL hd K hK
          obtain ⟨q7, c7, rfl, hI⟩ := hI
          clear hd
          rw [if_pos (by rfl)]
          go_simp
          exact hK.out _ _ ⟨q7, c7, by simp, ⟨hI.1, hI.2.1, by simpa using hI.2.2.1, by simpa using hI.2.2.2.1, by simpa using hI.2.2.2.2⟩⟩
        refine Inv.Steps.cons rfl ?_ ?_
        · intro L a w' hI hL hd K hK
          obtain ⟨q7, c7, rfl, hI⟩ := hI
          simp [Region.binds] at hd
          simp only [hd, if_true]
          rw [if_pos (by rfl)]
          go_simp
          exact hK.out _ _ ⟨q7, c7, by simp [hd], ⟨hI.1, hI.2.1, by simpa using hI.2.2.1, by simpa using hI.2.2.2.1, by simpa using hI.2.2.2.2⟩⟩
        refine Inv.Steps.cons rfl ?_ ?_
        · intro L a w' hI hL hd K hK
          obtain ⟨q7, c7, rfl, hI⟩ := hI
          simp [Region.binds] at hd
          simp only [hd, if_true]
          rw [if_pos (by rfl)]
          go_simp
          exact hK.out _ _ ⟨q7, c7, by simp [hd], ⟨hI.1, hI.2.1, by simpa using hI.2.2.1, by simpa using hI.2.2.2.1, by simpa using hI.2.2.2.2⟩⟩
        refine Inv.Steps.cons rfl ?_ ?_
        · intro L a w' hI hL hd K hK
          obtain ⟨q7, c7, rfl, hI⟩ := hI
          simp [Region.binds] at hd
          simp only [hd, if_true]
          rw [if_pos (by rfl)]
          go_simp
          refine (hN3 _ hI.2.1).mono ?_
          rintro e6 w6 ⟨v6, rfl, ho6, hb6⟩
          obtain ⟨q6, c6, rfl, hr6, hn6⟩ := own_reads_new ho6
          have hlw := hI.2.2.2.1.lt
          have h12 : L 12 = false := Bool.eq_false_iff.2 fun h => by have := hI.2.2.2.2.1 h; simp [hL] at this
          have h13 : L 13 = false := Bool.eq_false_iff.2 fun h => by have := hI.2.2.2.2.2 h; simp [hL] at this
          rw [hpl]
          exact hK.out _ _ ⟨q6, c6, by simp [hd, h12], bnext hI.1 hb6, hI.2.1.below hb6, fun _ => ⟨hr6, fun a ha => by have := hn6 a ha; omega⟩, by simpa [h13] using hI.2.2.2.1.below hb6, by simp⟩
        refine Inv.Steps.cons rfl ?_ ?_
        · intro L a w' hI hL hd K hK
          obtain ⟨q7, c7, rfl, hI⟩ := hI
          simp [Region.binds] at hd
          simp only [hd, if_true]
          rw [if_pos (by rfl)]
          go_simp
          exact hK.out _ _ ⟨q7, c7, by simp [hd], hI.1, hI.2.1, by simpa using hI.2.2.1, by simpa using hI.2.2.2.1, by simp [hd]⟩
        refine Inv.Steps.cons rfl ?_ ?_
        · intro L a w' hI hL hd K hK
          obtain ⟨q7, c7, rfl, hI⟩ := hI
          simp [Region.binds] at hd
          simp only [hd, if_true]
          rw [if_pos (by rfl)]
          have hBk := hI.2.2.2.1
          rw [if_neg (by simp [hL])] at hBk
          refine wp_store_blk _ _ _ (by rfl) w.heap.size _ _ [.int .u64 (S : Int), .int .u32 (E : Int), .slice q7 m c7] (by rfl) (by rfl) hBk (by show _ = some 3; kernel_rfl) rfl (by intro v hv; simp at hv; rcases hv with rfl | rfl | rfl <;> rfl) ?_
          intro w6 hB6 hg6
          have h11 := hI.2.2.1 (by simp [hd])
          exact hK.out _ _ ⟨q7, c7, by simp [hd, Act.put], hI.1.grown hg6 hI.1.size (by intro j hj; simp at hj; omega), hI.2.1.kept hg6 (fun _ a ha => by simp at ha; subst ha; simp; omega), fun _ => ⟨h11.1.kept hg6 (fun _ a ha => by have := h11.2 a ha; omega), h11.2⟩, by simpa using hB6, by simp [hd]⟩
        exact Inv.Steps.nil (by decide)
      case done =>
        intro L a w' hI hall
        obtain ⟨q7, c7, rfl, hI⟩ := hI
        simp only [hall, if_true] at hI ⊢
        obtain ⟨hI1, -, hI3, hI4, -⟩ := hI
        go_wp2
        refine ret_cell1 rfl rfl w.heap.size _ [.int .u64 (S : Int), .int .u32 (E : Int), .slice q7 m c7] _ rfl hI4 Try.underlying75 rfl (by show _ = some 3; kernel_rfl) ?_
        obtain ⟨e1, e2, e3⟩ := HS.out
        rw [e1, e2, e3]
        exact ⟨q7, c7, rfl, (hI3 trivial).1, hI1, (hI3 trivial).2⟩
end Go.Proofs.Ythgafnommcodcaa.Frame
