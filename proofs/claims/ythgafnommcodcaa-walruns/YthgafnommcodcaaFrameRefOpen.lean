/-
  The document's Open, as it is typed out.
-/
import Derived.Test.YthgafnommcodcaaFrameRefMake
import Derived.Test.YthgafnommcodcaaFrameOpened
import Derived.Maps.AppendAt
namespace Go.Proofs.Ythgafnommcodcaa.Frame
open Go.RowKit Go.Proofs.Ythgafnommcodcaa.Mem Go.Proofs.Ythgafnommcodcaa.Sect Go.Proofs.Ythgafnommcodcaa.Crc
set_option maxRecDepth 100000

theorem num_next {l : List Int} {k : Nat} {x : Int} (hx : l[k]? = some x) (h0 : 0 ≤ x) : ((num (l.take (k + 1)) : Nat) : Int) = (num (l.take k) : Int) * 256 + x := by
  rw [List.take_add_one, hx]
  show ((num (l.take k ++ [x]) : Nat) : Int) = _
  rw [num_snoc]
  omega
/-- Where such a field is read byte for byte. -/
theorem num_step {b : List Int} (hb : ∀ c ∈ b, Byte c) (o n k : Nat) (hk : k < n) (hl : o + n ≤ b.length) :
    ∃ x : Int, b.getD (o + k) 0 = x ∧ 0 ≤ x ∧ x < 256 ∧ ((num (((b.drop o).take n).take (k + 1)) : Nat) : Int) = (num (((b.drop o).take n).take k) : Int) * 256 + x ∧ num (((b.drop o).take n).take k) < 256 ^ k := by
  have hx : ((b.drop o).take n)[k]? = some (b.getD (o + k) 0) := by
    rw [List.getElem?_take, if_pos hk, List.getElem?_drop, List.getD_eq_getElem?_getD, List.getElem?_eq_getElem (by omega)]
    simp
  have hB := hb (b.getD (o + k) 0) (by rw [List.getD_eq_getElem?_getD, List.getElem?_eq_getElem (by omega)]; simp)
  refine ⟨_, rfl, hB.1, hB.2, num_next hx hB.1, ?_⟩
  have h1 := num_lt (((b.drop o).take n).take k) (fun c hc => hb c (List.mem_of_mem_drop (List.mem_of_mem_take (List.mem_of_mem_take hc))))
  exact Nat.lt_of_lt_of_le h1 (Nat.pow_le_pow_right (by omega) (by simp; omega))
theorem long_two {b : List Int} (hb : ∀ c ∈ b, Byte c) (h : 2 ≤ b.length) : ∃ x y : Int, b.getD 0 0 = x ∧ b.getD 1 0 = y ∧ 0 ≤ x ∧ x < 256 ∧ 0 ≤ y ∧ y < 256 ∧ (long b : Int) = 256 * x + y := by
  match b, h with
  | x :: y :: r, _ =>
    have hx := hb x (by simp)
    have hy := hb y (by simp)
    obtain ⟨hx0, hx1⟩ := hx
    obtain ⟨hy0, hy1⟩ := hy
    refine ⟨x, y, rfl, rfl, hx0, hx1, hy0, hy1, ?_⟩
    have e : long (x :: y :: r) = (0 * 256 + x.toNat) * 256 + y.toNat := rfl
    rw [e]
    omega
theorem reads_at {w : World} {g cap i : Nat} {zs : List Int} (h : Reads .u8 w (some ⟨g, 0, none⟩) cap zs) (hi : i < zs.length) : w.cell? ⟨g, i, none⟩ = some (.int .u8 (zs.getD i 0)) := by
  obtain ⟨b, o, e, _, hc⟩ := h.2.2.2 (by omega)
  simp only [Option.some.injEq, Addr.mk.injEq, and_true] at e
  obtain ⟨rfl, rfl⟩ := e
  have := hc i hi
  rwa [Nat.zero_add] at this
theorem kept_rk {w w' : World} {q : Option Addr} {c : Nat} {xs : List Sec} {row : Option Nat} (h : RK sc w q c xs) (hg : w.grownBy w' row) (hne : 0 < xs.length → ∀ a, q = some a → row ≠ some a.block) : RK sc w' q c xs := by
  obtain ⟨h1, h2, h3, h4⟩ := h
  refine ⟨h1, h2, h3, fun hz => ?_⟩
  obtain ⟨b, o, e, hlt, hc⟩ := h4 hz
  exact ⟨b, o, e, Nat.lt_of_lt_of_le hlt hg.size, fun j v hv => (World.cell?_of_block (w := w) (hg.block b hlt (fun q => hne hz _ e q.symm))).trans (hc j v hv)⟩
theorem u64_small {x : Int} (h0 : 0 ≤ x) (h1 : x < 18446744073709551616) : IntKind.u64.wrap x = x := by rw [IntKind.wrap_u64]; omega
theorem u32_small {x : Int} (h0 : 0 ≤ x) (h1 : x < 4294967296) : IntKind.u32.wrap x = x := by simp [IntKind.wrap, IntKind.bits, IntKind.signed]; omega
set_option maxHeartbeats 8000000 in
theorem ref_Open (p : Option Addr) (n c : Nat) (l : List Sec) (hl : l.length = n) (hn : n ≤ 1000) (hb : ∀ s ∈ l, ∀ c ∈ s.1, Byte c) (w : World) (r : RK sc w p c l) :
    Calls Try.prog 71 #[.slice p n c] w fun x w' => told x w w' (got l) := by
  obtain ⟨i0, hi, hz0, hz1, hz2⟩ := info_parts info_byte
  have Y1 := Blk.new w #[.int .u64 0, .int .u32 0, .slice none 0 0] 75
  have hB1 := bnew w (.cells #[.int .u64 0, .int .u32 0, .slice none 0 0] 75)
  have O1 : ((w.alloc (.cells #[.int .u64 0, .int .u32 0, .slice none 0 0] 75)).alloc (.cells #[] 5)).ownsRow (w.heap.size + 1) 5 1 (.slice (some ⟨w.heap.size + 1, 0, none⟩) 0 0) ([] : List Int).length (([] : List Int).map (Value.int .u8)) := by
    have := lit_none (k := .u8) (e := 5) (w.alloc (.cells #[.int .u64 0, .int .u32 0, .slice none 0 0] 75))
    rw [World.size_alloc] at this
    exact this
  have hB2 := hB1.alloc hB1.size (.cells #[] 5)
  have Y2 := Y1.alloc (.cells #[] 5)
  have hfl := flat_len l
  rw [hl] at hfl
  have hfb := flat_bytes hb
  have HZ : Hid (opens l = false → ∀ x w w', told x w w' nought → told x w w' (got l)) := fun h x w w' ht => by rw [got_no h]; exact ht
  go_enter Try.func71, Try.ntmps71
  go_wp2
  go_loopw [5, 20] (fun v i wr => ∃ k : Nat, k ≤ n ∧ i = .int .i64 k ∧ wr.ownsRow (w.heap.size + 1) 5 1 v (flat (l.take k)).length ((flat (l.take k)).map (Value.int .u8)) ∧ Blk wr w.heap.size 75 [.int .u64 0, .int .u32 0, .slice none 0 0] ∧ Below w.heap.size w wr) (fun _ i _ => n - (intOf i).toNat)
  case atStart => exact ⟨0, by omega, rfl, by simpa [flat] using O1, Y2, hB2⟩
  case round =>
    obtain ⟨k, hk, rfl, hown, hY, hB⟩ := hrel
    clear O1 hB2 Y2 Y1 hB1
    by_cases hlt : k < n
    · obtain ⟨s, hs⟩ : ∃ s, l[k]? = some s := ⟨_, List.getElem?_eq_getElem (by omega)⟩
      have HS : Hid (flat (l.take (k + 1)) = flat (l.take k) ++ s.1) := by
        unfold Hid
        rw [flat_next (by omega)]
        rw [List.getElem?_eq_getElem (by omega)] at hs
        rw [← Option.some.inj hs]
      have hlk : (flat (l.take k)).length = 64 * k := by rw [flat_len, List.length_take]; omega
      obtain ⟨b, o, rfl, hltb, hc⟩ := r.at sc_len hs
      have hr : ∀ {W : World}, Below w.heap.size w W → W.rangeAt b (o + k * 64) (sc s) := fun hB j v hv => (hB.cell (p := ⟨b, o + k * 64 + j, none⟩) hltb).trans (hc j v hv)
      obtain ⟨X, hX⟩ : ∃ X, flat (l.take k) = X := ⟨_, rfl⟩
      rw [hX] at hown hlk HS
      clear hX hs hc
      have hlt' : (k : Int) < (n : Int) := by omega
      have hs2 := s.2
      go_wp2_with (first
        | (refine at_load_sec _ _ _ _ (by rfl) (by rfl) (hr hB) (by rfl) ?_)
        | ((refine at_alloc_sec (by rfl) (by rfl) ?_); intro W1 hW1 hBn1 hz1')
        | ((refine at_store_sec _ _ _ _ _ (by rfl) (by rfl) (by rfl) hW1 (by rfl) ?_); intro W2 hW2 hg2 hz2'; have hB2' : Below w.heap.size w W2 := bnext hB (hBn1.grown hg2 hBn1.size (by simp)); have hrd : Reads .u8 W2 (some ⟨wr.heap.size, 0, none⟩) 64 s.1 := (by have := Blk.reads (zs := s.1) hW2 (by omega); rwa [hs2] at this); have hown2 : W2.ownsRow (w.heap.size + 1) 5 1 u5 X.length (X.map (Value.int .u8)) := (own_below hown hBn1).kept hg2 (.inr fun q => by have := (hown.lt wr.heap.size q).2; omega); have hY2 := (hY.below hBn1).kept hg2 (by have := hY.lt; simp; omega))
        | (at_builtin; refine wpList_append_reads _ rfl _ _ 48 rfl (w.heap.size + 1) 5 i0 (.int .u8 0) 1 .u8 Try.underlying48 hi hz0 hz1 hz2 rfl u5 X.length (X.map (Value.int .u8)) rfl hown2 (some ⟨wr.heap.size, 0, none⟩) 64 64 s.1 rfl hs2 hrd ?c3 ?c4 ?c5 ?_))
      case c3 => unfold maxLen; omega
      case c4 => omega
      case c5 => have := hB2'.size; have := hY2.lt; omega
      · intro v3 w3 hown3 hg3
        have hl3 : 64 * k + 64 = (X ++ s.1).length := by rw [List.length_append, hs2, hlk]
        rw [hl3, ← List.map_append, ← HS.out] at hown3
        have hB3 : Below w.heap.size w w3 := hB2'.grown hg3 hB2'.size (fun j hj => by have := (hown2.lt j hj).1; omega)
        have hY3 := hY2.kept hg3 (fun e => by have := (hown2.lt _ e.symm).1; omega)
        clear hown hown2 hg3 hrd HS
        go_wp2
        go_roundw
        case rel => exact ⟨k + 1, by omega, by go_num, hown3, hY3, hB3⟩
        case measure => simp [intOf]; omega
    · obtain rfl : k = n := by omega
      rw [List.take_of_length_le (by omega)] at hown
      rcases Nat.eq_zero_or_pos k with h0 | h0
      · subst h0
        obtain ⟨-, q, cq, rfl, -⟩ := own_reads hown
        rw [hfl]
        have h0 : opens l = false := by unfold opens roomy; rw [hl]; rfl
        clear hown
        go_wp2_with (refine at_store_rec _ _ _ _ _ _ _ (by rfl) (by rfl) (by rfl) hY rfl ⟨rfl, rfl, rfl⟩ (by rfl) ?_; intro W2 Y2 G2)
        exact ret_rec rfl rfl _ _ _ _ rfl Y2 (HZ.out h0 _ _ _ (told_none (hB.grown G2 hB.size (by simp))))
      · have hrow := (fun a ha => (hown.lt a ha).1 : ∀ a, u5.ownBlock = some a → w.heap.size + 1 ≤ a)
        obtain ⟨g, cp, rfl, hrd⟩ := own_reads_pos hown (by omega)
        have hgB : w.heap.size + 1 ≤ g := hrow g (by simp [Value.ownBlock])
        have hcp := hrd.1
        rw [hfl] at hcp ⊢
        obtain ⟨bl, ol, rfl, hbl, -⟩ := r.2.2.2 (by omega)
        obtain ⟨b, hbb⟩ : ∃ b, flat l = b := ⟨_, rfl⟩
        have HO : Hid (got l = if opens l then ⟨true, size (long b), seqOf b, epochOf b, payOf b⟩ else nought) := by rw [← hbb]; exact rfl
        have HR : Hid (roomy l = true → long b ≤ 700 ∧ 0 < size (long b) ∧ size (long b) ≤ k) := fun h => by have := roomy_iff h; rw [hbb, hl] at this; exact this.2
        have HN : Hid (roomy l = false → size (long b) = 0 ∨ k < size (long b)) := fun h => by
          unfold roomy at h
          rw [hl, hbb] at h
          simp [h0] at h
          omega
        have HG : Hid (roomy l = true → opens l = (right (seqOf b) (payOf b) && decide (made (seqOf b) (epochOf b) (payOf b) = l.take (size (long b))))) := fun h => by unfold opens; rw [h, hbb]; rfl
        rw [hbb] at hrd hfl hfb
        obtain ⟨-, hS64, hE32, hPb⟩ := fields_lt hfb
        obtain ⟨x0, x1, hx0, hx1, h00, h01, h10, h11, hlong⟩ := long_two hfb (by omega)
        have hc0 := reads_at hrd (i := 0) (by omega)
        have hc1 := reads_at hrd (i := 1) (by omega)
        rw [hx0] at hc0
        rw [hx1] at hc1
        have HP : Hid (payOf b = (b.drop 14).take (long b)) := rfl
        obtain ⟨m, hm⟩ : ∃ m, long b = m := ⟨_, rfl⟩
        rw [hm] at hlong HO HR HN HG HP
        have hS := fun w => ref_Size (m : Int) w
        rw [sizeI_nat] at hS
        obtain ⟨N, hNN⟩ : ∃ N, size m = N := ⟨_, rfl⟩
        rw [hNN] at hS HO HR HN HG
        have HF : Hid (m ≤ 700 → m + 18 ≤ 64 * N ∧ N ≤ 12) := fun h => by have := size_fits h; rw [hNN] at this; exact ⟨this.1, this.2.2.2⟩
        have hM : 64 ≤ b.length := by omega
        obtain ⟨M, hMM⟩ : ∃ M, 64 * k = M := ⟨_, rfl⟩
        rw [hMM] at hcp hfl ⊢
        have hM64 : decide ((M : Int) < 64) = false := by simp; omega
        have hw0 : IntKind.i64.wrap (256 * x0) = 256 * x0 := by rw [IntKind.wrap_i64]; omega
        have hw1 : IntKind.i64.wrap (256 * x0 + x1) = 256 * x0 + x1 := by rw [IntKind.wrap_i64]; omega
        have hkM : k ≤ M := by omega
        clear hm hNN hx0 hx1 hown hrow
        change Hid _ at hbb
        change Hid _ at hMM
        go_wp2
        go_quiet (fail)
        rw [← hlong]
        have hB2 := bnext hB (bdrewN wr nq)
        have Y2 := hY.below (bdrewN wr nq)
        have r2 := hrd.drewN nq
        have rl := r.below hB2
        generalize wr.drewN nq = W at *
        clear hc0 hc1 hw0 hw1 hlong h00 h01 h10 h11 hB hY hrd r hbl
        cases hr : roomy l with
        | false =>
          have ho : opens l = false := by unfold opens; rw [hr]; rfl
          rcases HN.out hr with h | h
          · subst h
            go_wp2_with (first
              | (go_at_call 45; refine (hS _).mono ?_; rintro e w3 ⟨rfl, rfl⟩)
              | (refine at_store_rec _ _ _ _ _ _ _ (by rfl) (by rfl) (by rfl) Y2 rfl ⟨rfl, rfl, rfl⟩ (by rfl) ?_; intro W4 Y4 G4))
            exact ret_rec rfl rfl _ _ _ _ rfl Y4 (HZ.out ho _ _ _ (told_none (hB2.grown G4 hB2.size (by simp))))
          · have hN0 : ((N : Int) == 0) = false := by simp; omega
            have hNn : decide ((k : Int) < (N : Int)) = true := by simp; omega
            go_wp2_with (first
              | (go_at_call 45; refine (hS _).mono ?_; rintro e w3 ⟨rfl, rfl⟩)
              | (refine at_store_rec _ _ _ _ _ _ _ (by rfl) (by rfl) (by rfl) Y2 rfl ⟨rfl, rfl, rfl⟩ (by rfl) ?_; intro W4 Y4 G4))
            exact ret_rec rfl rfl _ _ _ _ rfl Y4 (HZ.out ho _ _ _ (told_none (hB2.grown G4 hB2.size (by simp))))
        | true =>
          obtain ⟨h7, hs0, hsn⟩ := HR.out hr
          obtain ⟨hf1, hf4⟩ := HF.out h7
          have hN0 : ((N : Int) == 0) = false := by simp; omega
          have hNn : decide ((k : Int) < (N : Int)) = false := by simp; omega
          have hG := HG.out hr
          have HO' : Hid (opens l = true → got l = ⟨true, N, seqOf b, epochOf b, payOf b⟩) := fun h => by rw [HO.out, if_pos h]
          have hpl : (payOf b).length = m := by rw [HP.out, List.length_take, List.length_drop]; have := hMM.out; omega
          have hm14 : 14 + m ≤ M := by have := hMM.out; omega
          have hcut1 : ∀ w, (Instr.slice 48 (.slice (some ⟨g, 0, none⟩) M cp) (some (.int .i64 14)) (some (.int .i64 (14 + (m : Int)))) none).run Try.prog w = .ok (.slice (some ⟨g, 14, none⟩) m (cp - 14)) w := fun w => by
            have := run_mid w g 0 M cp 14 (14 + m) (by omega) (by omega) (by omega)
            rw [show 14 + m - 14 = m by omega, show ((14 + m : Nat) : Int) = 14 + (m : Int) by omega] at this
            exact this
          have hcut2 : ∀ w, (Instr.slice 48 (.slice (some ⟨g, 0, none⟩) M cp) (some (.int .i64 2)) (some (.int .i64 10)) none).run Try.prog w = .ok (.slice (some ⟨g, 2, none⟩) 8 (cp - 2)) w := fun w => run_mid w g 0 M cp 2 10 (by omega) (by omega) (by omega)
          have hcut3 : ∀ w, (Instr.slice 48 (.slice (some ⟨g, 0, none⟩) M cp) (some (.int .i64 10)) (some (.int .i64 14)) none).run Try.prog w = .ok (.slice (some ⟨g, 10, none⟩) 4 (cp - 10)) w := fun w => run_mid w g 0 M cp 10 14 (by omega) (by omega) (by omega)
          have hw14 : IntKind.i64.wrap (14 + (m : Int)) = 14 + (m : Int) := by rw [IntKind.wrap_i64]; omega
          have rp : Reads .u8 (W.alloc (.cells #[] 5)) (some ⟨g, 14, none⟩) (cp - 14) (payOf b) := by rw [HP.out]; exact (part_reads r2 (by omega) (by omega)).alloc _
          have O3 := lit_none (k := .u8) (e := 5) W
          have hb3' := bnew W (.cells #[] 5)
          have hgW : g < W.heap.size := by
            obtain ⟨b', o', e, hlt, _⟩ := r2.2.2.2 (by omega)
            simp only [Option.some.injEq, Addr.mk.injEq] at e
            omega
          have hwW : w.heap.size < W.heap.size := Y2.lt
          obtain ⟨P, hPP⟩ : ∃ P, payOf b = P := ⟨_, rfl⟩
          rw [hPP] at hPb hG HO' hpl rp
          have HSE : Hid (∃ S E, seqOf b = S ∧ epochOf b = E ∧ num (((b.drop 2).take 8).take 8) = S ∧ num (((b.drop 10).take 4).take 4) = E) := ⟨_, _, rfl, rfl, by rw [List.take_take]; rfl, by rw [List.take_take]; rfl⟩
          obtain ⟨S, E, hSS, hEE, hS8, hE4⟩ := HSE.out
          rw [hSS] at hS64 hG HO'
          rw [hEE] at hE32 hG HO'
          obtain ⟨F8, hF8⟩ : ∃ F, (b.drop 2).take 8 = F := ⟨_, rfl⟩
          obtain ⟨F4, hF4⟩ : ∃ F, (b.drop 10).take 4 = F := ⟨_, rfl⟩
          have H8 : Hid (∀ i, i < 8 → ∃ x : Int, b.getD (2 + i) 0 = x ∧ 0 ≤ x ∧ x < 256 ∧ ((num (F8.take (i + 1)) : Nat) : Int) = (num (F8.take i) : Int) * 256 + x ∧ num (F8.take i) < 256 ^ i) := fun i hi => by rw [← hF8]; exact num_step hfb 2 8 i hi (by omega)
          have H4 : Hid (∀ i, i < 4 → ∃ x : Int, b.getD (10 + i) 0 = x ∧ 0 ≤ x ∧ x < 256 ∧ ((num (F4.take (i + 1)) : Nat) : Int) = (num (F4.take i) : Int) * 256 + x ∧ num (F4.take i) < 256 ^ i) := fun i hi => by rw [← hF4]; exact num_step hfb 10 4 i hi (by omega)
          rw [hF8] at hS8
          rw [hF4] at hE4
          change Hid _ at hS8
          change Hid _ at hE4
          change Hid _ at hG
          clear hPP hSS hEE hF8 hF4 HSE HP HF HR HN HG HO
          go_wp2_with (first
            | (go_at_call 45; refine (hS _).mono ?_; rintro e w3 ⟨rfl, hw3⟩; rw [hw3]; clear hw3)
            | (at_builtin; refine wpList_append_reads _ rfl _ _ 48 rfl W.heap.size 5 i0 (.int .u8 0) 1 .u8 Try.underlying48 hi hz0 hz1 hz2 rfl (.slice (some ⟨W.heap.size, 0, none⟩) 0 0) 0 [] rfl O3 (some ⟨g, 14, none⟩) m (cp - 14) P rfl hpl rp ?c3 ?c4 ?c5 ?_))
          case c3 => unfold maxLen; omega
          case c4 => omega
          case c5 => simp
          · intro v3 w3 hown3 hg3
            have R := grew0 (ys := []) (zs := P) (Nat.le_refl _) hb3' O3 hown3 hg3
            clear hown3 hg3 rp O3 hb3'
            obtain ⟨hown3, hb3⟩ := R
            rw [List.nil_append] at hown3
            obtain ⟨q3, c3, rfl, r3, hn3⟩ := own_reads_new hown3
            rw [hpl]
            have Z4 := Blk.new w3 #[.int .u64 0, .int .u32 0, .slice none 0 0] 75
            have hl3 : ∀ a, q3 = some a → a.block < w3.heap.size := fun a ha => by
              subst ha
              exact (hown3.lt a.block rfl).2
            clear hown3
            have hs3 := hb3.size
            go_wp2_with (refine at_store_rec _ _ _ _ _ _ _ (by rfl) (by rfl) (by rfl) Z4 rfl ⟨rfl, rfl, rfl⟩ (by rfl) ?_; intro W4 Z5 G4)
            have hb4 : Below W.heap.size W W4 := (hb3.alloc hb3.size _).grown G4 (by simp; omega) (fun j hj => by simp at hj; omega)
            have r3' : Reads .u8 W4 q3 c3 P := (r3.alloc _).kept G4 (fun _ a ha => by have := hl3 a ha; omega)
            have hB4 := bnext hB2 hb4
            have Y4 := Y2.below hb4
            have r4 := r2.below hb4
            have rl4 := rl.below hb4
            have hG3 : W.heap.size ≤ w3.heap.size := hs3
            have hbl := rl.2.2.2 (by omega)
            have hblW : bl < W.heap.size := by
              obtain ⟨b', o', e, hlt, _⟩ := hbl
              simp only [Option.some.injEq, Addr.mk.injEq] at e
              omega
            have hq3 : ∀ a, q3 = some a → w.heap.size < a.block := fun a ha => by have := hn3 a ha; omega
            clear hbl hb4 r3 hB2 Y2 r2 rl G4 Z4 hb3 hn3
            generalize w3.heap.size = G at *
            go_loopw [63] (fun i wr => ∃ j : Nat, j ≤ 8 ∧ i = .int .i64 j ∧ Blk wr G 75 [.int .u64 ((num (F8.take j) : Nat) : Int), .int .u32 0, .slice q3 m c3] ∧ W4.grownBy wr (some G)) (fun i _ => 8 - (intOf i).toNat)
            case atStart => exact ⟨0, by omega, rfl, by simpa [num] using Z5, World.grownBy.refl _ _⟩
            case round =>
              obtain ⟨j, hj, rfl, Z6, g6⟩ := hrel
              clear Z5
              by_cases hj8 : j < 8
              · obtain ⟨x, hx, hx0, hx1, hnx, hpw⟩ := H8.out j hj8
                have hck : wr.cell? ⟨g, 2 + j, none⟩ = some (.int .u8 x) := g6.cell (by rw [reads_at r4 (by omega), hx]) (by simp; omega)
                obtain ⟨S1, hS1⟩ : ∃ S1, num (F8.take j) = S1 := ⟨_, rfl⟩
                rw [hS1] at Z6 hnx hpw
                have hS1b : S1 < 72057594037927936 := Nat.lt_of_lt_of_le hpw (Nat.pow_le_pow_right (n := 256) (by omega) (show j ≤ 7 by omega))
                have hwA : IntKind.u64.wrap ((S1 : Int) * 256) = (S1 : Int) * 256 := u64_small (by omega) (by omega)
                have hwB : IntKind.u64.wrap ((S1 : Int) * 256 + x) = (S1 : Int) * 256 + x := u64_small (by omega) (by omega)
                have hwx : IntKind.u64.wrap x = x := u64_small (by omega) (by omega)
                have kZ := Z6.cell
                have fZ := Z6.frozen 0
                have Z7 : Blk (wr.setCell ⟨G, 0, none⟩ (.int .u64 ((S1 : Int) * 256 + x))) G 75 [.int .u64 ((num (F8.take (j + 1)) : Nat) : Int), .int .u32 0, .slice q3 m c3] := by rw [hnx]; exact Z6.put 0 _
                have g7 := World.grownBy.trans g6 (only_put wr ⟨G, 0, none⟩ (.int .u64 ((S1 : Int) * 256 + x)))
                clear hx hS1 hnx hpw
                go_wp2
                go_roundw
                case rel => exact ⟨j + 1, by omega, by go_num, Z7, g7⟩
                case measure => simp [intOf]; omega
              · obtain rfl : j = 8 := by omega
                rw [hS8.out] at Z6
                go_wp2
                go_loopw [78] (fun i wr => ∃ j : Nat, j ≤ 4 ∧ i = .int .i64 j ∧ Blk wr G 75 [.int .u64 (S : Int), .int .u32 ((num (F4.take j) : Nat) : Int), .slice q3 m c3] ∧ W4.grownBy wr (some G)) (fun i _ => 4 - (intOf i).toNat)
                case atStart => exact ⟨0, by omega, rfl, by simpa [num] using Z6, g6⟩
                case round =>
                  clear Z6 g6
                  obtain ⟨j, hj, rfl, Z6, g6⟩ := hrel
                  by_cases hj4 : j < 4
                  · obtain ⟨x, hx, hx0, hx1, hnx, hpw⟩ := H4.out j hj4
                    have hck : wr.cell? ⟨g, 10 + j, none⟩ = some (.int .u8 x) := g6.cell (by rw [reads_at r4 (by omega), hx]) (by simp; omega)
                    obtain ⟨S1, hS1⟩ : ∃ S1, num (F4.take j) = S1 := ⟨_, rfl⟩
                    rw [hS1] at Z6 hnx hpw
                    have hS1b : S1 < 16777216 := Nat.lt_of_lt_of_le hpw (Nat.pow_le_pow_right (n := 256) (by omega) (show j ≤ 3 by omega))
                    have hwA : IntKind.u32.wrap ((S1 : Int) * 256) = (S1 : Int) * 256 := u32_small (by omega) (by omega)
                    have hwB : IntKind.u32.wrap ((S1 : Int) * 256 + x) = (S1 : Int) * 256 + x := u32_small (by omega) (by omega)
                    have hwx : IntKind.u32.wrap x = x := u32_small (by omega) (by omega)
                    have kZ := Z6.cell
                    have fZ := Z6.frozen 1
                    have Z7 : Blk (wr.setCell ⟨G, 1, none⟩ (.int .u32 ((S1 : Int) * 256 + x))) G 75 [.int .u64 (S : Int), .int .u32 ((num (F4.take (j + 1)) : Nat) : Int), .slice q3 m c3] := by rw [hnx]; exact Z6.put 1 _
                    have g7 := World.grownBy.trans g6 (only_put wr ⟨G, 1, none⟩ (.int .u32 ((S1 : Int) * 256 + x)))
                    clear hx hS1 hnx hpw
                    go_wp2
                    go_roundw
                    case rel => exact ⟨j + 1, by omega, by go_num, Z7, g7⟩
                    case measure => simp [intOf]; omega
                  · obtain rfl : j = 4 := by omega
                    rw [hE4.out] at Z6
                    have r8 : Reads .u8 wr q3 c3 P := r3'.kept g6 (fun _ a ha => by have := hl3 a ha; omega)
                    have rl8 := kept_rk rl4 g6 (fun _ a ha => by simp at ha; subst ha; simp; omega)
                    have Y8 := Y4.kept g6 (by simp; omega)
                    have hB8 : Below w.heap.size w wr := hB4.grown g6 hB4.size (fun j hj => by simp at hj; omega)
                    have hMk := ref_Make S E q3 m c3 P hpl hS64 hE32 hPb wr r8
                    have hft : fault S P = if right S P then 0 else 81 := rfl
                    rw [hft] at hMk
                    have hEq := fun q d W (hW : RK sc W q d (made S E P)) (hW2 : RK sc W (some ⟨bl, ol, none⟩) c l) => same_secs q (some ⟨bl, ol, none⟩) _ N d c (made S E P) (l.take N) rfl (by rw [List.length_take]; omega) (by unfold made; split; rw [secs_len]; unfold size; split <;> omega; simp) W hW (hW2.upto sc_len _)
                    have hGG := hG.out
                    obtain ⟨R, hR⟩ : ∃ R, right S P = R := ⟨_, rfl⟩
                    obtain ⟨M2, hM2⟩ : ∃ M2, made S E P = M2 := ⟨_, rfl⟩
                    rw [hM2] at hMk hEq hGG
                    rw [hR] at hMk hGG
                    obtain ⟨D, hD⟩ : ∃ D, decide (M2 = l.take N) = D := ⟨_, rfl⟩
                    rw [hD] at hEq hGG
                    obtain ⟨X, hX⟩ : ∃ X, M2.length = X := ⟨_, rfl⟩
                    rw [hX] at hEq hMk
                    have HGO : Hid (opens l = (R && D)) := hGG
                    have hcap := rl8.1
                    have hcut := fun w => run_upto_s w bl ol k c N (by omega)
                    have kZ := Z6.cell
                    have HL : Hid (P.length = m) := hpl
                    have hO2 := HO'
                    change Hid _ at hO2
                    clear HO'
                    clear hR hM2 hD hX hGG hG hft hpl r4 rl4 Y4 hB4 hS8 hE4 H8 H4 r3' g6 hS hfb hPb hm14 hfl
                    cases R with
                    | false =>
                      have hMk : Calls Try.prog 47 #[.agg #[.int .u64 (S : Int), .int .u32 (E : Int), .slice q3 m c3]] wr fun x w' => ∃ q' c', x = .returned (.tuple #[.slice q' X c', .int .i64 81]) ∧ RK sc w' q' c' M2 ∧ Below wr.heap.size wr w' := hMk
                      go_wp2_with (first
                        | (go_at_call 47; refine hMk.mono ?_; rintro e w5 ⟨q5, d5, rfl, rM, hB5⟩; have Y9 := Y8.below hB5; have Z9 := Z6.below hB5; have r9 := rl8.below hB5; have k9 := Z9.cell)
                        | (have _ := hB5; refine at_store_rec _ _ _ _ _ _ _ (by rfl) (by rfl) (by rfl) Y9 rfl ⟨rfl, rfl, rfl⟩ (by rfl) ?_; intro W11 Y11 G11))
                      have hB := bnext hB8 hB5
                      exact ret_rec rfl rfl _ _ _ _ rfl Y11 (HZ.out (by rw [HGO.out]; rfl) _ _ _ (told_none (hB.grown G11 hB.size (by simp))))
                    | true =>
                      have hMk : Calls Try.prog 47 #[.agg #[.int .u64 (S : Int), .int .u32 (E : Int), .slice q3 m c3]] wr fun x w' => ∃ q' c', x = .returned (.tuple #[.slice q' X c', .int .i64 0]) ∧ RK sc w' q' c' M2 ∧ Below wr.heap.size wr w' := hMk
                      cases D with
                      | false =>
                        go_wp2_with (first
                          | (go_at_call 47; refine hMk.mono ?_; rintro e w5 ⟨q5, d5, rfl, rM, hB5⟩; have Y9 := Y8.below hB5; have Z9 := Z6.below hB5; have r9 := rl8.below hB5; have k9 := Z9.cell)
                          | (go_at_call 78; refine (hEq q5 d5 _ rM r9).mono ?_; rintro e w6 ⟨rfl, hB6⟩; have Y10 := Y9.below hB6; have Z10 := Z9.below hB6; have k10 := Z10.cell)
                          | (have _ := hB6; refine at_store_rec _ _ _ _ _ _ _ (by rfl) (by rfl) (by rfl) Y10 rfl ⟨rfl, rfl, rfl⟩ (by rfl) ?_; intro W11 Y11 G11))
                        have hB := bnext (bnext hB8 hB5) hB6
                        exact ret_rec rfl rfl _ _ _ _ rfl Y11 (HZ.out (by rw [HGO.out]; rfl) _ _ _ (told_none (hB.grown G11 hB.size (by simp))))
                      | true =>
                        have HT : Hid (∀ x w w', told x w w' ⟨true, N, S, E, P⟩ → told x w w' (got l)) := fun x w w' ht => by rw [hO2.out (by rw [HGO.out]; rfl)]; exact ht
                        go_wp2_with (first
                          | (go_at_call 47; refine hMk.mono ?_; rintro e w5 ⟨q5, d5, rfl, rM, hB5⟩; have Y9 := Y8.below hB5; have Z9 := Z6.below hB5; have r9 := rl8.below hB5; have k9 := Z9.cell)
                          | (go_at_call 78; refine (hEq q5 d5 _ rM r9).mono ?_; rintro e w6 ⟨rfl, hB6⟩; have Y10 := Y9.below hB6; have Z10 := Z9.below hB6; have k10 := Z10.cell)
                          | (have _ := hB6; refine at_store_rec _ _ _ _ _ _ _ (by rfl) (by rfl) (by rfl) Y10 rfl ⟨rfl, rfl, rfl⟩ (by rfl) ?_; intro W11 Y11 G11))
                        have hBa := bnext hB5 hB6
                        have hB := bnext hB8 hBa
                        have rP11 := (r8.below hBa).kept G11 (fun h0 a ha => by have := reads_lt r8 h0 a ha; have := hq3 a ha; have := Y8.lt; omega)
                        refine ret_rec rfl rfl _ _ _ _ rfl Y11 (HT.out _ _ _ ⟨q3, c3, by simp only [HL.out]; rfl, rP11, hB.grown G11 hB.size (by simp), fun a ha => by have := hq3 a ha; omega⟩)
end Go.Proofs.Ythgafnommcodcaa.Frame
