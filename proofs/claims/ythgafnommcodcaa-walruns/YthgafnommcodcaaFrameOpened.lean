/-
  frame.Open, whatever the sectors.
-/
import Derived.Test.YthgafnommcodcaaFrameOpenF
namespace Go.Proofs.Ythgafnommcodcaa.Frame
open Go.RowKit Go.Proofs.Ythgafnommcodcaa.Mem Go.Proofs.Ythgafnommcodcaa.Sect Go.Proofs.Ythgafnommcodcaa.Crc
set_option maxRecDepth 100000

theorem roomy_iff {l : List Sec} (h : roomy l = true) : 0 < l.length ∧ long (flat l) ≤ 700 ∧ 0 < size (long (flat l)) ∧ size (long (flat l)) ≤ l.length := by
  simp [roomy] at h
  refine ⟨by omega, ?_, h.2.1, h.2.2⟩
  have := h.2.1
  unfold size at this
  split at this
  · assumption
  · omega
set_option maxHeartbeats 4000000 in
theorem frame_Open_yes (b o n c : Nat) (l : List Sec) (hl : l.length = n) (hn : n ≤ 1000) (hb : ∀ s ∈ l, ∀ c ∈ s.1, Byte c) (hr : roomy l = true) (w : World) (r : RK sc w (some ⟨b, o, none⟩) c l) :
    Calls Try.prog 59 #[.slice (some ⟨b, o, none⟩) n c] w fun x w' => told x w w' (got l) := by
  obtain ⟨h0, h7, hs0, hsn⟩ := roomy_iff hr
  rw [hl] at h0 hsn
  have Y1 := Blk.new w #[.int .u64 0, .int .u32 0, .slice none 0 0] 75
  have hB1 := bnew w (.cells #[.int .u64 0, .int .u32 0, .slice none 0 0] 75)
  have hfl := flat_len l
  rw [hl] at hfl
  have hfb := flat_bytes hb
  obtain ⟨-, hS64, hE32, hPb⟩ := fields_lt hfb
  have hN := fun W (hW : RK sc W (some ⟨b, o, none⟩) c l) => frame_number b o 2 64 ((flat l).take 2) (by simp; omega) (fun c hc => hfb c (List.mem_of_mem_take hc)) (by omega) W (fun j hj => by
    rw [rk_cell hW (by omega)]
    simp [hj])
  have em : num ((flat l).take 2) = long (flat l) := rfl
  rw [em] at hN
  obtain ⟨hf1, hf2, -, hf4⟩ := size_fits h7
  have ht1 := fields_take l (size (long (flat l))) hs0
  have ht2 : ((flat (l.take (size (long (flat l))))).drop 14).take (long (flat l)) = payOf (flat l) := by rw [flat_take, take_part _ _ _ _ (by omega)]; rfl
  have hpl : (payOf (flat l)).length = long (flat l) := by unfold payOf; rw [List.length_take, List.length_drop]; omega
  have hRd := fun W (hW : RK sc W (some ⟨b, o, none⟩) c l) => frame_read (some ⟨b, o, none⟩) (size (long (flat l))) c (long (flat l)) (l.take (size (long (flat l)))) (by rw [List.length_take]; omega) hs0 hf4 (by omega) (fun s hs => hb s (List.mem_of_mem_take hs)) W (hW.upto sc_len _)
  rw [ht1.1, ht1.2, ht2] at hRd
  have hMk := fun q d W (hW : Reads .u8 W q d (payOf (flat l))) => frame_Make (seqOf (flat l)) (epochOf (flat l)) q (long (flat l)) d (payOf (flat l)) hpl hS64 hE32 hPb W hW
  have hEq := fun q d W (hW : RK sc W q d (made (seqOf (flat l)) (epochOf (flat l)) (payOf (flat l)))) (hW2 : RK sc W (some ⟨b, o, none⟩) c l) => equal_any q (some ⟨b, o, none⟩) _ (size (long (flat l))) d c (made (seqOf (flat l)) (epochOf (flat l)) (payOf (flat l))) (l.take (size (long (flat l)))) rfl (by rw [List.length_take]; omega) (by unfold made; split; rw [secs_len, hpl]; omega; simp) W hW (hW2.upto sc_len _)
  have hS := fun w => frame_Size (long (flat l) : Int) w
  rw [sizeI_nat] at hS
  have hG : opens l = (right (seqOf (flat l)) (payOf (flat l)) && decide (made (seqOf (flat l)) (epochOf (flat l)) (payOf (flat l)) = l.take (size (long (flat l))))) := by unfold opens; rw [hr]; rfl
  have HO : Hid (opens l = true → got l = ⟨true, size (long (flat l)), seqOf (flat l), epochOf (flat l), payOf (flat l)⟩) := fun h => by rw [got, if_pos h]
  have hft : fault (seqOf (flat l)) (payOf (flat l)) = if right (seqOf (flat l)) (payOf (flat l)) then 0 else 81 := rfl
  rw [hft] at hMk
  clear em ht1 ht2 hr hft
  obtain ⟨M, hM⟩ : ∃ M, made (seqOf (flat l)) (epochOf (flat l)) (payOf (flat l)) = M := ⟨_, rfl⟩
  rw [hM] at hMk hEq hG
  clear hM
  obtain ⟨R, hR⟩ : ∃ R, right (seqOf (flat l)) (payOf (flat l)) = R := ⟨_, rfl⟩
  rw [hR] at hMk hG
  clear hR
  obtain ⟨m, hm⟩ : ∃ m, long (flat l) = m := ⟨_, rfl⟩
  rw [hm] at hN hRd hMk hEq hS hG HO hpl h7 hs0 hsn hf1 hf2 hf4
  obtain ⟨N, hNN⟩ : ∃ N, size m = N := ⟨_, rfl⟩
  rw [hNN] at hRd hEq hS hG HO hs0 hsn hf1 hf2 hf4
  obtain ⟨S, hSS⟩ : ∃ S, seqOf (flat l) = S := ⟨_, rfl⟩
  obtain ⟨E, hEE⟩ : ∃ E, epochOf (flat l) = E := ⟨_, rfl⟩
  obtain ⟨P, hPP⟩ : ∃ P, payOf (flat l) = P := ⟨_, rfl⟩
  rw [hSS] at hRd hMk HO
  rw [hEE] at hRd hMk HO
  rw [hPP] at hRd hMk HO hpl
  obtain ⟨D, hD⟩ : ∃ D, decide (M = l.take N) = D := ⟨_, rfl⟩
  rw [hD] at hEq hG
  obtain ⟨X, hX⟩ : ∃ X, M.length = X := ⟨_, rfl⟩
  rw [hX] at hEq hMk
  have hwm : IntKind.i64.wrap (m : Int) = (m : Int) := by rw [IntKind.wrap_i64]; omega
  have hn0 : ((n : Int) == 0) = false := by simp; omega
  have hN0 : ((N : Int) == 0) = false := by simp; omega
  have hNn : decide ((n : Int) < (N : Int)) = false := by simp; omega
  have r1 := r.below hB1
  have hcap := r.1
  have hcut := fun w => run_upto_s w b o n c N (by omega)
  have HL : Hid (P.length = m) := hpl
  have HGO : Hid (opens l = (R && D)) := hG
  clear hm hNN hSS hEE hPP hD hX hpl hG hS64 hE32 hPb hfb hfl
  cases R with
  | false =>
    have hMk' : ∀ q d W, Reads .u8 W q d P → Calls Try.prog 42 #[.agg #[.int .u64 (S : Int), .int .u32 (E : Int), .slice q m d]] W fun x w' => ∃ q' c', x = .returned (.tuple #[.slice q' X c', .int .i64 81]) ∧ RK sc w' q' c' M ∧ Below W.heap.size W w' := hMk
    clear hMk
    go_enter Try.func59, Try.ntmps59
    go_wp2_with (first
      | (go_at_call 72; refine (hN _ r1).mono ?_; rintro e w2 ⟨rfl, hB2⟩; have Y2 := Y1.below hB2; have r2 := r1.below hB2)
      | (go_at_call 41; refine (hS _).mono ?_; rintro e w3 ⟨rfl, rfl⟩)
      | (go_at_call 73; refine (hRd _ r2).mono ?_; rintro e w4 ⟨q4, d4, rfl, rP, hB4, hn4⟩; have Y4 := Y2.below hB4; have r4 := r2.below hB4)
      | (go_at_call 42; refine (hMk' q4 d4 _ (rP.alloc _)).mono ?_; rintro e w5 ⟨q5, d5, rfl, rM, hB5⟩; have Y5 := (Y4.alloc _).below hB5)
      | (have _ := hB5; refine at_store_rec _ _ _ _ _ _ _ (by rfl) (by rfl) (by rfl) Y5 rfl ⟨rfl, rfl, rfl⟩ (by rfl) ?_; intro W6 Y6 G6))
    have hB := bnext (bnext (bnext (bnext hB1 hB2) hB4) (bnew _ _)) hB5
    rw [got_no (by rw [HGO.out]; rfl)]
    exact ret_rec rfl rfl _ _ _ _ rfl Y6 (told_none (hB.grown G6 hB.size (by simp)))
  | true =>
    have hMk' : ∀ q d W, Reads .u8 W q d P → Calls Try.prog 42 #[.agg #[.int .u64 (S : Int), .int .u32 (E : Int), .slice q m d]] W fun x w' => ∃ q' c', x = .returned (.tuple #[.slice q' X c', .int .i64 0]) ∧ RK sc w' q' c' M ∧ Below W.heap.size W w' := hMk
    clear hMk
    cases D with
    | false =>
      go_enter Try.func59, Try.ntmps59
      go_wp2_with (first
        | (go_at_call 72; refine (hN _ r1).mono ?_; rintro e w2 ⟨rfl, hB2⟩; have Y2 := Y1.below hB2; have r2 := r1.below hB2)
        | (go_at_call 41; refine (hS _).mono ?_; rintro e w3 ⟨rfl, rfl⟩)
        | (go_at_call 73; refine (hRd _ r2).mono ?_; rintro e w4 ⟨q4, d4, rfl, rP, hB4, hn4⟩; have Y4 := Y2.below hB4; have r4 := r2.below hB4)
        | (go_at_call 42; refine (hMk' q4 d4 _ (rP.alloc _)).mono ?_; rintro e w5 ⟨q5, d5, rfl, rM, hB5⟩; have Y5 := (Y4.alloc _).below hB5; have r5 := (r4.alloc _).below hB5)
        | (go_at_call 74; refine (hEq q5 d5 _ rM r5).mono ?_; rintro e w6 ⟨rfl, hB6⟩; have Y6 := Y5.below hB6)
        | (have _ := hB6; refine at_store_rec _ _ _ _ _ _ _ (by rfl) (by rfl) (by rfl) Y6 rfl ⟨rfl, rfl, rfl⟩ (by rfl) ?_; intro W7 Y7 G7))
      have hB := bnext (bnext (bnext (bnext (bnext hB1 hB2) hB4) (bnew _ _)) hB5) hB6
      rw [got_no (by rw [HGO.out]; rfl)]
      exact ret_rec rfl rfl _ _ _ _ rfl Y7 (told_none (hB.grown G7 hB.size (by simp)))
    | true =>
      go_enter Try.func59, Try.ntmps59
      go_wp2_with (first
        | (go_at_call 72; refine (hN _ r1).mono ?_; rintro e w2 ⟨rfl, hB2⟩; have Y2 := Y1.below hB2; have r2 := r1.below hB2)
        | (go_at_call 41; refine (hS _).mono ?_; rintro e w3 ⟨rfl, rfl⟩)
        | (go_at_call 73; refine (hRd _ r2).mono ?_; rintro e w4 ⟨q4, d4, rfl, rP, hB4, hn4⟩; have Y4 := Y2.below hB4; have r4 := r2.below hB4)
        | (go_at_call 42; refine (hMk' q4 d4 _ (rP.alloc _)).mono ?_; rintro e w5 ⟨q5, d5, rfl, rM, hB5⟩; have Y5 := (Y4.alloc _).below hB5; have r5 := (r4.alloc _).below hB5; have Z5 := (Blk.new w4 #[.int .u64 (S : Int), .int .u32 (E : Int), .slice q4 m d4] 75).below hB5)
        | (go_at_call 74; refine (hEq q5 d5 _ rM r5).mono ?_; rintro e w6 ⟨rfl, hB6⟩; have Y6 := Y5.below hB6; have Z6 := Z5.below hB6; have k6 := Z6.cell)
        | (have _ := hB6; refine at_store_rec _ _ _ _ _ _ _ (by rfl) (by rfl) (by rfl) Y6 rfl ⟨rfl, rfl, rfl⟩ (by rfl) ?_; intro W7 Y7 G7))
      have hBa := bnext (bnext hB1 hB2) hB4
      have hBb := bnext (bnext (bnew w4 (.cells #[.int .u64 (S : Int), .int .u32 (E : Int), .slice q4 m d4] 75)) hB5) hB6
      have hB := bnext hBa hBb
      have rP7 := (rP.below hBb).kept G7 (fun _ a ha => by have := hn4 a ha; have := Y2.lt; omega)
      rw [HO.out (by rw [HGO.out]; rfl)]
      refine ret_rec rfl rfl _ _ _ _ rfl Y7 ⟨q4, d4, by simp only [HL.out]; rfl, rP7, hB.grown G7 hB.size (by simp), fun a ha => by have := hn4 a ha; have h1 := hB1.size; have h2 := hB2.size; omega⟩
/-- Whatever the sectors. -/
theorem frame_Open (p : Option Addr) (n c : Nat) (l : List Sec) (hl : l.length = n) (hn : n ≤ 1000) (hb : ∀ s ∈ l, ∀ c ∈ s.1, Byte c) (w : World) (r : RK sc w p c l) :
    Calls Try.prog 59 #[.slice p n c] w fun x w' => told x w w' (got l) := by
  rcases Nat.eq_zero_or_pos n with h | h
  · subst h
    rw [got_no (by unfold opens roomy; rw [hl]; rfl)]
    exact frame_Open_0 p c w
  · obtain ⟨b, o, rfl, _⟩ := r.2.2.2 (by omega)
    cases hr : roomy l with
    | false =>
      rw [got_no (by unfold opens; rw [hr]; rfl)]
      exact frame_Open_no b o n c l hl h hn hb hr w r
    | true => exact frame_Open_yes b o n c l hl hn hb hr w r
end Go.Proofs.Ythgafnommcodcaa.Frame
