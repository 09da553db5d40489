/-
  There and back, whatever is behind; what is opened is made of the sectors with which these begin.
-/
import Derived.Test.YtdjcdpmnijcenaaFrameOpens
import Derived.Test.YtdjcdpmnijcenaaFrameMakes
namespace Go.Proofs.Ytdjcdpmnijcenaa.Frame
open Go.RowKit Go.Proofs.Ytdjcdpmnijcenaa.Mem Go.Proofs.Ytdjcdpmnijcenaa.Sect Go.Proofs.Ytdjcdpmnijcenaa.Crc
set_option maxRecDepth 100000

theorem got_yes {l : List Sec} (h : opens l = true) : ∃ S E P, got l = ⟨true, (made S E P).length, S, E, P⟩ ∧ right S P = true ∧ made S E P = l.take (made S E P).length ∧ (made S E P).length ≤ l.length ∧ 0 < (made S E P).length := by
  have h0 := h
  unfold opens at h
  simp only [Bool.and_eq_true, decide_eq_true_eq] at h
  obtain ⟨hr, h1, h2⟩ := h
  obtain ⟨-, -, h3, h4⟩ := roomy_iff hr
  have hl : (made (seqOf (flat l)) (epochOf (flat l)) (payOf (flat l))).length = size (long (flat l)) := by rw [h2, List.length_take]; omega
  refine ⟨seqOf (flat l), epochOf (flat l), payOf (flat l), ?_, h1, ?_, ?_, ?_⟩
  · rw [got, if_pos h0, hl]
  · rw [hl]; exact h2
  · omega
  · omega
set_option maxHeartbeats 4000000 in
theorem back_any (s e : Nat) (q : Option Addr) (n c : Nat) (xs : List Int) (q1 : Option Addr) (n1 c1 : Nat) (ys : List Sec) (hs : s < 18446744073709551616) (he : e < 4294967296) (l : xs.length = n) (hb : ∀ c ∈ xs, Byte c) (l1 : ys.length = n1) (hb1 : ∀ s ∈ ys, ∀ c ∈ s.1, Byte c) (w : World) (r : Reads .u8 w q c xs) (r1 : RK sc w q1 c1 ys) :
    Calls Try.prog 6 #[.agg #[.int .u64 (s : Int), .int .u32 (e : Int), .slice q n c], .slice q1 n1 c1] w fun e w' => e = .returned (.bool true) ∧ Below w.heap.size w w' := by
  have ha := fun w => alive_any w
  have Y := Blk.new w #[.int .u64 (s : Int), .int .u32 (e : Int), .slice q n c] 30
  have hB := bnew w (.cells #[.int .u64 (s : Int), .int .u32 (e : Int), .slice q n c] 30)
  by_cases h2 : 2000 < n
  · have d : decide ((2000 : Int) < (n : Int)) = true := by simp; omega
    go_enter Try.func6, Try.ntmps6
    go_wp2_with (go_at_call 11; refine (ha _).mono ?_; rintro x w1 ⟨rfl, hb1⟩; have Y2 := Y.below hb1; have k2 := Y2.cell)
    go_ret
    exact ⟨rfl, bnext hB hb1⟩
  have d : decide ((2000 : Int) < (n : Int)) = false := by simp; omega
  by_cases h4 : 40 < n1
  · have d4 : decide ((40 : Int) < (n1 : Int)) = true := by simp; omega
    go_enter Try.func6, Try.ntmps6
    go_wp2_with (go_at_call 11; refine (ha _).mono ?_; rintro x w1 ⟨rfl, hb1⟩; have Y2 := Y.below hb1; have k2 := Y2.cell)
    go_ret
    exact ⟨rfl, bnext hB hb1⟩
  have d4 : decide ((40 : Int) < (n1 : Int)) = false := by simp; omega
  -- the first half
  have hM := fun W (hW : Reads .u8 W q c xs) => frame_Make s e q n c xs l hs he hb W hW
  have hfew := made_few s e xs
  have hO1 := fun (hr : right s xs = true) q2 m2 c2 W (hm : ((made s e xs) ++ ys).length = m2) (hW : RK sc W q2 c2 ((made s e xs) ++ ys)) => frame_Open q2 m2 c2 ((made s e xs) ++ ys) hm (by rw [← hm, List.length_append]; omega) (fun x hx => by rcases List.mem_append.1 hx with hx | hx; exact made_bytes hb x hx; exact hb1 x hx) W hW
  have hS1 := fun q2 c2 W (hW : Reads .u8 W q2 c2 xs) (hW2 : Reads .u8 W q c xs) => ref_Same s e q2 n c2 xs l s e q n c xs l hb hb W hW hW2
  rw [same_self] at hS1
  have hZ := fun w => frame_Size (n : Int) w
  rw [sizeI_nat] at hZ
  have hml : right s xs = true → size n = (made s e xs).length := fun hr => by rw [made_len hr, l]
  have hgm := fun hr => got_made (s := s) (e := e) (p := xs) hr hs he ys
  have hft : fault s xs = if right s xs then 0 else 81 := rfl
  rw [hft] at hM
  -- the other half
  have hO2 := fun W (hW : RK sc W q1 c1 ys) => frame_Open q1 n1 c1 ys l1 (by omega) hb1 W hW
  have hgb := got_bytes hb1
  clear hft
  generalize made s e xs = M at *
  generalize right s xs = R at *
  have hB0 := hB
  cases R with
  | false =>
    replace hM : ∀ W, Reads .u8 W q c xs → Calls Try.prog 9 #[.agg #[.int .u64 (s : Int), .int .u32 (e : Int), .slice q n c]] W fun x w' => ∃ q' c', x = .returned (.tuple #[.slice q' M.length c', .int .i64 81]) ∧ RK sc w' q' c' M ∧ Below W.heap.size W w' := hM
    clear hO1 hS1 hZ hml hgm
    generalize M.length = X at *
    cases ho : opens ys with
    | false =>
      rw [got_no ho] at hO2
      unfold told nought at hO2
      clear hgb
      go_enter Try.func6, Try.ntmps6
      go_wp2_with (first
        | (go_at_call 11; refine (ha _).mono ?_; rintro x w1 ⟨rfl, hb1⟩; have Y1 := Y.below hb1; have k1 := Y1.cell; have hB1 := bnext hB hb1; have rp1 := r.below hB1; have rm1 := r1.below hB1)
        | (go_at_call 9; (with_reducible refine (hM w1 rp1).mono ?_); rintro x w3 ⟨q3, c3, rfl, rk3, hb3⟩; have Y3 := Y1.below hb3; have k3 := Y3.cell; have hB3 := bnext hB1 hb3; have rp3 := rp1.below hb3; have rm3 := rm1.below hb3; have O3 := lit_none_k (k := 64) (enc := sc) (e := 44) w3)
        | (go_at_call 10; (with_reducible refine (hO2 w3 rm3).mono ?_); rintro x wa ⟨qa, ca, rfl, ra, hba⟩; have hBa := bnext hB3 hba; have rma := rm3.below hba; have Za := Blk.new wa #[.int .u64 0, .int .u32 0, .slice none 0 0] 30)
        | (refine at_store_rec _ _ wa.heap.size _ _ _ _ (by rfl) (by rfl) (by rfl) Za rfl ⟨rfl, rfl, rfl⟩ (by rfl) ?_; intro Wb Zb Gb; have hbb : Below wa.heap.size wa Wb := (bnew wa _).grown Gb (by simp) (fun j hj => by simp at hj; omega); have jb := Zb.cell; have rb := ra.below hbb; have rmb := rma.below hbb; have hBb := bnext hBa hbb))
      go_ret
      exact ⟨rfl, hBb⟩
    | true =>
      obtain ⟨S, E, P, hG, hr2, hT, hN1, hN0⟩ := got_yes ho
      rw [hG] at hO2 hgb
      unfold told at hO2
      obtain ⟨g1, g2, g3⟩ := hgb
      obtain ⟨bl, ol, hq1, -⟩ := r1.2.2.2 (by omega)
      have hM2 := fun q c W (hW : Reads .u8 W q c P) => frame_Make S E q _ c P rfl g1 g2 g3 W hW
      have hf2 : fault S P = 0 := by simp [fault, hr2]
      rw [hf2] at hM2
      have hE := fun q2 c2 W (hW : RK sc W q2 c2 (made S E P)) (hW2 : RK sc W q1 c1 ys) => same_secs q2 q1 _ (made S E P).length c2 c1 (made S E P) (ys.take (made S E P).length) rfl (by rw [List.length_take]; omega) (by omega) W hW (hW2.upto sc_len _)
      rw [← hT, decide_eq_true (rfl : made S E P = made S E P)] at hE
      have hcap := r1.1
      have hcut : ∀ w, (Instr.slice 22 (.slice q1 n1 c1) none (some (.int .i64 ((made S E P).length : Int))) none).run Try.prog w = .ok (.slice q1 (made S E P).length c1) w := fun w => by rw [hq1]; exact run_upto_s w bl ol n1 c1 (made S E P).length (by omega)
      clear hG hT ho hf2 g1 g2 g3 hq1
      generalize made S E P = M2 at *
      obtain ⟨N, hN⟩ : ∃ N, M2.length = N := ⟨_, rfl⟩
      rw [hN] at hO2 hM2 hE hcut hN1 hN0
      obtain ⟨m2, hm2⟩ : ∃ m2, P.length = m2 := ⟨_, rfl⟩
      simp only [hm2] at hO2 hM2
      rw [l1] at hN1
      have hNn : decide ((N : Int) ≤ (n1 : Int)) = true := by simp; omega
      clear hN hm2
      go_enter Try.func6, Try.ntmps6
      go_wp2_with (first
        | (go_at_call 11; refine (ha _).mono ?_; rintro x w1 ⟨rfl, hb1⟩; have Y1 := Y.below hb1; have k1 := Y1.cell; have hB1 := bnext hB hb1; have rp1 := r.below hB1; have rm1 := r1.below hB1)
        | (go_at_call 9; (with_reducible refine (hM w1 rp1).mono ?_); rintro x w3 ⟨q3, c3, rfl, rk3, hb3⟩; have Y3 := Y1.below hb3; have k3 := Y3.cell; have hB3 := bnext hB1 hb3; have rp3 := rp1.below hb3; have rm3 := rm1.below hb3; have O3 := lit_none_k (k := 64) (enc := sc) (e := 44) w3)
        | (go_at_call 10; (with_reducible refine (hO2 w3 rm3).mono ?_); rintro x wa ⟨qa, ca, rfl, ra, hba⟩; have hBa := bnext hB3 hba; have rma := rm3.below hba; have Za := Blk.new wa #[.int .u64 0, .int .u32 0, .slice none 0 0] 30)
        | (refine at_store_rec _ _ wa.heap.size _ _ _ _ (by rfl) (by rfl) (by rfl) Za rfl ⟨rfl, rfl, rfl⟩ (by rfl) ?_; intro Wb Zb Gb; have hbb : Below wa.heap.size wa Wb := (bnew wa _).grown Gb (by simp) (fun j hj => by simp at hj; omega); have jb := Zb.cell; have rb := ra.below hbb; have rmb := rma.below hbb; have hBb := bnext hBa hbb)
        | (go_at_call 9; (with_reducible refine (hM2 qa ca Wb rb).mono ?_); rintro x wc ⟨qc, cc, rfl, rkc, hbc⟩; have rmc := rmb.below hbc; have hBc := bnext hBb hbc)
        | (go_at_call 14; refine (hE qc cc wc rkc rmc).mono ?_; rintro x wd ⟨rfl, hbd⟩))
      go_ret
      exact ⟨rfl, bnext hBc hbd⟩
  | true =>
    replace hM : ∀ W, Reads .u8 W q c xs → Calls Try.prog 9 #[.agg #[.int .u64 (s : Int), .int .u32 (e : Int), .slice q n c]] W fun x w' => ∃ q' c', x = .returned (.tuple #[.slice q' M.length c', .int .i64 0]) ∧ RK sc w' q' c' M ∧ Below W.heap.size W w' := hM
    replace hO1 := hO1 rfl
    rw [hgm rfl] at hO1
    rw [hml rfl] at hZ
    unfold told at hO1
    simp only [l] at hO1
    clear hml hgm
    obtain ⟨X, hX⟩ : ∃ X, M.length = X := ⟨_, rfl⟩
    rw [hX] at hM hO1 hZ hfew
    cases ho : opens ys with
    | false =>
      rw [got_no ho] at hO2
      unfold told nought at hO2
      clear hgb
      go_enter Try.func6, Try.ntmps6
      go_wp2_with (first
        | (go_at_call 11; refine (ha _).mono ?_; rintro x w1 ⟨rfl, hb1⟩; have Y1 := Y.below hb1; have k1 := Y1.cell; have hB1 := bnext hB hb1; have rp1 := r.below hB1; have rm1 := r1.below hB1)
        | (go_at_call 9; (with_reducible refine (hM w1 rp1).mono ?_); rintro x w3 ⟨q3, c3, rfl, rk3, hb3⟩; have Y3 := Y1.below hb3; have k3 := Y3.cell; have hB3 := bnext hB1 hb3; have rp3 := rp1.below hb3; have rm3 := rm1.below hb3; have O3 := lit_none_k (k := 64) (enc := sc) (e := 44) w3)
        | (at_builtin; refine at_append_secs rfl _ _ rfl w3.heap.size (.slice (some ⟨w3.heap.size, 0, none⟩) 0 0) 0 [] rfl O3 q3 X c3 M rfl hX (rk3.alloc _) (by omega) (by simp) ?_; intro v4 w4 hown4 hg4; have hb4 : Below w3.heap.size w3 w4 := (bnew w3 _).grown hg4 (by simp) (fun b hb => by simp [Value.ownBlock] at hb; omega); have rm4 := rm3.below hb4)
        | (at_builtin; refine at_append_secs rfl _ _ rfl w3.heap.size v4 (0 + X) ([] ++ M) rfl hown4 q1 n1 c1 ys rfl l1 rm4 (by omega) hb4.size ?_; intro v5 w5 hown5 hg5; have hb5 : Below w3.heap.size w3 w5 := hb4.grown hg5 hb4.size (fun j hj => (hown4.lt j hj).1); obtain ⟨q5, c5, rfl, rk5, -⟩ := own_rk sc_len (by decide) hown5; rw [List.nil_append] at rk5; have hm5 : (M ++ ys).length = X + n1 := (by rw [List.length_append, hX, l1]); have Y5 := Y3.below hb5; have rp5 := rp3.below hb5; have rm5 := rm3.below hb5; have hB5 := bnext hB3 hb5)
        | (go_at_call 10; (with_reducible refine (hO1 q5 (X + n1) c5 w5 hm5 rk5).mono ?_); rintro x w6 ⟨q6, c6, rfl, r6, hb6⟩; have Y6 := Y5.below hb6; have rp6 := rp5.below hb6; have rm6 := rm5.below hb6; have hB6 := bnext hB5 hb6; have Z6 := Blk.new w6 #[.int .u64 0, .int .u32 0, .slice none 0 0] 30)
        | (refine at_store_rec _ _ w6.heap.size _ _ _ _ (by rfl) (by rfl) (by rfl) Z6 rfl ⟨rfl, rfl, rfl⟩ (by rfl) ?_; intro W7 Z7 G7; have hb7 : Below w6.heap.size w6 W7 := (bnew w6 _).grown G7 (by simp) (fun j hj => by simp at hj; omega); have Y7 := Y6.below hb7; have k7 := Y7.cell; have j7 := Z7.cell; have r7 := r6.below hb7; have rp7 := rp6.below hb7; have rm7 := rm6.below hb7; have hB7 := bnext hB6 hb7)
        | (go_at_call 17; refine (hS1 q6 c6 W7 r7 rp7).mono ?_; rintro x w8 ⟨rfl, hb8⟩; have Y8 := Y7.below hb8; have k8 := Y8.cell; have rm8 := rm7.below hb8; have hB8 := bnext hB7 hb8)
        | (go_at_call 12; refine (hZ _).mono ?_; rintro x w9 ⟨rfl, hw9⟩; rw [hw9]; clear hw9)
        | (go_at_call 10; (with_reducible refine (hO2 w8 rm8).mono ?_); rintro x wa ⟨qa, ca, rfl, ra, hba⟩; have hBa := bnext hB8 hba; have rma := rm8.below hba; have Za := Blk.new wa #[.int .u64 0, .int .u32 0, .slice none 0 0] 30)
        | (refine at_store_rec _ _ wa.heap.size _ _ _ _ (by rfl) (by rfl) (by rfl) Za rfl ⟨rfl, rfl, rfl⟩ (by rfl) ?_; intro Wb Zb Gb; have hbb : Below wa.heap.size wa Wb := (bnew wa _).grown Gb (by simp) (fun j hj => by simp at hj; omega); have jb := Zb.cell; have rb := ra.below hbb; have rmb := rma.below hbb; have hBb := bnext hBa hbb))
      go_ret
      exact ⟨rfl, hBb⟩
    | true =>
      obtain ⟨S, E, P, hG, hr2, hT, hN1, hN0⟩ := got_yes ho
      rw [hG] at hO2 hgb
      unfold told at hO2
      obtain ⟨g1, g2, g3⟩ := hgb
      obtain ⟨bl, ol, hq1, -⟩ := r1.2.2.2 (by omega)
      have hM2 := fun q c W (hW : Reads .u8 W q c P) => frame_Make S E q _ c P rfl g1 g2 g3 W hW
      have hf2 : fault S P = 0 := by simp [fault, hr2]
      rw [hf2] at hM2
      have hE := fun q2 c2 W (hW : RK sc W q2 c2 (made S E P)) (hW2 : RK sc W q1 c1 ys) => same_secs q2 q1 _ (made S E P).length c2 c1 (made S E P) (ys.take (made S E P).length) rfl (by rw [List.length_take]; omega) (by omega) W hW (hW2.upto sc_len _)
      rw [← hT, decide_eq_true (rfl : made S E P = made S E P)] at hE
      have hcap := r1.1
      have hcut : ∀ w, (Instr.slice 22 (.slice q1 n1 c1) none (some (.int .i64 ((made S E P).length : Int))) none).run Try.prog w = .ok (.slice q1 (made S E P).length c1) w := fun w => by rw [hq1]; exact run_upto_s w bl ol n1 c1 (made S E P).length (by omega)
      clear hG hT ho hf2 g1 g2 g3 hq1
      generalize made S E P = M2 at *
      obtain ⟨N, hN⟩ : ∃ N, M2.length = N := ⟨_, rfl⟩
      rw [hN] at hO2 hM2 hE hcut hN1 hN0
      obtain ⟨m2, hm2⟩ : ∃ m2, P.length = m2 := ⟨_, rfl⟩
      simp only [hm2] at hO2 hM2
      rw [l1] at hN1
      have hNn : decide ((N : Int) ≤ (n1 : Int)) = true := by simp; omega
      clear hN hm2
      go_enter Try.func6, Try.ntmps6
      go_wp2_with (first
        | (go_at_call 11; refine (ha _).mono ?_; rintro x w1 ⟨rfl, hb1⟩; have Y1 := Y.below hb1; have k1 := Y1.cell; have hB1 := bnext hB hb1; have rp1 := r.below hB1; have rm1 := r1.below hB1)
        | (go_at_call 9; (with_reducible refine (hM w1 rp1).mono ?_); rintro x w3 ⟨q3, c3, rfl, rk3, hb3⟩; have Y3 := Y1.below hb3; have k3 := Y3.cell; have hB3 := bnext hB1 hb3; have rp3 := rp1.below hb3; have rm3 := rm1.below hb3; have O3 := lit_none_k (k := 64) (enc := sc) (e := 44) w3)
        | (at_builtin; refine at_append_secs rfl _ _ rfl w3.heap.size (.slice (some ⟨w3.heap.size, 0, none⟩) 0 0) 0 [] rfl O3 q3 X c3 M rfl hX (rk3.alloc _) (by omega) (by simp) ?_; intro v4 w4 hown4 hg4; have hb4 : Below w3.heap.size w3 w4 := (bnew w3 _).grown hg4 (by simp) (fun b hb => by simp [Value.ownBlock] at hb; omega); have rm4 := rm3.below hb4)
        | (at_builtin; refine at_append_secs rfl _ _ rfl w3.heap.size v4 (0 + X) ([] ++ M) rfl hown4 q1 n1 c1 ys rfl l1 rm4 (by omega) hb4.size ?_; intro v5 w5 hown5 hg5; have hb5 : Below w3.heap.size w3 w5 := hb4.grown hg5 hb4.size (fun j hj => (hown4.lt j hj).1); obtain ⟨q5, c5, rfl, rk5, -⟩ := own_rk sc_len (by decide) hown5; rw [List.nil_append] at rk5; have hm5 : (M ++ ys).length = X + n1 := (by rw [List.length_append, hX, l1]); have Y5 := Y3.below hb5; have rp5 := rp3.below hb5; have rm5 := rm3.below hb5; have hB5 := bnext hB3 hb5)
        | (go_at_call 10; (with_reducible refine (hO1 q5 (X + n1) c5 w5 hm5 rk5).mono ?_); rintro x w6 ⟨q6, c6, rfl, r6, hb6⟩; have Y6 := Y5.below hb6; have rp6 := rp5.below hb6; have rm6 := rm5.below hb6; have hB6 := bnext hB5 hb6; have Z6 := Blk.new w6 #[.int .u64 0, .int .u32 0, .slice none 0 0] 30)
        | (refine at_store_rec _ _ w6.heap.size _ _ _ _ (by rfl) (by rfl) (by rfl) Z6 rfl ⟨rfl, rfl, rfl⟩ (by rfl) ?_; intro W7 Z7 G7; have hb7 : Below w6.heap.size w6 W7 := (bnew w6 _).grown G7 (by simp) (fun j hj => by simp at hj; omega); have Y7 := Y6.below hb7; have k7 := Y7.cell; have j7 := Z7.cell; have r7 := r6.below hb7; have rp7 := rp6.below hb7; have rm7 := rm6.below hb7; have hB7 := bnext hB6 hb7)
        | (go_at_call 17; refine (hS1 q6 c6 W7 r7 rp7).mono ?_; rintro x w8 ⟨rfl, hb8⟩; have Y8 := Y7.below hb8; have k8 := Y8.cell; have rm8 := rm7.below hb8; have hB8 := bnext hB7 hb8)
        | (go_at_call 12; refine (hZ _).mono ?_; rintro x w9 ⟨rfl, hw9⟩; rw [hw9]; clear hw9)
        | (go_at_call 10; (with_reducible refine (hO2 w8 rm8).mono ?_); rintro x wa ⟨qa, ca, rfl, ra, hba⟩; have hBa := bnext hB8 hba; have rma := rm8.below hba; have Za := Blk.new wa #[.int .u64 0, .int .u32 0, .slice none 0 0] 30)
        | (refine at_store_rec _ _ wa.heap.size _ _ _ _ (by rfl) (by rfl) (by rfl) Za rfl ⟨rfl, rfl, rfl⟩ (by rfl) ?_; intro Wb Zb Gb; have hbb : Below wa.heap.size wa Wb := (bnew wa _).grown Gb (by simp) (fun j hj => by simp at hj; omega); have jb := Zb.cell; have rb := ra.below hbb; have rmb := rma.below hbb; have hBb := bnext hBa hbb)
        | (go_at_call 9; (with_reducible refine (hM2 qa ca Wb rb).mono ?_); rintro x wc ⟨qc, cc, rfl, rkc, hbc⟩; have rmc := rmb.below hbc; have hBc := bnext hBb hbc)
        | (go_at_call 14; refine (hE qc cc wc rkc rmc).mono ?_; rintro x wd ⟨rfl, hbd⟩))
      go_ret
      exact ⟨rfl, bnext hBc hbd⟩
end Go.Proofs.Ytdjcdpmnijcenaa.Frame
