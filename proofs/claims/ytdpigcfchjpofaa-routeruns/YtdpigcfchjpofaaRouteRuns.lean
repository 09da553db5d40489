/-
  RouteRuns, walked. (Written by gen_runs.py.)
-/
import Derived.Test.YtdpigcfchjpofaaRouteBack
import Derived.Test.YtdpigcfchjpofaaRouteClone
import Derived.Test.YtdpigcfchjpofaaRouteRefFind
import Derived.Test.YtdpigcfchjpofaaRouteRefSet2
namespace Go.Proofs.Ytdpigcfchjpofaa.Route
open Go.RowKit Go.Maps Go.Proofs.Ytdpigcfchjpofaa.Mem Go.Proofs.Ytdpigcfchjpofaa.Addr
set_option linter.unusedVariables false

/-- One act's cells, as a load asks for them. -/
theorem acells {w : World} {p : Option Addr} {cap i : Nat} {xs : List Ac} {a : Ac} (h : RK ac w p cap xs) (hi : xs[i]? = some a) :
    ∃ b o, p = some ⟨b, o, none⟩ ∧ b < w.heap.size ∧ w.cell? ⟨b, o + i * 11, none⟩ = some (.int .i64 a.1) ∧ w.cell? ⟨b, o + i * 11 + 1, none⟩ = some (.int .i64 a.2.1) ∧ w.cell? ⟨b, o + i * 11 + 2, none⟩ = some (.int .u8 (b0 a.2.2.1.1)) ∧ w.cell? ⟨b, o + i * 11 + 3, none⟩ = some (.int .u8 (b1 a.2.2.1.1)) ∧ w.cell? ⟨b, o + i * 11 + 4, none⟩ = some (.int .u8 (b2 a.2.2.1.1)) ∧ w.cell? ⟨b, o + i * 11 + 5, none⟩ = some (.int .u8 (b3 a.2.2.1.1)) ∧ w.cell? ⟨b, o + i * 11 + 6, none⟩ = some (.int .i64 a.2.2.1.2) ∧ w.cell? ⟨b, o + i * 11 + 7, none⟩ = some (.int .u8 (b0 a.2.2.2)) ∧ w.cell? ⟨b, o + i * 11 + 8, none⟩ = some (.int .u8 (b1 a.2.2.2)) ∧ w.cell? ⟨b, o + i * 11 + 9, none⟩ = some (.int .u8 (b2 a.2.2.2)) ∧ w.cell? ⟨b, o + i * 11 + 10, none⟩ = some (.int .u8 (b3 a.2.2.2)) := by
  obtain ⟨b, o, e, hlt, hc⟩ := h.at ac_len hi
  exact ⟨b, o, e, hlt, hc 0 _ rfl, hc 1 _ rfl, hc 2 _ rfl, hc 3 _ rfl, hc 4 _ rfl, hc 5 _ rfl, hc 6 _ rfl, hc 7 _ rfl, hc 8 _ rfl, hc 9 _ rfl, hc 10 _ rfl⟩
/-- The table and the document's list say the same. -/
def Both (w : World) (g b : Nat) (p : Option Addr) (c m : Nat) (W : World) : Prop := ∃ M, Hid (m = M.length) ∧ M.length ≤ 64 ∧ TabAt W g b M ∧ RK rc W p c M ∧ w.heap.size ≤ b ∧ Below w.heap.size w W
theorem del_le {M : List Rt} (h : M.length ≤ 64) (k : Nt) : (delM M k).length ≤ 64 := Nat.le_trans (len_del_le M k) h
/-- What is asked behind each act. -/
theorem both_len {M : List Rt} {g b : Nat} {W : World} {m : Nat} (hm : m = M.length) (h : TabAt W g b M) : Calls Try.prog 11 #[.pointer (some ⟨g, 0, none⟩)] W fun e w' => e = .returned (.int .i64 (m : Int)) ∧ w' = W := by
  subst hm; exact route_Len h
theorem both_list {M : List Rt} {g b : Nat} {W : World} {m : Nat} (hm : m = M.length) (hl : M.length ≤ 64) (h : TabAt W g b M) : Calls Try.prog 18 #[.pointer (some ⟨g, 0, none⟩)] W fun e w' => ∃ p c, e = .returned (.slice p m c) ∧ RK rc w' p c M ∧ Below W.heap.size W w' := by
  subst hm; exact (route_List h (by omega)).mono fun e w' ⟨p, c, h1, h2, _, h4⟩ => ⟨p, c, h1, h2, h4⟩
theorem both_same {M : List Rt} {p q : Option Addr} {c d : Nat} {W : World} {m : Nat} (hM : Good M) (hm : m = M.length) (hl : M.length ≤ 64) (hp : RK rc W p c M) (hq : RK rc W q d M) : Calls Try.prog 19 #[.slice p m c, .slice q m d] W fun e w' => e = .returned (.bool true) ∧ Below W.heap.size W w' := by
  subst hm
  have h := rref_Same hp hq hM.2 hM.2 (by omega)
  have e : decide (M = M) = true := decide_eq_true rfl
  rw [e] at h
  exact h
set_option maxRecDepth 100000 in
set_option maxHeartbeats 8000000 in
theorem runs_walk (q : Option Addr) (n c : Nat) (xs : List Ac) (w : World) (hxl : xs.length = n) (hr : RK ac w q c xs) (hx : ∀ a ∈ xs, AcOk a) :
    Calls Try.prog 4 #[.slice q n c] w fun e w' => e = .returned (.bool true) ∧ Below w.heap.size w w' := by
  have ha := alive_any
  by_cases h200 : 200 < n
  · have h200i : (200 : Int) < (n : Int) := by omega
    go_enter Try.func4, Try.ntmps4
    go_wp2_with (go_at_call 10; refine (ha _).mono ?_; rintro e w1 ⟨rfl, hb1⟩)
    go_ret
    exact ⟨rfl, hb1⟩
  · have h200i : ¬ (200 : Int) < (n : Int) := by omega
    have HX : Hid (xs.length = n) := hxl
    clear hxl
    go_enter Try.func4, Try.ntmps4
    go_wp2_with (first
      | (go_at_call 10; refine (ha _).mono ?_; rintro e w1 ⟨rfl, hb1⟩)
      | (go_at_call 8; refine (route_New _).mono ?_; rintro e w2 ⟨g, b, rfl, hT2, hg2, hbb2, hb2⟩))
    have hbw : w.heap.size ≤ b := by have := hb1.size; omega
    go_loopw [3, 4, 27] (fun t s u wr => ∃ (i g b : Nat) (p : Option Addr) (cw m : Nat), i ≤ n ∧ u = .int .i64 i ∧ t = .pointer (some ⟨g, 0, none⟩) ∧ s = .slice p m cw ∧ Both w g b p cw m wr) (fun _ _ u _ => n - (intOf u).toNat)
    case atStart => exact ⟨0, g, b, _, 0, 0, Nat.zero_le _, rfl, rfl, rfl, [], rfl, by decide, hT2.below (bnew _ _), ⟨Nat.le_refl _, by decide, fun h => rfl, fun h => absurd h (Nat.lt_irrefl 0)⟩, hbw, bal (bnext hb1 hb2) _⟩
    case round =>
      clear hT2 hg2 hbb2 hb2 hb1 hbw ha
      obtain ⟨i, g, b, p, cw, m, hin, rfl, rfl, rfl, M, HM, hml, hT, hW, hbw, hbe⟩ := hrel
      have hM : Good M := hT.2.1
      by_cases hlt : i < n
      · have hil : i < xs.length := by rw [HX.out]; exact hlt
        have hxi : xs[i]? = some xs[i] := List.getElem?_eq_getElem hil
        generalize hxe : xs[i] = a at hxi
        have hok : AcOk a := hx a (List.mem_of_getElem? hxi)
        obtain ⟨bb, o, rfl, hbl, l0, l1, l2, l3, l4, l5, l6, l7, l8, l9, l10⟩ := acells (hr.below hbe) hxi
        obtain ⟨hk0, hwho, hnet, hadr⟩ := hok
        have kX := Blk.new wr #[.int .i64 a.1, .int .i64 a.2.1, .int .u8 (b0 a.2.2.1.1), .int .u8 (b1 a.2.2.1.1), .int .u8 (b2 a.2.2.1.1), .int .u8 (b3 a.2.2.1.1), .int .i64 a.2.2.1.2, .int .u8 (b0 a.2.2.2), .int .u8 (b1 a.2.2.2), .int .u8 (b2 a.2.2.2), .int .u8 (b3 a.2.2.2)] 35
        have lX := kX.cell
        clear hxe
        have hT0 := hT.below (bnew wr (.cells #[.int .i64 a.1, .int .i64 a.2.1, .int .u8 (b0 a.2.2.1.1), .int .u8 (b1 a.2.2.1.1), .int .u8 (b2 a.2.2.1.1), .int .u8 (b3 a.2.2.1.1), .int .i64 a.2.2.1.2, .int .u8 (b0 a.2.2.2), .int .u8 (b1 a.2.2.2), .int .u8 (b2 a.2.2.2), .int .u8 (b3 a.2.2.2)] 35))
        have hW0 := hW.alloc (.cells #[.int .i64 a.1, .int .i64 a.2.1, .int .u8 (b0 a.2.2.1.1), .int .u8 (b1 a.2.2.1.1), .int .u8 (b2 a.2.2.1.1), .int .u8 (b3 a.2.2.1.1), .int .i64 a.2.2.1.2, .int .u8 (b0 a.2.2.2), .int .u8 (b1 a.2.2.2), .int .u8 (b2 a.2.2.2), .int .u8 (b3 a.2.2.2)] 35)
        have hbe0 := bal hbe (.cells #[.int .i64 a.1, .int .i64 a.2.1, .int .u8 (b0 a.2.2.1.1), .int .u8 (b1 a.2.2.1.1), .int .u8 (b2 a.2.2.1.1), .int .u8 (b3 a.2.2.1.1), .int .i64 a.2.2.1.2, .int .u8 (b0 a.2.2.2), .int .u8 (b1 a.2.2.2), .int .u8 (b2 a.2.2.2), .int .u8 (b3 a.2.2.2)] 35)
        by_cases h0 : a.1 = 0
        · have d0 : (a.1 == 0) = true := by simp [h0]
          have hrk : ROk (a.2.2.1.1, a.2.2.1.2, a.2.1) := ⟨hnet, hwho⟩
          have hRS := rref_Set hW0 hM hml hrk
          have hS := fun W (h : TabAt W g b M) => route_Set h hrk hml
          rw [← HM.out] at hRS
          have hM2 := good_set hM hrk
          have hl2 := len_set hM.1 hml (a.2.2.1.1, a.2.2.1.2, a.2.1)
          generalize setE M (a.2.2.1.1, a.2.2.1.2, a.2.1) = v at hRS hS
          generalize setM M (a.2.2.1.1, a.2.2.1.2, a.2.1) = M2 at hRS hS hM2 hl2
          obtain ⟨m2, hm2⟩ : ∃ m2, m2 = M2.length := ⟨_, rfl⟩
          have HM2 : Hid (m2 = M2.length) := hm2
          rw [← hm2] at hRS
          unfold net at hRS hS
          clear h0 hm2
          go_wp2_with (first
            | (go_at_call 12; (with_reducible refine hRS.mono ?_); rintro e w3 ⟨p3, c3, rfl, hr3, hb3⟩; have hT3 := hT0.below hb3; have lX3 := (kX.below hb3).cell)
            | (go_at_call 9; (with_reducible refine (hS _ hT3).mono ?_); rintro e w4 ⟨rfl, hT4, hg4⟩; have hW4 := rk_tab hr3 hT3.2 hg4; have hbe3 := bnext hbe0 hb3; have hbe4 := below_turn hbe3 hg4 hbe3.size hbw)
            | (go_at_call 11; (with_reducible refine (both_len HM2.out hT4).mono ?_); rintro e wl ⟨rfl, rfl⟩)
            | (go_at_call 18; (with_reducible refine (both_list HM2.out hl2 hT4).mono ?_); rintro e ws ⟨ps, cs, rfl, hrs, hbs⟩)
            | (go_at_call 19; (with_reducible refine (both_same hM2 HM2.out hl2 hrs (hW4.below hbs)).mono ?_); rintro e wt ⟨rfl, hbt⟩))
          go_roundw
          case rel => exact ⟨i + 1, g, b, p3, c3, m2, by omega, by simp, rfl, rfl, M2, HM2, hl2, (hT4.below hbs).below hbt, (hW4.below hbs).below hbt, hbw, bnext (bnext hbe4 hbs) hbt⟩
          case measure => simp [intOf]; omega
        · have d0 : (a.1 == 0) = false := by simp [h0]
          by_cases h1 : a.1 = 1
          · have d1 : (a.1 == 1) = true := by simp [h1]
            have hRD := rref_Delete hW0 hM (by omega) hnet
            have hD := fun W (h : TabAt W g b M) => route_Delete h hnet
            rw [← HM.out] at hRD
            have hM2 := good_del hM a.2.2.1
            have hl2 := del_le hml a.2.2.1
            generalize hasM M a.2.2.1 = v at hRD hD
            generalize delM M a.2.2.1 = M2 at hRD hD hM2 hl2
            obtain ⟨m2, hm2⟩ : ∃ m2, m2 = M2.length := ⟨_, rfl⟩
            have HM2 : Hid (m2 = M2.length) := hm2
            rw [← hm2] at hRD
            unfold net at hRD hD
            clear h0 h1 hm2
            go_wp2_with (first
              | (go_at_call 13; (with_reducible refine hRD.mono ?_); rintro e w3 ⟨g3, c3, rfl, hr3, -, hb3⟩; have hT3 := hT0.below hb3; have lX3 := (kX.below hb3).cell)
              | (go_at_call 14; (with_reducible refine (hD _ hT3).mono ?_); rintro e w4 ⟨rfl, hT4, hg4⟩; have hW4 := rk_tab hr3 hT3.2 hg4; have hbe3 := bnext hbe0 hb3; have hbe4 := below_turn hbe3 hg4 hbe3.size hbw)
              | (go_at_call 11; (with_reducible refine (both_len HM2.out hT4).mono ?_); rintro e wl ⟨rfl, rfl⟩)
              | (go_at_call 18; (with_reducible refine (both_list HM2.out hl2 hT4).mono ?_); rintro e ws ⟨ps, cs, rfl, hrs, hbs⟩)
              | (go_at_call 19; (with_reducible refine (both_same hM2 HM2.out hl2 hrs (hW4.below hbs)).mono ?_); rintro e wt ⟨rfl, hbt⟩))
            go_roundw
            case rel => exact ⟨i + 1, g, b, some ⟨g3, 0, none⟩, c3, m2, by omega, by simp, rfl, rfl, M2, HM2, hl2, (hT4.below hbs).below hbt, (hW4.below hbs).below hbt, hbw, bnext (bnext hbe4 hbs) hbt⟩
            case measure => simp [intOf]; omega
          · have d1 : (a.1 == 1) = false := by simp [h1]
            by_cases h2 : a.1 = 2
            · have d2 : (a.1 == 2) = true := by simp [h2]
              have hf1 : ROk ((findM M a.2.2.2).getD (0, 0, 0)) := by
                cases hf : findM M a.2.2.2 with
                | none => exact ok_lit (by decide) (by decide) (by decide)
                | some r => exact hM.2 r ((best_find M a.2.2.2).2 r hf).1
              have hF := route_Find hT0 hadr
              have hRF := fun W (h : RK rc W p cw M) => rref_Find h hM.2 (by omega) hadr
              rw [← HM.out] at hRF
              have heq := eq_routes hf1 hf1
              simp only [decide_true] at heq
              generalize (findM M a.2.2.2).getD (0, 0, 0) = fr at hF hRF heq
              generalize (findM M a.2.2.2).isSome = fs at hF hRF
              have hgr := guard_route
              unfold rc at hF heq
              simp only [show ∀ r : Rt, rc r = [.int .u8 (b0 r.1), .int .u8 (b1 r.1), .int .u8 (b2 r.1), .int .u8 (b3 r.1), .int .i64 r.2.1, .int .i64 r.2.2] from fun _ => rfl] at hRF
              unfold adr at hF hRF
              clear h0 h1 h2 hf1
              go_wp2_with (first
                | (go_at_call 15; (with_reducible refine hF.mono ?_); rintro e w3 ⟨rfl, hb3⟩; have hT3 := (hT0.below hb3).below (bnew w3 (.cells #[.int .u8 (b0 fr.1), .int .u8 (b1 fr.1), .int .u8 (b2 fr.1), .int .u8 (b3 fr.1), .int .i64 fr.2.1, .int .i64 fr.2.2] 42)); have hW3 := (hW0.below hb3).alloc (.cells #[.int .u8 (b0 fr.1), .int .u8 (b1 fr.1), .int .u8 (b2 fr.1), .int .u8 (b3 fr.1), .int .i64 fr.2.1, .int .i64 fr.2.2] 42); have lX3 := ((kX.below hb3).alloc (.cells #[.int .u8 (b0 fr.1), .int .u8 (b1 fr.1), .int .u8 (b2 fr.1), .int .u8 (b3 fr.1), .int .i64 fr.2.1, .int .i64 fr.2.2] 42)).cell; have kF3 := Blk.new w3 #[.int .u8 (b0 fr.1), .int .u8 (b1 fr.1), .int .u8 (b2 fr.1), .int .u8 (b3 fr.1), .int .i64 fr.2.1, .int .i64 fr.2.2] 42)
                | (go_at_call 16; (with_reducible refine (hRF _ hW3).mono ?_); rintro e w4 ⟨rfl, hb4⟩; have hT4 := (hT3.below hb4).below (bnew w4 (.cells #[.int .u8 (b0 fr.1), .int .u8 (b1 fr.1), .int .u8 (b2 fr.1), .int .u8 (b3 fr.1), .int .i64 fr.2.1, .int .i64 fr.2.2] 42)); have hW4 := (hW3.below hb4).alloc (.cells #[.int .u8 (b0 fr.1), .int .u8 (b1 fr.1), .int .u8 (b2 fr.1), .int .u8 (b3 fr.1), .int .i64 fr.2.1, .int .i64 fr.2.2] 42); have lF4 := ((kF3.below hb4).alloc (.cells #[.int .u8 (b0 fr.1), .int .u8 (b1 fr.1), .int .u8 (b2 fr.1), .int .u8 (b3 fr.1), .int .i64 fr.2.1, .int .i64 fr.2.2] 42)).cell; have lG4 := (Blk.new w4 #[.int .u8 (b0 fr.1), .int .u8 (b1 fr.1), .int .u8 (b2 fr.1), .int .u8 (b3 fr.1), .int .i64 fr.2.1, .int .i64 fr.2.2] 42).cell)
                | (go_at_call 11; (with_reducible refine (both_len HM.out hT4).mono ?_); rintro e wl ⟨rfl, rfl⟩)
                | (go_at_call 18; (with_reducible refine (both_list HM.out hml hT4).mono ?_); rintro e ws ⟨ps, cs, rfl, hrs, hbs⟩)
                | (go_at_call 19; (with_reducible refine (both_same hM HM.out hml hrs (hW4.below hbs)).mono ?_); rintro e wt ⟨rfl, hbt⟩))
              have hbe4 := bal (bnext (bal (bnext hbe0 hb3) (.cells #[.int .u8 (b0 fr.1), .int .u8 (b1 fr.1), .int .u8 (b2 fr.1), .int .u8 (b3 fr.1), .int .i64 fr.2.1, .int .i64 fr.2.2] 42)) hb4) (.cells #[.int .u8 (b0 fr.1), .int .u8 (b1 fr.1), .int .u8 (b2 fr.1), .int .u8 (b3 fr.1), .int .i64 fr.2.1, .int .i64 fr.2.2] 42)
              go_roundw
              case rel => exact ⟨i + 1, g, b, p, cw, m, by omega, by simp, rfl, rfl, M, HM, hml, (hT4.below hbs).below hbt, (hW4.below hbs).below hbt, hbw, bnext (bnext hbe4 hbs) hbt⟩
              case measure => simp [intOf]; omega
            · have d2 : (a.1 == 2) = false := by simp [h2]
              by_cases h3 : a.1 = 3
              · have d3 : (a.1 == 3) = true := by simp [h3]
                have hC := route_Clone hT0
                clear h0 h1 h2 h3
                go_wp2_with (first
                  | (go_at_call 17; (with_reducible refine hC.mono ?_); rintro e w3 ⟨gq, bq, rfl, hT3, hg3, hb3l, hb3⟩; have hTo := hT0.below hb3)
                  | (go_at_call 18; (with_reducible refine (both_list HM.out hml hTo).mono ?_); rintro e w4 ⟨pl, cl, rfl, hrl, hb4⟩))
                have hbw3 : w.heap.size ≤ bq := by have := hbe0.size; omega
                have hne : bq ≠ b := by have := hT0.2.lt; omega
                go_loopw [101] (fun u W => ∃ (k : Nat) (N : List Rt), k ≤ m ∧ u = .int .i64 k ∧ TabAt W g b N ∧ TabAt W gq bq M ∧ RK rc W p cw M ∧ RK rc W pl cl M ∧ Below w.heap.size w W) (fun u _ => m - (intOf u).toNat)
                case atStart => exact ⟨0, M, Nat.zero_le _, rfl, hTo.below hb4, hT3.below hb4, (hW0.below hb3).below hb4, hrl, bnext (bnext hbe0 hb3) hb4⟩
                case round =>
                  clear hTo hT3 hrl hb4 hb3 hg3 hb3l hT0 hW0 hT hW hbe hbe0 kX lX
                  obtain ⟨k, N, hkm, rfl, hTn, hT3, hW3, hrl, hbe3⟩ := hrel
                  by_cases hltk : k < m
                  · have hkl : k < M.length := by have := HM.out; omega
                    have hyk : M[k]? = some M[k] := List.getElem?_eq_getElem hkl
                    generalize hye : M[k] = y at hyk
                    have hyok : NOk (kof y) := (hM.2 y (List.mem_of_getElem? hyk)).1
                    obtain ⟨bc, oc, rfl, hbc, y0, y1, y2, y3, y4, y5⟩ := rcells hrl hyk
                    have hDy := fun W (h : TabAt W g b N) => route_Delete h hyok
                    simp only [kof] at hDy
                    unfold net at hDy
                    have kY := (Blk.new wr #[.int .u8 (b0 y.1), .int .u8 (b1 y.1), .int .u8 (b2 y.1), .int .u8 (b3 y.1), .int .i64 y.2.1, .int .i64 y.2.2] 42)
                    have lY := kY.cell
                    clear hye
                    go_wp2_with (go_at_call 14; refine (hDy _ (hTn.below (bnew _ _))).mono ?_; rintro e w5 ⟨rfl, hT5, hg5⟩)
                    have hTn1 := hTn.below (bnew wr (.cells #[.int .u8 (b0 y.1), .int .u8 (b1 y.1), .int .u8 (b2 y.1), .int .u8 (b3 y.1), .int .i64 y.2.1, .int .i64 y.2.2] 42))
                    go_roundw
                    case rel => exact ⟨k + 1, _, by omega, by simp, hT5, (hT3.below (bnew _ _)).kept hTn1.2 hg5 hne, rk_tab (hW3.alloc _) hTn1.2 hg5, rk_tab (hrl.alloc _) hTn1.2 hg5, below_turn (bal hbe3 _) hg5 (by have := hbe3.size; simp; omega) hbw⟩
                    case measure => simp [intOf]; omega
                  · have hke : k = m := by omega
                    subst hke
                    go_wp2_with (first
                      | (go_at_call 11; (with_reducible refine (both_len HM.out hT3).mono ?_); rintro e wl ⟨rfl, rfl⟩)
                      | (go_at_call 18; (with_reducible refine (both_list HM.out hml hT3).mono ?_); rintro e ws ⟨ps, cs, rfl, hrs, hbs⟩)
                      | (go_at_call 19; (with_reducible refine (both_same hM HM.out hml hrs (hW3.below hbs)).mono ?_); rintro e wt ⟨rfl, hbt⟩))
                    go_roundw
                    case rel => exact ⟨i + 1, gq, bq, p, cw, k, by omega, by simp, rfl, rfl, M, HM, hml, (hT3.below hbs).below hbt, (hW3.below hbs).below hbt, hbw3, bnext (bnext hbe3 hbs) hbt⟩
                    case measure => simp [intOf]; omega
              · have d3 : (a.1 == 3) = false := by simp [h3]
                clear h0 h1 h2 h3
                go_wp2_with (first
                  | (go_at_call 11; (with_reducible refine (both_len HM.out hT0).mono ?_); rintro e wl ⟨rfl, rfl⟩)
                  | (go_at_call 18; (with_reducible refine (both_list HM.out hml hT0).mono ?_); rintro e ws ⟨ps, cs, rfl, hrs, hbs⟩)
                  | (go_at_call 19; (with_reducible refine (both_same hM HM.out hml hrs (hW0.below hbs)).mono ?_); rintro e wt ⟨rfl, hbt⟩))
                go_roundw
                case rel => exact ⟨i + 1, g, b, p, cw, m, by omega, by simp, rfl, rfl, M, HM, hml, (hT0.below hbs).below hbt, (hW0.below hbs).below hbt, hbw, bnext (bnext hbe0 hbs) hbt⟩
                case measure => simp [intOf]; omega
      · have hie : i = n := by omega
        subst hie
        go_wp2
        go_ret
        exact ⟨rfl, hbe⟩
end Go.Proofs.Ytdpigcfchjpofaa.Route
