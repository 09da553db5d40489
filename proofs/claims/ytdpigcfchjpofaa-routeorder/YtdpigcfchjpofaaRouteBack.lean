/-
  RouteBack, walked.
-/
import Derived.Test.YtdpigcfchjpofaaRouteAlive
import Derived.Test.YtdpigcfchjpofaaRouteList
import Derived.Test.YtdpigcfchjpofaaRouteRef
import Derived.Test.YtdpigcfchjpofaaRouteFill
import Derived.Test.YtdpigcfchjpofaaRouteOpen
namespace Go.Proofs.Ytdpigcfchjpofaa.Route
open Go.RowKit Go.Maps Go.Proofs.Ytdpigcfchjpofaa.Mem Go.Proofs.Ytdpigcfchjpofaa.Addr

/-- One network's cells, as a load asks for them. -/
theorem ncells {w : World} {p : Option Addr} {cap i : Nat} {xs : List Nt} {k : Nt} (h : RK nc w p cap xs) (hi : xs[i]? = some k) :
    ∃ b o, p = some ⟨b, o, none⟩ ∧ b < w.heap.size ∧ w.cell? ⟨b, o + i * 5, none⟩ = some (.int .u8 (b0 k.1)) ∧ w.cell? ⟨b, o + i * 5 + 1, none⟩ = some (.int .u8 (b1 k.1)) ∧ w.cell? ⟨b, o + i * 5 + 2, none⟩ = some (.int .u8 (b2 k.1)) ∧
      w.cell? ⟨b, o + i * 5 + 3, none⟩ = some (.int .u8 (b3 k.1)) ∧ w.cell? ⟨b, o + i * 5 + 4, none⟩ = some (.int .i64 k.2) := by
  obtain ⟨b, o, e, hlt, hc⟩ := h.at nc_len hi
  exact ⟨b, o, e, hlt, hc 0 _ rfl, hc 1 _ rfl, hc 2 _ rfl, hc 3 _ rfl, hc 4 _ rfl⟩
/-- A block stays while a map is written. -/
theorem blk_turn {w w' : World} {g b : Nat} {t : TypeId} {cs : List Value} {M : List Rt} (h : Blk w g t cs) (hT : Tab w b M) (hg : w.grownBy w' (some b)) : Blk w' g t cs := by
  refine h.kept hg fun e => ?_
  simp only [Option.some.injEq] at e
  subst e
  obtain ⟨es, clock, hb⟩ := hT.map
  unfold Blk at h
  rw [hb] at h
  cases h
theorem rk_tab {w w' : World} {p : Option Addr} {c b : Nat} {M N : List Rt} (h : RK rc w p c M) (hT : Tab w b N) (hg : w.grownBy w' (some b)) : RK rc w' p c M := by
  obtain ⟨es, ck, hm⟩ := hT.map
  exact h.turn rc_len (by decide) hm hg
theorem rk_turn2 {w3 w4 w5 w6 w7 w8 : World} {p : Option Addr} {c b : Nat} {M N N2 : List Rt} {o1 o2 : Obj} (h : RK rc w3 p c M) (h4 : Below w3.heap.size w3 w4) (t4 : Tab (w4.alloc o1) b N) (h5 : (w4.alloc o1).grownBy w5 (some b)) (t5 : Tab w5 b N2) (h6 : w5.grownBy w6 (some b)) (h7 : Below w6.heap.size w6 w7) (h8 : Below (w7.alloc o2).heap.size (w7.alloc o2) w8) : RK rc w8 p c M :=
  (((rk_tab (rk_tab ((h.below h4).alloc o1) t4 h5) t5 h6).below h7).alloc o2).below h8
theorem set_ent {W : World} {g b : Nat} {xs : List Nt} {i : Nat} (hx : ∀ k ∈ xs, NOk k) (hl : xs.length ≤ 64) (hi : i < xs.length) {k : Nt} (hk : xs[i]? = some k) (h : TabAt W g b (fill xs i)) :
    Calls Try.prog 9 #[.pointer (some ⟨g, 0, none⟩), .agg #[.int .u8 (b0 k.1), .int .u8 (b1 k.1), .int .u8 (b2 k.1), .int .u8 (b3 k.1), .int .i64 k.2], .int .i64 (i : Int)] W fun e w' => e = .returned (.int .i64 (if rightN k.1 k.2 = true then 0 else 61)) ∧ TabAt w' g b (fill xs (i + 1)) ∧ W.grownBy w' (some b) := by
  have h1 := route_Set h (r := ent xs i) (ent_ok hx hi (by omega)) (by have := len_fill hx (by omega) (i := i) (by omega); omega)
  have e1 : setE (fill xs i) (ent xs i) = if rightN k.1 k.2 = true then 0 else 61 := by unfold setE; rw [fill_ok hx hl hi, nth_get hk]
  rw [e1] at h1
  simp only [ent, nth_get hk] at h1
  have e2 : fill xs (i + 1) = setM (fill xs i) (ent xs i) := rfl
  rw [e2]
  simp only [ent, nth_get hk]
  exact h1
set_option maxRecDepth 100000 in
set_option maxHeartbeats 2000000 in
theorem back_walk (q : Option Addr) (n c : Nat) (xs : List Nt) (k : Nt) (A : Nat) (w : World) (hxl : xs.length = n) (hr : RK nc w q c xs) (hx : ∀ k ∈ xs, NOk k) (hk : NOk k) (hA : A < 4294967296) :
    Calls Try.prog 7 #[.slice q n c, net k.1 k.2, adr A] w fun e w' => e = .returned (.bool true) ∧ Below w.heap.size w w' := by
  have ha := alive_any
  have hgd := guard_net
  by_cases h60 : 60 < n
  · have h60i : (60 : Int) < (n : Int) := by omega
    unfold net adr
    go_enter Try.func7, Try.ntmps7
    go_wp2_with (go_at_call 10; refine (ha _).mono ?_; rintro e w1 ⟨rfl, hb1⟩)
    go_ret
    exact ⟨rfl, bnext (bnext (bnew w _) (bnew _ _)) hb1⟩
  · have h60i : ¬ (60 : Int) < (n : Int) := by omega
    have hlx : xs.length ≤ 64 := by omega
    have HX : Hid (xs.length = n) := hxl
    clear hxl
    unfold net adr
    go_enter Try.func7, Try.ntmps7
    go_wp2_with (first
      | (go_at_call 10; refine (ha _).mono ?_; rintro e w1 ⟨rfl, hb1⟩)
      | (go_at_call 8; refine (route_New _).mono ?_; rintro e w2 ⟨g, b, rfl, hT2, hg2, hbb2, hb2⟩))
    have kO2 := (((Blk.new w #[.int .u8 (b0 k.1), .int .u8 (b1 k.1), .int .u8 (b2 k.1), .int .u8 (b3 k.1), .int .i64 k.2] 29).alloc (.cells #[.int .u8 (b0 A), .int .u8 (b1 A), .int .u8 (b2 A), .int .u8 (b3 A)] 27)).below hb1).below hb2
    have kA2 := ((Blk.new1 (w.alloc (.cells #[.int .u8 (b0 k.1), .int .u8 (b1 k.1), .int .u8 (b2 k.1), .int .u8 (b3 k.1), .int .i64 k.2] 29)) (G := w.heap.size + 1) (by simp) #[.int .u8 (b0 A), .int .u8 (b1 A), .int .u8 (b2 A), .int .u8 (b3 A)] 27).below hb1).below hb2
    have hbw2 := bnext (bnext (bnext (bnew w (.cells #[.int .u8 (b0 k.1), .int .u8 (b1 k.1), .int .u8 (b2 k.1), .int .u8 (b3 k.1), .int .i64 k.2] 29)) (bnew _ (.cells #[.int .u8 (b0 A), .int .u8 (b1 A), .int .u8 (b2 A), .int .u8 (b3 A)] 27))) hb1) hb2
    have hbw : w.heap.size ≤ b := by
      have := hb1.size
      simp only [World.size_alloc] at this
      omega
    clear hb1 hb2 hg2 hbb2
    go_loopw [25] (fun t wr => ∃ i : Nat, i ≤ n ∧ t = .int .i64 i ∧ TabAt wr g b (fill xs i) ∧ Hid (∀ j, j < i → nth xs j ≠ k) ∧ Blk wr w.heap.size 29 [.int .u8 (b0 k.1), .int .u8 (b1 k.1), .int .u8 (b2 k.1), .int .u8 (b3 k.1), .int .i64 k.2] ∧
        Blk wr (w.heap.size + 1) 27 [.int .u8 (b0 A), .int .u8 (b1 A), .int .u8 (b2 A), .int .u8 (b3 A)] ∧ Below w.heap.size w wr) (fun t _ => n - (intOf t).toNat)
    case atStart => exact ⟨0, Nat.zero_le _, rfl, hT2, fun j hj => by omega, kO2, kA2, hbw2⟩
    case round =>
      clear hT2 kO2 kA2 hbw2
      obtain ⟨i, hin, rfl, hT, HK, kO, kA, hbe⟩ := hrel
      by_cases hlt : i < n
      · have hil : i < xs.length := by rw [HX.out]; exact hlt
        have hxi : xs[i]? = some xs[i] := List.getElem?_eq_getElem hil
        generalize hxe : xs[i] = x at hxi
        have hxk : NOk x := hx x (List.mem_of_getElem? hxi)
        obtain ⟨bb, o, rfl, hbl, l0, l1, l2, l3, l4⟩ := ncells (hr.below hbe) hxi
        have heq := eq_nets hxk hk
        have lO : ∀ ob j, (wr.alloc ob).cell? ⟨w.heap.size, j, none⟩ = _ := fun ob j => (kO.alloc ob).cell j
        have HS : Hid (∀ W, TabAt W g b (fill xs i) → _) := fun W hW => set_ent hx hlx hil hxi hW
        clear hxe
        by_cases he : x = k
        · have hd : decide (x = k) = true := decide_eq_true he
          simp only [hd] at heq
          unfold net at heq
          clear hd he
          go_wp2
          go_ret
          exact ⟨rfl, hbe.alloc hbe.size _⟩
        · have hd : decide (x = k) = false := decide_eq_false he
          simp only [hd] at heq
          unfold net at heq
          have HK1 : Hid (∀ j, j < i + 1 → nth xs j ≠ k) := fun j hj => by
            rcases Nat.lt_or_ge j i with h1 | h1
            · exact HK.out j h1
            · obtain rfl : j = i := by omega
              rw [nth_get hxi]; exact he
          clear hd
          generalize hv : (if rightN x.1 x.2 = true then (0 : Int) else 61) = v at HS
          clear hv
          go_wp2_with (go_at_call 9; refine (HS.out _ (hT.below (bnew _ _))).mono ?_; rintro e w3 ⟨rfl, hT3, hg3⟩)
          have hbe3 := below_turn (hbe.alloc hbe.size _) hg3 (by have := hbe.size; simp; omega) hbw
          go_roundw
          case rel => exact ⟨i + 1, by omega, by simp, hT3, HK1, blk_turn (kO.alloc _) (hT.below (bnew _ _)).2 hg3, blk_turn (kA.alloc _) (hT.below (bnew _ _)).2 hg3, hbe3⟩
          case measure => simp [intOf]; omega
      · have hie : i = n := by omega
        subst hie
        obtain ⟨M, hMe⟩ : ∃ M, M = fill xs i := ⟨_, rfl⟩
        rw [← hMe] at hT
        have hxl := HX.out
        have hM : Good M := by rw [hMe]; exact good_fill hx (by omega) (by omega)
        have hno : hasM M k = false := by rw [hMe]; exact fill_not hx hlx (by omega) HK.out
        have hml : M.length ≤ 60 := by rw [hMe]; have := len_fill hx (by omega) (i := i) (by omega); omega
        have hrk : ROk (k.1, k.2, 999) := ⟨hk, by simp [Inty]⟩
        have hhas : hasM (setM M (k.1, k.2, 999)) k = setOk M (k.1, k.2, 999) := back_has hno
        have hdel : delM (setM M (k.1, k.2, 999)) k = M := back_del hM.1 hno
        have hf1 : ROk ((findM M A).getD (0, 0, 0)) := by
          cases hf : findM M A with
          | none => exact ok_lit (by decide) (by decide) (by decide)
          | some r => exact hM.2 r ((best_find M A).2 r hf).1
        have hL := fun W (h : TabAt W g b M) => route_List h (by omega)
        have hF := fun W (h : TabAt W g b M) => route_Find h hA
        have hS := fun W (h : TabAt W g b M) => route_Set h hrk (by omega)
        have hD := fun W (h : TabAt W g b (setM M (k.1, k.2, 999))) => route_Delete h hk
        rw [hhas, hdel] at hD
        have hSm := fun W p1 p2 c1 c2 (h1 : RK rc W p1 c1 M) (h2 : RK rc W p2 c2 M) => rref_Same h1 h2 hM.2 hM.2 (by omega)
        have edm : decide (M = M) = true := decide_eq_true rfl
        rw [edm] at hSm
        have heq := eq_routes hf1 hf1
        have edf : decide ((findM M A).getD (0, 0, 0) = (findM M A).getD (0, 0, 0)) = true := decide_eq_true rfl
        rw [edf] at heq
        generalize (findM M A).getD (0, 0, 0) = fr at hF heq
        generalize (findM M A).isSome = fs at hF
        obtain ⟨m, hm⟩ : ∃ m, m = M.length := ⟨_, rfl⟩
        rw [← hm] at hL hSm
        have hgr := guard_route
        have hso : setE M (k.1, k.2, 999) = if setOk M (k.1, k.2, 999) = true then 0 else 61 := rfl
        rw [hso] at hS
        generalize setOk M (k.1, k.2, 999) = v at hS hD
        generalize setM M (k.1, k.2, 999) = M2 at hS hD
        clear hso edf edm hm hml hno hhas hdel hf1 hMe hM hx hxl HX HK hlx hr ha
        unfold rc at heq hF
        unfold adr at hF
        unfold net at hS hD
        have lA := kA.cell
        have lO := kO.cell
        cases v with
        | false =>
          simp only [Bool.false_eq_true, if_false] at hS
          go_wp2_with (first
            | (go_at_call 18; (with_reducible refine (hL _ hT).mono ?_); rintro e w3 ⟨p1, c1, rfl, hr3, -, hb3⟩; have hT3 := hT.below hb3; have kA3 := kA.below hb3; have kO3 := kO.below hb3; have lA3 := kA3.cell)
            | (go_at_call 15; (with_reducible refine (hF _ hT3).mono ?_); rintro e w4 ⟨rfl, hb4⟩; have hT4 := (hT3.below hb4).below (bnew w4 (.cells #[.int .u8 (b0 fr.1), .int .u8 (b1 fr.1), .int .u8 (b2 fr.1), .int .u8 (b3 fr.1), .int .i64 fr.2.1, .int .i64 fr.2.2] 42)); have kO4 := (kO3.below hb4).alloc (.cells #[.int .u8 (b0 fr.1), .int .u8 (b1 fr.1), .int .u8 (b2 fr.1), .int .u8 (b3 fr.1), .int .i64 fr.2.1, .int .i64 fr.2.2] 42); have kA4 := (kA3.below hb4).alloc (.cells #[.int .u8 (b0 fr.1), .int .u8 (b1 fr.1), .int .u8 (b2 fr.1), .int .u8 (b3 fr.1), .int .i64 fr.2.1, .int .i64 fr.2.2] 42); have lO4 := kO4.cell; have kF4 := Blk.new w4 #[.int .u8 (b0 fr.1), .int .u8 (b1 fr.1), .int .u8 (b2 fr.1), .int .u8 (b3 fr.1), .int .i64 fr.2.1, .int .i64 fr.2.2] 42)
            | (go_at_call 9; (with_reducible refine (hS _ hT4).mono ?_); rintro e w5 ⟨rfl, hT5, hg5⟩; have kO5 := blk_turn kO4 hT4.2 hg5; have kA5 := blk_turn kA4 hT4.2 hg5; have kF5 := blk_turn kF4 hT4.2 hg5; have lO5 := kO5.cell)
            | (go_at_call 14; (with_reducible refine (hD _ hT5).mono ?_); rintro e w6 ⟨rfl, hT6, hg6⟩; have kA6 := blk_turn kA5 hT5.2 hg6; have kF6 := blk_turn kF5 hT5.2 hg6; have lA6 := kA6.cell)
            | (go_at_call 15; (with_reducible refine (hF _ hT6).mono ?_); rintro e w7 ⟨rfl, hb7⟩; have hT7 := (hT6.below hb7).below (bnew w7 (.cells #[.int .u8 (b0 fr.1), .int .u8 (b1 fr.1), .int .u8 (b2 fr.1), .int .u8 (b3 fr.1), .int .i64 fr.2.1, .int .i64 fr.2.2] 42)); have kF7 := (kF6.below hb7).alloc (.cells #[.int .u8 (b0 fr.1), .int .u8 (b1 fr.1), .int .u8 (b2 fr.1), .int .u8 (b3 fr.1), .int .i64 fr.2.1, .int .i64 fr.2.2] 42); have kQ7 := Blk.new w7 #[.int .u8 (b0 fr.1), .int .u8 (b1 fr.1), .int .u8 (b2 fr.1), .int .u8 (b3 fr.1), .int .i64 fr.2.1, .int .i64 fr.2.2] 42)
            | (go_at_call 18; (with_reducible refine (hL _ hT7).mono ?_); rintro e w8 ⟨p2, c2, rfl, hr8, -, hb8⟩; have kF8 := kF7.below hb8; have kQ8 := kQ7.below hb8; have hr38 := rk_turn2 hr3 hb4 hT4.2 hg5 hT5.2 hg6 hb7 hb8)
            | (go_at_call 19; (with_reducible refine (hSm _ _ _ _ _ hr8 hr38).mono ?_); rintro e w9 ⟨rfl, hb9⟩; have lF9 := (kF8.below hb9).cell; have lQ9 := (kQ8.below hb9).cell))
          go_ret
          have B4 := bal (bnext (bnext hbe hb3) hb4) (.cells #[.int .u8 (b0 fr.1), .int .u8 (b1 fr.1), .int .u8 (b2 fr.1), .int .u8 (b3 fr.1), .int .i64 fr.2.1, .int .i64 fr.2.2] 42)
          have B5 := below_turn B4 hg5 B4.size hbw
          have B6 := below_turn B5 hg6 B5.size hbw
          exact ⟨rfl, bnext (bnext (bal (bnext B6 hb7) (.cells #[.int .u8 (b0 fr.1), .int .u8 (b1 fr.1), .int .u8 (b2 fr.1), .int .u8 (b3 fr.1), .int .i64 fr.2.1, .int .i64 fr.2.2] 42)) hb8) hb9⟩
        | true =>
          simp only [if_true] at hS
          go_wp2_with (first
            | (go_at_call 18; (with_reducible refine (hL _ hT).mono ?_); rintro e w3 ⟨p1, c1, rfl, hr3, -, hb3⟩; have hT3 := hT.below hb3; have kA3 := kA.below hb3; have kO3 := kO.below hb3; have lA3 := kA3.cell)
            | (go_at_call 15; (with_reducible refine (hF _ hT3).mono ?_); rintro e w4 ⟨rfl, hb4⟩; have hT4 := (hT3.below hb4).below (bnew w4 (.cells #[.int .u8 (b0 fr.1), .int .u8 (b1 fr.1), .int .u8 (b2 fr.1), .int .u8 (b3 fr.1), .int .i64 fr.2.1, .int .i64 fr.2.2] 42)); have kO4 := (kO3.below hb4).alloc (.cells #[.int .u8 (b0 fr.1), .int .u8 (b1 fr.1), .int .u8 (b2 fr.1), .int .u8 (b3 fr.1), .int .i64 fr.2.1, .int .i64 fr.2.2] 42); have kA4 := (kA3.below hb4).alloc (.cells #[.int .u8 (b0 fr.1), .int .u8 (b1 fr.1), .int .u8 (b2 fr.1), .int .u8 (b3 fr.1), .int .i64 fr.2.1, .int .i64 fr.2.2] 42); have lO4 := kO4.cell; have kF4 := Blk.new w4 #[.int .u8 (b0 fr.1), .int .u8 (b1 fr.1), .int .u8 (b2 fr.1), .int .u8 (b3 fr.1), .int .i64 fr.2.1, .int .i64 fr.2.2] 42)
            | (go_at_call 9; (with_reducible refine (hS _ hT4).mono ?_); rintro e w5 ⟨rfl, hT5, hg5⟩; have kO5 := blk_turn kO4 hT4.2 hg5; have kA5 := blk_turn kA4 hT4.2 hg5; have kF5 := blk_turn kF4 hT4.2 hg5; have lO5 := kO5.cell)
            | (go_at_call 14; (with_reducible refine (hD _ hT5).mono ?_); rintro e w6 ⟨rfl, hT6, hg6⟩; have kA6 := blk_turn kA5 hT5.2 hg6; have kF6 := blk_turn kF5 hT5.2 hg6; have lA6 := kA6.cell)
            | (go_at_call 15; (with_reducible refine (hF _ hT6).mono ?_); rintro e w7 ⟨rfl, hb7⟩; have hT7 := (hT6.below hb7).below (bnew w7 (.cells #[.int .u8 (b0 fr.1), .int .u8 (b1 fr.1), .int .u8 (b2 fr.1), .int .u8 (b3 fr.1), .int .i64 fr.2.1, .int .i64 fr.2.2] 42)); have kF7 := (kF6.below hb7).alloc (.cells #[.int .u8 (b0 fr.1), .int .u8 (b1 fr.1), .int .u8 (b2 fr.1), .int .u8 (b3 fr.1), .int .i64 fr.2.1, .int .i64 fr.2.2] 42); have kQ7 := Blk.new w7 #[.int .u8 (b0 fr.1), .int .u8 (b1 fr.1), .int .u8 (b2 fr.1), .int .u8 (b3 fr.1), .int .i64 fr.2.1, .int .i64 fr.2.2] 42)
            | (go_at_call 18; (with_reducible refine (hL _ hT7).mono ?_); rintro e w8 ⟨p2, c2, rfl, hr8, -, hb8⟩; have kF8 := kF7.below hb8; have kQ8 := kQ7.below hb8; have hr38 := rk_turn2 hr3 hb4 hT4.2 hg5 hT5.2 hg6 hb7 hb8)
            | (go_at_call 19; (with_reducible refine (hSm _ _ _ _ _ hr8 hr38).mono ?_); rintro e w9 ⟨rfl, hb9⟩; have lF9 := (kF8.below hb9).cell; have lQ9 := (kQ8.below hb9).cell))
          go_ret
          have B4 := bal (bnext (bnext hbe hb3) hb4) (.cells #[.int .u8 (b0 fr.1), .int .u8 (b1 fr.1), .int .u8 (b2 fr.1), .int .u8 (b3 fr.1), .int .i64 fr.2.1, .int .i64 fr.2.2] 42)
          have B5 := below_turn B4 hg5 B4.size hbw
          have B6 := below_turn B5 hg6 B5.size hbw
          exact ⟨rfl, bnext (bnext (bal (bnext B6 hb7) (.cells #[.int .u8 (b0 fr.1), .int .u8 (b1 fr.1), .int .u8 (b2 fr.1), .int .u8 (b3 fr.1), .int .i64 fr.2.1, .int .i64 fr.2.2] 42)) hb8) hb9⟩
end Go.Proofs.Ytdpigcfchjpofaa.Route
