/-
  RouteLongest, walked.
-/
import Derived.Test.YtdpigcfchjpofaaRouteBack
import Derived.Deep.RegionHeld
namespace Go.Proofs.Ytdpigcfchjpofaa.Route
open Go.RowKit Go.Maps Go.Proofs.Ytdpigcfchjpofaa.Mem Go.Proofs.Ytdpigcfchjpofaa.Addr

/-- A network in its box. -/
def Ns (x : Nt) (R : Nat) (W : World) : Prop := Blk W R 29 (nc x)
theorem Ns.cells {x : Nt} {R : Nat} {W : World} (h : Ns x R W) : Ns x R W ∧ W.cell? ⟨R, 0, none⟩ = some (.int .u8 (b0 x.1)) ∧ W.cell? ⟨R, 1, none⟩ = some (.int .u8 (b1 x.1)) ∧ W.cell? ⟨R, 2, none⟩ = some (.int .u8 (b2 x.1)) ∧ W.cell? ⟨R, 3, none⟩ = some (.int .u8 (b3 x.1)) ∧ W.cell? ⟨R, 4, none⟩ = some (.int .i64 x.2) := by
  unfold Ns at h
  exact ⟨h, h.cell 0, h.cell 1, h.cell 2, h.cell 3, h.cell 4⟩
theorem Ns.below {x : Nt} {R : Nat} {W W' : World} (h : Ns x R W) (k : Below W.heap.size W W') : Ns x R W' := Blk.below (cs := nc x) h k
theorem Ns.turn {x : Nt} {R b : Nat} {W W' : World} {M : List Rt} (h : Ns x R W) (hT : Tab W b M) (hg : W.grownBy W' (some b)) : Ns x R W' := blk_turn (cs := nc x) h hT hg
/-- What stands in the great question: the route that was found, a network of the list, the address. -/
def Qs (y : Nt) (j A : Nat) (q : Option Addr) (c R a : Nat) (xs : List Nt) (w W : World) : Prop := Blk W R 42 (rc (y.1, y.2, (j : Int))) ∧ Blk W a 27 [.int .u8 (b0 A), .int .u8 (b1 A), .int .u8 (b2 A), .int .u8 (b3 A)] ∧ RK nc W q c xs ∧ Below w.heap.size w W
theorem Qs.next {y : Nt} {j A : Nat} {q : Option Addr} {c R a : Nat} {xs : List Nt} {w W W' : World} (h : Qs y j A q c R a xs w W) (k : Below W.heap.size W W') : Qs y j A q c R a xs w W' :=
  ⟨h.1.below k, h.2.1.below k, h.2.2.1.below k, bnext h.2.2.2 k⟩
theorem Qs.cells {y : Nt} {j A : Nat} {bb o : Nat} {c R a : Nat} {xs : List Nt} {w W : World} (h : Qs y j A (some ⟨bb, o, none⟩) c R a xs w W) (hy : xs[j]? = some y) :
    Qs y j A (some ⟨bb, o, none⟩) c R a xs w W ∧ W.cell? ⟨R, 0, none⟩ = some (.int .u8 (b0 y.1)) ∧ W.cell? ⟨R, 1, none⟩ = some (.int .u8 (b1 y.1)) ∧ W.cell? ⟨R, 2, none⟩ = some (.int .u8 (b2 y.1)) ∧ W.cell? ⟨R, 3, none⟩ = some (.int .u8 (b3 y.1)) ∧ W.cell? ⟨R, 4, none⟩ = some (.int .i64 y.2) ∧ W.cell? ⟨R, 5, none⟩ = some (.int .i64 (j : Int)) ∧ W.cell? ⟨a, 0, none⟩ = some (.int .u8 (b0 A)) ∧ W.cell? ⟨a, 1, none⟩ = some (.int .u8 (b1 A)) ∧ W.cell? ⟨a, 2, none⟩ = some (.int .u8 (b2 A)) ∧ W.cell? ⟨a, 3, none⟩ = some (.int .u8 (b3 A)) ∧ W.cell? ⟨bb, o + j * 5, none⟩ = some (.int .u8 (b0 y.1)) ∧ W.cell? ⟨bb, o + j * 5 + 1, none⟩ = some (.int .u8 (b1 y.1)) ∧ W.cell? ⟨bb, o + j * 5 + 2, none⟩ = some (.int .u8 (b2 y.1)) ∧ W.cell? ⟨bb, o + j * 5 + 3, none⟩ = some (.int .u8 (b3 y.1)) ∧ W.cell? ⟨bb, o + j * 5 + 4, none⟩ = some (.int .i64 y.2) := by
  obtain ⟨b', o', e, _, l0, l1, l2, l3, l4⟩ := ncells h.2.2.1 hy
  simp only [Option.some.injEq, Addr.mk.injEq, and_true] at e
  obtain ⟨rfl, rfl⟩ := e
  exact ⟨h, h.1.cell 0, h.1.cell 1, h.1.cell 2, h.1.cell 3, h.1.cell 4, h.1.cell 5, h.2.1.cell 0, h.2.1.cell 1, h.2.1.cell 2, h.2.1.cell 3, l0, l1, l2, l3, l4⟩
set_option maxRecDepth 100000 in
set_option maxHeartbeats 4000000 in
theorem longest_walk (q : Option Addr) (n c : Nat) (xs : List Nt) (A : Nat) (w : World) (hxl : xs.length = n) (hr : RK nc w q c xs) (hx : ∀ k ∈ xs, NOk k) (hA : A < 4294967296) :
    Calls Try.prog 5 #[.slice q n c, adr A] w fun e w' => e = .returned (.bool true) ∧ Below w.heap.size w w' := by
  have ha := alive_any
  have hgd := guard_net
  by_cases h64 : 64 < n
  · have h64i : (64 : Int) < (n : Int) := by omega
    unfold adr
    go_enter Try.func5, Try.ntmps5
    go_wp2_with (go_at_call 10; refine (ha _).mono ?_; rintro e w1 ⟨rfl, hb1⟩)
    go_ret
    exact ⟨rfl, bnext (bnew w _) hb1⟩
  · have h64i : ¬ (64 : Int) < (n : Int) := by omega
    have hlx : xs.length ≤ 64 := by omega
    have HX : Hid (xs.length = n) := hxl
    clear hxl
    have hRt := fun x (hx : NOk x) W => ref_Right x.1 hx.1 x.2 W
    have hIn := fun x (hx : NOk x) W => ref_In A hA x.1 hx.1 x.2 W
    unfold net at hRt hIn
    unfold adr at hIn ⊢
    go_enter Try.func5, Try.ntmps5
    go_wp2_with (first
      | (go_at_call 10; refine (ha _).mono ?_; rintro e w1 ⟨rfl, hb1⟩)
      | (go_at_call 8; refine (route_New _).mono ?_; rintro e w2 ⟨g, b, rfl, hT2, hg2, hbb2, hb2⟩))
    have kA2 := ((Blk.new w #[.int .u8 (b0 A), .int .u8 (b1 A), .int .u8 (b2 A), .int .u8 (b3 A)] 27).below hb1).below hb2
    have hbw2 := bnext (bnext (bnew w (.cells #[.int .u8 (b0 A), .int .u8 (b1 A), .int .u8 (b2 A), .int .u8 (b3 A)] 27)) hb1) hb2
    have hbw : w.heap.size ≤ b := by
      have := hb1.size
      simp only [World.size_alloc] at this
      omega
    clear hb1 hb2 hg2 hbb2 ha
    go_loopw [20] (fun t wr => ∃ i : Nat, i ≤ n ∧ t = .int .i64 i ∧ TabAt wr g b (fill xs i) ∧ Blk wr w.heap.size 27 [.int .u8 (b0 A), .int .u8 (b1 A), .int .u8 (b2 A), .int .u8 (b3 A)] ∧ Below w.heap.size w wr) (fun t _ => n - (intOf t).toNat)
    case atStart => exact ⟨0, Nat.zero_le _, rfl, hT2, kA2, hbw2⟩
    case round =>
      clear hT2 kA2 hbw2
      obtain ⟨i, hin, rfl, hT, kA, hbe⟩ := hrel
      by_cases hlt : i < n
      · have hil : i < xs.length := by rw [HX.out]; exact hlt
        have hxi : xs[i]? = some xs[i] := List.getElem?_eq_getElem hil
        generalize hxe : xs[i] = x at hxi
        have hxk : NOk x := hx x (List.mem_of_getElem? hxi)
        obtain ⟨bb, o, rfl, hbl, l0, l1, l2, l3, l4⟩ := ncells (hr.below hbe) hxi
        have HS : Hid (∀ W, TabAt W g b (fill xs i) → _) := fun W hW => set_ent hx hlx hil hxi hW
        have hR1 := hRt x hxk
        clear hxe hIn
        have kA1 := kA.alloc (.cells #[.int .u8 (b0 x.1), .int .u8 (b1 x.1), .int .u8 (b2 x.1), .int .u8 (b3 x.1), .int .i64 x.2] 29)
        have hTc := hT.below (bnew wr (.cells #[.int .u8 (b0 x.1), .int .u8 (b1 x.1), .int .u8 (b2 x.1), .int .u8 (b3 x.1), .int .i64 x.2] 29))
        have hBc := hbe.alloc hbe.size (.cells #[.int .u8 (b0 x.1), .int .u8 (b1 x.1), .int .u8 (b2 x.1), .int .u8 (b3 x.1), .int .i64 x.2] 29)
        have hNc : Ns x wr.heap.size (wr.alloc (.cells #[.int .u8 (b0 x.1), .int .u8 (b1 x.1), .int .u8 (b2 x.1), .int .u8 (b3 x.1), .int .i64 x.2] 29)) := Blk.new wr _ _
        cases hri : rightN x.1 x.2 with
        | false =>
          simp only [hri, Bool.false_eq_true, if_false] at hR1 HS
          go_wp2
          generalize wr.alloc (.cells #[.int .u8 (b0 x.1), .int .u8 (b1 x.1), .int .u8 (b2 x.1), .int .u8 (b3 x.1), .int .i64 x.2] 29) = W at kA1 hTc hBc hNc ⊢
          generalize wr.heap.size = R at hNc ⊢
          replace kA1 := kA1.drew
          replace hTc := hTc.below (Below.refl _ W).drew
          replace hBc := hBc.drew
          replace hNc := hNc.below (Below.refl _ W).drew
          have F1 := hNc.cells
          go_region_held (fun W => Ns x R W ∧ W.cell? ⟨R, 0, none⟩ = some (.int .u8 (b0 x.1)) ∧ W.cell? ⟨R, 1, none⟩ = some (.int .u8 (b1 x.1)) ∧ W.cell? ⟨R, 2, none⟩ = some (.int .u8 (b2 x.1)) ∧ W.cell? ⟨R, 3, none⟩ = some (.int .u8 (b3 x.1)) ∧ W.cell? ⟨R, 4, none⟩ = some (.int .i64 x.2)) (assumption)
            (first
              | (go_at_call 9; refine (HS.out _ hTc).mono ?_; rintro e w6 ⟨rfl, hT6, hg6⟩; replace kA1 := blk_turn kA1 hTc.2 hg6; replace hNc := hNc.turn hTc.2 hg6; replace hBc := below_turn hBc hg6 hBc.size hbw; replace hTc := hT6; have F6 := hNc.cells)
              | (go_at_call 20; refine (hR1 _).mono ?_; rintro e w6 ⟨rfl, hb6⟩; replace kA1 := kA1.below hb6; replace hNc := hNc.below hb6; replace hBc := bnext hBc hb6; replace hTc := hTc.below hb6; have F6 := hNc.cells))
          all_goals go_wp2
          all_goals go_roundw
          case rel => exact ⟨i + 1, by omega, by simp, hTc, kA1, hBc⟩
          case measure => simp [intOf]; omega
        | true =>
          simp only [hri, if_true] at hR1 HS
          go_wp2
          generalize wr.alloc (.cells #[.int .u8 (b0 x.1), .int .u8 (b1 x.1), .int .u8 (b2 x.1), .int .u8 (b3 x.1), .int .i64 x.2] 29) = W at kA1 hTc hBc hNc ⊢
          generalize wr.heap.size = R at hNc ⊢
          replace kA1 := kA1.drew
          replace hTc := hTc.below (Below.refl _ W).drew
          replace hBc := hBc.drew
          replace hNc := hNc.below (Below.refl _ W).drew
          have F1 := hNc.cells
          go_region_held (fun W => Ns x R W ∧ W.cell? ⟨R, 0, none⟩ = some (.int .u8 (b0 x.1)) ∧ W.cell? ⟨R, 1, none⟩ = some (.int .u8 (b1 x.1)) ∧ W.cell? ⟨R, 2, none⟩ = some (.int .u8 (b2 x.1)) ∧ W.cell? ⟨R, 3, none⟩ = some (.int .u8 (b3 x.1)) ∧ W.cell? ⟨R, 4, none⟩ = some (.int .i64 x.2)) (assumption)
            (first
              | (go_at_call 9; refine (HS.out _ hTc).mono ?_; rintro e w6 ⟨rfl, hT6, hg6⟩; replace kA1 := blk_turn kA1 hTc.2 hg6; replace hNc := hNc.turn hTc.2 hg6; replace hBc := below_turn hBc hg6 hBc.size hbw; replace hTc := hT6; have F6 := hNc.cells)
              | (go_at_call 20; refine (hR1 _).mono ?_; rintro e w6 ⟨rfl, hb6⟩; replace kA1 := kA1.below hb6; replace hNc := hNc.below hb6; replace hBc := bnext hBc hb6; replace hTc := hTc.below hb6; have F6 := hNc.cells))
          all_goals go_wp2
          all_goals go_roundw
          case rel => exact ⟨i + 1, by omega, by simp, hTc, kA1, hBc⟩
          case measure => simp [intOf]; omega
      · have hie : i = n := by omega
        subst hie
        have hxl := HX.out
        have hF := route_Find hT hA
        have hall := fun l (hl : l < xs.length) (h : inN A (nth xs l).1 (nth xs l).2 = true) => longest_all hx hlx hl h
        have hfnd := fun r (h : findM (fill xs xs.length) A = some r) => longest_found hx hlx h
        rw [hxl] at hall hfnd
        have hM : Good (fill xs i) := good_fill hx (by omega) (by omega)
        have lA := kA.cell
        unfold adr at hF
        cases hf : findM (fill xs i) A with
        | none =>
          rw [hf] at hF
          have hnone : ∀ (l : Nat) (x : Nt), xs[l]? = some x → inN A x.1 x.2 = false := fun l x hl => by
            have hl2 : l < i := by have := (List.getElem?_eq_some_iff.1 hl).1; omega
            cases hc : inN A x.1 x.2
            · rfl
            · rw [← nth_get hl] at hc
              obtain ⟨r, h1, _⟩ := hall l hl2 hc
              rw [hf] at h1
              cases h1
          simp only [Option.getD_none, Option.isSome_none] at hF
          have HNO : Hid (∀ (l : Nat) (x : Nt), xs[l]? = some x → inN A x.1 x.2 = false) := hnone
          clear hnone hall hfnd hf hM hRt
          have hz : rc (0, 0, 0) = [.int .u8 0, .int .u8 0, .int .u8 0, .int .u8 0, .int .i64 0, .int .i64 0] := rfl
          rw [hz] at hF
          clear hz
          go_wp2_with (go_at_call 15; refine hF.mono ?_; rintro e w3 ⟨rfl, hb3⟩)
          have kA3 := (kA.below hb3).alloc (.cells #[.int .u8 0, .int .u8 0, .int .u8 0, .int .u8 0, .int .i64 0, .int .i64 0] 42)
          have hb3' := bal (bnext hbe hb3) (.cells #[.int .u8 0, .int .u8 0, .int .u8 0, .int .u8 0, .int .i64 0, .int .i64 0] 42)
          generalize w3.alloc (.cells #[.int .u8 0, .int .u8 0, .int .u8 0, .int .u8 0, .int .i64 0, .int .i64 0] 42) = W at kA3 hb3' ⊢
          go_quiet (fail)
          go_wp2
          go_loopw [72] (fun t wr => ∃ m : Nat, m ≤ i ∧ t = .int .i64 m ∧ Blk wr w.heap.size 27 [.int .u8 (b0 A), .int .u8 (b1 A), .int .u8 (b2 A), .int .u8 (b3 A)] ∧ Below w.heap.size w wr) (fun t _ => i - (intOf t).toNat)
          case atStart => exact ⟨0, Nat.zero_le _, rfl, kA3.below (bdrewN _ _), bnext hb3' (bdrewN _ _)⟩
          case round =>
            clear kA3 hb3' kA lA hT hbe hb3
            obtain ⟨m, hmi, rfl, kA4, hb4⟩ := hrel
            by_cases hlt2 : m < i
            · have hml : m < xs.length := by omega
              have hxm : xs[m]? = some xs[m] := List.getElem?_eq_getElem hml
              generalize hxe : xs[m] = x at hxm
              have hxk : NOk x := hx x (List.mem_of_getElem? hxm)
              obtain ⟨bb, o, rfl, hbl, l0, l1, l2, l3, l4⟩ := ncells (hr.below hb4) hxm
              have hI1 := hIn x hxk
              rw [HNO.out m x hxm] at hI1
              have lA4 : ∀ ob j, (wr.alloc ob).cell? ⟨w.heap.size, j, none⟩ = _ := fun ob j => (kA4.alloc ob).cell j
              clear hxe
              go_wp2_with (go_at_call 21; refine (hI1 _).mono ?_; rintro e w5 ⟨rfl, hb5⟩)
              go_roundw
              case rel => exact ⟨m + 1, by omega, by simp, (kA4.alloc _).below hb5, bnext (bal hb4 _) hb5⟩
              case measure => simp [intOf]; omega
            · have hme : m = i := by omega
              subst hme
              go_wp2
              go_ret
              exact ⟨rfl, hb4⟩
        | some r =>
          rw [hf] at hF
          obtain ⟨j, hj, hre, hrin⟩ := hfnd r hf
          have hjl : j < xs.length := by omega
          have hyj : xs[j]? = some xs[j] := List.getElem?_eq_getElem hjl
          generalize hye : xs[j] = y at hyj
          have hre2 : r = (y.1, y.2, (j : Int)) := by rw [hre, ent, nth_get hyj]
          subst hre2
          have hyk : NOk y := hx y (List.mem_of_getElem? hyj)
          have HAL : Hid (∀ (l : Nat) (x : Nt), xs[l]? = some x → inN A x.1 x.2 = true → x.2 ≤ y.2 ∧ (x = y → l ≤ j)) := fun l x hl hin => by
            have hl2 : l < i := by have := (List.getElem?_eq_some_iff.1 hl).1; omega
            rw [← nth_get hl] at hin
            obtain ⟨r', h1, h2, h3⟩ := hall l hl2 hin
            rw [hf] at h1
            obtain rfl := Option.some.inj h1
            rw [nth_get hl] at h2 h3
            exact ⟨h2, fun e => by have := h3 e; simp only at this; omega⟩
          have heq := eq_nets hyk hyk
          simp only [decide_true] at heq
          have hIy := hIn y hyk
          simp only at hrin
          rw [hrin] at hIy
          have heqx := fun x (h : NOk x) => eq_nets h hyk
          unfold net at heq heqx
          simp only [Option.getD_some, Option.isSome_some] at hF
          clear hall hfnd hf hM hRt hye hre hrin
          unfold rc at hF
          simp only at hF
          go_wp2_with (go_at_call 15; refine hF.mono ?_; rintro e w3 ⟨rfl, hb3⟩)
          have hQ0 : Qs y j A q c w3.heap.size w.heap.size xs w (w3.alloc (.cells #[.int .u8 (b0 y.1), .int .u8 (b1 y.1), .int .u8 (b2 y.1), .int .u8 (b3 y.1), .int .i64 y.2, .int .i64 (j : Int)] 42)) :=
            ⟨Blk.new w3 _ _, (kA.below hb3).alloc _, (hr.below (bnext hbe hb3)).alloc _, bal (bnext hbe hb3) _⟩
          generalize w3.alloc (.cells #[.int .u8 (b0 y.1), .int .u8 (b1 y.1), .int .u8 (b2 y.1), .int .u8 (b3 y.1), .int .i64 y.2, .int .i64 (j : Int)] 42) = W at hQ0 ⊢
          generalize w3.heap.size = R at hQ0 ⊢
          have hj1 : (j : Int) < (i : Int) := by omega
          have hj2 : decide ((j : Int) < 0) = false := by simp
          have hj3 : decide ((i : Int) ≤ (j : Int)) = false := by simp; omega
          have hj4 : decide (i ≤ j) = false := by simp; omega
          clear hF hb3 hT kA lA hbe HX
          obtain ⟨bb, o, rfl, -⟩ := ncells hQ0.2.2.1 hyj
          have hQ1 := hQ0.next (Below.refl _ W).drew
          have F1 := hQ1.cells hyj
          go_region_held (fun W => Qs y j A (some ⟨bb, o, none⟩) c R w.heap.size xs w W ∧ W.cell? ⟨R, 0, none⟩ = some (.int .u8 (b0 y.1)) ∧ W.cell? ⟨R, 1, none⟩ = some (.int .u8 (b1 y.1)) ∧ W.cell? ⟨R, 2, none⟩ = some (.int .u8 (b2 y.1)) ∧ W.cell? ⟨R, 3, none⟩ = some (.int .u8 (b3 y.1)) ∧ W.cell? ⟨R, 4, none⟩ = some (.int .i64 y.2) ∧ W.cell? ⟨R, 5, none⟩ = some (.int .i64 (j : Int)) ∧ W.cell? ⟨w.heap.size, 0, none⟩ = some (.int .u8 (b0 A)) ∧ W.cell? ⟨w.heap.size, 1, none⟩ = some (.int .u8 (b1 A)) ∧ W.cell? ⟨w.heap.size, 2, none⟩ = some (.int .u8 (b2 A)) ∧ W.cell? ⟨w.heap.size, 3, none⟩ = some (.int .u8 (b3 A)) ∧ W.cell? ⟨bb, o + j * 5, none⟩ = some (.int .u8 (b0 y.1)) ∧ W.cell? ⟨bb, o + j * 5 + 1, none⟩ = some (.int .u8 (b1 y.1)) ∧ W.cell? ⟨bb, o + j * 5 + 2, none⟩ = some (.int .u8 (b2 y.1)) ∧ W.cell? ⟨bb, o + j * 5 + 3, none⟩ = some (.int .u8 (b3 y.1)) ∧ W.cell? ⟨bb, o + j * 5 + 4, none⟩ = some (.int .i64 y.2)) (assumption) ((go_at_call 21; refine (hIy _).mono ?_; rintro e w6 ⟨rfl, hb6⟩; replace hQ1 := hQ1.next hb6; have F6 := hQ1.cells hyj))
          clear F1 F6 hQ0 heq hIy
          go_wp2
          go_loopw [72] (fun t wr => ∃ m : Nat, m ≤ i ∧ t = .int .i64 m ∧ Qs y j A (some ⟨bb, o, none⟩) c R w.heap.size xs w wr) (fun t _ => i - (intOf t).toNat)
          case atStart => exact ⟨0, Nat.zero_le _, rfl, hQ1⟩
          case round =>
            clear hQ1
            obtain ⟨m, hmi, rfl, hQ⟩ := hrel
            by_cases hlt2 : m < i
            · have hml : m < xs.length := by omega
              have hxm : xs[m]? = some xs[m] := List.getElem?_eq_getElem hml
              generalize hxe : xs[m] = x at hxm
              have hxk : NOk x := hx x (List.mem_of_getElem? hxm)
              obtain ⟨bb', o', he', hbl, l0, l1, l2, l3, l4⟩ := ncells hQ.2.2.1 hxm
              simp only [Option.some.injEq, Addr.mk.injEq, and_true] at he'
              obtain ⟨rfl, rfl⟩ := he'
              have hI1 := hIn x hxk
              have hex := heqx x hxk
              have lA4 : ∀ ob j, (wr.alloc ob).cell? ⟨w.heap.size, j, none⟩ = _ := fun ob j => (hQ.2.1.alloc ob).cell j
              have HAx := fun h => HAL.out m x hxm h
              clear hxe heqx
              cases hin2 : inN A x.1 x.2 with
              | false =>
                rw [hin2] at hI1
                clear HAx
                go_wp2_with (go_at_call 21; refine (hI1 _).mono ?_; rintro e w5 ⟨rfl, hb5⟩)
                go_roundw
                case rel => exact ⟨m + 1, by omega, by simp, (hQ.next (bnew _ _)).next hb5⟩
                case measure => simp [intOf]; omega
              | true =>
                rw [hin2] at hI1
                obtain ⟨hle, hsame⟩ := HAx hin2
                have hd1 : decide (y.2 < x.2) = false := by simp; omega
                by_cases hxy : x = y
                · have hmj := hsame hxy
                  have hd2 : decide (x = y) = true := decide_eq_true hxy
                  simp only [hd2] at hex
                  have hd3 : decide ((j : Int) < (m : Int)) = false := by simp; omega
                  have hd4 : decide (j < m) = false := by simp; omega
                  clear hxy hsame hd2 hle
                  go_wp2_with (go_at_call 21; refine (hI1 _).mono ?_; rintro e w5 ⟨rfl, hb5⟩; have lR5 := ((hQ.next (bnew _ _)).next hb5).1.cell; have lN5 := ((Blk.new wr _ _).below hb5).cell; unfold rc at lR5)
                  go_roundw
                  case rel => exact ⟨m + 1, by omega, by simp, (hQ.next (bnew _ _)).next hb5⟩
                  case measure => simp [intOf]; omega
                · have hd2 : decide (x = y) = false := decide_eq_false hxy
                  simp only [hd2] at hex
                  clear hxy hsame hd2 hle
                  go_wp2_with (go_at_call 21; refine (hI1 _).mono ?_; rintro e w5 ⟨rfl, hb5⟩; have lR5 := ((hQ.next (bnew _ _)).next hb5).1.cell; have lN5 := ((Blk.new wr _ _).below hb5).cell; unfold rc at lR5)
                  go_roundw
                  case rel => exact ⟨m + 1, by omega, by simp, (hQ.next (bnew _ _)).next hb5⟩
                  case measure => simp [intOf]; omega
            · have hme : m = i := by omega
              subst hme
              go_wp2
              go_ret
              exact ⟨rfl, hQ.2.2.2⟩
end Go.Proofs.Ytdpigcfchjpofaa.Route
