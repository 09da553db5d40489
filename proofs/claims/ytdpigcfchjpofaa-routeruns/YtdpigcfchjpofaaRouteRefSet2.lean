/-
  The document's answers, as they are typed out: Set. (Written by gen_rset.py.)
-/
import Derived.Test.YtdpigcfchjpofaaRouteRefSet
namespace Go.Proofs.Ytdpigcfchjpofaa.Route
open Go.RowKit Go.Maps Go.Proofs.Ytdpigcfchjpofaa.Mem Go.Proofs.Ytdpigcfchjpofaa.Addr
set_option linter.unusedVariables false

/-- What stands all along: the rest of the routes, and the new one in its box. -/
def Ss (L : List Rt) (r : Rt) (g c R : Nat) (w W : World) : Prop := RK rc W (some ⟨g, 0, none⟩) c L ∧ Blk W R 42 (rc r) ∧ Below w.heap.size w W
theorem Ss.next {L : List Rt} {r : Rt} {g c R : Nat} {w W W' : World} (h : Ss L r g c R w W) (k : Below W.heap.size W W') : Ss L r g c R w W' := ⟨h.1.below k, h.2.1.below k, bnext h.2.2 k⟩
theorem Ss.cells {L : List Rt} {r x : Rt} {g c R i : Nat} {w W : World} (h : Ss L r g c R w W) (hx : L[i]? = some x) :
    Ss L r g c R w W ∧ W.cell? ⟨g, i * 6, none⟩ = some (.int .u8 (b0 x.1)) ∧ W.cell? ⟨g, i * 6 + 1, none⟩ = some (.int .u8 (b1 x.1)) ∧ W.cell? ⟨g, i * 6 + 2, none⟩ = some (.int .u8 (b2 x.1)) ∧ W.cell? ⟨g, i * 6 + 3, none⟩ = some (.int .u8 (b3 x.1)) ∧ W.cell? ⟨g, i * 6 + 4, none⟩ = some (.int .i64 x.2.1) ∧ W.cell? ⟨g, i * 6 + 5, none⟩ = some (.int .i64 x.2.2) ∧ W.cell? ⟨R, 0, none⟩ = some (.int .u8 (b0 r.1)) ∧ W.cell? ⟨R, 1, none⟩ = some (.int .u8 (b1 r.1)) ∧ W.cell? ⟨R, 2, none⟩ = some (.int .u8 (b2 r.1)) ∧ W.cell? ⟨R, 3, none⟩ = some (.int .u8 (b3 r.1)) ∧ W.cell? ⟨R, 4, none⟩ = some (.int .i64 r.2.1) ∧ W.cell? ⟨R, 5, none⟩ = some (.int .i64 r.2.2) := by
  obtain ⟨b, o, e, _, l0, l1, l2, l3, l4, l5⟩ := rcells h.1 hx
  simp only [Option.some.injEq, Addr.mk.injEq, and_true] at e
  obtain ⟨rfl, rfl⟩ := e
  simp only [Nat.zero_add] at l0 l1 l2 l3 l4 l5
  exact ⟨h, l0, l1, l2, l3, l4, l5, h.2.1.cell 0, h.2.1.cell 1, h.2.1.cell 2, h.2.1.cell 3, h.2.1.cell 4, h.2.1.cell 5⟩
/-- What stands at a place is no longer ahead. -/
def Stop (L : List Rt) (k : Nt) (i : Nat) : Prop := ∀ x, L[i]? = some x → ltK (kof x) k = false
theorem ins_eq {M : List Rt} {r : Rt} {i : Nat} (h1 : Ahead (delM M (kof r)) (kof r) i) (h2 : ∀ x, (delM M (kof r))[i]? = some x → ltK (kof x) (kof r) = false) : insM M r = (delM M (kof r)).take i ++ [r] ++ (delM M (kof r)).drop i := by
  obtain ⟨e1, e2⟩ := ahead_cut h1 h2
  unfold insM
  rw [e1, e2]
  simp
set_option maxRecDepth 100000 in
theorem rref_SetNo {w : World} {p : Option Addr} {c : Nat} {M : List Rt} (h : RK rc w p c M) (hM : Good M) (hl : M.length ≤ 64) {r : Rt} (hr : ROk r) (hno : setOk M r = false) :
    Calls Try.prog 12 #[.slice p M.length c, net r.1 r.2.1, .int .i64 r.2.2] w fun e w' => e = .returned (.tuple #[.slice p M.length c, .int .i64 61]) ∧ Below w.heap.size w w' := by
  have hD := fun W (q : RK rc W p c M) => rref_Delete q hM (by omega) hr.1
  have hR := fun W => ref_Right r.1 hr.1.1 r.2.1 W
  simp only [kof] at hD
  obtain ⟨n, hn⟩ : ∃ n, n = M.length := ⟨_, rfl⟩
  have HN : Hid (n = M.length) := hn
  rw [← hn] at hD hl ⊢
  clear hn
  have hk1 := new5 w (.int .u8 (b0 r.1)) (.int .u8 (b1 r.1)) (.int .u8 (b2 r.1)) (.int .u8 (b3 r.1)) (.int .i64 r.2.1) 29
  have hno2 := hno
  simp only [setOk, kof] at hno2
  obtain ⟨m, hm⟩ : ∃ m, m = (delM M (r.1, r.2.1)).length := ⟨_, rfl⟩
  have HM : Hid (m = (delM M (r.1, r.2.1)).length) := hm
  rw [← hm] at hD
  clear hm hno
  generalize hasM M (r.1, r.2.1) = there at hD hno2
  rw [← HN.out] at hno2
  unfold net at hD hR ⊢
  cases hri : rightN r.1 r.2.1 with
  | false =>
    simp only [hri] at hR
    clear hno2
    go_enter Try.func12, Try.ntmps12
    go_wp2_with (first
      | (go_at_call 13; refine (hD _ (h.alloc _)).mono ?_; rintro e w1 ⟨g, c1, rfl, hr1, hg1, hb1⟩; obtain ⟨⟨k0, k1, k2, k3, -, -, -, -, -⟩, k4, -⟩ := hk1.below hb1)
      | (go_at_call 20; refine (hR _).mono ?_; rintro e w2 ⟨rfl, hb2⟩))
    go_ret2
    exact ⟨rfl, bnext (bnext (bnew w _) hb1) hb2⟩
  | true =>
    simp only [hri, Bool.true_and] at hR hno2
    by_cases hw : r.2.2 < 0
    · clear hno2
      go_enter Try.func12, Try.ntmps12
      go_wp2_with (first
        | (go_at_call 13; refine (hD _ (h.alloc _)).mono ?_; rintro e w1 ⟨g, c1, rfl, hr1, hg1, hb1⟩; obtain ⟨⟨k0, k1, k2, k3, -, -, -, -, -⟩, k4, -⟩ := hk1.below hb1)
        | (go_at_call 20; refine (hR _).mono ?_; rintro e w2 ⟨rfl, hb2⟩))
      go_ret2
      exact ⟨rfl, bnext (bnext (bnew w _) hb1) hb2⟩
    · have hw2 : decide (0 ≤ r.2.2) = true := decide_eq_true (by omega)
      rw [hw2, Bool.true_and, Bool.or_eq_false_iff] at hno2
      obtain ⟨rfl, hno3⟩ := hno2
      have h64 : 64 ≤ n := by simpa using hno3
      have h64i : (64 : Int) ≤ (n : Int) := by omega
      clear hno3 hw2
      go_enter Try.func12, Try.ntmps12
      go_wp2_with (first
        | (go_at_call 13; refine (hD _ (h.alloc _)).mono ?_; rintro e w1 ⟨g, c1, rfl, hr1, hg1, hb1⟩; obtain ⟨⟨k0, k1, k2, k3, -, -, -, -, -⟩, k4, -⟩ := hk1.below hb1)
        | (go_at_call 20; refine (hR _).mono ?_; rintro e w2 ⟨rfl, hb2⟩))
      go_ret2
      exact ⟨rfl, bnext (bnext (bnew w _) hb1) hb2⟩
set_option maxRecDepth 100000 in
set_option maxHeartbeats 4000000 in
theorem rref_SetYes (there : Bool) {w : World} {p : Option Addr} {c n m : Nat} {M L : List Rt} (h : RK rc w p c M) {r : Rt} (hr : ROk r) (hL : ∀ x ∈ L, ROk x) (HM : Hid (m = L.length)) (hm : m ≤ 64) (hri : rightN r.1 r.2.1 = true) (hw : 0 ≤ r.2.2) (hth : there = true ∨ n < 64)
    (hD : ∀ W, RK rc W p c M → Calls Try.prog 13 #[.slice p n c, net r.1 r.2.1] W fun e w' => ∃ g c', e = .returned (.tuple #[.slice (some ⟨g, 0, none⟩) m c', .bool there]) ∧ RK rc w' (some ⟨g, 0, none⟩) c' L ∧ W.heap.size ≤ g ∧ Below W.heap.size W w') :
    Calls Try.prog 12 #[.slice p n c, net r.1 r.2.1, .int .i64 r.2.2] w fun e w' => ∃ p' c', e = .returned (.tuple #[.slice p' (m + 1) c', .int .i64 0]) ∧ (∃ i, Ahead L (kof r) i ∧ Stop L (kof r) i ∧ RK rc w' p' c' (L.take i ++ [r] ++ L.drop i)) ∧ Below w.heap.size w w' := by
  obtain ⟨i0, hi, hz0, hz1, hz2⟩ := info_parts info_route
  have hR := fun W => ref_Right r.1 hr.1.1 r.2.1 W
  have hB := fun x (hx : ROk x) W => rref_Before x r hx hr W
  simp only [hri] at hR
  have hk1 := new5 w (.int .u8 (b0 r.1)) (.int .u8 (b1 r.1)) (.int .u8 (b2 r.1)) (.int .u8 (b3 r.1)) (.int .i64 r.2.1) 29
  have hw1 : ¬ r.2.2 < 0 := by omega
  unfold net at hD hR ⊢
  cases there with
  | true =>
    clear hth
    go_enter Try.func12, Try.ntmps12
    go_wp2_with (first
      | (go_at_call 13; refine (hD _ (h.alloc _)).mono ?_; rintro e w1 ⟨g, c1, rfl, hr1, hg1, hb1⟩; obtain ⟨⟨k0, k1, k2, k3, -, -, -, -, -⟩, k4, -⟩ := hk1.below hb1)
      | (go_at_call 20; refine (hR _).mono ?_; rintro e w2 ⟨rfl, hb2⟩; obtain ⟨⟨n0, n1, n2, n3, -, -, -, -, -⟩, n4, -⟩ := (hk1.below hb1).below hb2))
    have hS0 : Ss L r g c1 w2.heap.size w (w2.alloc (.cells #[.int .u8 (b0 r.1), .int .u8 (b1 r.1), .int .u8 (b2 r.1), .int .u8 (b3 r.1), .int .i64 r.2.1, .int .i64 r.2.2] 42)) :=
      ⟨(hr1.below hb2).alloc _, Blk.new w2 _ _, bal (bnext (bnext (bnew w _) hb1) hb2) _⟩
    obtain ⟨R, hRe⟩ : ∃ R, R = w2.heap.size := ⟨_, rfl⟩
    rw [← hRe] at hS0 ⊢
    generalize w2.alloc (.cells #[.int .u8 (b0 r.1), .int .u8 (b1 r.1), .int .u8 (b2 r.1), .int .u8 (b3 r.1), .int .i64 r.2.1, .int .i64 r.2.2] 42) = W at hS0 ⊢
    clear hRe k0 k1 k2 k3 k4 n0 n1 n2 n3 n4 hr1 hb1 hb2 hk1 hR
    go_loopw [11] (fun t wr => ∃ i : Nat, i ≤ m ∧ t = .int .i64 i ∧ Hid (Ahead L (kof r) i) ∧ Ss L r g c1 R w wr) (fun t _ => m - (intOf t).toNat)
    case atStart => exact ⟨0, Nat.zero_le _, rfl, ⟨Nat.zero_le _, fun j x hj => by omega⟩, hS0⟩
    case round =>
      obtain ⟨i, hin, rfl, HA, hS⟩ := hrel
      clear hS0
      by_cases hlt : i < m
      · have hi1 : (i : Int) < (m : Int) := by omega
        have hLl : i < L.length := by have := HM.out; omega
        have hx : L[i]? = some L[i] := List.getElem?_eq_getElem hLl
        generalize hxe : L[i] = x at hx
        have hB1 := hB x (hL x (List.mem_of_getElem? hx))
        unfold rc at hB1
        clear hxe hLl
        cases hbf : ltK (kof x) (kof r) with
        | true =>
          rw [hbf] at hB1
          have S1 := hS.next (Below.refl _ wr).drew
          have F1 := S1.cells hx
          go_wp2
          go_region_held (fun W => Ss L r g c1 R w W ∧ W.cell? ⟨g, i * 6, none⟩ = some (.int .u8 (b0 x.1)) ∧ W.cell? ⟨g, i * 6 + 1, none⟩ = some (.int .u8 (b1 x.1)) ∧ W.cell? ⟨g, i * 6 + 2, none⟩ = some (.int .u8 (b2 x.1)) ∧ W.cell? ⟨g, i * 6 + 3, none⟩ = some (.int .u8 (b3 x.1)) ∧ W.cell? ⟨g, i * 6 + 4, none⟩ = some (.int .i64 x.2.1) ∧ W.cell? ⟨g, i * 6 + 5, none⟩ = some (.int .i64 x.2.2) ∧ W.cell? ⟨R, 0, none⟩ = some (.int .u8 (b0 r.1)) ∧ W.cell? ⟨R, 1, none⟩ = some (.int .u8 (b1 r.1)) ∧ W.cell? ⟨R, 2, none⟩ = some (.int .u8 (b2 r.1)) ∧ W.cell? ⟨R, 3, none⟩ = some (.int .u8 (b3 r.1)) ∧ W.cell? ⟨R, 4, none⟩ = some (.int .i64 r.2.1) ∧ W.cell? ⟨R, 5, none⟩ = some (.int .i64 r.2.2)) (assumption) (((with_reducible refine (hB1 _).mono ?_); rintro e w6 ⟨rfl, hb6⟩; replace S1 := S1.next hb6; have F6 := S1.cells hx))
          go_wp2
          go_roundw
          case rel => exact ⟨i + 1, by omega, by simp, ⟨by have := HM.out; omega, fun j y hj hy => by
            rcases Nat.lt_or_ge j i with hji | hji
            · exact HA.out.2 j y hji hy
            · obtain rfl : j = i := by omega
              rw [hx] at hy
              obtain rfl := Option.some.inj hy
              exact hbf⟩, S1⟩
          case measure => simp [intOf]; omega
        | false =>
          rw [hbf] at hB1
          have S1 := hS.next (Below.refl _ wr).drew
          have F1 := S1.cells hx
          have HE : Hid (Stop L (kof r) i) := fun y hy => by rw [hx] at hy; obtain rfl := Option.some.inj hy; exact hbf
          go_wp2
          go_region_held (fun W => Ss L r g c1 R w W ∧ W.cell? ⟨g, i * 6, none⟩ = some (.int .u8 (b0 x.1)) ∧ W.cell? ⟨g, i * 6 + 1, none⟩ = some (.int .u8 (b1 x.1)) ∧ W.cell? ⟨g, i * 6 + 2, none⟩ = some (.int .u8 (b2 x.1)) ∧ W.cell? ⟨g, i * 6 + 3, none⟩ = some (.int .u8 (b3 x.1)) ∧ W.cell? ⟨g, i * 6 + 4, none⟩ = some (.int .i64 x.2.1) ∧ W.cell? ⟨g, i * 6 + 5, none⟩ = some (.int .i64 x.2.2) ∧ W.cell? ⟨R, 0, none⟩ = some (.int .u8 (b0 r.1)) ∧ W.cell? ⟨R, 1, none⟩ = some (.int .u8 (b1 r.1)) ∧ W.cell? ⟨R, 2, none⟩ = some (.int .u8 (b2 r.1)) ∧ W.cell? ⟨R, 3, none⟩ = some (.int .u8 (b3 r.1)) ∧ W.cell? ⟨R, 4, none⟩ = some (.int .i64 r.2.1) ∧ W.cell? ⟨R, 5, none⟩ = some (.int .i64 r.2.2)) (assumption) (((with_reducible refine (hB1 _).mono ?_); rintro e w6 ⟨rfl, hb6⟩; replace S1 := S1.next hb6; have F6 := S1.cells hx))
          clear F1 F6 hS hB1 hB hbf hx
          have hS := S1
          have hup := fun W => run_upto_r W g 0 m c1 i (by have := hS.1.1; have := HM.out; omega)
          have hfr := fun W => run_from_r W (some ⟨g, 0, none⟩) m c1 i hin
          have hin2 : i ≤ L.length := by rw [← HM.out]; exact hin
          have hlt5 := (hS.1.upto rc_len i).alloc (.cells #[] 42)
          have hcut := hS.1.cut rc_len i hin2
          have hown0 := World.ownsRow_lit (base := w6.heap.size) (e := 42) (size := 6) w6 #[] 0 (Nat.le_refl _) (by decide) rfl
          have ltk : (L.take i).length = i := by rw [List.length_take]; omega
          have ldr : (L.drop i).length = m - i := by rw [List.length_drop, ← HM.out]
          have hRl := hS.2.1.lt
          have bel0 := bnew w6 (.cells #[] 42)
          have LTK : Hid ((L.take i).length = i) := ltk
          have LDR : Hid ((L.drop i).length = m - i) := ldr
          clear hD ltk ldr
          go_wp2_with (first
            | (at_builtin; refine wpList_append_rk rc_len (by decide) rc_one _ rfl (.tmp 53) (.tmp 56) 33 rfl w6.heap.size 42 i0 _ 24 Try.underlying33 hi hz0 hz1 hz2 rfl (.slice (some ⟨w6.heap.size, 0, none⟩) 0 0) 0 [] rfl hown0 (some ⟨g, 0, none⟩) i c1 (L.take i) rfl LTK.out hlt5 (by omega) (by omega) bel0.size ?_; intro v1 wa hown5 hg5; have bel5 := bel0.grown hg5 bel0.size (fun j hj => (hown0.lt j hj).1); have kr5 := hS.2.1.below bel5; have lr5 := kr5.cell; unfold rc at lr5)
            | (at_builtin; refine wpList_append_rk rc_len (by decide) rc_one _ rfl (.tmp 58) (.tmp 60) 33 rfl w6.heap.size 42 i0 _ 24 Try.underlying33 hi hz0 hz1 hz2 rfl v1 (0 + i) _ rfl (hown5.alloc _) (some ⟨wa.heap.size, 0, none⟩) 1 1 [r] rfl rfl (lit_rk rfl) (by omega) (by omega) (Nat.le_trans bel5.size (bnew wa _).size) ?_; intro v2 wb hown6 hg6; have bel6 := (bel5.alloc bel5.size _).grown hg6 (Nat.le_trans bel5.size (bnew wa _).size) (fun j hj => (hown5.lt j hj).1))
            | (at_builtin; refine wpList_append_rk rc_len (by decide) rc_one _ rfl (.tmp 62) (.tmp 65) 33 rfl w6.heap.size 42 i0 _ 24 Try.underlying33 hi hz0 hz1 hz2 rfl v2 (0 + i + 1) _ rfl hown6 (cutK 6 (some ⟨g, 0, none⟩) c1 i) (m - i) (c1 - i) (L.drop i) rfl LDR.out (hcut.below bel6) (by omega) (by omega) bel6.size ?_; intro v3 wc hown7 hg7; have bel7 := bel6.grown hg7 bel6.size (fun j hj => (hown6.lt j hj).1)))
          obtain ⟨p', c', rfl, hrk, -⟩ := own_rk rc_len (by decide) hown7
          have hlen : ([] ++ L.take i ++ [r] ++ L.drop i).length = m + 1 := by
            simp only [List.length_append, List.length_nil, List.length_cons, LTK.out, LDR.out]; omega
          rw [hlen]
          go_ret2
          exact ⟨p', c', rfl, ⟨i, HA.out, HE.out, by simpa using hrk⟩, bnext hS.2.2 bel7⟩
      · have him : i = m := by omega
        have HE : Hid (Stop L (kof r) i) := fun y hy => by
          have := (List.getElem?_eq_some_iff.1 hy).1
          have := HM.out
          omega
        have hi1 : decide ((i : Int) < (m : Int)) = false := by simp; omega
        have hi2 : decide (i < m) = false := by simp; omega
        clear him hB
        go_wp2
        go_quiet (fail)
        have hS1 := hS.next (bdrewN wr nq)
        generalize wr.drewN nq = wq at hS1 ⊢
        clear hS
        have hS := hS1
        have hup := fun W => run_upto_r W g 0 m c1 i (by have := hS.1.1; have := HM.out; omega)
        have hfr := fun W => run_from_r W (some ⟨g, 0, none⟩) m c1 i hin
        have hin2 : i ≤ L.length := by rw [← HM.out]; exact hin
        have hlt5 := (hS.1.upto rc_len i).alloc (.cells #[] 42)
        have hcut := hS.1.cut rc_len i hin2
        have hown0 := World.ownsRow_lit (base := wq.heap.size) (e := 42) (size := 6) wq #[] 0 (Nat.le_refl _) (by decide) rfl
        have ltk : (L.take i).length = i := by rw [List.length_take]; omega
        have ldr : (L.drop i).length = m - i := by rw [List.length_drop, ← HM.out]
        have hRl := hS.2.1.lt
        have bel0 := bnew wq (.cells #[] 42)
        have LTK : Hid ((L.take i).length = i) := ltk
        have LDR : Hid ((L.drop i).length = m - i) := ldr
        clear hD ltk ldr
        go_wp2_with (first
          | (at_builtin; refine wpList_append_rk rc_len (by decide) rc_one _ rfl (.tmp 53) (.tmp 56) 33 rfl wq.heap.size 42 i0 _ 24 Try.underlying33 hi hz0 hz1 hz2 rfl (.slice (some ⟨wq.heap.size, 0, none⟩) 0 0) 0 [] rfl hown0 (some ⟨g, 0, none⟩) i c1 (L.take i) rfl LTK.out hlt5 (by omega) (by omega) bel0.size ?_; intro v1 wa hown5 hg5; have bel5 := bel0.grown hg5 bel0.size (fun j hj => (hown0.lt j hj).1); have kr5 := hS.2.1.below bel5; have lr5 := kr5.cell; unfold rc at lr5)
          | (at_builtin; refine wpList_append_rk rc_len (by decide) rc_one _ rfl (.tmp 58) (.tmp 60) 33 rfl wq.heap.size 42 i0 _ 24 Try.underlying33 hi hz0 hz1 hz2 rfl v1 (0 + i) _ rfl (hown5.alloc _) (some ⟨wa.heap.size, 0, none⟩) 1 1 [r] rfl rfl (lit_rk rfl) (by omega) (by omega) (Nat.le_trans bel5.size (bnew wa _).size) ?_; intro v2 wb hown6 hg6; have bel6 := (bel5.alloc bel5.size _).grown hg6 (Nat.le_trans bel5.size (bnew wa _).size) (fun j hj => (hown5.lt j hj).1))
          | (at_builtin; refine wpList_append_rk rc_len (by decide) rc_one _ rfl (.tmp 62) (.tmp 65) 33 rfl wq.heap.size 42 i0 _ 24 Try.underlying33 hi hz0 hz1 hz2 rfl v2 (0 + i + 1) _ rfl hown6 (cutK 6 (some ⟨g, 0, none⟩) c1 i) (m - i) (c1 - i) (L.drop i) rfl LDR.out (hcut.below bel6) (by omega) (by omega) bel6.size ?_; intro v3 wc hown7 hg7; have bel7 := bel6.grown hg7 bel6.size (fun j hj => (hown6.lt j hj).1)))
        obtain ⟨p', c', rfl, hrk, -⟩ := own_rk rc_len (by decide) hown7
        have hlen : ([] ++ L.take i ++ [r] ++ L.drop i).length = m + 1 := by
          simp only [List.length_append, List.length_nil, List.length_cons, LTK.out, LDR.out]; omega
        rw [hlen]
        go_ret2
        exact ⟨p', c', rfl, ⟨i, HA.out, HE.out, by simpa using hrk⟩, bnext hS.2.2 bel7⟩
  | false =>
    have h64 : ¬ (64 : Int) ≤ (n : Int) := by rcases hth with h | h; (cases h); omega
    clear hth
    go_enter Try.func12, Try.ntmps12
    go_wp2_with (first
      | (go_at_call 13; refine (hD _ (h.alloc _)).mono ?_; rintro e w1 ⟨g, c1, rfl, hr1, hg1, hb1⟩; obtain ⟨⟨k0, k1, k2, k3, -, -, -, -, -⟩, k4, -⟩ := hk1.below hb1)
      | (go_at_call 20; refine (hR _).mono ?_; rintro e w2 ⟨rfl, hb2⟩; obtain ⟨⟨n0, n1, n2, n3, -, -, -, -, -⟩, n4, -⟩ := (hk1.below hb1).below hb2))
    have hS0 : Ss L r g c1 w2.heap.size w (w2.alloc (.cells #[.int .u8 (b0 r.1), .int .u8 (b1 r.1), .int .u8 (b2 r.1), .int .u8 (b3 r.1), .int .i64 r.2.1, .int .i64 r.2.2] 42)) :=
      ⟨(hr1.below hb2).alloc _, Blk.new w2 _ _, bal (bnext (bnext (bnew w _) hb1) hb2) _⟩
    obtain ⟨R, hRe⟩ : ∃ R, R = w2.heap.size := ⟨_, rfl⟩
    rw [← hRe] at hS0 ⊢
    generalize w2.alloc (.cells #[.int .u8 (b0 r.1), .int .u8 (b1 r.1), .int .u8 (b2 r.1), .int .u8 (b3 r.1), .int .i64 r.2.1, .int .i64 r.2.2] 42) = W at hS0 ⊢
    clear hRe k0 k1 k2 k3 k4 n0 n1 n2 n3 n4 hr1 hb1 hb2 hk1 hR
    go_loopw [11] (fun t wr => ∃ i : Nat, i ≤ m ∧ t = .int .i64 i ∧ Hid (Ahead L (kof r) i) ∧ Ss L r g c1 R w wr) (fun t _ => m - (intOf t).toNat)
    case atStart => exact ⟨0, Nat.zero_le _, rfl, ⟨Nat.zero_le _, fun j x hj => by omega⟩, hS0⟩
    case round =>
      obtain ⟨i, hin, rfl, HA, hS⟩ := hrel
      clear hS0
      by_cases hlt : i < m
      · have hi1 : (i : Int) < (m : Int) := by omega
        have hLl : i < L.length := by have := HM.out; omega
        have hx : L[i]? = some L[i] := List.getElem?_eq_getElem hLl
        generalize hxe : L[i] = x at hx
        have hB1 := hB x (hL x (List.mem_of_getElem? hx))
        unfold rc at hB1
        clear hxe hLl
        cases hbf : ltK (kof x) (kof r) with
        | true =>
          rw [hbf] at hB1
          have S1 := hS.next (Below.refl _ wr).drew
          have F1 := S1.cells hx
          go_wp2
          go_region_held (fun W => Ss L r g c1 R w W ∧ W.cell? ⟨g, i * 6, none⟩ = some (.int .u8 (b0 x.1)) ∧ W.cell? ⟨g, i * 6 + 1, none⟩ = some (.int .u8 (b1 x.1)) ∧ W.cell? ⟨g, i * 6 + 2, none⟩ = some (.int .u8 (b2 x.1)) ∧ W.cell? ⟨g, i * 6 + 3, none⟩ = some (.int .u8 (b3 x.1)) ∧ W.cell? ⟨g, i * 6 + 4, none⟩ = some (.int .i64 x.2.1) ∧ W.cell? ⟨g, i * 6 + 5, none⟩ = some (.int .i64 x.2.2) ∧ W.cell? ⟨R, 0, none⟩ = some (.int .u8 (b0 r.1)) ∧ W.cell? ⟨R, 1, none⟩ = some (.int .u8 (b1 r.1)) ∧ W.cell? ⟨R, 2, none⟩ = some (.int .u8 (b2 r.1)) ∧ W.cell? ⟨R, 3, none⟩ = some (.int .u8 (b3 r.1)) ∧ W.cell? ⟨R, 4, none⟩ = some (.int .i64 r.2.1) ∧ W.cell? ⟨R, 5, none⟩ = some (.int .i64 r.2.2)) (assumption) (((with_reducible refine (hB1 _).mono ?_); rintro e w6 ⟨rfl, hb6⟩; replace S1 := S1.next hb6; have F6 := S1.cells hx))
          go_wp2
          go_roundw
          case rel => exact ⟨i + 1, by omega, by simp, ⟨by have := HM.out; omega, fun j y hj hy => by
            rcases Nat.lt_or_ge j i with hji | hji
            · exact HA.out.2 j y hji hy
            · obtain rfl : j = i := by omega
              rw [hx] at hy
              obtain rfl := Option.some.inj hy
              exact hbf⟩, S1⟩
          case measure => simp [intOf]; omega
        | false =>
          rw [hbf] at hB1
          have S1 := hS.next (Below.refl _ wr).drew
          have F1 := S1.cells hx
          have HE : Hid (Stop L (kof r) i) := fun y hy => by rw [hx] at hy; obtain rfl := Option.some.inj hy; exact hbf
          go_wp2
          go_region_held (fun W => Ss L r g c1 R w W ∧ W.cell? ⟨g, i * 6, none⟩ = some (.int .u8 (b0 x.1)) ∧ W.cell? ⟨g, i * 6 + 1, none⟩ = some (.int .u8 (b1 x.1)) ∧ W.cell? ⟨g, i * 6 + 2, none⟩ = some (.int .u8 (b2 x.1)) ∧ W.cell? ⟨g, i * 6 + 3, none⟩ = some (.int .u8 (b3 x.1)) ∧ W.cell? ⟨g, i * 6 + 4, none⟩ = some (.int .i64 x.2.1) ∧ W.cell? ⟨g, i * 6 + 5, none⟩ = some (.int .i64 x.2.2) ∧ W.cell? ⟨R, 0, none⟩ = some (.int .u8 (b0 r.1)) ∧ W.cell? ⟨R, 1, none⟩ = some (.int .u8 (b1 r.1)) ∧ W.cell? ⟨R, 2, none⟩ = some (.int .u8 (b2 r.1)) ∧ W.cell? ⟨R, 3, none⟩ = some (.int .u8 (b3 r.1)) ∧ W.cell? ⟨R, 4, none⟩ = some (.int .i64 r.2.1) ∧ W.cell? ⟨R, 5, none⟩ = some (.int .i64 r.2.2)) (assumption) (((with_reducible refine (hB1 _).mono ?_); rintro e w6 ⟨rfl, hb6⟩; replace S1 := S1.next hb6; have F6 := S1.cells hx))
          clear F1 F6 hS hB1 hB hbf hx
          have hS := S1
          have hup := fun W => run_upto_r W g 0 m c1 i (by have := hS.1.1; have := HM.out; omega)
          have hfr := fun W => run_from_r W (some ⟨g, 0, none⟩) m c1 i hin
          have hin2 : i ≤ L.length := by rw [← HM.out]; exact hin
          have hlt5 := (hS.1.upto rc_len i).alloc (.cells #[] 42)
          have hcut := hS.1.cut rc_len i hin2
          have hown0 := World.ownsRow_lit (base := w6.heap.size) (e := 42) (size := 6) w6 #[] 0 (Nat.le_refl _) (by decide) rfl
          have ltk : (L.take i).length = i := by rw [List.length_take]; omega
          have ldr : (L.drop i).length = m - i := by rw [List.length_drop, ← HM.out]
          have hRl := hS.2.1.lt
          have bel0 := bnew w6 (.cells #[] 42)
          have LTK : Hid ((L.take i).length = i) := ltk
          have LDR : Hid ((L.drop i).length = m - i) := ldr
          clear hD ltk ldr
          go_wp2_with (first
            | (at_builtin; refine wpList_append_rk rc_len (by decide) rc_one _ rfl (.tmp 53) (.tmp 56) 33 rfl w6.heap.size 42 i0 _ 24 Try.underlying33 hi hz0 hz1 hz2 rfl (.slice (some ⟨w6.heap.size, 0, none⟩) 0 0) 0 [] rfl hown0 (some ⟨g, 0, none⟩) i c1 (L.take i) rfl LTK.out hlt5 (by omega) (by omega) bel0.size ?_; intro v1 wa hown5 hg5; have bel5 := bel0.grown hg5 bel0.size (fun j hj => (hown0.lt j hj).1); have kr5 := hS.2.1.below bel5; have lr5 := kr5.cell; unfold rc at lr5)
            | (at_builtin; refine wpList_append_rk rc_len (by decide) rc_one _ rfl (.tmp 58) (.tmp 60) 33 rfl w6.heap.size 42 i0 _ 24 Try.underlying33 hi hz0 hz1 hz2 rfl v1 (0 + i) _ rfl (hown5.alloc _) (some ⟨wa.heap.size, 0, none⟩) 1 1 [r] rfl rfl (lit_rk rfl) (by omega) (by omega) (Nat.le_trans bel5.size (bnew wa _).size) ?_; intro v2 wb hown6 hg6; have bel6 := (bel5.alloc bel5.size _).grown hg6 (Nat.le_trans bel5.size (bnew wa _).size) (fun j hj => (hown5.lt j hj).1))
            | (at_builtin; refine wpList_append_rk rc_len (by decide) rc_one _ rfl (.tmp 62) (.tmp 65) 33 rfl w6.heap.size 42 i0 _ 24 Try.underlying33 hi hz0 hz1 hz2 rfl v2 (0 + i + 1) _ rfl hown6 (cutK 6 (some ⟨g, 0, none⟩) c1 i) (m - i) (c1 - i) (L.drop i) rfl LDR.out (hcut.below bel6) (by omega) (by omega) bel6.size ?_; intro v3 wc hown7 hg7; have bel7 := bel6.grown hg7 bel6.size (fun j hj => (hown6.lt j hj).1)))
          obtain ⟨p', c', rfl, hrk, -⟩ := own_rk rc_len (by decide) hown7
          have hlen : ([] ++ L.take i ++ [r] ++ L.drop i).length = m + 1 := by
            simp only [List.length_append, List.length_nil, List.length_cons, LTK.out, LDR.out]; omega
          rw [hlen]
          go_ret2
          exact ⟨p', c', rfl, ⟨i, HA.out, HE.out, by simpa using hrk⟩, bnext hS.2.2 bel7⟩
      · have him : i = m := by omega
        have HE : Hid (Stop L (kof r) i) := fun y hy => by
          have := (List.getElem?_eq_some_iff.1 hy).1
          have := HM.out
          omega
        have hi1 : decide ((i : Int) < (m : Int)) = false := by simp; omega
        have hi2 : decide (i < m) = false := by simp; omega
        clear him hB
        go_wp2
        go_quiet (fail)
        have hS1 := hS.next (bdrewN wr nq)
        generalize wr.drewN nq = wq at hS1 ⊢
        clear hS
        have hS := hS1
        have hup := fun W => run_upto_r W g 0 m c1 i (by have := hS.1.1; have := HM.out; omega)
        have hfr := fun W => run_from_r W (some ⟨g, 0, none⟩) m c1 i hin
        have hin2 : i ≤ L.length := by rw [← HM.out]; exact hin
        have hlt5 := (hS.1.upto rc_len i).alloc (.cells #[] 42)
        have hcut := hS.1.cut rc_len i hin2
        have hown0 := World.ownsRow_lit (base := wq.heap.size) (e := 42) (size := 6) wq #[] 0 (Nat.le_refl _) (by decide) rfl
        have ltk : (L.take i).length = i := by rw [List.length_take]; omega
        have ldr : (L.drop i).length = m - i := by rw [List.length_drop, ← HM.out]
        have hRl := hS.2.1.lt
        have bel0 := bnew wq (.cells #[] 42)
        have LTK : Hid ((L.take i).length = i) := ltk
        have LDR : Hid ((L.drop i).length = m - i) := ldr
        clear hD ltk ldr
        go_wp2_with (first
          | (at_builtin; refine wpList_append_rk rc_len (by decide) rc_one _ rfl (.tmp 53) (.tmp 56) 33 rfl wq.heap.size 42 i0 _ 24 Try.underlying33 hi hz0 hz1 hz2 rfl (.slice (some ⟨wq.heap.size, 0, none⟩) 0 0) 0 [] rfl hown0 (some ⟨g, 0, none⟩) i c1 (L.take i) rfl LTK.out hlt5 (by omega) (by omega) bel0.size ?_; intro v1 wa hown5 hg5; have bel5 := bel0.grown hg5 bel0.size (fun j hj => (hown0.lt j hj).1); have kr5 := hS.2.1.below bel5; have lr5 := kr5.cell; unfold rc at lr5)
          | (at_builtin; refine wpList_append_rk rc_len (by decide) rc_one _ rfl (.tmp 58) (.tmp 60) 33 rfl wq.heap.size 42 i0 _ 24 Try.underlying33 hi hz0 hz1 hz2 rfl v1 (0 + i) _ rfl (hown5.alloc _) (some ⟨wa.heap.size, 0, none⟩) 1 1 [r] rfl rfl (lit_rk rfl) (by omega) (by omega) (Nat.le_trans bel5.size (bnew wa _).size) ?_; intro v2 wb hown6 hg6; have bel6 := (bel5.alloc bel5.size _).grown hg6 (Nat.le_trans bel5.size (bnew wa _).size) (fun j hj => (hown5.lt j hj).1))
          | (at_builtin; refine wpList_append_rk rc_len (by decide) rc_one _ rfl (.tmp 62) (.tmp 65) 33 rfl wq.heap.size 42 i0 _ 24 Try.underlying33 hi hz0 hz1 hz2 rfl v2 (0 + i + 1) _ rfl hown6 (cutK 6 (some ⟨g, 0, none⟩) c1 i) (m - i) (c1 - i) (L.drop i) rfl LDR.out (hcut.below bel6) (by omega) (by omega) bel6.size ?_; intro v3 wc hown7 hg7; have bel7 := bel6.grown hg7 bel6.size (fun j hj => (hown6.lt j hj).1)))
        obtain ⟨p', c', rfl, hrk, -⟩ := own_rk rc_len (by decide) hown7
        have hlen : ([] ++ L.take i ++ [r] ++ L.drop i).length = m + 1 := by
          simp only [List.length_append, List.length_nil, List.length_cons, LTK.out, LDR.out]; omega
        rw [hlen]
        go_ret2
        exact ⟨p', c', rfl, ⟨i, HA.out, HE.out, by simpa using hrk⟩, bnext hS.2.2 bel7⟩
theorem rref_Set {w : World} {p : Option Addr} {c : Nat} {M : List Rt} (h : RK rc w p c M) (hM : Good M) (hl : M.length ≤ 64) {r : Rt} (hr : ROk r) :
    Calls Try.prog 12 #[.slice p M.length c, net r.1 r.2.1, .int .i64 r.2.2] w fun e w' => ∃ p' c', e = .returned (.tuple #[.slice p' (setM M r).length c', .int .i64 (setE M r)]) ∧ RK rc w' p' c' (setM M r) ∧ Below w.heap.size w w' := by
  cases ho : setOk M r with
  | false =>
    refine (rref_SetNo h hM hl hr ho).mono fun e w' ⟨he, hb⟩ => ?_
    simp only [setM, setE, ho, Bool.false_eq_true, if_false]
    exact ⟨p, c, he, h.below hb, hb⟩
  | true =>
    have ho2 := ho
    simp only [setOk, Bool.and_eq_true, Bool.or_eq_true, decide_eq_true_eq] at ho2
    refine (rref_SetYes (hasM M (kof r)) h hr (fun x hx => hM.2 x (mem_del.1 hx).1) (show Hid _ from rfl) (Nat.le_trans (len_del_le M (kof r)) hl) ho2.1.1 ho2.1.2 ho2.2 (fun W q => rref_Delete q hM (by omega) hr.1)).mono fun e w' ⟨p', c', he, ⟨i, h1, h2, h3⟩, hb⟩ => ?_
    simp only [setM, setE, ho, if_true]
    refine ⟨p', c', by rw [he, len_ins_del], ?_, hb⟩
    rw [ins_eq h1 h2]
    exact h3
end Go.Proofs.Ytdpigcfchjpofaa.Route
