/-
  RouteOrder, walked.
-/
import Derived.Test.YtdpigcfchjpofaaRouteBack
import Derived.Test.YtdpigcfchjpofaaRouteFillS
namespace Go.Proofs.Ytdpigcfchjpofaa.Route
open Go.RowKit Go.Maps Go.Proofs.Ytdpigcfchjpofaa.Mem Go.Proofs.Ytdpigcfchjpofaa.Addr

theorem run_upto_n (w : World) (b o n cap l : Nat) (hl : l ≤ cap) :
    (Instr.slice 49 (.slice (some ⟨b, o, none⟩) n cap) none (some (.int .i64 (l : Int))) none).run Try.prog w = .ok (.slice (some ⟨b, o, none⟩) l cap) w := by
  have ht : Try.prog.underlying 49 = some (.slice (Try.prog.elem 49)) := by simp [Program.elem, Try.underlying49]
  have he : Try.prog.elem 49 = 29 := by simp [Program.elem, Try.underlying49]
  rw [run_slice_h w 49 _ n cap ht .i64 (l : Int) (by omega) (by omega), he, Try.sizeOf29]
  simp [Result.andThen, sliced, Addr.add_lit]
theorem set_s {W : World} {g b : Nat} {xs : List Nt} {s : Nat → Nat} {i l : Nat} (hx : ∀ k ∈ xs, NOk k) (hl : xs.length ≤ 60) (hs : ∀ j, j < xs.length → s j < xs.length) (hi : i < xs.length) (hsi : s i = l) {k : Nt} (hk : xs[l]? = some k) (h : TabAt W g b (fillS xs s i)) :
    Calls Try.prog 9 #[.pointer (some ⟨g, 0, none⟩), .agg #[.int .u8 (b0 k.1), .int .u8 (b1 k.1), .int .u8 (b2 k.1), .int .u8 (b3 k.1), .int .i64 k.2], .int .i64 (l : Int)] W fun e w' => (∃ v, e = .returned (.int .i64 v)) ∧ TabAt w' g b (fillS xs s (i + 1)) ∧ W.grownBy w' (some b) := by
  subst hsi
  have h1 := route_Set h (r := ent xs (s i)) (ent_ok hx (hs i hi) (by omega)) (by have := len_fillS hx (by omega) hs (i := i) (by omega); omega)
  have e2 : fillS xs s (i + 1) = setM (fillS xs s i) (ent xs (s i)) := rfl
  rw [e2]
  simp only [ent, nth_get hk] at h1 ⊢
  exact h1.mono fun e w' ⟨he, h2, h3⟩ => ⟨⟨_, he⟩, h2, h3⟩
/-- No two of the first ones are the same. -/
def Apart (xs : List Nt) (i : Nat) : Prop := ∀ a b, a < i → b < a → nth xs a ≠ nth xs b
set_option maxRecDepth 100000 in
set_option maxHeartbeats 4000000 in
theorem order_walk (q : Option Addr) (n c : Nat) (xs : List Nt) (t : Int) (w : World) (hxl : xs.length = n) (hr : RK nc w q c xs) (hx : ∀ k ∈ xs, NOk k) :
    Calls Try.prog 6 #[.slice q n c, .int .i64 t] w fun e w' => e = .returned (.bool true) ∧ Below w.heap.size w w' := by
  have ha := alive_any
  have hgd := guard_net
  by_cases hg : n < 1 ∨ 60 < n ∨ t < 0 ∨ (n : Int) ≤ t
  · go_enter Try.func6, Try.ntmps6
    go_wp2_with (go_at_call 10; refine (ha _).mono ?_; rintro e w1 ⟨rfl, hb1⟩)
    all_goals first
      | (go_ret; exact ⟨rfl, hb1⟩)
      | (exfalso; omega)
  · have hlx : xs.length ≤ 60 := by omega
    obtain ⟨T, rfl⟩ := Int.eq_ofNat_of_zero_le (show 0 ≤ t by omega)
    have hT : T < n := by omega
    have HX : Hid (xs.length = n) := hxl
    have c1 : ¬ (n : Int) < 1 := by omega
    have c2 : ¬ (60 : Int) < (n : Int) := by omega
    have c3 : ¬ (T : Int) < 0 := by omega
    have c4 : ¬ (n : Int) ≤ (T : Int) := by omega
    obtain ⟨bb, o, rfl, hbl, -⟩ := hr.2.2.2 (by omega)
    have hcap := hr.1
    have HL : Hid (n ≤ c) := by show n ≤ c; omega
    clear hg hxl hcap
    go_enter Try.func6, Try.ntmps6
    go_wp2_with (go_at_call 10; refine (ha _).mono ?_; rintro e w1 ⟨rfl, hb1⟩)
    go_loopw [33] (fun u wr => ∃ i : Nat, i ≤ n ∧ u = .int .i64 i ∧ Hid (Apart xs i) ∧ Below w.heap.size w wr) (fun u _ => n - (intOf u).toNat)
    case atStart => exact ⟨0, Nat.zero_le _, rfl, fun a b h1 => by omega, hb1⟩
    case round =>
      clear hb1
      obtain ⟨i, hin, rfl, HA, hbe⟩ := hrel
      by_cases hlt : i < n
      · have hil : i < xs.length := by rw [HX.out]; exact hlt
        have hxi : xs[i]? = some xs[i] := List.getElem?_eq_getElem hil
        generalize hxe : xs[i] = x at hxi
        have hxk : NOk x := hx x (List.mem_of_getElem? hxi)
        have hup := fun W => run_upto_n W bb o n c i (by have := HL.out; omega)
        clear hxe
        go_wp2
        go_loopw [40] (fun u wr => ∃ k : Nat, k ≤ i ∧ u = .int .i64 k ∧ Hid (∀ b, b < k → nth xs i ≠ nth xs b) ∧ Below w.heap.size w wr) (fun u _ => i - (intOf u).toNat)
        case atStart => exact ⟨0, Nat.zero_le _, rfl, fun b h1 => by omega, hbe⟩
        case round =>
          clear hbe
          obtain ⟨k, hki, rfl, HB, hbe⟩ := hrel
          by_cases hlt2 : k < i
          · have hkl : k < xs.length := by omega
            have hyk : xs[k]? = some xs[k] := List.getElem?_eq_getElem hkl
            generalize hye : xs[k] = y at hyk
            have hyok : NOk y := hx y (List.mem_of_getElem? hyk)
            obtain ⟨b1, o1, e1, hbl1, l0, l1, l2, l3, l4⟩ := ncells (hr.below hbe) hxi
            simp only [Option.some.injEq, Addr.mk.injEq, and_true] at e1
            obtain ⟨rfl, rfl⟩ := e1
            obtain ⟨b2, o2, e2, hbl2, m0, m1, m2, m3, m4⟩ := ncells (hr.below hbe) hyk
            simp only [Option.some.injEq, Addr.mk.injEq, and_true] at e2
            obtain ⟨rfl, rfl⟩ := e2
            have heq := eq_nets hxk hyok
            have hk1 : (k : Int) < (n : Int) := by omega
            have hi1 : (i : Int) < (n : Int) := by omega
            clear hye hup
            by_cases hxy : x = y
            · have hd : decide (x = y) = true := decide_eq_true hxy
              simp only [hd] at heq
              unfold net at heq
              clear hd hxy
              go_wp2
              go_quiet (fail)
              go_wp2
              go_ret
              exact ⟨rfl, bnext hbe (bdrewN _ _)⟩
            · have hd : decide (x = y) = false := decide_eq_false hxy
              simp only [hd] at heq
              unfold net at heq
              have HB1 : Hid (∀ b, b < k + 1 → nth xs i ≠ nth xs b) := fun b h1 => by
                rcases Nat.lt_or_ge b k with h2 | h2
                · exact HB.out b h2
                · obtain rfl : b = k := by omega
                  rw [nth_get hxi, nth_get hyk]; exact hxy
              clear hd hxy HB
              go_wp2
              go_quiet (fail)
              go_wp2
              go_roundw
              case rel => exact ⟨k + 1, by omega, by simp, HB1, bnext hbe (bdrewN _ _)⟩
              case measure => simp [intOf]; omega
          · have hke : k = i := by omega
            subst hke
            have HA1 : Hid (Apart xs (k + 1)) := fun a b h1 h2 => by
              rcases Nat.lt_or_ge a k with h3 | h3
              · exact HA.out a b h3 h2
              · obtain rfl : a = k := by omega
                exact HB.out b h2
            clear HA HB
            go_wp2
            go_roundw
            case rel => exact ⟨k + 1, by omega, by simp, HA1, hbe⟩
            case measure => simp [intOf]; omega
      · have hie : i = n := by omega
        subst hie
        have hxl := HX.out
        go_wp2_with (first
          | (go_at_call 8; (with_reducible refine (route_New wr).mono ?_); rintro e w2 ⟨g1, b1, rfl, hT1, hg1, hbb1, hb2⟩)
          | (go_at_call 8; (with_reducible refine (route_New w2).mono ?_); rintro e w3 ⟨g2, b2, rfl, hT2, hg2, hbb2, hb3⟩))
        have hbw1 : w.heap.size ≤ b1 := by have := hbe.size; omega
        have hbw2 : w.heap.size ≤ b2 := by have := hbe.size; have := hb2.size; omega
        have hne : b1 ≠ b2 := by have := hT1.2.lt; omega
        go_loopw [58] (fun u wr => ∃ k : Nat, k ≤ i ∧ u = .int .i64 k ∧ TabAt wr g1 b1 (fillS xs (fun j => j) k) ∧ TabAt wr g2 b2 (fillS xs (rot i T) k) ∧ Below w.heap.size w wr) (fun u _ => i - (intOf u).toNat)
        case atStart => exact ⟨0, Nat.zero_le _, rfl, hT1.below hb3, hT2, bnext (bnext hbe hb2) hb3⟩
        case round =>
          clear hT1 hT2 hg1 hg2 hbb1 hbb2 hb2 hb3 hbe
          obtain ⟨k, hki, rfl, hT1, hT2, hbe⟩ := hrel
          by_cases hlt2 : k < i
          · have hkl : k < xs.length := by omega
            have hxk : xs[k]? = some xs[k] := List.getElem?_eq_getElem hkl
            generalize hxe : xs[k] = x at hxk
            obtain ⟨b3, o3, e3, hbl3, l0, l1, l2, l3, l4⟩ := ncells (hr.below hbe) hxk
            simp only [Option.some.injEq, Addr.mk.injEq, and_true] at e3
            obtain ⟨rfl, rfl⟩ := e3
            have hS1 : Hid (∀ W, TabAt W g1 b1 (fillS xs (fun j => j) k) → _) := fun W hW => set_s hx hlx (fun j hj => hj) hkl rfl hxk hW
            clear hxe
            have hk1 : (k : Int) < (i : Int) := by omega
            by_cases hov : i ≤ k + T
            · have hrt : rot i T k = k + T - i := by unfold rot; rw [if_pos hov]
              have hll : k + T - i < xs.length := by omega
              have hyk : xs[k + T - i]? = some xs[k + T - i] := List.getElem?_eq_getElem hll
              generalize hye : xs[k + T - i] = y at hyk
              have ecast : ((k + T - i : Nat) : Int) = (k : Int) + (T : Int) - (i : Int) := by omega
              have hS2 := fun W hW => set_s (W := W) (g := g2) (b := b2) (s := rot i T) hx hlx (fun j hj => by rw [hxl] at hj ⊢; exact rot_lt hT hj) hkl hrt hyk hW
              rw [ecast] at hS2
              have hov1 : (i : Int) ≤ (k : Int) + (T : Int) := by omega
              clear hye hrt ecast
              go_wp2_with (first
                | (go_at_call 9; (with_reducible refine (hS1.out _ hT1).mono ?_); rintro e w4 ⟨⟨v4, rfl⟩, hT4, hg4⟩; have hbe4 := below_turn hbe hg4 hbe.size hbw1; have hT24 := hT2.kept hT1.2 hg4 (Ne.symm hne); obtain ⟨b5, o5, e5, hbl5, m0, m1, m2, m3, m4⟩ := ncells (hr.below hbe4) hyk; simp only [Option.some.injEq, Addr.mk.injEq, and_true] at e5; obtain ⟨rfl, rfl⟩ := e5)
                | (go_at_call 9; (with_reducible refine (hS2 _ hT24).mono ?_); rintro e w5 ⟨⟨v5, rfl⟩, hT5, hg5⟩))
              go_roundw
              case rel => exact ⟨k + 1, by omega, by simp, hT4.kept hT24.2 hg5 hne, hT5, below_turn hbe4 hg5 hbe4.size hbw2⟩
              case measure => simp [intOf]; omega
            · have hrt : rot i T k = k + T := by unfold rot; rw [if_neg hov]
              have hll : k + T < xs.length := by omega
              have hyk : xs[k + T]? = some xs[k + T] := List.getElem?_eq_getElem hll
              generalize hye : xs[k + T] = y at hyk
              have ecast : ((k + T : Nat) : Int) = (k : Int) + (T : Int) := by omega
              have hS2 := fun W hW => set_s (W := W) (g := g2) (b := b2) (s := rot i T) hx hlx (fun j hj => by rw [hxl] at hj ⊢; exact rot_lt hT hj) hkl hrt hyk hW
              rw [ecast] at hS2
              have hov1 : ¬ (i : Int) ≤ (k : Int) + (T : Int) := by omega
              clear hye hrt ecast
              go_wp2_with (first
                | (go_at_call 9; (with_reducible refine (hS1.out _ hT1).mono ?_); rintro e w4 ⟨⟨v4, rfl⟩, hT4, hg4⟩; have hbe4 := below_turn hbe hg4 hbe.size hbw1; have hT24 := hT2.kept hT1.2 hg4 (Ne.symm hne); obtain ⟨b5, o5, e5, hbl5, m0, m1, m2, m3, m4⟩ := ncells (hr.below hbe4) hyk; simp only [Option.some.injEq, Addr.mk.injEq, and_true] at e5; obtain ⟨rfl, rfl⟩ := e5)
                | (go_at_call 9; (with_reducible refine (hS2 _ hT24).mono ?_); rintro e w5 ⟨⟨v5, rfl⟩, hT5, hg5⟩))
              go_roundw
              case rel => exact ⟨k + 1, by omega, by simp, hT4.kept hT24.2 hg5 hne, hT5, below_turn hbe4 hg5 hbe4.size hbw2⟩
              case measure => simp [intOf]; omega
          · have hke : k = i := by omega
            subst hke
            have hfo := fill_order hx (by omega) (t := T) (by omega) (fun a b h1 h2 => HA.out a b (by omega) h2)
            rw [hxl] at hfo
            rw [← hfo] at hT2
            have hgd2 : Good (fillS xs (fun j => j) k) := hT1.2.1
            have hml : (fillS xs (fun j => j) k).length ≤ 60 := by have := len_fillS hx (by omega) (s := fun j => j) (fun j hj => hj) (i := k) (by omega); omega
            generalize fillS xs (fun j => j) k = M at hT1 hT2 hgd2 hml
            have hL1 := fun W (h : TabAt W g1 b1 M) => route_List h (by omega)
            have hL2 := fun W (h : TabAt W g2 b2 M) => route_List h (by omega)
            have hSm := fun W p1 p2 c1 c2 (h1 : RK rc W p1 c1 M) (h2 : RK rc W p2 c2 M) => rref_Same h1 h2 hgd2.2 hgd2.2 (by omega)
            have edm : decide (M = M) = true := decide_eq_true rfl
            rw [edm] at hSm
            obtain ⟨m, hm⟩ : ∃ m, m = M.length := ⟨_, rfl⟩
            rw [← hm] at hL1 hL2 hSm
            clear hm hml hgd2 edm hfo hxl
            go_wp2_with (first
              | (go_at_call 18; (with_reducible refine (hL1 _ hT1).mono ?_); rintro e w4 ⟨p1, c1, rfl, hr4, -, hb4⟩; have hT4 := hT2.below hb4)
              | (go_at_call 18; (with_reducible refine (hL2 _ hT4).mono ?_); rintro e w5 ⟨p2, c2, rfl, hr5, -, hb5⟩)
              | (go_at_call 19; (with_reducible refine (hSm _ _ _ _ _ (hr4.below hb5) hr5).mono ?_); rintro e w6 ⟨rfl, hb6⟩))
            go_ret
            exact ⟨rfl, bnext (bnext (bnext hbe hb4) hb5) hb6⟩
end Go.Proofs.Ytdpigcfchjpofaa.Route
