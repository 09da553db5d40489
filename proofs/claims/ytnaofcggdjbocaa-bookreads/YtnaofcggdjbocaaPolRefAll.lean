/-
  Policies together: the document's All.
-/
import Derived.Test.YtnaofcggdjbocaaPolAll
import Derived.Test.YtnaofcggdjbocaaPolRefRight
namespace Go.Proofs.Ytnaofcggdjbocaa.Policy
open Go.RowKit Go.Proofs.Ytnaofcggdjbocaa.Mem Go.Proofs.Ytnaofcggdjbocaa.Addr
set_option maxRecDepth 100000

theorem run_from_p (w : World) (p : Option Addr) (n cap l : Nat) (hl : l ≤ n) :
    (Instr.slice 29 (.slice p n cap) (some (.int .i64 (l : Int))) none none).run Try.prog w = .ok (.slice (cutK 13 p cap l) (n - l) (cap - l)) w := by
  have ht : Try.prog.underlying 29 = some (.slice (Try.prog.elem 29)) := by simp [Program.elem, Try.underlying29]
  have he : Try.prog.elem 29 = 47 := by simp [Program.elem, Try.underlying29]
  rw [run_slice_l w 29 p n cap ht .i64 (l : Int) (by omega) (by omega), he, Try.sizeOf47]
  simp [Result.andThen, sliced, cutK]
theorem run_upto_p (w : World) (p : Option Addr) (n cap l : Nat) (hl : l ≤ cap) :
    (Instr.slice 29 (.slice p n cap) none (some (.int .i64 (l : Int))) none).run Try.prog w = .ok (.slice p l cap) w := by
  have ht : Try.prog.underlying 29 = some (.slice (Try.prog.elem 29)) := by simp [Program.elem, Try.underlying29]
  have he : Try.prog.elem 29 = 47 := by simp [Program.elem, Try.underlying29]
  rw [run_slice_h w 29 p n cap ht .i64 (l : Int) (by omega) (by omega), he, Try.sizeOf47]
  cases p <;> simp [Result.andThen, sliced, Addr.add]
theorem all_no {xs : List Po} (h : ¬ Tog xs) : allE xs = 111 := by
  unfold allE
  rw [if_neg fun q => h (all_iff.1 q)]
theorem all_yes {xs : List Po} (h : Tog xs) : allE xs = 0 := by
  unfold allE
  rw [if_pos (all_iff.2 h)]
theorem pair_at {xs : List Po} {k i : Nat} {y x : Po} (hp : xs.Pairwise Bef) (hy : xs[k]? = some y) (hx : xs[i]? = some x) (h : k < i) : Bef y x := by
  obtain ⟨hi, rfl⟩ := List.getElem?_eq_some_iff.1 hx
  obtain ⟨hk, rfl⟩ := List.getElem?_eq_some_iff.1 hy
  exact List.pairwise_iff_getElem.1 hp k i hk hi h
set_option maxHeartbeats 4000000 in
theorem ref_AllP (q : Option Addr) (n c : Nat) (xs : List Po) (hl : xs.length = n) (hn : n ≤ 1000) (w : World) (r : RK pl w q c xs) (ho : ∀ p ∈ xs, PoOk p) :
    Calls Try.prog 38 #[.slice q n c] w fun e w' => e = .returned (.int .i64 (allE xs)) ∧ Below w.heap.size w w' := by
  by_cases h8 : 8 < n
  · have h8i : (8 : Int) < (n : Int) := by omega
    rw [all_no fun h => by have := h.1; omega]
    go_enter Try.func38, Try.ntmps38
    go_wp2
    go_ret
    exact ⟨rfl, Below.refl _ _⟩
  · have h8i : decide ((8 : Int) < (n : Int)) = false := decide_eq_false (by omega)
    obtain ⟨E, hE⟩ : ∃ E, allE xs = E := ⟨_, rfl⟩
    rw [hE]
    have hno : Hid (¬ Tog xs → E = 111) := fun h => hE.symm.trans (all_no h)
    have hyes : Hid (Tog xs → E = 0) := fun h => hE.symm.trans (all_yes h)
    clear hE
    have hcap := r.1
    have hgd := guard_net
    go_enter Try.func38, Try.ntmps38
    go_wp2
    go_loopw [10] (fun i wr => ∃ k : Nat, k ≤ n ∧ i = .int .i64 k ∧ Below w.heap.size w wr ∧ Hid (∀ j x, j < k → xs[j]? = some x → rightP x = true) ∧ Hid (∀ j i y x, j < i → i < k → xs[j]? = some y → xs[i]? = some x → Bef y x)) (fun i _ => n - (intOf i).toNat)
    case atStart => exact ⟨0, by omega, rfl, Below.refl _ _, fun j x hj => by omega, fun j i y x _ hi => by omega⟩
    case round =>
      obtain ⟨i, hi, rfl, hB, HR, HP⟩ := hrel
      by_cases hlt : i < n
      · have hlt2 : decide ((i : Int) < (n : Int)) = true := decide_eq_true (by omega)
        have hlt3 : (i : Int) < (n : Int) := by omega
        obtain ⟨x, hx⟩ : ∃ x, xs[i]? = some x := ⟨_, List.getElem?_eq_getElem (by omega)⟩
        have hok := ho x (List.mem_of_getElem? hx)
        have hr := fun W => ref_RightP x hok W
        have hc := fun {W : World} (hW : Below w.heap.size w W) => row_at (r.below hW) hx
        obtain ⟨b, o, rfl, hb, hcc⟩ := hc hB
        have hup := fun W => run_upto_p W (some ⟨b, o, none⟩) n c i (by omega)
        have HX : Hid (xs[i]? = some x) := hx
        clear hx
        cases hR : rightP x with
        | false =>
          rw [hR] at hr
          obtain rfl : E = 111 := hno.out fun h => by rw [h.2.1 x (List.mem_of_getElem? HX.out)] at hR; cases hR
          go_wp2_with (first
            | ((fail_if_success (have _ := hB2)); (refine at_load_pr _ _ _ _ (by rfl) (by rfl) hcc (by rfl) ?_))
            | ((with_reducible refine (hr _).mono ?_); rintro e w2 ⟨rfl, hB2⟩))
          go_ret
          exact ⟨rfl, bnext hB hB2⟩
        | true =>
          rw [hR] at hr
          go_wp2_with (first
            | ((fail_if_success (have _ := hB2)); (refine at_load_pr _ _ _ _ (by rfl) (by rfl) hcc (by rfl) ?_))
            | ((with_reducible refine (hr _).mono ?_); rintro e w2 ⟨rfl, hB2⟩))
          have hB12 := bnext hB hB2
          clear hr hcc
          go_loopw [23] (fun v wx => ∃ k : Nat, k ≤ i ∧ v = .int .i64 k ∧ Below w.heap.size w wx ∧ Hid (∀ j y, j < k → xs[j]? = some y → Bef y x)) (fun v _ => i - (intOf v).toNat)
          case atStart => exact ⟨0, by omega, rfl, hB12, fun j y hj => by omega⟩
          case round =>
            obtain ⟨k, hk, rfl, hBk, HK⟩ := hrel
            by_cases hlk : k < i
            · have hlk2 : decide ((k : Int) < (i : Int)) = true := decide_eq_true (by omega)
              have hlk3 : (k : Int) < (n : Int) := by omega
              obtain ⟨y, hy⟩ : ∃ y, xs[k]? = some y := ⟨_, List.getElem?_eq_getElem (by omega)⟩
              have hoky := ho y (List.mem_of_getElem? hy)
              have hB3 := hBk
              obtain ⟨b1, o1, e1, -, cx⟩ := row_at (r.below hB3) HX.out
              obtain ⟨b2, o2, e2, -, cy⟩ := row_at (r.below hB3) hy
              simp only [Option.some.injEq, Addr.mk.injEq, and_true] at e1 e2
              obtain ⟨rfl, rfl⟩ := e1
              obtain ⟨rfl, rfl⟩ := e2
              have HY : Hid (xs[k]? = some y) := hy
              have heq := fun W => eq_net (b := y.b) (c := x.b) hoky.2.1 hok.2.1 W
              have hbef : Bef y x ↔ (decide (x.s ≤ y.s) = false ∧ (decide (y.N = x.N) && decide (y.b = x.b)) = false) := by
                unfold Bef kof
                simp
              clear hy hoky
              unfold net at heq
              generalize hQ : (decide (y.N = x.N) && decide (y.b = x.b)) = Q at *
              have k0 := cx 0 _ rfl
              have k1 := cx 1 _ rfl
              have k2 := cx 2 _ rfl
              have k3 := cx 3 _ rfl
              have k4 := cx 4 _ rfl
              have k5 := cx 5 _ rfl
              have l0 := cy 0 _ rfl
              have l1 := cy 1 _ rfl
              have l2 := cy 2 _ rfl
              have l3 := cy 3 _ rfl
              have l4 := cy 4 _ rfl
              have l5 := cy 5 _ rfl
              simp only [Nat.add_zero] at k0 l0
              clear cx cy hQ
              cases hle : decide (x.s ≤ y.s) with
              | true =>
                obtain rfl : E = 111 := hno.out fun h => by
                  have := hbef.1 (pair_at h.2.2 HY.out HX.out hlk)
                  rw [hle] at this
                  exact absurd this.1 (by simp)
                have hles := of_decide_eq_true hle
                clear hbef HX HY HK HR HP
                go_wp2
                go_quiet (fail)
                go_wp2
                go_ret
                exact ⟨rfl, hBk.trans ((bdrewN _ _).mono hBk.size)⟩
              | false =>
                have hles : ¬ x.s ≤ y.s := of_decide_eq_false hle
                cases Q with
                | true =>
                  obtain rfl : E = 111 := hno.out fun h => by
                    have := hbef.1 (pair_at h.2.2 HY.out HX.out hlk)
                    exact absurd this.2 (by simp)
                  clear hbef HX HY HK HR HP
                  go_wp2
                  go_quiet (fail)
                  go_wp2
                  go_ret
                  exact ⟨rfl, hBk.trans ((bdrewN _ _).mono hBk.size)⟩
                | false =>
                  have hbf : Hid (Bef y x) := hbef.2 ⟨hle, rfl⟩
                  clear hbef
                  go_wp2
                  go_quiet (fail)
                  go_wp2
                  go_roundw
                  case rel => exact ⟨k + 1, by omega, by go_num, hBk.trans ((bdrewN _ _).mono hBk.size), fun j z hj hz => by
                    rcases Nat.lt_or_ge j k with h | h
                    · exact HK.out j z h hz
                    · obtain rfl : j = k := by omega
                      rw [HY.out] at hz
                      obtain rfl := Option.some.inj hz
                      exact hbf.out⟩
                  case measure => simp [intOf]; omega
            · obtain rfl : k = i := by omega
              have hlk2 : decide ((k : Int) < (k : Int)) = false := decide_eq_false (by omega)
              go_wp2
              go_roundw
              case rel => exact ⟨k + 1, by omega, by go_num, hBk, fun j z hj hz => by
                rcases Nat.lt_or_ge j k with h | h
                · exact HR.out j z h hz
                · obtain rfl : j = k := by omega
                  rw [HX.out] at hz
                  obtain rfl := Option.some.inj hz
                  exact hR, fun j i y z h1 h2 hy hz => by
                rcases Nat.lt_or_ge i k with h | h
                · exact HP.out j i y z h1 h hy hz
                · obtain rfl : i = k := by omega
                  rw [HX.out] at hz
                  obtain rfl := Option.some.inj hz
                  exact HK.out j y h1 hy⟩
              case measure => simp [intOf]; omega
      · obtain rfl : i = n := by omega
        have hlt2 : decide ((i : Int) < (i : Int)) = false := decide_eq_false (by omega)
        obtain rfl : E = 0 := hyes.out ⟨by omega, fun p hp => by
          obtain ⟨j, hj⟩ := List.getElem?_of_mem hp
          exact HR.out j p (by have := (List.getElem?_eq_some_iff.1 hj).1; omega) hj, List.pairwise_iff_getElem.2 fun a b ha hb hab => HP.out a b _ _ hab (by omega) (List.getElem?_eq_getElem ha) (List.getElem?_eq_getElem hb)⟩
        go_wp2
        go_ret
        exact ⟨rfl, hB⟩
end Go.Proofs.Ytnaofcggdjbocaa.Policy
