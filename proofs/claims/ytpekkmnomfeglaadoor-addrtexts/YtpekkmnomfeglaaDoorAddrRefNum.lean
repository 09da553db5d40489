/-
  The document's texts: digits, and the numbers in a text.
-/
import Derived.Test.YtpekkmnomfeglaaDoorAddrAlive
import Derived.Test.YtpekkmnomfeglaaDoorAddrRefNet
import Derived.Laws.Concat
namespace Go.Proofs.YtpekkmnomfeglaaDoor.Addr
open Go.RowKit Go.Proofs.YtpekkmnomfeglaaDoor.Mem

set_option maxRecDepth 100000 in
theorem dig1 (n : Nat) (h : n < 10) (w : World) :
    Calls Tryd.prog 39 #[.int .i64 n] w fun e w' => e = .returned (.string (bs (dec3 n))) ∧ w' = w := by
  have hn : n = 0 ∨ n = 1 ∨ n = 2 ∨ n = 3 ∨ n = 4 ∨ n = 5 ∨ n = 6 ∨ n = 7 ∨ n = 8 ∨ n = 9 := by omega
  rcases hn with rfl | rfl | rfl | rfl | rfl | rfl | rfl | rfl | rfl | rfl
  all_goals
    go_enter Tryd.func39, Tryd.ntmps39
    go_wp2
    go_ret
    exact ⟨by rfl, rfl⟩
theorem dig_core (n p q : Int) (h0 : 10 ≤ n) (hn : n < 1000) (hp : p = n / 10) (hq : q = n % 10) (s u t : ByteArray) (w : World)
    (c1 : ∀ w, Calls Tryd.prog 39 #[.int .i64 p] w fun e w' => e = .returned (.string s) ∧ w' = w)
    (c2 : ∀ w, Calls Tryd.prog 39 #[.int .i64 q] w fun e w' => e = .returned (.string u) ∧ w' = w)
    (cat : ∀ w, (Op.stringOp .add s u).run Tryd.prog w = .ok (.string t) w) :
    Calls Tryd.prog 39 #[.int .i64 n] w fun e w' => e = .returned (.string t) ∧ w' = w := by
  subst hp hq
  go_enter Tryd.func39, Tryd.ntmps39
  go_wp2_with (go_at_call 39; (first | with_reducible refine (c1 _).mono ?_ | with_reducible refine (c2 _).mono ?_); rintro e w1 ⟨rfl, rfl⟩)
  go_ret
  exact ⟨rfl, rfl⟩
theorem dec3_two {n : Nat} (h0 : 10 ≤ n) (h : n < 1000) : dec3 (n / 10) ++ dec3 (n % 10) = dec3 n := by
  have key : ∀ n < 1000, 10 ≤ n → dec3 (n / 10) ++ dec3 (n % 10) = dec3 n := by decide +kernel
  exact key n h h0
theorem dig_step (n : Nat) (h0 : 10 ≤ n) (hn : n < 1000) (w : World) (c1 : ∀ w, Calls Tryd.prog 39 #[.int .i64 ((n / 10 : Nat) : Int)] w fun e w' => e = .returned (.string (bs (dec3 (n / 10)))) ∧ w' = w) :
    Calls Tryd.prog 39 #[.int .i64 n] w fun e w' => e = .returned (.string (bs (dec3 n))) ∧ w' = w := by
  have p1 := dec3_pos (n / 10)
  have p2 := dec3_pos (n % 10)
  exact dig_core n ((n / 10 : Nat) : Int) ((n % 10 : Nat) : Int) (by omega) (by omega) (by omega) (by omega) _ _ _ w c1 (fun w => dig1 (n % 10) (by omega) w) (fun w => by
    rw [← dec3_two h0 hn, ← bs_append]
    exact run_string_add_sum w _ _ (by rw [bs_size, bs_size]; omega))
theorem digits_any (n : Nat) (hn : n < 1000) (w : World) :
    Calls Tryd.prog 39 #[.int .i64 n] w fun e w' => e = .returned (.string (bs (dec3 n))) ∧ w' = w := by
  have two : ∀ n : Nat, n < 100 → ∀ w, Calls Tryd.prog 39 #[.int .i64 n] w fun e w' => e = .returned (.string (bs (dec3 n))) ∧ w' = w := fun n hn w => by
    by_cases h : n < 10
    · exact dig1 n h w
    · exact dig_step n (by omega) (by omega) w (fun w => dig1 (n / 10) (by omega) w)
  by_cases h : n < 100
  · exact two n h w
  · exact dig_step n (by omega) hn w (fun w => two (n / 10) (by omega) w)

/-- Numbers in a row of the call's own. -/
def vs (xs : List Nat) : List Value := xs.map fun (x : Nat) => Value.int .i64 (x : Int)
theorem info_int : (Tryd.prog.info? 3).map (fun i => (i.zero, i.size, i.bytes)) = some (some (.int .i64 0), 1, 8) := by kernel_rfl
theorem own_some {w : World} {B n : Nat} {e : TypeId} {v : Value} {xs : List Value} (h : w.ownsRow B e 1 v n xs) (hp : 0 < xs.length) :
    ∃ g cap, v = .slice (some ⟨g, 0, none⟩) n cap ∧ B ≤ g ∧ g < w.heap.size := by
  rcases h.2 with ⟨rfl, h0⟩ | ⟨g, cap, cur, rfl, hb, hg, _⟩
  · have h1 := h.1
    rw [h0, Nat.zero_mul] at h1
    omega
  · exact ⟨g, cap, rfl, hb, (Array.getElem?_eq_some_iff.1 hg).1⟩
set_option maxRecDepth 100000 in
set_option maxHeartbeats 1000000 in
theorem numbers_any (l : List UInt8) (hl : l.length ≤ 1000) (w : World) :
    Calls Tryd.prog 36 #[.string (bs l)] w fun e w' => ∃ g cap, e = .returned (.slice (some ⟨g, 0, none⟩) (nums [] 0 l).length cap) ∧ w.heap.size ≤ g ∧ (∀ (j : Nat) (x : Nat), (nums [] 0 l)[j]? = some x → w'.cell? ⟨g, j, none⟩ = some (.int .i64 (x : Int))) ∧ Below w.heap.size w w' := by
  obtain ⟨i0, hi, hz0, hz1, hz2⟩ := info_parts info_int
  obtain ⟨L, hL⟩ : ∃ L, (bs l).size = L := ⟨_, rfl⟩
  have hlL : l.length = L := by rw [← hL, bs_size]
  have HI : Hid (∀ (k : Nat) (c : UInt8), l[k]? = some c → ∀ w, (Instr.index 9 (.string (bs l)) (.int .i64 (k : Int))).run Tryd.prog w = .ok (.int .u8 (c.toNat : Int)) w) := by
    show ∀ _, _
    intro k c hc w
    have hk : k < (bs l).size := by rw [bs_size]; exact (List.getElem?_eq_some_iff.1 hc).1
    rw [run_index_string w _ _ _ _ Tryd.underlying9, dif_pos ⟨by omega, by omega⟩]
    have e : (bs l)[((k : Nat) : Int).toNat]'(by simpa using hk) = c := by
      have h2 := (List.getElem?_eq_some_iff.1 hc).2
      rw [← h2]
      rfl
    rw [e]
  generalize bs l = s at hL HI ⊢
  obtain ⟨B, hB⟩ : ∃ B, B = w.heap.size := ⟨_, rfl⟩
  have R0 : (w.alloc (.cells #[.int .i64 0] 3)).ownsRow B 3 1 (.slice (some ⟨w.heap.size, 0, none⟩) 1 1) 1 (vs ([] ++ [0])) := World.ownsRow_lit (base := B) (e := 3) (size := 1) w #[.int .i64 0] 1 (Nat.le_of_eq hB) (by unfold maxLen; omega) (by simp)
  have HB : Hid (B = w.heap.size) := hB
  clear hB
  go_enter Tryd.func36, Tryd.ntmps36
  go_wp2_with fail
  go_loopw [3, 4] (fun v i wr => ∃ (k : Nat) (pre : List Nat) (x g cap P : Nat), pre.length = P ∧ k ≤ L ∧ i = .int .i64 k ∧ v = .slice (some ⟨g, 0, none⟩) (P + 1) cap ∧ B ≤ g ∧ wr.ownsRow B 3 1 (.slice (some ⟨g, 0, none⟩) (P + 1) cap) (P + 1) (vs (pre ++ [x])) ∧ Hid (nums [] 0 l = nums pre x (l.drop k)) ∧ x < 10009 ∧ P ≤ k ∧ Below w.heap.size w wr) (fun _ i _ => L - (intOf i).toNat)
  case atStart => exact ⟨0, [], 0, w.heap.size, 1, 0, rfl, by omega, rfl, rfl, Nat.le_of_eq HB.out, R0, rfl, by omega, by omega, bnew _ _⟩
  case round =>
    obtain ⟨k, pre, x, g, cap, P, hP, hk, rfl, rfl, hBg, hown, HN, hx, hPk, hbel⟩ := hrel
    by_cases hlt : k < L
    · obtain ⟨c, hc⟩ : ∃ c, l[k]? = some c := ⟨l[k]'(by omega), List.getElem?_eq_getElem (by omega)⟩
      have hidx := HI.out k c hc
      have hdrop : l.drop k = c :: l.drop (k + 1) := by
        rw [List.drop_eq_getElem_cons (by omega)]
        congr 1
        exact (List.getElem?_eq_some_iff.1 hc).2
      have hcl := c.toNat_lt
      have hcell : wr.cell? ⟨g, P, none⟩ = some (.int .i64 (x : Int)) := by
        rw [hown.cellAt P (by omega)]
        simp [vs, ← hP]
      have hfz := hown.frozenAt P
      by_cases hd : isDig c = true
      · have hn1 : nums [] 0 l = nums pre (more x c) (l.drop (k + 1)) := by rw [HN.out, hdrop, nums, if_pos hd]
        simp only [isDig, Bool.and_eq_true, decide_eq_true_eq] at hd
        obtain ⟨d1, d2⟩ := hd
        have HN1 : Hid (nums [] 0 l = nums pre (more x c) (l.drop (k + 1))) := hn1
        have hst := (hown.stored P (.int .i64 ((10 * x + (c.toNat - 48) : Nat) : Int))).1
        have hset : (vs (pre ++ [x])).set P (.int .i64 ((10 * x + (c.toNat - 48) : Nat) : Int)) = vs (pre ++ [10 * x + (c.toNat - 48)]) := by
          simp [vs, ← hP]
        rw [hset] at hst
        have hbs := hbel.setCell (p := ⟨g, P, none⟩) (by have := HB.out; simp; omega) (.int .i64 ((10 * x + (c.toNat - 48) : Nat) : Int))
        have hval : ((10 * x + (c.toNat - 48) : Nat) : Int) = 10 * (x : Int) + (c.toNat : Int) - 48 := by omega
        rw [hval] at hst hbs
        have HW : Hid (((10 * x + (c.toNat - 48) : Nat) : Int) = 10 * (x : Int) + (c.toNat : Int) - 48) := hval
        obtain ⟨C, hC⟩ : ∃ C, C = c.toNat := ⟨_, rfl⟩
        have HC : Hid (C = c.toNat) := hC
        rw [← hC] at hidx d1 d2 hst hbs hcl
        clear hn1 hdrop HN hval hset hC hc HI
        by_cases hx1 : x < 1000
        · clear hown
          go_wp2_with fail
          go_roundw
          case rel => exact ⟨k + 1, pre, 10 * x + (C - 48), g, cap, P, hP, by omega, by simp, rfl, hBg, hst, by have := HN1.out; unfold more at this; rw [if_pos hx1, ← HC.out] at this; exact this, by omega, by omega, hbs⟩
          case measure => simp [intOf]; omega
        · clear hst hbs
          go_wp2_with fail
          go_roundw
          case rel => exact ⟨k + 1, pre, x, g, cap, P, hP, by omega, by simp, rfl, hBg, hown, by have := HN1.out; unfold more at this; rw [if_neg hx1] at this; exact this, hx, by omega, hbel⟩
          case measure => simp [intOf]; omega
      · have hn1 : nums [] 0 l = nums (pre ++ [x]) 0 (l.drop (k + 1)) := by rw [HN.out, hdrop, nums, if_neg hd]
        have HN1 : Hid (nums [] 0 l = nums (pre ++ [x]) 0 (l.drop (k + 1))) := hn1
        have hd' : c.toNat < 48 ∨ 57 < c.toNat := by
          simp only [isDig, Bool.and_eq_true, decide_eq_true_eq] at hd
          omega
        obtain ⟨C, hC⟩ : ∃ C, C = c.toNat := ⟨_, rfl⟩
        rw [← hC] at hidx hd' hcl
        clear hn1 hdrop HN hC hc HI hd hcell hfz
        rcases hd' with hd' | hd'
        all_goals
          go_wp2_with (at_builtin; refine wpList_append_own _ rfl _ _ 57 rfl B 3 i0 (.int .i64 0) 1 8 Tryd.underlying57 hi hz0 hz1 hz2 rfl (by decide) _ _ _ rfl (hown.alloc _) ⟨wr.heap.size, 0, none⟩ 1 1 [.int .i64 0] rfl rfl one_cell one_one ?c3 ?c4 ?c5 ?_)
          case c3 => unfold maxLen; omega
          case c4 => omega
          case c5 => have := hbel.size; have := HB.out; simp; omega
          intro v' w2 hown' hgrow _
          have hbn : Below w.heap.size w w2 := by
            have hs := hbel.size
            refine (bal hbel _).grown hgrow (by simp; omega) fun g' hg' => ?_
            have := (hown.lt g' hg').1
            have := HB.out
            omega
          obtain ⟨g2, cap2, rfl, hB2, _⟩ := own_some hown' (by simp)
          have hrow : vs (pre ++ [x]) ++ [.int .i64 0] = vs (pre ++ [x] ++ [0]) := by simp [vs]
          rw [hrow] at hown'
          clear hown hgrow hrow
          go_wp2_with fail
          go_roundw
          case rel => exact ⟨k + 1, pre ++ [x], 0, g2, cap2, P + 1, by simp [hP], by omega, by simp, rfl, hB2, hown', HN1.out, by omega, by omega, hbn⟩
          case measure => simp [intOf]; omega
    · obtain rfl : k = L := by omega
      have hnil : l.drop k = [] := List.drop_eq_nil_of_le (by omega)
      have hres : nums [] 0 l = pre ++ [x] := by rw [HN.out, hnil]; rfl
      have hlen : (nums [] 0 l).length = P + 1 := by rw [hres]; simp [hP]
      have hcells : ∀ (j : Nat) (y : Nat), (nums [] 0 l)[j]? = some y → wr.cell? ⟨g, j, none⟩ = some (.int .i64 (y : Int)) := fun j y hy => by
        have hj : j < P + 1 := by rw [← hlen]; exact (List.getElem?_eq_some_iff.1 hy).1
        rw [hown.cellAt j (by omega)]
        rw [hres] at hy
        rw [vs, List.getElem?_map, hy]
        rfl
      have HH := HB.out
      clear hown HI
      go_wp2_with fail
      go_ret
      exact ⟨g, cap, by rw [hlen]; rfl, by omega, hcells, hbel⟩
end Go.Proofs.YtpekkmnomfeglaaDoor.Addr
