/-
  The document's answers, as they are typed out: Sum, Right, two.
-/
import Derived.Test.YtogijgpamdcjkaaHeadMake
namespace Go.Proofs.Ytogijgpamdcjkaa.Head
open Go.RowKit Go.Proofs.Ytogijgpamdcjkaa.Mem

theorem tot_two {zs : List Int} {k : Nat} (h : k + 1 < zs.length) (hk : k % 2 = 0) : tot true (zs.take (k + 2)) = tot true (zs.take k) + (256 * zs.getD k 0 + zs.getD (k + 1) 0) := by
  rw [tot_snoc (k := k + 1) h, tot_snoc (k := k) (by omega), if_pos hk, if_neg (by omega)]
  omega
theorem tot_last {zs : List Int} {k : Nat} (h : k < zs.length) (h1 : ¬ k + 1 < zs.length) (hk : k % 2 = 0) : tot true (zs.take (k + 2)) = tot true (zs.take k) + 256 * zs.getD k 0 := by
  have e : zs.take (k + 2) = zs.take (k + 1) := by rw [List.take_of_length_le (by omega), List.take_of_length_le (by omega)]
  rw [e, tot_snoc (k := k) h, if_pos hk]
theorem ref_Sum (p : Option Addr) (n c : Nat) (xs : List Int) (l : xs.length = n) (hx : ∀ c ∈ xs, Byte c) (hn : n ≤ 100000) (w : World) (r : Reads .u8 w p c xs) :
    Calls Try.prog 13 #[.slice p n c] w fun e w' => e = .returned (.int .i64 (sumI xs)) ∧ w' = w := by
  have hT : ∀ k, 0 ≤ tot true (xs.take k) := fun k => (tot_range true (fun c hc => hx c (List.mem_of_mem_take hc))).1
  go_enter Try.func13, Try.ntmps13
  go_wp2
  go_loop [3, 4] (fun x i => ∃ (k : Nat) (s : Int), k ≤ n + 1 ∧ k % 2 = 0 ∧ 0 ≤ s ∧ s ≤ 65535 ∧ i = .int .i64 k ∧ x = .int .i64 s ∧ Hid (s = fold (tot true (xs.take k)))) (fun _ i => n + 1 - (intOf i).toNat)
  case atStart => exact ⟨0, 0, by omega, by omega, by omega, by omega, rfl, rfl, by simp [Hid, tot, fold]⟩
  case round =>
    obtain ⟨k, s, hk, hev, hs0, hs1, rfl, rfl, HS⟩ := hrel
    have HT : Hid (0 ≤ tot true (xs.take k)) := hT k
    clear hT
    by_cases hlt : k < n
    · obtain ⟨b, o, rfl, _, hcell⟩ := r.2.2.2 (by omega)
      obtain ⟨y, hy⟩ : ∃ y, y = xs.getD k 0 := ⟨_, rfl⟩
      have hck : w.cell? ⟨b, o + k, none⟩ = some (.int .u8 y) := by rw [hy]; exact hcell k (by omega)
      obtain ⟨y0, y1⟩ : Byte y := by rw [hy]; exact getD_byte hx k
      by_cases hl1 : k + 1 < n
      · obtain ⟨z, hz⟩ : ∃ z, z = xs.getD (k + 1) 0 := ⟨_, rfl⟩
        have hcz : w.cell? ⟨b, o + (k + 1), none⟩ = some (.int .u8 z) := by rw [hz]; exact hcell (k + 1) (by omega)
        obtain ⟨z0, z1⟩ : Byte z := by rw [hz]; exact getD_byte hx (k + 1)
        have htw := tot_two (zs := xs) (k := k) (by omega) hev
        rw [← hy, ← hz] at htw
        have hfo := fold_add (a := tot true (xs.take k)) (b := 256 * y + z) HT.out (by omega)
        rw [← htw, ← HS.out] at hfo
        clear hy hz hcell htw HS HT
        by_cases hbig : 65535 < s + 256 * y + z
        · have HN : Hid (s + 256 * y + z - 65535 = fold (tot true (xs.take (k + 2)))) := by show _ = _; rw [← hfo, fold_less (by omega) (by omega)]; omega
          clear hfo
          go_wp2
          go_round
          case rel => exact ⟨k + 2, s + 256 * y + z - 65535, by omega, by omega, by omega, by omega, by go_num, rfl, HN⟩
          case measure => simp [intOf]; omega
        · have HN : Hid (s + 256 * y + z = fold (tot true (xs.take (k + 2)))) := by show _ = _; rw [← hfo, fold_small (by omega) (by omega)]; omega
          clear hfo
          go_wp2
          go_round
          case rel => exact ⟨k + 2, s + 256 * y + z, by omega, by omega, by omega, by omega, by go_num, rfl, HN⟩
          case measure => simp [intOf]; omega
      · have htw := tot_last (zs := xs) (k := k) (by omega) (by omega) hev
        rw [← hy] at htw
        have hfo := fold_add (a := tot true (xs.take k)) (b := 256 * y) HT.out (by omega)
        rw [← htw, ← HS.out] at hfo
        clear hy hcell htw HS HT
        by_cases hbig : 65535 < s + 256 * y
        · have HN : Hid (s + 256 * y - 65535 = fold (tot true (xs.take (k + 2)))) := by show _ = _; rw [← hfo, fold_less (by omega) (by omega)]
          clear hfo
          go_wp2
          go_round
          case rel => exact ⟨k + 2, s + 256 * y - 65535, by omega, by omega, by omega, by omega, by go_num, rfl, HN⟩
          case measure => simp [intOf]; omega
        · have HN : Hid (s + 256 * y = fold (tot true (xs.take (k + 2)))) := by show _ = _; rw [← hfo, fold_small (by omega) (by omega)]
          clear hfo
          go_wp2
          go_round
          case rel => exact ⟨k + 2, s + 256 * y, by omega, by omega, by omega, by omega, by go_num, rfl, HN⟩
          case measure => simp [intOf]; omega
    · have hkn : xs.take k = xs := List.take_of_length_le (by omega)
      rw [hkn] at HS
      have HE : Hid (65535 - s = sumI xs) := by show _ = _; unfold sumI; rw [← HS.out]
      clear hkn HS
      go_wp2
      go_ret
      exact ⟨ret_int HE.out, rfl⟩
theorem idx3 (v0 v1 v2 : Int) (w : World) :
    (Instr.index 57 (.agg #[.int .i64 v0, .int .i64 v1, .int .i64 v2]) (.int .i64 0)).run Try.prog w = .ok (.int .i64 v0) w ∧
    (Instr.index 57 (.agg #[.int .i64 v0, .int .i64 v1, .int .i64 v2]) (.int .i64 1)).run Try.prog w = .ok (.int .i64 v1) w ∧
    (Instr.index 57 (.agg #[.int .i64 v0, .int .i64 v1, .int .i64 v2]) (.int .i64 2)).run Try.prog w = .ok (.int .i64 v2) w := by
  refine ⟨?_, ?_, ?_⟩
  all_goals simp [Instr.index, run_underlying Try.underlying57, asIntOf, go_sem]
theorem ref_two (v : Int) (h0 : 0 ≤ v) (h1 : v ≤ 65535) (w : World) :
    Calls Try.prog 30 #[.int .i64 v] w fun e w' => e = .returned (.slice (some ⟨w.heap.size, 0, none⟩) 2 2) ∧ w' = w.alloc (.cells #[.int .u8 (v / 256), .int .u8 (v % 256)] 5) := by
  go_enter Try.func30, Try.ntmps30
  go_wp2
  go_ret
  exact ⟨rfl, rfl⟩
set_option maxHeartbeats 1000000 in
theorem ref_Right (h : Hd) (q : Option Addr) (m c : Nat) (hm : m ≤ 9223372036854775807) (w : World) :
    Calls Try.prog 26 #[.agg #[.int .i64 h.tos, .int .i64 h.id, .int .i64 h.fl, .int .i64 h.ttl, .int .i64 h.pr, .int .u8 h.s0, .int .u8 h.s1, .int .u8 h.s2, .int .u8 h.s3, .int .u8 h.d0, .int .u8 h.d1, .int .u8 h.d2, .int .u8 h.d3, .slice q m c]] w fun e w' => e = .returned (.bool (rightB h m)) ∧ Below w.heap.size w w' := by
  have i0 := fun w => (idx3 h.tos h.ttl h.pr w).1
  have i1 := fun w => (idx3 h.tos h.ttl h.pr w).2.1
  have i2 := fun w => (idx3 h.tos h.ttl h.pr w).2.2
  have hE : ∀ {b : Bool}, rightB h m = b → Hid (b = rightB h m) := fun e => e.symm
  by_cases a0 : h.tos < 0
  · have HE := hE (b := false) (by simp [rightB, upB]; omega)
    go_enter Try.func26, Try.ntmps26
    go_wp2
    refine wp_loop_rounds 4 ?_
    rw [rounds_succ]
    go_wp2
    go_ret
    exact ⟨by rw [← HE.out]; rfl, bnew _ _⟩
  by_cases a1 : 255 < h.tos
  · have HE := hE (b := false) (by simp [rightB, upB]; omega)
    go_enter Try.func26, Try.ntmps26
    go_wp2
    refine wp_loop_rounds 4 ?_
    rw [rounds_succ]
    go_wp2
    go_ret
    exact ⟨by rw [← HE.out]; rfl, bnew _ _⟩
  by_cases a2 : h.ttl < 0
  · have HE := hE (b := false) (by simp [rightB, upB]; omega)
    go_enter Try.func26, Try.ntmps26
    go_wp2
    refine wp_loop_rounds 4 ?_
    rw [rounds_succ]
    go_wp2
    rw [rounds_succ]
    go_wp2
    go_ret
    exact ⟨by rw [← HE.out]; rfl, bnew _ _⟩
  by_cases a3 : 255 < h.ttl
  · have HE := hE (b := false) (by simp [rightB, upB]; omega)
    go_enter Try.func26, Try.ntmps26
    go_wp2
    refine wp_loop_rounds 4 ?_
    rw [rounds_succ]
    go_wp2
    rw [rounds_succ]
    go_wp2
    go_ret
    exact ⟨by rw [← HE.out]; rfl, bnew _ _⟩
  by_cases a4 : h.pr < 0
  · have HE := hE (b := false) (by simp [rightB, upB]; omega)
    go_enter Try.func26, Try.ntmps26
    go_wp2
    refine wp_loop_rounds 4 ?_
    rw [rounds_succ]
    go_wp2
    rw [rounds_succ]
    go_wp2
    rw [rounds_succ]
    go_wp2
    go_ret
    exact ⟨by rw [← HE.out]; rfl, bnew _ _⟩
  by_cases a5 : 255 < h.pr
  · have HE := hE (b := false) (by simp [rightB, upB]; omega)
    go_enter Try.func26, Try.ntmps26
    go_wp2
    refine wp_loop_rounds 4 ?_
    rw [rounds_succ]
    go_wp2
    rw [rounds_succ]
    go_wp2
    rw [rounds_succ]
    go_wp2
    go_ret
    exact ⟨by rw [← HE.out]; rfl, bnew _ _⟩
  by_cases a6 : h.id < 0
  · have HE := hE (b := false) (by simp [rightB, upB]; omega)
    go_enter Try.func26, Try.ntmps26
    go_wp2
    refine wp_loop_rounds 4 ?_
    rw [rounds_succ]
    go_wp2
    rw [rounds_succ]
    go_wp2
    rw [rounds_succ]
    go_wp2
    rw [rounds_succ]
    go_wp2
    go_ret
    exact ⟨by rw [← HE.out]; rfl, bnew _ _⟩
  by_cases a7 : 65535 < h.id
  · have HE := hE (b := false) (by simp [rightB, upB]; omega)
    go_enter Try.func26, Try.ntmps26
    go_wp2
    refine wp_loop_rounds 4 ?_
    rw [rounds_succ]
    go_wp2
    rw [rounds_succ]
    go_wp2
    rw [rounds_succ]
    go_wp2
    rw [rounds_succ]
    go_wp2
    go_ret
    exact ⟨by rw [← HE.out]; rfl, bnew _ _⟩
  by_cases a8 : h.fl < 0
  · have HE := hE (b := false) (by simp [rightB, upB]; omega)
    go_enter Try.func26, Try.ntmps26
    go_wp2
    refine wp_loop_rounds 4 ?_
    rw [rounds_succ]
    go_wp2
    rw [rounds_succ]
    go_wp2
    rw [rounds_succ]
    go_wp2
    rw [rounds_succ]
    go_wp2
    go_ret
    exact ⟨by rw [← HE.out]; rfl, bnew _ _⟩
  by_cases a9 : 65535 < h.fl
  · have HE := hE (b := false) (by simp [rightB, upB]; omega)
    go_enter Try.func26, Try.ntmps26
    go_wp2
    refine wp_loop_rounds 4 ?_
    rw [rounds_succ]
    go_wp2
    rw [rounds_succ]
    go_wp2
    rw [rounds_succ]
    go_wp2
    rw [rounds_succ]
    go_wp2
    go_ret
    exact ⟨by rw [← HE.out]; rfl, bnew _ _⟩
  by_cases a10 : 40 < m
  · have HE := hE (b := false) (by simp [rightB, upB]; omega)
    go_enter Try.func26, Try.ntmps26
    go_wp2
    refine wp_loop_rounds 4 ?_
    rw [rounds_succ]
    go_wp2
    rw [rounds_succ]
    go_wp2
    rw [rounds_succ]
    go_wp2
    rw [rounds_succ]
    go_wp2
    go_ret
    exact ⟨by rw [← HE.out]; rfl, bnew _ _⟩
  by_cases a11 : m % 4 = 0
  · have d4 : ((m : Int) % 4 == 0) = true := by simp; omega
    have HE := hE (b := true) (by simp [rightB, upB]; omega)
    go_enter Try.func26, Try.ntmps26
    go_wp2
    refine wp_loop_rounds 4 ?_
    rw [rounds_succ]
    go_wp2
    rw [rounds_succ]
    go_wp2
    rw [rounds_succ]
    go_wp2
    rw [rounds_succ]
    go_wp2
    go_ret
    exact ⟨by rw [← HE.out]; rfl, bnew _ _⟩
  · have d4 : ((m : Int) % 4 == 0) = false := by simp; omega
    have HE := hE (b := false) (by simp [rightB, upB]; omega)
    go_enter Try.func26, Try.ntmps26
    go_wp2
    refine wp_loop_rounds 4 ?_
    rw [rounds_succ]
    go_wp2
    rw [rounds_succ]
    go_wp2
    rw [rounds_succ]
    go_wp2
    rw [rounds_succ]
    go_wp2
    go_ret
    exact ⟨by rw [← HE.out]; rfl, bnew _ _⟩
end Go.Proofs.Ytogijgpamdcjkaa.Head
