/-
  The document's Parse and ParseNet: there is an address, a network, or there is none.
-/
import Derived.Test.YtpekkmnomfeglaaDoorAddrRefText
import Derived.Test.YtpekkmnomfeglaaDoorAddrReadNet
namespace Go.Proofs.YtpekkmnomfeglaaDoor.Addr
open Go.RowKit Go.Proofs.YtpekkmnomfeglaaDoor.Mem

set_option maxRecDepth 100000 in
theorem rpn_len (s : ByteArray) (n : Nat) (h : n ≠ 5) (w : World) (hn : ∀ w, Calls Tryd.prog 36 #[.string s] w fun e w' => ∃ g cap, e = .returned (.slice (some ⟨g, 0, none⟩) n cap) ∧ w.heap.size ≤ g ∧ g < w'.heap.size ∧ Below w.heap.size w w') :
    Calls Tryd.prog 26 #[.string s] w fun e w' => e = .returned (.tuple #[.agg #[.int .u8 0, .int .u8 0, .int .u8 0, .int .u8 0, .int .i64 0], .int .i64 41]) ∧ Below w.heap.size w w' := by
  have hd : ((n : Int) == 5) = false := by simp; omega
  go_enter Tryd.func26, Tryd.ntmps26
  go_wp2_with (go_at_call 36; refine (hn _).mono ?_; rintro e w1 ⟨g, cap, rfl, _, _, hb1⟩; have K := (new5 w _ _ _ _ _ _).below hb1; obtain ⟨⟨k0, k1, k2, k3, f0, f1, f2, f3, hg⟩, k4, f4⟩ := id K)
  have D := bnext (bnew w _) hb1
  try simp only [Exit.inBlock, Exit.then]
  refine bodyPost_ret (v := .tuple #[.agg #[.int .u8 0, .int .u8 0, .int .u8 0, .int .u8 0, .int .i64 0], .int .i64 41]) (by simp [results, Tryd.results26, go_sem, k0, k1, k2, k3, k4]) rfl ⟨rfl, ?_⟩
  repeat (first | with_reducible exact D | with_reducible apply Below.drew | with_reducible apply bal | with_reducible refine Below.setCell ?_ (by first | exact Nat.le_refl _ | (simp; omega)) _)
set_option maxRecDepth 100000 in
set_option maxHeartbeats 2000000 in
theorem rpn_big0 (s : ByteArray) (m0 m1 m2 m3 m4 : Int)  (big : 255 < m0) (w : World) (hn : ∀ w, Calls Tryd.prog 36 #[.string s] w fun e w' => ∃ g cap, e = .returned (.slice (some ⟨g, 0, none⟩) 5 cap) ∧ w.heap.size ≤ g ∧ g < w'.heap.size ∧ (w'.cell? ⟨g, 0, none⟩ = some (.int .i64 m0) ∧ w'.cell? ⟨g, 1, none⟩ = some (.int .i64 m1) ∧ w'.cell? ⟨g, 2, none⟩ = some (.int .i64 m2) ∧ w'.cell? ⟨g, 3, none⟩ = some (.int .i64 m3) ∧ w'.cell? ⟨g, 4, none⟩ = some (.int .i64 m4)) ∧ Below w.heap.size w w') :
    Calls Tryd.prog 26 #[.string s] w fun e w' => e = .returned (.tuple #[.agg #[.int .u8 0, .int .u8 0, .int .u8 0, .int .u8 0, .int .i64 0], .int .i64 41]) ∧ Below w.heap.size w w' := by
  go_enter Tryd.func26, Tryd.ntmps26
  go_wp2_with (go_at_call 36; refine (hn _).mono ?_; rintro e w1 ⟨g, cap, rfl, hle, hlt, ⟨d0, d1, d2, d3, d4⟩, hb1⟩; have K := (new5 w _ _ _ _ _ _).below hb1; obtain ⟨⟨k0, k1, k2, k3, f0, f1, f2, f3, hg⟩, k4, f4⟩ := id K)
  have D := bnext (bnew w _) hb1
  clear hb1 hn
  try simp only [Exit.inBlock, Exit.then]
  refine bodyPost_ret (v := .tuple #[.agg #[.int .u8 0, .int .u8 0, .int .u8 0, .int .u8 0, .int .i64 0], .int .i64 41]) (by simp [results, Tryd.results26, go_sem, k0, k1, k2, k3, k4]) rfl ⟨rfl, ?_⟩
  repeat (first | with_reducible exact D | with_reducible apply Below.drew | with_reducible apply bal | with_reducible refine Below.setCell ?_ (by first | exact Nat.le_refl _ | (simp; omega)) _)
set_option maxRecDepth 100000 in
set_option maxHeartbeats 2000000 in
theorem rpn_big1 (s : ByteArray) (m0 m1 m2 m3 m4 : Int) (t0 : 0 ≤ m0) (r0 : m0 < 256) (big : 255 < m1) (w : World) (hn : ∀ w, Calls Tryd.prog 36 #[.string s] w fun e w' => ∃ g cap, e = .returned (.slice (some ⟨g, 0, none⟩) 5 cap) ∧ w.heap.size ≤ g ∧ g < w'.heap.size ∧ (w'.cell? ⟨g, 0, none⟩ = some (.int .i64 m0) ∧ w'.cell? ⟨g, 1, none⟩ = some (.int .i64 m1) ∧ w'.cell? ⟨g, 2, none⟩ = some (.int .i64 m2) ∧ w'.cell? ⟨g, 3, none⟩ = some (.int .i64 m3) ∧ w'.cell? ⟨g, 4, none⟩ = some (.int .i64 m4)) ∧ Below w.heap.size w w') :
    Calls Tryd.prog 26 #[.string s] w fun e w' => e = .returned (.tuple #[.agg #[.int .u8 0, .int .u8 0, .int .u8 0, .int .u8 0, .int .i64 0], .int .i64 41]) ∧ Below w.heap.size w w' := by
  go_enter Tryd.func26, Tryd.ntmps26
  go_wp2_with (go_at_call 36; refine (hn _).mono ?_; rintro e w1 ⟨g, cap, rfl, hle, hlt, ⟨d0, d1, d2, d3, d4⟩, hb1⟩; have K := (new5 w _ _ _ _ _ _).below hb1; obtain ⟨⟨k0, k1, k2, k3, f0, f1, f2, f3, hg⟩, k4, f4⟩ := id K)
  have D := bnext (bnew w _) hb1
  clear hb1 hn
  try simp only [Exit.inBlock, Exit.then]
  refine bodyPost_ret (v := .tuple #[.agg #[.int .u8 0, .int .u8 0, .int .u8 0, .int .u8 0, .int .i64 0], .int .i64 41]) (by simp [results, Tryd.results26, go_sem, k0, k1, k2, k3, k4]) rfl ⟨rfl, ?_⟩
  repeat (first | with_reducible exact D | with_reducible apply Below.drew | with_reducible apply bal | with_reducible refine Below.setCell ?_ (by first | exact Nat.le_refl _ | (simp; omega)) _)
set_option maxRecDepth 100000 in
set_option maxHeartbeats 2000000 in
theorem rpn_big2 (s : ByteArray) (m0 m1 m2 m3 m4 : Int) (t0 : 0 ≤ m0) (r0 : m0 < 256) (t1 : 0 ≤ m1) (r1 : m1 < 256) (big : 255 < m2) (w : World) (hn : ∀ w, Calls Tryd.prog 36 #[.string s] w fun e w' => ∃ g cap, e = .returned (.slice (some ⟨g, 0, none⟩) 5 cap) ∧ w.heap.size ≤ g ∧ g < w'.heap.size ∧ (w'.cell? ⟨g, 0, none⟩ = some (.int .i64 m0) ∧ w'.cell? ⟨g, 1, none⟩ = some (.int .i64 m1) ∧ w'.cell? ⟨g, 2, none⟩ = some (.int .i64 m2) ∧ w'.cell? ⟨g, 3, none⟩ = some (.int .i64 m3) ∧ w'.cell? ⟨g, 4, none⟩ = some (.int .i64 m4)) ∧ Below w.heap.size w w') :
    Calls Tryd.prog 26 #[.string s] w fun e w' => e = .returned (.tuple #[.agg #[.int .u8 0, .int .u8 0, .int .u8 0, .int .u8 0, .int .i64 0], .int .i64 41]) ∧ Below w.heap.size w w' := by
  go_enter Tryd.func26, Tryd.ntmps26
  go_wp2_with (go_at_call 36; refine (hn _).mono ?_; rintro e w1 ⟨g, cap, rfl, hle, hlt, ⟨d0, d1, d2, d3, d4⟩, hb1⟩; have K := (new5 w _ _ _ _ _ _).below hb1; obtain ⟨⟨k0, k1, k2, k3, f0, f1, f2, f3, hg⟩, k4, f4⟩ := id K)
  have D := bnext (bnew w _) hb1
  clear hb1 hn
  try simp only [Exit.inBlock, Exit.then]
  refine bodyPost_ret (v := .tuple #[.agg #[.int .u8 0, .int .u8 0, .int .u8 0, .int .u8 0, .int .i64 0], .int .i64 41]) (by simp [results, Tryd.results26, go_sem, k0, k1, k2, k3, k4]) rfl ⟨rfl, ?_⟩
  repeat (first | with_reducible exact D | with_reducible apply Below.drew | with_reducible apply bal | with_reducible refine Below.setCell ?_ (by first | exact Nat.le_refl _ | (simp; omega)) _)
set_option maxRecDepth 100000 in
set_option maxHeartbeats 2000000 in
theorem rpn_big3 (s : ByteArray) (m0 m1 m2 m3 m4 : Int) (t0 : 0 ≤ m0) (r0 : m0 < 256) (t1 : 0 ≤ m1) (r1 : m1 < 256) (t2 : 0 ≤ m2) (r2 : m2 < 256) (big : 255 < m3) (w : World) (hn : ∀ w, Calls Tryd.prog 36 #[.string s] w fun e w' => ∃ g cap, e = .returned (.slice (some ⟨g, 0, none⟩) 5 cap) ∧ w.heap.size ≤ g ∧ g < w'.heap.size ∧ (w'.cell? ⟨g, 0, none⟩ = some (.int .i64 m0) ∧ w'.cell? ⟨g, 1, none⟩ = some (.int .i64 m1) ∧ w'.cell? ⟨g, 2, none⟩ = some (.int .i64 m2) ∧ w'.cell? ⟨g, 3, none⟩ = some (.int .i64 m3) ∧ w'.cell? ⟨g, 4, none⟩ = some (.int .i64 m4)) ∧ Below w.heap.size w w') :
    Calls Tryd.prog 26 #[.string s] w fun e w' => e = .returned (.tuple #[.agg #[.int .u8 0, .int .u8 0, .int .u8 0, .int .u8 0, .int .i64 0], .int .i64 41]) ∧ Below w.heap.size w w' := by
  go_enter Tryd.func26, Tryd.ntmps26
  go_wp2_with (go_at_call 36; refine (hn _).mono ?_; rintro e w1 ⟨g, cap, rfl, hle, hlt, ⟨d0, d1, d2, d3, d4⟩, hb1⟩; have K := (new5 w _ _ _ _ _ _).below hb1; obtain ⟨⟨k0, k1, k2, k3, f0, f1, f2, f3, hg⟩, k4, f4⟩ := id K)
  have D := bnext (bnew w _) hb1
  clear hb1 hn
  try simp only [Exit.inBlock, Exit.then]
  refine bodyPost_ret (v := .tuple #[.agg #[.int .u8 0, .int .u8 0, .int .u8 0, .int .u8 0, .int .i64 0], .int .i64 41]) (by simp [results, Tryd.results26, go_sem, k0, k1, k2, k3, k4]) rfl ⟨rfl, ?_⟩
  repeat (first | with_reducible exact D | with_reducible apply Below.drew | with_reducible apply bal | with_reducible refine Below.setCell ?_ (by first | exact Nat.le_refl _ | (simp; omega)) _)
set_option maxRecDepth 100000 in
set_option maxHeartbeats 2000000 in
theorem rpn_ne (s u : ByteArray) (m0 m1 m2 m3 m4 : Int) (t0 : 0 ≤ m0) (r0 : m0 < 256) (t1 : 0 ≤ m1) (r1 : m1 < 256) (t2 : 0 ≤ m2) (r2 : m2 < 256) (t3 : 0 ≤ m3) (r3 : m3 < 256) (w : World) (hn : ∀ w, Calls Tryd.prog 36 #[.string s] w fun e w' => ∃ g cap, e = .returned (.slice (some ⟨g, 0, none⟩) 5 cap) ∧ w.heap.size ≤ g ∧ g < w'.heap.size ∧ (w'.cell? ⟨g, 0, none⟩ = some (.int .i64 m0) ∧ w'.cell? ⟨g, 1, none⟩ = some (.int .i64 m1) ∧ w'.cell? ⟨g, 2, none⟩ = some (.int .i64 m2) ∧ w'.cell? ⟨g, 3, none⟩ = some (.int .i64 m3) ∧ w'.cell? ⟨g, 4, none⟩ = some (.int .i64 m4)) ∧ Below w.heap.size w w')
    (ht : ∀ w, Calls Tryd.prog 30 #[(.agg #[.int .u8 m0, .int .u8 m1, .int .u8 m2, .int .u8 m3, .int .i64 m4])] w fun e w' => e = .returned (.string u) ∧ Below w.heap.size w w') (hq : (u.toList == s.toList) = false) (hz1 : s.toList.isEmpty = false) :
    Calls Tryd.prog 26 #[.string s] w fun e w' => e = .returned (.tuple #[.agg #[.int .u8 0, .int .u8 0, .int .u8 0, .int .u8 0, .int .i64 0], .int .i64 41]) ∧ Below w.heap.size w w' := by
  go_enter Tryd.func26, Tryd.ntmps26
  go_wp2_with (go_at_call 36; refine (hn _).mono ?_; rintro e w1 ⟨g, cap, rfl, hle, hlt, ⟨d0, d1, d2, d3, d4⟩, hb1⟩; have K := (new5 w _ _ _ _ _ _).below hb1; obtain ⟨⟨k0, k1, k2, k3, f0, f1, f2, f3, hg⟩, k4, f4⟩ := id K)
  have D := bnext (bnew w _) hb1
  clear hb1 hn
  go_region
  go_wp2_with (go_at_call 30; refine (ht _).mono ?_; rintro e w2 ⟨rfl, hb2⟩; have K2 := ((K.alloc _).below ((Below.refl _ _).drew)).below hb2; have N2 := ((new5 w1 (.int .u8 m0) (.int .u8 m1) (.int .u8 m2) (.int .u8 m3) (.int .i64 m4) 28).below ((Below.refl _ _).drew)).below hb2; have D := bnext (bal D _).drew hb2; clear hb2 k0 k1 k2 k3 k4 f0 f1 f2 f3 f4 hg; obtain ⟨⟨k0, k1, k2, k3, f0, f1, f2, f3, hg⟩, k4, f4⟩ := id K2; obtain ⟨⟨x0, x1, x2, x3, -, -, -, -, hx⟩, x4, -⟩ := id N2)
  try simp only [Exit.inBlock, Exit.then]
  refine bodyPost_ret (v := .tuple #[.agg #[.int .u8 0, .int .u8 0, .int .u8 0, .int .u8 0, .int .i64 0], .int .i64 41]) (by simp [results, Tryd.results26, go_sem, k0, k1, k2, k3, k4]) rfl ⟨rfl, ?_⟩
  repeat (first | with_reducible exact D | with_reducible apply Below.drew | with_reducible apply bal | with_reducible refine Below.setCell ?_ (by first | exact Nat.le_refl _ | (simp; omega)) _)
set_option maxRecDepth 100000 in
set_option maxHeartbeats 2000000 in
theorem rpn_eq (s u : ByteArray) (m0 m1 m2 m3 m4 : Int) (t0 : 0 ≤ m0) (r0 : m0 < 256) (t1 : 0 ≤ m1) (r1 : m1 < 256) (t2 : 0 ≤ m2) (r2 : m2 < 256) (t3 : 0 ≤ m3) (r3 : m3 < 256) (w : World) (hn : ∀ w, Calls Tryd.prog 36 #[.string s] w fun e w' => ∃ g cap, e = .returned (.slice (some ⟨g, 0, none⟩) 5 cap) ∧ w.heap.size ≤ g ∧ g < w'.heap.size ∧ (w'.cell? ⟨g, 0, none⟩ = some (.int .i64 m0) ∧ w'.cell? ⟨g, 1, none⟩ = some (.int .i64 m1) ∧ w'.cell? ⟨g, 2, none⟩ = some (.int .i64 m2) ∧ w'.cell? ⟨g, 3, none⟩ = some (.int .i64 m3) ∧ w'.cell? ⟨g, 4, none⟩ = some (.int .i64 m4)) ∧ Below w.heap.size w w')
    (ht : ∀ w, Calls Tryd.prog 30 #[(.agg #[.int .u8 m0, .int .u8 m1, .int .u8 m2, .int .u8 m3, .int .i64 m4])] w fun e w' => e = .returned (.string u) ∧ Below w.heap.size w w') (hq : (u.toList == s.toList) = true) (hz1 : s.toList.isEmpty = false) :
    Calls Tryd.prog 26 #[.string s] w fun e w' => e = .returned (.tuple #[(.agg #[.int .u8 m0, .int .u8 m1, .int .u8 m2, .int .u8 m3, .int .i64 m4]), .int .i64 0]) ∧ Below w.heap.size w w' := by
  go_enter Tryd.func26, Tryd.ntmps26
  go_wp2_with (go_at_call 36; refine (hn _).mono ?_; rintro e w1 ⟨g, cap, rfl, hle, hlt, ⟨d0, d1, d2, d3, d4⟩, hb1⟩; have K := (new5 w _ _ _ _ _ _).below hb1; obtain ⟨⟨k0, k1, k2, k3, f0, f1, f2, f3, hg⟩, k4, f4⟩ := id K)
  have D := bnext (bnew w _) hb1
  clear hb1 hn
  go_region
  go_wp2_with (go_at_call 30; refine (ht _).mono ?_; rintro e w2 ⟨rfl, hb2⟩; have K2 := ((K.alloc _).below ((Below.refl _ _).drew)).below hb2; have N2 := ((new5 w1 (.int .u8 m0) (.int .u8 m1) (.int .u8 m2) (.int .u8 m3) (.int .i64 m4) 28).below ((Below.refl _ _).drew)).below hb2; have D := bnext (bal D _).drew hb2; clear hb2 k0 k1 k2 k3 k4 f0 f1 f2 f3 f4 hg; obtain ⟨⟨k0, k1, k2, k3, f0, f1, f2, f3, hg⟩, k4, f4⟩ := id K2; obtain ⟨⟨x0, x1, x2, x3, -, -, -, -, hx⟩, x4, -⟩ := id N2)
  try simp only [Exit.inBlock, Exit.then]
  refine bodyPost_ret (v := .tuple #[(.agg #[.int .u8 m0, .int .u8 m1, .int .u8 m2, .int .u8 m3, .int .i64 m4]), .int .i64 0]) (by simp [results, Tryd.results26, go_sem, k0, k1, k2, k3, k4]) rfl ⟨rfl, ?_⟩
  repeat (first | with_reducible exact D | with_reducible apply Below.drew | with_reducible apply bal | with_reducible refine Below.setCell ?_ (by first | exact Nat.le_refl _ | (simp; omega)) _)
theorem nums_calls (l : List UInt8) (hl : l.length ≤ 1000) (w : World) :
    Calls Tryd.prog 36 #[.string (bs l)] w fun e w' => ∃ g cap, e = .returned (.slice (some ⟨g, 0, none⟩) (nums [] 0 l).length cap) ∧ w.heap.size ≤ g ∧ g < w'.heap.size ∧ (∀ (j : Nat) (x : Nat), (nums [] 0 l)[j]? = some x → w'.cell? ⟨g, j, none⟩ = some (.int .i64 (x : Int))) ∧ Below w.heap.size w w' := by
  refine (numbers_any l hl w).mono fun e w' ⟨g, cap, he, hg, hc, hb⟩ => ⟨g, cap, he, hg, ?_, hc, hb⟩
  have hne : nums [] 0 l ≠ [] := by
    have key : ∀ (l : List UInt8) (pre : List Nat) (n : Nat), nums pre n l ≠ [] := fun l => by
      induction l with
      | nil => intro pre n; simp [nums]
      | cons c r ih => intro pre n; rw [nums]; split <;> exact ih _ _
    exact key l [] 0
  obtain ⟨x, t, hx⟩ := List.exists_cons_of_ne_nil hne
  exact World.block_lt_of_cell? w' _ (hc 0 x (by rw [hx]; rfl))
theorem five {α : Type} {l : List α} (h : l.length = 5) : ∃ a b c d e, l = [a, b, c, d, e] := by
  match l, h with
  | [a, b, c, d, e], _ => exact ⟨a, b, c, d, e, rfl⟩
theorem bs_beq (a b : List UInt8) : ((bs a).toList == (bs b).toList) = decide (a = b) := by
  rw [bs_toList, bs_toList]
  by_cases h : a = b <;> simp [h]
theorem rparse_any (l : List UInt8) (hl : l.length ≤ 1000) (w : World) :
    Calls Tryd.prog 25 #[.string (bs l)] w fun e w' =>
      ((∃ N, N < 4294967296 ∧ l = txt N ∧ e = .returned (.tuple #[adr N, .int .i64 0])) ∨ ((∀ N, N < 4294967296 → l ≠ txt N) ∧ e = .returned (.tuple #[adr 0, .int .i64 41]))) ∧ Below w.heap.size w w' := by
  have hc := fun w => nums_calls l hl w
  have hno : ∀ N, l = txt N → nums [] 0 l = [b0 N, b1 N, b2 N, b3 N] := fun N h => by rw [h, nums_txt]
  rw [adr_zero]
  generalize nums [] 0 l = ns at hc hno
  by_cases hlen : ns.length = 4
  · obtain ⟨m0, m1, m2, m3, rfl⟩ := four hlen
    have hn : ∀ w, Calls Tryd.prog 36 #[.string (bs l)] w fun e w' => ∃ g cap, e = .returned (.slice (some ⟨g, 0, none⟩) 4 cap) ∧ w.heap.size ≤ g ∧ g < w'.heap.size ∧ (w'.cell? ⟨g, 0, none⟩ = some (.int .i64 (m0 : Int)) ∧ w'.cell? ⟨g, 1, none⟩ = some (.int .i64 (m1 : Int)) ∧ w'.cell? ⟨g, 2, none⟩ = some (.int .i64 (m2 : Int)) ∧ w'.cell? ⟨g, 3, none⟩ = some (.int .i64 (m3 : Int))) ∧ Below w.heap.size w w' := fun w =>
      (hc w).mono fun e w' ⟨g, cap, he, h1, h2, h3, hb⟩ => ⟨g, cap, he, h1, h2, ⟨h3 0 m0 rfl, h3 1 m1 rfl, h3 2 m2 rfl, h3 3 m3 rfl⟩, hb⟩
    have hb : ∀ N, l = txt N → m0 = b0 N ∧ m1 = b1 N ∧ m2 = b2 N ∧ m3 = b3 N := fun N h => by have := hno N h; simp at this; exact this
    by_cases h0 : m0 < 256
    · by_cases h1 : m1 < 256
      · by_cases h2 : m2 < 256
        · by_cases h3 : m3 < 256
          · obtain ⟨e0, e1, e2, e3⟩ := num_bytes h0 h1 h2 h3
            obtain ⟨M, hM⟩ : ∃ M, M = m0 * 16777216 + m1 * 65536 + m2 * 256 + m3 := ⟨_, rfl⟩
            rw [← hM] at e0 e1 e2 e3
            have hlt : M < 4294967296 := by omega
            have ht := fun w => ref_Text M w
            have hq := bs_beq (txt M) l
            have ea : adr M = .agg #[.int .u8 m0, .int .u8 m1, .int .u8 m2, .int .u8 m3] := by rw [adr, e0, e1, e2, e3]
            rw [ea] at ht
            by_cases heq : txt M = l
            · rw [decide_eq_true heq] at hq
              exact (rparse_eq (bs l) (bs (txt M)) m0 m1 m2 m3 (by omega) (by omega) (by omega) (by omega) (by omega) (by omega) (by omega) (by omega) w hn ht hq).mono fun e w' ⟨he, hb'⟩ => ⟨Or.inl ⟨M, hlt, heq.symm, by rw [he, ea]⟩, hb'⟩
            · rw [decide_eq_false heq] at hq
              refine (rparse_ne (bs l) (bs (txt M)) m0 m1 m2 m3 (by omega) (by omega) (by omega) (by omega) (by omega) (by omega) (by omega) (by omega) w hn ht hq).mono fun e w' ⟨he, hb'⟩ => ⟨Or.inr ⟨fun N hN h => heq ?_, he⟩, hb'⟩
              obtain ⟨g0, g1, g2, g3⟩ := hb N h
              rw [h, bytes_inj hlt hN (e0.trans g0) (e1.trans g1) (e2.trans g2) (e3.trans g3)]
          · exact (rparse_big3 (bs l) m0 m1 m2 m3 (by omega) (by omega) (by omega) (by omega) (by omega) (by omega) (by omega) w hn).mono fun e w' ⟨he, hb'⟩ => ⟨Or.inr ⟨fun N _ h => by have := (hb N h).2.2.2; have := b3_lt N; omega, he⟩, hb'⟩
        · exact (rparse_big2 (bs l) m0 m1 m2 m3 (by omega) (by omega) (by omega) (by omega) (by omega) w hn).mono fun e w' ⟨he, hb'⟩ => ⟨Or.inr ⟨fun N _ h => by have := (hb N h).2.2.1; have := b2_lt N; omega, he⟩, hb'⟩
      · exact (rparse_big1 (bs l) m0 m1 m2 m3 (by omega) (by omega) (by omega) w hn).mono fun e w' ⟨he, hb'⟩ => ⟨Or.inr ⟨fun N _ h => by have := (hb N h).2.1; have := b1_lt N; omega, he⟩, hb'⟩
    · exact (rparse_big0 (bs l) m0 m1 m2 m3 (by omega) w hn).mono fun e w' ⟨he, hb'⟩ => ⟨Or.inr ⟨fun N _ h => by have := (hb N h).1; have := b0_lt N; omega, he⟩, hb'⟩
  · refine (rparse_len (bs l) ns.length hlen w (fun w => (hc w).mono fun e w' ⟨g, cap, he, h1, h2, _, hb⟩ => ⟨g, cap, he, h1, h2, hb⟩)).mono fun e w' ⟨he, hb⟩ => ⟨Or.inr ⟨fun N _ h => hlen ?_, he⟩, hb⟩
    rw [hno N h]
    rfl
theorem rpn_any (l : List UInt8) (hl : l.length ≤ 1000) (w : World) :
    Calls Tryd.prog 26 #[.string (bs l)] w fun e w' =>
      ((∃ N k : Nat, N < 4294967296 ∧ k ≤ 32 ∧ rightN N k = true ∧ l = netTxt N k ∧ e = .returned (.tuple #[net N k, .int .i64 0])) ∨
       ((∀ N k : Nat, N < 4294967296 → k ≤ 32 → rightN N k = true → l ≠ netTxt N k) ∧ e = .returned (.tuple #[net 0 0, .int .i64 41]))) ∧ Below w.heap.size w w' := by
  have hc := fun w => nums_calls l hl w
  have hno : ∀ N k, k ≤ 32 → l = netTxt N k → nums [] 0 l = [b0 N, b1 N, b2 N, b3 N, k] := fun N k hk h => by rw [h, nums_net N (by omega)]
  have hne : (nums [] 0 l).length = 5 → l ≠ [] := fun h e => by rw [e] at h; simp [nums] at h
  rw [net_zero]
  generalize nums [] 0 l = ns at hc hno hne
  by_cases hlen : ns.length = 5
  · have hl0 := hne hlen
    obtain ⟨m0, m1, m2, m3, m4, rfl⟩ := five hlen
    have hn : ∀ w, Calls Tryd.prog 36 #[.string (bs l)] w fun e w' => ∃ g cap, e = .returned (.slice (some ⟨g, 0, none⟩) 5 cap) ∧ w.heap.size ≤ g ∧ g < w'.heap.size ∧ (w'.cell? ⟨g, 0, none⟩ = some (.int .i64 (m0 : Int)) ∧ w'.cell? ⟨g, 1, none⟩ = some (.int .i64 (m1 : Int)) ∧ w'.cell? ⟨g, 2, none⟩ = some (.int .i64 (m2 : Int)) ∧ w'.cell? ⟨g, 3, none⟩ = some (.int .i64 (m3 : Int)) ∧ w'.cell? ⟨g, 4, none⟩ = some (.int .i64 (m4 : Int))) ∧ Below w.heap.size w w' := fun w =>
      (hc w).mono fun e w' ⟨g, cap, he, h1, h2, h3, hb⟩ => ⟨g, cap, he, h1, h2, ⟨h3 0 m0 rfl, h3 1 m1 rfl, h3 2 m2 rfl, h3 3 m3 rfl, h3 4 m4 rfl⟩, hb⟩
    have hb : ∀ N k, k ≤ 32 → l = netTxt N k → m0 = b0 N ∧ m1 = b1 N ∧ m2 = b2 N ∧ m3 = b3 N ∧ m4 = k := fun N k hk h => by have := hno N k hk h; simp at this; exact this
    by_cases h0 : m0 < 256
    · by_cases h1 : m1 < 256
      · by_cases h2 : m2 < 256
        · by_cases h3 : m3 < 256
          · obtain ⟨e0, e1, e2, e3⟩ := num_bytes h0 h1 h2 h3
            obtain ⟨M, hM⟩ : ∃ M, M = m0 * 16777216 + m1 * 65536 + m2 * 256 + m3 := ⟨_, rfl⟩
            rw [← hM] at e0 e1 e2 e3
            have hlt : M < 4294967296 := by omega
            have ht := fun w => ref_NetText M hlt (m4 : Int) w
            have hq := bs_beq (ntxt M m4) l
            have hz1 : (bs l).toList.isEmpty = false := by rw [bs_toList]; simpa using hl0
            have ea : net M m4 = .agg #[.int .u8 m0, .int .u8 m1, .int .u8 m2, .int .u8 m3, .int .i64 m4] := by rw [net, e0, e1, e2, e3]
            rw [ea] at ht
            by_cases heq : ntxt M m4 = l
            · rw [decide_eq_true heq] at hq
              have hr : rightN M m4 = true := by
                by_cases hr : rightN M m4 = true
                · exact hr
                · unfold ntxt at heq
                  rw [if_neg hr] at heq
                  exact absurd heq.symm hl0
              obtain ⟨k, hk, hk2, _⟩ := right_iff.1 hr
              have hk3 : m4 = k := by omega
              refine (rpn_eq (bs l) (bs (ntxt M m4)) m0 m1 m2 m3 m4 (by omega) (by omega) (by omega) (by omega) (by omega) (by omega) (by omega) (by omega) w hn ht hq hz1).mono fun e w' ⟨he, hb'⟩ => ⟨Or.inl ⟨M, m4, hlt, by omega, hr, ?_, by rw [he, ea]⟩, hb'⟩
              unfold ntxt at heq
              rw [if_pos hr] at heq
              exact heq.symm
            · rw [decide_eq_false heq] at hq
              refine (rpn_ne (bs l) (bs (ntxt M m4)) m0 m1 m2 m3 m4 (by omega) (by omega) (by omega) (by omega) (by omega) (by omega) (by omega) (by omega) w hn ht hq hz1).mono fun e w' ⟨he, hb'⟩ => ⟨Or.inr ⟨fun N k hN hk hr h => heq ?_, he⟩, hb'⟩
              obtain ⟨g0, g1, g2, g3, g4⟩ := hb N k hk h
              have hMN := bytes_inj hlt hN (e0.trans g0) (e1.trans g1) (e2.trans g2) (e3.trans g3)
              subst hMN g4
              rw [h, ntxt, if_pos hr]
              rfl
          · exact (rpn_big3 (bs l) m0 m1 m2 m3 m4 (by omega) (by omega) (by omega) (by omega) (by omega) (by omega) (by omega) w hn).mono fun e w' ⟨he, hb'⟩ => ⟨Or.inr ⟨fun N k _ hk _ h => by have := (hb N k hk h).2.2.2.1; have := b3_lt N; omega, he⟩, hb'⟩
        · exact (rpn_big2 (bs l) m0 m1 m2 m3 m4 (by omega) (by omega) (by omega) (by omega) (by omega) w hn).mono fun e w' ⟨he, hb'⟩ => ⟨Or.inr ⟨fun N k _ hk _ h => by have := (hb N k hk h).2.2.1; have := b2_lt N; omega, he⟩, hb'⟩
      · exact (rpn_big1 (bs l) m0 m1 m2 m3 m4 (by omega) (by omega) (by omega) w hn).mono fun e w' ⟨he, hb'⟩ => ⟨Or.inr ⟨fun N k _ hk _ h => by have := (hb N k hk h).2.1; have := b1_lt N; omega, he⟩, hb'⟩
    · exact (rpn_big0 (bs l) m0 m1 m2 m3 m4 (by omega) w hn).mono fun e w' ⟨he, hb'⟩ => ⟨Or.inr ⟨fun N k _ hk _ h => by have := (hb N k hk h).1; have := b0_lt N; omega, he⟩, hb'⟩
  · refine (rpn_len (bs l) ns.length hlen w (fun w => (hc w).mono fun e w' ⟨g, cap, he, h1, h2, _, hb⟩ => ⟨g, cap, he, h1, h2, hb⟩)).mono fun e w' ⟨he, hb⟩ => ⟨Or.inr ⟨fun N k _ hk _ h => hlen ?_, he⟩, hb⟩
    rw [hno N k hk h]
    rfl
end Go.Proofs.YtpekkmnomfeglaaDoor.Addr
