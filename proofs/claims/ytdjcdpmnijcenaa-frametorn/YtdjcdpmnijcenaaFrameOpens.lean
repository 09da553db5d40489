/-
  The record that any sectors begin with.
-/
import Derived.Test.YtdjcdpmnijcenaaFrameAlive
import Derived.Test.YtdjcdpmnijcenaaFrameRefOpen
namespace Go.Proofs.Ytdjcdpmnijcenaa.Frame
open Go.RowKit Go.Proofs.Ytdjcdpmnijcenaa.Mem Go.Proofs.Ytdjcdpmnijcenaa.Sect Go.Proofs.Ytdjcdpmnijcenaa.Crc
set_option maxRecDepth 100000

theorem got_bytes {l : List Sec} (hb : ∀ s ∈ l, ∀ c ∈ s.1, Byte c) : (got l).s < 18446744073709551616 ∧ (got l).e < 4294967296 ∧ ∀ c ∈ (got l).p, Byte c := by
  obtain ⟨-, h1, h2, h3⟩ := fields_lt (flat_bytes hb)
  unfold got
  split
  · exact ⟨h1, h2, h3⟩
  · exact ⟨by decide, by decide, by intro c hc; cases hc⟩
theorem same_self (s e : Nat) (p : List Int) : same s e p s e p = true := by simp [same]
/-- An append of sectors to a row of one's own. -/
theorem at_append_secs {o : Oper} {a : Act} {w : World} {ops : Array Oper} {rest : List Oper} {Q : Exit → Act → World → Prop} (hgd : o.guard = none) (x y : Operand)
    (ho : o.op = .call { callee := .builtin .append, args := #[x, y], argTypes := #[22, 22] }) (B : Nat) (v : Value) (n : Nat) (ys : List Sec) (hs : a.eval x = v) (hown : w.ownsRow B 44 64 v n (ys.flatMap sc))
    (p : Option Addr) (m c : Nat) (zs : List Sec) (hx : a.eval y = .slice p m c) (hm : zs.length = m) (hr : RK sc w p c zs) (h63 : n + m ≤ 100000) (hB : B ≤ w.heap.size)
    (h : ∀ v' w', w'.ownsRow B 44 64 v' (n + m) ((ys ++ zs).flatMap sc) → w.grownBy w' v.ownBlock → wpList Try.prog ops Q rest (a.put o.dst v') w') : wpList Try.prog ops Q (o :: rest) a w := by
  obtain ⟨i, h1, h2, h3, h4⟩ := info_sec
  exact wpList_append_rk sc_len (by decide) sc_one w hgd x y 22 ho B 44 i (secv zero) 64 Try.underlying22 h1 h2 h3 h4 (by rfl) v n ys hs hown p m c zs hx hm hr h63 (by omega) hB h
set_option maxHeartbeats 2000000 in
theorem opens_any (q : Option Addr) (n c : Nat) (xs : List Sec) (l : xs.length = n) (hb : ∀ s ∈ xs, ∀ c ∈ s.1, Byte c) (w : World) (r : RK sc w q c xs) :
    Calls Try.prog 5 #[.slice q n c] w fun e w' => e = .returned (.bool true) ∧ Below w.heap.size w w' := by
  have ha := fun w => alive_any w
  by_cases h2 : 40 < n
  · have d : decide ((40 : Int) < (n : Int)) = true := by simp; omega
    go_enter Try.func5, Try.ntmps5
    go_wp2_with (go_at_call 11; refine (ha _).mono ?_; rintro e w1 ⟨rfl, hb1⟩)
    go_ret
    exact ⟨rfl, hb1⟩
  · have d : decide ((40 : Int) < (n : Int)) = false := by simp; omega
    have hO := fun q c W (hW : RK sc W q c xs) => frame_Open q n c xs l (by omega) hb W hW
    have hR := fun q c W (hW : RK sc W q c xs) => ref_Open q n c xs l (by omega) hb W hW
    have hS := fun q1 c1 q2 c2 W (h1 : Reads .u8 W q1 c1 (got xs).p) (h2 : Reads .u8 W q2 c2 (got xs).p) => ref_Same (got xs).s (got xs).e q1 _ c1 (got xs).p rfl (got xs).s (got xs).e q2 _ c2 (got xs).p rfl (got_bytes hb).2.2 (got_bytes hb).2.2 W h1 h2
    rw [same_self] at hS
    unfold told at hO hR
    obtain ⟨G, hG⟩ : ∃ G, got xs = G := ⟨_, rfl⟩
    rw [hG] at hO hR hS
    obtain ⟨ok, N, s, e, p⟩ := G
    obtain ⟨m, hm⟩ : ∃ m, p.length = m := ⟨_, rfl⟩
    simp only [hm] at hO hR hS
    clear hG hm
    go_enter Try.func5, Try.ntmps5
    go_wp2_with (first
      | (go_at_call 11; refine (ha _).mono ?_; rintro e w1 ⟨rfl, hb1⟩; have r1 := r.below hb1; have O1 := lit_none_k (k := 64) (enc := sc) (e := 44) w1)
      | (at_builtin; refine at_append_secs rfl _ _ rfl w1.heap.size (.slice (some ⟨w1.heap.size, 0, none⟩) 0 0) 0 [] rfl O1 q n c xs rfl l (r1.alloc _) (by omega) (by simp) ?_; intro v2 w2 hown2 hg2; have hb2 : Below w1.heap.size w1 w2 := (bnew w1 _).grown hg2 (by simp) (fun b hb => by simp [Value.ownBlock] at hb; omega); obtain ⟨q2, c2, rfl, rk2, -⟩ := own_rk sc_len (by decide) hown2)
      | (go_at_call 10; refine (hO q2 c2 _ rk2).mono ?_; rintro x w3 ⟨q3, d3, rfl, r3, hb3⟩; have Z3 := Blk.new w3 #[.int .u64 0, .int .u32 0, .slice none 0 0] 30; have hB3 := bnext (bnext hb1 hb2) hb3)
      | (refine at_store_rec _ _ w3.heap.size _ _ _ _ (by rfl) (by rfl) (by rfl) Z3 rfl ⟨rfl, rfl, rfl⟩ (by rfl) ?_; intro W4 Z4 G4; have hb4 : Below w3.heap.size w3 W4 := (bnew w3 _).grown G4 (by simp) (fun j hj => by simp at hj; omega); have r4 := r3.below hb4; have hB4 := bnext hB3 hb4; have rx4 := r.below hB4)
      | (go_at_call 16; refine (hR q c _ rx4).mono ?_; rintro x w5 ⟨q5, d5, rfl, r5, hb5⟩; have Z5 := Z4.below hb5; have r5' := r4.below hb5; have hB5 := bnext hB4 hb5; have A5 := Blk.new w5 #[.int .u64 0, .int .u32 0, .slice none 0 0] 30)
      | (refine at_store_rec _ _ w5.heap.size _ _ _ _ (by rfl) (by rfl) (by rfl) A5 rfl ⟨rfl, rfl, rfl⟩ (by rfl) ?_; intro W6 A6 G6; have hb6 : Below w5.heap.size w5 W6 := (bnew w5 _).grown G6 (by simp) (fun j hj => by simp at hj; omega); have r6 := r5.below hb6; have r6' := r5'.below hb6; have hB6 := bnext hB5 hb6; have k6 := (Z5.below hb6).cell; have j6 := A6.cell)
      | (go_at_call 17; refine (hS _ _ _ _ _ r6' r6).mono ?_; rintro x w7 ⟨rfl, hb7⟩))
    go_ret
    exact ⟨rfl, bnext hB6 hb7⟩
end Go.Proofs.Ytdjcdpmnijcenaa.Frame
