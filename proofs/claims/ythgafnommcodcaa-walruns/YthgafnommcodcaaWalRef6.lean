/-
  The document's log: Scan.
-/
import Derived.Test.YthgafnommcodcaaWalRef3
import Derived.Test.YthgafnommcodcaaWalMade
namespace Go.Proofs.Ythgafnommcodcaa.Wal
open Go.RowKit Go.Proofs.Ythgafnommcodcaa.Mem Go.Proofs.Ythgafnommcodcaa.Sect Go.Proofs.Ythgafnommcodcaa.Frame Go.Proofs.Ythgafnommcodcaa.Disk Go.Proofs.Ythgafnommcodcaa.Area
set_option maxRecDepth 100000

theorem ref_Scan_no (r : Rfd) (p : Option Addr) (c : Nat) (q : Option Addr) (e : Nat) {n : Nat} (hn : r.st.length = n) (ep s : Nat) (k : Int) {E : Int} (hE : chk n k s = E) (hE0 : E ≠ 0) (w : World) :
    Calls Try.prog 25 #[rv r p c q e, .int .u32 (ep : Int), .int .u64 (s : Int), .int .i64 k] w fun x w' => x = .returned (.tuple #[.slice none 0 0, .int .i64 0, .int .i64 E]) ∧ Below w.heap.size w w' := by
  have hst := fun W => ref_Start_no (n : Int) k ep s hE hE0 W
  have hb : (E != 0) = true := by simp [hE0]
  have hrl : rl r p c q e = [.slice p n c, .slice q r.pe.length e, .bool r.ct, .int .i64 r.lf, .bool r.dn] := by unfold rl; rw [hn]
  clear hE hE0 hn
  go_enter Try.func25, Try.ntmps25
  go_wp2_with (first
    | (have _ := hB2; (refine at_alloc_ll (by rfl) (by rfl) ?_); intro V3 hY3 hB3 hz3)
    | ((refine at_box_rd _ _ _ _ _ _ (by rfl) (by rfl) (by rfl) ?_); intro V1 hX1 hB1 hz1; have hk1 : ∀ i, V1.cell? ⟨w.heap.size, i, none⟩ = [Value.slice p n c, .slice q r.pe.length e, .bool r.ct, .int .i64 r.lf, .bool r.dn][i]? := (by rw [← hrl]; exact hX1.cell))
    | ((with_reducible refine (hst _).mono ?_); rintro e w2 ⟨rfl, hB2⟩)
    | ((refine at_store_ll _ _ _ _ _ (by rfl) (by rfl) (by rfl) hY3 rfl (by rfl) ?_); intro V4 hY4 hg4 hz4))
  have hB23 := bnext (bnext hB1 hB2) hB3
  go_ret3
  exact ⟨rfl, hB23.grown hg4 hB23.size (by have := hB1.size; have := hB2.size; simp; omega)⟩
/-- The walk's facts of a round: the disk, the log, the records so far. -/
def Sc (w W : World) (b4 b11 B : Nat) (l : RLg) (r : Rfd) (p : Option Addr) (c : Nat) (q : Option Addr) (e : Nat) (v : Value) (rs : List Rv) : Prop :=
  Blk W b4 39 (rl r p c q e) ∧ Blk W b11 42 (ll l) ∧ Made W B (fun k => k = b11 ∨ k = b4) v rs ∧ Below w.heap.size w W ∧ (w.heap.size ≤ b4 ∧ w.heap.size ≤ b11 ∧ b4 ≠ b11 ∧ w.heap.size ≤ B ∧ b4 < B ∧ b11 < B ∧ B ≤ W.heap.size)
theorem Sc.below {w W W' : World} {b4 b11 B : Nat} {l : RLg} {r : Rfd} {p : Option Addr} {c : Nat} {q : Option Addr} {e : Nat} {v : Value} {rs : List Rv} (h : Sc w W b4 b11 B l r p c q e v rs) (hb : Below W.heap.size W W') : Sc w W' b4 b11 B l r p c q e v rs :=
  ⟨h.1.below hb, h.2.1.below hb, h.2.2.1.below hb, bnext h.2.2.2.1 hb, h.2.2.2.2.1, h.2.2.2.2.2.1, h.2.2.2.2.2.2.1, h.2.2.2.2.2.2.2.1, h.2.2.2.2.2.2.2.2.1, h.2.2.2.2.2.2.2.2.2.1, Nat.le_trans h.2.2.2.2.2.2.2.2.2.2 hb.size⟩
/-- The log turns. -/
theorem Sc.log {w W W' : World} {b4 b11 B : Nat} {l l' : RLg} {r : Rfd} {p : Option Addr} {c : Nat} {q : Option Addr} {e : Nat} {v : Value} {rs : List Rv} (h : Sc w W b4 b11 B l r p c q e v rs) (hY : Blk W' b11 42 (ll l')) (hg : W.grownBy W' (some b11)) : Sc w W' b4 b11 B l' r p c q e v rs := by
  obtain ⟨h1, h2, h3, h4, n1, n2, n3, n4, n5, n6, n7⟩ := h
  exact ⟨h1.kept hg (fun q => n3 (Option.some.inj q)), hY, h3.fr (Fr.of_grown hg fun k hk => .inl (Option.some.inj hk).symm), h4.grown hg h4.size (fun k hk => by obtain rfl := Option.some.inj hk; exact n2), n1, n2, n3, n4, n5, n6, Nat.le_trans n7 hg.size⟩
/-- A record more. -/
theorem Sc.push {w W W' : World} {b4 b11 B : Nat} {l : RLg} {r : Rfd} {p : Option Addr} {c : Nat} {q : Option Addr} {e : Nat} {v v' : Value} {rs zs : List Rv} (h : Sc w W b4 b11 B l r p c q e v rs) (hM : Made W' B (fun k => k = b11 ∨ k = b4) v' zs) (hF : Fr (ownOf v) W W') (hB : Below B W W') : Sc w W' b4 b11 B l r p c q e v' zs := by
  obtain ⟨h1, h2, h3, h4, n1, n2, n3, n4, n5, n6, n7⟩ := h
  exact ⟨hF.blk h1 fun q => h3.2.2 _ q (.inr rfl), hF.blk h2 fun q => h3.2.2 _ q (.inl rfl), hM, h4.trans (hB.mono n4), n1, n2, n3, n4, n5, n6, Nat.le_trans n7 hF.size⟩
theorem scan_here {rd : Rd} {S ep f nx j t : Nat} (h0 : nx ≠ 0) (h : (atPlace rd ep nx j t).ok = true) : scan rd S ep (f + 1) nx j t = ((atPlace rd ep nx j t) :: (scan rd S ep f (more nx) j (t + (atPlace rd ep nx j t).n)).1, (scan rd S ep f (more nx) j (t + (atPlace rd ep nx j t).n)).2) := by
  rw [scan_step, if_neg h0, if_pos h]
theorem scan_next {rd : Rd} {S ep f nx j t : Nat} (h0 : nx ≠ 0) (h : (atPlace rd ep nx j t).ok = false) (hj : j + 1 ≠ S) (h2 : (atPlace rd ep nx (j + 1) 0).ok = true) : scan rd S ep (f + 1) nx j t = ((atPlace rd ep nx (j + 1) 0) :: (scan rd S ep f (more nx) (j + 1) (atPlace rd ep nx (j + 1) 0).n).1, (scan rd S ep f (more nx) (j + 1) (atPlace rd ep nx (j + 1) 0).n).2) := by
  rw [scan_step, if_neg h0, if_neg (by simp [h]), if_neg hj, if_pos h2]
theorem scan_end {rd : Rd} {S ep f nx j t : Nat} (h : nx = 0 ∨ ((atPlace rd ep nx j t).ok = false ∧ (j + 1 = S ∨ (atPlace rd ep nx (j + 1) 0).ok = false))) : scan rd S ep (f + 1) nx j t = ([], j) := by
  rw [scan_step]
  by_cases h0 : nx = 0
  · rw [if_pos h0]
  · rcases h with h | ⟨h, h2⟩
    · exact absurd h h0
    · rw [if_neg h0, if_neg (by simp [h])]
      by_cases h3 : j + 1 = S
      · rw [if_pos h3]
      · rw [if_neg h3]
        rcases h2 with h2 | h2
        · exact absurd h2 h3
        · rw [if_neg (by simp [h2])]
theorem at_not {rd : Rd} {ep nx j t : Nat} (h : (atPlace rd ep nx j t).ok = false) : atPlace rd ep nx j t = nought := by
  unfold atPlace at h ⊢
  split at h
  · rename_i hc
    simp only [Bool.and_eq_true] at hc
    rw [hc.1] at h
    cases h
  · rename_i hc
    rw [if_neg hc]
theorem Rows.lower' {w : World} {B B' : Nat} {v : Value} {rs : List Rv} (h : Rows w B v rs) (hB : B' ≤ B) : Rows w B' v rs := ⟨own_lower h.1 hB, h.2.1, h.2.2.lower hB⟩
theorem set41 {W : World} {g ep nx st nw t N : Nat} (m : Nat) {x : Int} (hx : Hid (x = ((t + N : Nat) : Int))) (h : Blk W g 42 (ll ⟨ep, nx, st, nw, t⟩)) :
    Blk ((W.setCell ⟨g, 4, none⟩ (.int .i64 x)).setCell ⟨g, 1, none⟩ (.int .u64 ((m : Nat) : Int))) g 42 (ll ⟨ep, m, st, nw, t + N⟩) ∧ W.grownBy ((W.setCell ⟨g, 4, none⟩ (.int .i64 x)).setCell ⟨g, 1, none⟩ (.int .u64 ((m : Nat) : Int))) (some g) := by
  refine ⟨?_, grown2 (only_put W ⟨g, 4, none⟩ _) (only_put _ ⟨g, 1, none⟩ _)⟩
  rw [hx.out]
  exact (h.put 4 _).put 1 _
theorem ne_block {g b : Nat} {q : Option Addr} (h : ∀ a, q = some a → b ≤ a.block) (hg : g < b) {n : Nat} : 0 < n → ∀ a, q = some a → a.block ≠ g := fun _ a ha e => by
  have := h a ha
  omega
/-- A new record's payload lies apart. -/
theorem new_apart {B b b11 b4 : Nat} {O : Nat → Prop} {q : Option Addr} (h : ∀ a, q = some a → b ≤ a.block) (hB : B ≤ b) (h1 : b11 < b) (h4 : b4 < b) (hO : ∀ k, O k → k < b) : ∀ a, q = some a → B ≤ a.block ∧ ∀ k, ((k = b11 ∨ k = b4) ∨ O k) → k ≠ a.block := fun a ha => by
  have hb := h a ha
  refine ⟨by omega, fun k hk => ?_⟩
  rcases hk with (hk | hk) | hk
  · omega
  · omega
  · have := hO k hk; omega
theorem at_push2 {o : Oper} {a : Act} {W : World} {ops : Array Oper} {rest : List Oper} {Q : Exit → Act → World → Prop} (hgd : o.guard = none) (x y : Operand) (ho : o.op = .call { callee := .builtin .append, args := #[x, y], argTypes := #[30, 30] })
    {w0 : World} {B : Nat} {T : Nat → Prop} (p8 : Option Addr) (c8 L : Nat) (rs : List Rv) (hM : Made w0 B T (.slice p8 L c8) rs) (hL : rs.length = L) (hl : L ≤ 1000) (hx : a.eval x = .slice p8 L c8) (r : Rv) (s e m : Nat) (h1 : r.g.s = s) (h2 : r.g.e = e) (h3 : r.g.p.length = m) (hW : W = w0.alloc (.cells #[.int .u64 (s : Int), .int .u32 (e : Int), .slice r.q m r.d] 75)) (G : Nat) (hG : w0.heap.size = G) (hy : a.eval y = .slice (some ⟨G, 0, none⟩) 1 1)
    (hB : B ≤ w0.heap.size) (k1 : Reads .u8 w0 r.q r.d r.g.p) (k2 : ∀ c ∈ r.g.p, Byte c) (k3 : ∀ a, r.q = some a → B ≤ a.block ∧ (∀ k, (T k ∨ ownOf (.slice p8 L c8) k) → k ≠ a.block)) (k4 : r.g.p.length ≤ 700) (hT : ∀ k, T k → k < w0.heap.size)
    (h : ∀ p' c' w', Made w' B T (.slice p' (L + 1) c') (rs ++ [r]) → Fr (ownOf (.slice p8 L c8)) w0 w' → Below B w0 w' → wpList Try.prog ops Q rest (a.put o.dst (.slice p' (L + 1) c')) w') : wpList Try.prog ops Q (o :: rest) a W := by
  subst hG
  exact at_push hgd x y ho p8 c8 L rs hM hL hl hx r s e m h1 h2 h3 hW hy hB k1 k2 k3 k4 hT h
theorem some_from {B g : Nat} (h : B ≤ g) : ∀ j, some g = some j → B ≤ j := fun j hj => by
  obtain rfl := Option.some.inj hj
  exact h
theorem set3441 {W : World} {g ep nx st nw t N : Nat} (m k : Nat) (h : Blk W g 42 (ll ⟨ep, nx, st, nw, t⟩)) :
    Blk ((((W.setCell ⟨g, 3, none⟩ (.int .i64 (k : Int))).setCell ⟨g, 4, none⟩ (.int .i64 0)).setCell ⟨g, 4, none⟩ (.int .i64 (N : Int))).setCell ⟨g, 1, none⟩ (.int .u64 ((m : Nat) : Int))) g 42 (ll ⟨ep, m, st, k, N⟩) ∧
      W.grownBy ((((W.setCell ⟨g, 3, none⟩ (.int .i64 (k : Int))).setCell ⟨g, 4, none⟩ (.int .i64 0)).setCell ⟨g, 4, none⟩ (.int .i64 (N : Int))).setCell ⟨g, 1, none⟩ (.int .u64 ((m : Nat) : Int))) (some g) :=
  ⟨(((h.put 3 _).put 4 _).put 4 _).put 1 _, grown2 (grown2 (grown2 (only_put W ⟨g, 3, none⟩ _) (only_put _ ⟨g, 4, none⟩ _)) (only_put _ ⟨g, 4, none⟩ _)) (only_put _ ⟨g, 1, none⟩ _)⟩
end Go.Proofs.Ythgafnommcodcaa.Wal
