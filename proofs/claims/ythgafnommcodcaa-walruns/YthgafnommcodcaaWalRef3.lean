/-
  The document's log: the record at a place.
-/
import Derived.Test.YthgafnommcodcaaWalRef2
namespace Go.Proofs.Ythgafnommcodcaa.Wal
open Go.RowKit Go.Proofs.Ythgafnommcodcaa.Mem Go.Proofs.Ythgafnommcodcaa.Sect Go.Proofs.Ythgafnommcodcaa.Frame Go.Proofs.Ythgafnommcodcaa.Disk Go.Proofs.Ythgafnommcodcaa.Area
set_option maxRecDepth 100000

/-- What the places hold, as the document's disk tells it. -/
def rvis (r : Rfd) (S st : Nat) : Rd := fun j t => (r.read ((adr S st j t : Nat) : Int)).1
/-- What is told of a place. -/
def toldAt (x : Ending) (w w' : World) (G : Got) : Prop := ∃ q d, x = .returned (.tuple #[.agg #[.int .u64 (G.s : Int), .int .u32 (G.e : Int), .slice q G.p.length d], .int .i64 (G.n : Int)]) ∧ Reads .u8 w' q d G.p ∧ Below w.heap.size w w' ∧ ∀ a, q = some a → w.heap.size ≤ a.block
theorem ret_rec2 {fn : Func} {p u : Tmp} {R : Ending → World → Prop} {a : Act} {w : World} (h : fn.results = #[.cell p 75, .tmp u]) (hd : a.defers = []) (g : Nat) (x y z : Value)
    (hp : a.tmps.getD p undef = .pointer (some ⟨g, 0, none⟩)) (hb : Blk w g 75 [x, y, z]) (hR : R (.returned (.tuple #[.agg #[x, y, z], a.tmps.getD u undef])) w) : bodyPost Try.prog fn R .ret a w :=
  ret_cell h hd g _ [x, y, z] _ hp hb (by rfl) rfl (by show _ = some 3; kernel_rfl) hR
set_option maxHeartbeats 2000000 in
theorem ref_at {S st j t n : Nat} (r : Rfd) (p : Option Addr) (c : Nat) (q : Option Addr) (e : Nat) (ep nx s3 s4 s5 : Nat) (w : World) (hok : r.ok) (r1 : RK sc w p c r.st) (r2 : RK wc w q e r.pe) (hn : r.st.length = n) (hc : Can n S st j t) (i : Nat) (t0 : Nat) (ht0 : t0 ≤ 16) (hb : ∀ s ∈ view (rvis r S st) i t0, BS s) (hep : ep < 4294967296) (hnx : nx < 18446744073709551616) :
    Calls Try.prog 54 #[lv ⟨ep, nx, s3, s4, s5⟩, rv r p c q e, .int .i64 (segOf S st i : Int), .int .i64 (t0 : Int)] w fun x w' => toldAt x w w' (atPlace (rvis r S st) ep nx i t0) := by
  have hs := fun W => ref_Seg (n : Int) (segOf S st i : Int) W
  simp only [(hc.place i).1, (hc.place i).2] at hs
  have hA : adr S st i 0 ≤ 1000 := by
    have := seg_lt st i (show 0 < S by have := hc.two; omega)
    have := hc.two
    unfold adr
    omega
  have hVl : (view (rvis r S st) i t0).length = 16 - t0 := view_len _ _ _
  have hVk : ∀ k, k < 16 - t0 → (view (rvis r S st) i t0)[k]? = some (r.read ((adr S st i 0 : Nat) + ((t0 + k : Nat) : Int))).1 := fun k hk => by
    unfold view
    rw [List.getElem?_map, List.getElem?_range hk, Option.map_some]
    unfold rvis
    have e : ((adr S st i (t0 + k) : Nat) : Int) = ((adr S st i 0 : Nat) : Int) + ((t0 + k : Nat) : Int) := by unfold adr; omega
    rw [e]
  have hrd := fun {W : World} (hW : Below w.heap.size w W) (k : Int) => rread_any r p c q e k W hok.2.1 (r1.below hW) (r2.below hW)
  have hgo := fun {W : World} (p' : Option Addr) (c' : Nat) (rr : RK sc W p' c' (view (rvis r S st) i t0)) => ref_Open p' (16 - t0) c' (view (rvis r S st) i t0) hVl (by omega) hb W rr
  have hgb := got_nums hb
  have hat : atPlace (rvis r S st) ep nx i t0 = if rights (view (rvis r S st) i t0) ep nx = true then got (view (rvis r S st) i t0) else nought := rfl
  rw [hat]
  clear hat
  unfold rights
  generalize hV : view (rvis r S st) i t0 = V at *
  clear hV
  obtain ⟨⟨ok, N, s, e', P⟩, hG⟩ : ∃ G, got V = G := ⟨_, rfl⟩
  rw [hG] at hgo hgb ⊢
  simp only at hgb ⊢
  clear hG hc hb hok
  generalize adr S st i 0 = A at *
  have hrl : rl r p c q e = [.slice p n c, .slice q r.pe.length e, .bool r.ct, .int .i64 r.lf, .bool r.dn] := by unfold rl; rw [hn]
  go_enter Try.func54, Try.ntmps54
  go_wp2_with (first
    | ((refine at_box_ll _ _ (by rfl) (by rfl) (by rfl) ?_); intro W1 hY1 hB1 hz1)
    | ((refine at_box_rd _ _ _ _ _ _ (by rfl) (by rfl) (by rfl) ?_); intro W2 hX2 hB2 hz2; have hB12 := bnext hB1 hB2; have hX3 := hX2.alloc (.cells #[.int .u64 0, .int .u32 0, .slice none 0 0] 75); have hY3 := (hY1.below hB2).alloc (.cells #[.int .u64 0, .int .u32 0, .slice none 0 0] 75); have hR3 := Blk.new W2 #[.int .u64 0, .int .u32 0, .slice none 0 0] 75; have hB3 := bnext hB12 (bnew W2 (.cells #[.int .u64 0, .int .u32 0, .slice none 0 0] 75)); have hk3 : ∀ i, (W2.alloc (.cells #[.int .u64 0, .int .u32 0, .slice none 0 0] 75)).cell? ⟨W1.heap.size, i, none⟩ = [Value.slice p n c, .slice q r.pe.length e, .bool r.ct, .int .i64 r.lf, .bool r.dn][i]? := (by rw [← hrl]; exact hX3.cell))
    | ((with_reducible refine (hs _).mono ?_); rintro e w2 ⟨rfl, hw⟩; rw [hw]; clear hw))
  obtain ⟨W3, hW3⟩ : ∃ W3, W3 = W2.alloc (.cells #[.int .u64 0, .int .u32 0, .slice none 0 0] 75) := ⟨_, rfl⟩
  have hs3 : W3.heap.size = W2.heap.size + 1 := by rw [hW3]; simp
  rw [← hW3] at hX3 hY3 hR3 hB3
  have hO3 := lit_none_k (k := 64) (enc := sc) (e := 70) W3
  have hB34 : Below W3.heap.size W3 (W3.alloc (.cells #[] 70)) := bnew W3 _
  have hs1 : w.heap.size < W1.heap.size ∧ W1.heap.size < W2.heap.size := ⟨hY1.lt, hX2.lt⟩
  rw [← hW3]
  replace hs3 : Hid (W3.heap.size = W2.heap.size + 1) := hs3
  have hs13 : W1.heap.size < W3.heap.size ∧ w.heap.size < W3.heap.size ∧ W2.heap.size < W3.heap.size := by have := hs3.out; omega
  clear hW3 hk3 hX2 hY1 hB1 hB2 hB12 hs hrl
  go_loopw [12, 13] (fun s12 s13 wr => ∃ (k : Nat) (p7 : Option Addr) (c7 : Nat), k ≤ 16 - t0 ∧ s12 = .slice p7 k c7 ∧ s13 = .int .i64 ((t0 : Int) + (k : Int)) ∧ wr.ownsRow W3.heap.size 70 64 (.slice p7 k c7) k ((V.take k).flatMap sc) ∧ Below W3.heap.size W3 wr) (fun _ i _ => 16 - (intOf i).toNat)
  case atStart => exact ⟨0, some ⟨W2.heap.size + 1, 0, none⟩, 0, by omega, rfl, by simp, by rw [← hs3.out]; exact hO3, hB34⟩
  case round =>
    obtain ⟨k, p7, c7, hk, rfl, rfl, hO, hBr⟩ := hrel
    have hXr := hX3.below hBr
    have hB := bnext hB3 hBr
    have hsr := hBr.size
    by_cases hlt : k < 16 - t0
    · have hlt2 : decide ((t0 : Int) + (k : Int) < 16) = true := decide_eq_true (by omega)
      have hlt3 : (t0 : Int) + (k : Int) < 16 := by omega
      have w1 : IntKind.i64.wrap ((A : Int) + ((t0 : Int) + (k : Int))) = (A : Int) + ((t0 : Int) + (k : Int)) := wrap_int ⟨by omega, by omega⟩
      have w2 : IntKind.i64.wrap ((t0 : Int) + (k : Int) + 1) = (t0 : Int) + ((k + 1 : Nat) : Int) := by rw [wrap_int ⟨by omega, by omega⟩]; omega
      have hVs := hVk k hlt
      rw [show (((t0 + k : Nat) : Int)) = (t0 : Int) + (k : Int) by omega] at hVs
      have hr1 := hrd hB ((A : Int) + ((t0 : Int) + (k : Int)))
      generalize r.read ((A : Int) + ((t0 : Int) + (k : Int))) = RS at hVs hr1
      have htk : (V.take k) ++ [RS.1] = V.take (k + 1) := by rw [List.take_add_one, hVs]; rfl
      clear hVs hVk
      go_wp2_with (first
        | ((refine at_load_rd _ _ _ _ _ _ _ (by rfl) (by rfl) hXr (by rfl) ?_))
        | ((with_reducible refine hr1.mono ?_); rintro e w5 ⟨rfl, hB5⟩; have hO5 := Disk.own_below hO hB5)
        | ((refine at_alloc_sec (by rfl) (by rfl) ?_); intro W6 hY6 hB6 hz6; have hO6 := Disk.own_below hO5 hB6)
        | ((refine at_store_sec _ _ _ _ _ (by rfl) (by rfl) (by rfl) hY6 (by rfl) ?_); intro W7 hY7 hg7 hz7; have hB57 : Below w5.heap.size w5 W7 := hB6.grown hg7 hB6.size (by simp); have hO7 := Disk.own_below hO5 hB57)
        | ((refine at_load_sec _ _ _ _ (by rfl) (by rfl) (blk_sec hY7) (by rfl) ?_))
        | ((refine at_lits _ _ (by rfl) (by rfl) (by rfl) ?_); intro W8 hY8 hB8 hz8; have hO8 := Disk.own_below hO7 hB8; have hB58 := bnext hB57 hB8; have hBr8 := bnext hB5 hB58)
        | (at_builtin; refine at_app_secs _ rfl _ _ rfl W3.heap.size (.slice p7 k c7) k (V.take k) rfl hO8 (some ⟨W7.heap.size, 0, none⟩) 1 1 [RS.1] rfl rfl (Disk.blk_rk hY8) (by omega) (by have := hBr8.size; omega) ?_; intro v9 w9 hO9 hg9))
      rw [htk] at hO9
      obtain ⟨p9, c9, hv9, -, -⟩ := own_rk sc_len (by decide) (show w9.ownsRow W3.heap.size 70 64 v9 (V.take (k + 1)).length ((V.take (k + 1)).flatMap sc) by rw [List.length_take, Nat.min_eq_left (by omega)]; exact hO9)
      rw [List.length_take, Nat.min_eq_left (by omega)] at hv9
      subst hv9
      have hB9 : Below W3.heap.size W3 w9 := (hBr.trans (hBr8.mono (by omega))).grown hg9 (by have := hBr8.size; omega) (fun k hk => (hO8.lt k hk).1)
      go_roundw
      case rel => exact ⟨k + 1, p9, c9, by omega, rfl, rfl, hO9, hB9⟩
      case measure => simp [intOf]; omega
    · obtain rfl : k = 16 - t0 := by omega
      have hlt2 : decide ((t0 : Int) + ((16 - t0 : Nat) : Int) < 16) = false := decide_eq_false (by omega)
      have htk : V.take (16 - t0) = V := List.take_of_length_le (by omega)
      rw [htk] at hO
      obtain ⟨p9, c9, hv9, hk9, -⟩ := own_rk sc_len (by decide) (show wr.ownsRow W3.heap.size 70 64 (.slice p7 (16 - t0) c7) V.length (V.flatMap sc) by rw [hVl]; exact hO)
      simp only [Value.slice.injEq] at hv9
      obtain ⟨rfl, -, rfl⟩ := hv9
      have hop := hgo p7 c7 hk9
      unfold told at hop
      simp only at hop
      have hYr := cells5 (hY3.below hBr)
      have hR0 := hR3.below hBr
      have hlb := hY3.below hBr
      clear hgo hVk hrd hO hk9 hXr hlt
      have hcs : (ok = true ∧ s = nx ∧ e' = ep) ∨ ok = false ∨ (ok = true ∧ s ≠ nx) ∨ (ok = true ∧ s = nx ∧ e' ≠ ep) := by
        cases ok with
        | false => exact .inr (.inl rfl)
        | true =>
          by_cases h1 : s = nx
          · by_cases h2 : e' = ep
            · exact .inl ⟨rfl, h1, h2⟩
            · exact .inr (.inr (.inr ⟨rfl, h1, h2⟩))
          · exact .inr (.inr (.inl ⟨rfl, h1⟩))
      rcases hcs with ⟨rfl, rfl, rfl⟩ | hcs
      · have hfin : Hid ((if (true && (decide (s = s) && decide (e' = e'))) = true then (⟨true, N, s, e', P⟩ : Got) else nought) = ⟨true, N, s, e', P⟩) := by unfold Hid; simp
        go_wp2_with (first
          | (have _ := hR7; refine at_store_rec _ _ _ _ _ _ _ (by rfl) (by rfl) (by rfl) hR7 rfl ⟨rfl, rfl, rfl⟩ (by rfl) ?_; intro W8 hY8 hg8)
          | ((with_reducible refine hop.mono ?_); rintro e w6 ⟨q6, d6, rfl, rP6, hB6, hn6⟩; have Y6 := Blk.new w6 #[.int .u64 0, .int .u32 0, .slice none 0 0] 75; have hs6 := hB6.size)
          | (refine at_store_rec _ _ _ _ _ _ _ (by rfl) (by rfl) (by rfl) Y6 rfl ⟨rfl, rfl, rfl⟩ (by rfl) ?_; intro W7 Y7 G7; have k7 := Y7.cell; have hl7 := cells5 (((hlb.below hB6).alloc (.cells #[.int .u64 0, .int .u32 0, .slice none 0 0] 75)).kept G7 (by intro q; have := Option.some.inj q; omega)); have hR7 := ((hR0.below hB6).alloc (.cells #[.int .u64 0, .int .u32 0, .slice none 0 0] 75)).kept G7 (by intro q; have := Option.some.inj q; omega); have hB7 := (bnext (bnext hB hB6) (bnew w6 (.cells #[.int .u64 0, .int .u32 0, .slice none 0 0] 75))).grown G7 (by have := hB.size; simp; omega) (by have := hB.size; simp; omega)))
        try rw [hfin.out]
        refine ret_rec2 rfl rfl _ _ _ _ rfl hY8 ⟨q6, d6, rfl, ?_, ?_, fun a ha => Nat.le_trans hB.size (hn6 a ha)⟩
        · exact ((rP6.alloc (.cells #[.int .u64 0, .int .u32 0, .slice none 0 0] 75)).kept G7 (fun h0 => rP6.apart (Nat.le_refl _) h0)).kept hg8 (fun _ a ha => by have := hn6 a ha; omega)
        · exact hB7.grown hg8 hB7.size (by have := hB.size; simp; omega)
      · have hfin : Hid ((if (ok && (decide (s = nx) && decide (e' = ep))) = true then (⟨ok, N, s, e', P⟩ : Got) else nought) = nought) := by
          unfold Hid
          rw [if_neg]
          intro hq
          simp only [Bool.and_eq_true, decide_eq_true_eq] at hq
          obtain ⟨q1, q2, q3⟩ := hq
          rcases hcs with h | ⟨_, h⟩ | ⟨_, _, h⟩
          · rw [q1] at h; cases h
          · exact h q2
          · exact h q3
        rcases hcs with rfl | ⟨rfl, h1⟩ | ⟨rfl, rfl, h2⟩
        · have hx1 : True := trivial
          have hx2 : True := trivial
          go_wp2_with (first
          | (have _ := hR7; refine at_store_rec _ _ _ _ _ _ _ (by rfl) (by rfl) (by rfl) hR7 rfl ⟨rfl, rfl, rfl⟩ (by rfl) ?_; intro W8 hY8 hg8)
          | ((with_reducible refine hop.mono ?_); rintro e w6 ⟨q6, d6, rfl, rP6, hB6, hn6⟩; have Y6 := Blk.new w6 #[.int .u64 0, .int .u32 0, .slice none 0 0] 75; have hs6 := hB6.size)
          | (refine at_store_rec _ _ _ _ _ _ _ (by rfl) (by rfl) (by rfl) Y6 rfl ⟨rfl, rfl, rfl⟩ (by rfl) ?_; intro W7 Y7 G7; have k7 := Y7.cell; have hl7 := cells5 (((hlb.below hB6).alloc (.cells #[.int .u64 0, .int .u32 0, .slice none 0 0] 75)).kept G7 (by intro q; have := Option.some.inj q; omega)); have hR7 := ((hR0.below hB6).alloc (.cells #[.int .u64 0, .int .u32 0, .slice none 0 0] 75)).kept G7 (by intro q; have := Option.some.inj q; omega); have hB7 := (bnext (bnext hB hB6) (bnew w6 (.cells #[.int .u64 0, .int .u32 0, .slice none 0 0] 75))).grown G7 (by have := hB.size; simp; omega) (by have := hB.size; simp; omega)))
          all_goals try rw [hfin.out]
          all_goals exact ret_rec2 rfl rfl _ _ _ _ rfl hY8 ⟨none, 0, rfl, Reads.nil _ _, hB7.grown hg8 hB7.size (by have := hB.size; simp; omega), fun a ha => by cases ha⟩
        · have hx1 : ((s : Int) != (nx : Int)) = true := by rw [bne_iff_ne]; omega
          have hx2 : decide (s = nx) = false := decide_eq_false h1
          go_wp2_with (first
          | (have _ := hR7; refine at_store_rec _ _ _ _ _ _ _ (by rfl) (by rfl) (by rfl) hR7 rfl ⟨rfl, rfl, rfl⟩ (by rfl) ?_; intro W8 hY8 hg8)
          | ((with_reducible refine hop.mono ?_); rintro e w6 ⟨q6, d6, rfl, rP6, hB6, hn6⟩; have Y6 := Blk.new w6 #[.int .u64 0, .int .u32 0, .slice none 0 0] 75; have hs6 := hB6.size)
          | (refine at_store_rec _ _ _ _ _ _ _ (by rfl) (by rfl) (by rfl) Y6 rfl ⟨rfl, rfl, rfl⟩ (by rfl) ?_; intro W7 Y7 G7; have k7 := Y7.cell; have hl7 := cells5 (((hlb.below hB6).alloc (.cells #[.int .u64 0, .int .u32 0, .slice none 0 0] 75)).kept G7 (by intro q; have := Option.some.inj q; omega)); have hR7 := ((hR0.below hB6).alloc (.cells #[.int .u64 0, .int .u32 0, .slice none 0 0] 75)).kept G7 (by intro q; have := Option.some.inj q; omega); have hB7 := (bnext (bnext hB hB6) (bnew w6 (.cells #[.int .u64 0, .int .u32 0, .slice none 0 0] 75))).grown G7 (by have := hB.size; simp; omega) (by have := hB.size; simp; omega)))
          all_goals try rw [hfin.out]
          all_goals exact ret_rec2 rfl rfl _ _ _ _ rfl hY8 ⟨none, 0, rfl, Reads.nil _ _, hB7.grown hg8 hB7.size (by have := hB.size; simp; omega), fun a ha => by cases ha⟩
        · have hx1 : ((e' : Int) != (ep : Int)) = true := by rw [bne_iff_ne]; omega
          have hx2 : decide (e' = ep) = false := decide_eq_false h2
          go_wp2_with (first
          | (have _ := hR7; refine at_store_rec _ _ _ _ _ _ _ (by rfl) (by rfl) (by rfl) hR7 rfl ⟨rfl, rfl, rfl⟩ (by rfl) ?_; intro W8 hY8 hg8)
          | ((with_reducible refine hop.mono ?_); rintro e w6 ⟨q6, d6, rfl, rP6, hB6, hn6⟩; have Y6 := Blk.new w6 #[.int .u64 0, .int .u32 0, .slice none 0 0] 75; have hs6 := hB6.size)
          | (refine at_store_rec _ _ _ _ _ _ _ (by rfl) (by rfl) (by rfl) Y6 rfl ⟨rfl, rfl, rfl⟩ (by rfl) ?_; intro W7 Y7 G7; have k7 := Y7.cell; have hl7 := cells5 (((hlb.below hB6).alloc (.cells #[.int .u64 0, .int .u32 0, .slice none 0 0] 75)).kept G7 (by intro q; have := Option.some.inj q; omega)); have hR7 := ((hR0.below hB6).alloc (.cells #[.int .u64 0, .int .u32 0, .slice none 0 0] 75)).kept G7 (by intro q; have := Option.some.inj q; omega); have hB7 := (bnext (bnext hB hB6) (bnew w6 (.cells #[.int .u64 0, .int .u32 0, .slice none 0 0] 75))).grown G7 (by have := hB.size; simp; omega) (by have := hB.size; simp; omega)))
          all_goals try rw [hfin.out]
          all_goals exact ret_rec2 rfl rfl _ _ _ _ rfl hY8 ⟨none, 0, rfl, Reads.nil _ _, hB7.grown hg8 hB7.size (by have := hB.size; simp; omega), fun a ha => by cases ha⟩
end Go.Proofs.Ythgafnommcodcaa.Wal
