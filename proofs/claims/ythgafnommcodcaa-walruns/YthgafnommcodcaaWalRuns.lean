/-
  Whatever is done with a log: as the document's answer has it. (Written by gen_wruns.py.)
-/
import Derived.Test.YthgafnommcodcaaWalTwo
import Derived.Deep.CutRange
namespace Go.Proofs.Ythgafnommcodcaa.Wal
open Go.RowKit Go.Proofs.Ythgafnommcodcaa.Mem Go.Proofs.Ythgafnommcodcaa.Sect Go.Proofs.Ythgafnommcodcaa.Frame Go.Proofs.Ythgafnommcodcaa.Disk Go.Proofs.Ythgafnommcodcaa.Area
set_option maxRecDepth 100000
set_option linter.unusedVariables false

theorem start_all {n S st s0 : Nat} {N : Int} (hn : n ≤ 140) (h : chk (n : Int) (st : Int) s0 = 0) : Can n (segsN n) st 0 0 ∧ s0 ≠ 0 := can_of_chk h
set_option maxHeartbeats 8000000 in
theorem runs_walk (x : Int) (y0 y1 : Int) (q0 : Option Addr) (n0 c0 : Nat) (xs : List Ac) (w : World) (hx : Inty x) (hy0 : Word y0) (hy1 : Word y1) (l : xs.length = n0) (ra : RK ac w q0 c0 xs) (oa : ∀ a ∈ xs, AcOk w a ∧ Byte a.2.2.1) (hx140 : ¬ 140 < x) (hn60 : ¬ 60 < n0) (hy100 : ¬ 100 < y1) (n : Nat) (hcl : clamp x = n) (st : Nat) (hst : (st : Int) = y1 - 1) (s0 : Nat) (hs0 : (s0 : Int) = y0) (hE : chk (n : Int) (st : Int) s0 = 0) :
    Calls Try.prog 4 #[.int .i64 x, .agg #[.int .u64 y0, .int .u64 y1], .slice q0 n0 c0] w fun e w' => e = .returned (.bool true) ∧ Below w.heap.size w w' := by
  have hn140 : n ≤ 140 := by unfold clamp at hcl; omega
  obtain ⟨hcan, hs00⟩ := can_of_chk hE
  obtain ⟨S, hS⟩ : ∃ S, segsN n = S := ⟨_, rfl⟩
  rw [hS] at hcan
  have hs64 : s0 < 18446744073709551616 := by have := hy0.2; omega
  have hw1 : IntKind.i64.wrap y1 = y1 := wrap_int ⟨by omega, by omega⟩
  have hw2 : IntKind.i64.wrap (y1 - 1) = (st : Int) := by rw [hst]; exact wrap_int ⟨by omega, by omega⟩
  have e0 : decide (140 < x) = false := decide_eq_false hx140
  have e1 : decide ((60 : Int) < (n0 : Int)) = false := decide_eq_false (by omega)
  have e2 : decide (100 < y1) = false := decide_eq_false hy100
  have hst0 : ∀ {B S0 W g}, Dk B S0 W g (fresh n) → Calls Try.prog 9 #[.pointer (some ⟨g, 0, none⟩), .int .u32 5, .int .u64 (s0 : Int), .int .i64 (st : Int)] W fun e w' => ∃ gl, e = .returned (.tuple #[.pointer (some ⟨gl, 0, none⟩), .int .i64 0]) ∧ W.heap.size ≤ gl ∧ Blk w' gl 86 (lgc g 5 s0 st st 0) ∧ Below W.heap.size W w' := fun h => wal_Start h 5 s0 st (by rw [show (fresh n).st.length = n by simp [fresh]]; exact hE)
  have hrst : ∀ W, Calls Try.prog 13 #[.int .i64 (n : Int), .int .u32 5, .int .u64 (s0 : Int), .int .i64 (st : Int)] W fun e w' => e = .returned (.tuple #[lv ⟨5, s0, st, st, 0⟩, .int .i64 0]) ∧ Below W.heap.size W w' := fun W => ref_Start (n : Int) st 5 s0 hE W
  have hnew := fun W => new_any x W
  have hrnew := fun W => rnew_any x W
  rw [hcl] at hnew hrnew
  have hfl : (rfresh n).st.length = n := by simp [rfresh]
  subst hs0
  clear hst
  go_enter Try.func4, Try.ntmps4
  go_wp2_with (first
    | ((fail_if_success (have _ := hb1)); (with_reducible refine (alive_any _).mono ?_); rintro e w1 ⟨rfl, hb1⟩; have hbg1 := (Blk.new w #[.int .u64 (s0 : Int), .int .u64 y1] 34).below hb1; have hk1 : ∀ i, w1.cell? ⟨w.heap.size, i, none⟩ = [Value.int .u64 (s0 : Int), .int .u64 y1][i]? := hbg1.cell; have hb01 := bnext (bnew w (.cells #[.int .u64 (s0 : Int), .int .u64 y1] 34)) hb1)
    | ((fail_if_success (have _ := hD2)); (have _ := hb1); (with_reducible refine (hnew _).mono ?_); rintro e w2 ⟨g, T2, rfl, hD2, hb2⟩)
    | ((fail_if_success (have _ := hr3)); (have _ := hD2); (with_reducible refine (hrnew _).mono ?_); rintro e w3 ⟨p3, c3, rfl, hr3, hp3, hb3⟩)
    | ((fail_if_success (have _ := hX4)); (have _ := hr3); (refine at_alloc_rd (by rfl) (by rfl) ?_); intro W4 hX4 hB4 hz4)
    | ((fail_if_success (have _ := hX5)); (have _ := hX4); (refine at_store_rd _ _ _ _ (rfresh n) p3 c3 none 0 (by rfl) (by rfl) (by rfl) hX4 (by simp [rl]) (by rfl) ?_); intro W5 hX5 hg5 hz5; have hb5 := hB4.grown hg5 hB4.size (by simp); have hD5 := (hD2.below hb3).below hb5; have hbg5 := hbg1.below (bnext hb2 (bnext hb3 hb5)); have hk5 : ∀ i, W5.cell? ⟨w.heap.size, i, none⟩ = [Value.int .u64 (s0 : Int), .int .u64 y1][i]? := hbg5.cell)
    | ((fail_if_success (have _ := hgl)); (have _ := hX5); (with_reducible refine (hst0 hD5).mono ?_); rintro e w6 ⟨gl, rfl, hgl, hY6, hb6⟩; have hX6 := hX5.below hb6; have hc6 : ∀ i, w6.cell? ⟨w3.heap.size, i, none⟩ = [Value.slice p3 (rfresh n).st.length c3, .slice none 0 0, .bool false, .int .i64 (rfresh n).lf, .bool false][i]? := hX6.cell; rw [hfl] at hc6; have hbg6 := hbg5.below hb6; have hk6 : ∀ i, w6.cell? ⟨w.heap.size, i, none⟩ = [Value.int .u64 (s0 : Int), .int .u64 y1][i]? := hbg6.cell)
    | ((fail_if_success (have _ := hb7)); (have _ := hY6); (with_reducible refine (hrst _).mono ?_); rintro e w7 ⟨rfl, hb7⟩)
    | ((fail_if_success (have _ := hZ8)); (have _ := hb7); (refine at_alloc_ll (by rfl) (by rfl) ?_); intro V8 hZ8 hB8 hz8)
    | ((fail_if_success (have _ := hZ9)); (have _ := hZ8); (refine at_store_ll _ _ _ _ ⟨5, s0, st, st, 0⟩ (by rfl) (by rfl) (by rfl) hZ8 rfl (by rfl) ?_); intro V9 hZ9 hg9 hz9; have hb9 := hB8.grown hg9 hB8.size (by simp)))
  have hs12 := hb2.size
  have hs23 := hb3.size
  have hs35 := hb5.size
  have hs56 := hb6.size
  have hs67 := hb7.size
  have hs79 := hb9.size
  have hlt4 := hX4.lt
  have hlt5 := hX5.lt
  have hlt6 := hY6.lt
  have hlt8 := hZ8.lt
  have hb59 := bnext hb6 (bnext hb7 hb9)
  have hsg := seg_first (S := S) (st := st) hcan.2.2.2.1
  have hT2 : ∀ i, T2 i → i < w2.heap.size := hD2.lt
  have hSt0 : St w1 V9 g gl w3.heap.size w7.heap.size n S st s0 0 (fresh n) (rfresh n) T2 p3 c3 none 0 s0 0 0 := by
    refine ⟨⟨hD5.below hb59, by rw [hsg]; exact (hY6.below hb7).below hb9, by rw [hsg]; exact hZ9, ⟨hX5.below hb59, (hr3.below hb5).below hb59, RK.nil _ _, fun hz a ha q => ?_, fun hz => by simp [rfresh] at hz, fun q => ?_⟩, bnext (bnext hb2 (bnext hb3 hb5)) hb59⟩, ⟨fun q => by have := hT2 _ q; omega, fun q => by have := hT2 _ q; omega, by omega, by omega, by omega, by omega⟩, fresh_ok (by omega), ⟨by simp [rfresh]; omega, by simp [rfresh], by simp [rfresh], ⟨by simp [rfresh], by simp [rfresh]⟩, by simp [rfresh]⟩, ⟨rfl, rfl, rfl, rfl⟩, byt_fresh n, far_fresh n _ hs00, by simp [fresh], hcan, .inl ⟨rfl, rfl, rfl⟩, hs64, by simp [fresh]⟩
    · obtain ⟨b, o, e, hlt, _⟩ := hr3.2.2.2 hz
      have h3 := hp3 _ e
      rw [e] at ha
      obtain rfl := Option.some.inj ha
      simp only at h3 q
      rcases q with (q | q | q) | q
      · have := hT2 _ q; omega
      · omega
      · omega
      · omega
    · rcases q with q | q | q
      · have := hT2 _ q; omega
      · omega
      · omega
  have ra1 := ra.below hb01
  generalize hG : w3.heap.size = G at *
  generalize hGL : w7.heap.size = GL at *
  clear hD2 hD5 hX4 hX5 hX6 hY6 hZ8 hZ9 hr3 hp3 hb2 hb3 hb5 hb6 hb7 hb9 hB4 hB8 hg5 hg9 hz4 hz5 hz8 hz9 hs12 hs23 hs35 hs56 hs67 hs79 hlt4 hlt5 hlt6 hlt8 hb59 hT2 hbg5 hbg6 hk1 hk5 hk6 hc6 hst0 hrst hnew hrnew hG hGL hsg hgl hb1
  go_loopw [88] (fun v wr => ∃ (k : Nat) (d : Dsk) (r : Rfd) (T : Nat → Prop) (p : Option Addr) (c : Nat) (q : Option Addr) (e nx j t : Nat), k ≤ n0 ∧ v = .int .i64 k ∧ St w1 wr g gl G GL n S st s0 k d r T p c q e nx j t) (fun v _ => n0 - (intOf v).toNat)
  case atStart => exact ⟨0, _, _, T2, p3, c3, none, 0, s0, 0, 0, Nat.zero_le _, rfl, hSt0⟩
  case round =>
    clear hSt0
    obtain ⟨k, d, r, T, p, c, q, e, nx, j, t, hk, rfl, hSt⟩ := hrel
    by_cases hlt : k < n0
    · obtain ⟨a, ha⟩ : ∃ a, xs[k]? = some a := ⟨_, List.getElem?_eq_getElem (by omega)⟩
      obtain ⟨b, o, rfl, hr⟩ := rk_range ac_len (ra1.below hSt.1.2.2.2.2) ha
      have hlt' : (k : Int) < (n0 : Int) := by omega
      have hao := oa a (List.mem_of_getElem? ha)
      go_upto_region 18 with (first
        | ((refine at_load_acw _ _ _ _ (by rfl) (by rfl) hr (by rfl) ?_))
        | ((refine at_alloc_acw (by rfl) (by rfl) ?_); intro W6 hA6 hB6 hz6)
        | ((refine at_store_acw _ _ _ _ _ (by rfl) (by rfl) (by rfl) hA6 (by rfl) ?_); intro W7 hA7 hg7 hz7))
      have hb7 : Below wr.heap.size wr W7 := hB6.grown hg7 hB6.size (by simp)
      have hSt7 := hSt.below hb7
      obtain ⟨ki, ai, by8, kq, kn, kc⟩ := a
      obtain ⟨⟨oa1, oa2, ks, lk, bk, rk⟩, oby⟩ := hao
      simp only at oa1 oa2 lk bk rk oby
      have hc7 := hA7.cell
      simp only [ac] at hc7
      have hA70 := hA7
      obtain ⟨hAT, hAgl, hAG, hAGL⟩ := hSt.apart (Nat.le_refl _)
      have rk7 := rk.below (bnext hb01 hSt7.1.2.2.2.2)
      generalize hA : wr.heap.size = A at *
      iterate 10 go_step
      clear hr hA6 hB6 hg7 hSt hb7 ra1
      go_cut [16, 17, 18, 19, 20, 21, 22, 23, 24] from 94 to 171 (fun e9 f9 _ _ _ _ _ _ _ wc => ∃ (E : Int) (d' : Dsk) (r' : Rfd) (T' : Nat → Prop) (p' : Option Addr) (c' : Nat) (q' : Option Addr) (e' nx' j' t' : Nat), e9 = .int .i64 E ∧ f9 = .int .i64 E ∧ (St w1 wc g gl G GL n S st s0 (k + 1) d' r' T' p' c' q' e' nx' j' t' ∧ Blk wc A 47 (ac (ki, ai, by8, kq, kn, kc))))
      case first =>
        obtain ⟨⟨hD7, hY7, hL7, hR7, hb7⟩, hap, od7, or7, hag, hbyt, hfar, hdn, hcn, hnum, hn64, hpl⟩ := id hSt7
        have hpe0 : ∀ x ∈ d.pe, 0 ≤ x.1 := fun x hx => (od7.2.2.1 x hx).1
        by_cases k0 : ki = 0
        · subst k0
          obtain ⟨m, hm⟩ : ∃ m, payN ai = m := ⟨_, rfl⟩
          have hpy := fun W => payload_nat ai by8 W hm
          have hpyl : (pay ai by8).length = m := (pay_len _ _).trans hm
          obtain ⟨KN, E, d1, r1, nx1, j1, t1, hok1, hrs1, hrs2, hPA, hRA⟩ := both_append hSt7 (by omega) (pay ai by8) m hpyl (pay_bytes ai by8)
          generalize pay ai by8 = PY at *
          go_wp2_with (first
            | ((fail_if_success (have _ := hB8)); (with_reducible refine (hpy _).mono ?_); rintro e' w8 ⟨g8, rfl, rb8, hg8, hB8⟩; have hSt8 := hSt7.below hB8; have hA8 := hA7.below hB8)
            | ((fail_if_success (have _ := hD9)); (have _ := hB8); (with_reducible refine (hPA hB8 rb8).mono ?_); rintro e' w9 ⟨rfl, T9, hD9, hF9, hS9, hY9⟩; have hL9R := hSt8.prog hF9 hS9; have hL9 := hL9R.1; have hR9 := hL9R.2.1; have hA9 := hF9.blk hA8 (fun q => q.elim hAT hAgl)))
          refine Inv.region_invB (fun L a w' => ∃ (gp : Nat) (qn : Option Addr) (en : Nat) (gL : Nat) (gR : Nat), a = { tmps := #[(Value.int IntKind.i64 x), (Value.agg #[Value.int IntKind.u64 ↑s0, Value.int IntKind.u64 y1]), (Value.slice (some { block := b, off := o }) n0 c0), undef, (Value.pointer (some { block := w.heap.size, off := 0 })), undef, u6, (Value.pointer (some { block := g, off := 0 })), (Value.pointer (some { block := G, off := 0 })), (Value.int IntKind.i64 ↑st), (Value.pointer (some { block := gl, off := 0 })), (Value.int IntKind.i64 0), (Value.pointer (some { block := GL, off := 0 })), (Value.int IntKind.i64 0), undef, (Value.pointer (some { block := A, off := 0 })), (Value.int IntKind.i64 0), (Value.int IntKind.i64 0), (Value.slice (some { block := g8, off := 0 }) m m), (Value.int IntKind.u64 ↑KN), (Value.int IntKind.i64 E), (if L 13 = true then (.pointer (some ⟨gL, 0, none⟩)) else u21), (if L 14 = true then (.pointer (some ⟨gR, 0, none⟩)) else u22), (if L 17 = true then (.int .u64 (KN : Int)) else u23), (if L 18 = true then (.int .i64 E) else u24), u25, u26, u27, u28, u29, u30, undef, undef, undef, (Value.bool true), (Value.bool false), (Value.int IntKind.i64 x), (Value.bool false), (Value.bool false), (Value.slice (some { block := b, off := o }) n0 c0), (Value.int IntKind.i64 ↑n0), (Value.bool false), (Value.bool false), (Value.bool false), (Value.pointer (some { block := w.heap.size, off := 1 })), (Value.int IntKind.u64 y1), (Value.bool false), (Value.bool false), (Value.int IntKind.i64 x), (Value.pointer (some { block := g, off := 0 })), (Value.int IntKind.i64 x), (rv (rfresh n) p3 c3 none 0), (Value.pointer (some { block := w.heap.size, off := 1 })), (Value.int IntKind.u64 y1), (Value.int IntKind.i64 y1), (Value.int IntKind.i64 ↑st), (Value.tuple #[Value.pointer (some { block := gl, off := 0 }), Value.int IntKind.i64 0]), (Value.pointer (some { block := g, off := 0 })), (Value.pointer (some { block := w.heap.size, off := 0 })), (Value.int IntKind.u64 ↑s0), (Value.int IntKind.i64 ↑st), (Value.tuple #[Value.pointer (some { block := gl, off := 0 }), Value.int IntKind.i64 0]), (Value.pointer (some { block := gl, off := 0 })), (Value.int IntKind.i64 0), (Value.tuple #[lv { ep := 5, nx := s0, st := st, nw := st, tk := 0 }, Value.int IntKind.i64 0]), (Value.pointer (some { block := G, off := 0 })), (Value.slice p3 n c3), (Value.int IntKind.i64 ↑n), (Value.pointer (some { block := w.heap.size, off := 0 })), (Value.int IntKind.u64 ↑s0), (Value.int IntKind.i64 ↑st), (Value.tuple #[lv { ep := 5, nx := s0, st := st, nw := st, tk := 0 }, Value.int IntKind.i64 0]), (lv { ep := 5, nx := s0, st := st, nw := st, tk := 0 }), (Value.int IntKind.i64 0), (Value.int IntKind.i64 0), (Value.int IntKind.i64 0), (Value.bool false), (Value.bool false), (Value.pointer (some { block := gl, off := 0 })), (Value.bool false), (Value.int IntKind.i64 0), (Value.bool false), (Value.bool false), (Value.bool false), (Value.int IntKind.i64 0), (Value.bool false), (Value.slice (some { block := b, off := o }) n0 c0), (Value.int IntKind.i64 ↑n0), (Value.int IntKind.i64 ↑k), (Value.bool true), (Value.pointer (some { block := b, off := o + k * 4 })), (acw (0, ai, by8, kq, kn, kc)), (Value.pointer (some { block := A, off := 0 })), (Value.int IntKind.i64 0), (Value.bool true), (Value.bool true), (Value.pointer (some { block := A, off := 1 })), (Value.int IntKind.i64 ai), (Value.pointer (some { block := A, off := 2 })), (Value.int IntKind.u8 by8), (Value.slice (some { block := g8, off := 0 }) m m), (Value.tuple #[Value.int IntKind.u64 ↑KN, Value.int IntKind.i64 E]), (Value.pointer (some { block := gl, off := 0 })), (Value.slice (some { block := g8, off := 0 }) m m), (Value.tuple #[Value.int IntKind.u64 ↑KN, Value.int IntKind.i64 E]), (Value.int IntKind.u64 ↑KN), (Value.int IntKind.i64 E), (if L 8 = true then (.tuple #[lv ⟨5, nx1, st, segOf S st j1, t1⟩, rv r1 p c qn en, .int .u64 (KN : Int), .int .i64 E]) else u107), (if L 0 = true then (lv ⟨5, nx, st, segOf S st j, t⟩) else u108), (if L 1 = true then (rv r p c q e) else u109), (if L 2 = true then (.pointer (some ⟨A, 1, none⟩)) else u110), (if L 3 = true then (.int .i64 ai) else u111), (if L 4 = true then (.pointer (some ⟨A, 2, none⟩)) else u112), (if L 5 = true then (.int .u8 by8) else u113), (if L 6 = true then (.slice (some ⟨gp, 0, none⟩) m m) else u114), (if L 7 = true then (.tuple #[lv ⟨5, nx1, st, segOf S st j1, t1⟩, rv r1 p c qn en, .int .u64 (KN : Int), .int .i64 E]) else u115), (if L 9 = true then (lv ⟨5, nx1, st, segOf S st j1, t1⟩) else u116), (if L 10 = true then (rv r1 p c qn en) else u117), (if L 11 = true then (.int .u64 (KN : Int)) else u118), (if L 12 = true then (.int .i64 E) else u119), u120, u121, u122, u123, u124, u125, u126, u127, u128, u129, u130, u131, u132, u133, u134, u135, u136, u137, u138, u139, u140, u141, u142, u143, u144, u145, u146, u147, u148, u149, u150, u151, u152, u153, u154, u155, u156, u157, u158, u159, u160, u161, u162, u163, u164, u165, u166, u167, u168, u169, u170, u171, u172, u173, u174, u175, u176, u177, u178, u179, u180, u181, u182, u183, u184, u185, u186, u187, u188, u189, u190, u191, u192, u193, u194, u195, u196, u197, u198, u199, u200, u201, u202, u203, u204, u205, u206, u207, u208, u209, u210, u211, u212, u213, u214, u215, u216, u217, u218, u219, u220, u221, u222, u223, u224, u225, u226, u227, u228, u229, u230, u231, u232, u233, u234, u235, u236, u237, u238, undef, undef, undef, undef, undef, undef, undef, undef, undef, undef, undef, undef, undef, undef, undef, undef, undef, undef, undef, undef], defers := [] } ∧ (Below w9.heap.size w9 w' ∧ (L 6 = true → L 7 = false → Reads .u8 w' (some ⟨gp, 0, none⟩) m PY) ∧ (L 7 = true → RK wc w' qn en r1.pe ∧ ((qn = q ∧ r1.pe.length = r.pe.length) ∨ ∀ a, qn = some a → w9.heap.size ≤ a.block)) ∧ (L 13 = true → L 15 = false → Blk w' gL 42 (ll ⟨0, 0, 0, 0, 0⟩)) ∧ (L 15 = true → Blk w' gL 42 (ll ⟨5, nx1, st, segOf S st j1, t1⟩)) ∧ (L 14 = true → L 16 = false → Blk w' gR 39 (rl ⟨[], [], false, 0, false⟩ none 0 none 0)) ∧ (L 16 = true → Blk w' gR 39 (rl r1 p c qn en)) ∧ (L 13 = true → w9.heap.size ≤ gL ∧ gL < w'.heap.size) ∧ (L 14 = true → w9.heap.size ≤ gR ∧ gR < w'.heap.size) ∧ (L 13 = true → L 14 = true → gL ≠ gR) ∧ (L 15 = true → L 13 = true) ∧ (L 16 = true → L 14 = true) ∧ (L 8 = true → L 7 = true) ∧ (L 10 = true → L 8 = true) ∧ (L 16 = true → L 10 = true))) (by kernel_rfl) (by kernel_rfl) ?h0 ?step ?done
          case h0 => exact ⟨0, none, 0, 0, 0, by simp, (Below.refl _ _).drew, by simp, by simp, by simp, by simp, by simp, by simp, by simp, by simp, by simp, by simp, by simp, by simp, by simp, by simp⟩
          case step =>
            refine Inv.Steps.cons rfl ?_ ?_
            · intro L a w' hI hL hd K hK
              obtain ⟨gp, qn, en, gL, gR, rfl, hI⟩ := hI
              clear hd
              rw [if_pos (by rfl)]
              refine wp_load_ll _ _ _ (by rfl) (by rfl) (hL9.below hI.1) ?_
              exact hK.out _ _ ⟨gp, qn, en, gL, gR, by simp [Act.put], by simpa using hI⟩
            refine Inv.Steps.cons rfl ?_ ?_
            · intro L a w' hI hL hd K hK
              obtain ⟨gp, qn, en, gL, gR, rfl, hI⟩ := hI
              clear hd
              rw [if_pos (by rfl)]
              refine wp_load_rd _ _ _ _ _ _ _ (by rfl) (by rfl) (hR9.1.below hI.1) ?_
              exact hK.out _ _ ⟨gp, qn, en, gL, gR, by simp [Act.put], by simpa using hI⟩
            refine Inv.Steps.cons rfl ?_ ?_
            · intro L a w' hI hL hd K hK
              obtain ⟨gp, qn, en, gL, gR, rfl, hI⟩ := hI
              clear hd
              rw [if_pos (by rfl)]
              go_simp
              exact hK.out _ _ ⟨gp, qn, en, gL, gR, by simp, by simpa using hI⟩
            refine Inv.Steps.cons rfl ?_ ?_
            · intro L a w' hI hL hd K hK
              obtain ⟨gp, qn, en, gL, gR, rfl, hI⟩ := hI
              simp [Region.binds] at hd
              simp only [hd, if_true]
              rw [if_pos (by rfl)]
              have hcA := (hA9.below hI.1).cell
              simp only [ac] at hcA
              go_simp
              exact hK.out _ _ ⟨gp, qn, en, gL, gR, by simp [hd], by simpa using hI⟩
            refine Inv.Steps.cons rfl ?_ ?_
            · intro L a w' hI hL hd K hK
              obtain ⟨gp, qn, en, gL, gR, rfl, hI⟩ := hI
              clear hd
              rw [if_pos (by rfl)]
              go_simp
              exact hK.out _ _ ⟨gp, qn, en, gL, gR, by simp, by simpa using hI⟩
            refine Inv.Steps.cons rfl ?_ ?_
            · intro L a w' hI hL hd K hK
              obtain ⟨gp, qn, en, gL, gR, rfl, hI⟩ := hI
              simp [Region.binds] at hd
              simp only [hd, if_true]
              rw [if_pos (by rfl)]
              have hcA := (hA9.below hI.1).cell
              simp only [ac] at hcA
              go_simp
              exact hK.out _ _ ⟨gp, qn, en, gL, gR, by simp [hd], by simpa using hI⟩
            refine Inv.Steps.cons rfl ?_ ?_
            · intro L a w' hI hL hd K hK
              obtain ⟨gp, qn, en, gL, gR, rfl, hI⟩ := hI
              simp [Region.binds] at hd
              simp only [hd, if_true]
              rw [if_pos (by rfl)]
              go_simp
              refine (hpy _).mono ?_
              rintro e7 w11 ⟨g11, rfl, r11, hg11, hB11⟩
              exact hK.out _ _ ⟨g11, qn, en, gL, gR, by simp [hd], bnext hI.1 hB11, fun _ _ => r11, fun u => ⟨(hI.2.2.1 (by simpa using u)).1.below hB11, (hI.2.2.1 (by simpa using u)).2⟩, fun u v => (hI.2.2.2.1 (by simpa using u) (by simpa using v)).below hB11, fun u => (hI.2.2.2.2.1 (by simpa using u)).below hB11, fun u v => (hI.2.2.2.2.2.1 (by simpa using u) (by simpa using v)).below hB11, fun u => (hI.2.2.2.2.2.2.1 (by simpa using u)).below hB11, fun u => ⟨(hI.2.2.2.2.2.2.2.1 (by simpa using u)).1, Nat.lt_of_lt_of_le (hI.2.2.2.2.2.2.2.1 (by simpa using u)).2 hB11.size⟩, fun u => ⟨(hI.2.2.2.2.2.2.2.2.1 (by simpa using u)).1, Nat.lt_of_lt_of_le (hI.2.2.2.2.2.2.2.2.1 (by simpa using u)).2 hB11.size⟩, by simpa using hI.2.2.2.2.2.2.2.2.2.1, by simpa using hI.2.2.2.2.2.2.2.2.2.2.1, by simpa using hI.2.2.2.2.2.2.2.2.2.2.2.1, by simpa using hI.2.2.2.2.2.2.2.2.2.2.2.2.1, by simpa using hI.2.2.2.2.2.2.2.2.2.2.2.2.2.1, by simpa using hI.2.2.2.2.2.2.2.2.2.2.2.2.2.2⟩
            refine Inv.Steps.cons rfl ?_ ?_
            · intro L a w' hI hL hd K hK
              obtain ⟨gp, qn, en, gL, gR, rfl, hI⟩ := hI
              simp [Region.binds] at hd
              simp only [hd, if_true]
              rw [if_pos (by rfl)]
              have f8 : L 8 = false := by
                cases h : L 8 with
                | false => rfl
                | true => exact absurd (hI.2.2.2.2.2.2.2.2.2.2.2.2.1 h) (by simp [hL])
              have f10 : L 10 = false := by
                cases h : L 10 with
                | false => rfl
                | true => exact absurd (hI.2.2.2.2.2.2.2.2.2.2.2.2.2.1 h) (by simp [f8])
              have f16 : L 16 = false := by
                cases h : L 16 with
                | false => rfl
                | true => exact absurd (hI.2.2.2.2.2.2.2.2.2.2.2.2.2.2 h) (by simp [f10])
              have ra := hI.2.1 (by simp [hd]) hL
              go_simp
              refine (hRA (hR9.2.2.1.below hI.1) ra).mono ?_
              rintro e7 w11 ⟨q11, e11, rfl, r11, n11, hB11⟩
              exact hK.out _ _ ⟨gp, q11, e11, gL, gR, by simp [hd, f8, f10], bnext hI.1 hB11, fun _ u => by simp at u, fun _ => ⟨r11, n11.imp id fun u a ha => Nat.le_trans hI.1.size (u a ha)⟩, fun u v => (hI.2.2.2.1 (by simpa using u) (by simpa using v)).below hB11, fun u => (hI.2.2.2.2.1 (by simpa using u)).below hB11, fun u v => (hI.2.2.2.2.2.1 (by simpa using u) (by simpa using v)).below hB11, fun u => by simp [f16] at u, fun u => ⟨(hI.2.2.2.2.2.2.2.1 (by simpa using u)).1, Nat.lt_of_lt_of_le (hI.2.2.2.2.2.2.2.1 (by simpa using u)).2 hB11.size⟩, fun u => ⟨(hI.2.2.2.2.2.2.2.2.1 (by simpa using u)).1, Nat.lt_of_lt_of_le (hI.2.2.2.2.2.2.2.2.1 (by simpa using u)).2 hB11.size⟩, by simpa using hI.2.2.2.2.2.2.2.2.2.1, by simpa using hI.2.2.2.2.2.2.2.2.2.2.1, by simpa using hI.2.2.2.2.2.2.2.2.2.2.2.1, by simp, by simpa using hI.2.2.2.2.2.2.2.2.2.2.2.2.2.1, by simpa using hI.2.2.2.2.2.2.2.2.2.2.2.2.2.2⟩
            refine Inv.Steps.cons rfl ?_ ?_
            · intro L a w' hI hL hd K hK
              obtain ⟨gp, qn, en, gL, gR, rfl, hI⟩ := hI
              simp [Region.binds] at hd
              simp only [hd, if_true]
              rw [if_pos (by rfl)]
              go_simp
              exact hK.out _ _ ⟨gp, qn, en, gL, gR, by simp [hd], hI.1, by simpa using hI.2.1, by simpa using hI.2.2.1, by simpa using hI.2.2.2.1, by simpa using hI.2.2.2.2.1, by simpa using hI.2.2.2.2.2.1, by simpa using hI.2.2.2.2.2.2.1, by simpa using hI.2.2.2.2.2.2.2.1, by simpa using hI.2.2.2.2.2.2.2.2.1, by simpa using hI.2.2.2.2.2.2.2.2.2.1, by simpa using hI.2.2.2.2.2.2.2.2.2.2.1, by simpa using hI.2.2.2.2.2.2.2.2.2.2.2.1, by simp [hd], by simp, by simpa using hI.2.2.2.2.2.2.2.2.2.2.2.2.2.2⟩
            refine Inv.Steps.cons rfl ?_ ?_
            · intro L a w' hI hL hd K hK
              obtain ⟨gp, qn, en, gL, gR, rfl, hI⟩ := hI
              simp [Region.binds] at hd
              simp only [hd, if_true]
              rw [if_pos (by rfl)]
              have h8t : L 8 = true := by simp [hd]
              have h7t := hI.2.2.2.2.2.2.2.2.2.2.2.2.1 h8t
              go_simp
              exact hK.out _ _ ⟨gp, qn, en, gL, gR, by simp [hd, h7t], by simpa using hI⟩
            refine Inv.Steps.cons rfl ?_ ?_
            · intro L a w' hI hL hd K hK
              obtain ⟨gp, qn, en, gL, gR, rfl, hI⟩ := hI
              simp [Region.binds] at hd
              simp only [hd, if_true]
              rw [if_pos (by rfl)]
              have h8t : L 8 = true := by simp [hd]
              have h7t := hI.2.2.2.2.2.2.2.2.2.2.2.2.1 h8t
              go_simp
              exact hK.out _ _ ⟨gp, qn, en, gL, gR, by simp [hd, h7t], hI.1, by simpa using hI.2.1, by simpa using hI.2.2.1, by simpa using hI.2.2.2.1, by simpa using hI.2.2.2.2.1, by simpa using hI.2.2.2.2.2.1, by simpa using hI.2.2.2.2.2.2.1, by simpa using hI.2.2.2.2.2.2.2.1, by simpa using hI.2.2.2.2.2.2.2.2.1, by simpa using hI.2.2.2.2.2.2.2.2.2.1, by simpa using hI.2.2.2.2.2.2.2.2.2.2.1, by simpa using hI.2.2.2.2.2.2.2.2.2.2.2.1, by simpa using hI.2.2.2.2.2.2.2.2.2.2.2.2.1, by simp [hd], by simp⟩
            refine Inv.Steps.cons rfl ?_ ?_
            · intro L a w' hI hL hd K hK
              obtain ⟨gp, qn, en, gL, gR, rfl, hI⟩ := hI
              simp [Region.binds] at hd
              simp only [hd, if_true]
              rw [if_pos (by rfl)]
              have h8t : L 8 = true := by simp [hd]
              have h7t := hI.2.2.2.2.2.2.2.2.2.2.2.2.1 h8t
              go_simp
              exact hK.out _ _ ⟨gp, qn, en, gL, gR, by simp [hd, h7t], by simpa using hI⟩
            refine Inv.Steps.cons rfl ?_ ?_
            · intro L a w' hI hL hd K hK
              obtain ⟨gp, qn, en, gL, gR, rfl, hI⟩ := hI
              simp [Region.binds] at hd
              simp only [hd, if_true]
              rw [if_pos (by rfl)]
              have h8t : L 8 = true := by simp [hd]
              have h7t := hI.2.2.2.2.2.2.2.2.2.2.2.2.1 h8t
              go_simp
              exact hK.out _ _ ⟨gp, qn, en, gL, gR, by simp [hd, h7t], by simpa using hI⟩
            refine Inv.Steps.cons rfl ?_ ?_
            · intro L a w' hI hL hd K hK
              obtain ⟨gp, qn, en, gL, gR, rfl, hI⟩ := hI
              clear hd
              rw [if_pos (by rfl)]
              have f15 : L 15 = false := by
                cases h : L 15 with
                | false => rfl
                | true => exact absurd (hI.2.2.2.2.2.2.2.2.2.2.1 h) (by simp [hL])
              refine wp_alloc_ll (by rfl) ?_
              intro w11 hX11 hB11 hz11
              exact hK.out _ _ ⟨gp, qn, en, w'.heap.size, gR, by simp [hL, Act.put], bnext hI.1 hB11, fun u v => (hI.2.1 (by simpa using u) (by simpa using v)).below hB11, fun u => ⟨(hI.2.2.1 (by simpa using u)).1.below hB11, (hI.2.2.1 (by simpa using u)).2⟩, fun _ _ => hX11, fun u => by simp [f15] at u, fun u v => (hI.2.2.2.2.2.1 (by simpa using u) (by simpa using v)).below hB11, fun u => (hI.2.2.2.2.2.2.1 (by simpa using u)).below hB11, fun _ => ⟨hI.1.size, hX11.lt⟩, fun u => ⟨(hI.2.2.2.2.2.2.2.2.1 (by simpa using u)).1, Nat.lt_of_lt_of_le (hI.2.2.2.2.2.2.2.2.1 (by simpa using u)).2 hB11.size⟩, fun _ u => by have := (hI.2.2.2.2.2.2.2.2.1 (by simpa using u)).2; omega, by simp, by simpa using hI.2.2.2.2.2.2.2.2.2.2.2.1, by simpa using hI.2.2.2.2.2.2.2.2.2.2.2.2.1, by simpa using hI.2.2.2.2.2.2.2.2.2.2.2.2.2.1, by simpa using hI.2.2.2.2.2.2.2.2.2.2.2.2.2.2⟩
            refine Inv.Steps.cons rfl ?_ ?_
            · intro L a w' hI hL hd K hK
              obtain ⟨gp, qn, en, gL, gR, rfl, hI⟩ := hI
              clear hd
              rw [if_pos (by rfl)]
              have f16 : L 16 = false := by
                cases h : L 16 with
                | false => rfl
                | true => exact absurd (hI.2.2.2.2.2.2.2.2.2.2.2.1 h) (by simp [hL])
              refine wp_alloc_rd (by rfl) ?_
              intro w11 hX11 hB11 hz11
              exact hK.out _ _ ⟨gp, qn, en, gL, w'.heap.size, by simp [hL, Act.put], bnext hI.1 hB11, fun u v => (hI.2.1 (by simpa using u) (by simpa using v)).below hB11, fun u => ⟨(hI.2.2.1 (by simpa using u)).1.below hB11, (hI.2.2.1 (by simpa using u)).2⟩, fun u v => (hI.2.2.2.1 (by simpa using u) (by simpa using v)).below hB11, fun u => (hI.2.2.2.2.1 (by simpa using u)).below hB11, fun _ _ => hX11, fun u => by simp [f16] at u, fun u => ⟨(hI.2.2.2.2.2.2.2.1 (by simpa using u)).1, Nat.lt_of_lt_of_le (hI.2.2.2.2.2.2.2.1 (by simpa using u)).2 hB11.size⟩, fun _ => ⟨hI.1.size, hX11.lt⟩, fun u _ => by have := (hI.2.2.2.2.2.2.2.1 (by simpa using u)).2; omega, by simpa using hI.2.2.2.2.2.2.2.2.2.2.1, by simp, by simpa using hI.2.2.2.2.2.2.2.2.2.2.2.2.1, by simpa using hI.2.2.2.2.2.2.2.2.2.2.2.2.2.1, by simpa using hI.2.2.2.2.2.2.2.2.2.2.2.2.2.2⟩
            refine Inv.Steps.cons rfl ?_ ?_
            · intro L a w' hI hL hd K hK
              obtain ⟨gp, qn, en, gL, gR, rfl, hI⟩ := hI
              simp [Region.binds] at hd
              simp only [hd, if_true]
              rw [if_pos (by rfl)]
              have h7t : L 7 = true := by first | simp [hd] | exact hI.2.2.2.2.2.2.2.2.2.2.2.2.1 (by simp [hd])
              have h7 := hI.2.2.1 h7t
              have hs := hI.2.2.2.2.2.2.2.1 (by simp [hd])
              have hz := hI.2.2.2.1 (by simp [hd]) hL
              refine wp_store_ll _ _ gL _ ⟨5, nx1, st, segOf S st j1, t1⟩ (by rfl) (by rfl) (by rfl) hz (by rfl) ?_
              intro w11 hX11 hg11 hz11
              have kne : ∀ a, qn = some a → 0 < r1.pe.length → a.block ≠ gL := fun a ha h0 => rk_off wc_len (by decide) h7.1 hz (by rfl) h0 ha
              exact hK.out _ _ ⟨gp, qn, en, gL, gR, by simp [hd, Act.put], hI.1.grown hg11 hI.1.size (fun i hi => by simp at hi; omega), fun _ u => by simp [h7t] at u, fun _ => ⟨kept_row h7.1 hg11 (fun h0 a ha => kne a ha h0), h7.2⟩, fun _ u => by simp at u, fun _ => hX11, fun u v => (hI.2.2.2.2.2.1 (by simpa using u) (by simpa using v)).kept hg11 (by have := hI.2.2.2.2.2.2.2.2.2.1 (by simp [hd]) (by simpa using u); simpa using this.symm), fun u => (hI.2.2.2.2.2.2.1 (by simpa using u)).kept hg11 (by have := hI.2.2.2.2.2.2.2.2.2.1 (by simp [hd]) (hI.2.2.2.2.2.2.2.2.2.2.2.1 (by simpa using u)); simpa using this.symm), fun u => ⟨(hI.2.2.2.2.2.2.2.1 (by simpa using u)).1, Nat.lt_of_lt_of_le (hI.2.2.2.2.2.2.2.1 (by simpa using u)).2 hg11.size⟩, fun u => ⟨(hI.2.2.2.2.2.2.2.2.1 (by simpa using u)).1, Nat.lt_of_lt_of_le (hI.2.2.2.2.2.2.2.2.1 (by simpa using u)).2 hg11.size⟩, by simpa using hI.2.2.2.2.2.2.2.2.2.1, by simp [hd], by simpa using hI.2.2.2.2.2.2.2.2.2.2.2.1, by simpa using hI.2.2.2.2.2.2.2.2.2.2.2.2.1, by simpa using hI.2.2.2.2.2.2.2.2.2.2.2.2.2.1, by simpa using hI.2.2.2.2.2.2.2.2.2.2.2.2.2.2⟩
            refine Inv.Steps.cons rfl ?_ ?_
            · intro L a w' hI hL hd K hK
              obtain ⟨gp, qn, en, gL, gR, rfl, hI⟩ := hI
              simp [Region.binds] at hd
              simp only [hd, if_true]
              rw [if_pos (by rfl)]
              have h10 : L 10 = true := by simp [hd]
              have h7t : L 7 = true := hI.2.2.2.2.2.2.2.2.2.2.2.2.1 (hI.2.2.2.2.2.2.2.2.2.2.2.2.2.1 h10)
              have h7 := hI.2.2.1 h7t
              have hs := hI.2.2.2.2.2.2.2.2.1 (by simp [hd])
              have hz := hI.2.2.2.2.2.1 (by simp [hd]) hL
              refine wp_store_rd _ _ gR _ r1 p c qn en (by rfl) (by rfl) (by rfl) hz (by rfl) ?_
              intro w11 hX11 hg11 hz11
              have kne : ∀ a, qn = some a → 0 < r1.pe.length → a.block ≠ gR := fun a ha h0 => rk_off wc_len (by decide) h7.1 hz (by rfl) h0 ha
              exact hK.out _ _ ⟨gp, qn, en, gL, gR, by simp [hd, Act.put], hI.1.grown hg11 hI.1.size (fun i hi => by simp at hi; omega), fun _ u => by simp [h7t] at u, fun _ => ⟨kept_row h7.1 hg11 (fun h0 a ha => kne a ha h0), h7.2⟩, fun u v => (hI.2.2.2.1 (by simpa using u) (by simpa using v)).kept hg11 (by have := hI.2.2.2.2.2.2.2.2.2.1 (by simpa using u) (by simp [hd]); simpa using this), fun u => (hI.2.2.2.2.1 (by simpa using u)).kept hg11 (by have := hI.2.2.2.2.2.2.2.2.2.1 (hI.2.2.2.2.2.2.2.2.2.2.1 (by simpa using u)) (by simp [hd]); simpa using this), fun _ u => by simp at u, fun _ => hX11, fun u => ⟨(hI.2.2.2.2.2.2.2.1 (by simpa using u)).1, Nat.lt_of_lt_of_le (hI.2.2.2.2.2.2.2.1 (by simpa using u)).2 hg11.size⟩, fun u => ⟨(hI.2.2.2.2.2.2.2.2.1 (by simpa using u)).1, Nat.lt_of_lt_of_le (hI.2.2.2.2.2.2.2.2.1 (by simpa using u)).2 hg11.size⟩, by simpa using hI.2.2.2.2.2.2.2.2.2.1, by simpa using hI.2.2.2.2.2.2.2.2.2.2.1, by simp [hd], by simpa using hI.2.2.2.2.2.2.2.2.2.2.2.2.1, by simpa using hI.2.2.2.2.2.2.2.2.2.2.2.2.2.1, by simp [h10]⟩
            refine Inv.Steps.cons rfl ?_ ?_
            · intro L a w' hI hL hd K hK
              obtain ⟨gp, qn, en, gL, gR, rfl, hI⟩ := hI
              simp [Region.binds] at hd
              simp only [hd, if_true]
              rw [if_pos (by rfl)]
              go_simp
              exact hK.out _ _ ⟨gp, qn, en, gL, gR, by simp [hd], by simpa using hI⟩
            refine Inv.Steps.cons rfl ?_ ?_
            · intro L a w' hI hL hd K hK
              obtain ⟨gp, qn, en, gL, gR, rfl, hI⟩ := hI
              simp [Region.binds] at hd
              simp only [hd, if_true]
              rw [if_pos (by rfl)]
              go_simp
              exact hK.out _ _ ⟨gp, qn, en, gL, gR, by simp [hd], by simpa using hI⟩
            exact Inv.Steps.nil (by decide)
          case done =>
            intro L a w' hI hall
            obtain ⟨gp, qn, en, gL, gR, rfl, hI⟩ := hI
            simp only [hall, if_true] at hI ⊢
            have hB10 := hI.1
            have h7 := hI.2.2.1 trivial
            have hXL := hI.2.2.2.2.1 trivial
            have hXR := hI.2.2.2.2.2.2.1 trivial
            have s13 := hI.2.2.2.2.2.2.2.1 trivial
            have s14 := hI.2.2.2.2.2.2.2.2.1 trivial
            clear hI
            have hL10 := hL9.below hB10
            have hX10 := hR9.1.below hB10
            have hlL := hL9.lt
            have hlG := hR9.1.lt
            have hne1 : G ≠ GL := fun q => hR9.2.2.2.2.2 (.inr (.inr q))
            clear hpy hRA hPA hall
            go_wp2_with (first
              | ((fail_if_success (have _ := hL11)); (refine at_load_ll _ _ _ (by rfl) (by rfl) hXL (by rfl) ?_))
              | ((fail_if_success (have _ := hL11)); (refine at_store_ll _ _ _ _ ⟨5, nx1, st, segOf S st j1, t1⟩ (by rfl) (by rfl) (by rfl) hL10 rfl (by rfl) ?_); intro W11 hL11 hg11 hz11; have hXR11 := hXR.kept hg11 (by simp; omega); have hX11 := hX10.kept hg11 (by simpa using hne1))
              | ((fail_if_success (have _ := hX12)); (have _ := hL11); (refine at_load_rd _ _ _ _ _ _ _ (by rfl) (by rfl) hXR11 (by rfl) ?_))
              | ((fail_if_success (have _ := hX12)); (have _ := hL11); (refine at_store_rd _ _ _ _ r1 p c qn en (by rfl) (by rfl) (by rfl) hX11 (by simp [rl]) (by rfl) ?_); intro W12 hX12 hg12 hz12))
            go_meet
            case rel =>
              exact ⟨E, d1, r1, T9, p, c, qn, en, nx1, j1, t1, rfl, rfl, st_app hSt8 hF9 hS9 hD9 hY9 hB10 hL11 hg11 hX12 hg12 h7.1 h7.2 hrs2 hok1, ((hA9.below hB10).kept hg11 (by simpa using hAGL)).kept hg12 (by simpa using hAG)⟩
        have z0 : (ki == 0) = false := by simp [k0]
        by_cases k1 : ki = 1
        · subst k1
          go_wp2_with (first
            | ((fail_if_success (have _ := hD8)); (with_reducible refine (wal_Sync hD7 hY7 od7).mono ?_); rintro e' W8 ⟨rfl, T8, hD8, hF8, hS8⟩; have hA8 := hF8.blk hA7 hAT; have hL8R := hSt7.prog (Fr.mono hF8 fun _ hi => .inl hi) hS8; have hX8 := hL8R.2.1.1; have hp8 := hL8R.2.1.2.1; have hq8 := hL8R.2.1.2.2.1; have hc8 := hA8.cell; simp only [ac] at hc8)
            | ((fail_if_success (have _ := hB9)); (have _ := hD8); (refine at_load_rd _ _ _ _ _ _ _ (by rfl) (by rfl) hX8 (by rfl) ?_))
            | ((fail_if_success (have _ := hB9)); (have _ := hD8); (with_reducible refine (rsync_any r p c q e _ or7 hp8 hq8).mono ?_); rintro e' W9 ⟨p9, k9, q9, c9, rfl, hs9, hr9, hm9, hn9, hB9⟩; have hX9 := hX8.below hB9)
            | ((fail_if_success (have _ := hX10)); (have _ := hB9); (refine at_store_rd _ _ _ _ r.sync p9 k9 q9 c9 (by rfl) (by rfl) (by rfl) hX9 (by simp [rl]) (by rfl) ?_); intro W10 hX10 hg10 hz10))
          go_meet
          case rel =>
            have hE := ag_err hag
            exact ⟨r.err, _, _, T8, p9, k9, q9, c9, nx, j, t, by rw [hE], rfl, st_set hSt7 hF8 hS8 hD8 hB9 hX10 hg10 hs9 hr9 hm9 hn9 ⟨sync_ok od7, rsync_ok or7, ag_sync hag or7, byt_sync hbyt, far_sync hfar hpe0, by rw [(sync_len d).2]; exact hdn, hcn, hnum, hn64, by have := (sync_len d).1; omega⟩, (hA8.below hB9).kept hg10 (by simpa using hAG)⟩
        have z1 : (ki == 1) = false := by simp [k1]
        by_cases k2 : ki = 2
        · subst k2
          obtain ⟨Z7, rfl⟩ : ∃ V : World, V = W7 := ⟨W7, rfl⟩
          have hPR := fun {W : World} (hB : Below Z7.heap.size Z7 W) => wal_Room (hD7.below hB) (hY7.below hB) (by rw [hdn]; exact hcn) ai
          have hRR := fun W => ref_Room hcn 5 nx ai W
          have HRN7 : Hid (r.st.length = n) := (by rw [← hag.1]; exact hdn : r.st.length = n)
          generalize room S j t nx (sizeN ai) = RM at hPR hRR
          go_wp2
          refine Inv.region_inv (fun L a w' => a = { tmps := #[(Value.int IntKind.i64 x), (Value.agg #[Value.int IntKind.u64 ↑s0, Value.int IntKind.u64 y1]), (Value.slice (some { block := b, off := o }) n0 c0), undef, (Value.pointer (some { block := w.heap.size, off := 0 })), undef, u6, (Value.pointer (some { block := g, off := 0 })), (Value.pointer (some { block := G, off := 0 })), (Value.int IntKind.i64 ↑st), (Value.pointer (some { block := gl, off := 0 })), (Value.int IntKind.i64 0), (Value.pointer (some { block := GL, off := 0 })), (Value.int IntKind.i64 0), undef, (Value.pointer (some { block := A, off := 0 })), (Value.int IntKind.i64 0), (Value.int IntKind.i64 0), u18, u19, u20, u21, u22, u23, u24, u25, u26, u27, u28, u29, u30, undef, undef, undef, (Value.bool true), (Value.bool false), (Value.int IntKind.i64 x), (Value.bool false), (Value.bool false), (Value.slice (some { block := b, off := o }) n0 c0), (Value.int IntKind.i64 ↑n0), (Value.bool false), (Value.bool false), (Value.bool false), (Value.pointer (some { block := w.heap.size, off := 1 })), (Value.int IntKind.u64 y1), (Value.bool false), (Value.bool false), (Value.int IntKind.i64 x), (Value.pointer (some { block := g, off := 0 })), (Value.int IntKind.i64 x), (rv (rfresh n) p3 c3 none 0), (Value.pointer (some { block := w.heap.size, off := 1 })), (Value.int IntKind.u64 y1), (Value.int IntKind.i64 y1), (Value.int IntKind.i64 ↑st), (Value.tuple #[Value.pointer (some { block := gl, off := 0 }), Value.int IntKind.i64 0]), (Value.pointer (some { block := g, off := 0 })), (Value.pointer (some { block := w.heap.size, off := 0 })), (Value.int IntKind.u64 ↑s0), (Value.int IntKind.i64 ↑st), (Value.tuple #[Value.pointer (some { block := gl, off := 0 }), Value.int IntKind.i64 0]), (Value.pointer (some { block := gl, off := 0 })), (Value.int IntKind.i64 0), (Value.tuple #[lv { ep := 5, nx := s0, st := st, nw := st, tk := 0 }, Value.int IntKind.i64 0]), (Value.pointer (some { block := G, off := 0 })), (Value.slice p3 n c3), (Value.int IntKind.i64 ↑n), (Value.pointer (some { block := w.heap.size, off := 0 })), (Value.int IntKind.u64 ↑s0), (Value.int IntKind.i64 ↑st), (Value.tuple #[lv { ep := 5, nx := s0, st := st, nw := st, tk := 0 }, Value.int IntKind.i64 0]), (lv { ep := 5, nx := s0, st := st, nw := st, tk := 0 }), (Value.int IntKind.i64 0), (Value.int IntKind.i64 0), (Value.int IntKind.i64 0), (Value.bool false), (Value.bool false), (Value.pointer (some { block := gl, off := 0 })), (Value.bool false), (Value.int IntKind.i64 0), (Value.bool false), (Value.bool false), (Value.bool false), (Value.int IntKind.i64 0), (Value.bool false), (Value.slice (some { block := b, off := o }) n0 c0), (Value.int IntKind.i64 ↑n0), (Value.int IntKind.i64 ↑k), (Value.bool true), (Value.pointer (some { block := b, off := o + k * 4 })), (acw (2, ai, by8, kq, kn, kc)), (Value.pointer (some { block := A, off := 0 })), (Value.int IntKind.i64 2), (Value.bool false), (Value.bool false), u96, u97, u98, u99, u100, u101, u102, u103, u104, u105, u106, u107, u108, u109, u110, u111, u112, u113, u114, u115, u116, u117, u118, u119, u120, u121, u122, u123, u124, u125, u126, (Value.bool false), (Value.bool false), u129, u130, u131, u132, u133, u134, u135, (Value.bool true), (Value.bool true), (if L 0 = true then (Value.pointer (some { block := gl, off := 0 })) else u138), (if L 1 = true then (.pointer (some ⟨A, 1, none⟩)) else u139), (if L 2 = true then (.int .i64 ai) else u140), (if L 3 = true then (.bool RM) else u141), (if L 4 = true then (lv ⟨5, nx, st, segOf S st j, t⟩) else u142), (if L 5 = true then (.pointer (some ⟨G, 0, none⟩)) else u143), (if L 6 = true then (.slice p n c) else u144), (if L 7 = true then (.int .i64 (n : Int)) else u145), (if L 8 = true then (.pointer (some ⟨A, 1, none⟩)) else u146), (if L 9 = true then (.int .i64 ai) else u147), (if L 10 = true then (.bool RM) else u148), (if L 11 = true then (.bool false) else u149), u150, u151, u152, u153, u154, u155, u156, u157, u158, u159, u160, u161, u162, u163, u164, u165, u166, u167, u168, u169, u170, u171, u172, u173, u174, u175, u176, u177, u178, u179, u180, u181, u182, u183, u184, u185, u186, u187, u188, u189, u190, u191, u192, u193, u194, u195, u196, u197, u198, u199, u200, u201, u202, u203, u204, u205, u206, u207, u208, u209, u210, u211, u212, u213, u214, u215, u216, u217, u218, u219, u220, u221, u222, u223, u224, u225, u226, u227, u228, u229, u230, u231, u232, u233, u234, u235, u236, u237, u238, undef, undef, undef, undef, undef, undef, undef, undef, undef, undef, undef, undef, undef, undef, undef, undef, undef, undef, undef, undef], defers := [] } ∧ (Below Z7.heap.size Z7 w')) (by kernel_rfl) (by kernel_rfl) ?h0 ?step ?done
          case h0 => exact ⟨by simp, (Below.refl _ _).drew⟩
          case step =>
            refine Inv.Steps.cons rfl ?_ ?_
            · intro L a w' hI hL hd K hK
              obtain ⟨rfl, hI⟩ := hI
              clear hd
              rw [if_pos (by rfl)]
              go_simp
              exact hK.out _ _ ⟨by simp, by simpa using hI⟩
            refine Inv.Steps.cons rfl ?_ ?_
            · intro L a w' hI hL hd K hK
              obtain ⟨rfl, hI⟩ := hI
              clear hd
              rw [if_pos (by rfl)]
              go_simp
              exact hK.out _ _ ⟨by simp, by simpa using hI⟩
            refine Inv.Steps.cons rfl ?_ ?_
            · intro L a w' hI hL hd K hK
              obtain ⟨rfl, hI⟩ := hI
              simp [Region.binds] at hd
              simp only [hd, if_true]
              rw [if_pos (by rfl)]
              have hcA := (hA7.below hI).cell
              simp only [ac] at hcA
              go_simp
              exact hK.out _ _ ⟨by simp [hd], by simpa using hI⟩
            refine Inv.Steps.cons rfl ?_ ?_
            · intro L a w' hI hL hd K hK
              obtain ⟨rfl, hI⟩ := hI
              simp [Region.binds] at hd
              simp only [hd, if_true]
              rw [if_pos (by rfl)]
              go_simp
              refine (hPR hI).mono ?_
              rintro e7 w11 ⟨rfl, hB11⟩
              exact hK.out _ _ ⟨by simp [hd], bnext hI hB11⟩
            refine Inv.Steps.cons rfl ?_ ?_
            · intro L a w' hI hL hd K hK
              obtain ⟨rfl, hI⟩ := hI
              clear hd
              rw [if_pos (by rfl)]
              refine wp_load_ll _ _ _ (by rfl) (by rfl) (hL7.below hI) ?_
              exact hK.out _ _ ⟨by simp [Act.put], hI⟩
            refine Inv.Steps.cons rfl ?_ ?_
            · intro L a w' hI hL hd K hK
              obtain ⟨rfl, hI⟩ := hI
              clear hd
              rw [if_pos (by rfl)]
              go_simp
              exact hK.out _ _ ⟨by simp, by simpa using hI⟩
            refine Inv.Steps.cons rfl ?_ ?_
            · intro L a w' hI hL hd K hK
              obtain ⟨rfl, hI⟩ := hI
              simp [Region.binds] at hd
              simp only [hd, if_true]
              rw [if_pos (by rfl)]
              have hcG := (hR7.1.below hI).cell
              simp only [rl, HRN7.out] at hcG
              go_simp
              exact hK.out _ _ ⟨by simp [hd], by simpa using hI⟩
            refine Inv.Steps.cons rfl ?_ ?_
            · intro L a w' hI hL hd K hK
              obtain ⟨rfl, hI⟩ := hI
              simp [Region.binds] at hd
              simp only [hd, if_true]
              rw [if_pos (by rfl)]
              go_simp
              exact hK.out _ _ ⟨by simp [hd], by simpa using hI⟩
            refine Inv.Steps.cons rfl ?_ ?_
            · intro L a w' hI hL hd K hK
              obtain ⟨rfl, hI⟩ := hI
              clear hd
              rw [if_pos (by rfl)]
              go_simp
              exact hK.out _ _ ⟨by simp, by simpa using hI⟩
            refine Inv.Steps.cons rfl ?_ ?_
            · intro L a w' hI hL hd K hK
              obtain ⟨rfl, hI⟩ := hI
              simp [Region.binds] at hd
              simp only [hd, if_true]
              rw [if_pos (by rfl)]
              have hcA := (hA7.below hI).cell
              simp only [ac] at hcA
              go_simp
              exact hK.out _ _ ⟨by simp [hd], by simpa using hI⟩
            refine Inv.Steps.cons rfl ?_ ?_
            · intro L a w' hI hL hd K hK
              obtain ⟨rfl, hI⟩ := hI
              simp [Region.binds] at hd
              simp only [hd, if_true]
              rw [if_pos (by rfl)]
              go_simp
              refine (hRR _).mono ?_
              rintro e7 w11 ⟨rfl, hB11⟩
              exact hK.out _ _ ⟨by simp [hd], bnext hI hB11⟩
            refine Inv.Steps.cons rfl ?_ ?_
            · intro L a w' hI hL hd K hK
              obtain ⟨rfl, hI⟩ := hI
              simp [Region.binds] at hd
              simp only [hd, if_true]
              rw [if_pos (by rfl)]
              go_simp
              exact hK.out _ _ ⟨by simp [hd], by simpa using hI⟩
            exact Inv.Steps.nil (by decide)
          case done =>
            intro L a w' hI hall
            obtain ⟨rfl, hI⟩ := hI
            simp only [hall, if_true] at hI ⊢
            have hB9 := hI
            clear hI hall hPR hRR
            go_wp2
            go_meet
            case rel => exact ⟨0, d, r, T, p, c, q, e, nx, j, t, rfl, rfl, (hSt7.below hB9).later, hA7.below hB9⟩
        have z2 : (ki == 2) = false := by simp [k2]
        by_cases k3 : ki = 3
        · subst k3
          go_wp2_with (first
            | ((fail_if_success (have _ := hD8)); (with_reducible refine (break_any hD7 ai).mono ?_); rintro e' W8 ⟨rfl, T8, hD8, hF8, hS8⟩; have hA8 := hF8.blk hA7 hAT; have hL8R := hSt7.prog (Fr.mono hF8 fun _ hi => .inl hi) hS8; have hX8 := hL8R.2.1.1; have hp8 := hL8R.2.1.2.1; have hq8 := hL8R.2.1.2.2.1; have hc8 := hA8.cell; simp only [ac] at hc8)
            | ((fail_if_success (have _ := hB9)); (have _ := hD8); (refine at_load_rd _ _ _ _ _ _ _ (by rfl) (by rfl) hX8 (by rfl) ?_))
            | ((fail_if_success (have _ := hB9)); (have _ := hD8); (with_reducible refine (rbreak_any r p c q e ai _).mono ?_); rintro e' W9 ⟨rfl, hB9⟩; have hX9 := hX8.below hB9)
            | ((fail_if_success (have _ := hX10)); (have _ := hB9); (refine at_store_rd _ _ _ _ (r.breaks ai) p c q e (by rfl) (by rfl) (by rfl) hX9 (by simp [rl]) (by rfl) ?_); intro W10 hX10 hg10 hz10))
          go_meet
          case rel =>
            exact ⟨0, _, _, T8, p, c, q, e, nx, j, t, rfl, rfl, st_set hSt7 hF8 hS8 hD8 hB9 hX10 hg10 (hp8.below hB9) (hq8.below hB9) (.inl ⟨rfl, rfl⟩) (.inl ⟨rfl, rfl⟩) ⟨breaks_ok od7 oa2, rbreaks_ok or7 oa2, ag_breaks hag ai, byt_breaks hbyt ai, far_breaks hfar ai, hdn, hcn, hnum, hn64, by simp only [Dsk.breaks]; omega⟩, (hA8.below hB9).kept hg10 (by simpa using hAG)⟩
        have z3 : (ki == 3) = false := by simp [k3]
        by_cases k4 : ki = 4
        · subst k4
          have hc7a := fun o => (hA7.alloc o).cell
          simp only [ac] at hc7a
          go_wp2_with (first
            | (at_builtin; (fail_if_success (have _ := hb8)); refine at_app_bools _ (by rfl) _ _ (by rfl) W7.heap.size (.slice (some ⟨W7.heap.size, 0, none⟩) 0 0) 0 [] (by rfl) (lit_none_k (k := 1) (enc := bc) W7) kq kn kc ks (by rfl) lk (rk7.alloc _) (by omega) (by simp) ?_; intro v8 W8 hown8 hg8; rw [List.nil_append, Nat.zero_add] at hown8; have hb8 : Below W7.heap.size W7 W8 := (bnew W7 _).grown hg8 (by simp) (fun b hb => by simp [Value.ownBlock] at hb; omega); obtain ⟨p8, c8, hv8, hr8, hp8⟩ := own_rk bc_len (by decide) hown8; rw [lk] at hv8; subst hv8; have hSt8 := hSt7.below hb8; have hA8 := hA7.below hb8; have hD8 := hD7.below hb8; have ho8 : Off T p8 kn := fun _ a ha q => by { have := hp8 a ha; have := hD7.lt _ q; omega })
            | ((fail_if_success (have _ := hD9)); (have _ := hb8); (with_reducible refine (dk_crash hD8 od7 p8 kn c8 ks lk hr8 ho8).mono ?_); rintro e' W9 ⟨rfl, T9, hD9, hF9, hS9⟩; have hA9 := hF9.blk hA8 hAT; have hL9R := hSt8.prog (Fr.mono hF9 fun _ hi => .inl hi) hS9; have hX9 := hL9R.2.1.1; have hp9 := hL9R.2.1.2.1; have hq9 := hL9R.2.1.2.2.1; have hc9 := hA9.cell; simp only [ac] at hc9; have rk9 := rk.below (bnext hb01 hL9R.2.2); clear hc7 hc7a)
            | ((fail_if_success (have _ := hB10)); (have _ := hD9); (refine at_load_rd _ _ _ _ _ _ _ (by rfl) (by rfl) hX9 (by rfl) ?_))
            | ((fail_if_success (have _ := hB10)); (have _ := hD9); (with_reducible refine (rcrash_any r p c q e kq kn kc ks _ or7 hp9 hq9 lk rk9).mono ?_); rintro e' W10 ⟨p10, c10, rfl, hr10, hp10, hB10⟩; have hX10 := hX9.below hB10)
            | ((fail_if_success (have _ := hX11)); (have _ := hB10); (refine at_store_rd _ _ _ _ (r.crash ks) p10 c10 none 0 (by rfl) (by rfl) (by rfl) hX10 (by simp [rl]) (by rfl) ?_); intro W11 hX11 hg11 hz11))
          go_meet
          case rel =>
            exact ⟨0, _, _, T9, p10, c10, none, 0, nx, j, t, rfl, rfl, st_set hSt8 hF9 hS9 hD9 hB10 hX11 hg11 hr10 (RK.nil _ _) (.inr hp10) (.inr (by simp)) ⟨crash_ok od7 ks, rcrash_ok or7 ks, ag_crash hag ks, byt_crash hbyt ks, far_crash hfar hpe0 ks, by rw [crash_len]; exact hdn, hcn, hnum, hn64, by simp [Dsk.crash, Dsk.settled]⟩, (hA9.below hB10).kept hg11 (by simpa using hAG)⟩
        have z4 : (ki == 4) = false := by simp [k4]
        go_wp2
        go_meet
        case rel => exact ⟨0, d, r, T, p, c, q, e, nx, j, t, rfl, rfl, hSt7.later, hA7⟩
      case rest =>
        obtain ⟨E, d2, r2, T2', p2, c2, q2, e2, nx2, j2, t2, rfl, rfl, hS2, hA2⟩ := hcut
        obtain ⟨⟨hD, hY, hL2, hR, hb⟩, hap, od, or, hag, hbyt, hfar, hdn, hcn, hnum, hn64, hpl⟩ := id hS2
        have hrn2 : r2.st.length = n := by rw [← hag.1]; exact hdn
        have HRN2 : Hid (r2.st.length = n) := hrn2
        have hbgc := hbg1.below hb
        have hkc : ∀ i, wc.cell? ⟨w.heap.size, i, none⟩ = [Value.int .u64 (s0 : Int), .int .u64 y1][i]? := hbgc.cell
        obtain ⟨⟨GS, KS⟩, hGS⟩ : ∃ D, scan (rvis r2 S st) S 5 (16 * S + 1) s0 0 0 = D := ⟨_, rfl⟩
        have hlen : GS.length ≤ 16 * S := by
          have := scan_len (rd := rvis r2 S st) (S := S) (ep := 5) (16 * S + 1) s0 0 0 (by have := hcan.two; omega) (by omega)
          rw [hGS] at this
          simpa using this
        have hS30 := hcan.two.2
        have hsc1 : Calls Try.prog 10 #[.pointer (some ⟨g, 0, none⟩), .int .u32 5, .int .u64 (s0 : Int), .int .i64 (st : Int)] wc fun e' w' => Found wc w' e' GS (segOf S st KS) := by
          have := wal_Scan hD od hbyt 5 s0 st (by decide) hs64 (by rw [hdn]; exact hE) (S := S) (by rw [hdn]; exact hS.symm)
          rw [same_scan hcan hfar hs00 hag od, hGS] at this
          exact this
        have hsc2 : ∀ {W : World}, Below wc.heap.size wc W → Calls Try.prog 25 #[rv r2 p2 c2 q2 e2, .int .u32 5, .int .u64 (s0 : Int), .int .i64 (st : Int)] W fun e' w' => Found W w' e' GS (segOf S st KS) := fun hB => by
          have := ref_Scan hcan r2 p2 c2 q2 e2 hrn2 or 5 s0 hs00 hs64 (by decide) (by rw [rvis_vis hag od]; exact fun i t => byt_view hbyt S st i t) _ (hR.2.1.below hB) (hR.2.2.1.below hB)
          rw [hGS] at this
          exact this
        generalize segOf S st KS = SK at *
        clear hGS hbyt hfar hrn2
        by_cases k4 : ki = 4
        · subst k4
          go_wp2_with (first
            | ((fail_if_success (have _ := hB1)); (with_reducible refine hsc1.mono ?_); rintro e' v1 ⟨vv1, rs1, rfl, hrs1, hg1, hB1⟩; obtain ⟨p5, c5, hv5, r5, -⟩ := own_rk rc_len (by decide) hrs1.1; subst hv5; have hX1 := hR.1.below hB1; have hbg2 := hbgc.below hB1; have hkc1 : ∀ i, v1.cell? ⟨w.heap.size, i, none⟩ = [Value.int .u64 (s0 : Int), .int .u64 y1][i]? := hbg2.cell)
            | ((fail_if_success (have _ := hB2)); (have _ := hB1); (refine at_load_rd _ _ _ _ _ _ _ (by rfl) (by rfl) hX1 (by rfl) ?_))
            | ((fail_if_success (have _ := hB2)); (have _ := hB1); (with_reducible refine (hsc2 hB1).mono ?_); rintro e' v2 ⟨vv2, rs2, rfl, hrs2, hg2, hB2⟩; obtain ⟨p6, c6, hv6, r6, -⟩ := own_rk rc_len (by decide) hrs2.1; subst hv6; have hM1 := made_rows (T := fun _ => False) (hrs1.below hB2) (fun _ h => h.elim); have hM2 := made_rows (T := fun _ => False) hrs2 (fun _ h => h.elim); have hl1 : rs1.length ≤ 10000 := (by have := congrArg List.length hg1; rw [List.length_map] at this; omega); have hl2 : rs2.length ≤ 10000 := (by have := congrArg List.length hg2; rw [List.length_map] at this; omega); have hsm := made_same hM1 hM2 rfl rfl hl1 hl2 (hg1.trans hg2.symm))
            | ((fail_if_success (have _ := hB3)); (have _ := hB2); (with_reducible refine hsm.mono ?_); rintro e' v3 ⟨rfl, hB3⟩; have hB13 := bnext (bnext hB1 hB2) hB3; have hA3 := hA2.below hB13; have hcA3 := hA3.cell; simp only [ac] at hcA3; have hS3 := hS2.below hB13; have hcG3 : ∀ i, v3.cell? ⟨G, i, none⟩ = [Value.slice p2 n c2, .slice q2 r2.pe.length e2, .bool r2.ct, .int .i64 r2.lf, .bool r2.dn][i]? := (by have := hS3.1.2.2.2.1.1.cell; simp only [rl, HRN2.out] at this; exact this)))
          clear hsm hM1 hM2 r5 r6 hrs1 hrs2 hsc1 hsc2 hkc hkc1 hX1 hbg2 hbgc hg1 hg2 hl1 hl2
          clear hD hY hL2 hR hb hap od or hag hdn hcn hnum hn64 hpl

          obtain ⟨⟨hDf, -, -, hRf, hbf⟩, -, odf, orf, hagf, -, -, hdnf, -⟩ := id hS3
          have hrnf : r2.st.length = n := by rw [← hagf.1]; exact hdnf
          have hXf := hRf.1
          have hpf := hRf.2.1
          have hcG : ∀ i, v3.cell? ⟨G, i, none⟩ = [Value.slice p2 r2.st.length c2, .slice q2 r2.pe.length e2, .bool r2.ct, .int .i64 r2.lf, .bool r2.dn][i]? := hXf.cell
          rw [hrnf] at hcG
          have hstf : ∀ {V : World} (i : Nat) (z : Sec), Below v3.heap.size v3 V → r2.st[i]? = some z → Calls Try.prog 31 #[.pointer (some ⟨g, 0, none⟩), .int .i64 (i : Int)] V fun e' w' => e' = .returned (.tuple #[secv z, .int .i64 0]) ∧ Below V.heap.size V w' := fun i z hB hz => by
            have := stable_any (hDf.below hB) (i : Int)
            have hi : i < r2.st.length := (List.getElem?_eq_some_iff.1 hz).1
            have e1 : stab d2.st (i : Int) = (z, 0) := by
              unfold stab
              rw [hagf.1, if_pos (has_nat hi), Int.toNat_natCast, List.getD_eq_getElem?_getD, hz]
              rfl
            rw [e1] at this
            exact this
          have HRN : Hid (r2.st.length = n) := hrnf
          have hn16 : n ≤ 140 := hn140
          clear hrnf

          go_loopw [242] (fun v wz => ∃ i : Nat, i ≤ n ∧ v = .int .i64 i ∧ Below v3.heap.size v3 wz) (fun v _ => n - (intOf v).toNat)
          case atStart => exact ⟨0, Nat.zero_le _, rfl, Below.refl _ _⟩
          case round =>
            obtain ⟨i, hi, rfl, hBz⟩ := hrel
            by_cases hin : i < n
            · have hin2 : (i : Int) < (n : Int) := by omega
              have hin3 : decide ((i : Int) < (n : Int)) = true := decide_eq_true hin2
              obtain ⟨z, hz⟩ : ∃ z, r2.st[i]? = some z := ⟨_, List.getElem?_eq_getElem (by rw [HRN.out]; exact hin)⟩
              obtain ⟨bz, oz, rfl, hrz⟩ := rk_range sc_len hpf hz
              have hstz := hstf i z hBz hz
              have hrzw := fun {V : World} (hB : Below v3.heap.size v3 V) => rk_range sc_len (hpf.below hB) hz
              clear hz
              go_wp2_with (first
                | ((fail_if_success (have _ := hC1)); (with_reducible refine hstz.mono ?_); rintro e' z1 ⟨rfl, hC1⟩)
                | ((fail_if_success (have _ := hE2)); (have _ := hC1); (refine at_alloc_sec (by rfl) (by rfl) ?_); intro Z2 hE2 hC2 hzz2)
                | ((fail_if_success (have _ := hE3)); (have _ := hE2); (refine at_store_sec _ _ _ _ _ (by rfl) (by rfl) (by rfl) hE2 (by rfl) ?_); intro Z3 hE3 hh3 hzz3; have hC3 := bnext hBz (bnext hC1 (hC2.grown hh3 hC2.size (by simp)))))
              refine Inv.region_inv (fun L a w' => a = { tmps := #[(Value.int IntKind.i64 x), (Value.agg #[Value.int IntKind.u64 ↑s0, Value.int IntKind.u64 y1]), (Value.slice (some { block := b, off := o }) n0 c0), undef, (Value.pointer (some { block := w.heap.size, off := 0 })), undef, u6, (Value.pointer (some { block := g, off := 0 })), (Value.pointer (some { block := G, off := 0 })), (Value.int IntKind.i64 ↑st), (Value.pointer (some { block := gl, off := 0 })), (Value.int IntKind.i64 0), (Value.pointer (some { block := GL, off := 0 })), (Value.int IntKind.i64 0), undef, (Value.pointer (some { block := A, off := 0 })), (Value.int IntKind.i64 E), (Value.int IntKind.i64 E), u18, u19, u20, u21, u22, u23, u24, (Value.slice p5 rs1.length c5), (Value.int IntKind.i64 ↑SK), (Value.int IntKind.i64 0), (Value.slice p6 rs2.length c6), (Value.int IntKind.i64 ↑SK), (Value.int IntKind.i64 0), (Value.int IntKind.i64 ↑i), (Value.pointer (some { block := z1.heap.size, off := 0 })), (Value.int IntKind.i64 0), (Value.bool true), (Value.bool false), (Value.int IntKind.i64 x), (Value.bool false), (Value.bool false), (Value.slice (some { block := b, off := o }) n0 c0), (Value.int IntKind.i64 ↑n0), (Value.bool false), (Value.bool false), (Value.bool false), (Value.pointer (some { block := w.heap.size, off := 1 })), (Value.int IntKind.u64 y1), (Value.bool false), (Value.bool false), (Value.int IntKind.i64 x), (Value.pointer (some { block := g, off := 0 })), (Value.int IntKind.i64 x), (rv (rfresh n) p3 c3 none 0), (Value.pointer (some { block := w.heap.size, off := 1 })), (Value.int IntKind.u64 y1), (Value.int IntKind.i64 y1), (Value.int IntKind.i64 ↑st), (Value.tuple #[Value.pointer (some { block := gl, off := 0 }), Value.int IntKind.i64 0]), (Value.pointer (some { block := g, off := 0 })), (Value.pointer (some { block := w.heap.size, off := 0 })), (Value.int IntKind.u64 ↑s0), (Value.int IntKind.i64 ↑st), (Value.tuple #[Value.pointer (some { block := gl, off := 0 }), Value.int IntKind.i64 0]), (Value.pointer (some { block := gl, off := 0 })), (Value.int IntKind.i64 0), (Value.tuple #[lv { ep := 5, nx := s0, st := st, nw := st, tk := 0 }, Value.int IntKind.i64 0]), (Value.pointer (some { block := G, off := 0 })), (Value.slice p3 n c3), (Value.int IntKind.i64 ↑n), (Value.pointer (some { block := w.heap.size, off := 0 })), (Value.int IntKind.u64 ↑s0), (Value.int IntKind.i64 ↑st), (Value.tuple #[lv { ep := 5, nx := s0, st := st, nw := st, tk := 0 }, Value.int IntKind.i64 0]), (lv { ep := 5, nx := s0, st := st, nw := st, tk := 0 }), (Value.int IntKind.i64 0), (Value.int IntKind.i64 0), (Value.int IntKind.i64 0), (Value.bool false), (Value.bool false), (Value.pointer (some { block := gl, off := 0 })), (Value.bool false), (Value.int IntKind.i64 0), (Value.bool false), (Value.bool false), (Value.bool false), (Value.int IntKind.i64 0), (Value.bool false), (Value.slice (some { block := b, off := o }) n0 c0), (Value.int IntKind.i64 ↑n0), (Value.int IntKind.i64 ↑k), (Value.bool true), (Value.pointer (some { block := b, off := o + k * 4 })), (acw (4, ai, by8, kq, kn, kc)), (Value.pointer (some { block := A, off := 0 })), (Value.int IntKind.i64 4), u94, u95, u96, u97, u98, u99, u100, u101, u102, u103, u104, u105, u106, u107, u108, u109, u110, u111, u112, u113, u114, u115, u116, u117, u118, u119, u120, u121, u122, u123, u124, u125, u126, u127, u128, u129, u130, u131, u132, u133, u134, u135, u136, u137, u138, u139, u140, u141, u142, u143, u144, u145, u146, u147, u148, u149, u150, u151, u152, u153, u154, u155, u156, u157, u158, u159, u160, u161, u162, u163, u164, u165, u166, u167, u168, u169, u170, u171, (Value.tuple #[Value.slice p5 rs1.length c5, Value.int IntKind.i64 ↑SK, Value.int IntKind.i64 0]), (Value.pointer (some { block := g, off := 0 })), (Value.pointer (some { block := w.heap.size, off := 0 })), (Value.int IntKind.u64 ↑s0), (Value.int IntKind.i64 ↑st), (Value.tuple #[Value.slice p5 rs1.length c5, Value.int IntKind.i64 ↑SK, Value.int IntKind.i64 0]), (Value.slice p5 rs1.length c5), (Value.int IntKind.i64 ↑SK), (Value.int IntKind.i64 0), (Value.tuple #[Value.slice p6 rs2.length c6, Value.int IntKind.i64 ↑SK, Value.int IntKind.i64 0]), (rv r2 (some { block := bz, off := oz }) c2 q2 e2), (Value.pointer (some { block := w.heap.size, off := 0 })), (Value.int IntKind.u64 ↑s0), (Value.int IntKind.i64 ↑st), (Value.tuple #[Value.slice p6 rs2.length c6, Value.int IntKind.i64 ↑SK, Value.int IntKind.i64 0]), (Value.slice p6 rs2.length c6), (Value.int IntKind.i64 ↑SK), (Value.int IntKind.i64 0), (Value.int IntKind.i64 E), (Value.int IntKind.i64 E), (Value.bool false), (Value.bool false), (Value.slice p5 rs1.length c5), (Value.slice p6 rs2.length c6), (Value.bool true), (Value.bool false), (Value.bool false), (Value.bool false), (Value.int IntKind.i64 ↑SK), (Value.int IntKind.i64 ↑SK), (Value.bool false), (Value.bool false), (Value.bool false), (Value.int IntKind.i64 0), (Value.int IntKind.i64 0), (Value.bool false), (Value.bool false), (Value.pointer (some { block := A, off := 0 })), (Value.int IntKind.i64 4), (Value.bool true), (Value.bool true), undef, undef, (Value.bool true), u216, u217, u218, u219, u220, u221, u222, u223, u224, u225, u226, u227, u228, u229, u230, u231, u232, u233, u234, u235, u236, u237, u238, (Value.pointer (some { block := G, off := 0 })), (Value.slice (some { block := bz, off := oz }) n c2), (Value.int IntKind.i64 ↑n), (Value.int IntKind.i64 ↑i), (Value.bool true), (Value.int IntKind.i64 ↑i), (Value.tuple #[secv z, Value.int IntKind.i64 0]), (Value.pointer (some { block := g, off := 0 })), (Value.int IntKind.i64 ↑i), (Value.tuple #[secv z, Value.int IntKind.i64 0]), (secv z), (Value.int IntKind.i64 0), (if L 0 = true then (secv z) else u251), (if L 1 = true then (.pointer (some ⟨G, 0, none⟩)) else u252), (if L 2 = true then (.slice (some ⟨bz, oz, none⟩) n c2) else u253), (if L 3 = true then (Value.int IntKind.i64 ↑i) else u254), (if L 4 = true then (.pointer (some ⟨bz, oz + i * 64, none⟩)) else u255), (if L 5 = true then (secv z) else u256), (if L 6 = true then (.bool false) else u257), u258], defers := [] } ∧ (Below Z3.heap.size Z3 w')) (by kernel_rfl) (by kernel_rfl) ?h0 ?step ?done
              case h0 => exact ⟨by simp, (Below.refl _ _).drew⟩
              case step =>
                refine Inv.Steps.cons rfl ?_ ?_
                · intro L a w' hI hL hd K hK
                  obtain ⟨rfl, hI⟩ := hI
                  clear hd
                  rw [if_pos (by rfl)]
                  refine wp_load_sec _ _ _ _ (by rfl) (by rfl) (blk_sec (hE3.below hI)) ?_
                  exact hK.out _ _ ⟨by simp [Act.put], hI⟩
                refine Inv.Steps.cons rfl ?_ ?_
                · intro L a w' hI hL hd K hK
                  obtain ⟨rfl, hI⟩ := hI
                  clear hd
                  rw [if_pos (by rfl)]
                  go_simp
                  exact hK.out _ _ ⟨by simp, by simpa using hI⟩
                refine Inv.Steps.cons rfl ?_ ?_
                · intro L a w' hI hL hd K hK
                  obtain ⟨rfl, hI⟩ := hI
                  simp [Region.binds] at hd
                  simp only [hd, if_true]
                  rw [if_pos (by rfl)]
                  have hcG2 := (hXf.below (bnext hC3 hI)).cell
                  simp only [rl, HRN.out] at hcG2
                  go_simp
                  exact hK.out _ _ ⟨by simp [hd], by simpa using hI⟩
                refine Inv.Steps.cons rfl ?_ ?_
                · intro L a w' hI hL hd K hK
                  obtain ⟨rfl, hI⟩ := hI
                  clear hd
                  rw [if_pos (by rfl)]
                  go_simp
                  exact hK.out _ _ ⟨by simp, by simpa using hI⟩
                refine Inv.Steps.cons rfl ?_ ?_
                · intro L a w' hI hL hd K hK
                  obtain ⟨rfl, hI⟩ := hI
                  simp [Region.binds] at hd
                  simp only [hd, if_true]
                  rw [if_pos (by rfl)]
                  go_simp
                  exact hK.out _ _ ⟨by simp [hd], by simpa using hI⟩
                refine Inv.Steps.cons rfl ?_ ?_
                · intro L a w' hI hL hd K hK
                  obtain ⟨rfl, hI⟩ := hI
                  simp [Region.binds] at hd
                  simp only [hd, if_true]
                  rw [if_pos (by rfl)]
                  obtain ⟨b9, o9, h9, r9⟩ := hrzw (bnext hC3 hI)
                  obtain ⟨rfl, rfl⟩ : bz = b9 ∧ oz = o9 := by simpa using h9
                  refine wp_load_sec _ _ _ _ (by rfl) (by rfl) r9 ?_
                  exact hK.out _ _ ⟨by simp [hd, Act.put], hI⟩
                refine Inv.Steps.cons rfl ?_ ?_
                · intro L a w' hI hL hd K hK
                  obtain ⟨rfl, hI⟩ := hI
                  simp [Region.binds] at hd
                  simp only [hd, if_true]
                  rw [if_pos (by rfl)]
                  have hneq := ne_secs
                  have hgne := ne_guard
                  go_simp
                  exact hK.out _ _ ⟨by simp [hd], by simpa using hI⟩
                exact Inv.Steps.nil (by decide)
              case done =>
                intro L a w' hI hall
                obtain ⟨rfl, hI⟩ := hI
                simp only [hall, if_true] at hI ⊢
                have hB9 := bnext hC3 hI
                clear hI hall
                go_wp2
                go_roundw
                case rel => exact ⟨i + 1, by omega, by go_num, hB9⟩
                case measure => simp [intOf]; omega
            · obtain rfl : i = n := by omega
              have hin3 : decide ((i : Int) < (i : Int)) = false := decide_eq_false (by omega)
              go_wp2
              go_ret
              exact ⟨rfl, bnext hb01 (bnext hbf hBz)⟩
        have z4 : (ki == 4) = false := by simp [k4]
        by_cases k72 : E = 72
        · subst k72
          go_wp2_with (first
            | ((fail_if_success (have _ := hB1)); (with_reducible refine hsc1.mono ?_); rintro e' v1 ⟨vv1, rs1, rfl, hrs1, hg1, hB1⟩; obtain ⟨p5, c5, hv5, r5, -⟩ := own_rk rc_len (by decide) hrs1.1; subst hv5; have hX1 := hR.1.below hB1; have hbg2 := hbgc.below hB1; have hkc1 : ∀ i, v1.cell? ⟨w.heap.size, i, none⟩ = [Value.int .u64 (s0 : Int), .int .u64 y1][i]? := hbg2.cell)
            | ((fail_if_success (have _ := hB2)); (have _ := hB1); (refine at_load_rd _ _ _ _ _ _ _ (by rfl) (by rfl) hX1 (by rfl) ?_))
            | ((fail_if_success (have _ := hB2)); (have _ := hB1); (with_reducible refine (hsc2 hB1).mono ?_); rintro e' v2 ⟨vv2, rs2, rfl, hrs2, hg2, hB2⟩; obtain ⟨p6, c6, hv6, r6, -⟩ := own_rk rc_len (by decide) hrs2.1; subst hv6; have hM1 := made_rows (T := fun _ => False) (hrs1.below hB2) (fun _ h => h.elim); have hM2 := made_rows (T := fun _ => False) hrs2 (fun _ h => h.elim); have hl1 : rs1.length ≤ 10000 := (by have := congrArg List.length hg1; rw [List.length_map] at this; omega); have hl2 : rs2.length ≤ 10000 := (by have := congrArg List.length hg2; rw [List.length_map] at this; omega); have hsm := made_same hM1 hM2 rfl rfl hl1 hl2 (hg1.trans hg2.symm))
            | ((fail_if_success (have _ := hB3)); (have _ := hB2); (with_reducible refine hsm.mono ?_); rintro e' v3 ⟨rfl, hB3⟩; have hB13 := bnext (bnext hB1 hB2) hB3; have hA3 := hA2.below hB13; have hcA3 := hA3.cell; simp only [ac] at hcA3; have hS3 := hS2.below hB13; have hcG3 : ∀ i, v3.cell? ⟨G, i, none⟩ = [Value.slice p2 n c2, .slice q2 r2.pe.length e2, .bool r2.ct, .int .i64 r2.lf, .bool r2.dn][i]? := (by have := hS3.1.2.2.2.1.1.cell; simp only [rl, HRN2.out] at this; exact this)))
          clear hsm hM1 hM2 r5 r6 hrs1 hrs2 hsc1 hsc2 hkc hkc1 hX1 hbg2 hbgc hg1 hg2 hl1 hl2
          clear hD hY hL2 hR hb hap od or hag hdn hcn hnum hn64 hpl

          obtain ⟨⟨hDf, -, -, hRf, hbf⟩, -, odf, orf, hagf, -, -, hdnf, -⟩ := id hS3
          have hrnf : r2.st.length = n := by rw [← hagf.1]; exact hdnf
          have hXf := hRf.1
          have hpf := hRf.2.1
          have hcG : ∀ i, v3.cell? ⟨G, i, none⟩ = [Value.slice p2 r2.st.length c2, .slice q2 r2.pe.length e2, .bool r2.ct, .int .i64 r2.lf, .bool r2.dn][i]? := hXf.cell
          rw [hrnf] at hcG
          have hstf : ∀ {V : World} (i : Nat) (z : Sec), Below v3.heap.size v3 V → r2.st[i]? = some z → Calls Try.prog 31 #[.pointer (some ⟨g, 0, none⟩), .int .i64 (i : Int)] V fun e' w' => e' = .returned (.tuple #[secv z, .int .i64 0]) ∧ Below V.heap.size V w' := fun i z hB hz => by
            have := stable_any (hDf.below hB) (i : Int)
            have hi : i < r2.st.length := (List.getElem?_eq_some_iff.1 hz).1
            have e1 : stab d2.st (i : Int) = (z, 0) := by
              unfold stab
              rw [hagf.1, if_pos (has_nat hi), Int.toNat_natCast, List.getD_eq_getElem?_getD, hz]
              rfl
            rw [e1] at this
            exact this
          have HRN : Hid (r2.st.length = n) := hrnf
          have hn16 : n ≤ 140 := hn140
          clear hrnf

          go_loopw [242] (fun v wz => ∃ i : Nat, i ≤ n ∧ v = .int .i64 i ∧ Below v3.heap.size v3 wz) (fun v _ => n - (intOf v).toNat)
          case atStart => exact ⟨0, Nat.zero_le _, rfl, Below.refl _ _⟩
          case round =>
            obtain ⟨i, hi, rfl, hBz⟩ := hrel
            by_cases hin : i < n
            · have hin2 : (i : Int) < (n : Int) := by omega
              have hin3 : decide ((i : Int) < (n : Int)) = true := decide_eq_true hin2
              obtain ⟨z, hz⟩ : ∃ z, r2.st[i]? = some z := ⟨_, List.getElem?_eq_getElem (by rw [HRN.out]; exact hin)⟩
              obtain ⟨bz, oz, rfl, hrz⟩ := rk_range sc_len hpf hz
              have hstz := hstf i z hBz hz
              have hrzw := fun {V : World} (hB : Below v3.heap.size v3 V) => rk_range sc_len (hpf.below hB) hz
              clear hz
              go_wp2_with (first
                | ((fail_if_success (have _ := hC1)); (with_reducible refine hstz.mono ?_); rintro e' z1 ⟨rfl, hC1⟩)
                | ((fail_if_success (have _ := hE2)); (have _ := hC1); (refine at_alloc_sec (by rfl) (by rfl) ?_); intro Z2 hE2 hC2 hzz2)
                | ((fail_if_success (have _ := hE3)); (have _ := hE2); (refine at_store_sec _ _ _ _ _ (by rfl) (by rfl) (by rfl) hE2 (by rfl) ?_); intro Z3 hE3 hh3 hzz3; have hC3 := bnext hBz (bnext hC1 (hC2.grown hh3 hC2.size (by simp)))))
              refine Inv.region_inv (fun L a w' => a = { tmps := #[(Value.int IntKind.i64 x), (Value.agg #[Value.int IntKind.u64 ↑s0, Value.int IntKind.u64 y1]), (Value.slice (some { block := b, off := o }) n0 c0), undef, (Value.pointer (some { block := w.heap.size, off := 0 })), undef, u6, (Value.pointer (some { block := g, off := 0 })), (Value.pointer (some { block := G, off := 0 })), (Value.int IntKind.i64 ↑st), (Value.pointer (some { block := gl, off := 0 })), (Value.int IntKind.i64 0), (Value.pointer (some { block := GL, off := 0 })), (Value.int IntKind.i64 0), undef, (Value.pointer (some { block := A, off := 0 })), (Value.int IntKind.i64 72), (Value.int IntKind.i64 72), u18, u19, u20, u21, u22, u23, u24, (Value.slice p5 rs1.length c5), (Value.int IntKind.i64 ↑SK), (Value.int IntKind.i64 0), (Value.slice p6 rs2.length c6), (Value.int IntKind.i64 ↑SK), (Value.int IntKind.i64 0), (Value.int IntKind.i64 ↑i), (Value.pointer (some { block := z1.heap.size, off := 0 })), (Value.int IntKind.i64 0), (Value.bool true), (Value.bool false), (Value.int IntKind.i64 x), (Value.bool false), (Value.bool false), (Value.slice (some { block := b, off := o }) n0 c0), (Value.int IntKind.i64 ↑n0), (Value.bool false), (Value.bool false), (Value.bool false), (Value.pointer (some { block := w.heap.size, off := 1 })), (Value.int IntKind.u64 y1), (Value.bool false), (Value.bool false), (Value.int IntKind.i64 x), (Value.pointer (some { block := g, off := 0 })), (Value.int IntKind.i64 x), (rv (rfresh n) p3 c3 none 0), (Value.pointer (some { block := w.heap.size, off := 1 })), (Value.int IntKind.u64 y1), (Value.int IntKind.i64 y1), (Value.int IntKind.i64 ↑st), (Value.tuple #[Value.pointer (some { block := gl, off := 0 }), Value.int IntKind.i64 0]), (Value.pointer (some { block := g, off := 0 })), (Value.pointer (some { block := w.heap.size, off := 0 })), (Value.int IntKind.u64 ↑s0), (Value.int IntKind.i64 ↑st), (Value.tuple #[Value.pointer (some { block := gl, off := 0 }), Value.int IntKind.i64 0]), (Value.pointer (some { block := gl, off := 0 })), (Value.int IntKind.i64 0), (Value.tuple #[lv { ep := 5, nx := s0, st := st, nw := st, tk := 0 }, Value.int IntKind.i64 0]), (Value.pointer (some { block := G, off := 0 })), (Value.slice p3 n c3), (Value.int IntKind.i64 ↑n), (Value.pointer (some { block := w.heap.size, off := 0 })), (Value.int IntKind.u64 ↑s0), (Value.int IntKind.i64 ↑st), (Value.tuple #[lv { ep := 5, nx := s0, st := st, nw := st, tk := 0 }, Value.int IntKind.i64 0]), (lv { ep := 5, nx := s0, st := st, nw := st, tk := 0 }), (Value.int IntKind.i64 0), (Value.int IntKind.i64 0), (Value.int IntKind.i64 0), (Value.bool false), (Value.bool false), (Value.pointer (some { block := gl, off := 0 })), (Value.bool false), (Value.int IntKind.i64 0), (Value.bool false), (Value.bool false), (Value.bool false), (Value.int IntKind.i64 0), (Value.bool false), (Value.slice (some { block := b, off := o }) n0 c0), (Value.int IntKind.i64 ↑n0), (Value.int IntKind.i64 ↑k), (Value.bool true), (Value.pointer (some { block := b, off := o + k * 4 })), (acw (ki, ai, by8, kq, kn, kc)), (Value.pointer (some { block := A, off := 0 })), (Value.int IntKind.i64 ki), u94, u95, u96, u97, u98, u99, u100, u101, u102, u103, u104, u105, u106, u107, u108, u109, u110, u111, u112, u113, u114, u115, u116, u117, u118, u119, u120, u121, u122, u123, u124, u125, u126, u127, u128, u129, u130, u131, u132, u133, u134, u135, u136, u137, u138, u139, u140, u141, u142, u143, u144, u145, u146, u147, u148, u149, u150, u151, u152, u153, u154, u155, u156, u157, u158, u159, u160, u161, u162, u163, u164, u165, u166, u167, u168, u169, u170, u171, (Value.tuple #[Value.slice p5 rs1.length c5, Value.int IntKind.i64 ↑SK, Value.int IntKind.i64 0]), (Value.pointer (some { block := g, off := 0 })), (Value.pointer (some { block := w.heap.size, off := 0 })), (Value.int IntKind.u64 ↑s0), (Value.int IntKind.i64 ↑st), (Value.tuple #[Value.slice p5 rs1.length c5, Value.int IntKind.i64 ↑SK, Value.int IntKind.i64 0]), (Value.slice p5 rs1.length c5), (Value.int IntKind.i64 ↑SK), (Value.int IntKind.i64 0), (Value.tuple #[Value.slice p6 rs2.length c6, Value.int IntKind.i64 ↑SK, Value.int IntKind.i64 0]), (rv r2 (some { block := bz, off := oz }) c2 q2 e2), (Value.pointer (some { block := w.heap.size, off := 0 })), (Value.int IntKind.u64 ↑s0), (Value.int IntKind.i64 ↑st), (Value.tuple #[Value.slice p6 rs2.length c6, Value.int IntKind.i64 ↑SK, Value.int IntKind.i64 0]), (Value.slice p6 rs2.length c6), (Value.int IntKind.i64 ↑SK), (Value.int IntKind.i64 0), (Value.int IntKind.i64 72), (Value.int IntKind.i64 72), (Value.bool false), (Value.bool false), (Value.slice p5 rs1.length c5), (Value.slice p6 rs2.length c6), (Value.bool true), (Value.bool false), (Value.bool false), (Value.bool false), (Value.int IntKind.i64 ↑SK), (Value.int IntKind.i64 ↑SK), (Value.bool false), (Value.bool false), (Value.bool false), (Value.int IntKind.i64 0), (Value.int IntKind.i64 0), (Value.bool false), (Value.bool false), (Value.pointer (some { block := A, off := 0 })), (Value.int IntKind.i64 ki), (Value.bool false), (Value.bool false), (Value.int IntKind.i64 72), (Value.bool true), (Value.bool true), u216, u217, u218, u219, u220, u221, u222, u223, u224, u225, u226, u227, u228, u229, u230, u231, u232, u233, u234, u235, u236, u237, u238, (Value.pointer (some { block := G, off := 0 })), (Value.slice (some { block := bz, off := oz }) n c2), (Value.int IntKind.i64 ↑n), (Value.int IntKind.i64 ↑i), (Value.bool true), (Value.int IntKind.i64 ↑i), (Value.tuple #[secv z, Value.int IntKind.i64 0]), (Value.pointer (some { block := g, off := 0 })), (Value.int IntKind.i64 ↑i), (Value.tuple #[secv z, Value.int IntKind.i64 0]), (secv z), (Value.int IntKind.i64 0), (if L 0 = true then (secv z) else u251), (if L 1 = true then (.pointer (some ⟨G, 0, none⟩)) else u252), (if L 2 = true then (.slice (some ⟨bz, oz, none⟩) n c2) else u253), (if L 3 = true then (Value.int IntKind.i64 ↑i) else u254), (if L 4 = true then (.pointer (some ⟨bz, oz + i * 64, none⟩)) else u255), (if L 5 = true then (secv z) else u256), (if L 6 = true then (.bool false) else u257), u258], defers := [] } ∧ (Below Z3.heap.size Z3 w')) (by kernel_rfl) (by kernel_rfl) ?h0 ?step ?done
              case h0 => exact ⟨by simp, (Below.refl _ _).drew⟩
              case step =>
                refine Inv.Steps.cons rfl ?_ ?_
                · intro L a w' hI hL hd K hK
                  obtain ⟨rfl, hI⟩ := hI
                  clear hd
                  rw [if_pos (by rfl)]
                  refine wp_load_sec _ _ _ _ (by rfl) (by rfl) (blk_sec (hE3.below hI)) ?_
                  exact hK.out _ _ ⟨by simp [Act.put], hI⟩
                refine Inv.Steps.cons rfl ?_ ?_
                · intro L a w' hI hL hd K hK
                  obtain ⟨rfl, hI⟩ := hI
                  clear hd
                  rw [if_pos (by rfl)]
                  go_simp
                  exact hK.out _ _ ⟨by simp, by simpa using hI⟩
                refine Inv.Steps.cons rfl ?_ ?_
                · intro L a w' hI hL hd K hK
                  obtain ⟨rfl, hI⟩ := hI
                  simp [Region.binds] at hd
                  simp only [hd, if_true]
                  rw [if_pos (by rfl)]
                  have hcG2 := (hXf.below (bnext hC3 hI)).cell
                  simp only [rl, HRN.out] at hcG2
                  go_simp
                  exact hK.out _ _ ⟨by simp [hd], by simpa using hI⟩
                refine Inv.Steps.cons rfl ?_ ?_
                · intro L a w' hI hL hd K hK
                  obtain ⟨rfl, hI⟩ := hI
                  clear hd
                  rw [if_pos (by rfl)]
                  go_simp
                  exact hK.out _ _ ⟨by simp, by simpa using hI⟩
                refine Inv.Steps.cons rfl ?_ ?_
                · intro L a w' hI hL hd K hK
                  obtain ⟨rfl, hI⟩ := hI
                  simp [Region.binds] at hd
                  simp only [hd, if_true]
                  rw [if_pos (by rfl)]
                  go_simp
                  exact hK.out _ _ ⟨by simp [hd], by simpa using hI⟩
                refine Inv.Steps.cons rfl ?_ ?_
                · intro L a w' hI hL hd K hK
                  obtain ⟨rfl, hI⟩ := hI
                  simp [Region.binds] at hd
                  simp only [hd, if_true]
                  rw [if_pos (by rfl)]
                  obtain ⟨b9, o9, h9, r9⟩ := hrzw (bnext hC3 hI)
                  obtain ⟨rfl, rfl⟩ : bz = b9 ∧ oz = o9 := by simpa using h9
                  refine wp_load_sec _ _ _ _ (by rfl) (by rfl) r9 ?_
                  exact hK.out _ _ ⟨by simp [hd, Act.put], hI⟩
                refine Inv.Steps.cons rfl ?_ ?_
                · intro L a w' hI hL hd K hK
                  obtain ⟨rfl, hI⟩ := hI
                  simp [Region.binds] at hd
                  simp only [hd, if_true]
                  rw [if_pos (by rfl)]
                  have hneq := ne_secs
                  have hgne := ne_guard
                  go_simp
                  exact hK.out _ _ ⟨by simp [hd], by simpa using hI⟩
                exact Inv.Steps.nil (by decide)
              case done =>
                intro L a w' hI hall
                obtain ⟨rfl, hI⟩ := hI
                simp only [hall, if_true] at hI ⊢
                have hB9 := bnext hC3 hI
                clear hI hall
                go_wp2
                go_roundw
                case rel => exact ⟨i + 1, by omega, by go_num, hB9⟩
                case measure => simp [intOf]; omega
            · obtain rfl : i = n := by omega
              have hin3 : decide ((i : Int) < (i : Int)) = false := decide_eq_false (by omega)
              go_wp2
              go_ret
              exact ⟨rfl, bnext hb01 (bnext hbf hBz)⟩
        have z72 : (E == 72) = false := by simp [k72]
        go_wp2_with (first
          | ((fail_if_success (have _ := hB1)); (with_reducible refine hsc1.mono ?_); rintro e' v1 ⟨vv1, rs1, rfl, hrs1, hg1, hB1⟩; obtain ⟨p5, c5, hv5, r5, -⟩ := own_rk rc_len (by decide) hrs1.1; subst hv5; have hX1 := hR.1.below hB1; have hbg2 := hbgc.below hB1; have hkc1 : ∀ i, v1.cell? ⟨w.heap.size, i, none⟩ = [Value.int .u64 (s0 : Int), .int .u64 y1][i]? := hbg2.cell)
          | ((fail_if_success (have _ := hB2)); (have _ := hB1); (refine at_load_rd _ _ _ _ _ _ _ (by rfl) (by rfl) hX1 (by rfl) ?_))
          | ((fail_if_success (have _ := hB2)); (have _ := hB1); (with_reducible refine (hsc2 hB1).mono ?_); rintro e' v2 ⟨vv2, rs2, rfl, hrs2, hg2, hB2⟩; obtain ⟨p6, c6, hv6, r6, -⟩ := own_rk rc_len (by decide) hrs2.1; subst hv6; have hM1 := made_rows (T := fun _ => False) (hrs1.below hB2) (fun _ h => h.elim); have hM2 := made_rows (T := fun _ => False) hrs2 (fun _ h => h.elim); have hl1 : rs1.length ≤ 10000 := (by have := congrArg List.length hg1; rw [List.length_map] at this; omega); have hl2 : rs2.length ≤ 10000 := (by have := congrArg List.length hg2; rw [List.length_map] at this; omega); have hsm := made_same hM1 hM2 rfl rfl hl1 hl2 (hg1.trans hg2.symm))
          | ((fail_if_success (have _ := hB3)); (have _ := hB2); (with_reducible refine hsm.mono ?_); rintro e' v3 ⟨rfl, hB3⟩; have hB13 := bnext (bnext hB1 hB2) hB3; have hA3 := hA2.below hB13; have hcA3 := hA3.cell; simp only [ac] at hcA3; have hS3 := hS2.below hB13))
        clear hsm hM1 hM2 r5 r6 hrs1 hrs2 hsc1 hsc2 hkc hkc1 hX1 hbg2 hbgc hg1 hg2 hl1 hl2

        obtain ⟨⟨hD3, hY3, hL3, hR3, -⟩, -⟩ := id hS3
        have hnx := fun {W : World} (hB : Below v3.heap.size v3 W) => wal_Next (hY3.below hB)
        have hsg := fun {W : World} (hB : Below v3.heap.size v3 W) => wal_Seg (hY3.below hB)
        have hlf := fun {W : World} (hB : Below v3.heap.size v3 W) => wal_Left (hD3.below hB) (hY3.below hB) (by rw [hdn]; exact hcn)
        have hrl := fun {W : World} (_ : Below v3.heap.size v3 W) => ref_Left hcn 5 nx2 W
        refine Inv.region_inv (fun L a w' => a = { tmps := #[(Value.int IntKind.i64 x), (Value.agg #[Value.int IntKind.u64 ↑s0, Value.int IntKind.u64 y1]), (Value.slice (some { block := b, off := o }) n0 c0), undef, (Value.pointer (some { block := w.heap.size, off := 0 })), undef, u6, (Value.pointer (some { block := g, off := 0 })), (Value.pointer (some { block := G, off := 0 })), (Value.int IntKind.i64 ↑st), (Value.pointer (some { block := gl, off := 0 })), (Value.int IntKind.i64 0), (Value.pointer (some { block := GL, off := 0 })), (Value.int IntKind.i64 0), undef, (Value.pointer (some { block := A, off := 0 })), (Value.int IntKind.i64 E), (Value.int IntKind.i64 E), u18, u19, u20, u21, u22, u23, u24, (Value.slice p5 rs1.length c5), (Value.int IntKind.i64 ↑SK), (Value.int IntKind.i64 0), (Value.slice p6 rs2.length c6), (Value.int IntKind.i64 ↑SK), (Value.int IntKind.i64 0), undef, undef, undef, (Value.bool true), (Value.bool false), (Value.int IntKind.i64 x), (Value.bool false), (Value.bool false), (Value.slice (some { block := b, off := o }) n0 c0), (Value.int IntKind.i64 ↑n0), (Value.bool false), (Value.bool false), (Value.bool false), (Value.pointer (some { block := w.heap.size, off := 1 })), (Value.int IntKind.u64 y1), (Value.bool false), (Value.bool false), (Value.int IntKind.i64 x), (Value.pointer (some { block := g, off := 0 })), (Value.int IntKind.i64 x), (rv (rfresh n) p3 c3 none 0), (Value.pointer (some { block := w.heap.size, off := 1 })), (Value.int IntKind.u64 y1), (Value.int IntKind.i64 y1), (Value.int IntKind.i64 ↑st), (Value.tuple #[Value.pointer (some { block := gl, off := 0 }), Value.int IntKind.i64 0]), (Value.pointer (some { block := g, off := 0 })), (Value.pointer (some { block := w.heap.size, off := 0 })), (Value.int IntKind.u64 ↑s0), (Value.int IntKind.i64 ↑st), (Value.tuple #[Value.pointer (some { block := gl, off := 0 }), Value.int IntKind.i64 0]), (Value.pointer (some { block := gl, off := 0 })), (Value.int IntKind.i64 0), (Value.tuple #[lv { ep := 5, nx := s0, st := st, nw := st, tk := 0 }, Value.int IntKind.i64 0]), (Value.pointer (some { block := G, off := 0 })), (Value.slice p3 n c3), (Value.int IntKind.i64 ↑n), (Value.pointer (some { block := w.heap.size, off := 0 })), (Value.int IntKind.u64 ↑s0), (Value.int IntKind.i64 ↑st), (Value.tuple #[lv { ep := 5, nx := s0, st := st, nw := st, tk := 0 }, Value.int IntKind.i64 0]), (lv { ep := 5, nx := s0, st := st, nw := st, tk := 0 }), (Value.int IntKind.i64 0), (Value.int IntKind.i64 0), (Value.int IntKind.i64 0), (Value.bool false), (Value.bool false), (Value.pointer (some { block := gl, off := 0 })), (Value.bool false), (Value.int IntKind.i64 0), (Value.bool false), (Value.bool false), (Value.bool false), (Value.int IntKind.i64 0), (Value.bool false), (Value.slice (some { block := b, off := o }) n0 c0), (Value.int IntKind.i64 ↑n0), (Value.int IntKind.i64 ↑k), (Value.bool true), (Value.pointer (some { block := b, off := o + k * 4 })), (acw (ki, ai, by8, kq, kn, kc)), (Value.pointer (some { block := A, off := 0 })), (Value.int IntKind.i64 ki), u94, u95, u96, u97, u98, u99, u100, u101, u102, u103, u104, u105, u106, u107, u108, u109, u110, u111, u112, u113, u114, u115, u116, u117, u118, u119, u120, u121, u122, u123, u124, u125, u126, u127, u128, u129, u130, u131, u132, u133, u134, u135, u136, u137, u138, u139, u140, u141, u142, u143, u144, u145, u146, u147, u148, u149, u150, u151, u152, u153, u154, u155, u156, u157, u158, u159, u160, u161, u162, u163, u164, u165, u166, u167, u168, u169, u170, u171, (Value.tuple #[Value.slice p5 rs1.length c5, Value.int IntKind.i64 ↑SK, Value.int IntKind.i64 0]), (Value.pointer (some { block := g, off := 0 })), (Value.pointer (some { block := w.heap.size, off := 0 })), (Value.int IntKind.u64 ↑s0), (Value.int IntKind.i64 ↑st), (Value.tuple #[Value.slice p5 rs1.length c5, Value.int IntKind.i64 ↑SK, Value.int IntKind.i64 0]), (Value.slice p5 rs1.length c5), (Value.int IntKind.i64 ↑SK), (Value.int IntKind.i64 0), (Value.tuple #[Value.slice p6 rs2.length c6, Value.int IntKind.i64 ↑SK, Value.int IntKind.i64 0]), (rv r2 p2 c2 q2 e2), (Value.pointer (some { block := w.heap.size, off := 0 })), (Value.int IntKind.u64 ↑s0), (Value.int IntKind.i64 ↑st), (Value.tuple #[Value.slice p6 rs2.length c6, Value.int IntKind.i64 ↑SK, Value.int IntKind.i64 0]), (Value.slice p6 rs2.length c6), (Value.int IntKind.i64 ↑SK), (Value.int IntKind.i64 0), (Value.int IntKind.i64 E), (Value.int IntKind.i64 E), (Value.bool false), (Value.bool false), (Value.slice p5 rs1.length c5), (Value.slice p6 rs2.length c6), (Value.bool true), (Value.bool false), (Value.bool false), (Value.bool false), (Value.int IntKind.i64 ↑SK), (Value.int IntKind.i64 ↑SK), (Value.bool false), (Value.bool false), (Value.bool false), (Value.int IntKind.i64 0), (Value.int IntKind.i64 0), (Value.bool false), (Value.bool false), (Value.pointer (some { block := A, off := 0 })), (Value.int IntKind.i64 ki), (Value.bool false), (Value.bool false), (Value.int IntKind.i64 E), (Value.bool false), (Value.bool false), (if L 0 = true then (Value.pointer (some { block := gl, off := 0 })) else u216), (if L 1 = true then (.int .u64 (nx2 : Int)) else u217), (if L 2 = true then (.pointer (some ⟨GL, 1, none⟩)) else u218), (if L 3 = true then (.int .u64 (nx2 : Int)) else u219), (if L 4 = true then (.bool false) else u220), (if L 5 = true then (.bool false) else u221), (if L 6 = true then (Value.pointer (some { block := gl, off := 0 })) else u222), (if L 7 = true then (.int .i64 (segOf S st j2 : Int)) else u223), (if L 8 = true then (.pointer (some ⟨GL, 3, none⟩)) else u224), (if L 9 = true then (.int .i64 (segOf S st j2 : Int)) else u225), (if L 10 = true then (.bool false) else u226), (if L 11 = true then (.bool false) else u227), (if L 12 = true then (.bool false) else u228), (if L 13 = true then (Value.pointer (some { block := gl, off := 0 })) else u229), (if L 14 = true then (.int .i64 (leftI S j2 t2)) else u230), (if L 15 = true then (lv ⟨5, nx2, st, segOf S st j2, t2⟩) else u231), (if L 16 = true then (.pointer (some ⟨G, 0, none⟩)) else u232), (if L 17 = true then (.slice p2 n c2) else u233), (if L 18 = true then (.int .i64 (n : Int)) else u234), (if L 19 = true then (.int .i64 (leftI S j2 t2)) else u235), (if L 20 = true then (.bool false) else u236), (if L 21 = true then (.bool false) else u237), u238, undef, undef, undef, undef, undef, undef, undef, undef, undef, undef, undef, undef, undef, undef, undef, undef, undef, undef, undef, undef], defers := [] } ∧ (Below v3.heap.size v3 w')) (by kernel_rfl) (by kernel_rfl) ?h0 ?step ?done
        case h0 => exact ⟨by simp, (Below.refl _ _).drew⟩
        case step =>
          refine Inv.Steps.cons rfl ?_ ?_
          · intro L a w' hI hL hd K hK
            obtain ⟨rfl, hI⟩ := hI
            clear hd
            rw [if_pos (by rfl)]
            go_simp
            exact hK.out _ _ ⟨by simp, by simpa using hI⟩
          refine Inv.Steps.cons rfl ?_ ?_
          · intro L a w' hI hL hd K hK
            obtain ⟨rfl, hI⟩ := hI
            simp [Region.binds] at hd
            simp only [hd, if_true]
            rw [if_pos (by rfl)]
            go_simp
            refine (hnx hI).mono ?_
            rintro e7 w11 ⟨rfl, rfl⟩
            exact hK.out _ _ ⟨by simp [hd], hI⟩
          refine Inv.Steps.cons rfl ?_ ?_
          · intro L a w' hI hL hd K hK
            obtain ⟨rfl, hI⟩ := hI
            clear hd
            rw [if_pos (by rfl)]
            go_simp
            exact hK.out _ _ ⟨by simp, by simpa using hI⟩
          refine Inv.Steps.cons rfl ?_ ?_
          · intro L a w' hI hL hd K hK
            obtain ⟨rfl, hI⟩ := hI
            simp [Region.binds] at hd
            simp only [hd, if_true]
            rw [if_pos (by rfl)]
            have hcL := (hL3.below hI).cell
            simp only [ll] at hcL
            go_simp
            exact hK.out _ _ ⟨by simp [hd], by simpa using hI⟩
          refine Inv.Steps.cons rfl ?_ ?_
          · intro L a w' hI hL hd K hK
            obtain ⟨rfl, hI⟩ := hI
            simp [Region.binds] at hd
            simp only [hd, if_true]
            rw [if_pos (by rfl)]
            go_simp
            exact hK.out _ _ ⟨by simp [hd], by simpa using hI⟩
          refine Inv.Steps.cons rfl ?_ ?_
          · intro L a w' hI hL hd K hK
            obtain ⟨rfl, hI⟩ := hI
            simp [Region.binds] at hd
            simp only [hd, if_true]
            rw [if_pos (by rfl)]
            go_simp
            exact hK.out _ _ ⟨by simp [hd], by simpa using hI⟩
          refine Inv.Steps.cons rfl ?_ ?_
          · intro L a w' hI hL hd K hK
            obtain ⟨rfl, hI⟩ := hI
            simp [Region.binds] at hd
            simp only [hd, if_true]
            rw [if_pos (by rfl)]
            go_simp
            exact hK.out _ _ ⟨by simp [hd], by simpa using hI⟩
          refine Inv.Steps.cons rfl ?_ ?_
          · intro L a w' hI hL hd K hK
            obtain ⟨rfl, hI⟩ := hI
            simp [Region.binds] at hd
            simp only [hd, if_true]
            rw [if_pos (by rfl)]
            go_simp
            refine (hsg hI).mono ?_
            rintro e7 w11 ⟨rfl, rfl⟩
            exact hK.out _ _ ⟨by simp [hd], hI⟩
          refine Inv.Steps.cons rfl ?_ ?_
          · intro L a w' hI hL hd K hK
            obtain ⟨rfl, hI⟩ := hI
            simp [Region.binds] at hd
            simp only [hd, if_true]
            rw [if_pos (by rfl)]
            go_simp
            exact hK.out _ _ ⟨by simp [hd], by simpa using hI⟩
          refine Inv.Steps.cons rfl ?_ ?_
          · intro L a w' hI hL hd K hK
            obtain ⟨rfl, hI⟩ := hI
            simp [Region.binds] at hd
            simp only [hd, if_true]
            rw [if_pos (by rfl)]
            have hcL := (hL3.below hI).cell
            simp only [ll] at hcL
            go_simp
            exact hK.out _ _ ⟨by simp [hd], by simpa using hI⟩
          refine Inv.Steps.cons rfl ?_ ?_
          · intro L a w' hI hL hd K hK
            obtain ⟨rfl, hI⟩ := hI
            simp [Region.binds] at hd
            simp only [hd, if_true]
            rw [if_pos (by rfl)]
            go_simp
            exact hK.out _ _ ⟨by simp [hd], by simpa using hI⟩
          refine Inv.Steps.cons rfl ?_ ?_
          · intro L a w' hI hL hd K hK
            obtain ⟨rfl, hI⟩ := hI
            simp [Region.binds] at hd
            simp only [hd, if_true]
            rw [if_pos (by rfl)]
            go_simp
            exact hK.out _ _ ⟨by simp [hd], by simpa using hI⟩
          refine Inv.Steps.cons rfl ?_ ?_
          · intro L a w' hI hL hd K hK
            obtain ⟨rfl, hI⟩ := hI
            simp [Region.binds] at hd
            simp only [hd, if_true]
            rw [if_pos (by rfl)]
            go_simp
            exact hK.out _ _ ⟨by simp [hd], by simpa using hI⟩
          refine Inv.Steps.cons rfl ?_ ?_
          · intro L a w' hI hL hd K hK
            obtain ⟨rfl, hI⟩ := hI
            simp [Region.binds] at hd
            simp only [hd, if_true]
            rw [if_pos (by rfl)]
            go_simp
            exact hK.out _ _ ⟨by simp [hd], by simpa using hI⟩
          refine Inv.Steps.cons rfl ?_ ?_
          · intro L a w' hI hL hd K hK
            obtain ⟨rfl, hI⟩ := hI
            simp [Region.binds] at hd
            simp only [hd, if_true]
            rw [if_pos (by rfl)]
            go_simp
            refine (hlf hI).mono ?_
            rintro e7 w11 ⟨rfl, hB11⟩
            exact hK.out _ _ ⟨by simp [hd], bnext hI hB11⟩
          refine Inv.Steps.cons rfl ?_ ?_
          · intro L a w' hI hL hd K hK
            obtain ⟨rfl, hI⟩ := hI
            simp [Region.binds] at hd
            simp only [hd, if_true]
            rw [if_pos (by rfl)]
            refine wp_load_ll _ _ _ (by rfl) (by rfl) (hL3.below hI) ?_
            exact hK.out _ _ ⟨by simp [hd, Act.put], hI⟩
          refine Inv.Steps.cons rfl ?_ ?_
          · intro L a w' hI hL hd K hK
            obtain ⟨rfl, hI⟩ := hI
            simp [Region.binds] at hd
            simp only [hd, if_true]
            rw [if_pos (by rfl)]
            go_simp
            exact hK.out _ _ ⟨by simp [hd], by simpa using hI⟩
          refine Inv.Steps.cons rfl ?_ ?_
          · intro L a w' hI hL hd K hK
            obtain ⟨rfl, hI⟩ := hI
            simp [Region.binds] at hd
            simp only [hd, if_true]
            rw [if_pos (by rfl)]
            have hcG2 := (hR3.1.below hI).cell
            simp only [rl, HRN2.out] at hcG2
            go_simp
            exact hK.out _ _ ⟨by simp [hd], by simpa using hI⟩
          refine Inv.Steps.cons rfl ?_ ?_
          · intro L a w' hI hL hd K hK
            obtain ⟨rfl, hI⟩ := hI
            simp [Region.binds] at hd
            simp only [hd, if_true]
            rw [if_pos (by rfl)]
            go_simp
            exact hK.out _ _ ⟨by simp [hd], by simpa using hI⟩
          refine Inv.Steps.cons rfl ?_ ?_
          · intro L a w' hI hL hd K hK
            obtain ⟨rfl, hI⟩ := hI
            simp [Region.binds] at hd
            simp only [hd, if_true]
            rw [if_pos (by rfl)]
            go_simp
            refine (hrl hI).mono ?_
            rintro e7 w11 ⟨rfl, hB11⟩
            exact hK.out _ _ ⟨by simp [hd], bnext hI hB11⟩
          refine Inv.Steps.cons rfl ?_ ?_
          · intro L a w' hI hL hd K hK
            obtain ⟨rfl, hI⟩ := hI
            simp [Region.binds] at hd
            simp only [hd, if_true]
            rw [if_pos (by rfl)]
            go_simp
            exact hK.out _ _ ⟨by simp [hd], by simpa using hI⟩
          refine Inv.Steps.cons rfl ?_ ?_
          · intro L a w' hI hL hd K hK
            obtain ⟨rfl, hI⟩ := hI
            simp [Region.binds] at hd
            simp only [hd, if_true]
            rw [if_pos (by rfl)]
            go_simp
            exact hK.out _ _ ⟨by simp [hd], by simpa using hI⟩
          exact Inv.Steps.nil (by decide)
        case done =>
          intro L a w' hI hall
          obtain ⟨rfl, hI⟩ := hI
          simp only [hall, if_true] at hI ⊢
          have hB9 := hI
          clear hI hall
          go_wp2
          go_roundw
          case rel => exact ⟨k + 1, d2, r2, T2', p2, c2, q2, e2, nx2, j2, t2, by omega, by go_num, hS3.below hB9⟩
          case measure => simp [intOf]; omega
    · obtain rfl : k = n0 := by omega
      obtain ⟨WE, rfl⟩ : ∃ V : World, V = wr := ⟨wr, rfl⟩

      obtain ⟨⟨hDf, -, -, hRf, hbf⟩, -, odf, orf, hagf, -, -, hdnf, -⟩ := id hSt
      have hrnf : r.st.length = n := by rw [← hagf.1]; exact hdnf
      have hXf := hRf.1
      have hpf := hRf.2.1
      have hcG : ∀ i, WE.cell? ⟨G, i, none⟩ = [Value.slice p r.st.length c, .slice q r.pe.length e, .bool r.ct, .int .i64 r.lf, .bool r.dn][i]? := hXf.cell
      rw [hrnf] at hcG
      have hstf : ∀ {V : World} (i : Nat) (z : Sec), Below WE.heap.size WE V → r.st[i]? = some z → Calls Try.prog 31 #[.pointer (some ⟨g, 0, none⟩), .int .i64 (i : Int)] V fun e' w' => e' = .returned (.tuple #[secv z, .int .i64 0]) ∧ Below V.heap.size V w' := fun i z hB hz => by
        have := stable_any (hDf.below hB) (i : Int)
        have hi : i < r.st.length := (List.getElem?_eq_some_iff.1 hz).1
        have e1 : stab d.st (i : Int) = (z, 0) := by
          unfold stab
          rw [hagf.1, if_pos (has_nat hi), Int.toNat_natCast, List.getD_eq_getElem?_getD, hz]
          rfl
        rw [e1] at this
        exact this
      have HRN : Hid (r.st.length = n) := hrnf
      have hn16 : n ≤ 140 := hn140
      clear hrnf
      go_wp2

      go_loopw [242] (fun v wz => ∃ i : Nat, i ≤ n ∧ v = .int .i64 i ∧ Below WE.heap.size WE wz) (fun v _ => n - (intOf v).toNat)
      case atStart => exact ⟨0, Nat.zero_le _, rfl, Below.refl _ _⟩
      case round =>
        obtain ⟨i, hi, rfl, hBz⟩ := hrel
        by_cases hin : i < n
        · have hin2 : (i : Int) < (n : Int) := by omega
          have hin3 : decide ((i : Int) < (n : Int)) = true := decide_eq_true hin2
          obtain ⟨z, hz⟩ : ∃ z, r.st[i]? = some z := ⟨_, List.getElem?_eq_getElem (by rw [HRN.out]; exact hin)⟩
          obtain ⟨bz, oz, rfl, hrz⟩ := rk_range sc_len hpf hz
          have hstz := hstf i z hBz hz
          have hrzw := fun {V : World} (hB : Below WE.heap.size WE V) => rk_range sc_len (hpf.below hB) hz
          clear hz
          go_wp2_with (first
            | ((fail_if_success (have _ := hC1)); (with_reducible refine hstz.mono ?_); rintro e' z1 ⟨rfl, hC1⟩)
            | ((fail_if_success (have _ := hE2)); (have _ := hC1); (refine at_alloc_sec (by rfl) (by rfl) ?_); intro Z2 hE2 hC2 hzz2)
            | ((fail_if_success (have _ := hE3)); (have _ := hE2); (refine at_store_sec _ _ _ _ _ (by rfl) (by rfl) (by rfl) hE2 (by rfl) ?_); intro Z3 hE3 hh3 hzz3; have hC3 := bnext hBz (bnext hC1 (hC2.grown hh3 hC2.size (by simp)))))
          refine Inv.region_inv (fun L a w' => a = { tmps := #[(Value.int IntKind.i64 x), (Value.agg #[Value.int IntKind.u64 ↑s0, Value.int IntKind.u64 y1]), (Value.slice q0 k c0), undef, (Value.pointer (some { block := w.heap.size, off := 0 })), undef, u6, (Value.pointer (some { block := g, off := 0 })), (Value.pointer (some { block := G, off := 0 })), (Value.int IntKind.i64 ↑st), (Value.pointer (some { block := gl, off := 0 })), (Value.int IntKind.i64 0), (Value.pointer (some { block := GL, off := 0 })), (Value.int IntKind.i64 0), undef, u15, u16, u17, u18, u19, u20, u21, u22, u23, u24, u25, u26, u27, u28, u29, u30, (Value.int IntKind.i64 ↑i), (Value.pointer (some { block := z1.heap.size, off := 0 })), (Value.int IntKind.i64 0), (Value.bool true), (Value.bool false), (Value.int IntKind.i64 x), (Value.bool false), (Value.bool false), (Value.slice q0 k c0), (Value.int IntKind.i64 ↑k), (Value.bool false), (Value.bool false), (Value.bool false), (Value.pointer (some { block := w.heap.size, off := 1 })), (Value.int IntKind.u64 y1), (Value.bool false), (Value.bool false), (Value.int IntKind.i64 x), (Value.pointer (some { block := g, off := 0 })), (Value.int IntKind.i64 x), (rv (rfresh n) p3 c3 none 0), (Value.pointer (some { block := w.heap.size, off := 1 })), (Value.int IntKind.u64 y1), (Value.int IntKind.i64 y1), (Value.int IntKind.i64 ↑st), (Value.tuple #[Value.pointer (some { block := gl, off := 0 }), Value.int IntKind.i64 0]), (Value.pointer (some { block := g, off := 0 })), (Value.pointer (some { block := w.heap.size, off := 0 })), (Value.int IntKind.u64 ↑s0), (Value.int IntKind.i64 ↑st), (Value.tuple #[Value.pointer (some { block := gl, off := 0 }), Value.int IntKind.i64 0]), (Value.pointer (some { block := gl, off := 0 })), (Value.int IntKind.i64 0), (Value.tuple #[lv { ep := 5, nx := s0, st := st, nw := st, tk := 0 }, Value.int IntKind.i64 0]), (Value.pointer (some { block := G, off := 0 })), (Value.slice p3 n c3), (Value.int IntKind.i64 ↑n), (Value.pointer (some { block := w.heap.size, off := 0 })), (Value.int IntKind.u64 ↑s0), (Value.int IntKind.i64 ↑st), (Value.tuple #[lv { ep := 5, nx := s0, st := st, nw := st, tk := 0 }, Value.int IntKind.i64 0]), (lv { ep := 5, nx := s0, st := st, nw := st, tk := 0 }), (Value.int IntKind.i64 0), (Value.int IntKind.i64 0), (Value.int IntKind.i64 0), (Value.bool false), (Value.bool false), (Value.pointer (some { block := gl, off := 0 })), (Value.bool false), (Value.int IntKind.i64 0), (Value.bool false), (Value.bool false), (Value.bool false), (Value.int IntKind.i64 0), (Value.bool false), (Value.slice q0 k c0), (Value.int IntKind.i64 ↑k), (Value.int IntKind.i64 ↑k), (Value.bool false), u90, u91, u92, u93, u94, u95, u96, u97, u98, u99, u100, u101, u102, u103, u104, u105, u106, u107, u108, u109, u110, u111, u112, u113, u114, u115, u116, u117, u118, u119, u120, u121, u122, u123, u124, u125, u126, u127, u128, u129, u130, u131, u132, u133, u134, u135, u136, u137, u138, u139, u140, u141, u142, u143, u144, u145, u146, u147, u148, u149, u150, u151, u152, u153, u154, u155, u156, u157, u158, u159, u160, u161, u162, u163, u164, u165, u166, u167, u168, u169, u170, u171, u172, u173, u174, u175, u176, u177, u178, u179, u180, u181, u182, u183, u184, u185, u186, u187, u188, u189, u190, u191, u192, u193, u194, u195, u196, u197, u198, u199, u200, u201, u202, u203, u204, u205, u206, u207, u208, u209, u210, u211, u212, u213, u214, u215, u216, u217, u218, u219, u220, u221, u222, u223, u224, u225, u226, u227, u228, u229, u230, u231, u232, u233, u234, u235, u236, u237, u238, (Value.pointer (some { block := G, off := 0 })), (Value.slice (some { block := bz, off := oz }) n c), (Value.int IntKind.i64 ↑n), (Value.int IntKind.i64 ↑i), (Value.bool true), (Value.int IntKind.i64 ↑i), (Value.tuple #[secv z, Value.int IntKind.i64 0]), (Value.pointer (some { block := g, off := 0 })), (Value.int IntKind.i64 ↑i), (Value.tuple #[secv z, Value.int IntKind.i64 0]), (secv z), (Value.int IntKind.i64 0), (if L 0 = true then (secv z) else u251), (if L 1 = true then (.pointer (some ⟨G, 0, none⟩)) else u252), (if L 2 = true then (.slice (some ⟨bz, oz, none⟩) n c) else u253), (if L 3 = true then (Value.int IntKind.i64 ↑i) else u254), (if L 4 = true then (.pointer (some ⟨bz, oz + i * 64, none⟩)) else u255), (if L 5 = true then (secv z) else u256), (if L 6 = true then (.bool false) else u257), u258], defers := [] } ∧ (Below Z3.heap.size Z3 w')) (by kernel_rfl) (by kernel_rfl) ?h0 ?step ?done
          case h0 => exact ⟨by simp, (Below.refl _ _).drew⟩
          case step =>
            refine Inv.Steps.cons rfl ?_ ?_
            · intro L a w' hI hL hd K hK
              obtain ⟨rfl, hI⟩ := hI
              clear hd
              rw [if_pos (by rfl)]
              refine wp_load_sec _ _ _ _ (by rfl) (by rfl) (blk_sec (hE3.below hI)) ?_
              exact hK.out _ _ ⟨by simp [Act.put], hI⟩
            refine Inv.Steps.cons rfl ?_ ?_
            · intro L a w' hI hL hd K hK
              obtain ⟨rfl, hI⟩ := hI
              clear hd
              rw [if_pos (by rfl)]
              go_simp
              exact hK.out _ _ ⟨by simp, by simpa using hI⟩
            refine Inv.Steps.cons rfl ?_ ?_
            · intro L a w' hI hL hd K hK
              obtain ⟨rfl, hI⟩ := hI
              simp [Region.binds] at hd
              simp only [hd, if_true]
              rw [if_pos (by rfl)]
              have hcG2 := (hXf.below (bnext hC3 hI)).cell
              simp only [rl, HRN.out] at hcG2
              go_simp
              exact hK.out _ _ ⟨by simp [hd], by simpa using hI⟩
            refine Inv.Steps.cons rfl ?_ ?_
            · intro L a w' hI hL hd K hK
              obtain ⟨rfl, hI⟩ := hI
              clear hd
              rw [if_pos (by rfl)]
              go_simp
              exact hK.out _ _ ⟨by simp, by simpa using hI⟩
            refine Inv.Steps.cons rfl ?_ ?_
            · intro L a w' hI hL hd K hK
              obtain ⟨rfl, hI⟩ := hI
              simp [Region.binds] at hd
              simp only [hd, if_true]
              rw [if_pos (by rfl)]
              go_simp
              exact hK.out _ _ ⟨by simp [hd], by simpa using hI⟩
            refine Inv.Steps.cons rfl ?_ ?_
            · intro L a w' hI hL hd K hK
              obtain ⟨rfl, hI⟩ := hI
              simp [Region.binds] at hd
              simp only [hd, if_true]
              rw [if_pos (by rfl)]
              obtain ⟨b9, o9, h9, r9⟩ := hrzw (bnext hC3 hI)
              obtain ⟨rfl, rfl⟩ : bz = b9 ∧ oz = o9 := by simpa using h9
              refine wp_load_sec _ _ _ _ (by rfl) (by rfl) r9 ?_
              exact hK.out _ _ ⟨by simp [hd, Act.put], hI⟩
            refine Inv.Steps.cons rfl ?_ ?_
            · intro L a w' hI hL hd K hK
              obtain ⟨rfl, hI⟩ := hI
              simp [Region.binds] at hd
              simp only [hd, if_true]
              rw [if_pos (by rfl)]
              have hneq := ne_secs
              have hgne := ne_guard
              go_simp
              exact hK.out _ _ ⟨by simp [hd], by simpa using hI⟩
            exact Inv.Steps.nil (by decide)
          case done =>
            intro L a w' hI hall
            obtain ⟨rfl, hI⟩ := hI
            simp only [hall, if_true] at hI ⊢
            have hB9 := bnext hC3 hI
            clear hI hall
            go_wp2
            go_roundw
            case rel => exact ⟨i + 1, by omega, by go_num, hB9⟩
            case measure => simp [intOf]; omega
        · obtain rfl : i = n := by omega
          have hin3 : decide ((i : Int) < (i : Int)) = false := decide_eq_false (by omega)
          go_wp2
          go_ret
          exact ⟨rfl, bnext hb01 (bnext hbf hBz)⟩

end Go.Proofs.Ythgafnommcodcaa.Wal
