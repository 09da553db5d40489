/-
  The document's log: Scan, from where it begins. (Written by gen_wref7.py.)
-/
import Derived.Test.YthgafnommcodcaaWalRef6
namespace Go.Proofs.Ythgafnommcodcaa.Wal
open Go.RowKit Go.Proofs.Ythgafnommcodcaa.Mem Go.Proofs.Ythgafnommcodcaa.Sect Go.Proofs.Ythgafnommcodcaa.Frame Go.Proofs.Ythgafnommcodcaa.Disk Go.Proofs.Ythgafnommcodcaa.Area
set_option maxRecDepth 100000

set_option maxHeartbeats 4000000 in
theorem ref_Scan {n S st : Nat} (hc : Can n S st 0 0) (r : Rfd) (p : Option Addr) (c : Nat) (q : Option Addr) (e : Nat) (hn : r.st.length = n) (hok : r.ok) (ep s : Nat) (hs0 : s ≠ 0) (hs : s < 18446744073709551616) (hep : ep < 4294967296) (hb : ∀ i t, ∀ x ∈ view (rvis r S st) i t, BS x) (w : World) (r1 : RK sc w p c r.st) (r2 : RK wc w q e r.pe) :
    Calls Try.prog 25 #[rv r p c q e, .int .u32 (ep : Int), .int .u64 (s : Int), .int .i64 (st : Int)] w fun x w' => Found w w' x (scan (rvis r S st) S ep (16 * S + 1) s 0 0).1 (segOf S st (scan (rvis r S st) S ep (16 * S + 1) s 0 0).2) := by
  have hstt := fun W => ref_Start (n : Int) st ep s (by unfold chk; rw [if_pos hc.begin, if_neg hs0]) W
  have hrl : rl r p c q e = [.slice p n c, .slice q r.pe.length e, .bool r.ct, .int .i64 r.lf, .bool r.dn] := by unfold rl; rw [hn]
  have hnx := fun (i : Nat) W => ref_Next (n : Int) (segOf S st i : Int) W
  simp only [(hc.next _).1, (hc.next _).2] at hnx
  have hS2 := hc.two
  have hrd := fun i (hi : i < S) => seg_round (j := i) hc.2.2.2.1 hi
  have hfst := seg_first hc.2.2.2.1
  have hatc := fun {W : World} (hW : Below w.heap.size w W) (nx s3 s4 s5 i t0 : Nat) (ht0 : t0 ≤ 16) (hnx : nx < 18446744073709551616) => ref_at r p c q e ep nx s3 s4 s5 W hok (r1.below hW) (r2.below hW) hn hc i t0 ht0 (hb i t0) hep hnx
  have h700 := fun i t nx (ho : (atPlace (rvis r S st) ep nx i t).ok = true) => (by rw [(at_ok ho).2.2.2.2]; exact (rights_fits (by rw [← at_rights]; exact ho : rights (view (rvis r S st) i t) ep nx = true)).2.2.2.2.2.2 : (atPlace (rvis r S st) ep nx i t).p.length ≤ 700)
  have hbyt := fun i t nx (ho : (atPlace (rvis r S st) ep nx i t).ok = true) => (by rw [(at_ok ho).2.2.2.2]; exact got_bytes (hb i t) : ∀ x ∈ (atPlace (rvis r S st) ep nx i t).p, Byte x)
  have hT : Hid (scan (rvis r S st) S ep (16 * S + 1) s 0 0 = (([] : List Rv).map (·.g) ++ (scan (rvis r S st) S ep (16 * S + 1) s 0 0).1, (scan (rvis r S st) S ep (16 * S + 1) s 0 0).2)) := rfl
  have hlast : r.st.length = n := hn
  clear hb
  generalize hV : rvis r S st = V at *
  generalize hTT : scan V S ep (16 * S + 1) s 0 0 = T at *
  obtain ⟨T1, T2⟩ := T
  rw [← hTT] at hT
  replace hTT : Hid (scan V S ep (16 * S + 1) s 0 0 = (T1, T2)) := hTT
  have hT0 : Hid ((T1, T2) = (([] : List Rv).map (·.g) ++ (scan V S ep (16 * S + 1) s 0 0).1, (scan V S ep (16 * S + 1) s 0 0).2)) := hTT.out.symm.trans hT.out
  clear hT hTT hV hc r1 r2 hok hn hlast
  go_enter Try.func25, Try.ntmps25
  go_wp2_with (first
    | (have _ := hB2; (refine at_alloc_ll (by rfl) (by rfl) ?_); intro V3 hY3 hB3 hz3; have hB23 := bnext hB2 hB3)
    | ((refine at_box_rd _ _ _ _ _ _ (by rfl) (by rfl) (by rfl) ?_); intro V1 hX1 hB1 hz1; have hk1 : ∀ i, V1.cell? ⟨w.heap.size, i, none⟩ = [Value.slice p n c, .slice q r.pe.length e, .bool r.ct, .int .i64 r.lf, .bool r.dn][i]? := (by rw [← hrl]; exact hX1.cell))
    | ((with_reducible refine (hstt _).mono ?_); rintro e w2 ⟨rfl, hB2⟩)
    | ((refine at_store_ll _ _ _ _ _ (by rfl) (by rfl) (by rfl) hY3 rfl (by rfl) ?_); intro V4 hY4 hg4 hz4))
  have hs12 : w.heap.size < V1.heap.size ∧ V1.heap.size ≤ w2.heap.size ∧ w2.heap.size < V4.heap.size := ⟨hX1.lt, hB2.size, hY4.lt⟩
  have hB14 : Below V1.heap.size V1 V4 := hB23.grown hg4 hB23.size (by have := hB2.size; simp; omega)
  have hSc0 : Sc w (V4.alloc (.cells #[] 75)) w.heap.size w2.heap.size V4.heap.size ⟨ep, s, st, segOf S st 0, 0⟩ r p c q e (.slice (some ⟨V4.heap.size, 0, none⟩) 0 0) [] :=
    ⟨(hX1.below hB14).below (bnew V4 _), by rw [hfst]; exact hY4.below (bnew V4 _), made_nil V4 _ (fun k hk => by rcases hk with rfl | rfl <;> omega), bnext (bnext hB1 hB14) (bnew V4 _), by omega, by omega, by omega, by omega, by omega, by omega, by simp⟩
  generalize hb11 : w2.heap.size = b11 at *
  generalize hBB : V4.heap.size = B at *
  clear hX1 hY3 hB1 hB2 hB3 hB23 hY4 hg4 hz1 hz3 hz4 hB14 hk1 hstt hs12 hb11 hBB hfst
  go_loopw [13] (fun s13 wr => ∃ (nx j t f : Nat) (rs : List Rv) (p7 : Option Addr) (c7 : Nat), s13 = .slice p7 rs.length c7 ∧ Sc w wr w.heap.size b11 B ⟨ep, nx, st, segOf S st j, t⟩ r p c q e (.slice p7 rs.length c7) rs ∧ j < S ∧ t ≤ 16 ∧ nx < 18446744073709551616 ∧ Hid (16 * S < 16 * j + t + f) ∧ Hid (rs.length ≤ 16 * j + t) ∧ Hid ((T1, T2) = (rs.map (·.g) ++ (scan V S ep f nx j t).1, (scan V S ep f nx j t).2))) (fun s13 _ => 1000 - lenV s13)
  case atStart => exact ⟨s, 0, 0, 16 * S + 1, [], some ⟨B, 0, none⟩, 0, rfl, hSc0, by omega, by omega, hs, by unfold Hid; omega, by unfold Hid; simp, hT0⟩
  case round =>
    obtain ⟨nx, j, t, f, rs, p7, c7, rfl, hSc, hj, ht, hnx2, HF, HL, HW⟩ := hrel
    have hX := hSc.1
    have hY := hSc.2.1
    have hk11 := cells5 hY
    have hB := hSc.2.2.2.1
    have hHF := HF.out
    have hHL := HL.out
    obtain ⟨f, rfl⟩ : ∃ g, f = g + 1 := ⟨f - 1, by omega⟩
    have hk4 : ∀ i, wr.cell? ⟨w.heap.size, i, none⟩ = [Value.slice p n c, .slice q r.pe.length e, .bool r.ct, .int .i64 r.lf, .bool r.dn][i]? := by rw [← hrl]; exact hX.cell
    obtain ⟨m1, m2, m3, m4, m5, m6, m7⟩ := hSc.2.2.2.2
    clear hk4
    by_cases h0 : nx = 0
    · have hend := scan_end (rd := V) (S := S) (ep := ep) (f := f) (nx := nx) (j := j) (t := t) (.inl h0)

      have HW2 := HW.out
      rw [hend, List.append_nil] at HW2
      simp only [Prod.mk.injEq] at HW2
      obtain ⟨hQ1, hQ2⟩ := HW2
      subst hQ1
      obtain rfl : j = T2 := hQ2.symm
      clear HW hend

      subst h0
      go_wp2

      go_quiet (fail)
      go_wp2
      go_ret3
      exact ⟨_, rs, rfl, (hSc.2.2.1.1.lower' (by omega)).below (bdrewN _ _), rfl, bnext hSc.2.2.2.1 (bdrewN _ _)⟩
    cases hA : (atPlace V ep nx j t).ok with
    | true =>
      have hao := at_ok hA
      have hP7 := h700 j t nx hA
      have hPb := hbyt j t nx hA
      have hat1 := hatc hB nx st (segOf S st j) t j t ht hnx2
      have HW2 := HW.out
      rw [scan_here h0 hA] at HW2
      have hHn := HF.out
      have hown := fun k (hk : ownOf (.slice p7 rs.length c7) k) => Nat.lt_of_lt_of_le (hSc.2.2.1.1.lt k hk).2 (Nat.le_refl _)
      generalize hG : atPlace V ep nx j t = G at *
      obtain ⟨ok, N, s5, e5, P⟩ := G
      simp only at hao hA hP7 hPb
      obtain ⟨a1, a2, rfl, rfl, -⟩ := hao
      subst hA
      simp only at HW2
      unfold toldAt at hat1
      simp only at hat1
      have hN0 : ((N : Int) == 0) = false := by simp; omega
      have hwt : IntKind.i64.wrap ((t : Int) + (N : Int)) = (t : Int) + (N : Int) := wrap_int ⟨by omega, by omega⟩
      have hwc : ((t : Int) + (N : Int)) = ((t + N : Nat) : Int) := by omega
      have hwm := wrap_more s5
      replace hwc : Hid ((t : Int) + (N : Int) = ((t + N : Nat) : Int)) := hwc
      clear HW hG hatc hnx h700 hbyt hrd hrl
      go_wp2_with (first
        | ((refine at_load_ll _ _ _ (by rfl) (by rfl) hY (by rfl) ?_))
        | ((refine at_load_rd _ _ _ _ _ _ _ (by rfl) (by rfl) hX (by rfl) ?_))
        | ((with_reducible refine hat1.mono ?_); rintro e w5 ⟨q5, d5, rfl, rP5, hB5, hn5⟩; have hSc5 := hSc.below hB5; have Y5 := Blk.new w5 #[.int .u64 0, .int .u32 0, .slice none 0 0] 75; have hs5 := hB5.size)
        | (refine at_store_rec _ _ _ _ _ _ _ (by rfl) (by rfl) (by rfl) Y5 rfl ⟨rfl, rfl, rfl⟩ (by rfl) ?_; intro V6 Y6 G6; have hB56 : Below w5.heap.size w5 V6 := (bnew w5 (.cells #[.int .u64 0, .int .u32 0, .slice none 0 0] 75)).grown G6 (by simp) (by simp); have hSc6 := hSc5.below hB56; have hY6 := hSc6.2.1; have hX6 := hSc6.1; have hk6 := cells5 hY6; have hf6 := hY6.frozen; have k6 := Y6.cell; have hne1 : w5.heap.size ≠ b11 := (by omega); have hne2 : b11 ≠ w5.heap.size := (by omega); obtain ⟨hY41, hg41⟩ := set41 (more s5) hwc hY6; have hSc7 := hSc6.log hY41 hg41; have rP7 := ((rP5.alloc (.cells #[.int .u64 0, .int .u32 0, .slice none 0 0] 75)).kept G6 (fun h0 => rP5.apart (Nat.le_refl _) h0)).kept hg41 (ne_block (g := b11) hn5 (by omega)); have hnq := new_apart (b11 := b11) (b4 := w.heap.size) hn5 m7 (by omega) (by omega) hown)
        | (at_builtin; refine at_push2 rfl _ _ rfl p7 c7 rs.length rs hSc7.2.2.1 rfl (by omega) rfl ⟨⟨true, N, s5, e5, P⟩, q5, d5⟩ s5 e5 P.length rfl rfl rfl rfl _ (by simp) rfl (hSc7.2.2.2.2.2.2.2.2.2.2) rP7 hPb hnq hP7 (fun k hk => by have := hSc7.2.2.2.2.2.2.2.2.2.2; rcases hk with hk | hk <;> omega) ?_; intro p9 c9 w9 hM9 hF9 hB9))
      have e9 : (rs ++ [(⟨⟨true, N, s5, e5, P⟩, q5, d5⟩ : Rv)]).length = rs.length + 1 := by simp
      refine ⟨⟨more s5, j, t + N, f, rs ++ [⟨⟨true, N, s5, e5, P⟩, q5, d5⟩], p9, c9, by rw [e9], by rw [e9]; exact hSc7.push hM9 hF9 hB9, by omega, by omega, more_lt s5, by unfold Hid; omega, by unfold Hid; rw [e9]; omega, by unfold Hid; rw [HW2, List.map_append, List.append_assoc]; rfl⟩, by simp only [lenV]; omega⟩
    | false =>
      have hnG := at_not hA
      have hat1 := hatc hB nx st (segOf S st j) t j t ht hnx2
      rw [hnG] at hat1
      unfold toldAt nought at hat1
      simp only [List.length_nil] at hat1
      replace hat1 : Calls Try.prog 54 #[lv ⟨ep, nx, st, segOf S st j, t⟩, rv r p c q e, .int .i64 (segOf S st j : Int), .int .i64 (t : Int)] wr fun x w' => ∃ q d, x = .returned (.tuple #[.agg #[.int .u64 0, .int .u32 0, .slice q 0 d], .int .i64 0]) ∧ Reads .u8 w' q d [] ∧ Below wr.heap.size wr w' ∧ ∀ a, q = some a → wr.heap.size ≤ a.block := hat1
      have hnxj := fun W => hnx j W
      have hrj := hrd j hj
      have hown := fun k (hk : ownOf (.slice p7 rs.length c7) k) => (hSc.2.2.1.1.lt k hk).2
      by_cases hjS : j + 1 = S
      · have hend := scan_end (rd := V) (S := S) (ep := ep) (f := f) (nx := nx) (j := j) (t := t) (.inr ⟨hA, .inl hjS⟩)

        have HW2 := HW.out
        rw [hend, List.append_nil] at HW2
        simp only [Prod.mk.injEq] at HW2
        obtain ⟨hQ1, hQ2⟩ := HW2
        subst hQ1
        obtain rfl : j = T2 := hQ2.symm
        clear HW hend

        have hbS : ((segOf S st (j + 1) : Int) == (st : Int)) = true := by rw [hrj.2 hjS]; simp
        clear hjS hatc hnx h700 hbyt hrd hA hnG hrj
        go_wp2_with (first
          | ((refine at_load_ll _ _ _ (by rfl) (by rfl) hY (by rfl) ?_))
          | ((refine at_load_rd _ _ _ _ _ _ _ (by rfl) (by rfl) hX (by rfl) ?_))
          | ((with_reducible refine hat1.mono ?_); rintro e w5 ⟨q5, d5, rfl, rP5, hB5, hn5⟩; have hSc5 := hSc.below hB5; have Y5 := Blk.new w5 #[.int .u64 0, .int .u32 0, .slice none 0 0] 75; have hs5 := hB5.size)
          | (refine at_store_rec _ _ _ _ _ _ _ (by rfl) (by rfl) (by rfl) Y5 rfl ⟨rfl, rfl, rfl⟩ (by rfl) ?_; intro V6 Y6 G6; have hB56 : Below w5.heap.size w5 V6 := (bnew w5 (.cells #[.int .u64 0, .int .u32 0, .slice none 0 0] 75)).grown G6 (by simp) (by simp); have hSc6 := hSc5.below hB56; have hY6 := hSc6.2.1; have hX6 := hSc6.1; have hk6 := cells5 hY6; have hf6 := hY6.frozen; have k6 := Y6.cell; have hne1 : w5.heap.size ≠ b11 := (by omega); have hne2 : b11 ≠ w5.heap.size := (by omega); have hBr6 := bnext hB5 hB56; have hk46 : ∀ i, V6.cell? ⟨w.heap.size, i, none⟩ = [Value.slice p n c, .slice q r.pe.length e, .bool r.ct, .int .i64 r.lf, .bool r.dn][i]? := (by rw [← hrl]; exact hX6.cell))
          | ((with_reducible refine (hnxj _).mono ?_); rintro e w2 ⟨rfl, hw⟩; rw [hw]; clear hw))
        go_quiet (fail)
        go_wp2
        go_ret3
        exact ⟨_, rs, rfl, (hSc6.2.2.1.1.lower' (by omega)).below (bdrewN _ _), rfl, bnext hSc6.2.2.2.1 (bdrewN _ _)⟩
      · have hbS : ((segOf S st (j + 1) : Int) == (st : Int)) = false := by
          rw [beq_eq_false_iff_ne]
          intro qq
          exact hjS (hrj.1 (by omega))
        have hat2 : ∀ {W : World}, Below w.heap.size w W → Calls Try.prog 54 #[lv ⟨ep, nx, st, segOf S st j, t⟩, rv r p c q e, .int .i64 (segOf S st (j + 1) : Int), .int .i64 0] W fun x w' => toldAt x W w' (atPlace V ep nx (j + 1) 0) := fun hW => hatc hW nx st (segOf S st j) t (j + 1) 0 (by omega) hnx2
        cases hA2 : (atPlace V ep nx (j + 1) 0).ok with
        | true =>
          have hao := at_ok hA2
          have hP7 := h700 (j + 1) 0 nx hA2
          have hPb := hbyt (j + 1) 0 nx hA2
          have HW2 := HW.out
          rw [scan_next h0 hA hjS hA2] at HW2
          have hjS2 : j + 1 < S := by omega
          generalize hG : atPlace V ep nx (j + 1) 0 = G at *
          obtain ⟨ok, N, s5, e5, P⟩ := G
          simp only at hao hA2 hP7 hPb
          obtain ⟨a1, a2, rfl, rfl, -⟩ := hao
          subst hA2
          simp only at HW2
          unfold toldAt at hat2
          simp only at hat2
          have hN0 : ((N : Int) == 0) = false := by simp; omega
          have hwt : IntKind.i64.wrap (N : Int) = (N : Int) := wrap_int ⟨by omega, by omega⟩
          have hwm := wrap_more s5
          clear HW hG hatc hnx h700 hbyt hrd hA hnG hrj hjS
          go_wp2_with (first
            | ((fail_if_success (have _ := hSc9)); (refine at_load_ll _ _ _ (by rfl) (by rfl) hY (by rfl) ?_))
            | ((fail_if_success (have _ := hSc9)); (refine at_load_rd _ _ _ _ _ _ _ (by rfl) (by rfl) hX (by rfl) ?_))
            | ((fail_if_success (have _ := hSc9)); (refine at_load_ll _ _ _ (by rfl) (by rfl) hY6 (by rfl) ?_))
            | ((fail_if_success (have _ := hSc9)); (refine at_load_rd _ _ _ _ _ _ _ (by rfl) (by rfl) hX6 (by rfl) ?_))
            | ((fail_if_success (have _ := hSc9)); (with_reducible refine hat26.mono ?_); rintro e w8 ⟨q8, d8, rfl, rP8, hB8, hn8⟩; have Y8 := Y6.below hB8; have hBr8 := bnext hBr6 hB8; have hs8 := hB8.size; have hs6 := hBr6.size; have hl6 := Y6.lt)
            | ((fail_if_success (have _ := hSc9)); have _ := hBr8; refine at_store_rec _ _ _ _ _ _ _ (by rfl) (by rfl) (by rfl) Y8 rfl ⟨rfl, rfl, rfl⟩ (by rfl) ?_; intro V9 Y9 G9; have hBr9 := hBr8.grown G9 hBr8.size (some_from (by omega)); have hSc9 := hSc.below hBr9; have hk9 := cells5 hSc9.2.1; have hf9 := hSc9.2.1.frozen; have k9 := Y9.cell; obtain ⟨hY41, hg41⟩ := set3441 (N := N) (more s5) (segOf S st (j + 1)) hSc9.2.1; have hSc7 := hSc9.log hY41 hg41; have rP7 := (rP8.kept G9 (ne_block (g := w5.heap.size) hn8 (by omega))).kept hg41 (ne_block (g := b11) hn8 (by omega)); have hnq := new_apart (b11 := b11) (b4 := w.heap.size) hn8 (by omega : B ≤ V6.heap.size) (by omega) (by omega) (fun k hk => Nat.lt_of_lt_of_le (hown k hk) hs6))
            | ((fail_if_success (have _ := hSc9)); (with_reducible refine hat1.mono ?_); rintro e w5 ⟨q5, d5, rfl, rP5, hB5, hn5⟩; have hSc5 := hSc.below hB5; have Y5 := Blk.new w5 #[.int .u64 0, .int .u32 0, .slice none 0 0] 75; have hs5 := hB5.size)
            | ((fail_if_success (have _ := hSc9)); refine at_store_rec _ _ _ _ _ _ _ (by rfl) (by rfl) (by rfl) Y5 rfl ⟨rfl, rfl, rfl⟩ (by rfl) ?_; intro V6 Y6 G6; have hB56 : Below w5.heap.size w5 V6 := (bnew w5 (.cells #[.int .u64 0, .int .u32 0, .slice none 0 0] 75)).grown G6 (by simp) (by simp); have hSc6 := hSc5.below hB56; have hY6 := hSc6.2.1; have hX6 := hSc6.1; have hk6 := cells5 hY6; have hf6 := hY6.frozen; have k6 := Y6.cell; have hne1 : w5.heap.size ≠ b11 := (by omega); have hne2 : b11 ≠ w5.heap.size := (by omega); have hBr6 := bnext hB5 hB56; have hk46 : ∀ i, V6.cell? ⟨w.heap.size, i, none⟩ = [Value.slice p n c, .slice q r.pe.length e, .bool r.ct, .int .i64 r.lf, .bool r.dn][i]? := (by rw [← hrl]; exact hX6.cell); have hat26 := hat2 hSc6.2.2.2.1)
            | ((fail_if_success (have _ := hSc9)); (with_reducible refine (hnxj _).mono ?_); rintro e w2 ⟨rfl, hw⟩; rw [hw]; clear hw)
            | (at_builtin; refine at_push2 rfl _ _ rfl p7 c7 rs.length rs hSc7.2.2.1 rfl (by omega) rfl ⟨⟨true, N, s5, e5, P⟩, q8, d8⟩ s5 e5 P.length rfl rfl rfl rfl _ (by simp) rfl (hSc7.2.2.2.2.2.2.2.2.2.2) rP7 hPb hnq hP7 (fun k hk => by have := hSc7.2.2.2.2.2.2.2.2.2.2; rcases hk with hk | hk <;> omega) ?_; intro p9 c9 w9 hM9 hF9 hB9))
          have e9 : (rs ++ [(⟨⟨true, N, s5, e5, P⟩, q8, d8⟩ : Rv)]).length = rs.length + 1 := by simp
          refine ⟨⟨more s5, j + 1, N, f, rs ++ [⟨⟨true, N, s5, e5, P⟩, q8, d8⟩], p9, c9, by rw [e9], by rw [e9]; exact hSc7.push hM9 hF9 hB9, by omega, by omega, more_lt s5, by unfold Hid; omega, by unfold Hid; rw [e9]; omega, by unfold Hid; rw [HW2, List.map_append, List.append_assoc]; rfl⟩, by simp only [lenV]; omega⟩
        | false =>
          have hend := scan_end (rd := V) (S := S) (ep := ep) (f := f) (nx := nx) (j := j) (t := t) (.inr ⟨hA, .inr hA2⟩)

          have HW2 := HW.out
          rw [hend, List.append_nil] at HW2
          simp only [Prod.mk.injEq] at HW2
          obtain ⟨hQ1, hQ2⟩ := HW2
          subst hQ1
          obtain rfl : j = T2 := hQ2.symm
          clear HW hend

          rw [at_not hA2] at hat2
          unfold toldAt nought at hat2
          simp only [List.length_nil] at hat2
          have hat2' : ∀ {W : World}, Below w.heap.size w W → Calls Try.prog 54 #[lv ⟨ep, nx, st, segOf S st j, t⟩, rv r p c q e, .int .i64 (segOf S st (j + 1) : Int), .int .i64 0] W fun x w' => ∃ q d, x = .returned (.tuple #[.agg #[.int .u64 0, .int .u32 0, .slice q 0 d], .int .i64 0]) ∧ Reads .u8 w' q d [] ∧ Below W.heap.size W w' ∧ ∀ a, q = some a → W.heap.size ≤ a.block := fun hW => hat2 hW
          clear hjS hatc hnx h700 hbyt hrd hA hnG hrj hA2 hat2
          go_wp2_with (first
            | ((refine at_load_ll _ _ _ (by rfl) (by rfl) hY (by rfl) ?_))
            | ((refine at_load_rd _ _ _ _ _ _ _ (by rfl) (by rfl) hX (by rfl) ?_))
            | ((refine at_load_ll _ _ _ (by rfl) (by rfl) hY6 (by rfl) ?_))
            | ((refine at_load_rd _ _ _ _ _ _ _ (by rfl) (by rfl) hX6 (by rfl) ?_))
            | ((with_reducible refine hat26.mono ?_); rintro e w8 ⟨q8, d8, rfl, rP8, hB8, hn8⟩; have Y8 := Y6.below hB8; have hBr8 := bnext hBr6 hB8; have hs8 := hB8.size; have hs6 := hBr6.size; have hl6 := Y6.lt)
            | (have _ := hBr8; refine at_store_rec _ _ _ _ _ _ _ (by rfl) (by rfl) (by rfl) Y8 rfl ⟨rfl, rfl, rfl⟩ (by rfl) ?_; intro V9 Y9 G9; have hBr9 := hBr8.grown G9 hBr8.size (some_from (by omega)); have hSc9 := hSc.below hBr9; have hk9 := cells5 hSc9.2.1; have hf9 := hSc9.2.1.frozen; have k9 := Y9.cell)
            | ((with_reducible refine hat1.mono ?_); rintro e w5 ⟨q5, d5, rfl, rP5, hB5, hn5⟩; have hSc5 := hSc.below hB5; have Y5 := Blk.new w5 #[.int .u64 0, .int .u32 0, .slice none 0 0] 75; have hs5 := hB5.size)
            | (refine at_store_rec _ _ _ _ _ _ _ (by rfl) (by rfl) (by rfl) Y5 rfl ⟨rfl, rfl, rfl⟩ (by rfl) ?_; intro V6 Y6 G6; have hB56 : Below w5.heap.size w5 V6 := (bnew w5 (.cells #[.int .u64 0, .int .u32 0, .slice none 0 0] 75)).grown G6 (by simp) (by simp); have hSc6 := hSc5.below hB56; have hY6 := hSc6.2.1; have hX6 := hSc6.1; have hk6 := cells5 hY6; have hf6 := hY6.frozen; have k6 := Y6.cell; have hne1 : w5.heap.size ≠ b11 := (by omega); have hne2 : b11 ≠ w5.heap.size := (by omega); have hBr6 := bnext hB5 hB56; have hk46 : ∀ i, V6.cell? ⟨w.heap.size, i, none⟩ = [Value.slice p n c, .slice q r.pe.length e, .bool r.ct, .int .i64 r.lf, .bool r.dn][i]? := (by rw [← hrl]; exact hX6.cell); have hat26 := hat2' hSc6.2.2.2.1)
            | ((with_reducible refine (hnxj _).mono ?_); rintro e w2 ⟨rfl, hw⟩; rw [hw]; clear hw))
          go_quiet (fail)
          go_wp2
          go_ret3
          exact ⟨_, rs, rfl, (hSc9.2.2.1.1.lower' (by omega)).below (bdrewN _ _), rfl, bnext hSc9.2.2.2.1 (bdrewN _ _)⟩
end Go.Proofs.Ythgafnommcodcaa.Wal
