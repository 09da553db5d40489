/-
  The records that a segment's sectors begin with.
-/
import Derived.Test.YthgafnommcodcaaWalRun
namespace Go.Proofs.Ythgafnommcodcaa.Wal
open Go.RowKit Go.Proofs.Ythgafnommcodcaa.Mem Go.Proofs.Ythgafnommcodcaa.Sect Go.Proofs.Ythgafnommcodcaa.Frame Go.Proofs.Ythgafnommcodcaa.Disk Go.Proofs.Ythgafnommcodcaa.Area
set_option maxRecDepth 100000

theorem run_from_s (w : World) (p : Option Addr) (n cap l : Nat) (hl : l ≤ n) :
    (Instr.slice 36 (.slice p n cap) (some (.int .i64 (l : Int))) none none).run Try.prog w = .ok (.slice (cutK 64 p cap l) (n - l) (cap - l)) w := by
  have ht : Try.prog.underlying 36 = some (.slice (Try.prog.elem 36)) := by simp [Program.elem, Try.underlying36]
  have he : Try.prog.elem 36 = 70 := by simp [Program.elem, Try.underlying36]
  rw [run_slice_l w 36 p n cap ht .i64 (l : Int) (by omega) (by omega), he, Try.sizeOf70]
  simp [Result.andThen, sliced, cutK]
set_option maxHeartbeats 2000000 in
theorem wal_run (q : Option Addr) (c m : Nat) (l : List Sec) (hm : l.length = m) (hm16 : m ≤ 16) (hb : ∀ s ∈ l, BS s) (ep nx : Nat) (hep : ep < 4294967296) (hnx : nx < 18446744073709551616) (w : World) (r : RK sc w q c l) :
    Calls Try.prog 37 #[.slice q m c, .int .u32 (ep : Int), .int .u64 (nx : Int)] w fun e w' => ∃ v rs, e = .returned v ∧ Rows w' w.heap.size v rs ∧ rs.map (·.g) = run ep 17 nx l ∧ Below w.heap.size w w' := by
  go_enter Try.func37, Try.ntmps37
  go_wp2
  go_loopw [0, 2, 7] (fun s0 s2 s7 wr => ∃ (p : Option Addr) (k c : Nat) (ys : List Sec) (nx' f : Nat) (rs : List Rv) (p7 : Option Addr) (c7 : Nat), s0 = .slice p k c ∧ s2 = .int .u64 (nx' : Int) ∧ s7 = .slice p7 rs.length c7 ∧ ys.length = k ∧ Hid (k < f ∧ rs.length + k ≤ 16) ∧ nx' < 18446744073709551616 ∧ (∀ s ∈ ys, BS s) ∧ RK sc w p c ys ∧ Rows wr w.heap.size (.slice p7 rs.length c7) rs ∧ Hid (run ep 17 nx l = rs.map (·.g) ++ run ep f nx' ys) ∧ Below w.heap.size w wr) (fun s0 _ _ _ => lenV s0)
  case atStart => exact ⟨q, m, c, l, nx, 17, [], none, 0, rfl, rfl, rfl, hm, ⟨by omega, by simpa using hm16⟩, hnx, hb, r, rows_nil _ _, rfl, Below.refl _ _⟩
  case round =>
    obtain ⟨p, k, c, ys, nx', f, rs, p7, c7, rfl, rfl, rfl, hk, hkf, hnx', hbs, rr, hR, HW, hB⟩ := hrel
    have hkf1 := hkf.out
    have hO := frame_Open p k c ys hk (by omega) hbs wr (rr.below hB)
    have hgb := got_bytes hbs
    have hgf := fun h => rights_fits (l := ys) (ep := ep) (nx := nx') h
    cases hr : rights ys ep nx' with
    | false =>
      have hend := run_none hr f
      obtain ⟨⟨ok, N, s, e, P⟩, hG⟩ : ∃ G, got ys = G := ⟨_, rfl⟩
      unfold rights at hr
      rw [hG] at hO hr
      simp only at hr
      unfold told at hO
      simp only at hO
      have HW2 : Hid (run ep 17 nx l = rs.map (·.g)) := by
        unfold Hid
        rw [HW.out, hend, List.append_nil]
      clear hG hgb hgf hend HW hkf hkf1
      have hcs : ok = false ∨ (ok = true ∧ ((e : Int) != (ep : Int)) = true) ∨ (ok = true ∧ ((e : Int) != (ep : Int)) = false ∧ ((s : Int) != (nx' : Int)) = true) := by
        cases ok with
        | false => exact .inl rfl
        | true =>
          by_cases h1 : e = ep
          · refine .inr (.inr ⟨rfl, by simp [h1], ?_⟩)
            simp only [Bool.true_and, Bool.and_eq_false_iff, decide_eq_false_iff_not] at hr
            rw [bne_iff_ne]
            intro h2
            rcases hr with hr | hr <;> omega
          · exact .inr (.inl ⟨rfl, by rw [bne_iff_ne]; omega⟩)
      clear hr
      rcases hcs with rfl | ⟨rfl, h1⟩ | ⟨rfl, h1, h2⟩
      all_goals
        go_wp2_with (first
          | ((with_reducible refine hO.mono ?_); rintro e w2 ⟨q2, d2, rfl, rP, hB2, hn2⟩; have Y2 := Blk.new w2 #[.int .u64 0, .int .u32 0, .slice none 0 0] 75)
          | (refine at_store_rec _ _ _ _ _ _ _ (by rfl) (by rfl) (by rfl) Y2 rfl ⟨rfl, rfl, rfl⟩ (by rfl) ?_; intro W3 Y3 G3; have k3 := Y3.cell))
        have hBB : Below wr.heap.size wr W3 := (bnext hB2 (bnew w2 (.cells #[.int .u64 0, .int .u32 0, .slice none 0 0] 75))).grown G3 (by have := hB2.size; simp; omega) (by have := hB2.size; simp; omega)
        go_ret
        exact ⟨_, rs, rfl, hR.below hBB, HW2.out.symm, bnext hB hBB⟩
    | true =>
      obtain ⟨f, rfl⟩ : ∃ g, f = g + 1 := ⟨f - 1, by omega⟩
      have hmore := run_some hr f
      obtain ⟨f1, f2, f3, f4, f5, f6, f7⟩ := hgf hr
      obtain ⟨⟨ok, N, s, e, P⟩, hG⟩ : ∃ G, got ys = G := ⟨_, rfl⟩
      rw [hG] at hO hmore f1 f2 f3 f4 f5 f7 hgb
      simp only at f1 f2 f3 f4 f5 f7 hgb hmore
      subst f3 f4 f5
      rw [hk] at f2
      unfold told at hO
      simp only at hO
      have hcut := fun w => run_from_s w p k c N f2
      have hdl : (ys.drop N).length = k - N := by rw [List.length_drop, hk]
      have hrd := RK.cut sc_len rr N (by omega)
      have hmw := wrap_more s
      have HW2 : Hid (∀ (q : Option Addr) (d : Nat), run e 17 nx l = (rs ++ [(⟨⟨true, N, s, e, P⟩, q, d⟩ : Rv)]).map (·.g) ++ run e f (more s) (ys.drop N)) := by
        intro q d
        rw [HW.out, hmore]
        simp
      have hmw2 := more_lt s
      have HF : Hid (k - N < f ∧ rs.length + 1 + (k - N) ≤ 16) := ⟨by omega, by omega⟩
      have hbs2 : ∀ x ∈ ys.drop N, BS x := fun x hx => hbs x (List.mem_of_mem_drop hx)
      have hrl : rs.length ≤ 16 := by omega
      clear hG hgf hmore HW hkf hkf1 hr f6
      go_wp2_with (first
        | ((with_reducible refine hO.mono ?_); rintro e w2 ⟨q2, d2, rfl, rP, hB2, hn2⟩; have Y2 := Blk.new w2 #[.int .u64 0, .int .u32 0, .slice none 0 0] 75; have hB2a := bnext hB2 (bnew w2 (.cells #[.int .u64 0, .int .u32 0, .slice none 0 0] 75)); have hsz := hB2.size)
        | (refine at_store_rec _ _ _ _ _ _ _ (by rfl) (by rfl) (by rfl) Y2 rfl ⟨rfl, rfl, rfl⟩ (by rfl) ?_; intro W3 Y3 G3; have k3 := Y3.cell; have hB3 : Below wr.heap.size wr W3 := hB2a.grown G3 hB2a.size (by simp; omega); have rP3 := (rP.alloc (.cells #[.int .u64 0, .int .u32 0, .slice none 0 0] 75)).kept G3 (fun h0 => rP.apart (Nat.le_refl _) h0))
        | (at_builtin; refine at_append_rec rfl _ _ rfl w.heap.size (.slice p7 rs.length c7) rs.length rs rfl ((hR.below hB3).below (bnew W3 (.cells #[.int .u64 (s : Int), .int .u32 (e : Int), .slice q2 P.length d2] 75))).1 (some ⟨W3.heap.size, 0, none⟩) 1 1 [⟨⟨true, N, s, e, P⟩, q2, d2⟩] rfl rfl (lit_rk rfl) (by omega) (by have := hB.size; have := hB3.size; simp; omega) ?_; intro v5 w5 ho5 hg5 hl5))
      have hB4 : Below wr.heap.size wr (W3.alloc (.cells #[.int .u64 (s : Int), .int .u32 (e : Int), .slice q2 P.length d2] 75)) := bnext hB3 (bnew W3 _)
      have hPz : Pays (ownOf (.slice p7 rs.length c7)) (W3.alloc (.cells #[.int .u64 (s : Int), .int .u32 (e : Int), .slice q2 P.length d2] 75)) [⟨⟨true, N, s, e, P⟩, q2, d2⟩] := (Pays.nil _ _).snoc (rs := []) (rP3.alloc _) hgb (off_fresh hn2 fun k hk => (hR.lt k hk).2) f7
      have hR5 := hR.more hB4 hPz (fun r hr a ha => by rw [List.mem_singleton] at hr; subst hr; exact Nat.le_trans hB.size (hn2 a ha)) rfl ho5 hg5 hl5
      obtain ⟨p9, c9, rfl, -, -⟩ := own_rk rc_len (by decide) hR5.1
      refine ⟨⟨cutK 64 p c N, k - N, c - N, ys.drop N, more s, f, rs ++ [⟨⟨true, N, s, e, P⟩, q2, d2⟩], p9, c9, rfl, rfl, rfl, hdl, ⟨HF.1, by simpa using HF.2⟩, hmw2, hbs2, hrd, hR5, by unfold Hid; exact HW2.out q2 d2, ?_⟩, by show k - N < k; omega⟩
      refine (bnext hB hB4).grown hg5 (bnext hB hB4).size fun j hj => ?_
      exact (hR.lt j hj).1
end Go.Proofs.Ythgafnommcodcaa.Wal
