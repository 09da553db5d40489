/-
  The document's Read of a book. (Written by gen_bkref4.py.)
-/
import Derived.Test.YtnaofcggdjbocaaBkRead
import Derived.Test.YtnaofcggdjbocaaBkRef1
import Derived.Test.YtnaofcggdjbocaaLebRefList
namespace Go.Proofs.Ytnaofcggdjbocaa.Book
open Go.RowKit Go.Proofs.Ytnaofcggdjbocaa.Mem Go.Proofs.Ytnaofcggdjbocaa.Policy Go.Proofs.Ytnaofcggdjbocaa.Event Go.Proofs.Ytnaofcggdjbocaa.Addr
set_option maxRecDepth 100000

theorem run_part_b (w : World) (p : Option Addr) (n cap l h : Nat) (hl : l ≤ h) (hh : h ≤ cap) :
    (Instr.slice 65 (.slice p n cap) (some (.int .i64 (l : Int))) (some (.int .i64 (h : Int))) none).run Try.prog w = .ok (.slice (cutP p cap l) (h - l) (cap - l)) w := by
  have ht : Try.prog.underlying 65 = some (.slice (Try.prog.elem 65)) := by simp [Program.elem, Try.underlying65]
  have he : Try.prog.elem 65 = 22 := by simp [Program.elem, Try.underlying65]
  rw [run_slice_lh w 65 p n cap ht .i64 .i64 (l : Int) (h : Int) (by omega) (by omega) (by omega), he, Try.sizeOf22]
  simp [Result.andThen, sliced, cutP]
theorem of_yes {l : List Int} (h : isP l = true) : ofP l = asP l ∧ ofE l = 0 := by unfold ofP ofE; rw [h]; exact ⟨rfl, rfl⟩
theorem of_no {l : List Int} (h : isP l = false) : ofE l = 111 := by unfold ofE; rw [h]; rfl
theorem as_eleven (l : List Int) : asN (l.take 11) = ⟨asP (l.take 10), l.getD 10 0⟩ := by
  unfold asN
  rw [List.take_take]
  simp [List.getD]
set_option maxHeartbeats 8000000 in
theorem ref_ReadB (p : Option Addr) (n c : Nat) (bs : List Int) (hn : bs.length = n) (h2000 : n ≤ 2000) (hb : ∀ c ∈ bs, Byte c) (w : World) (r : Reads .u8 w p c bs) :
    Calls Try.prog 22 #[.slice p n c] w fun x w' => ∃ h, x = .returned (.tuple #[bv h, .int .i64 (rdE bs)]) ∧ IsB w' h (rdB bs) ∧ Below w.heap.size w w' := by
  have hA := fun {W : World} (hb' : Below w.heap.size w W) => Leb.refAll_any p n c bs hn h2000 hb W (r.below hb')
  obtain ⟨l, E, hlE⟩ : ∃ l E, Leb.lall bs = (l, E) := ⟨_, _, rfl⟩
  have hbk : (l = [] ∧ E = 21) ∨ (E = 0 ∧ (∀ x ∈ l, Word x) ∧ l.length ≤ 128) := by
    rcases Leb.lall_back bs with h | ⟨m, h, -, h1, h2⟩
    · rw [hlE] at h; simp only [Prod.mk.injEq] at h; exact .inl h
    · rw [hlE] at h; simp only [Prod.mk.injEq] at h; rw [h.1]; exact .inr ⟨h.2, h1, h2⟩
  have hO : Hid (readB bs = if E = 0 ∧ 1 ≤ l.length then ((entsO (l.drop 1)).map (Bk.mk (l.getD 0 0))).filter rightB else none) := by unfold Hid readB; rw [hlE]
  rw [hlE] at hA
  simp only at hA
  clear hlE hn hb r
  rcases hbk with ⟨rfl, rfl⟩ | ⟨rfl, hw, h128⟩
  · have hR : readB bs = none := by rw [hO.out, if_neg (by simp)]
    rw [(rdb_none hR).1, (rdb_none hR).2]
    clear hO hR
    go_enter Try.func22, Try.ntmps22
    go_wp2_with (first
      | ((fail_if_success (have _ := hX1)); (refine at_alloc_bk (by rfl) (by rfl) ?_); intro V1 hX1 hB1 hz1)
      | ((fail_if_success (have _ := hB3)); (have _ := hX1); (with_reducible refine (hA hB1).mono ?_); rintro e w3 ⟨q3, c3, rfl, r3, hB3⟩; have hX3 := hX1.below hB3; have hB13 := bnext hB1 hB3)
      | ((fail_if_success (have _ := hX4)); (have _ := hX3); (refine at_build_bzero (by rfl) (by rfl) ?_))
      | ((fail_if_success (have _ := hX4)); (have _ := hX3); (refine at_store_bk _ _ _ _ _ (by rfl) (by rfl) (by rfl) hX3 rfl (by rfl) ?_); intro V4 hX4 hg4 hz4))
    refine ret_bk2 (by rfl) rfl _ _ rfl hX4 ⟨_, rfl, IsB.zero _, hB13.grown hg4 hB13.size (by simp)⟩
  · cases l with
    | nil =>
      have hR : readB bs = none := by rw [hO.out, if_neg (by simp)]
      rw [(rdb_none hR).1, (rdb_none hR).2]
      clear hO hR
      go_enter Try.func22, Try.ntmps22
      go_wp2_with (first
        | ((fail_if_success (have _ := hX1)); (refine at_alloc_bk (by rfl) (by rfl) ?_); intro V1 hX1 hB1 hz1)
        | ((fail_if_success (have _ := hB3)); (have _ := hX1); (with_reducible refine (hA hB1).mono ?_); rintro e w3 ⟨q3, c3, rfl, r3, hB3⟩; have hX3 := hX1.below hB3; have hB13 := bnext hB1 hB3)
        | ((fail_if_success (have _ := hX4)); (have _ := hX3); (refine at_build_bzero (by rfl) (by rfl) ?_))
        | ((fail_if_success (have _ := hX4)); (have _ := hX3); (refine at_store_bk _ _ _ _ _ (by rfl) (by rfl) (by rfl) hX3 rfl (by rfl) ?_); intro V4 hX4 hg4 hz4))
      refine ret_bk2 (by rfl) rfl _ _ rfl hX4 ⟨_, rfl, IsB.zero _, hB13.grown hg4 hB13.size (by simp)⟩
    | cons x0 rest =>
      obtain ⟨L, hL⟩ : ∃ L, x0 :: rest = L := ⟨_, rfl⟩
      obtain ⟨M, hM⟩ : ∃ M, L.length = M := ⟨_, rfl⟩
      have h1M : 1 ≤ M := by rw [← hM, ← hL]; simp
      replace hO : Hid (readB bs = ((entsO (L.drop 1)).map (Bk.mk (L.getD 0 0))).filter rightB) := by
        unfold Hid
        rw [hO.out, if_pos ⟨rfl, by simp⟩, hL]
      have h0 : L.getD 0 0 = x0 := by rw [← hL]; rfl
      rw [h0] at hO
      rw [hL] at hA h128 hw
      have hg0 : L[0]? = some x0 := by rw [← hL]; rfl
      clear hL h0
      rw [hM] at hA h128
      obtain ⟨RE, hRE⟩ : ∃ RE, RE = rdB bs := ⟨_, rfl⟩
      obtain ⟨RN, hRN⟩ : ∃ RN, RN = rdE bs := ⟨_, rfl⟩
      rw [← hRE, ← hRN]
      have HNo : Hid (entsO (L.drop 1) = none → RE = zeroB ∧ RN = 131) := fun h => by
        have hR : readB bs = none := by rw [hO.out, h]; rfl
        rw [hRE, hRN]; exact rdb_none hR
      have HYes : Hid (∀ es, entsO (L.drop 1) = some es → (rightB ⟨x0, es⟩ = true → RE = ⟨x0, es⟩ ∧ RN = 0) ∧ (rightB ⟨x0, es⟩ = false → RE = zeroB ∧ RN = 131)) := fun es h => by
        refine ⟨fun hr => ?_, fun hr => ?_⟩
        · have hR : readB bs = some ⟨x0, es⟩ := by rw [hO.out, h]; simp [Option.filter, hr]
          rw [hRE, hRN]; exact rdb_some hR
        · have hR : readB bs = none := by rw [hO.out, h]; simp [Option.filter, hr]
          rw [hRE, hRN]; exact rdb_none hR
      have HM : Hid (L.length = M) := hM
      have HW : Hid (∀ x ∈ L, Word x) := hw
      have he0 : ((M : Int) == 0) = false := by simp; omega
      have z0 : (0 : Int) < (M : Int) := by omega
      clear hO hRE hRN hM hw
      go_enter Try.func22, Try.ntmps22
      go_wp2_with (first
        | ((fail_if_success (have _ := hXr1)); (refine at_alloc_bk (by rfl) (by rfl) ?_); intro U1 hXr1 hZ1 hz1)
        | ((fail_if_success (have _ := hZ2)); (have _ := hXr1); (with_reducible refine (hA hZ1).mono ?_); rintro e u2 ⟨q3, c3, rfl, r3, hZ2⟩; have hXr2 := hXr1.below hZ2; have hC2 := bnext hZ1 hZ2; obtain ⟨g0, o0, rfl, hbl, hcl⟩ := r3.2.2.2 (by have := HM.out; omega); have k0 : u2.cell? ⟨g0, o0, none⟩ = some (.int .u64 x0) := by have := hcl 0 (by have := HM.out; omega); simpa [List.getD, hg0] using this)
        | ((fail_if_success (have _ := hXo4)); (have _ := hXr2); (refine at_build_bperiod _ x0 (by rfl) (by rfl) (by rfl) ?_))
        | ((fail_if_success (have _ := hXo4)); (have _ := hXr2); (refine at_alloc_bk (by rfl) (by rfl) ?_); intro U4 hXo4 hZ4 hz4)
        | ((fail_if_success (have _ := hXo5)); (have _ := hXo4); (refine at_store_bk _ _ _ _ _ (by rfl) (by rfl) (by rfl) hXo4 rfl (by rfl) ?_); intro U5 hXo5 hg5 hz5; have hZ5 := hZ4.grown hg5 hZ4.size (by simp)))
      have hu1 : w.heap.size < u2.heap.size := hXr2.lt
      have hcap := r3.1
      clear hXo4 hg5 hZ4 hz1 hz4 hz5 hZ1 hZ2 hXr1 k0 hA
      go_loopw [7] (fun j wr => ∃ (k : Nat) (out : List En) (q' : Option Addr) (n' c' : Nat), 1 ≤ k ∧ k ≤ M ∧ j = .int .i64 (k : Int) ∧ Below u2.heap.size u2 wr ∧ Blk wr u2.heap.size 25 (bl ⟨x0, q', n', c'⟩) ∧ EO u2.heap.size wr (.slice q' n' c') out ∧ Hid (∃ f, (L.drop k).length ≤ f ∧ entsA f (L.drop k) out = entsO (L.drop 1)) ∧ Hid (∀ e ∈ out, EnOk e) ∧ out.length ≤ k) (fun j _ => M - (intOf j).toNat)
      case atStart => exact ⟨1, [], none, 0, 0, by omega, h1M, rfl, hZ5, hXo5, EO.nil _ _, ⟨(L.drop 1).length, Nat.le_refl _, rfl⟩, by unfold Hid; simp, by simp⟩
      case round =>
        obtain ⟨k, out, q', n', c', h1k, hkM, rfl, hE0, hXo0, hO0, HF, HK, hlen⟩ := hrel
        clear hZ5 hXo5
        have hXr0 := hXr2.below hE0
        have hC0 := bnext hC2 hE0
        have hw1 : IntKind.i64.wrap ((k : Int) + 11) = (k : Int) + 11 := by rw [IntKind.wrap_i64]; omega
        have hw2 : IntKind.i64.wrap ((k : Int) + 10) = (k : Int) + 10 := by rw [IntKind.wrap_i64]; omega
        have hdl : (L.drop k).length = M - k := by rw [List.length_drop, HM.out]
        by_cases hle : k + 11 ≤ M
        · have d1 : decide ((k : Int) + 11 ≤ (M : Int)) = true := decide_eq_true (by omega)
          have hr10 : ((L.drop k).take 10).length = 10 := by rw [List.length_take, hdl]; omega
          have hcut : ∀ W, (Instr.slice 65 (.slice (some ⟨g0, o0, none⟩) M c3) (some (.int .i64 (k : Int))) (some (.int .i64 ((k : Int) + 10))) none).run Try.prog W = .ok (.slice (cutP (some ⟨g0, o0, none⟩) c3 k) 10 (c3 - k)) W := fun W => by
            have := run_part_b W (some ⟨g0, o0, none⟩) M c3 k (k + 10) (by omega) (by have := HM.out; omega)
            rw [show k + 10 - k = 10 by omega, show ((k + 10 : Nat) : Int) = (k : Int) + 10 by omega] at this
            exact this
          have hrc : ∀ {W : World}, Below u2.heap.size u2 W → Reads .u64 W (cutP (some ⟨g0, o0, none⟩) c3 k) (c3 - k) ((L.drop k).take 10) := fun hb => by
            have := ((r3.cut k (by have := HM.out; omega)).upto 10).below hb
            simpa using this
          have hOf := fun {W : World} (hb : Below u2.heap.size u2 W) => ref_OfP _ 10 _ _ hr10 W (hrc hb) (fun x hx => HW.out x (List.mem_of_mem_drop (List.mem_of_mem_take hx)))
          cases hP : isP ((L.drop k).take 10) with
          | false =>
            have hbadN : entsO (L.drop 1) = none := by
              obtain ⟨f, hf, he⟩ := HF.out
              obtain ⟨f', rfl⟩ : ∃ f', f = f' + 1 := ⟨f - 1, by omega⟩
              rw [← he]
              exact entsA_bad (by omega) (fun h => by have := (isN_iff.1 h).2; rw [hP] at this; cases this)
            obtain ⟨rfl, rfl⟩ := HNo.out hbadN
            rw [of_no hP] at hOf
            clear hbadN hP HF HK HNo HYes hrc
            go_wp2_with (first
              | ((fail_if_success (have _ := hB1)); (with_reducible refine (hOf hE0).mono ?_); rintro e w1 ⟨rfl, hB1⟩; have hE1 := bnext hE0 hB1)
              | ((fail_if_success (have _ := hXp2)); (have _ := hB1); (refine at_alloc_po (by rfl) (by rfl) ?_); intro W2 hXp2 hB2 hz2)
              | ((fail_if_success (have _ := hXp3)); (have _ := hXp2); (refine at_store_po _ _ _ _ _ (by rfl) (by rfl) (by rfl) hXp2 rfl (by rfl) ?_); intro W3 hXp3 hg3 hz3; have hB3 := bnext hB1 (hB2.grown hg3 hB2.size (by simp)); have hXr3 := hXr0.below hB3; have hC3 := bnext hC0 hB3)
              | ((fail_if_success (have _ := hXz)); (have _ := hXp3); (refine at_build_bzero (by rfl) (by rfl) ?_))
              | ((fail_if_success (have _ := hXz)); (have _ := hXp3); (refine at_store_bk _ _ _ _ _ (by rfl) (by rfl) (by rfl) hXr3 rfl (by rfl) ?_); intro W9 hXz hg9 hz9))
            refine ret_bk2 (by rfl) rfl _ _ rfl hXz ⟨_, rfl, IsB.zero _, hC3.grown hg9 hC3.size (by simp)⟩
          | true =>
            obtain ⟨v, hv⟩ : ∃ v, (L.drop k).getD 10 0 = v := ⟨_, rfl⟩
            obtain ⟨pp, hpp⟩ : ∃ pp, asP ((L.drop k).take 10) = pp := ⟨_, rfl⟩
            have hN : isN (L.drop k) = true := isN_iff.2 ⟨by omega, hP⟩
            have hasN : asN ((L.drop k).take 11) = ⟨pp, v⟩ := by rw [as_eleven, hv, hpp]
            have HF2 : Hid (∃ f, (L.drop (k + 11)).length ≤ f ∧ entsA f (L.drop (k + 11)) (out ++ [⟨pp, v⟩]) = entsO (L.drop 1)) := by
              obtain ⟨f, hf, he⟩ := HF.out
              obtain ⟨f', rfl⟩ : ∃ f', f = f' + 1 := ⟨f - 1, by omega⟩
              refine ⟨f', by rw [List.length_drop, HM.out]; omega, ?_⟩
              rw [← he, entsA_good (by omega) hN, hasN, List.drop_drop]
            have HK2 : Hid (∀ e ∈ out ++ [(⟨pp, v⟩ : En)], EnOk e) := fun e he => by
              rcases List.mem_append.1 he with he | he
              · exact HK.out e he
              · rw [List.mem_singleton.1 he, ← hasN]
                exact (asN_ok hN (fun x hx => HW.out x (List.mem_of_mem_drop hx))).1
            rw [(of_yes hP).1, (of_yes hP).2, hpp] at hOf
            have hcl2 : u2.cell? ⟨g0, o0 + (k + 10), none⟩ = some (.int .u64 v) := by
              have := hcl (k + 10) (by have := HM.out; omega)
              rw [this, ← hv]
              simp [List.getD]
            have hi1 : (k : Int) + 10 < (M : Int) := by omega
            have htn : ((k : Int) + 10).toNat = k + 10 := by omega
            clear hP hN hasN HF HK hv hpp HNo HYes hrc hr10
            go_wp2_with (first
              | ((fail_if_success (have _ := hB1)); (with_reducible refine (hOf hE0).mono ?_); rintro e w1 ⟨rfl, hB1⟩; have hE1 := bnext hE0 hB1)
              | ((fail_if_success (have _ := hXp2)); (have _ := hB1); (refine at_alloc_po (by rfl) (by rfl) ?_); intro W2 hXp2 hB2 hz2)
              | ((fail_if_success (have _ := hXp3)); (have _ := hXp2); (refine at_store_po _ _ _ _ _ (by rfl) (by rfl) (by rfl) hXp2 rfl (by rfl) ?_); intro W3 hXp3 hg3 hz3; have hB3 := bnext hB1 (hB2.grown hg3 hB2.size (by simp)); have hXo3 := hXo0.below hB3; have hO3 := hO0.below hB3; have hE3 := bnext hE0 hB3))
            have hu3 : u2.heap.size < w1.heap.size := Nat.lt_of_lt_of_le hXo0.lt hB1.size
            have hltE : ∀ {W' : World}, EO u2.heap.size W' (.slice q' n' c') out → ∀ g, (Value.slice q' n' c').ownBlock = some g → u2.heap.size ≤ g := fun h g hg => by unfold EO at h; exact (World.ownsRow.lt h g hg).1
            refine Inv.region_invB (fun L a w' => ∃ (gS : Nat) (q6 : Option Addr) (c6 : Nat), a = { tmps := #[(Value.slice p n c), undef, (Value.pointer (some { block := w.heap.size, off := 0 })), (u3), (Value.slice (some { block := g0, off := o0 }) M c3), (Value.int IntKind.i64 0), (Value.pointer (some { block := u2.heap.size, off := 0 })), (Value.int IntKind.i64 ↑k), (Value.pointer (some { block := w1.heap.size, off := 0 })), (Value.int IntKind.i64 0), (Value.tuple #[Value.slice (some { block := g0, off := o0 }) M c3, Value.int IntKind.i64 0]), (Value.slice p n c), (Value.tuple #[Value.slice (some { block := g0, off := o0 }) M c3, Value.int IntKind.i64 0]), (Value.slice (some { block := g0, off := o0 }) M c3), (Value.int IntKind.i64 0), (Value.int IntKind.i64 0), (Value.bool false), (Value.bool false), (Value.slice (some { block := g0, off := o0 }) M c3), (Value.int IntKind.i64 ↑M), (Value.bool false), (Value.bool false), undef, (Value.slice (some { block := g0, off := o0 }) M c3), (Value.pointer (some { block := g0, off := o0 })), (Value.int IntKind.u64 x0), (bv { t := x0, q := none, n := 0, c := 0 }), (Value.int IntKind.i64 ↑k), (Value.int IntKind.i64 (↑k + 11)), (Value.slice (some { block := g0, off := o0 }) M c3), (Value.int IntKind.i64 ↑M), (Value.bool true), (u32), (u33), (Value.tuple #[pv pp, Value.int IntKind.i64 0]), (Value.slice (some { block := g0, off := o0 }) M c3), (Value.int IntKind.i64 ↑k), (Value.int IntKind.i64 ↑k), (Value.int IntKind.i64 (↑k + 10)), (Value.slice (cutP (some { block := g0, off := o0 }) c3 k) 10 (c3 - k)), (Value.tuple #[pv pp, Value.int IntKind.i64 0]), (pv pp), (Value.int IntKind.i64 0), (Value.int IntKind.i64 0), (Value.bool false), (u45), (if L 0 = true then (.pointer (some ⟨u2.heap.size, 1, none⟩)) else (u46)), (if L 1 = true then (.slice q' n' c') else (u47)), (if L 2 = true then (pv pp) else (u48)), (if L 3 = true then (Value.slice (some { block := g0, off := o0 }) M c3) else (u49)), (if L 4 = true then (Value.int IntKind.i64 ↑k) else (u50)), (if L 5 = true then (.int .i64 ((k : Int) + 10)) else (u51)), (if L 6 = true then (.pointer (some ⟨g0, o0 + (k + 10), none⟩)) else (u52)), (if L 7 = true then (.int .u64 v) else (u53)), (if L 8 = true then (nv (⟨pp, v⟩ : En)) else (u54)), (if L 9 = true then (.slice (some ⟨gS, 0, none⟩) 1 1) else (u55)), (if L 10 = true then (.slice q6 (out ++ [(⟨pp, v⟩ : En)]).length c6) else (u56)), (if L 11 = true then (.pointer (some ⟨u2.heap.size, 1, none⟩)) else (u57)), undef, undef, undef, undef, undef, undef, undef, undef, undef, undef, undef], defers := [] } ∧ (Below u2.heap.size u2 w' ∧ Blk w' w1.heap.size 47 (pl pp) ∧ Blk w' u2.heap.size 25 (bl (if L 12 = true then ⟨x0, q6, (out ++ [(⟨pp, v⟩ : En)]).length, c6⟩ else ⟨x0, q', n', c'⟩)) ∧ (L 10 = false → EO u2.heap.size w' (.slice q' n' c') out) ∧ (L 10 = true → EO u2.heap.size w' (.slice q6 (out ++ [(⟨pp, v⟩ : En)]).length c6) (out ++ [(⟨pp, v⟩ : En)])) ∧ (L 9 = true → L 10 = false → RK nl w' (some ⟨gS, 0, none⟩) 1 [(⟨pp, v⟩ : En)]) ∧ (L 10 = true → L 9 = true) ∧ (L 12 = true → L 10 = true) ∧ (L 12 = true → L 1 = true))) (by kernel_rfl) (by kernel_rfl) ?h011 ?step11 ?done11
            case h011 => exact ⟨0, none, 0, by simp, hE3.drew, hXp3.drew, by simpa using hXo3.drew, fun _ => hO3.below ((Below.refl _ _).drew), by simp, by simp, by simp, by simp, by simp⟩
            case step11 =>
              refine Inv.Steps.cons rfl ?_ ?_
              · intro L a w' hI hL hd K hK
                obtain ⟨gS, q6, c6, rfl, hI⟩ := hI
                clear hd
                rw [if_pos (by rfl)]
                go_simp
                exact hK.out _ _ ⟨gS, q6, c6, by simp, by simpa using hI⟩
              refine Inv.Steps.cons rfl ?_ ?_
              · intro L a w' hI hL hd K hK
                obtain ⟨gS, q6, c6, rfl, hI⟩ := hI
                simp [Region.binds] at hd
                simp only [hd, if_true]
                rw [if_pos (by rfl)]
                have h12 : L 12 = false := Bool.eq_false_iff.2 fun h => absurd (hI.2.2.2.2.2.2.2.2 h) (by simp [hL])
                have hb5 := hI.2.2.1
                rw [h12] at hb5
                simp only [Bool.false_eq_true, if_false] at hb5
                have cO := hb5.cell 1
                simp only [bl, List.getElem?_cons_succ, List.getElem?_cons_zero] at cO
                go_simp
                exact hK.out _ _ ⟨gS, q6, c6, by simp [hd], hI.1, hI.2.1, by simpa using hI.2.2.1, by simpa using hI.2.2.2.1, by simpa using hI.2.2.2.2.1, by simpa using hI.2.2.2.2.2.1, by simpa using hI.2.2.2.2.2.2.1, by simpa using hI.2.2.2.2.2.2.2.1, fun _ => by simp⟩
              refine Inv.Steps.cons rfl ?_ ?_
              · intro L a w' hI hL hd K hK
                obtain ⟨gS, q6, c6, rfl, hI⟩ := hI
                clear hd
                rw [if_pos (by rfl)]
                refine wp_load_po _ _ _ (by rfl) (by rfl) (hI.2.1) ?_
                exact hK.out _ _ ⟨gS, q6, c6, by simp [Act.put], by simpa using hI⟩
              refine Inv.Steps.cons rfl ?_ ?_
              · intro L a w' hI hL hd K hK
                obtain ⟨gS, q6, c6, rfl, hI⟩ := hI
                clear hd
                rw [if_pos (by rfl)]
                go_simp
                exact hK.out _ _ ⟨gS, q6, c6, by simp, by simpa using hI⟩
              refine Inv.Steps.cons rfl ?_ ?_
              · intro L a w' hI hL hd K hK
                obtain ⟨gS, q6, c6, rfl, hI⟩ := hI
                clear hd
                rw [if_pos (by rfl)]
                go_simp
                exact hK.out _ _ ⟨gS, q6, c6, by simp, by simpa using hI⟩
              refine Inv.Steps.cons rfl ?_ ?_
              · intro L a w' hI hL hd K hK
                obtain ⟨gS, q6, c6, rfl, hI⟩ := hI
                simp [Region.binds] at hd
                simp only [hd, if_true]
                rw [if_pos (by rfl)]
                go_simp
                exact hK.out _ _ ⟨gS, q6, c6, by simp [hd], by simpa using hI⟩
              refine Inv.Steps.cons rfl ?_ ?_
              · intro L a w' hI hL hd K hK
                obtain ⟨gS, q6, c6, rfl, hI⟩ := hI
                simp [Region.binds] at hd
                simp only [hd, if_true]
                rw [if_pos (by rfl)]
                go_simp
                exact hK.out _ _ ⟨gS, q6, c6, by simp [hd, Act.put], by simpa using hI⟩
              refine Inv.Steps.cons rfl ?_ ?_
              · intro L a w' hI hL hd K hK
                obtain ⟨gS, q6, c6, rfl, hI⟩ := hI
                simp [Region.binds] at hd
                simp only [hd, if_true]
                rw [if_pos (by rfl)]
                have cZ : w'.cell? ⟨g0, o0 + (k + 10), none⟩ = some (.int .u64 v) := ((hI.1).cell (World.block_lt_of_cell? _ _ hcl2)).trans hcl2
                go_simp
                exact hK.out _ _ ⟨gS, q6, c6, by simp [hd], by simpa using hI⟩
              refine Inv.Steps.cons rfl ?_ ?_
              · intro L a w' hI hL hd K hK
                obtain ⟨gS, q6, c6, rfl, hI⟩ := hI
                simp [Region.binds] at hd
                simp only [hd, if_true]
                rw [if_pos (by rfl)]
                refine wp_build_nboth _ _ _ _ (by rfl) (by rfl) (by rfl) ?_
                exact hK.out _ _ ⟨gS, q6, c6, by simp [hd, Act.put], by simpa using hI⟩
              refine Inv.Steps.cons rfl ?_ ?_
              · intro L a w' hI hL hd K hK
                obtain ⟨gS, q6, c6, rfl, hI⟩ := hI
                simp [Region.binds] at hd
                simp only [hd, if_true]
                rw [if_pos (by rfl)]
                have h10 : L 10 = false := Bool.eq_false_iff.2 fun h => absurd (hI.2.2.2.2.2.2.1 h) (by simp [hL])
                have h12 : L 12 = false := Bool.eq_false_iff.2 fun h => absurd (hI.2.2.2.2.2.2.2.1 h) (by simp [h10])
                have hb5 := hI.2.2.1
                rw [h12] at hb5
                simp only [Bool.false_eq_true, if_false] at hb5
                have hbn := bnew w' (.cells ([(⟨pp, v⟩ : En)].flatMap nl).toArray 49)
                refine wp_run (Instr.buildSlice 23 1 #[(0, nv (⟨pp, v⟩ : En))]) (by simp [execOp]; rfl) (run_ent1 (⟨pp, v⟩ : En) w') ?_
                exact hK.out _ _ ⟨w'.heap.size, q6, c6, by simp [hd, h10, Act.put], bnext (hI.1) hbn, (hI.2.1).below hbn, by simpa [h12] using hb5.below hbn, fun _ => (hI.2.2.2.1 h10).below hbn, fun h => by simp [h10] at h, fun _ _ => lit_ents w' (⟨pp, v⟩ : En), fun _ => by simp, fun h => by simp [h12] at h, fun h => by simp [h12] at h⟩
              refine Inv.Steps.cons rfl ?_ ?_
              · intro L a w' hI hL hd K hK
                obtain ⟨gS, q6, c6, rfl, hI⟩ := hI
                simp [Region.binds] at hd
                simp only [hd, if_true]
                rw [if_pos (by rfl)]
                have h12 : L 12 = false := Bool.eq_false_iff.2 fun h => absurd (hI.2.2.2.2.2.2.2.1 h) (by simp [hL])
                have hb5 := hI.2.2.1
                rw [h12] at hb5
                simp only [Bool.false_eq_true, if_false] at hb5
                have hO5 := hI.2.2.2.1 hL
                have r6 := hI.2.2.2.2.2.1 (by simp [hd]) hL
                refine wp_append_en _ _ (by rfl) u2.heap.size (.slice q' n' c') out (by rfl) hO5 _ 1 1 [(⟨pp, v⟩ : En)] (by rfl) rfl r6 (by omega) (hI.1).size ?_
                intro v6 w6 ho6 hg6 _
                obtain ⟨q5, c5, rfl, -, -⟩ := ho6.shape
                exact hK.out _ _ ⟨gS, q5, c5, by simp [hd, Act.put], (hI.1).grown hg6 (hI.1).size (hltE hO5), (hI.2.1).kept hg6 (hO5.ne (hI.2.1) (by decide)), by simpa [h12] using hb5.kept hg6 (hO5.ne hb5 (by decide)), fun h => by simp at h, fun _ => ho6, fun _ h => by simp at h, fun _ => by simp [hd], fun h => by simp [h12] at h, fun h => by simp [h12] at h⟩
              refine Inv.Steps.cons rfl ?_ ?_
              · intro L a w' hI hL hd K hK
                obtain ⟨gS, q6, c6, rfl, hI⟩ := hI
                simp [Region.binds] at hd
                simp only [hd, if_true]
                rw [if_pos (by rfl)]
                go_simp
                exact hK.out _ _ ⟨gS, q6, c6, by simp [hd], by simpa using hI⟩
              refine Inv.Steps.cons rfl ?_ ?_
              · intro L a w' hI hL hd K hK
                obtain ⟨gS, q6, c6, rfl, hI⟩ := hI
                simp [Region.binds] at hd
                simp only [hd, if_true]
                rw [if_pos (by rfl)]
                have e10 : L 10 = true := by simp [hd]
                have hO8 := hI.2.2.2.2.1 e10
                have hb5 := hI.2.2.1
                rw [hL] at hb5
                simp only [Bool.false_eq_true, if_false] at hb5
                refine wp_put_ents8 _ _ u2.heap.size 1 _ _ q6 (out ++ [(⟨pp, v⟩ : En)]).length c6 (by rfl) (by rfl) (by rfl) hb5 (by simp [bl]) ?_
                intro w6 hX6 hg6 hz6
                exact hK.out _ _ ⟨gS, q6, c6, by simp [hd, Act.put], (hI.1).grown hg6 (hI.1).size (fun j hj => by obtain rfl := Option.some.inj hj; exact Nat.le_refl _), (hI.2.1).kept hg6 (by simp; omega), by simpa [bl] using hX6, fun h => absurd h (by simp [e10]), fun _ => hO8.off hb5 (by decide) hg6, fun _ h => absurd h (by simp [e10]), fun _ => by simp [hd], fun _ => by simp [hd], fun _ => by simp [hd]⟩
              exact Inv.Steps.nil (by decide)
            case done11 =>
              intro L a w' hI hall
              obtain ⟨gS, q6, c6, rfl, hI⟩ := hI
              simp only [hall, if_true] at hI ⊢
              have hEW := hI.1
              have hXW := hI.2.2.1
              have hOW := hI.2.2.2.2.1 trivial
              clear hI hall hE3 hO3 hXo3 hXp3
              go_wp2
              go_roundw
              case rel => exact ⟨k + 11, out ++ [(⟨pp, v⟩ : En)], q6, (out ++ [(⟨pp, v⟩ : En)]).length, c6, by omega, by omega, by simp, hEW, hXW, hOW, HF2, HK2, by simp; omega⟩
              case measure => simp [intOf]; omega
        · have d1 : decide ((k : Int) + 11 ≤ (M : Int)) = false := decide_eq_false (by omega)
          by_cases hkm : k = M
          · subst hkm
            have dm : ((k : Int) != (k : Int)) = false := by simp
            have hes : entsO (L.drop 1) = some out := by
              obtain ⟨f, hf, he⟩ := HF.out
              rw [← he, List.eq_nil_of_length_eq_zero (show (L.drop k).length = 0 by omega), entsA_nil]
            obtain ⟨Y1, Y2⟩ := HYes.out out hes
            have hRt := fun (W : World) (hO : EO u2.heap.size W (.slice q' n' c') out) => ref_RightB ⟨x0, q', n', c'⟩ ⟨x0, out⟩ W (isb_own hO).1 HK.out (by have := hO.is.1; simp only; omega)
            cases hr : rightB ⟨x0, out⟩ with
            | true =>
              obtain ⟨rfl, rfl⟩ := Y1 hr
              rw [hr] at hRt
              clear hr hes HF HK HNo HYes Y1 Y2
              go_wp2_with (first
                | ((fail_if_success (have _ := hB1)); (refine at_load_bk _ _ _ (by rfl) (by rfl) hXo0 (by rfl) ?_))
                | ((fail_if_success (have _ := hB1)); (with_reducible refine (hRt _ hO0).mono ?_); rintro e w1 ⟨rfl, hB1⟩; have hXo1 := hXo0.below hB1; have hO1 := hO0.below hB1; have hXr1 := hXr0.below hB1; have hC1 := bnext hC0 hB1)
                | ((fail_if_success (have _ := hXz)); (have _ := hB1); (refine at_load_bk _ _ _ (by rfl) (by rfl) hXo1 (by rfl) ?_))
                | ((fail_if_success (have _ := hXz)); (have _ := hB1); (refine at_store_bk _ _ _ _ _ (by rfl) (by rfl) (by rfl) hXr1 rfl (by rfl) ?_); intro W9 hXz hg9 hz9; have hOz := hO1.off hXr1 (by decide) hg9))
              refine ret_bk2 (by rfl) rfl _ _ rfl hXz ⟨_, rfl, (isb_own hOz).1, hC1.grown hg9 hC1.size (by simp)⟩
            | false =>
              obtain ⟨rfl, rfl⟩ := Y2 hr
              rw [hr] at hRt
              clear hr hes HF HK HNo HYes Y1 Y2
              go_wp2_with (first
                | ((fail_if_success (have _ := hB1)); (refine at_load_bk _ _ _ (by rfl) (by rfl) hXo0 (by rfl) ?_))
                | ((fail_if_success (have _ := hB1)); (with_reducible refine (hRt _ hO0).mono ?_); rintro e w1 ⟨rfl, hB1⟩; have hXr1 := hXr0.below hB1; have hC1 := bnext hC0 hB1)
                | ((fail_if_success (have _ := hXz)); (have _ := hB1); (refine at_build_bzero (by rfl) (by rfl) ?_))
                | ((fail_if_success (have _ := hXz)); (have _ := hB1); (refine at_store_bk _ _ _ _ _ (by rfl) (by rfl) (by rfl) hXr1 rfl (by rfl) ?_); intro W9 hXz hg9 hz9))
              refine ret_bk2 (by rfl) rfl _ _ rfl hXz ⟨_, rfl, IsB.zero _, hC1.grown hg9 hC1.size (by simp)⟩
          · have dm : ((k : Int) != (M : Int)) = true := by simp; omega
            have hbadN : entsO (L.drop 1) = none := by
              obtain ⟨f, hf, he⟩ := HF.out
              obtain ⟨f', rfl⟩ : ∃ f', f = f' + 1 := ⟨f - 1, by omega⟩
              rw [← he]
              exact entsA_bad (by omega) (fun h => by have := (isN_iff.1 h).1; omega)
            obtain ⟨rfl, rfl⟩ := HNo.out hbadN
            clear hbadN HF HK HNo HYes
            go_wp2_with (first
              | ((fail_if_success (have _ := hXz)); (refine at_build_bzero (by rfl) (by rfl) ?_))
              | ((fail_if_success (have _ := hXz)); (refine at_store_bk _ _ _ _ _ (by rfl) (by rfl) (by rfl) hXr0 rfl (by rfl) ?_); intro V9 hXz hg9 hz9))
            refine ret_bk2 (by rfl) rfl _ _ rfl hXz ⟨_, rfl, IsB.zero _, hC0.grown hg9 hC0.size (by simp)⟩
end Go.Proofs.Ytnaofcggdjbocaa.Book
