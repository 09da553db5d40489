/-
  The event of bytes, in the document's words: floodgateref12.Read. (Written by gen_evrread.py.)
-/
import Derived.Test.YtfgndecnakfhnaaEvRdPlain
import Derived.Test.YtfgndecnakfhnaaEvApart
namespace Go.Proofs.Ytfgndecnakfhnaa.Event
open Go.RowKit Go.Proofs.Ytfgndecnakfhnaa.Mem Go.Proofs.Ytfgndecnakfhnaa.Policy
set_option maxRecDepth 100000

theorem run_part_u (w : World) (p : Option Addr) (n cap l h : Nat) (hl : l ≤ h) (hh : h ≤ cap) :
    (Instr.slice 43 (.slice p n cap) (some (.int .i64 (l : Int))) (some (.int .i64 (h : Int))) none).run Try.prog w = .ok (.slice (cutP p cap l) (h - l) (cap - l)) w := by
  have ht : Try.prog.underlying 43 = some (.slice (Try.prog.elem 43)) := by simp [Program.elem, Try.underlying43]
  have he : Try.prog.elem 43 = 28 := by simp [Program.elem, Try.underlying43]
  rw [run_slice_lh w 43 p n cap ht .i64 .i64 (l : Int) (h : Int) (by omega) (by omega) (by omega), he, Try.sizeOf28]
  simp [Result.andThen, sliced, cutP]
theorem own_kept {w w' : World} {B n s g : Nat} {e : TypeId} {v : Value} {xs : List Value} (h : w.ownsRow B e s v n xs) (hg : w.grownBy w' (some g)) (hB : g < B) : w'.ownsRow B e s v n xs := by
  refine ⟨h.1, ?_⟩
  rcases h.2 with h0 | ⟨b, cap, cur, hv, hb, hh, r⟩
  · exact .inl h0
  · exact .inr ⟨b, cap, cur, hv, hb, (hg.block b (Array.getElem?_eq_some_iff.1 hh).1 (by simp; omega)).trans hh, r⟩
theorem reads_kept {k : IntKind} {w w' : World} {p : Option Addr} {cap : Nat} {zs : List Int} {row : Option Nat} (h : Reads k w p cap zs) (hg : w.grownBy w' row) (hne : 0 < zs.length → ∀ a, p = some a → some a.block ≠ row) : Reads k w' p cap zs := by
  obtain ⟨h1, h2, h3, h4⟩ := h
  refine ⟨h1, h2, h3, fun hz => ?_⟩
  obtain ⟨b, o, e, hlt, hc⟩ := h4 hz
  exact ⟨b, o, e, Nat.lt_of_lt_of_le hlt hg.size, fun i hi => hg.cell (hc i hi) (show some b ≠ row from hne hz ⟨b, o, none⟩ e)⟩
set_option maxHeartbeats 4000000 in
theorem ref_ReadE (p : Option Addr) (n c : Nat) (bs : List Int) (hn : bs.length = n) (hnb : n ≤ 2000) (hb : ∀ c ∈ bs, Byte c) (w : World) (r : Reads .u8 w p c bs) :
    Calls Try.prog 18 #[.slice p n c] w fun x w' => ∃ h, x = .returned (.tuple #[ev h, .int .i64 (rdErr bs)]) ∧ Is w' h (rdEv bs) ∧ Fresh w.heap.size h ∧ Below w.heap.size w w' := by
  have hA := fun {W : World} (hb' : Below w.heap.size w W) => Leb.refAll_any p n c bs hn hnb hb W (r.below hb')
  have hcv := fun {W : World} (hb' : Below w.heap.size w W) => conv (r.below hb') hn
  obtain ⟨RE, hRE⟩ : ∃ RE, RE = rdEv bs := ⟨_, rfl⟩
  obtain ⟨RN, hRN⟩ : ∃ RN, RN = rdErr bs := ⟨_, rfl⟩
  rw [← hRE, ← hRN]
  have HRE : Hid (RE = rdEv bs) := hRE
  have HRN : Hid (RN = rdErr bs) := hRN
  obtain ⟨l, E, hlE⟩ : ∃ l E, Leb.lall bs = (l, E) := ⟨_, _, rfl⟩
  have hbk : (l = [] ∧ E = 21) ∨ (E = 0 ∧ (∀ x ∈ l, Word x) ∧ l.length ≤ 128) := by
    rcases Leb.lall_back bs with h | ⟨m, h, -, h1, h2⟩
    · rw [hlE] at h; simp only [Prod.mk.injEq] at h; exact .inl h
    · rw [hlE] at h; simp only [Prod.mk.injEq] at h; rw [h.1]; exact .inr ⟨h.2, h1, h2⟩
  rw [hlE] at hA
  simp only at hA
  have HL : Hid (Leb.lall bs = (l, E)) := hlE
  clear hn r hRE hRN hlE
  rcases hbk with ⟨rfl, rfl⟩ | ⟨rfl, hw, h128⟩
  · have hRO : readO bs = none := by unfold readO; rw [HL.out, if_neg (by rintro ⟨h, -⟩; cases h)]
    obtain ⟨n1, n2⟩ := rd_none hRO
    obtain rfl : RE = zeroE := HRE.out.trans n1
    obtain rfl : RN = 121 := HRN.out.trans n2
    clear n1 n2 hRO
    go_enter Try.func18, Try.ntmps18
    go_wp2_with (first
      | ((fail_if_success (have _ := hX1)); (refine at_alloc_ev (by rfl) (by rfl) ?_); intro V1 hX1 hB1 hz1)
      | ((fail_if_success (have _ := hB3)); (have _ := hX1); (with_reducible refine (hA hB1).mono ?_); rintro e w3 ⟨q3, c3, rfl, r3, hB3⟩; have hX3 := hX1.below hB3; have hB13 := bnext hB1 hB3)
      | ((fail_if_success (have _ := hXf)); (have _ := hB3); (refine at_build_zero (by rfl) (by rfl) ?_))
      | ((fail_if_success (have _ := hXf)); (have _ := hB3); (refine at_store_ev _ _ _ _ _ (by rfl) (by rfl) (by rfl) hX3 rfl (by rfl) ?_); intro Vf hXf hgf hzf))
    refine ret_ev2 (by rfl) rfl _ _ rfl hXf ⟨_, rfl, Is.zero _, zero_fresh _, hB13.grown hgf hB13.size (by simp)⟩
  · by_cases h2 : 2 ≤ l.length
    · obtain ⟨x0, x1, rest, rfl⟩ := two_of h2
      obtain ⟨m, hm⟩ : ∃ m, rest.length = m := ⟨_, rfl⟩
      have hml : (x0 :: x1 :: rest).length = m + 2 := by simp [hm]
      rw [hml] at hA h128
      have hmH : Hid (rest.length = m) := hm
      have z2 : decide ((m : Int) + 2 < 2) = false := decide_eq_false (by omega)
      have z0 : (0 : Int) < (m : Int) + 2 := by omega
      have z1 : (1 : Int) < (m : Int) + 2 := by omega
      have w0 : Word x0 := hw x0 (by simp)
      have w1 : Word x1 := hw x1 (by simp)
      have hwr : Hid (∀ x ∈ rest, Word x) := fun x hx => hw x (by simp [hx])
      clear hw h2 hml hm
      by_cases h3 : 3 < x0
      · have hRO : readO bs = none := none_kind HL.out (.inr h3)
        obtain ⟨n1, n2⟩ := rd_none hRO
        obtain rfl : RE = zeroE := HRE.out.trans n1
        obtain rfl : RN = 121 := HRN.out.trans n2
        clear n1 n2 hRO
        go_enter Try.func18, Try.ntmps18
        go_wp2_with (first
          | ((fail_if_success (have _ := hX1)); (refine at_alloc_ev (by rfl) (by rfl) ?_); intro V1 hX1 hB1 hz1)
          | ((fail_if_success (have _ := hB3)); (have _ := hX1); (with_reducible refine (hA hB1).mono ?_); rintro e w3 ⟨q3, c3, rfl, r3, hB3⟩; have hX3 := hX1.below hB3; have hB13 := bnext hB1 hB3; have hV1 : w.heap.size < w3.heap.size := (by have := hB3.size; have := hz1.out; omega); obtain ⟨b0, o0, rfl, hbl, hcl⟩ := r3.2.2.2 (by simp); have kc := fun {W : World} (hb : Below w3.heap.size w3 W) (i : Nat) (hi : i < m + 2) => (hb.cell (p := ⟨b0, o0 + i, none⟩) hbl).trans (hcl i (by have := hmH.out; (try simp only [List.length_cons, List.length_nil] at this); simp only [List.length_cons]; (try simp only [List.length_nil]); omega)); have hc0 := kc (Below.refl _ _) 0 (by omega); simp only [Nat.add_zero, List.getD_cons_zero] at hc0)
          | ((fail_if_success (have _ := hXf)); (have _ := hB3); (refine at_build_zero (by rfl) (by rfl) ?_))
          | ((fail_if_success (have _ := hXf)); (have _ := hB3); (refine at_store_ev _ _ _ _ _ (by rfl) (by rfl) (by rfl) hX3 rfl (by rfl) ?_); intro Vf hXf hgf hzf))
        refine ret_ev2 (by rfl) rfl _ _ rfl hXf ⟨_, rfl, Is.zero _, zero_fresh _, hB13.grown hgf hB13.size (by simp)⟩
      · have h3b : decide (3 < x0) = false := decide_eq_false h3
        have hx4 : x0 = 0 ∨ x0 = 1 ∨ x0 = 2 ∨ x0 = 3 := by have := w0.1; omega
        clear h3 w0
        rcases hx4 with rfl | rfl | rfl | rfl
        · have hRO : readO bs = none := none_kind HL.out (.inl (by omega))
          obtain ⟨n1, n2⟩ := rd_none hRO
          obtain rfl : RE = zeroE := HRE.out.trans n1
          obtain rfl : RN = 121 := HRN.out.trans n2
          clear n1 n2 hRO
          have f1 : bytesE zeroE = [] ∧ errE zeroE = 121 := by decide +kernel
          have hRBy := fun {W : World} => ref_BytesE zeroH zeroE W (Is.zero W) (by simp [zeroE]) (by decide) (by decide)
          rw [f1.1, f1.2] at hRBy
          clear f1
          go_enter Try.func18, Try.ntmps18
          go_wp2_with (first
            | ((fail_if_success (have _ := hX1)); (refine at_alloc_ev (by rfl) (by rfl) ?_); intro V1 hX1 hB1 hz1)
            | ((fail_if_success (have _ := hB3)); (have _ := hX1); (with_reducible refine (hA hB1).mono ?_); rintro e w3 ⟨q3, c3, rfl, r3, hB3⟩; have hX3 := hX1.below hB3; have hB13 := bnext hB1 hB3; have hV1 : w.heap.size < w3.heap.size := (by have := hB3.size; have := hz1.out; omega); obtain ⟨b0, o0, rfl, hbl, hcl⟩ := r3.2.2.2 (by simp); have kc := fun {W : World} (hb : Below w3.heap.size w3 W) (i : Nat) (hi : i < m + 2) => (hb.cell (p := ⟨b0, o0 + i, none⟩) hbl).trans (hcl i (by have := hmH.out; (try simp only [List.length_cons, List.length_nil] at this); simp only [List.length_cons]; (try simp only [List.length_nil]); omega)); have hc0 := kc (Below.refl _ _) 0 (by omega); simp only [Nat.add_zero, List.getD_cons_zero] at hc0)
            | ((fail_if_success (have _ := hY4)); (have _ := hB3); (refine at_build_kind _ 0 (by rfl) (by rfl) (by rfl) ?_))
            | ((fail_if_success (have _ := hY4)); (have _ := hB3); (refine at_alloc_ev (by rfl) (by rfl) ?_); intro V4 hY4 hB4 hz4)
            | ((fail_if_success (have _ := hY5)); (have _ := hY4); (refine at_store_ev _ _ _ _ _ (by rfl) (by rfl) (by rfl) hY4 rfl (by rfl) ?_); intro V5 hY5 hg5 hz5; have hB5 := hB4.grown hg5 hB4.size (by simp); have hX5 := hX3.below hB5; have hB15 := bnext hB13 hB5; have hc5 := cells6 hY5; have hc50 := kc hB5 0 (by omega); have hc51 := kc hB5 1 (by omega); simp only [Nat.add_zero, List.getD_cons_zero, List.getD_cons_succ] at hc5 hc50 hc51)
            | ((fail_if_success (have _ := hB8)); (have _ := hY5); (refine at_load_ev _ _ zeroH (by rfl) (by rfl) hY5 (by rfl) ?_))
            | ((fail_if_success (have _ := hB8)); (have _ := hY5); (with_reducible refine hRBy.mono ?_); rintro e8 w8 ⟨q8, c8, rfl, r8, hB8⟩; have hX8 := hX5.below hB8; have hBw8 := bnext hB15 hB8)
            | ((fail_if_success (have _ := hXf)); (have _ := hB8); (refine at_build_zero (by rfl) (by rfl) ?_))
            | ((fail_if_success (have _ := hXf)); (have _ := hB8); (refine at_store_ev _ _ _ _ _ (by rfl) (by rfl) (by rfl) hX8 rfl (by rfl) ?_); intro Vf hXf hgf hzf))
          refine ret_ev2 (by rfl) rfl _ _ rfl hXf ⟨_, rfl, Is.zero _, zero_fresh _, hBw8.grown hgf hBw8.size (by simp)⟩
        · go_enter Try.func18, Try.ntmps18
          go_wp2_with (first
            | ((fail_if_success (have _ := hX1)); (refine at_alloc_ev (by rfl) (by rfl) ?_); intro V1 hX1 hB1 hz1)
            | ((fail_if_success (have _ := hB3)); (have _ := hX1); (with_reducible refine (hA hB1).mono ?_); rintro e w3 ⟨q3, c3, rfl, r3, hB3⟩; have hX3 := hX1.below hB3; have hB13 := bnext hB1 hB3; have hV1 : w.heap.size < w3.heap.size := (by have := hB3.size; have := hz1.out; omega); obtain ⟨b0, o0, rfl, hbl, hcl⟩ := r3.2.2.2 (by simp); have kc := fun {W : World} (hb : Below w3.heap.size w3 W) (i : Nat) (hi : i < m + 2) => (hb.cell (p := ⟨b0, o0 + i, none⟩) hbl).trans (hcl i (by have := hmH.out; (try simp only [List.length_cons, List.length_nil] at this); simp only [List.length_cons]; (try simp only [List.length_nil]); omega)); have hc0 := kc (Below.refl _ _) 0 (by omega); simp only [Nat.add_zero, List.getD_cons_zero] at hc0)
            | ((fail_if_success (have _ := hY4)); (have _ := hB3); (refine at_build_kind _ 1 (by rfl) (by rfl) (by rfl) ?_))
            | ((fail_if_success (have _ := hY4)); (have _ := hB3); (refine at_alloc_ev (by rfl) (by rfl) ?_); intro V4 hY4 hB4 hz4)
            | ((fail_if_success (have _ := hY5)); (have _ := hY4); (refine at_store_ev _ _ _ _ _ (by rfl) (by rfl) (by rfl) hY4 rfl (by rfl) ?_); intro V5 hY5 hg5 hz5; have hB5 := hB4.grown hg5 hB4.size (by simp); have hX5 := hX3.below hB5; have hB15 := bnext hB13 hB5; have hc5 := cells6 hY5; have hc50 := kc hB5 0 (by omega); have hc51 := kc hB5 1 (by omega); simp only [Nat.add_zero, List.getD_cons_zero, List.getD_cons_succ] at hc5 hc50 hc51))
          have hwI : IntKind.u64.wrap 0 = 0 := by decide
          go_loopw [7, 8] (fun v7 v8 wr => ∃ (k : Nat) (vD : Value), k ≤ m ∧ (k : Int) ≤ x1 ∧ v7 = .int .i64 ((k : Int) + 2) ∧ v8 = .int .u64 (k : Int) ∧ Below w3.heap.size w3 wr ∧ Blk wr w3.heap.size 30 [.int .i64 1, .int .i64 0, .slice none 0 0, vD, .int .u64 0, .int .u64 0] ∧ wr.ownsRow (w3.heap.size + 1) 3 1 vD (rest.take k).length ((rest.take k).map (Value.int .i64))) (fun _ v8 _ => m - (intOf v8).toNat)
          case atStart => exact ⟨0, .slice none 0 0, Nat.zero_le _, by have := w1.1; omega, by simp, by simp, hB5, hY5, World.ownsRow_nil _ _ _ _⟩
          case round =>
            obtain ⟨k, vD, hk, hkx, rfl, rfl, hBr, hY, hownD⟩ := hrel
            have hc1 := kc hBr 1 (by omega)
            simp only [List.getD_cons_zero, List.getD_cons_succ] at hc1
            by_cases hk1 : (k : Int) < x1
            · by_cases hkm : k < m
              · have hkm1 : (k : Int) + 2 < (m : Int) + 2 := by omega
                obtain ⟨x, hx⟩ : ∃ x, rest[k]? = some x := ⟨_, List.getElem?_eq_getElem (by have := hmH.out; omega)⟩
                have hcx := kc hBr (k + 2) (by omega)
                have hgx : (1 :: x1 :: rest).getD (k + 2) 0 = x := by rw [List.getD, List.getElem?_cons_succ, List.getElem?_cons_succ, hx]; rfl
                rw [hgx] at hcx
                have hkx := fun {W : World} (hb : Below w3.heap.size w3 W) => (kc hb (k + 2) (by omega)).trans (by rw [hgx])
                clear kc hcl
                have hwx := hwr.out x (List.mem_of_getElem? hx)
                by_cases h255 : 255 < x
                · have hRO : readO bs = none := none_drop HL.out hk1 hx h255
                  obtain ⟨n1, n2⟩ := rd_none hRO
                  obtain rfl : RE = zeroE := HRE.out.trans n1
                  obtain rfl : RN = 121 := HRN.out.trans n2
                  clear n1 n2 hRO
                  have hXr := hX3.below hBr
                  have hBwr := bnext hB13 hBr
                  go_wp2_with (first
                    | ((fail_if_success (have _ := hXf)); (refine at_build_zero (by rfl) (by rfl) ?_))
                    | ((fail_if_success (have _ := hXf)); (refine at_store_ev _ _ _ _ _ (by rfl) (by rfl) (by rfl) hXr rfl (by rfl) ?_); intro Vf hXf hgf hzf))
                  refine ret_ev2 (by rfl) rfl _ _ rfl hXf ⟨_, rfl, Is.zero _, zero_fresh _, hBwr.grown hgf hBwr.size (by simp)⟩
                · have h255b : decide (255 < x) = false := decide_eq_false h255
                  have hwc : IntKind.i64.wrap x = x := by have := hwx.1; rw [IntKind.wrap_i64]; omega
                  have HT : Hid (rest.take (k + 1) = rest.take k ++ [x]) := by
                    unfold Hid
                    rw [List.take_succ_eq_append_getElem (by have := hmH.out; omega), show rest[k]'(by have := hmH.out; omega) = x from by rw [List.getElem?_eq_getElem (by have := hmH.out; omega)] at hx; exact Option.some.inj hx]
                  obtain ⟨ys, hys⟩ : ∃ ys, ys = rest.take k := ⟨_, rfl⟩
                  have hlen : ys.length ≤ 1000 := by rw [hys, List.length_take]; have := hmH.out; omega
                  rw [← hys] at hownD HT
                  clear hys hx hgx hwx h255
                  go_wp2
                  refine Inv.region_inv (fun L a w' => ∃ (gS : Nat) (vN : Value), a = { tmps := #[(Value.slice p n c), undef, (Value.pointer (some { block := w.heap.size, off := 0 })), (u3), (Value.slice (some { block := b0, off := o0 }) (m + 2) c3), (Value.int IntKind.i64 0), (Value.pointer (some { block := w3.heap.size, off := 0 })), (Value.int IntKind.i64 (↑k + 2)), (Value.int IntKind.u64 ↑k), undef, undef, undef, undef, (Value.tuple #[Value.slice (some { block := b0, off := o0 }) (m + 2) c3, Value.int IntKind.i64 0]), (Value.slice p n c), (Value.tuple #[Value.slice (some { block := b0, off := o0 }) (m + 2) c3, Value.int IntKind.i64 0]), (Value.slice (some { block := b0, off := o0 }) (m + 2) c3), (Value.int IntKind.i64 0), (Value.int IntKind.i64 0), (Value.bool false), (Value.bool false), (Value.slice (some { block := b0, off := o0 }) (m + 2) c3), (Value.int IntKind.i64 (↑m + 2)), (Value.bool false), (Value.bool false), (Value.bool false), (Value.slice (some { block := b0, off := o0 }) (m + 2) c3), (Value.pointer (some { block := b0, off := o0 })), (Value.int IntKind.u64 1), (Value.bool false), (Value.bool false), undef, (Value.slice (some { block := b0, off := o0 }) (m + 2) c3), (Value.pointer (some { block := b0, off := o0 })), (Value.int IntKind.u64 1), (Value.int IntKind.i64 1), (ev { k := 1, s := 0, pp := none, pn := 0, pc := 0, dp := none, dn := 0, dc := 0, g := 0, t := 0 }), (Value.pointer (some { block := w3.heap.size, off := 0 })), (Value.int IntKind.i64 1), (Value.bool true), (Value.bool true), (Value.int IntKind.u64 ↑k), (Value.slice (some { block := b0, off := o0 }) (m + 2) c3), (Value.pointer (some { block := b0, off := o0 + 1 })), (Value.int IntKind.u64 x1), (Value.bool true), (Value.bool true), (Value.int IntKind.i64 (↑k + 2)), (Value.slice (some { block := b0, off := o0 }) (m + 2) c3), (Value.int IntKind.i64 (↑m + 2)), (Value.bool true), (Value.bool true), (u52), (u53), (Value.slice (some { block := b0, off := o0 }) (m + 2) c3), (Value.int IntKind.i64 (↑k + 2)), (Value.pointer (some { block := b0, off := o0 + (k + 2) })), (Value.int IntKind.u64 x), (Value.bool false), (u59), (if L 0 = true then (.pointer (some ⟨w3.heap.size, 3, none⟩)) else (u60)), (if L 1 = true then vD else (u61)), (if L 2 = true then (.slice (some ⟨b0, o0, none⟩) (m + 2) c3) else (u62)), (if L 3 = true then (.int .i64 ((k : Int) + 2)) else (u63)), (if L 4 = true then (.pointer (some ⟨b0, o0 + (k + 2), none⟩)) else (u64)), (if L 5 = true then (.int .u64 x) else (u65)), (if L 6 = true then (.int .i64 x) else (u66)), (if L 7 = true then (.slice (some ⟨gS, 0, none⟩) 1 1) else (u67)), (if L 8 = true then vN else (u68)), (if L 9 = true then (.pointer (some ⟨w3.heap.size, 3, none⟩)) else (u69)), (u70), (u71), undef, undef, undef, undef, undef, undef, undef, undef, undef, undef, undef, undef, undef, undef, undef, undef, undef, undef, undef, undef, undef, undef, undef, undef, undef, undef, undef, undef, undef, undef, undef, undef, undef, undef, undef, undef, undef, undef, undef, undef, undef, undef, undef, undef, undef, undef, undef, undef, undef, undef, undef, undef, undef, undef, undef, undef, undef, undef, undef, undef, undef, undef, undef, undef, undef, undef, undef, undef], defers := [] } ∧ (Below w3.heap.size w3 w' ∧ Blk w' w3.heap.size 30 [.int .i64 1, .int .i64 0, .slice none 0 0, (if L 10 = true then vN else vD), .int .u64 0, .int .u64 0] ∧ (L 8 = false → w'.ownsRow (w3.heap.size + 1) 3 1 vD (ys).length ((ys).map (Value.int .i64))) ∧ (L 8 = true → w'.ownsRow (w3.heap.size + 1) 3 1 vN (ys ++ [x]).length ((ys ++ [x]).map (Value.int .i64))) ∧ (L 7 = true → L 8 = false → Reads .i64 w' (some ⟨gS, 0, none⟩) 1 [x]) ∧ (L 7 = false → L 8 = false) ∧ (L 8 = false → L 10 = false) ∧ (L 1 = false → L 10 = false))) (by kernel_rfl) (by kernel_rfl) ?h0 ?step ?done
                  case h0 => exact ⟨0, undef, by simp, hBr.drew, by simpa using hY.drew, fun _ => hownD.drew, by simp, by simp, by simp, by simp, by simp⟩
                  case step =>
                    refine Inv.Steps.cons rfl ?_ ?_
                    · intro L a w' hI hL hd K hK
                      obtain ⟨gS, vN, rfl, hI⟩ := hI
                      clear hd
                      rw [if_pos (by rfl)]
                      go_simp
                      exact hK.out _ _ ⟨gS, vN, by simp, by simpa using hI.1, by simpa using hI.2.1, by simpa using hI.2.2.1, by simpa using hI.2.2.2.1, by simpa using hI.2.2.2.2.1, by simpa using hI.2.2.2.2.2.1, by simpa using hI.2.2.2.2.2.2.1, by simpa using hI.2.2.2.2.2.2.2⟩
                    refine Inv.Steps.cons rfl ?_ ?_
                    · intro L a w' hI hL hd K hK
                      obtain ⟨gS, vN, rfl, hI⟩ := hI
                      simp [Region.binds] at hd
                      simp only [hd, if_true]
                      rw [if_pos (by rfl)]
                      have n10 := hI.2.2.2.2.2.2.2 hL
                      have hc := hI.2.1.cell
                      simp only [n10, Bool.false_eq_true, if_false] at hc
                      go_simp
                      exact hK.out _ _ ⟨gS, vN, by simp [hd], hI.1, by simpa using hI.2.1, by simpa using hI.2.2.1, by simpa using hI.2.2.2.1, by simpa using hI.2.2.2.2.1, by simpa using hI.2.2.2.2.2.1, by simpa using hI.2.2.2.2.2.2.1, fun h => by simp at h⟩
                    refine Inv.Steps.cons rfl ?_ ?_
                    · intro L a w' hI hL hd K hK
                      obtain ⟨gS, vN, rfl, hI⟩ := hI
                      clear hd
                      rw [if_pos (by rfl)]
                      go_simp
                      exact hK.out _ _ ⟨gS, vN, by simp, by simpa using hI.1, by simpa using hI.2.1, by simpa using hI.2.2.1, by simpa using hI.2.2.2.1, by simpa using hI.2.2.2.2.1, by simpa using hI.2.2.2.2.2.1, by simpa using hI.2.2.2.2.2.2.1, by simpa using hI.2.2.2.2.2.2.2⟩
                    refine Inv.Steps.cons rfl ?_ ?_
                    · intro L a w' hI hL hd K hK
                      obtain ⟨gS, vN, rfl, hI⟩ := hI
                      clear hd
                      rw [if_pos (by rfl)]
                      go_simp
                      exact hK.out _ _ ⟨gS, vN, by simp, by simpa using hI.1, by simpa using hI.2.1, by simpa using hI.2.2.1, by simpa using hI.2.2.2.1, by simpa using hI.2.2.2.2.1, by simpa using hI.2.2.2.2.2.1, by simpa using hI.2.2.2.2.2.2.1, by simpa using hI.2.2.2.2.2.2.2⟩
                    refine Inv.Steps.cons rfl ?_ ?_
                    · intro L a w' hI hL hd K hK
                      obtain ⟨gS, vN, rfl, hI⟩ := hI
                      simp [Region.binds] at hd
                      simp only [hd, if_true]
                      rw [if_pos (by rfl)]
                      have e2 : ((k : Int) + 2).toNat = k + 2 := by omega
                      go_simp
                      exact hK.out _ _ ⟨gS, vN, by simp [hd, Act.put], by simpa using hI.1, by simpa using hI.2.1, by simpa using hI.2.2.1, by simpa using hI.2.2.2.1, by simpa using hI.2.2.2.2.1, by simpa using hI.2.2.2.2.2.1, by simpa using hI.2.2.2.2.2.2.1, by simpa using hI.2.2.2.2.2.2.2⟩
                    refine Inv.Steps.cons rfl ?_ ?_
                    · intro L a w' hI hL hd K hK
                      obtain ⟨gS, vN, rfl, hI⟩ := hI
                      simp [Region.binds] at hd
                      simp only [hd, if_true]
                      rw [if_pos (by rfl)]
                      have hc := hkx hI.1
                      go_simp
                      exact hK.out _ _ ⟨gS, vN, by simp [hd], by simpa using hI.1, by simpa using hI.2.1, by simpa using hI.2.2.1, by simpa using hI.2.2.2.1, by simpa using hI.2.2.2.2.1, by simpa using hI.2.2.2.2.2.1, by simpa using hI.2.2.2.2.2.2.1, by simpa using hI.2.2.2.2.2.2.2⟩
                    refine Inv.Steps.cons rfl ?_ ?_
                    · intro L a w' hI hL hd K hK
                      obtain ⟨gS, vN, rfl, hI⟩ := hI
                      simp [Region.binds] at hd
                      simp only [hd, if_true]
                      rw [if_pos (by rfl)]
                      go_simp
                      exact hK.out _ _ ⟨gS, vN, by simp [hd], by simpa using hI.1, by simpa using hI.2.1, by simpa using hI.2.2.1, by simpa using hI.2.2.2.1, by simpa using hI.2.2.2.2.1, by simpa using hI.2.2.2.2.2.1, by simpa using hI.2.2.2.2.2.2.1, by simpa using hI.2.2.2.2.2.2.2⟩
                    refine Inv.Steps.cons rfl ?_ ?_
                    · intro L a w' hI hL hd K hK
                      obtain ⟨gS, vN, rfl, hI⟩ := hI
                      simp [Region.binds] at hd
                      simp only [hd, if_true]
                      rw [if_pos (by rfl)]
                      have n8 := hI.2.2.2.2.2.1 hL
                      go_simp
                      exact hK.out _ _ ⟨w'.heap.size, vN, by simp [hd, n8], bnext hI.1 (bnew _ _), by simpa using hI.2.1.alloc _, fun _ => own_below (hI.2.2.1 n8) (bnew _ _), fun h => by simp [n8] at h, fun _ _ => lit_reads rfl rfl (by simp), fun h => by simp at h, by simpa using hI.2.2.2.2.2.2.1, by simpa using hI.2.2.2.2.2.2.2⟩
                    refine Inv.Steps.cons rfl ?_ ?_
                    · intro L a w' hI hL hd K hK
                      obtain ⟨gS, vN, rfl, hI⟩ := hI
                      simp [Region.binds] at hd
                      simp only [hd, if_true]
                      rw [if_pos (by rfl)]
                      have e7 : L 7 = true := by simp [hd]
                      have n10 := hI.2.2.2.2.2.2.1 hL
                      have how := hI.2.2.1 hL
                      have hbl : w3.heap.size + 1 ≤ w'.heap.size := hI.2.1.lt
                      refine wp_app_ints _ _ (by rfl) (w3.heap.size + 1) vD ys.length (ys.map (Value.int .i64)) (by rfl) how (some ⟨gS, 0, none⟩) 1 1 [x] (by rfl) rfl (hI.2.2.2.2.1 e7 hL) (by omega) hbl ?_
                      intro v8 w8 ho8 hg8
                      exact hK.out _ _ ⟨gS, v8, by simp [hd, Act.put], hI.1.grown hg8 hI.1.size (fun i hi => by have := (how.lt i hi).1; omega), by simpa [n10] using hI.2.1.kept hg8 (fun q => by have := (how.lt _ q.symm).1; omega), fun h => by simp at h, fun _ => by simpa using ho8, fun _ h => by simp at h, fun h => absurd e7 (by simpa using h), fun h => by simp at h, by simpa using hI.2.2.2.2.2.2.2⟩
                    refine Inv.Steps.cons rfl ?_ ?_
                    · intro L a w' hI hL hd K hK
                      obtain ⟨gS, vN, rfl, hI⟩ := hI
                      simp [Region.binds] at hd
                      simp only [hd, if_true]
                      rw [if_pos (by rfl)]
                      go_simp
                      exact hK.out _ _ ⟨gS, vN, by simp [hd], by simpa using hI.1, by simpa using hI.2.1, by simpa using hI.2.2.1, by simpa using hI.2.2.2.1, by simpa using hI.2.2.2.2.1, by simpa using hI.2.2.2.2.2.1, by simpa using hI.2.2.2.2.2.2.1, by simpa using hI.2.2.2.2.2.2.2⟩
                    refine Inv.Steps.cons rfl ?_ ?_
                    · intro L a w' hI hL hd K hK
                      obtain ⟨gS, vN, rfl, hI⟩ := hI
                      simp [Region.binds] at hd
                      simp only [hd, if_true]
                      rw [if_pos (by rfl)]
                      have e8 : L 8 = true := by simp [hd]
                      have e7 : L 7 = true := by simp [hd]
                      have e1 : L 1 = true := by simp [hd]
                      have how := hI.2.2.2.1 e8
                      obtain ⟨qN, dN, hvN, -, -⟩ := own_from how
                      have hX1 : Blk w' w3.heap.size 30 [.int .i64 1, .int .i64 0, .slice none 0 0, vD, .int .u64 0, .int .u64 0] := by simpa [hL] using hI.2.1
                      refine wp_put_ints (.tmp 69) (.tmp 68) w3.heap.size 3 _ _ qN _ dN (by rfl) (by rfl) hvN hX1 (by simp) ?_
                      intro w8 hX8 hg8 hz8
                      exact hK.out _ _ ⟨gS, vN, by simp [hd, Act.put], hI.1.grown hg8 hI.1.size (fun i hi => by obtain rfl := Option.some.inj hi; exact Nat.le_refl _), by rw [← hvN] at hX8; simpa using hX8, fun h => absurd e8 (by simpa using h), fun _ => own_kept how hg8 (Nat.lt_succ_self _), fun _ h => absurd e8 (by simpa using h), fun h => absurd e7 (by simpa using h), fun h => absurd e8 (by simpa using h), fun h => absurd e1 (by simpa using h)⟩
                    exact Inv.Steps.nil (by decide)
                  case done =>
                    intro L a w' hI hall
                    obtain ⟨gS, vN, rfl, hI⟩ := hI
                    simp only [hall, if_true] at hI ⊢
                    have hoN := hI.2.2.2.1 trivial
                    rw [← HT.out] at hoN
                    have hYN := hI.2.1
                    have hBN := hI.1
                    clear hI hall hownD hY hBr
                    go_wp2
                    go_roundw
                    case rel => exact ⟨k + 1, vN, by omega, by omega, by go_num, by go_num, hBN, hYN, hoN⟩
                    case measure => simp [intOf]; omega
              · have hkm1 : decide ((k : Int) + 2 < (m : Int) + 2) = false := decide_eq_false (by omega)
                have hend : Hid (¬ ((k : Int) < x1 ∧ k < rest.length)) := by unfold Hid; have := hmH.out; omega
                obtain ⟨B4, hB4⟩ : ∃ B4, B4 = wr.heap.size := ⟨_, rfl⟩
                have HB4 : Hid (B4 = wr.heap.size) := hB4
                have hlD : (rest.take k).length = k := by rw [List.length_take]; have := hmH.out; omega
                obtain ⟨qD, cD, rfl, rD, fD⟩ := own_from hownD
                rw [hlD] at hY
                have hbD : Hid (0 < (rest.take k).length → ∀ a, qD = some a → a.block < B4) := fun h a ha => by
                  obtain ⟨b', o', e', hlt, -⟩ := rD.2.2.2 h
                  rw [e'] at ha
                  obtain rfl := Option.some.inj ha
                  rw [hB4]
                  exact hlt
                have hlt0 : w3.heap.size < B4 := by rw [hB4]; exact hY.lt
                have hHlD : Hid ((rest.take k).length = k) := hlD
                clear hownD hlD hcl hB4
                have kcH : Hid (∀ {W : World}, Below w3.heap.size w3 W → ∀ i, i < m + 2 → W.cell? ⟨b0, o0 + i, none⟩ = some (.int .u64 ((1 :: x1 :: rest).getD i 0))) := kc
                clear kc kcH
                go_wp2
                go_loopw [7] (fun v7 ws => ∃ (j t : Nat) (vP : Value), Hid (t = k + 10 * j) ∧ t ≤ m ∧ v7 = .int .i64 ((t : Int) + 2) ∧ Below w3.heap.size w3 ws ∧ Blk ws w3.heap.size 30 [.int .i64 1, .int .i64 0, vP, .slice qD k cD, .int .u64 0, .int .u64 0] ∧ ws.ownsRow B4 54 13 vP j ((polsF j (rest.drop k)).flatMap pl) ∧ Reads .i64 ws qD cD (rest.take k) ∧ B4 ≤ ws.heap.size ∧ Hid (∀ p ∈ polsF j (rest.drop k), PoOk p)) (fun v7 _ => m + 2 - (intOf v7).toNat)
                case atStart => exact ⟨0, k, .slice none 0 0, by unfold Hid; omega, hk, by simp, hBr, hY, World.ownsRow_nil _ _ _ _, rD, Nat.le_of_eq HB4.out, by unfold Hid; simp [polsF]⟩
                case round =>
                  obtain ⟨j, t, vP, HT, hj, rfl, hBs, hYs, hownP, rDs, hws, hPo⟩ := hrel
                  clear hY rD hBr
                  have hXs := hX3.below hBs
                  have hBws := bnext hB13 hBs
                  by_cases hgo : t + 10 ≤ m
                  · have hg1 : (t : Int) + 2 + 10 ≤ (m : Int) + 2 := by omega
                    have hg2 : (t : Int) + 12 ≤ (m : Int) + 2 := by omega
                    have hr10 : Hid (((rest.drop t).take 10).length = 10) := by unfold Hid; rw [List.length_take, List.length_drop]; have := hmH.out; omega
                    have hm2c : m + 2 ≤ c3 := by have := r3.1; have := hmH.out; simp only [List.length_cons] at *; omega
                    have hcut0 := fun W => run_part_u W (some ⟨b0, o0, none⟩) (m + 2) c3 (t + 2) (t + 12) (by omega) (by omega)
                    have hcut : ∀ W, (Instr.slice 43 (.slice (some ⟨b0, o0, none⟩) (m + 2) c3) (some (.int .i64 ((t : Int) + 2))) (some (.int .i64 ((t : Int) + 2 + 10))) none).run Try.prog W = .ok (.slice (cutP (some ⟨b0, o0, none⟩) c3 (t + 2)) 10 (c3 - (t + 2))) W := fun W => by
                      have := hcut0 W
                      rw [show t + 12 - (t + 2) = 10 by omega, show ((t + 2 : Nat) : Int) = (t : Int) + 2 by omega, show ((t + 12 : Nat) : Int) = (t : Int) + 2 + 10 by omega] at this
                      exact this
                    have hcut2 : ∀ W, (Instr.slice 43 (.slice (some ⟨b0, o0, none⟩) (m + 2) c3) (some (.int .i64 ((t : Int) + 2))) (some (.int .i64 ((t : Int) + 12))) none).run Try.prog W = .ok (.slice (cutP (some ⟨b0, o0, none⟩) c3 (t + 2)) 10 (c3 - (t + 2))) W := fun W => by
                      have := hcut W
                      rw [show (t : Int) + 2 + 10 = (t : Int) + 12 by omega] at this
                      exact this
                    have hrc : Reads .u64 wr (cutP (some ⟨b0, o0, none⟩) c3 (t + 2)) (c3 - (t + 2)) ((rest.drop t).take 10) := by
                      have := ((r3.cut (t + 2) (by have := hmH.out; simp only [List.length_cons]; omega)).upto 10).below hBs
                      simpa using this
                    have hOf := ref_OfP _ 10 _ _ hr10.out wr hrc (fun x hx => hwr.out x (List.mem_of_mem_drop (List.mem_of_mem_take hx)))
                    clear hcut0 hr10 hrc hm2c
                    cases hI : isP ((rest.drop t).take 10) with
                    | false =>
                      have hI2 := hI
                      rw [HT.out] at hI2
                      have hRO : readO bs = none := none_put HL.out hkx (by have := hmH.out; omega) hend.out (by have := hmH.out; have := HT.out; omega) hI2
                      obtain ⟨n1, n2⟩ := rd_none hRO
                      obtain rfl : RE = zeroE := HRE.out.trans n1
                      obtain rfl : RN = 121 := HRN.out.trans n2
                      clear n1 n2 hRO
                      have e1 : ofP ((rest.drop t).take 10) = zeroP := by unfold ofP; rw [hI]; rfl
                      have e2 : ofE ((rest.drop t).take 10) = 111 := by unfold ofE; rw [hI]; rfl
                      rw [e1, e2] at hOf
                      clear hI hI2 e1 e2
                      go_wp2_with (first
                        | ((fail_if_success (have _ := hB5b)); (with_reducible refine hOf.mono ?_); rintro e5 w5 ⟨rfl, hB5b⟩)
                        | ((fail_if_success (have _ := hZ6)); (have _ := hB5b); (refine at_alloc_po (by rfl) (by rfl) ?_); intro U6 hZ6 hC6 hy6)
                        | ((fail_if_success (have _ := hZ7)); (have _ := hZ6); (refine at_store_po _ _ _ _ _ (by rfl) (by rfl) (by rfl) hZ6 rfl (by rfl) ?_); intro U7 hZ7 hg7 hy7; have hC7 := bnext hB5b (hC6.grown hg7 hC6.size (by simp)); have hX7 := hXs.below hC7; have hBw7 := bnext hBws hC7)
                        | ((fail_if_success (have _ := hXf)); (have _ := hZ7); (refine at_build_zero (by rfl) (by rfl) ?_))
                        | ((fail_if_success (have _ := hXf)); (have _ := hZ7); (refine at_store_ev _ _ _ _ _ (by rfl) (by rfl) (by rfl) hX7 rfl (by rfl) ?_); intro Vf hXf hgf hzf))
                      refine ret_ev2 (by rfl) rfl _ _ rfl hXf ⟨_, rfl, Is.zero _, zero_fresh _, hBw7.grown hgf hBw7.size (by simp)⟩
                    | true =>
                      have e1 : ofP ((rest.drop t).take 10) = asP ((rest.drop t).take 10) := by unfold ofP; rw [hI]; rfl
                      have e2 : ofE ((rest.drop t).take 10) = 0 := by unfold ofE; rw [hI]; rfl
                      rw [e1, e2] at hOf
                      have hnx : Hid (polsF (j + 1) (rest.drop k) = polsF j (rest.drop k) ++ [asP ((rest.drop t).take 10)]) := by unfold Hid; rw [polsF_snoc, List.drop_drop, HT.out]
                      have hok : PoOk (asP ((rest.drop t).take 10)) := asP_ok hI (fun x hx => hwr.out x (List.mem_of_mem_drop (List.mem_of_mem_take hx)))
                      obtain ⟨x, hx⟩ : ∃ x, x = asP ((rest.drop t).take 10) := ⟨_, rfl⟩
                      rw [← hx] at hOf hnx hok
                      have hPo2 : Hid (∀ p ∈ polsF (j + 1) (rest.drop k), PoOk p) := by
                        unfold Hid
                        rw [hnx.out]
                        intro p hp
                        rcases List.mem_append.1 hp with hp | hp
                        · exact hPo.out p hp
                        · rw [List.mem_singleton.1 hp]; exact hok
                      obtain ⟨ps, hps⟩ : ∃ ps, ps = polsF j (rest.drop k) := ⟨_, rfl⟩
                      rw [← hps] at hownP hnx
                      have hj13 : j ≤ 1000 := by have := HT.out; omega
                      clear hI e1 e2 hx hok hps hPo
                      go_wp2_with (first
                        | ((fail_if_success (have _ := hB5b)); (with_reducible refine hOf.mono ?_); rintro e5 w5 ⟨rfl, hB5b⟩)
                        | ((fail_if_success (have _ := hZ6)); (have _ := hB5b); (refine at_alloc_po (by rfl) (by rfl) ?_); intro U6 hZ6 hC6 hy6)
                        | ((fail_if_success (have _ := hZ7)); (have _ := hZ6); (refine at_store_po _ _ _ _ _ (by rfl) (by rfl) (by rfl) hZ6 rfl (by rfl) ?_); intro U7 hZ7 hg7 hy7; have hC7 := bnext hB5b (hC6.grown hg7 hC6.size (by simp)); have hY7 := hYs.below hC7; have c7' := hY7.cell)
                        | ((fail_if_success (have _ := r8p)); (have _ := hZ7); (refine at_load_po _ _ _ (by rfl) (by rfl) hZ7 (by rfl) ?_))
                        | ((fail_if_success (have _ := r8p)); (have _ := hZ7); (refine at_pol1 _ _ (by rfl) (by rfl) (by rfl) ?_); intro U8 r8p hC8; have hC78 := bnext hC7 hC8; have hY8 := hYs.below hC78; have hown8 := own_below hownP hC78; have hsz8 := Nat.le_trans hws hC78.size)
                        | ((fail_if_success (have _ := hg9p)); (have _ := r8p); (refine at_append_pol _ _ (by rfl) B4 _ j ps (by rfl) hown8 _ 1 1 [x] (by rfl) rfl r8p (by omega) hsz8 (by rfl) ?_); intro v9p V9 hown9 hg9p; have hY9 := hY8.kept hg9p (fun q => (by have := (hown8.lt _ q.symm).1; omega)); have hB9 := (bnext hBs hC78).grown hg9p (bnext hBs hC78).size (fun i hi => (by have := (hown8.lt i hi).1; omega)); obtain ⟨qP, cP, rfl, -, -⟩ := own_rk pl_len (by decide) hown9)
                        | ((fail_if_success (have _ := hYA)); (have _ := hg9p); (refine at_put_pols _ _ w3.heap.size 2 _ _ qP _ cP (by rfl) (by rfl) (by rfl) hY9 (by simp) (by rfl) ?_); intro VA hYA hgA hzA))
                      have hBA := hB9.grown hgA hB9.size (fun i hi => by obtain rfl := Option.some.inj hi; exact Nat.le_refl _)
                      have hownA := own_kept hown9 hgA hlt0
                      rw [List.length_append, List.length_singleton, ← hnx.out] at hownA
                      have rD8 := rDs.below hC78
                      have rD9 := reads_kept rD8 hg9p (fun hz a ha q => by have h1 := hbD.out hz a ha; have h2 := (hown8.lt _ q.symm).1; omega)
                      have rDA := rD9.kept hgA (fun _ a ha => by have := fD a ha; omega)
                      have hszA : B4 ≤ VA.heap.size := Nat.le_trans hsz8 (Nat.le_trans hg9p.size hgA.size)
                      go_roundw
                      case rel => exact ⟨j + 1, t + 10, _, by unfold Hid; have := HT.out; omega, by omega, by go_num, hBA, hYA, hownA, rDA, hszA, hPo2⟩
                      case measure => simp [intOf]; omega
                  · have hg1 : decide ((t : Int) + 2 + 10 ≤ (m : Int) + 2) = false := decide_eq_false (by omega)
                    have hg2 : decide ((t : Int) + 12 ≤ (m : Int) + 2) = false := decide_eq_false (by omega)
                    obtain ⟨qP, cP, rfl, rkP, fP⟩ := own_rk pl_len (by decide) hownP
                    rw [polsF_len] at hYs
                    have hIs : Is wr ⟨1, 0, qP, j, cP, qD, k, cD, 0, 0⟩ (commitE (polsF j (rest.drop k)) (rest.take k)) := ⟨⟨rfl, rfl, rfl, rfl⟩, ⟨polsF_len _ _, rkP⟩, hHlD.out, rDs⟩
                    have hOk : ∀ p ∈ (commitE (polsF j (rest.drop k)) (rest.take k)).ps, PoOk p := hPo.out
                    have hFr : Fresh w3.heap.size ⟨1, 0, qP, j, cP, qD, k, cD, 0, 0⟩ := ⟨fun a ha => by have := fP a ha; omega, fun a ha => by have := fD a ha; omega⟩
                    have hCd : ∀ e, Wrote bs e → e = commitE (polsF j (rest.drop k)) (rest.take k) := fun e he => cand1 HL.out hkx (by have := hmH.out; omega) hend.out (by have := hmH.out; have := HT.out; omega) (by have := hmH.out; have := HT.out; omega) he
                    have hs1 : (⟨1, 0, qP, j, cP, qD, k, cD, 0, 0⟩ : Eh).pn ≤ 1000 := by have := HT.out; simp only; omega
                    have hs2 : (⟨1, 0, qP, j, cP, qD, k, cD, 0, 0⟩ : Eh).dn ≤ 1000 := by simp only; omega
                    have hYe : Blk wr w3.heap.size 30 (el ⟨1, 0, qP, j, cP, qD, k, cD, 0, 0⟩) := hYs
                    clear hYs hownP rDs hPo rkP fP hgo
                    have hEn := ends (bs := bs) hOk hCd
                    have hRBy := fun {W : World} (hb : Below wr.heap.size wr W) => ref_BytesE ⟨1, 0, qP, j, cP, qD, k, cD, 0, 0⟩ (commitE (polsF j (rest.drop k)) (rest.take k)) W (hIs.below hb) hOk hs1 hs2
                    cases hrt : rightE (commitE (polsF j (rest.drop k)) (rest.take k)) with
                    | false =>
                      have hRO : readO bs = none := by rw [hEn, hrt]; rfl
                      obtain ⟨n1, n2⟩ := rd_none hRO
                      obtain rfl : RE = zeroE := HRE.out.trans n1
                      obtain rfl : RN = 121 := HRN.out.trans n2
                      clear n1 n2 hRO
                      have f1 : bytesE (commitE (polsF j (rest.drop k)) (rest.take k)) = [] ∧ errE (commitE (polsF j (rest.drop k)) (rest.take k)) = 121 := by unfold bytesE errE; rw [hrt]; exact ⟨rfl, rfl⟩
                      rw [f1.1, f1.2] at hRBy
                      clear hEn hCd hrt f1
                      go_wp2_with (first
                        | ((fail_if_success (have _ := hB8)); (refine at_load_ev _ _ _ (by rfl) (by rfl) hYe (by rfl) ?_))
                        | ((fail_if_success (have _ := hB8)); (with_reducible refine (hRBy (Below.refl _ _)).mono ?_); rintro e8 w8 ⟨q8, c8, rfl, r8, hB8⟩; have hX8 := hXs.below hB8; have hBw8 := bnext hBws hB8)
                        | ((fail_if_success (have _ := hXf)); (have _ := hB8); (refine at_build_zero (by rfl) (by rfl) ?_))
                        | ((fail_if_success (have _ := hXf)); (have _ := hB8); (refine at_store_ev _ _ _ _ _ (by rfl) (by rfl) (by rfl) hX8 rfl (by rfl) ?_); intro Vf hXf hgf hzf))
                      refine ret_ev2 (by rfl) rfl _ _ rfl hXf ⟨_, rfl, Is.zero _, zero_fresh _, hBw8.grown hgf hBw8.size (by simp)⟩
                    | true =>
                      have f1 := bytes_right hrt
                      rw [f1.1, f1.2] at hRBy
                      have hse := str_eq (byte_nums hrt hOk) hb
                      obtain ⟨ys, hys⟩ : ∃ ys, ys = Leb.nums (numsE (commitE (polsF j (rest.drop k)) (rest.take k))) := ⟨_, rfl⟩
                      rw [← hys] at hRBy hse hEn
                      by_cases hT : ys = bs
                      · have hRO : readO bs = some (commitE (polsF j (rest.drop k)) (rest.take k)) := by rw [hEn, if_pos ⟨hrt, hT⟩]
                        obtain ⟨n1, n2⟩ := rd_some hRO
                        obtain rfl : RE = (commitE (polsF j (rest.drop k)) (rest.take k)) := HRE.out.trans n1
                        obtain rfl : RN = 0 := HRN.out.trans n2
                        rw [decide_eq_true hT] at hse
                        clear n1 n2 hRO hEn hCd hrt f1 hys hT
                        go_wp2_with (first
                          | ((fail_if_success (have _ := hB8)); (refine at_load_ev _ _ _ (by rfl) (by rfl) hYe (by rfl) ?_))
                          | ((fail_if_success (have _ := hB8)); (with_reducible refine (hRBy (Below.refl _ _)).mono ?_); rintro e8 w8 ⟨q8, c8, rfl, r8, hB8⟩; have hX8 := hXs.below hB8; have hBw8 := bnext hBws hB8; have hY8 := hYe.below hB8; have hv1 := conv r8 rfl; have hv2 := hcv hBw8)
                          | ((fail_if_success (have _ := hX9)); (have _ := hB8); (refine at_load_ev _ _ _ (by rfl) (by rfl) hY8 (by rfl) ?_))
                          | ((fail_if_success (have _ := hX9)); (have _ := hB8); (refine at_store_ev _ _ _ _ _ (by rfl) (by rfl) (by rfl) hX8 rfl (by rfl) ?_); intro V9 hX9 hg9 hz9))
                        refine ret_ev2 (by rfl) rfl _ _ rfl hX9 ⟨_, rfl, is_fresh (hIs.below hB8) hg9 hFr hV1, hFr.mono (by omega), hBw8.grown hg9 hBw8.size (by simp)⟩
                      · have hRO : readO bs = none := by rw [hEn, if_neg (fun q => hT q.2)]
                        obtain ⟨n1, n2⟩ := rd_none hRO
                        obtain rfl : RE = zeroE := HRE.out.trans n1
                        obtain rfl : RN = 121 := HRN.out.trans n2
                        clear n1 n2 hRO
                        rw [decide_eq_false hT] at hse
                        clear hEn hCd hrt f1 hys hT
                        go_wp2_with (first
                          | ((fail_if_success (have _ := hB8)); (refine at_load_ev _ _ _ (by rfl) (by rfl) hYe (by rfl) ?_))
                          | ((fail_if_success (have _ := hB8)); (with_reducible refine (hRBy (Below.refl _ _)).mono ?_); rintro e8 w8 ⟨q8, c8, rfl, r8, hB8⟩; have hX8 := hXs.below hB8; have hBw8 := bnext hBws hB8; have hY8 := hYe.below hB8; have hv1 := conv r8 rfl; have hv2 := hcv hBw8)
                          | ((fail_if_success (have _ := hXf)); (have _ := hB8); (refine at_build_zero (by rfl) (by rfl) ?_))
                          | ((fail_if_success (have _ := hXf)); (have _ := hB8); (refine at_store_ev _ _ _ _ _ (by rfl) (by rfl) (by rfl) hX8 rfl (by rfl) ?_); intro Vf hXf hgf hzf))
                        refine ret_ev2 (by rfl) rfl _ _ rfl hXf ⟨_, rfl, Is.zero _, zero_fresh _, hBw8.grown hgf hBw8.size (by simp)⟩
            · have hkb : decide ((k : Int) < x1) = false := decide_eq_false hk1
              have hend : Hid (¬ ((k : Int) < x1 ∧ k < rest.length)) := fun q => hk1 q.1
              obtain ⟨B4, hB4⟩ : ∃ B4, B4 = wr.heap.size := ⟨_, rfl⟩
              have HB4 : Hid (B4 = wr.heap.size) := hB4
              have hlD : (rest.take k).length = k := by rw [List.length_take]; have := hmH.out; omega
              obtain ⟨qD, cD, rfl, rD, fD⟩ := own_from hownD
              rw [hlD] at hY
              have hbD : Hid (0 < (rest.take k).length → ∀ a, qD = some a → a.block < B4) := fun h a ha => by
                obtain ⟨b', o', e', hlt, -⟩ := rD.2.2.2 h
                rw [e'] at ha
                obtain rfl := Option.some.inj ha
                rw [hB4]
                exact hlt
              have hlt0 : w3.heap.size < B4 := by rw [hB4]; exact hY.lt
              have hHlD : Hid ((rest.take k).length = k) := hlD
              clear hownD hlD hcl hB4
              have kcH : Hid (∀ {W : World}, Below w3.heap.size w3 W → ∀ i, i < m + 2 → W.cell? ⟨b0, o0 + i, none⟩ = some (.int .u64 ((1 :: x1 :: rest).getD i 0))) := kc
              clear kc kcH
              go_wp2
              go_loopw [7] (fun v7 ws => ∃ (j t : Nat) (vP : Value), Hid (t = k + 10 * j) ∧ t ≤ m ∧ v7 = .int .i64 ((t : Int) + 2) ∧ Below w3.heap.size w3 ws ∧ Blk ws w3.heap.size 30 [.int .i64 1, .int .i64 0, vP, .slice qD k cD, .int .u64 0, .int .u64 0] ∧ ws.ownsRow B4 54 13 vP j ((polsF j (rest.drop k)).flatMap pl) ∧ Reads .i64 ws qD cD (rest.take k) ∧ B4 ≤ ws.heap.size ∧ Hid (∀ p ∈ polsF j (rest.drop k), PoOk p)) (fun v7 _ => m + 2 - (intOf v7).toNat)
              case atStart => exact ⟨0, k, .slice none 0 0, by unfold Hid; omega, hk, by simp, hBr, hY, World.ownsRow_nil _ _ _ _, rD, Nat.le_of_eq HB4.out, by unfold Hid; simp [polsF]⟩
              case round =>
                obtain ⟨j, t, vP, HT, hj, rfl, hBs, hYs, hownP, rDs, hws, hPo⟩ := hrel
                clear hY rD hBr
                have hXs := hX3.below hBs
                have hBws := bnext hB13 hBs
                by_cases hgo : t + 10 ≤ m
                · have hg1 : (t : Int) + 2 + 10 ≤ (m : Int) + 2 := by omega
                  have hg2 : (t : Int) + 12 ≤ (m : Int) + 2 := by omega
                  have hr10 : Hid (((rest.drop t).take 10).length = 10) := by unfold Hid; rw [List.length_take, List.length_drop]; have := hmH.out; omega
                  have hm2c : m + 2 ≤ c3 := by have := r3.1; have := hmH.out; simp only [List.length_cons] at *; omega
                  have hcut0 := fun W => run_part_u W (some ⟨b0, o0, none⟩) (m + 2) c3 (t + 2) (t + 12) (by omega) (by omega)
                  have hcut : ∀ W, (Instr.slice 43 (.slice (some ⟨b0, o0, none⟩) (m + 2) c3) (some (.int .i64 ((t : Int) + 2))) (some (.int .i64 ((t : Int) + 2 + 10))) none).run Try.prog W = .ok (.slice (cutP (some ⟨b0, o0, none⟩) c3 (t + 2)) 10 (c3 - (t + 2))) W := fun W => by
                    have := hcut0 W
                    rw [show t + 12 - (t + 2) = 10 by omega, show ((t + 2 : Nat) : Int) = (t : Int) + 2 by omega, show ((t + 12 : Nat) : Int) = (t : Int) + 2 + 10 by omega] at this
                    exact this
                  have hcut2 : ∀ W, (Instr.slice 43 (.slice (some ⟨b0, o0, none⟩) (m + 2) c3) (some (.int .i64 ((t : Int) + 2))) (some (.int .i64 ((t : Int) + 12))) none).run Try.prog W = .ok (.slice (cutP (some ⟨b0, o0, none⟩) c3 (t + 2)) 10 (c3 - (t + 2))) W := fun W => by
                    have := hcut W
                    rw [show (t : Int) + 2 + 10 = (t : Int) + 12 by omega] at this
                    exact this
                  have hrc : Reads .u64 wr (cutP (some ⟨b0, o0, none⟩) c3 (t + 2)) (c3 - (t + 2)) ((rest.drop t).take 10) := by
                    have := ((r3.cut (t + 2) (by have := hmH.out; simp only [List.length_cons]; omega)).upto 10).below hBs
                    simpa using this
                  have hOf := ref_OfP _ 10 _ _ hr10.out wr hrc (fun x hx => hwr.out x (List.mem_of_mem_drop (List.mem_of_mem_take hx)))
                  clear hcut0 hr10 hrc hm2c
                  cases hI : isP ((rest.drop t).take 10) with
                  | false =>
                    have hI2 := hI
                    rw [HT.out] at hI2
                    have hRO : readO bs = none := none_put HL.out hkx (by have := hmH.out; omega) hend.out (by have := hmH.out; have := HT.out; omega) hI2
                    obtain ⟨n1, n2⟩ := rd_none hRO
                    obtain rfl : RE = zeroE := HRE.out.trans n1
                    obtain rfl : RN = 121 := HRN.out.trans n2
                    clear n1 n2 hRO
                    have e1 : ofP ((rest.drop t).take 10) = zeroP := by unfold ofP; rw [hI]; rfl
                    have e2 : ofE ((rest.drop t).take 10) = 111 := by unfold ofE; rw [hI]; rfl
                    rw [e1, e2] at hOf
                    clear hI hI2 e1 e2
                    go_wp2_with (first
                      | ((fail_if_success (have _ := hB5b)); (with_reducible refine hOf.mono ?_); rintro e5 w5 ⟨rfl, hB5b⟩)
                      | ((fail_if_success (have _ := hZ6)); (have _ := hB5b); (refine at_alloc_po (by rfl) (by rfl) ?_); intro U6 hZ6 hC6 hy6)
                      | ((fail_if_success (have _ := hZ7)); (have _ := hZ6); (refine at_store_po _ _ _ _ _ (by rfl) (by rfl) (by rfl) hZ6 rfl (by rfl) ?_); intro U7 hZ7 hg7 hy7; have hC7 := bnext hB5b (hC6.grown hg7 hC6.size (by simp)); have hX7 := hXs.below hC7; have hBw7 := bnext hBws hC7)
                      | ((fail_if_success (have _ := hXf)); (have _ := hZ7); (refine at_build_zero (by rfl) (by rfl) ?_))
                      | ((fail_if_success (have _ := hXf)); (have _ := hZ7); (refine at_store_ev _ _ _ _ _ (by rfl) (by rfl) (by rfl) hX7 rfl (by rfl) ?_); intro Vf hXf hgf hzf))
                    refine ret_ev2 (by rfl) rfl _ _ rfl hXf ⟨_, rfl, Is.zero _, zero_fresh _, hBw7.grown hgf hBw7.size (by simp)⟩
                  | true =>
                    have e1 : ofP ((rest.drop t).take 10) = asP ((rest.drop t).take 10) := by unfold ofP; rw [hI]; rfl
                    have e2 : ofE ((rest.drop t).take 10) = 0 := by unfold ofE; rw [hI]; rfl
                    rw [e1, e2] at hOf
                    have hnx : Hid (polsF (j + 1) (rest.drop k) = polsF j (rest.drop k) ++ [asP ((rest.drop t).take 10)]) := by unfold Hid; rw [polsF_snoc, List.drop_drop, HT.out]
                    have hok : PoOk (asP ((rest.drop t).take 10)) := asP_ok hI (fun x hx => hwr.out x (List.mem_of_mem_drop (List.mem_of_mem_take hx)))
                    obtain ⟨x, hx⟩ : ∃ x, x = asP ((rest.drop t).take 10) := ⟨_, rfl⟩
                    rw [← hx] at hOf hnx hok
                    have hPo2 : Hid (∀ p ∈ polsF (j + 1) (rest.drop k), PoOk p) := by
                      unfold Hid
                      rw [hnx.out]
                      intro p hp
                      rcases List.mem_append.1 hp with hp | hp
                      · exact hPo.out p hp
                      · rw [List.mem_singleton.1 hp]; exact hok
                    obtain ⟨ps, hps⟩ : ∃ ps, ps = polsF j (rest.drop k) := ⟨_, rfl⟩
                    rw [← hps] at hownP hnx
                    have hj13 : j ≤ 1000 := by have := HT.out; omega
                    clear hI e1 e2 hx hok hps hPo
                    go_wp2_with (first
                      | ((fail_if_success (have _ := hB5b)); (with_reducible refine hOf.mono ?_); rintro e5 w5 ⟨rfl, hB5b⟩)
                      | ((fail_if_success (have _ := hZ6)); (have _ := hB5b); (refine at_alloc_po (by rfl) (by rfl) ?_); intro U6 hZ6 hC6 hy6)
                      | ((fail_if_success (have _ := hZ7)); (have _ := hZ6); (refine at_store_po _ _ _ _ _ (by rfl) (by rfl) (by rfl) hZ6 rfl (by rfl) ?_); intro U7 hZ7 hg7 hy7; have hC7 := bnext hB5b (hC6.grown hg7 hC6.size (by simp)); have hY7 := hYs.below hC7; have c7' := hY7.cell)
                      | ((fail_if_success (have _ := r8p)); (have _ := hZ7); (refine at_load_po _ _ _ (by rfl) (by rfl) hZ7 (by rfl) ?_))
                      | ((fail_if_success (have _ := r8p)); (have _ := hZ7); (refine at_pol1 _ _ (by rfl) (by rfl) (by rfl) ?_); intro U8 r8p hC8; have hC78 := bnext hC7 hC8; have hY8 := hYs.below hC78; have hown8 := own_below hownP hC78; have hsz8 := Nat.le_trans hws hC78.size)
                      | ((fail_if_success (have _ := hg9p)); (have _ := r8p); (refine at_append_pol _ _ (by rfl) B4 _ j ps (by rfl) hown8 _ 1 1 [x] (by rfl) rfl r8p (by omega) hsz8 (by rfl) ?_); intro v9p V9 hown9 hg9p; have hY9 := hY8.kept hg9p (fun q => (by have := (hown8.lt _ q.symm).1; omega)); have hB9 := (bnext hBs hC78).grown hg9p (bnext hBs hC78).size (fun i hi => (by have := (hown8.lt i hi).1; omega)); obtain ⟨qP, cP, rfl, -, -⟩ := own_rk pl_len (by decide) hown9)
                      | ((fail_if_success (have _ := hYA)); (have _ := hg9p); (refine at_put_pols _ _ w3.heap.size 2 _ _ qP _ cP (by rfl) (by rfl) (by rfl) hY9 (by simp) (by rfl) ?_); intro VA hYA hgA hzA))
                    have hBA := hB9.grown hgA hB9.size (fun i hi => by obtain rfl := Option.some.inj hi; exact Nat.le_refl _)
                    have hownA := own_kept hown9 hgA hlt0
                    rw [List.length_append, List.length_singleton, ← hnx.out] at hownA
                    have rD8 := rDs.below hC78
                    have rD9 := reads_kept rD8 hg9p (fun hz a ha q => by have h1 := hbD.out hz a ha; have h2 := (hown8.lt _ q.symm).1; omega)
                    have rDA := rD9.kept hgA (fun _ a ha => by have := fD a ha; omega)
                    have hszA : B4 ≤ VA.heap.size := Nat.le_trans hsz8 (Nat.le_trans hg9p.size hgA.size)
                    go_roundw
                    case rel => exact ⟨j + 1, t + 10, _, by unfold Hid; have := HT.out; omega, by omega, by go_num, hBA, hYA, hownA, rDA, hszA, hPo2⟩
                    case measure => simp [intOf]; omega
                · have hg1 : decide ((t : Int) + 2 + 10 ≤ (m : Int) + 2) = false := decide_eq_false (by omega)
                  have hg2 : decide ((t : Int) + 12 ≤ (m : Int) + 2) = false := decide_eq_false (by omega)
                  obtain ⟨qP, cP, rfl, rkP, fP⟩ := own_rk pl_len (by decide) hownP
                  rw [polsF_len] at hYs
                  have hIs : Is wr ⟨1, 0, qP, j, cP, qD, k, cD, 0, 0⟩ (commitE (polsF j (rest.drop k)) (rest.take k)) := ⟨⟨rfl, rfl, rfl, rfl⟩, ⟨polsF_len _ _, rkP⟩, hHlD.out, rDs⟩
                  have hOk : ∀ p ∈ (commitE (polsF j (rest.drop k)) (rest.take k)).ps, PoOk p := hPo.out
                  have hFr : Fresh w3.heap.size ⟨1, 0, qP, j, cP, qD, k, cD, 0, 0⟩ := ⟨fun a ha => by have := fP a ha; omega, fun a ha => by have := fD a ha; omega⟩
                  have hCd : ∀ e, Wrote bs e → e = commitE (polsF j (rest.drop k)) (rest.take k) := fun e he => cand1 HL.out hkx (by have := hmH.out; omega) hend.out (by have := hmH.out; have := HT.out; omega) (by have := hmH.out; have := HT.out; omega) he
                  have hs1 : (⟨1, 0, qP, j, cP, qD, k, cD, 0, 0⟩ : Eh).pn ≤ 1000 := by have := HT.out; simp only; omega
                  have hs2 : (⟨1, 0, qP, j, cP, qD, k, cD, 0, 0⟩ : Eh).dn ≤ 1000 := by simp only; omega
                  have hYe : Blk wr w3.heap.size 30 (el ⟨1, 0, qP, j, cP, qD, k, cD, 0, 0⟩) := hYs
                  clear hYs hownP rDs hPo rkP fP hgo
                  have hEn := ends (bs := bs) hOk hCd
                  have hRBy := fun {W : World} (hb : Below wr.heap.size wr W) => ref_BytesE ⟨1, 0, qP, j, cP, qD, k, cD, 0, 0⟩ (commitE (polsF j (rest.drop k)) (rest.take k)) W (hIs.below hb) hOk hs1 hs2
                  cases hrt : rightE (commitE (polsF j (rest.drop k)) (rest.take k)) with
                  | false =>
                    have hRO : readO bs = none := by rw [hEn, hrt]; rfl
                    obtain ⟨n1, n2⟩ := rd_none hRO
                    obtain rfl : RE = zeroE := HRE.out.trans n1
                    obtain rfl : RN = 121 := HRN.out.trans n2
                    clear n1 n2 hRO
                    have f1 : bytesE (commitE (polsF j (rest.drop k)) (rest.take k)) = [] ∧ errE (commitE (polsF j (rest.drop k)) (rest.take k)) = 121 := by unfold bytesE errE; rw [hrt]; exact ⟨rfl, rfl⟩
                    rw [f1.1, f1.2] at hRBy
                    clear hEn hCd hrt f1
                    go_wp2_with (first
                      | ((fail_if_success (have _ := hB8)); (refine at_load_ev _ _ _ (by rfl) (by rfl) hYe (by rfl) ?_))
                      | ((fail_if_success (have _ := hB8)); (with_reducible refine (hRBy (Below.refl _ _)).mono ?_); rintro e8 w8 ⟨q8, c8, rfl, r8, hB8⟩; have hX8 := hXs.below hB8; have hBw8 := bnext hBws hB8)
                      | ((fail_if_success (have _ := hXf)); (have _ := hB8); (refine at_build_zero (by rfl) (by rfl) ?_))
                      | ((fail_if_success (have _ := hXf)); (have _ := hB8); (refine at_store_ev _ _ _ _ _ (by rfl) (by rfl) (by rfl) hX8 rfl (by rfl) ?_); intro Vf hXf hgf hzf))
                    refine ret_ev2 (by rfl) rfl _ _ rfl hXf ⟨_, rfl, Is.zero _, zero_fresh _, hBw8.grown hgf hBw8.size (by simp)⟩
                  | true =>
                    have f1 := bytes_right hrt
                    rw [f1.1, f1.2] at hRBy
                    have hse := str_eq (byte_nums hrt hOk) hb
                    obtain ⟨ys, hys⟩ : ∃ ys, ys = Leb.nums (numsE (commitE (polsF j (rest.drop k)) (rest.take k))) := ⟨_, rfl⟩
                    rw [← hys] at hRBy hse hEn
                    by_cases hT : ys = bs
                    · have hRO : readO bs = some (commitE (polsF j (rest.drop k)) (rest.take k)) := by rw [hEn, if_pos ⟨hrt, hT⟩]
                      obtain ⟨n1, n2⟩ := rd_some hRO
                      obtain rfl : RE = (commitE (polsF j (rest.drop k)) (rest.take k)) := HRE.out.trans n1
                      obtain rfl : RN = 0 := HRN.out.trans n2
                      rw [decide_eq_true hT] at hse
                      clear n1 n2 hRO hEn hCd hrt f1 hys hT
                      go_wp2_with (first
                        | ((fail_if_success (have _ := hB8)); (refine at_load_ev _ _ _ (by rfl) (by rfl) hYe (by rfl) ?_))
                        | ((fail_if_success (have _ := hB8)); (with_reducible refine (hRBy (Below.refl _ _)).mono ?_); rintro e8 w8 ⟨q8, c8, rfl, r8, hB8⟩; have hX8 := hXs.below hB8; have hBw8 := bnext hBws hB8; have hY8 := hYe.below hB8; have hv1 := conv r8 rfl; have hv2 := hcv hBw8)
                        | ((fail_if_success (have _ := hX9)); (have _ := hB8); (refine at_load_ev _ _ _ (by rfl) (by rfl) hY8 (by rfl) ?_))
                        | ((fail_if_success (have _ := hX9)); (have _ := hB8); (refine at_store_ev _ _ _ _ _ (by rfl) (by rfl) (by rfl) hX8 rfl (by rfl) ?_); intro V9 hX9 hg9 hz9))
                      refine ret_ev2 (by rfl) rfl _ _ rfl hX9 ⟨_, rfl, is_fresh (hIs.below hB8) hg9 hFr hV1, hFr.mono (by omega), hBw8.grown hg9 hBw8.size (by simp)⟩
                    · have hRO : readO bs = none := by rw [hEn, if_neg (fun q => hT q.2)]
                      obtain ⟨n1, n2⟩ := rd_none hRO
                      obtain rfl : RE = zeroE := HRE.out.trans n1
                      obtain rfl : RN = 121 := HRN.out.trans n2
                      clear n1 n2 hRO
                      rw [decide_eq_false hT] at hse
                      clear hEn hCd hrt f1 hys hT
                      go_wp2_with (first
                        | ((fail_if_success (have _ := hB8)); (refine at_load_ev _ _ _ (by rfl) (by rfl) hYe (by rfl) ?_))
                        | ((fail_if_success (have _ := hB8)); (with_reducible refine (hRBy (Below.refl _ _)).mono ?_); rintro e8 w8 ⟨q8, c8, rfl, r8, hB8⟩; have hX8 := hXs.below hB8; have hBw8 := bnext hBws hB8; have hY8 := hYe.below hB8; have hv1 := conv r8 rfl; have hv2 := hcv hBw8)
                        | ((fail_if_success (have _ := hXf)); (have _ := hB8); (refine at_build_zero (by rfl) (by rfl) ?_))
                        | ((fail_if_success (have _ := hXf)); (have _ := hB8); (refine at_store_ev _ _ _ _ _ (by rfl) (by rfl) (by rfl) hX8 rfl (by rfl) ?_); intro Vf hXf hgf hzf))
                      refine ret_ev2 (by rfl) rfl _ _ rfl hXf ⟨_, rfl, Is.zero _, zero_fresh _, hBw8.grown hgf hBw8.size (by simp)⟩
        · by_cases hm1 : m = 1
          · obtain ⟨x2, hx2⟩ := List.length_eq_one_iff.1 (hmH.out.trans hm1)
            subst hx2
            have hme : ((m : Int) + 2 != 3) = false := by simp; omega
            have z22 : (2 : Int) < (m : Int) + 2 := by omega
            have HM1 : Hid (m = 1) := hm1
            have hm2 : 2 < m + 2 := by omega
            clear hm1
            have w2 := hwr.out x2 (by simp)
            by_cases h255 : 255 < x1
            · have hRO : readO bs = none := none_read fun e he => by obtain ⟨x, -, -, h⟩ := wrote2 HL.out he; omega
              obtain ⟨n1, n2⟩ := rd_none hRO
              obtain rfl : RE = zeroE := HRE.out.trans n1
              obtain rfl : RN = 121 := HRN.out.trans n2
              clear n1 n2 hRO
              go_enter Try.func18, Try.ntmps18
              go_wp2_with (first
                | ((fail_if_success (have _ := hX1)); (refine at_alloc_ev (by rfl) (by rfl) ?_); intro V1 hX1 hB1 hz1)
                | ((fail_if_success (have _ := hB3)); (have _ := hX1); (with_reducible refine (hA hB1).mono ?_); rintro e w3 ⟨q3, c3, rfl, r3, hB3⟩; have hX3 := hX1.below hB3; have hB13 := bnext hB1 hB3; have hV1 : w.heap.size < w3.heap.size := (by have := hB3.size; have := hz1.out; omega); obtain ⟨b0, o0, rfl, hbl, hcl⟩ := r3.2.2.2 (by simp); have kc := fun {W : World} (hb : Below w3.heap.size w3 W) (i : Nat) (hi : i < m + 2) => (hb.cell (p := ⟨b0, o0 + i, none⟩) hbl).trans (hcl i (by have := hmH.out; (try simp only [List.length_cons, List.length_nil] at this); simp only [List.length_cons]; (try simp only [List.length_nil]); omega)); have hc0 := kc (Below.refl _ _) 0 (by omega); simp only [Nat.add_zero, List.getD_cons_zero] at hc0)
                | ((fail_if_success (have _ := hY4)); (have _ := hB3); (refine at_build_kind _ 2 (by rfl) (by rfl) (by rfl) ?_))
                | ((fail_if_success (have _ := hY4)); (have _ := hB3); (refine at_alloc_ev (by rfl) (by rfl) ?_); intro V4 hY4 hB4 hz4)
                | ((fail_if_success (have _ := hY5)); (have _ := hY4); (refine at_store_ev _ _ _ _ _ (by rfl) (by rfl) (by rfl) hY4 rfl (by rfl) ?_); intro V5 hY5 hg5 hz5; have hB5 := hB4.grown hg5 hB4.size (by simp); have hX5 := hX3.below hB5; have hB15 := bnext hB13 hB5; have hc5 := cells6 hY5; have hc50 := kc hB5 0 (by omega); have hc51 := kc hB5 1 (by omega); simp only [Nat.add_zero, List.getD_cons_zero, List.getD_cons_succ] at hc5 hc50 hc51)
                | ((fail_if_success (have _ := hXf)); (have _ := hY5); (refine at_build_zero (by rfl) (by rfl) ?_))
                | ((fail_if_success (have _ := hXf)); (have _ := hY5); (refine at_store_ev _ _ _ _ _ (by rfl) (by rfl) (by rfl) hX5 rfl (by rfl) ?_); intro Vf hXf hgf hzf))
              refine ret_ev2 (by rfl) rfl _ _ rfl hXf ⟨_, rfl, Is.zero _, zero_fresh _, hB15.grown hgf hB15.size (by simp)⟩
            · have h255b : decide (255 < x1) = false := decide_eq_false h255
              have hwx : IntKind.i64.wrap x1 = x1 := by have := w1.1; rw [IntKind.wrap_i64]; omega
              go_enter Try.func18, Try.ntmps18
              go_wp2_with (first
                | ((fail_if_success (have _ := hX1)); (refine at_alloc_ev (by rfl) (by rfl) ?_); intro V1 hX1 hB1 hz1)
                | ((fail_if_success (have _ := hB3)); (have _ := hX1); (with_reducible refine (hA hB1).mono ?_); rintro e w3 ⟨q3, c3, rfl, r3, hB3⟩; have hX3 := hX1.below hB3; have hB13 := bnext hB1 hB3; have hV1 : w.heap.size < w3.heap.size := (by have := hB3.size; have := hz1.out; omega); obtain ⟨b0, o0, rfl, hbl, hcl⟩ := r3.2.2.2 (by simp); have kc := fun {W : World} (hb : Below w3.heap.size w3 W) (i : Nat) (hi : i < m + 2) => (hb.cell (p := ⟨b0, o0 + i, none⟩) hbl).trans (hcl i (by have := hmH.out; (try simp only [List.length_cons, List.length_nil] at this); simp only [List.length_cons]; (try simp only [List.length_nil]); omega)); have hc0 := kc (Below.refl _ _) 0 (by omega); simp only [Nat.add_zero, List.getD_cons_zero] at hc0)
                | ((fail_if_success (have _ := hY4)); (have _ := hB3); (refine at_build_kind _ 2 (by rfl) (by rfl) (by rfl) ?_))
                | ((fail_if_success (have _ := hY4)); (have _ := hB3); (refine at_alloc_ev (by rfl) (by rfl) ?_); intro V4 hY4 hB4 hz4)
                | ((fail_if_success (have _ := hY5)); (have _ := hY4); (refine at_store_ev _ _ _ _ _ (by rfl) (by rfl) (by rfl) hY4 rfl (by rfl) ?_); intro V5 hY5 hg5 hz5; have hB5 := hB4.grown hg5 hB4.size (by simp); have hX5 := hX3.below hB5; have hB15 := bnext hB13 hB5; have hc5 := cells6 hY5; have hc50 := kc hB5 0 (by omega); have hc51 := kc hB5 1 (by omega); simp only [Nat.add_zero, List.getD_cons_zero, List.getD_cons_succ] at hc5 hc50 hc51)
                | ((fail_if_success (have _ := hY6)); (have _ := hY5); (refine at_put_int _ _ w3.heap.size 1 _ _ x1 (by rfl) (by rfl) (by rfl) hY5 (by decide) (by rfl) ?_); intro V6 hY6 hg6 hz6; have hB6 := hB5.grown hg6 hB5.size (by simp); have hc62 := kc hB6 2 hm2; simp only [List.getD_cons_zero, List.getD_cons_succ] at hc62)
                | ((fail_if_success (have _ := hY7)); (have _ := hY6); (refine at_store_u64 _ _ w3.heap.size 4 _ _ x2 (by rfl) (by rfl) (by rfl) hY6 (by simp [el]) (by rfl) ?_); intro V7 hY7 hg7 hz7; have hB7 := hB6.grown hg7 hB6.size (by simp); have hX7 := hX3.below hB7; have hB17 := bnext hB13 hB7)
                | ((have _ := hY7); (refine at_load_ev _ _ ⟨2, x1, none, 0, 0, none, 0, 0, x2, 0⟩ (by rfl) (by rfl) hY7 (by rfl) ?_)))
              have hYe : Blk V7 w3.heap.size 30 (el ⟨2, x1, none, 0, 0, none, 0, 0, x2, 0⟩) := hY7
              have hIs : Is V7 ⟨2, x1, none, 0, 0, none, 0, 0, x2, 0⟩ (leaseE x1 x2) := ⟨⟨rfl, rfl, rfl, rfl⟩, ⟨rfl, RK.nil _ _⟩, rfl, Reads.nil _ _⟩
              have hOk : ∀ p ∈ (leaseE x1 x2).ps, PoOk p := by simp [leaseE]
              have hFr : Fresh w3.heap.size ⟨2, x1, none, 0, 0, none, 0, 0, x2, 0⟩ := by simp [Fresh]
              have hCd : ∀ e, Wrote bs e → e = leaseE x1 x2 := fun e he => by obtain ⟨x, hq, h, -⟩ := wrote2 HL.out he; simp only [List.cons.injEq, and_true] at hq; rw [hq]; exact h
              have hs1 : (⟨2, x1, none, 0, 0, none, 0, 0, x2, 0⟩ : Eh).pn ≤ 1000 := by simp
              have hs2 : (⟨2, x1, none, 0, 0, none, 0, 0, x2, 0⟩ : Eh).dn ≤ 1000 := by simp
              clear hY7
              have hEn := ends (bs := bs) hOk hCd
              have hRBy := fun {W : World} (hb : Below V7.heap.size V7 W) => ref_BytesE ⟨2, x1, none, 0, 0, none, 0, 0, x2, 0⟩ (leaseE x1 x2) W (hIs.below hb) hOk hs1 hs2
              cases hrt : rightE (leaseE x1 x2) with
              | false =>
                have hRO : readO bs = none := by rw [hEn, hrt]; rfl
                obtain ⟨n1, n2⟩ := rd_none hRO
                obtain rfl : RE = zeroE := HRE.out.trans n1
                obtain rfl : RN = 121 := HRN.out.trans n2
                clear n1 n2 hRO
                have f1 : bytesE (leaseE x1 x2) = [] ∧ errE (leaseE x1 x2) = 121 := by unfold bytesE errE; rw [hrt]; exact ⟨rfl, rfl⟩
                rw [f1.1, f1.2] at hRBy
                clear hEn hCd hrt f1
                go_wp2_with (first
                  | ((fail_if_success (have _ := hB8)); (refine at_load_ev _ _ _ (by rfl) (by rfl) hYe (by rfl) ?_))
                  | ((fail_if_success (have _ := hB8)); (with_reducible refine (hRBy (Below.refl _ _)).mono ?_); rintro e8 w8 ⟨q8, c8, rfl, r8, hB8⟩; have hX8 := hX7.below hB8; have hBw8 := bnext hB17 hB8)
                  | ((fail_if_success (have _ := hXf)); (have _ := hB8); (refine at_build_zero (by rfl) (by rfl) ?_))
                  | ((fail_if_success (have _ := hXf)); (have _ := hB8); (refine at_store_ev _ _ _ _ _ (by rfl) (by rfl) (by rfl) hX8 rfl (by rfl) ?_); intro Vf hXf hgf hzf))
                refine ret_ev2 (by rfl) rfl _ _ rfl hXf ⟨_, rfl, Is.zero _, zero_fresh _, hBw8.grown hgf hBw8.size (by simp)⟩
              | true =>
                have f1 := bytes_right hrt
                rw [f1.1, f1.2] at hRBy
                have hse := str_eq (byte_nums hrt hOk) hb
                obtain ⟨ys, hys⟩ : ∃ ys, ys = Leb.nums (numsE (leaseE x1 x2)) := ⟨_, rfl⟩
                rw [← hys] at hRBy hse hEn
                by_cases hT : ys = bs
                · have hRO : readO bs = some (leaseE x1 x2) := by rw [hEn, if_pos ⟨hrt, hT⟩]
                  obtain ⟨n1, n2⟩ := rd_some hRO
                  obtain rfl : RE = (leaseE x1 x2) := HRE.out.trans n1
                  obtain rfl : RN = 0 := HRN.out.trans n2
                  rw [decide_eq_true hT] at hse
                  clear n1 n2 hRO hEn hCd hrt f1 hys hT
                  go_wp2_with (first
                    | ((fail_if_success (have _ := hB8)); (refine at_load_ev _ _ _ (by rfl) (by rfl) hYe (by rfl) ?_))
                    | ((fail_if_success (have _ := hB8)); (with_reducible refine (hRBy (Below.refl _ _)).mono ?_); rintro e8 w8 ⟨q8, c8, rfl, r8, hB8⟩; have hX8 := hX7.below hB8; have hBw8 := bnext hB17 hB8; have hY8 := hYe.below hB8; have hv1 := conv r8 rfl; have hv2 := hcv hBw8)
                    | ((fail_if_success (have _ := hX9)); (have _ := hB8); (refine at_load_ev _ _ _ (by rfl) (by rfl) hY8 (by rfl) ?_))
                    | ((fail_if_success (have _ := hX9)); (have _ := hB8); (refine at_store_ev _ _ _ _ _ (by rfl) (by rfl) (by rfl) hX8 rfl (by rfl) ?_); intro V9 hX9 hg9 hz9))
                  refine ret_ev2 (by rfl) rfl _ _ rfl hX9 ⟨_, rfl, is_fresh (hIs.below hB8) hg9 hFr hV1, hFr.mono (by omega), hBw8.grown hg9 hBw8.size (by simp)⟩
                · have hRO : readO bs = none := by rw [hEn, if_neg (fun q => hT q.2)]
                  obtain ⟨n1, n2⟩ := rd_none hRO
                  obtain rfl : RE = zeroE := HRE.out.trans n1
                  obtain rfl : RN = 121 := HRN.out.trans n2
                  clear n1 n2 hRO
                  rw [decide_eq_false hT] at hse
                  clear hEn hCd hrt f1 hys hT
                  go_wp2_with (first
                    | ((fail_if_success (have _ := hB8)); (refine at_load_ev _ _ _ (by rfl) (by rfl) hYe (by rfl) ?_))
                    | ((fail_if_success (have _ := hB8)); (with_reducible refine (hRBy (Below.refl _ _)).mono ?_); rintro e8 w8 ⟨q8, c8, rfl, r8, hB8⟩; have hX8 := hX7.below hB8; have hBw8 := bnext hB17 hB8; have hY8 := hYe.below hB8; have hv1 := conv r8 rfl; have hv2 := hcv hBw8)
                    | ((fail_if_success (have _ := hXf)); (have _ := hB8); (refine at_build_zero (by rfl) (by rfl) ?_))
                    | ((fail_if_success (have _ := hXf)); (have _ := hB8); (refine at_store_ev _ _ _ _ _ (by rfl) (by rfl) (by rfl) hX8 rfl (by rfl) ?_); intro Vf hXf hgf hzf))
                  refine ret_ev2 (by rfl) rfl _ _ rfl hXf ⟨_, rfl, Is.zero _, zero_fresh _, hBw8.grown hgf hBw8.size (by simp)⟩
          · have hRO : readO bs = none := none_read fun e he => by obtain ⟨x, h, -⟩ := wrote2 HL.out he; have := hmH.out; rw [h] at this; simp at this; omega
            obtain ⟨n1, n2⟩ := rd_none hRO
            obtain rfl : RE = zeroE := HRE.out.trans n1
            obtain rfl : RN = 121 := HRN.out.trans n2
            clear n1 n2 hRO
            have hmb : ((m : Int) + 2 == 3) = false := by simp; omega
            have hmb' : ((m : Int) + 2 != 3) = true := by simp; omega
            go_enter Try.func18, Try.ntmps18
            go_wp2_with (first
              | ((fail_if_success (have _ := hX1)); (refine at_alloc_ev (by rfl) (by rfl) ?_); intro V1 hX1 hB1 hz1)
              | ((fail_if_success (have _ := hB3)); (have _ := hX1); (with_reducible refine (hA hB1).mono ?_); rintro e w3 ⟨q3, c3, rfl, r3, hB3⟩; have hX3 := hX1.below hB3; have hB13 := bnext hB1 hB3; have hV1 : w.heap.size < w3.heap.size := (by have := hB3.size; have := hz1.out; omega); obtain ⟨b0, o0, rfl, hbl, hcl⟩ := r3.2.2.2 (by simp); have kc := fun {W : World} (hb : Below w3.heap.size w3 W) (i : Nat) (hi : i < m + 2) => (hb.cell (p := ⟨b0, o0 + i, none⟩) hbl).trans (hcl i (by have := hmH.out; (try simp only [List.length_cons, List.length_nil] at this); simp only [List.length_cons]; (try simp only [List.length_nil]); omega)); have hc0 := kc (Below.refl _ _) 0 (by omega); simp only [Nat.add_zero, List.getD_cons_zero] at hc0)
              | ((fail_if_success (have _ := hY4)); (have _ := hB3); (refine at_build_kind _ 2 (by rfl) (by rfl) (by rfl) ?_))
              | ((fail_if_success (have _ := hY4)); (have _ := hB3); (refine at_alloc_ev (by rfl) (by rfl) ?_); intro V4 hY4 hB4 hz4)
              | ((fail_if_success (have _ := hY5)); (have _ := hY4); (refine at_store_ev _ _ _ _ _ (by rfl) (by rfl) (by rfl) hY4 rfl (by rfl) ?_); intro V5 hY5 hg5 hz5; have hB5 := hB4.grown hg5 hB4.size (by simp); have hX5 := hX3.below hB5; have hB15 := bnext hB13 hB5; have hc5 := cells6 hY5; have hc50 := kc hB5 0 (by omega); have hc51 := kc hB5 1 (by omega); simp only [Nat.add_zero, List.getD_cons_zero, List.getD_cons_succ] at hc5 hc50 hc51)
              | ((fail_if_success (have _ := hXf)); (have _ := hY5); (refine at_build_zero (by rfl) (by rfl) ?_))
              | ((fail_if_success (have _ := hXf)); (have _ := hY5); (refine at_store_ev _ _ _ _ _ (by rfl) (by rfl) (by rfl) hX5 rfl (by rfl) ?_); intro Vf hXf hgf hzf))
            refine ret_ev2 (by rfl) rfl _ _ rfl hXf ⟨_, rfl, Is.zero _, zero_fresh _, hB15.grown hgf hB15.size (by simp)⟩
        · go_enter Try.func18, Try.ntmps18
          go_wp2_with (first
            | ((fail_if_success (have _ := hX1)); (refine at_alloc_ev (by rfl) (by rfl) ?_); intro V1 hX1 hB1 hz1)
            | ((fail_if_success (have _ := hB3)); (have _ := hX1); (with_reducible refine (hA hB1).mono ?_); rintro e w3 ⟨q3, c3, rfl, r3, hB3⟩; have hX3 := hX1.below hB3; have hB13 := bnext hB1 hB3; have hV1 : w.heap.size < w3.heap.size := (by have := hB3.size; have := hz1.out; omega); obtain ⟨b0, o0, rfl, hbl, hcl⟩ := r3.2.2.2 (by simp); have kc := fun {W : World} (hb : Below w3.heap.size w3 W) (i : Nat) (hi : i < m + 2) => (hb.cell (p := ⟨b0, o0 + i, none⟩) hbl).trans (hcl i (by have := hmH.out; (try simp only [List.length_cons, List.length_nil] at this); simp only [List.length_cons]; (try simp only [List.length_nil]); omega)); have hc0 := kc (Below.refl _ _) 0 (by omega); simp only [Nat.add_zero, List.getD_cons_zero] at hc0)
            | ((fail_if_success (have _ := hY4)); (have _ := hB3); (refine at_build_kind _ 3 (by rfl) (by rfl) (by rfl) ?_))
            | ((fail_if_success (have _ := hY4)); (have _ := hB3); (refine at_alloc_ev (by rfl) (by rfl) ?_); intro V4 hY4 hB4 hz4)
            | ((fail_if_success (have _ := hY5)); (have _ := hY4); (refine at_store_ev _ _ _ _ _ (by rfl) (by rfl) (by rfl) hY4 rfl (by rfl) ?_); intro V5 hY5 hg5 hz5; have hB5 := hB4.grown hg5 hB4.size (by simp); have hX5 := hX3.below hB5; have hB15 := bnext hB13 hB5; have hc5 := cells6 hY5; have hc50 := kc hB5 0 (by omega); have hc51 := kc hB5 1 (by omega); simp only [Nat.add_zero, List.getD_cons_zero, List.getD_cons_succ] at hc5 hc50 hc51)
            | ((fail_if_success (have _ := hY7)); (have _ := hY5); (refine at_store_u64 _ _ w3.heap.size 5 _ _ x1 (by rfl) (by rfl) (by rfl) hY5 (by decide) (by rfl) ?_); intro V7 hY7 hg7 hz7; have hB7 := hB5.grown hg7 hB5.size (by simp); have hX7 := hX3.below hB7; have hB17 := bnext hB13 hB7)
            | ((have _ := hY7); (refine at_load_ev _ _ ⟨3, 0, none, 0, 0, none, 0, 0, 0, x1⟩ (by rfl) (by rfl) hY7 (by rfl) ?_)))
          have hYe : Blk V7 w3.heap.size 30 (el ⟨3, 0, none, 0, 0, none, 0, 0, 0, x1⟩) := hY7
          have hIs : Is V7 ⟨3, 0, none, 0, 0, none, 0, 0, 0, x1⟩ (periodE x1) := ⟨⟨rfl, rfl, rfl, rfl⟩, ⟨rfl, RK.nil _ _⟩, rfl, Reads.nil _ _⟩
          have hOk : ∀ p ∈ (periodE x1).ps, PoOk p := by simp [periodE]
          have hFr : Fresh w3.heap.size ⟨3, 0, none, 0, 0, none, 0, 0, 0, x1⟩ := by simp [Fresh]
          have hCd : ∀ e, Wrote bs e → e = periodE x1 := fun e he => wrote3 HL.out he
          have hs1 : (⟨3, 0, none, 0, 0, none, 0, 0, 0, x1⟩ : Eh).pn ≤ 1000 := by simp
          have hs2 : (⟨3, 0, none, 0, 0, none, 0, 0, 0, x1⟩ : Eh).dn ≤ 1000 := by simp
          clear hY7
          have hEn := ends (bs := bs) hOk hCd
          have hRBy := fun {W : World} (hb : Below V7.heap.size V7 W) => ref_BytesE ⟨3, 0, none, 0, 0, none, 0, 0, 0, x1⟩ (periodE x1) W (hIs.below hb) hOk hs1 hs2
          cases hrt : rightE (periodE x1) with
          | false =>
            have hRO : readO bs = none := by rw [hEn, hrt]; rfl
            obtain ⟨n1, n2⟩ := rd_none hRO
            obtain rfl : RE = zeroE := HRE.out.trans n1
            obtain rfl : RN = 121 := HRN.out.trans n2
            clear n1 n2 hRO
            have f1 : bytesE (periodE x1) = [] ∧ errE (periodE x1) = 121 := by unfold bytesE errE; rw [hrt]; exact ⟨rfl, rfl⟩
            rw [f1.1, f1.2] at hRBy
            clear hEn hCd hrt f1
            go_wp2_with (first
              | ((fail_if_success (have _ := hB8)); (refine at_load_ev _ _ _ (by rfl) (by rfl) hYe (by rfl) ?_))
              | ((fail_if_success (have _ := hB8)); (with_reducible refine (hRBy (Below.refl _ _)).mono ?_); rintro e8 w8 ⟨q8, c8, rfl, r8, hB8⟩; have hX8 := hX7.below hB8; have hBw8 := bnext hB17 hB8)
              | ((fail_if_success (have _ := hXf)); (have _ := hB8); (refine at_build_zero (by rfl) (by rfl) ?_))
              | ((fail_if_success (have _ := hXf)); (have _ := hB8); (refine at_store_ev _ _ _ _ _ (by rfl) (by rfl) (by rfl) hX8 rfl (by rfl) ?_); intro Vf hXf hgf hzf))
            refine ret_ev2 (by rfl) rfl _ _ rfl hXf ⟨_, rfl, Is.zero _, zero_fresh _, hBw8.grown hgf hBw8.size (by simp)⟩
          | true =>
            have f1 := bytes_right hrt
            rw [f1.1, f1.2] at hRBy
            have hse := str_eq (byte_nums hrt hOk) hb
            obtain ⟨ys, hys⟩ : ∃ ys, ys = Leb.nums (numsE (periodE x1)) := ⟨_, rfl⟩
            rw [← hys] at hRBy hse hEn
            by_cases hT : ys = bs
            · have hRO : readO bs = some (periodE x1) := by rw [hEn, if_pos ⟨hrt, hT⟩]
              obtain ⟨n1, n2⟩ := rd_some hRO
              obtain rfl : RE = (periodE x1) := HRE.out.trans n1
              obtain rfl : RN = 0 := HRN.out.trans n2
              rw [decide_eq_true hT] at hse
              clear n1 n2 hRO hEn hCd hrt f1 hys hT
              go_wp2_with (first
                | ((fail_if_success (have _ := hB8)); (refine at_load_ev _ _ _ (by rfl) (by rfl) hYe (by rfl) ?_))
                | ((fail_if_success (have _ := hB8)); (with_reducible refine (hRBy (Below.refl _ _)).mono ?_); rintro e8 w8 ⟨q8, c8, rfl, r8, hB8⟩; have hX8 := hX7.below hB8; have hBw8 := bnext hB17 hB8; have hY8 := hYe.below hB8; have hv1 := conv r8 rfl; have hv2 := hcv hBw8)
                | ((fail_if_success (have _ := hX9)); (have _ := hB8); (refine at_load_ev _ _ _ (by rfl) (by rfl) hY8 (by rfl) ?_))
                | ((fail_if_success (have _ := hX9)); (have _ := hB8); (refine at_store_ev _ _ _ _ _ (by rfl) (by rfl) (by rfl) hX8 rfl (by rfl) ?_); intro V9 hX9 hg9 hz9))
              refine ret_ev2 (by rfl) rfl _ _ rfl hX9 ⟨_, rfl, is_fresh (hIs.below hB8) hg9 hFr hV1, hFr.mono (by omega), hBw8.grown hg9 hBw8.size (by simp)⟩
            · have hRO : readO bs = none := by rw [hEn, if_neg (fun q => hT q.2)]
              obtain ⟨n1, n2⟩ := rd_none hRO
              obtain rfl : RE = zeroE := HRE.out.trans n1
              obtain rfl : RN = 121 := HRN.out.trans n2
              clear n1 n2 hRO
              rw [decide_eq_false hT] at hse
              clear hEn hCd hrt f1 hys hT
              go_wp2_with (first
                | ((fail_if_success (have _ := hB8)); (refine at_load_ev _ _ _ (by rfl) (by rfl) hYe (by rfl) ?_))
                | ((fail_if_success (have _ := hB8)); (with_reducible refine (hRBy (Below.refl _ _)).mono ?_); rintro e8 w8 ⟨q8, c8, rfl, r8, hB8⟩; have hX8 := hX7.below hB8; have hBw8 := bnext hB17 hB8; have hY8 := hYe.below hB8; have hv1 := conv r8 rfl; have hv2 := hcv hBw8)
                | ((fail_if_success (have _ := hXf)); (have _ := hB8); (refine at_build_zero (by rfl) (by rfl) ?_))
                | ((fail_if_success (have _ := hXf)); (have _ := hB8); (refine at_store_ev _ _ _ _ _ (by rfl) (by rfl) (by rfl) hX8 rfl (by rfl) ?_); intro Vf hXf hgf hzf))
              refine ret_ev2 (by rfl) rfl _ _ rfl hXf ⟨_, rfl, Is.zero _, zero_fresh _, hBw8.grown hgf hBw8.size (by simp)⟩
    · have hlt : ((l.length : Nat) : Int) < 2 := by omega
      obtain ⟨m, hm⟩ : ∃ m, l.length = m := ⟨_, rfl⟩
      rw [hm] at hA hlt
      have hRO : readO bs = none := by unfold readO; rw [HL.out, if_neg (by rintro ⟨-, h⟩; exact h2 h)]
      obtain ⟨n1, n2⟩ := rd_none hRO
      obtain rfl : RE = zeroE := HRE.out.trans n1
      obtain rfl : RN = 121 := HRN.out.trans n2
      clear n1 n2 hRO
      clear h2 hm
      go_enter Try.func18, Try.ntmps18
      go_wp2_with (first
        | ((fail_if_success (have _ := hX1)); (refine at_alloc_ev (by rfl) (by rfl) ?_); intro V1 hX1 hB1 hz1)
        | ((fail_if_success (have _ := hB3)); (have _ := hX1); (with_reducible refine (hA hB1).mono ?_); rintro e w3 ⟨q3, c3, rfl, r3, hB3⟩; have hX3 := hX1.below hB3; have hB13 := bnext hB1 hB3)
        | ((fail_if_success (have _ := hXf)); (have _ := hB3); (refine at_build_zero (by rfl) (by rfl) ?_))
        | ((fail_if_success (have _ := hXf)); (have _ := hB3); (refine at_store_ev _ _ _ _ _ (by rfl) (by rfl) (by rfl) hX3 rfl (by rfl) ?_); intro Vf hXf hgf hzf))
      refine ret_ev2 (by rfl) rfl _ _ rfl hXf ⟨_, rfl, Is.zero _, zero_fresh _, hB13.grown hgf hB13.size (by simp)⟩
end Go.Proofs.Ytfgndecnakfhnaa.Event
