/-
  Whole or not there: some sectors of a record in the place of those of another one. (Written by gen_torn.py.)
-/
import Derived.Test.YtdjcdpmnijcenaaFrameCopy
import Derived.Test.YtdjcdpmnijcenaaFrameArgs
import Derived.Test.YtdjcdpmnijcenaaFrameBack
namespace Go.Proofs.Ytdjcdpmnijcenaa.Frame
open Go.RowKit Go.Proofs.Ytdjcdpmnijcenaa.Mem Go.Proofs.Ytdjcdpmnijcenaa.Sect Go.Proofs.Ytdjcdpmnijcenaa.Crc
set_option maxRecDepth 100000

theorem gdrew (w : World) (row : Option Nat) : w.grownBy w.drew row := ⟨rfl, rfl, rfl, Nat.le_refl _, fun _ _ _ => rfl⟩
theorem gdrewN (w : World) (n : Nat) (row : Option Nat) : w.grownBy (w.drewN n) row := ⟨rfl, rfl, rfl, Nat.le_refl _, fun _ _ _ => rfl⟩
theorem take_set_self (D : List Sec) (j : Nat) (y : Sec) : (D.set j y).take j = D.take j := by
  rw [List.take_set_of_le (Nat.le_refl j)]
/-- The element j of a slice that is known: where it lies. -/
theorem rk_sec {w : World} {q : Option Addr} {c j : Nat} {L : List Sec} {y : Sec} (r : RK sc w q c L) (hy : L[j]? = some y) : ∃ b o, q = some ⟨b, o, none⟩ ∧ b < w.heap.size ∧ w.rangeAt b (o + j * 64) (sc y) := by
  obtain ⟨b, o, h1, h2, h3⟩ := r.at sc_len hy
  exact ⟨b, o, h1, h2, h3⟩
theorem right_zero {s : Nat} {xs : List Int} (h : right s xs = false) (h7 : xs.length ≤ 700) : s = 0 := by
  unfold right at h
  simp only [Bool.and_eq_false_iff, decide_eq_false_iff_not] at h
  omega
set_option maxHeartbeats 8000000 in
theorem torn_any (s e : Nat) (q : Option Addr) (n c : Nat) (xs : List Int) (s2 e2 : Nat) (q2 : Option Addr) (n2 c2 : Nat) (ys : List Int) (q3 : Option Addr) (n3 c3 : Nat) (ks : List Bool) (hs : s < 18446744073709551616) (he : e < 4294967296) (l : xs.length = n) (hb : ∀ c ∈ xs, Byte c) (hs2 : s2 < 18446744073709551616) (he2 : e2 < 4294967296) (l2 : ys.length = n2) (hb2 : ∀ c ∈ ys, Byte c) (l3 : ks.length = n3) (w : World) (r : Reads .u8 w q c xs) (r2 : Reads .u8 w q2 c2 ys) (r3 : RK bc w q3 c3 ks) :
    Calls Try.prog 7 #[.agg #[.int .u64 (s : Int), .int .u32 (e : Int), .slice q n c], .agg #[.int .u64 (s2 : Int), .int .u32 (e2 : Int), .slice q2 n2 c2], .slice q3 n3 c3] w fun e w' => e = .returned (.bool true) ∧ Below w.heap.size w w' := by
  have ha := fun w => alive_any w
  have Y := (Blk.new w #[.int .u64 (s : Int), .int .u32 (e : Int), .slice q n c] 30).alloc (.cells #[.int .u64 (s2 : Int), .int .u32 (e2 : Int), .slice q2 n2 c2] 30)
  have V := Blk.new1 (w.alloc (.cells #[.int .u64 (s : Int), .int .u32 (e : Int), .slice q n c] 30)) (G := w.heap.size + 1) (by simp) #[.int .u64 (s2 : Int), .int .u32 (e2 : Int), .slice q2 n2 c2] 30
  have hB := (bnew w (.cells #[.int .u64 (s : Int), .int .u32 (e : Int), .slice q n c] 30)).alloc (by simp) (.cells #[.int .u64 (s2 : Int), .int .u32 (e2 : Int), .slice q2 n2 c2] 30)
  by_cases h2 : 700 < n
  · have d : decide ((700 : Int) < (n : Int)) = true := by simp; omega
    go_enter Try.func7, Try.ntmps7
    go_wp2_with (go_at_call 11; refine (ha _).mono ?_; rintro x w1 ⟨rfl, hb1⟩; have k1 := (Y.below hb1).cell; have j1 := (V.below hb1).cell)
    go_ret
    exact ⟨rfl, bnext hB hb1⟩
  have d : decide ((700 : Int) < (n : Int)) = false := by simp; omega
  by_cases h4 : 700 < n2
  · have d2 : decide ((700 : Int) < (n2 : Int)) = true := by simp; omega
    go_enter Try.func7, Try.ntmps7
    go_wp2_with (go_at_call 11; refine (ha _).mono ?_; rintro x w1 ⟨rfl, hb1⟩; have k1 := (Y.below hb1).cell; have j1 := (V.below hb1).cell)
    go_ret
    exact ⟨rfl, bnext hB hb1⟩
  have d2 : decide ((700 : Int) < (n2 : Int)) = false := by simp; omega
  by_cases h6 : 40 < n3
  · have d3 : decide ((40 : Int) < (n3 : Int)) = true := by simp; omega
    go_enter Try.func7, Try.ntmps7
    go_wp2_with (go_at_call 11; refine (ha _).mono ?_; rintro x w1 ⟨rfl, hb1⟩; have k1 := (Y.below hb1).cell; have j1 := (V.below hb1).cell)
    go_ret
    exact ⟨rfl, bnext hB hb1⟩
  have d3 : decide ((40 : Int) < (n3 : Int)) = false := by simp; omega
  have hM := fun W (hW : Reads .u8 W q c xs) => frame_Make s e q n c xs l hs he hb W hW
  have hN := fun W (hW : Reads .u8 W q2 c2 ys) => frame_Make s2 e2 q2 n2 c2 ys l2 hs2 he2 hb2 W hW
  have hft : fault s xs = if right s xs then 0 else 81 := rfl
  have hfu : fault s2 ys = if right s2 ys then 0 else 81 := rfl
  rw [hft] at hM
  rw [hfu] at hN
  cases hR : right s xs with
  | false =>
    obtain rfl := right_zero hR (by omega)
    rw [hR] at hM
    obtain ⟨F, hF⟩ : ∃ F : Int, (if right s2 ys = true then (0 : Int) else 81) = F := ⟨_, rfl⟩
    rw [hF] at hN
    replace hM : ∀ W, Reads .u8 W q c xs → Calls Try.prog 9 #[.agg #[.int .u64 0, .int .u32 (e : Int), .slice q n c]] W fun x w' => ∃ q' c', x = .returned (.tuple #[.slice q' (made 0 e xs).length c', .int .i64 81]) ∧ RK sc w' q' c' (made 0 e xs) ∧ Below W.heap.size W w' := hM
    generalize (made 0 e xs).length = X1 at *
    generalize (made s2 e2 ys).length = X2 at *
    clear hF hft hfu hR
    go_enter Try.func7, Try.ntmps7
    go_wp2_with (first
      | (go_at_call 11; refine (ha _).mono ?_; rintro x w1 ⟨rfl, hb1⟩; have Y1 := Y.below hb1; have V1 := V.below hb1; have k1 := Y1.cell; have j1 := V1.cell; have hB1 := bnext hB hb1; have rp1 := r.below hB1; have rq1 := r2.below hB1)
      | (go_at_call 9; (with_reducible refine (hM w1 rp1).mono ?_); rintro x w3 ⟨q4, c4, rfl, rk4, hb3⟩; have Y3 := Y1.below hb3; have V3 := V1.below hb3; have k3 := Y3.cell; have j3 := V3.cell; have hB3 := bnext hB1 hb3; have rq3 := rq1.below hb3)
      | (go_at_call 9; (with_reducible refine (hN w3 rq3).mono ?_); rintro x w5 ⟨q5, c5, rfl, rk5, hb5⟩; have Y5 := Y3.below hb5; have V5 := V3.below hb5; have k5 := Y5.cell; have j5 := V5.cell; have hB5 := bnext hB3 hb5))
    go_ret
    exact ⟨rfl, hB5⟩
  | true =>
    rw [hR] at hM
    replace hM : ∀ W, Reads .u8 W q c xs → Calls Try.prog 9 #[.agg #[.int .u64 (s : Int), .int .u32 (e : Int), .slice q n c]] W fun x w' => ∃ q' c', x = .returned (.tuple #[.slice q' (made s e xs).length c', .int .i64 0]) ∧ RK sc w' q' c' (made s e xs) ∧ Below W.heap.size W w' := hM
    cases hR2 : right s2 ys with
    | false =>
      obtain rfl := right_zero hR2 (by omega)
      rw [hR2] at hN
      replace hN : ∀ W, Reads .u8 W q2 c2 ys → Calls Try.prog 9 #[.agg #[.int .u64 0, .int .u32 (e2 : Int), .slice q2 n2 c2]] W fun x w' => ∃ q' c', x = .returned (.tuple #[.slice q' (made 0 e2 ys).length c', .int .i64 81]) ∧ RK sc w' q' c' (made 0 e2 ys) ∧ Below W.heap.size W w' := hN
      have hs0 : ((s : Int) == 0) = false := by
        have : 0 < s := by simp [right] at hR; omega
        simp; omega
      generalize (made s e xs).length = X1 at *
      generalize (made 0 e2 ys).length = X2 at *
      clear hft hfu hR hR2
      go_enter Try.func7, Try.ntmps7
      go_wp2_with (first
        | (go_at_call 11; refine (ha _).mono ?_; rintro x w1 ⟨rfl, hb1⟩; have Y1 := Y.below hb1; have V1 := V.below hb1; have k1 := Y1.cell; have j1 := V1.cell; have hB1 := bnext hB hb1; have rp1 := r.below hB1; have rq1 := r2.below hB1)
        | (go_at_call 9; (with_reducible refine (hM w1 rp1).mono ?_); rintro x w3 ⟨q4, c4, rfl, rk4, hb3⟩; have Y3 := Y1.below hb3; have V3 := V1.below hb3; have k3 := Y3.cell; have j3 := V3.cell; have hB3 := bnext hB1 hb3; have rq3 := rq1.below hb3)
        | (go_at_call 9; (with_reducible refine (hN w3 rq3).mono ?_); rintro x w5 ⟨q5, c5, rfl, rk5, hb5⟩; have Y5 := Y3.below hb5; have V5 := V3.below hb5; have k5 := Y5.cell; have j5 := V5.cell; have hB5 := bnext hB3 hb5))
      go_ret
      exact ⟨rfl, hB5⟩
    | true =>
      rw [hR2] at hN
      replace hN : ∀ W, Reads .u8 W q2 c2 ys → Calls Try.prog 9 #[.agg #[.int .u64 (s2 : Int), .int .u32 (e2 : Int), .slice q2 n2 c2]] W fun x w' => ∃ q' c', x = .returned (.tuple #[.slice q' (made s2 e2 ys).length c', .int .i64 0]) ∧ RK sc w' q' c' (made s2 e2 ys) ∧ Below W.heap.size W w' := hN
      have hgm := fun more => got_made (s := s2) (e := e2) (p := ys) hR2 hs2 he2 more
      have f1 := made_few s e xs
      have f2 := made_few s2 e2 ys
      have o1 : ∀ x ∈ made s e xs, SecOk x := made_bytes hb
      have o2 : ∀ x ∈ made s2 e2 ys, SecOk x := made_bytes hb2
      have p1 : 0 < (made s e xs).length := by
        rw [made_len hR]
        exact (size_fits (by omega)).2.2.1
      have p2 : 0 < (made s2 e2 ys).length := by
        rw [made_len hR2]
        exact (size_fits (by omega)).2.2.1
      generalize made s e xs = M1 at *
      generalize made s2 e2 ys = M2 at *
      obtain ⟨X1, hX1⟩ : ∃ X1, M1.length = X1 := ⟨_, rfl⟩
      obtain ⟨X2, hX2⟩ : ∃ X2, M2.length = X2 := ⟨_, rfl⟩
      rw [hX1] at hM f1 p1
      rw [hX2] at hN f2 p2
      have HG : Hid (∀ more, got (M2 ++ more) = ⟨true, X2, s2, e2, ys⟩) := fun more => by rw [hgm more, hX2]
      have HX1 : Hid (M1.length = X1) := hX1
      have HX2 : Hid (M2.length = X2) := hX2
      clear hgm hft hfu hR hR2 hX1 hX2
      go_enter Try.func7, Try.ntmps7
      go_wp2_with (first
        | (go_at_call 11; refine (ha _).mono ?_; rintro x w1 ⟨rfl, hb1⟩; have Y1 := Y.below hb1; have V1 := V.below hb1; have k1 := Y1.cell; have j1 := V1.cell; have hB1 := bnext hB hb1; have rp1 := r.below hB1; have rq1 := r2.below hB1)
        | (go_at_call 9; (with_reducible refine (hM w1 rp1).mono ?_); rintro x w3 ⟨q4, c4, rfl, rk4, hb3⟩; have Y3 := Y1.below hb3; have V3 := V1.below hb3; have k3 := Y3.cell; have j3 := V3.cell; have hB3 := bnext hB1 hb3; have rq3 := rq1.below hb3)
        | (go_at_call 9; (with_reducible refine (hN w3 rq3).mono ?_); rintro x w5 ⟨q5, c5, rfl, rk5, hb5⟩; have Y5 := Y3.below hb5; have V5 := V3.below hb5; have hB5 := bnext hB3 hb5))
      obtain ⟨w6, hmk, O6, G6⟩ := run_make_secs w5 12 12 rfl (by omega)
      have B6 : Blk w6 w5.heap.size 44 (bs (flat (List.replicate 12 zero))) := by
        rcases O6.2 with ⟨h, _⟩ | ⟨g, cap, cur, hv, _, hh, _, _, hcs, htk⟩
        · simp at h
        · simp only [Value.slice.injEq, Option.some.injEq, Addr.mk.injEq, and_true, true_and] at hv
          obtain ⟨rfl, rfl⟩ := hv
          unfold Blk
          rw [hh]
          rw [List.take_of_length_le (by rw [Array.length_toList, hcs]; exact Nat.le_refl _), sc_flat] at htk
          rw [← htk]
      have hb6 : Below w5.heap.size w5 w6 := (Below.refl _ _).grown G6 (Nat.le_refl _) (by simp)
      have Y6 := Y5.below hb6
      have V6 := V5.below hb6
      have hB6 := bnext hB5 hb6
      have rk6 := (rk4.below hb5).below hb6
      have rl6 := rk5.below hb6
      have hk5 : ∀ a, q5 = some a → a.block < w5.heap.size := by
        intro a ha
        obtain ⟨b', o', e', hlt, _⟩ := rk5.2.2.2 (by have := HX2.out; omega)
        rw [e'] at ha
        obtain rfl := Option.some.inj ha
        exact hlt
      have hwY := Y5.lt
      have hwV := V5.lt
      have hgl := B6.lt
      clear O6 G6 hb6 Y1 Y3 Y5 V1 V3 V5 k1 k3 j1 j3 rk4 rk5 hb1 hb3 hb5 hB1 hB3 hB5 rp1 rq1 rq3 Y V hB hM hN ha
      generalize w5.heap.size = g at *
      simp only [hmk, Result.andThen_ok]
      go_wp2_with (refine at_copy_secs (by rfl) _ _ (by rfl) g _ (List.replicate 12 zero) M1 12 X1 12 c4 q4 (by rfl) (by rfl) B6 (by rfl) HX1.out p1 f1 rk6 ?_; intro w7 B7 G7)
      have Y7 := Y6.kept G7 (by simp; omega)
      have V7 := V6.kept G7 (by simp; omega)
      have rl7 := kept_rk rl6 G7 (fun _ a ha q => by have := hk5 a ha; simp at q; omega)
      have hB7 : Below w.heap.size w w7 := hB6.grown G7 hB6.size (fun j hj => by simp at hj; omega)
      have rp7 := r.below hB7
      have rq7 := r2.below hB7
      have rk7 := r3.below hB7
      have hgl7 : g < w7.heap.size := B7.lt
      have o7 : ∀ x ∈ M1 ++ (List.replicate 12 zero).drop X1, SecOk x := fun x hx => by
        rcases List.mem_append.1 hx with hx | hx
        · exact o1 x hx
        · rw [List.eq_of_mem_replicate (List.mem_of_mem_drop hx)]
          intro c hc
          rw [List.eq_of_mem_replicate hc]
          exact ⟨by decide, by decide⟩
      have l7 : (M1 ++ (List.replicate 12 zero).drop X1).length = 12 := by rw [List.length_append, List.length_drop, List.length_replicate, HX1.out]; omega
      generalize M1 ++ (List.replicate 12 zero).drop X1 = D0 at *
      clear B6 Y6 V6 rk6 rl6 G7 hB6 hmk HX1 o1 p1 f1
      go_wp2
      go_loopw [12, 67] (fun v i wr => ∃ (j : Nat) (D : List Sec) (wh : Bool), j ≤ X2 ∧ i = .int .i64 (j : Int) ∧ v = .bool wh ∧ D.length = 12 ∧ (∀ x ∈ D, SecOk x) ∧ Blk wr g 44 (bs (flat D)) ∧ Hid (wh = true → D.take j = M2.take j) ∧ w7.grownBy wr (some g)) (fun _ i _ => X2 - (intOf i).toNat)
      case atStart => exact ⟨0, D0, true, by omega, rfl, rfl, l7, o7, B7, fun _ => by simp, World.grownBy.refl _ _⟩
      case round =>
        obtain ⟨j, D, wh, hj, rfl, rfl, lD, oD, BD, HT, gD⟩ := hrel
        clear B7
        by_cases hjX : j < X2
        · have hjX' : (j : Int) < (X2 : Int) := by omega
          have hj12 : (j : Int) < 12 := by omega
          have hjn12 : j < 12 := by omega
          obtain ⟨y, hy⟩ : ∃ y, M2[j]? = some y := ⟨_, List.getElem?_eq_getElem (by have := HX2.out; omega)⟩
          have hoy : SecOk y := o2 y (List.mem_of_getElem? hy)
          obtain ⟨b5, a5, rfl, hlt5, hc5⟩ := rk_sec rl7 hy
          have hb5 : b5 ≠ g := by have := hk5 _ rfl; simp at this; omega
          have hR5 : ∀ {W : World}, w7.grownBy W (some g) → W.rangeAt b5 (a5 + j * 64) (sc y) := fun h j' v hv => h.cell (hc5 j' v hv) (by simp; omega)
          by_cases hjn : j < n3
          · obtain ⟨kb, hkb⟩ : ∃ kb, ks[j]? = some kb := ⟨_, List.getElem?_eq_getElem (by omega)⟩
            obtain ⟨b8, a8, rfl, hlt8, hc8⟩ := r3.at bc_len hkb
            have hk8 : wr.cell? ⟨b8, a8 + j, none⟩ = some (.bool kb) := by
              have := hc8 0 _ rfl
              rw [Nat.mul_one, Nat.add_zero, ← hB7.cell (p := ⟨b8, a8 + j, none⟩) hlt8] at this
              exact gD.cell this (by simp; omega)
            have hjn' : (j : Int) < (n3 : Int) := by omega
            have djn : decide ((j : Int) < (n3 : Int)) = true := by simp; omega
            clear hkb hc8
            cases kb with
            | true =>
              go_wp2_with (first
                | (refine at_load_sec _ _ _ _ (by rfl) (by rfl) (hR5 gD) (by rfl) ?_)
                | (refine at_store_in _ _ g _ D j y (by rfl) (by rfl) (by rfl) BD (by omega) (by rfl) ?_; intro W9 B9 G9))
              have lD9 : (D.set j y).length = 12 := by rw [List.length_set]; exact lD
              have oD9 : ∀ x ∈ D.set j y, SecOk x := fun x hx => by
                rcases List.mem_or_eq_of_mem_set hx with h | h
                · exact oD x h
                · rw [h]; exact hoy
              have g9 := World.grownBy.trans gD G9
              clear BD
              cases wh with
              | false =>
                clear HT
                refine Inv.region_inv (fun L a w' => a = { tmps := #[(.agg #[.int .u64 (s : Int), .int .u32 (e : Int), .slice q n c]), (.agg #[.int .u64 (s2 : Int), .int .u32 (e2 : Int), .slice q2 n2 c2]), (.slice (some ⟨b8, a8, none⟩) n3 c3), (.pointer (some ⟨w.heap.size, 0, none⟩)), (.pointer (some ⟨w.heap.size + 1, 0, none⟩)), undef, (.bool false), (.slice q4 X1 c4), (.int .i64 0), (.slice (some ⟨b5, a5, none⟩) X2 c5), (.int .i64 0), (.slice (some ⟨g, 0, none⟩) 12 12), (.bool false), (.int .i64 (j : Int)), undef, undef, undef, undef, undef, undef, (.bool true), (.bool false), (.pointer (some ⟨w.heap.size, 2, none⟩)), (.slice q n c), (.int .i64 (n : Int)), (.bool false), (.bool false), (.pointer (some ⟨w.heap.size + 1, 2, none⟩)), (.slice q2 n2 c2), (.int .i64 (n2 : Int)), (.bool false), (.bool false), (.bool false), (.slice (some ⟨b8, a8, none⟩) n3 c3), (.int .i64 (n3 : Int)), (.bool false), (.bool false), (.tuple #[.slice q4 X1 c4, .int .i64 0]), (.agg #[.int .u64 (s : Int), .int .u32 (e : Int), .slice q n c]), (.tuple #[.slice q4 X1 c4, .int .i64 0]), (.slice q4 X1 c4), (.int .i64 0), (.tuple #[.slice (some ⟨b5, a5, none⟩) X2 c5, .int .i64 0]), (.agg #[.int .u64 (s2 : Int), .int .u32 (e2 : Int), .slice q2 n2 c2]), (.tuple #[.slice (some ⟨b5, a5, none⟩) X2 c5, .int .i64 0]), (.slice (some ⟨b5, a5, none⟩) X2 c5), (.int .i64 0), (.int .i64 0), (.bool false), (.bool false), (.int .i64 0), (.bool false), (.bool false), undef, undef, undef, undef, undef, undef, undef, undef, (.slice (some ⟨g, 0, none⟩) 12 12), (.slice (some ⟨g, 0, none⟩) 12 12), (.slice q4 X1 c4), (.int .i64 (X1 : Int)), (.slice (some ⟨b5, a5, none⟩) X2 c5), (.int .i64 (X2 : Int)), (.int .i64 (j : Int)), (.bool true), (.int .i64 (j : Int)), (.int .i64 (j : Int)), (.slice (some ⟨b8, a8, none⟩) n3 c3), (.int .i64 (n3 : Int)), (.bool true), (.bool true), (.slice (some ⟨b8, a8, none⟩) n3 c3), (.int .i64 (j : Int)), (.pointer (some ⟨b8, a8 + j, none⟩)), (.bool true), (.bool true), (.slice (some ⟨g, 0, none⟩) 12 12), (.int .i64 (j : Int)), (.slice (some ⟨b5, a5, none⟩) X2 c5), (.int .i64 (j : Int)), (.pointer (some ⟨b5, a5 + j * 64, none⟩)), (secv y), (.pointer (some ⟨g, j * 64, none⟩)), (if L 0 = true then (.bool false) else u87), (if L 1 = true then (.bool false) else u88), (if L 2 = true then undef else u89), (if L 3 = true then undef else u90), (if L 4 = true then undef else u91), (if L 5 = true then undef else u92), (if L 6 = true then undef else u93), (if L 7 = true then undef else u94), (if L 8 = true then undef else u95), (if L 9 = true then undef else u96), (if L 10 = true then undef else u97), (if L 11 = true then (.bool false) else u98), u99, undef, undef, undef, undef, undef, undef, undef, undef, undef, undef, undef, undef, undef, undef, undef, undef, undef, undef, undef, undef, undef, undef, undef, undef, undef, undef, undef, undef, undef, undef, undef, undef, undef, undef, undef, undef, undef, undef, undef, undef], defers := [] } ∧ (w7.grownBy w' (some g) ∧ Blk w' g 44 (bs (flat (D.set j y))))) (by kernel_rfl) (by kernel_rfl) ?h0 ?step ?done
                case h0 => exact ⟨by simp [Act.put], ⟨World.grownBy.trans g9 (gdrew _ _), B9.drew⟩⟩
                case step =>
                  refine Inv.Steps.cons rfl ?_ ?_
                  · intro L a w' hI hL hd K hK
                    obtain ⟨rfl, hI⟩ := hI
                    clear hd
                    rw [if_pos (by rfl)]
                    go_simp
                    exact hK.out _ _ ⟨by simp, hI⟩
                  refine Inv.Steps.cons rfl ?_ ?_
                  · intro L a w' hI hL hd K hK
                    obtain ⟨rfl, hI⟩ := hI
                    simp [Region.binds] at hd
                    simp only [hd, if_true]
                    rw [if_pos (by rfl)]
                    go_simp
                    exact hK.out _ _ ⟨by simp [hd], hI⟩
                  refine Inv.Steps.cons rfl ?_ ?_
                  · intro L a w' hI hL hd K hK
                    obtain ⟨rfl, hI⟩ := hI
                    simp [Region.binds] at hd
                    simp only [hd, if_true]
                    rw [if_neg (Bool.eq_false_iff.1 (by rfl))]
                    exact hK.out _ _ ⟨by simp [hd, Act.put], hI⟩
                  refine Inv.Steps.cons rfl ?_ ?_
                  · intro L a w' hI hL hd K hK
                    obtain ⟨rfl, hI⟩ := hI
                    simp [Region.binds] at hd
                    simp only [hd, if_true]
                    rw [if_neg (Bool.eq_false_iff.1 (by rfl))]
                    exact hK.out _ _ ⟨by simp [hd, Act.put], hI⟩
                  refine Inv.Steps.cons rfl ?_ ?_
                  · intro L a w' hI hL hd K hK
                    obtain ⟨rfl, hI⟩ := hI
                    simp [Region.binds] at hd
                    simp only [hd, if_true]
                    rw [if_neg (Bool.eq_false_iff.1 (by rfl))]
                    exact hK.out _ _ ⟨by simp [hd, Act.put], hI⟩
                  refine Inv.Steps.cons rfl ?_ ?_
                  · intro L a w' hI hL hd K hK
                    obtain ⟨rfl, hI⟩ := hI
                    simp [Region.binds] at hd
                    simp only [hd, if_true]
                    rw [if_neg (Bool.eq_false_iff.1 (by rfl))]
                    exact hK.out _ _ ⟨by simp [hd, Act.put], hI⟩
                  refine Inv.Steps.cons rfl ?_ ?_
                  · intro L a w' hI hL hd K hK
                    obtain ⟨rfl, hI⟩ := hI
                    simp [Region.binds] at hd
                    simp only [hd, if_true]
                    rw [if_neg (Bool.eq_false_iff.1 (by rfl))]
                    exact hK.out _ _ ⟨by simp [hd, Act.put], hI⟩
                  refine Inv.Steps.cons rfl ?_ ?_
                  · intro L a w' hI hL hd K hK
                    obtain ⟨rfl, hI⟩ := hI
                    simp [Region.binds] at hd
                    simp only [hd, if_true]
                    rw [if_neg (Bool.eq_false_iff.1 (by rfl))]
                    exact hK.out _ _ ⟨by simp [hd, Act.put], hI⟩
                  refine Inv.Steps.cons rfl ?_ ?_
                  · intro L a w' hI hL hd K hK
                    obtain ⟨rfl, hI⟩ := hI
                    simp [Region.binds] at hd
                    simp only [hd, if_true]
                    rw [if_neg (Bool.eq_false_iff.1 (by rfl))]
                    exact hK.out _ _ ⟨by simp [hd, Act.put], hI⟩
                  refine Inv.Steps.cons rfl ?_ ?_
                  · intro L a w' hI hL hd K hK
                    obtain ⟨rfl, hI⟩ := hI
                    simp [Region.binds] at hd
                    simp only [hd, if_true]
                    rw [if_neg (Bool.eq_false_iff.1 (by rfl))]
                    exact hK.out _ _ ⟨by simp [hd, Act.put], hI⟩
                  refine Inv.Steps.cons rfl ?_ ?_
                  · intro L a w' hI hL hd K hK
                    obtain ⟨rfl, hI⟩ := hI
                    simp [Region.binds] at hd
                    simp only [hd, if_true]
                    rw [if_neg (Bool.eq_false_iff.1 (by rfl))]
                    exact hK.out _ _ ⟨by simp [hd, Act.put], hI⟩
                  refine Inv.Steps.cons rfl ?_ ?_
                  · intro L a w' hI hL hd K hK
                    obtain ⟨rfl, hI⟩ := hI
                    simp [Region.binds] at hd
                    simp only [hd, if_true]
                    rw [if_pos (by rfl)]
                    go_simp
                    exact hK.out _ _ ⟨by simp [hd], hI⟩
                  refine Inv.Steps.cons rfl ?_ ?_
                  · intro L a w' hI hL hd K hK
                    obtain ⟨rfl, hI⟩ := hI
                    simp [Region.binds] at hd
                    simp only [hd, if_true]
                    rw [if_pos (by rfl)]
                    go_simp
                    exact hK.out _ _ ⟨by simp [hd], hI⟩
                  exact Inv.Steps.nil (by decide)
                case done =>
                  intro L a w' hI hall
                  obtain ⟨rfl, hI⟩ := hI
                  simp only [hall, if_true] at hI ⊢
                  obtain ⟨hI1, hI2⟩ := hI
                  go_wp2
                  go_roundw
                  case rel => exact ⟨j + 1, D.set j y, false, by omega, by go_num, rfl, lD9, oD9, hI2, (fun h => by cases h), hI1⟩
                  case measure => simp [intOf]; omega
              | true =>
                obtain ⟨x, hx⟩ : ∃ x, (D.set j y)[j]? = some x := ⟨_, List.getElem?_eq_getElem (by rw [lD9]; omega)⟩
                have hRD : ∀ {W : World}, Blk W g 44 (bs (flat (D.set j y))) → W.rangeAt g (j * 64) (sc x) := fun h j2 v hv => by
                  have hj2 : j2 < 64 := by have := (List.getElem?_eq_some_iff.1 hv).1; rwa [sc_len] at this
                  rw [h.cell, ← sc_flat, get_flat sc_len (D.set j y) j j2 x hx hj2]
                  exact hv
                have HS : Hid (x = y → (D.set j y).take (j + 1) = M2.take (j + 1)) := fun h => by
                  have h1 : j < (D.set j y).length := by rw [lD9]; omega
                  have h2 : j < M2.length := by have := HX2.out; omega
                  refine (same_next h1 h2 ?_).2 ?_
                  · rw [take_set_self]; exact HT.out rfl
                  · rw [List.getElem?_eq_getElem h1] at hx
                    rw [List.getElem?_eq_getElem h2] at hy
                    rw [Option.some.inj hx, Option.some.inj hy, h]
                have heq := eq_secs
                have hgq := eq_guard
                have HD : Hid ((D.set j y).length = 12 ∧ ∀ x ∈ D.set j y, SecOk x) := ⟨lD9, oD9⟩
                clear hx hy HT
                refine Inv.region_inv (fun L a w' => a = { tmps := #[(.agg #[.int .u64 (s : Int), .int .u32 (e : Int), .slice q n c]), (.agg #[.int .u64 (s2 : Int), .int .u32 (e2 : Int), .slice q2 n2 c2]), (.slice (some ⟨b8, a8, none⟩) n3 c3), (.pointer (some ⟨w.heap.size, 0, none⟩)), (.pointer (some ⟨w.heap.size + 1, 0, none⟩)), undef, (.bool false), (.slice q4 X1 c4), (.int .i64 0), (.slice (some ⟨b5, a5, none⟩) X2 c5), (.int .i64 0), (.slice (some ⟨g, 0, none⟩) 12 12), (if L 12 = true then (.bool (decide (x = y))) else (.bool true)), (.int .i64 (j : Int)), undef, undef, undef, undef, undef, undef, (.bool true), (.bool false), (.pointer (some ⟨w.heap.size, 2, none⟩)), (.slice q n c), (.int .i64 (n : Int)), (.bool false), (.bool false), (.pointer (some ⟨w.heap.size + 1, 2, none⟩)), (.slice q2 n2 c2), (.int .i64 (n2 : Int)), (.bool false), (.bool false), (.bool false), (.slice (some ⟨b8, a8, none⟩) n3 c3), (.int .i64 (n3 : Int)), (.bool false), (.bool false), (.tuple #[.slice q4 X1 c4, .int .i64 0]), (.agg #[.int .u64 (s : Int), .int .u32 (e : Int), .slice q n c]), (.tuple #[.slice q4 X1 c4, .int .i64 0]), (.slice q4 X1 c4), (.int .i64 0), (.tuple #[.slice (some ⟨b5, a5, none⟩) X2 c5, .int .i64 0]), (.agg #[.int .u64 (s2 : Int), .int .u32 (e2 : Int), .slice q2 n2 c2]), (.tuple #[.slice (some ⟨b5, a5, none⟩) X2 c5, .int .i64 0]), (.slice (some ⟨b5, a5, none⟩) X2 c5), (.int .i64 0), (.int .i64 0), (.bool false), (.bool false), (.int .i64 0), (.bool false), (.bool false), undef, undef, undef, undef, undef, undef, undef, undef, (.slice (some ⟨g, 0, none⟩) 12 12), (.slice (some ⟨g, 0, none⟩) 12 12), (.slice q4 X1 c4), (.int .i64 (X1 : Int)), (.slice (some ⟨b5, a5, none⟩) X2 c5), (.int .i64 (X2 : Int)), (.int .i64 (j : Int)), (.bool true), (.int .i64 (j : Int)), (.int .i64 (j : Int)), (.slice (some ⟨b8, a8, none⟩) n3 c3), (.int .i64 (n3 : Int)), (.bool true), (.bool true), (.slice (some ⟨b8, a8, none⟩) n3 c3), (.int .i64 (j : Int)), (.pointer (some ⟨b8, a8 + j, none⟩)), (.bool true), (.bool true), (.slice (some ⟨g, 0, none⟩) 12 12), (.int .i64 (j : Int)), (.slice (some ⟨b5, a5, none⟩) X2 c5), (.int .i64 (j : Int)), (.pointer (some ⟨b5, a5 + j * 64, none⟩)), (secv y), (.pointer (some ⟨g, j * 64, none⟩)), (if L 0 = true then (.bool true) else u87), (if L 1 = true then (.bool true) else u88), (if L 2 = true then (.slice (some ⟨g, 0, none⟩) 12 12) else u89), (if L 3 = true then (.int .i64 (j : Int)) else u90), (if L 4 = true then (.pointer (some ⟨g, j * 64, none⟩)) else u91), (if L 5 = true then (secv x) else u92), (if L 6 = true then (.slice (some ⟨b5, a5, none⟩) X2 c5) else u93), (if L 7 = true then (.int .i64 (j : Int)) else u94), (if L 8 = true then (.pointer (some ⟨b5, a5 + j * 64, none⟩)) else u95), (if L 9 = true then (secv y) else u96), (if L 10 = true then (.bool (decide (x = y))) else u97), (if L 11 = true then (.bool (decide (x = y))) else u98), u99, undef, undef, undef, undef, undef, undef, undef, undef, undef, undef, undef, undef, undef, undef, undef, undef, undef, undef, undef, undef, undef, undef, undef, undef, undef, undef, undef, undef, undef, undef, undef, undef, undef, undef, undef, undef, undef, undef, undef, undef], defers := [] } ∧ (w7.grownBy w' (some g) ∧ Blk w' g 44 (bs (flat (D.set j y))) ∧ (L 12 = true → L 0 = true))) (by kernel_rfl) (by kernel_rfl) ?h0 ?step ?done
                case h0 => exact ⟨by simp [Act.put], ⟨World.grownBy.trans g9 (gdrew _ _), B9.drew, by simp⟩⟩
                case step =>
                  refine Inv.Steps.cons rfl ?_ ?_
                  · intro L a w' hI hL hd K hK
                    obtain ⟨rfl, hI⟩ := hI
                    clear hd
                    rw [if_pos (by rfl)]
                    have h12 : L 12 = false := Bool.eq_false_iff.2 fun h => by have := hI.2.2 h; simp [hL] at this
                    simp only [h12, Bool.false_eq_true, if_false]
                    go_simp
                    exact hK.out _ _ ⟨by simp [h12], hI.1, hI.2.1, by simp⟩
                  refine Inv.Steps.cons rfl ?_ ?_
                  · intro L a w' hI hL hd K hK
                    obtain ⟨rfl, hI⟩ := hI
                    simp [Region.binds] at hd
                    simp only [hd, if_true]
                    rw [if_pos (by rfl)]
                    go_simp
                    exact hK.out _ _ ⟨by simp [hd], ⟨hI.1, hI.2.1, by simpa using hI.2.2⟩⟩
                  refine Inv.Steps.cons rfl ?_ ?_
                  · intro L a w' hI hL hd K hK
                    obtain ⟨rfl, hI⟩ := hI
                    simp [Region.binds] at hd
                    simp only [hd, if_true]
                    rw [if_pos (by rfl)]
                    go_simp
                    exact hK.out _ _ ⟨by simp [hd], ⟨hI.1, hI.2.1, by simpa using hI.2.2⟩⟩
                  refine Inv.Steps.cons rfl ?_ ?_
                  · intro L a w' hI hL hd K hK
                    obtain ⟨rfl, hI⟩ := hI
                    simp [Region.binds] at hd
                    simp only [hd, if_true]
                    rw [if_pos (by rfl)]
                    go_simp
                    exact hK.out _ _ ⟨by simp [hd], ⟨hI.1, hI.2.1, by simpa using hI.2.2⟩⟩
                  refine Inv.Steps.cons rfl ?_ ?_
                  · intro L a w' hI hL hd K hK
                    obtain ⟨rfl, hI⟩ := hI
                    simp [Region.binds] at hd
                    simp only [hd, if_true]
                    rw [if_pos (by rfl)]
                    go_simp
                    exact hK.out _ _ ⟨by simp [hd], ⟨hI.1, hI.2.1, by simpa using hI.2.2⟩⟩
                  refine Inv.Steps.cons rfl ?_ ?_
                  · intro L a w' hI hL hd K hK
                    obtain ⟨rfl, hI⟩ := hI
                    simp [Region.binds] at hd
                    simp only [hd, if_true]
                    rw [if_pos (by rfl)]
                    refine wp_load_sec _ _ _ _ (by rfl) (by rfl) (hRD hI.2.1) ?_
                    exact hK.out _ _ ⟨by simp [hd, Act.put], ⟨hI.1, hI.2.1, by simpa using hI.2.2⟩⟩
                  refine Inv.Steps.cons rfl ?_ ?_
                  · intro L a w' hI hL hd K hK
                    obtain ⟨rfl, hI⟩ := hI
                    simp [Region.binds] at hd
                    simp only [hd, if_true]
                    rw [if_pos (by rfl)]
                    go_simp
                    exact hK.out _ _ ⟨by simp [hd], ⟨hI.1, hI.2.1, by simpa using hI.2.2⟩⟩
                  refine Inv.Steps.cons rfl ?_ ?_
                  · intro L a w' hI hL hd K hK
                    obtain ⟨rfl, hI⟩ := hI
                    simp [Region.binds] at hd
                    simp only [hd, if_true]
                    rw [if_pos (by rfl)]
                    go_simp
                    exact hK.out _ _ ⟨by simp [hd], ⟨hI.1, hI.2.1, by simpa using hI.2.2⟩⟩
                  refine Inv.Steps.cons rfl ?_ ?_
                  · intro L a w' hI hL hd K hK
                    obtain ⟨rfl, hI⟩ := hI
                    simp [Region.binds] at hd
                    simp only [hd, if_true]
                    rw [if_pos (by rfl)]
                    go_simp
                    exact hK.out _ _ ⟨by simp [hd], ⟨hI.1, hI.2.1, by simpa using hI.2.2⟩⟩
                  refine Inv.Steps.cons rfl ?_ ?_
                  · intro L a w' hI hL hd K hK
                    obtain ⟨rfl, hI⟩ := hI
                    simp [Region.binds] at hd
                    simp only [hd, if_true]
                    rw [if_pos (by rfl)]
                    refine wp_load_sec _ _ _ _ (by rfl) (by rfl) (hR5 hI.1) ?_
                    exact hK.out _ _ ⟨by simp [hd, Act.put], ⟨hI.1, hI.2.1, by simpa using hI.2.2⟩⟩
                  refine Inv.Steps.cons rfl ?_ ?_
                  · intro L a w' hI hL hd K hK
                    obtain ⟨rfl, hI⟩ := hI
                    simp [Region.binds] at hd
                    simp only [hd, if_true]
                    rw [if_pos (by rfl)]
                    go_simp
                    exact hK.out _ _ ⟨by simp [hd], ⟨hI.1, hI.2.1, by simpa using hI.2.2⟩⟩
                  refine Inv.Steps.cons rfl ?_ ?_
                  · intro L a w' hI hL hd K hK
                    obtain ⟨rfl, hI⟩ := hI
                    simp [Region.binds] at hd
                    simp only [hd, if_true]
                    rw [if_pos (by rfl)]
                    go_simp
                    exact hK.out _ _ ⟨by simp [hd], ⟨hI.1, hI.2.1, by simpa using hI.2.2⟩⟩
                  refine Inv.Steps.cons rfl ?_ ?_
                  · intro L a w' hI hL hd K hK
                    obtain ⟨rfl, hI⟩ := hI
                    simp [Region.binds] at hd
                    simp only [hd, if_true]
                    rw [if_pos (by rfl)]
                    go_simp
                    exact hK.out _ _ ⟨by simp [hd], hI.1, hI.2.1, by simp [hd]⟩
                  exact Inv.Steps.nil (by decide)
                case done =>
                  intro L a w' hI hall
                  obtain ⟨rfl, hI⟩ := hI
                  simp only [hall, if_true] at hI ⊢
                  obtain ⟨hI1, hI2, -⟩ := hI
                  go_wp2
                  go_roundw
                  case rel => exact ⟨j + 1, D.set j y, decide (x = y), by omega, by go_num, rfl, HD.out.1, HD.out.2, hI2, fun h => HS.out (of_decide_eq_true h), hI1⟩
                  case measure => simp [intOf]; omega
            | false =>
              go_wp2
              cases wh with
              | false =>
                clear HT
                refine Inv.region_inv (fun L a w' => a = { tmps := #[(.agg #[.int .u64 (s : Int), .int .u32 (e : Int), .slice q n c]), (.agg #[.int .u64 (s2 : Int), .int .u32 (e2 : Int), .slice q2 n2 c2]), (.slice (some ⟨b8, a8, none⟩) n3 c3), (.pointer (some ⟨w.heap.size, 0, none⟩)), (.pointer (some ⟨w.heap.size + 1, 0, none⟩)), undef, (.bool false), (.slice q4 X1 c4), (.int .i64 0), (.slice (some ⟨b5, a5, none⟩) X2 c5), (.int .i64 0), (.slice (some ⟨g, 0, none⟩) 12 12), (.bool false), (.int .i64 (j : Int)), undef, undef, undef, undef, undef, undef, (.bool true), (.bool false), (.pointer (some ⟨w.heap.size, 2, none⟩)), (.slice q n c), (.int .i64 (n : Int)), (.bool false), (.bool false), (.pointer (some ⟨w.heap.size + 1, 2, none⟩)), (.slice q2 n2 c2), (.int .i64 (n2 : Int)), (.bool false), (.bool false), (.bool false), (.slice (some ⟨b8, a8, none⟩) n3 c3), (.int .i64 (n3 : Int)), (.bool false), (.bool false), (.tuple #[.slice q4 X1 c4, .int .i64 0]), (.agg #[.int .u64 (s : Int), .int .u32 (e : Int), .slice q n c]), (.tuple #[.slice q4 X1 c4, .int .i64 0]), (.slice q4 X1 c4), (.int .i64 0), (.tuple #[.slice (some ⟨b5, a5, none⟩) X2 c5, .int .i64 0]), (.agg #[.int .u64 (s2 : Int), .int .u32 (e2 : Int), .slice q2 n2 c2]), (.tuple #[.slice (some ⟨b5, a5, none⟩) X2 c5, .int .i64 0]), (.slice (some ⟨b5, a5, none⟩) X2 c5), (.int .i64 0), (.int .i64 0), (.bool false), (.bool false), (.int .i64 0), (.bool false), (.bool false), undef, undef, undef, undef, undef, undef, undef, undef, (.slice (some ⟨g, 0, none⟩) 12 12), (.slice (some ⟨g, 0, none⟩) 12 12), (.slice q4 X1 c4), (.int .i64 (X1 : Int)), (.slice (some ⟨b5, a5, none⟩) X2 c5), (.int .i64 (X2 : Int)), (.int .i64 (j : Int)), (.bool true), (.int .i64 (j : Int)), (.int .i64 (j : Int)), (.slice (some ⟨b8, a8, none⟩) n3 c3), (.int .i64 (n3 : Int)), (.bool true), (.bool true), (.slice (some ⟨b8, a8, none⟩) n3 c3), (.int .i64 (j : Int)), (.pointer (some ⟨b8, a8 + j, none⟩)), (.bool false), (.bool false), u80, u81, u82, u83, u84, u85, u86, (if L 0 = true then (.bool false) else u87), (if L 1 = true then (.bool false) else u88), (if L 2 = true then undef else u89), (if L 3 = true then undef else u90), (if L 4 = true then undef else u91), (if L 5 = true then undef else u92), (if L 6 = true then undef else u93), (if L 7 = true then undef else u94), (if L 8 = true then undef else u95), (if L 9 = true then undef else u96), (if L 10 = true then undef else u97), (if L 11 = true then (.bool false) else u98), u99, undef, undef, undef, undef, undef, undef, undef, undef, undef, undef, undef, undef, undef, undef, undef, undef, undef, undef, undef, undef, undef, undef, undef, undef, undef, undef, undef, undef, undef, undef, undef, undef, undef, undef, undef, undef, undef, undef, undef, undef], defers := [] } ∧ (w7.grownBy w' (some g) ∧ Blk w' g 44 (bs (flat (D))))) (by kernel_rfl) (by kernel_rfl) ?h0 ?step ?done
                case h0 => exact ⟨by simp, ⟨World.grownBy.trans gD (gdrew _ _), BD.drew⟩⟩
                case step =>
                  refine Inv.Steps.cons rfl ?_ ?_
                  · intro L a w' hI hL hd K hK
                    obtain ⟨rfl, hI⟩ := hI
                    clear hd
                    rw [if_pos (by rfl)]
                    go_simp
                    exact hK.out _ _ ⟨by simp, hI⟩
                  refine Inv.Steps.cons rfl ?_ ?_
                  · intro L a w' hI hL hd K hK
                    obtain ⟨rfl, hI⟩ := hI
                    simp [Region.binds] at hd
                    simp only [hd, if_true]
                    rw [if_pos (by rfl)]
                    go_simp
                    exact hK.out _ _ ⟨by simp [hd], hI⟩
                  refine Inv.Steps.cons rfl ?_ ?_
                  · intro L a w' hI hL hd K hK
                    obtain ⟨rfl, hI⟩ := hI
                    simp [Region.binds] at hd
                    simp only [hd, if_true]
                    rw [if_neg (Bool.eq_false_iff.1 (by rfl))]
                    exact hK.out _ _ ⟨by simp [hd, Act.put], hI⟩
                  refine Inv.Steps.cons rfl ?_ ?_
                  · intro L a w' hI hL hd K hK
                    obtain ⟨rfl, hI⟩ := hI
                    simp [Region.binds] at hd
                    simp only [hd, if_true]
                    rw [if_neg (Bool.eq_false_iff.1 (by rfl))]
                    exact hK.out _ _ ⟨by simp [hd, Act.put], hI⟩
                  refine Inv.Steps.cons rfl ?_ ?_
                  · intro L a w' hI hL hd K hK
                    obtain ⟨rfl, hI⟩ := hI
                    simp [Region.binds] at hd
                    simp only [hd, if_true]
                    rw [if_neg (Bool.eq_false_iff.1 (by rfl))]
                    exact hK.out _ _ ⟨by simp [hd, Act.put], hI⟩
                  refine Inv.Steps.cons rfl ?_ ?_
                  · intro L a w' hI hL hd K hK
                    obtain ⟨rfl, hI⟩ := hI
                    simp [Region.binds] at hd
                    simp only [hd, if_true]
                    rw [if_neg (Bool.eq_false_iff.1 (by rfl))]
                    exact hK.out _ _ ⟨by simp [hd, Act.put], hI⟩
                  refine Inv.Steps.cons rfl ?_ ?_
                  · intro L a w' hI hL hd K hK
                    obtain ⟨rfl, hI⟩ := hI
                    simp [Region.binds] at hd
                    simp only [hd, if_true]
                    rw [if_neg (Bool.eq_false_iff.1 (by rfl))]
                    exact hK.out _ _ ⟨by simp [hd, Act.put], hI⟩
                  refine Inv.Steps.cons rfl ?_ ?_
                  · intro L a w' hI hL hd K hK
                    obtain ⟨rfl, hI⟩ := hI
                    simp [Region.binds] at hd
                    simp only [hd, if_true]
                    rw [if_neg (Bool.eq_false_iff.1 (by rfl))]
                    exact hK.out _ _ ⟨by simp [hd, Act.put], hI⟩
                  refine Inv.Steps.cons rfl ?_ ?_
                  · intro L a w' hI hL hd K hK
                    obtain ⟨rfl, hI⟩ := hI
                    simp [Region.binds] at hd
                    simp only [hd, if_true]
                    rw [if_neg (Bool.eq_false_iff.1 (by rfl))]
                    exact hK.out _ _ ⟨by simp [hd, Act.put], hI⟩
                  refine Inv.Steps.cons rfl ?_ ?_
                  · intro L a w' hI hL hd K hK
                    obtain ⟨rfl, hI⟩ := hI
                    simp [Region.binds] at hd
                    simp only [hd, if_true]
                    rw [if_neg (Bool.eq_false_iff.1 (by rfl))]
                    exact hK.out _ _ ⟨by simp [hd, Act.put], hI⟩
                  refine Inv.Steps.cons rfl ?_ ?_
                  · intro L a w' hI hL hd K hK
                    obtain ⟨rfl, hI⟩ := hI
                    simp [Region.binds] at hd
                    simp only [hd, if_true]
                    rw [if_neg (Bool.eq_false_iff.1 (by rfl))]
                    exact hK.out _ _ ⟨by simp [hd, Act.put], hI⟩
                  refine Inv.Steps.cons rfl ?_ ?_
                  · intro L a w' hI hL hd K hK
                    obtain ⟨rfl, hI⟩ := hI
                    simp [Region.binds] at hd
                    simp only [hd, if_true]
                    rw [if_pos (by rfl)]
                    go_simp
                    exact hK.out _ _ ⟨by simp [hd], hI⟩
                  refine Inv.Steps.cons rfl ?_ ?_
                  · intro L a w' hI hL hd K hK
                    obtain ⟨rfl, hI⟩ := hI
                    simp [Region.binds] at hd
                    simp only [hd, if_true]
                    rw [if_pos (by rfl)]
                    go_simp
                    exact hK.out _ _ ⟨by simp [hd], hI⟩
                  exact Inv.Steps.nil (by decide)
                case done =>
                  intro L a w' hI hall
                  obtain ⟨rfl, hI⟩ := hI
                  simp only [hall, if_true] at hI ⊢
                  obtain ⟨hI1, hI2⟩ := hI
                  go_wp2
                  go_roundw
                  case rel => exact ⟨j + 1, D, false, by omega, by go_num, rfl, lD, oD, hI2, (fun h => by cases h), hI1⟩
                  case measure => simp [intOf]; omega
              | true =>
                obtain ⟨x, hx⟩ : ∃ x, (D)[j]? = some x := ⟨_, List.getElem?_eq_getElem (by rw [lD]; omega)⟩
                have hRD : ∀ {W : World}, Blk W g 44 (bs (flat (D))) → W.rangeAt g (j * 64) (sc x) := fun h j2 v hv => by
                  have hj2 : j2 < 64 := by have := (List.getElem?_eq_some_iff.1 hv).1; rwa [sc_len] at this
                  rw [h.cell, ← sc_flat, get_flat sc_len (D) j j2 x hx hj2]
                  exact hv
                have HS : Hid (x = y → (D).take (j + 1) = M2.take (j + 1)) := fun h => by
                  have h1 : j < (D).length := by rw [lD]; omega
                  have h2 : j < M2.length := by have := HX2.out; omega
                  refine (same_next h1 h2 ?_).2 ?_
                  · exact HT.out rfl
                  · rw [List.getElem?_eq_getElem h1] at hx
                    rw [List.getElem?_eq_getElem h2] at hy
                    rw [Option.some.inj hx, Option.some.inj hy, h]
                have heq := eq_secs
                have hgq := eq_guard
                have HD : Hid (D.length = 12 ∧ ∀ x ∈ D, SecOk x) := ⟨lD, oD⟩
                clear hx hy HT
                refine Inv.region_inv (fun L a w' => a = { tmps := #[(.agg #[.int .u64 (s : Int), .int .u32 (e : Int), .slice q n c]), (.agg #[.int .u64 (s2 : Int), .int .u32 (e2 : Int), .slice q2 n2 c2]), (.slice (some ⟨b8, a8, none⟩) n3 c3), (.pointer (some ⟨w.heap.size, 0, none⟩)), (.pointer (some ⟨w.heap.size + 1, 0, none⟩)), undef, (.bool false), (.slice q4 X1 c4), (.int .i64 0), (.slice (some ⟨b5, a5, none⟩) X2 c5), (.int .i64 0), (.slice (some ⟨g, 0, none⟩) 12 12), (if L 12 = true then (.bool (decide (x = y))) else (.bool true)), (.int .i64 (j : Int)), undef, undef, undef, undef, undef, undef, (.bool true), (.bool false), (.pointer (some ⟨w.heap.size, 2, none⟩)), (.slice q n c), (.int .i64 (n : Int)), (.bool false), (.bool false), (.pointer (some ⟨w.heap.size + 1, 2, none⟩)), (.slice q2 n2 c2), (.int .i64 (n2 : Int)), (.bool false), (.bool false), (.bool false), (.slice (some ⟨b8, a8, none⟩) n3 c3), (.int .i64 (n3 : Int)), (.bool false), (.bool false), (.tuple #[.slice q4 X1 c4, .int .i64 0]), (.agg #[.int .u64 (s : Int), .int .u32 (e : Int), .slice q n c]), (.tuple #[.slice q4 X1 c4, .int .i64 0]), (.slice q4 X1 c4), (.int .i64 0), (.tuple #[.slice (some ⟨b5, a5, none⟩) X2 c5, .int .i64 0]), (.agg #[.int .u64 (s2 : Int), .int .u32 (e2 : Int), .slice q2 n2 c2]), (.tuple #[.slice (some ⟨b5, a5, none⟩) X2 c5, .int .i64 0]), (.slice (some ⟨b5, a5, none⟩) X2 c5), (.int .i64 0), (.int .i64 0), (.bool false), (.bool false), (.int .i64 0), (.bool false), (.bool false), undef, undef, undef, undef, undef, undef, undef, undef, (.slice (some ⟨g, 0, none⟩) 12 12), (.slice (some ⟨g, 0, none⟩) 12 12), (.slice q4 X1 c4), (.int .i64 (X1 : Int)), (.slice (some ⟨b5, a5, none⟩) X2 c5), (.int .i64 (X2 : Int)), (.int .i64 (j : Int)), (.bool true), (.int .i64 (j : Int)), (.int .i64 (j : Int)), (.slice (some ⟨b8, a8, none⟩) n3 c3), (.int .i64 (n3 : Int)), (.bool true), (.bool true), (.slice (some ⟨b8, a8, none⟩) n3 c3), (.int .i64 (j : Int)), (.pointer (some ⟨b8, a8 + j, none⟩)), (.bool false), (.bool false), u80, u81, u82, u83, u84, u85, u86, (if L 0 = true then (.bool true) else u87), (if L 1 = true then (.bool true) else u88), (if L 2 = true then (.slice (some ⟨g, 0, none⟩) 12 12) else u89), (if L 3 = true then (.int .i64 (j : Int)) else u90), (if L 4 = true then (.pointer (some ⟨g, j * 64, none⟩)) else u91), (if L 5 = true then (secv x) else u92), (if L 6 = true then (.slice (some ⟨b5, a5, none⟩) X2 c5) else u93), (if L 7 = true then (.int .i64 (j : Int)) else u94), (if L 8 = true then (.pointer (some ⟨b5, a5 + j * 64, none⟩)) else u95), (if L 9 = true then (secv y) else u96), (if L 10 = true then (.bool (decide (x = y))) else u97), (if L 11 = true then (.bool (decide (x = y))) else u98), u99, undef, undef, undef, undef, undef, undef, undef, undef, undef, undef, undef, undef, undef, undef, undef, undef, undef, undef, undef, undef, undef, undef, undef, undef, undef, undef, undef, undef, undef, undef, undef, undef, undef, undef, undef, undef, undef, undef, undef, undef], defers := [] } ∧ (w7.grownBy w' (some g) ∧ Blk w' g 44 (bs (flat (D))) ∧ (L 12 = true → L 0 = true))) (by kernel_rfl) (by kernel_rfl) ?h0 ?step ?done
                case h0 => exact ⟨by simp, ⟨World.grownBy.trans gD (gdrew _ _), BD.drew, by simp⟩⟩
                case step =>
                  refine Inv.Steps.cons rfl ?_ ?_
                  · intro L a w' hI hL hd K hK
                    obtain ⟨rfl, hI⟩ := hI
                    clear hd
                    rw [if_pos (by rfl)]
                    have h12 : L 12 = false := Bool.eq_false_iff.2 fun h => by have := hI.2.2 h; simp [hL] at this
                    simp only [h12, Bool.false_eq_true, if_false]
                    go_simp
                    exact hK.out _ _ ⟨by simp [h12], hI.1, hI.2.1, by simp⟩
                  refine Inv.Steps.cons rfl ?_ ?_
                  · intro L a w' hI hL hd K hK
                    obtain ⟨rfl, hI⟩ := hI
                    simp [Region.binds] at hd
                    simp only [hd, if_true]
                    rw [if_pos (by rfl)]
                    go_simp
                    exact hK.out _ _ ⟨by simp [hd], ⟨hI.1, hI.2.1, by simpa using hI.2.2⟩⟩
                  refine Inv.Steps.cons rfl ?_ ?_
                  · intro L a w' hI hL hd K hK
                    obtain ⟨rfl, hI⟩ := hI
                    simp [Region.binds] at hd
                    simp only [hd, if_true]
                    rw [if_pos (by rfl)]
                    go_simp
                    exact hK.out _ _ ⟨by simp [hd], ⟨hI.1, hI.2.1, by simpa using hI.2.2⟩⟩
                  refine Inv.Steps.cons rfl ?_ ?_
                  · intro L a w' hI hL hd K hK
                    obtain ⟨rfl, hI⟩ := hI
                    simp [Region.binds] at hd
                    simp only [hd, if_true]
                    rw [if_pos (by rfl)]
                    go_simp
                    exact hK.out _ _ ⟨by simp [hd], ⟨hI.1, hI.2.1, by simpa using hI.2.2⟩⟩
                  refine Inv.Steps.cons rfl ?_ ?_
                  · intro L a w' hI hL hd K hK
                    obtain ⟨rfl, hI⟩ := hI
                    simp [Region.binds] at hd
                    simp only [hd, if_true]
                    rw [if_pos (by rfl)]
                    go_simp
                    exact hK.out _ _ ⟨by simp [hd], ⟨hI.1, hI.2.1, by simpa using hI.2.2⟩⟩
                  refine Inv.Steps.cons rfl ?_ ?_
                  · intro L a w' hI hL hd K hK
                    obtain ⟨rfl, hI⟩ := hI
                    simp [Region.binds] at hd
                    simp only [hd, if_true]
                    rw [if_pos (by rfl)]
                    refine wp_load_sec _ _ _ _ (by rfl) (by rfl) (hRD hI.2.1) ?_
                    exact hK.out _ _ ⟨by simp [hd, Act.put], ⟨hI.1, hI.2.1, by simpa using hI.2.2⟩⟩
                  refine Inv.Steps.cons rfl ?_ ?_
                  · intro L a w' hI hL hd K hK
                    obtain ⟨rfl, hI⟩ := hI
                    simp [Region.binds] at hd
                    simp only [hd, if_true]
                    rw [if_pos (by rfl)]
                    go_simp
                    exact hK.out _ _ ⟨by simp [hd], ⟨hI.1, hI.2.1, by simpa using hI.2.2⟩⟩
                  refine Inv.Steps.cons rfl ?_ ?_
                  · intro L a w' hI hL hd K hK
                    obtain ⟨rfl, hI⟩ := hI
                    simp [Region.binds] at hd
                    simp only [hd, if_true]
                    rw [if_pos (by rfl)]
                    go_simp
                    exact hK.out _ _ ⟨by simp [hd], ⟨hI.1, hI.2.1, by simpa using hI.2.2⟩⟩
                  refine Inv.Steps.cons rfl ?_ ?_
                  · intro L a w' hI hL hd K hK
                    obtain ⟨rfl, hI⟩ := hI
                    simp [Region.binds] at hd
                    simp only [hd, if_true]
                    rw [if_pos (by rfl)]
                    go_simp
                    exact hK.out _ _ ⟨by simp [hd], ⟨hI.1, hI.2.1, by simpa using hI.2.2⟩⟩
                  refine Inv.Steps.cons rfl ?_ ?_
                  · intro L a w' hI hL hd K hK
                    obtain ⟨rfl, hI⟩ := hI
                    simp [Region.binds] at hd
                    simp only [hd, if_true]
                    rw [if_pos (by rfl)]
                    refine wp_load_sec _ _ _ _ (by rfl) (by rfl) (hR5 hI.1) ?_
                    exact hK.out _ _ ⟨by simp [hd, Act.put], ⟨hI.1, hI.2.1, by simpa using hI.2.2⟩⟩
                  refine Inv.Steps.cons rfl ?_ ?_
                  · intro L a w' hI hL hd K hK
                    obtain ⟨rfl, hI⟩ := hI
                    simp [Region.binds] at hd
                    simp only [hd, if_true]
                    rw [if_pos (by rfl)]
                    go_simp
                    exact hK.out _ _ ⟨by simp [hd], ⟨hI.1, hI.2.1, by simpa using hI.2.2⟩⟩
                  refine Inv.Steps.cons rfl ?_ ?_
                  · intro L a w' hI hL hd K hK
                    obtain ⟨rfl, hI⟩ := hI
                    simp [Region.binds] at hd
                    simp only [hd, if_true]
                    rw [if_pos (by rfl)]
                    go_simp
                    exact hK.out _ _ ⟨by simp [hd], ⟨hI.1, hI.2.1, by simpa using hI.2.2⟩⟩
                  refine Inv.Steps.cons rfl ?_ ?_
                  · intro L a w' hI hL hd K hK
                    obtain ⟨rfl, hI⟩ := hI
                    simp [Region.binds] at hd
                    simp only [hd, if_true]
                    rw [if_pos (by rfl)]
                    go_simp
                    exact hK.out _ _ ⟨by simp [hd], hI.1, hI.2.1, by simp [hd]⟩
                  exact Inv.Steps.nil (by decide)
                case done =>
                  intro L a w' hI hall
                  obtain ⟨rfl, hI⟩ := hI
                  simp only [hall, if_true] at hI ⊢
                  obtain ⟨hI1, hI2, -⟩ := hI
                  go_wp2
                  go_roundw
                  case rel => exact ⟨j + 1, D, decide (x = y), by omega, by go_num, rfl, HD.out.1, HD.out.2, hI2, fun h => HS.out (of_decide_eq_true h), hI1⟩
                  case measure => simp [intOf]; omega
          · have djn : decide ((j : Int) < (n3 : Int)) = false := by simp; omega
            go_wp2
            cases wh with
            | false =>
              clear HT
              refine Inv.region_inv (fun L a w' => a = { tmps := #[(.agg #[.int .u64 (s : Int), .int .u32 (e : Int), .slice q n c]), (.agg #[.int .u64 (s2 : Int), .int .u32 (e2 : Int), .slice q2 n2 c2]), (.slice q3 n3 c3), (.pointer (some ⟨w.heap.size, 0, none⟩)), (.pointer (some ⟨w.heap.size + 1, 0, none⟩)), undef, (.bool false), (.slice q4 X1 c4), (.int .i64 0), (.slice (some ⟨b5, a5, none⟩) X2 c5), (.int .i64 0), (.slice (some ⟨g, 0, none⟩) 12 12), (.bool false), (.int .i64 (j : Int)), undef, undef, undef, undef, undef, undef, (.bool true), (.bool false), (.pointer (some ⟨w.heap.size, 2, none⟩)), (.slice q n c), (.int .i64 (n : Int)), (.bool false), (.bool false), (.pointer (some ⟨w.heap.size + 1, 2, none⟩)), (.slice q2 n2 c2), (.int .i64 (n2 : Int)), (.bool false), (.bool false), (.bool false), (.slice q3 n3 c3), (.int .i64 (n3 : Int)), (.bool false), (.bool false), (.tuple #[.slice q4 X1 c4, .int .i64 0]), (.agg #[.int .u64 (s : Int), .int .u32 (e : Int), .slice q n c]), (.tuple #[.slice q4 X1 c4, .int .i64 0]), (.slice q4 X1 c4), (.int .i64 0), (.tuple #[.slice (some ⟨b5, a5, none⟩) X2 c5, .int .i64 0]), (.agg #[.int .u64 (s2 : Int), .int .u32 (e2 : Int), .slice q2 n2 c2]), (.tuple #[.slice (some ⟨b5, a5, none⟩) X2 c5, .int .i64 0]), (.slice (some ⟨b5, a5, none⟩) X2 c5), (.int .i64 0), (.int .i64 0), (.bool false), (.bool false), (.int .i64 0), (.bool false), (.bool false), undef, undef, undef, undef, undef, undef, undef, undef, (.slice (some ⟨g, 0, none⟩) 12 12), (.slice (some ⟨g, 0, none⟩) 12 12), (.slice q4 X1 c4), (.int .i64 (X1 : Int)), (.slice (some ⟨b5, a5, none⟩) X2 c5), (.int .i64 (X2 : Int)), (.int .i64 (j : Int)), (.bool true), (.int .i64 (j : Int)), (.int .i64 (j : Int)), (.slice q3 n3 c3), (.int .i64 (n3 : Int)), (.bool false), (.bool false), undef, undef, undef, undef, (.bool false), u80, u81, u82, u83, u84, u85, u86, (if L 0 = true then (.bool false) else u87), (if L 1 = true then (.bool false) else u88), (if L 2 = true then undef else u89), (if L 3 = true then undef else u90), (if L 4 = true then undef else u91), (if L 5 = true then undef else u92), (if L 6 = true then undef else u93), (if L 7 = true then undef else u94), (if L 8 = true then undef else u95), (if L 9 = true then undef else u96), (if L 10 = true then undef else u97), (if L 11 = true then (.bool false) else u98), u99, undef, undef, undef, undef, undef, undef, undef, undef, undef, undef, undef, undef, undef, undef, undef, undef, undef, undef, undef, undef, undef, undef, undef, undef, undef, undef, undef, undef, undef, undef, undef, undef, undef, undef, undef, undef, undef, undef, undef, undef], defers := [] } ∧ (w7.grownBy w' (some g) ∧ Blk w' g 44 (bs (flat (D))))) (by kernel_rfl) (by kernel_rfl) ?h0 ?step ?done
              case h0 => exact ⟨by simp, ⟨World.grownBy.trans gD (gdrew _ _), BD.drew⟩⟩
              case step =>
                refine Inv.Steps.cons rfl ?_ ?_
                · intro L a w' hI hL hd K hK
                  obtain ⟨rfl, hI⟩ := hI
                  clear hd
                  rw [if_pos (by rfl)]
                  go_simp
                  exact hK.out _ _ ⟨by simp, hI⟩
                refine Inv.Steps.cons rfl ?_ ?_
                · intro L a w' hI hL hd K hK
                  obtain ⟨rfl, hI⟩ := hI
                  simp [Region.binds] at hd
                  simp only [hd, if_true]
                  rw [if_pos (by rfl)]
                  go_simp
                  exact hK.out _ _ ⟨by simp [hd], hI⟩
                refine Inv.Steps.cons rfl ?_ ?_
                · intro L a w' hI hL hd K hK
                  obtain ⟨rfl, hI⟩ := hI
                  simp [Region.binds] at hd
                  simp only [hd, if_true]
                  rw [if_neg (Bool.eq_false_iff.1 (by rfl))]
                  exact hK.out _ _ ⟨by simp [hd, Act.put], hI⟩
                refine Inv.Steps.cons rfl ?_ ?_
                · intro L a w' hI hL hd K hK
                  obtain ⟨rfl, hI⟩ := hI
                  simp [Region.binds] at hd
                  simp only [hd, if_true]
                  rw [if_neg (Bool.eq_false_iff.1 (by rfl))]
                  exact hK.out _ _ ⟨by simp [hd, Act.put], hI⟩
                refine Inv.Steps.cons rfl ?_ ?_
                · intro L a w' hI hL hd K hK
                  obtain ⟨rfl, hI⟩ := hI
                  simp [Region.binds] at hd
                  simp only [hd, if_true]
                  rw [if_neg (Bool.eq_false_iff.1 (by rfl))]
                  exact hK.out _ _ ⟨by simp [hd, Act.put], hI⟩
                refine Inv.Steps.cons rfl ?_ ?_
                · intro L a w' hI hL hd K hK
                  obtain ⟨rfl, hI⟩ := hI
                  simp [Region.binds] at hd
                  simp only [hd, if_true]
                  rw [if_neg (Bool.eq_false_iff.1 (by rfl))]
                  exact hK.out _ _ ⟨by simp [hd, Act.put], hI⟩
                refine Inv.Steps.cons rfl ?_ ?_
                · intro L a w' hI hL hd K hK
                  obtain ⟨rfl, hI⟩ := hI
                  simp [Region.binds] at hd
                  simp only [hd, if_true]
                  rw [if_neg (Bool.eq_false_iff.1 (by rfl))]
                  exact hK.out _ _ ⟨by simp [hd, Act.put], hI⟩
                refine Inv.Steps.cons rfl ?_ ?_
                · intro L a w' hI hL hd K hK
                  obtain ⟨rfl, hI⟩ := hI
                  simp [Region.binds] at hd
                  simp only [hd, if_true]
                  rw [if_neg (Bool.eq_false_iff.1 (by rfl))]
                  exact hK.out _ _ ⟨by simp [hd, Act.put], hI⟩
                refine Inv.Steps.cons rfl ?_ ?_
                · intro L a w' hI hL hd K hK
                  obtain ⟨rfl, hI⟩ := hI
                  simp [Region.binds] at hd
                  simp only [hd, if_true]
                  rw [if_neg (Bool.eq_false_iff.1 (by rfl))]
                  exact hK.out _ _ ⟨by simp [hd, Act.put], hI⟩
                refine Inv.Steps.cons rfl ?_ ?_
                · intro L a w' hI hL hd K hK
                  obtain ⟨rfl, hI⟩ := hI
                  simp [Region.binds] at hd
                  simp only [hd, if_true]
                  rw [if_neg (Bool.eq_false_iff.1 (by rfl))]
                  exact hK.out _ _ ⟨by simp [hd, Act.put], hI⟩
                refine Inv.Steps.cons rfl ?_ ?_
                · intro L a w' hI hL hd K hK
                  obtain ⟨rfl, hI⟩ := hI
                  simp [Region.binds] at hd
                  simp only [hd, if_true]
                  rw [if_neg (Bool.eq_false_iff.1 (by rfl))]
                  exact hK.out _ _ ⟨by simp [hd, Act.put], hI⟩
                refine Inv.Steps.cons rfl ?_ ?_
                · intro L a w' hI hL hd K hK
                  obtain ⟨rfl, hI⟩ := hI
                  simp [Region.binds] at hd
                  simp only [hd, if_true]
                  rw [if_pos (by rfl)]
                  go_simp
                  exact hK.out _ _ ⟨by simp [hd], hI⟩
                refine Inv.Steps.cons rfl ?_ ?_
                · intro L a w' hI hL hd K hK
                  obtain ⟨rfl, hI⟩ := hI
                  simp [Region.binds] at hd
                  simp only [hd, if_true]
                  rw [if_pos (by rfl)]
                  go_simp
                  exact hK.out _ _ ⟨by simp [hd], hI⟩
                exact Inv.Steps.nil (by decide)
              case done =>
                intro L a w' hI hall
                obtain ⟨rfl, hI⟩ := hI
                simp only [hall, if_true] at hI ⊢
                obtain ⟨hI1, hI2⟩ := hI
                go_wp2
                go_roundw
                case rel => exact ⟨j + 1, D, false, by omega, by go_num, rfl, lD, oD, hI2, (fun h => by cases h), hI1⟩
                case measure => simp [intOf]; omega
            | true =>
              obtain ⟨x, hx⟩ : ∃ x, (D)[j]? = some x := ⟨_, List.getElem?_eq_getElem (by rw [lD]; omega)⟩
              have hRD : ∀ {W : World}, Blk W g 44 (bs (flat (D))) → W.rangeAt g (j * 64) (sc x) := fun h j2 v hv => by
                have hj2 : j2 < 64 := by have := (List.getElem?_eq_some_iff.1 hv).1; rwa [sc_len] at this
                rw [h.cell, ← sc_flat, get_flat sc_len (D) j j2 x hx hj2]
                exact hv
              have HS : Hid (x = y → (D).take (j + 1) = M2.take (j + 1)) := fun h => by
                have h1 : j < (D).length := by rw [lD]; omega
                have h2 : j < M2.length := by have := HX2.out; omega
                refine (same_next h1 h2 ?_).2 ?_
                · exact HT.out rfl
                · rw [List.getElem?_eq_getElem h1] at hx
                  rw [List.getElem?_eq_getElem h2] at hy
                  rw [Option.some.inj hx, Option.some.inj hy, h]
              have heq := eq_secs
              have hgq := eq_guard
              have HD : Hid (D.length = 12 ∧ ∀ x ∈ D, SecOk x) := ⟨lD, oD⟩
              clear hx hy HT
              refine Inv.region_inv (fun L a w' => a = { tmps := #[(.agg #[.int .u64 (s : Int), .int .u32 (e : Int), .slice q n c]), (.agg #[.int .u64 (s2 : Int), .int .u32 (e2 : Int), .slice q2 n2 c2]), (.slice q3 n3 c3), (.pointer (some ⟨w.heap.size, 0, none⟩)), (.pointer (some ⟨w.heap.size + 1, 0, none⟩)), undef, (.bool false), (.slice q4 X1 c4), (.int .i64 0), (.slice (some ⟨b5, a5, none⟩) X2 c5), (.int .i64 0), (.slice (some ⟨g, 0, none⟩) 12 12), (if L 12 = true then (.bool (decide (x = y))) else (.bool true)), (.int .i64 (j : Int)), undef, undef, undef, undef, undef, undef, (.bool true), (.bool false), (.pointer (some ⟨w.heap.size, 2, none⟩)), (.slice q n c), (.int .i64 (n : Int)), (.bool false), (.bool false), (.pointer (some ⟨w.heap.size + 1, 2, none⟩)), (.slice q2 n2 c2), (.int .i64 (n2 : Int)), (.bool false), (.bool false), (.bool false), (.slice q3 n3 c3), (.int .i64 (n3 : Int)), (.bool false), (.bool false), (.tuple #[.slice q4 X1 c4, .int .i64 0]), (.agg #[.int .u64 (s : Int), .int .u32 (e : Int), .slice q n c]), (.tuple #[.slice q4 X1 c4, .int .i64 0]), (.slice q4 X1 c4), (.int .i64 0), (.tuple #[.slice (some ⟨b5, a5, none⟩) X2 c5, .int .i64 0]), (.agg #[.int .u64 (s2 : Int), .int .u32 (e2 : Int), .slice q2 n2 c2]), (.tuple #[.slice (some ⟨b5, a5, none⟩) X2 c5, .int .i64 0]), (.slice (some ⟨b5, a5, none⟩) X2 c5), (.int .i64 0), (.int .i64 0), (.bool false), (.bool false), (.int .i64 0), (.bool false), (.bool false), undef, undef, undef, undef, undef, undef, undef, undef, (.slice (some ⟨g, 0, none⟩) 12 12), (.slice (some ⟨g, 0, none⟩) 12 12), (.slice q4 X1 c4), (.int .i64 (X1 : Int)), (.slice (some ⟨b5, a5, none⟩) X2 c5), (.int .i64 (X2 : Int)), (.int .i64 (j : Int)), (.bool true), (.int .i64 (j : Int)), (.int .i64 (j : Int)), (.slice q3 n3 c3), (.int .i64 (n3 : Int)), (.bool false), (.bool false), undef, undef, undef, undef, (.bool false), u80, u81, u82, u83, u84, u85, u86, (if L 0 = true then (.bool true) else u87), (if L 1 = true then (.bool true) else u88), (if L 2 = true then (.slice (some ⟨g, 0, none⟩) 12 12) else u89), (if L 3 = true then (.int .i64 (j : Int)) else u90), (if L 4 = true then (.pointer (some ⟨g, j * 64, none⟩)) else u91), (if L 5 = true then (secv x) else u92), (if L 6 = true then (.slice (some ⟨b5, a5, none⟩) X2 c5) else u93), (if L 7 = true then (.int .i64 (j : Int)) else u94), (if L 8 = true then (.pointer (some ⟨b5, a5 + j * 64, none⟩)) else u95), (if L 9 = true then (secv y) else u96), (if L 10 = true then (.bool (decide (x = y))) else u97), (if L 11 = true then (.bool (decide (x = y))) else u98), u99, undef, undef, undef, undef, undef, undef, undef, undef, undef, undef, undef, undef, undef, undef, undef, undef, undef, undef, undef, undef, undef, undef, undef, undef, undef, undef, undef, undef, undef, undef, undef, undef, undef, undef, undef, undef, undef, undef, undef, undef], defers := [] } ∧ (w7.grownBy w' (some g) ∧ Blk w' g 44 (bs (flat (D))) ∧ (L 12 = true → L 0 = true))) (by kernel_rfl) (by kernel_rfl) ?h0 ?step ?done
              case h0 => exact ⟨by simp, ⟨World.grownBy.trans gD (gdrew _ _), BD.drew, by simp⟩⟩
              case step =>
                refine Inv.Steps.cons rfl ?_ ?_
                · intro L a w' hI hL hd K hK
                  obtain ⟨rfl, hI⟩ := hI
                  clear hd
                  rw [if_pos (by rfl)]
                  have h12 : L 12 = false := Bool.eq_false_iff.2 fun h => by have := hI.2.2 h; simp [hL] at this
                  simp only [h12, Bool.false_eq_true, if_false]
                  go_simp
                  exact hK.out _ _ ⟨by simp [h12], hI.1, hI.2.1, by simp⟩
                refine Inv.Steps.cons rfl ?_ ?_
                · intro L a w' hI hL hd K hK
                  obtain ⟨rfl, hI⟩ := hI
                  simp [Region.binds] at hd
                  simp only [hd, if_true]
                  rw [if_pos (by rfl)]
                  go_simp
                  exact hK.out _ _ ⟨by simp [hd], ⟨hI.1, hI.2.1, by simpa using hI.2.2⟩⟩
                refine Inv.Steps.cons rfl ?_ ?_
                · intro L a w' hI hL hd K hK
                  obtain ⟨rfl, hI⟩ := hI
                  simp [Region.binds] at hd
                  simp only [hd, if_true]
                  rw [if_pos (by rfl)]
                  go_simp
                  exact hK.out _ _ ⟨by simp [hd], ⟨hI.1, hI.2.1, by simpa using hI.2.2⟩⟩
                refine Inv.Steps.cons rfl ?_ ?_
                · intro L a w' hI hL hd K hK
                  obtain ⟨rfl, hI⟩ := hI
                  simp [Region.binds] at hd
                  simp only [hd, if_true]
                  rw [if_pos (by rfl)]
                  go_simp
                  exact hK.out _ _ ⟨by simp [hd], ⟨hI.1, hI.2.1, by simpa using hI.2.2⟩⟩
                refine Inv.Steps.cons rfl ?_ ?_
                · intro L a w' hI hL hd K hK
                  obtain ⟨rfl, hI⟩ := hI
                  simp [Region.binds] at hd
                  simp only [hd, if_true]
                  rw [if_pos (by rfl)]
                  go_simp
                  exact hK.out _ _ ⟨by simp [hd], ⟨hI.1, hI.2.1, by simpa using hI.2.2⟩⟩
                refine Inv.Steps.cons rfl ?_ ?_
                · intro L a w' hI hL hd K hK
                  obtain ⟨rfl, hI⟩ := hI
                  simp [Region.binds] at hd
                  simp only [hd, if_true]
                  rw [if_pos (by rfl)]
                  refine wp_load_sec _ _ _ _ (by rfl) (by rfl) (hRD hI.2.1) ?_
                  exact hK.out _ _ ⟨by simp [hd, Act.put], ⟨hI.1, hI.2.1, by simpa using hI.2.2⟩⟩
                refine Inv.Steps.cons rfl ?_ ?_
                · intro L a w' hI hL hd K hK
                  obtain ⟨rfl, hI⟩ := hI
                  simp [Region.binds] at hd
                  simp only [hd, if_true]
                  rw [if_pos (by rfl)]
                  go_simp
                  exact hK.out _ _ ⟨by simp [hd], ⟨hI.1, hI.2.1, by simpa using hI.2.2⟩⟩
                refine Inv.Steps.cons rfl ?_ ?_
                · intro L a w' hI hL hd K hK
                  obtain ⟨rfl, hI⟩ := hI
                  simp [Region.binds] at hd
                  simp only [hd, if_true]
                  rw [if_pos (by rfl)]
                  go_simp
                  exact hK.out _ _ ⟨by simp [hd], ⟨hI.1, hI.2.1, by simpa using hI.2.2⟩⟩
                refine Inv.Steps.cons rfl ?_ ?_
                · intro L a w' hI hL hd K hK
                  obtain ⟨rfl, hI⟩ := hI
                  simp [Region.binds] at hd
                  simp only [hd, if_true]
                  rw [if_pos (by rfl)]
                  go_simp
                  exact hK.out _ _ ⟨by simp [hd], ⟨hI.1, hI.2.1, by simpa using hI.2.2⟩⟩
                refine Inv.Steps.cons rfl ?_ ?_
                · intro L a w' hI hL hd K hK
                  obtain ⟨rfl, hI⟩ := hI
                  simp [Region.binds] at hd
                  simp only [hd, if_true]
                  rw [if_pos (by rfl)]
                  refine wp_load_sec _ _ _ _ (by rfl) (by rfl) (hR5 hI.1) ?_
                  exact hK.out _ _ ⟨by simp [hd, Act.put], ⟨hI.1, hI.2.1, by simpa using hI.2.2⟩⟩
                refine Inv.Steps.cons rfl ?_ ?_
                · intro L a w' hI hL hd K hK
                  obtain ⟨rfl, hI⟩ := hI
                  simp [Region.binds] at hd
                  simp only [hd, if_true]
                  rw [if_pos (by rfl)]
                  go_simp
                  exact hK.out _ _ ⟨by simp [hd], ⟨hI.1, hI.2.1, by simpa using hI.2.2⟩⟩
                refine Inv.Steps.cons rfl ?_ ?_
                · intro L a w' hI hL hd K hK
                  obtain ⟨rfl, hI⟩ := hI
                  simp [Region.binds] at hd
                  simp only [hd, if_true]
                  rw [if_pos (by rfl)]
                  go_simp
                  exact hK.out _ _ ⟨by simp [hd], ⟨hI.1, hI.2.1, by simpa using hI.2.2⟩⟩
                refine Inv.Steps.cons rfl ?_ ?_
                · intro L a w' hI hL hd K hK
                  obtain ⟨rfl, hI⟩ := hI
                  simp [Region.binds] at hd
                  simp only [hd, if_true]
                  rw [if_pos (by rfl)]
                  go_simp
                  exact hK.out _ _ ⟨by simp [hd], hI.1, hI.2.1, by simp [hd]⟩
                exact Inv.Steps.nil (by decide)
              case done =>
                intro L a w' hI hall
                obtain ⟨rfl, hI⟩ := hI
                simp only [hall, if_true] at hI ⊢
                obtain ⟨hI1, hI2, -⟩ := hI
                go_wp2
                go_roundw
                case rel => exact ⟨j + 1, D, decide (x = y), by omega, by go_num, rfl, HD.out.1, HD.out.2, hI2, fun h => HS.out (of_decide_eq_true h), hI1⟩
                case measure => simp [intOf]; omega
        · obtain rfl : j = X2 := by omega
          have hBr : Below w.heap.size w wr := hB7.grown gD hB7.size (fun j hj => by simp at hj; omega)
          have Y8 := Y7.kept gD (by simp; omega)
          have V8 := V7.kept gD (by simp; omega)
          have rp8 := r.below hBr
          have rq8 := r2.below hBr
          have rk8 := blk_rk BD (by omega)
          rw [lD] at rk8
          have hO := fun W (hW : RK sc W (some ⟨g, 0, none⟩) 12 D) => frame_Open (some ⟨g, 0, none⟩) 12 12 D lD (by omega) oD W hW
          have hQ := fun W (hW : RK sc W (some ⟨g, 0, none⟩) 12 D) => ref_Open (some ⟨g, 0, none⟩) 12 12 D lD (by omega) oD W hW
          clear hjX
          cases wh with
          | true =>
            have hG : got D = ⟨true, j, s2, e2, ys⟩ := by
              have h1 := HT.out rfl
              rw [List.take_of_length_le (l := M2) (by rw [HX2.out]; omega)] at h1
              rw [← List.take_append_drop j D, h1]
              exact HG.out _
            rw [hG] at hO hQ
            unfold told at hO hQ
            simp only [l2] at hO hQ
            have hS2 := fun q' c' W (hW : Reads .u8 W q' c' ys) (hW2 : Reads .u8 W q2 c2 ys) => ref_Same s2 e2 q' n2 c' ys l2 s2 e2 q2 n2 c2 ys l2 hb2 hb2 W hW hW2
            rw [same_self] at hS2
            clear hG HT HG
            go_wp2_with (first
              | (go_at_call 10; refine (hO wr rk8).mono ?_; rintro x wa ⟨qa, ca, rfl, ra, hba⟩; have Ya := Y8.below hba; have Va := V8.below hba; have rpa := rp8.below hba; have rqa := rq8.below hba; have rka := rk8.below hba; have hBa := bnext hBr hba; have Za := Blk.new wa #[.int .u64 0, .int .u32 0, .slice none 0 0] 30)
              | (refine at_store_rec _ _ wa.heap.size _ _ _ _ (by rfl) (by rfl) (by rfl) Za rfl ⟨rfl, rfl, rfl⟩ (by rfl) ?_; intro Wb Zb Gb; have hbb : Below wa.heap.size wa Wb := (bnew wa _).grown Gb (by simp) (fun j hj => by simp at hj; omega); have Yb := Ya.below hbb; have Vb := Va.below hbb; have rpb := rpa.below hbb; have rqb := rqa.below hbb; have rkb := rka.below hbb; have rb := ra.below hbb; have hBb := bnext hBa hbb)
              | (go_at_call 16; refine (hQ Wb rkb).mono ?_; rintro x wc ⟨qc, cc, rfl, rc, hbc⟩; have Yc := Yb.below hbc; have Vc := Vb.below hbc; have rpc := rpb.below hbc; have rqc := rqb.below hbc; have rbc := rb.below hbc; have Zbc := Zb.below hbc; have hBc := bnext hBb hbc; have Zc := Blk.new wc #[.int .u64 0, .int .u32 0, .slice none 0 0] 30)
              | (refine at_store_rec _ _ wc.heap.size _ _ _ _ (by rfl) (by rfl) (by rfl) Zc rfl ⟨rfl, rfl, rfl⟩ (by rfl) ?_; intro Wd Zd Gd; have hbd : Below wc.heap.size wc Wd := (bnew wc _).grown Gd (by simp) (fun j hj => by simp at hj; omega); have Yd := Yc.below hbd; have Vd := Vc.below hbd; have Zbd := Zbc.below hbd; have rpd := rpc.below hbd; have rqd := rqc.below hbd; have rd := rbc.below hbd; have hBd := bnext hBc hbd; have kY := Yd.cell; have kV := Vd.cell; have kZ := Zbd.cell)
              | (go_at_call 17; (with_reducible refine (hS2 qa ca Wd rd rqd).mono ?_); rintro x wf ⟨rfl, hbf⟩; have hBf := bnext hBd hbf))
            go_ret
            exact ⟨rfl, hBf⟩
          | false =>
            clear HT HG
            have hgb := got_bytes oD
            cases ho : opens D with
            | false =>
              rw [got_no ho] at hO hQ
              unfold told nought at hO hQ
              clear hgb ho
              go_wp2_with (first
                | (go_at_call 10; refine (hO wr rk8).mono ?_; rintro x wa ⟨qa, ca, rfl, ra, hba⟩; have Ya := Y8.below hba; have Va := V8.below hba; have rpa := rp8.below hba; have rqa := rq8.below hba; have rka := rk8.below hba; have hBa := bnext hBr hba; have Za := Blk.new wa #[.int .u64 0, .int .u32 0, .slice none 0 0] 30)
                | (refine at_store_rec _ _ wa.heap.size _ _ _ _ (by rfl) (by rfl) (by rfl) Za rfl ⟨rfl, rfl, rfl⟩ (by rfl) ?_; intro Wb Zb Gb; have hbb : Below wa.heap.size wa Wb := (bnew wa _).grown Gb (by simp) (fun j hj => by simp at hj; omega); have Yb := Ya.below hbb; have Vb := Va.below hbb; have rpb := rpa.below hbb; have rqb := rqa.below hbb; have rkb := rka.below hbb; have rb := ra.below hbb; have hBb := bnext hBa hbb)
                | (go_at_call 16; refine (hQ Wb rkb).mono ?_; rintro x wc ⟨qc, cc, rfl, rc, hbc⟩; have Yc := Yb.below hbc; have Vc := Vb.below hbc; have rpc := rpb.below hbc; have rqc := rqb.below hbc; have rbc := rb.below hbc; have Zbc := Zb.below hbc; have hBc := bnext hBb hbc; have Zc := Blk.new wc #[.int .u64 0, .int .u32 0, .slice none 0 0] 30)
                | (refine at_store_rec _ _ wc.heap.size _ _ _ _ (by rfl) (by rfl) (by rfl) Zc rfl ⟨rfl, rfl, rfl⟩ (by rfl) ?_; intro Wd Zd Gd; have hbd : Below wc.heap.size wc Wd := (bnew wc _).grown Gd (by simp) (fun j hj => by simp at hj; omega); have Yd := Yc.below hbd; have Vd := Vc.below hbd; have Zbd := Zbc.below hbd; have rpd := rpc.below hbd; have rqd := rqc.below hbd; have rd := rbc.below hbd; have hBd := bnext hBc hbd; have kY := Yd.cell; have kV := Vd.cell; have kZ := Zbd.cell))
              go_ret
              exact ⟨rfl, hBd⟩
            | true =>
              obtain ⟨S, E, P, hG, -, -, -, -⟩ := got_yes ho
              rw [hG] at hO hQ hgb
              unfold told at hO hQ
              obtain ⟨g1, g2, g3⟩ := hgb
              obtain ⟨m2, hm2⟩ : ∃ m2, P.length = m2 := ⟨_, rfl⟩
              have hS1 := fun q' c' W (hW : Reads .u8 W q' c' P) (hW2 : Reads .u8 W q c xs) => ref_Same S E q' m2 c' P hm2 s e q n c xs l g3 hb W hW hW2
              have hS2 := fun q' c' W (hW : Reads .u8 W q' c' P) (hW2 : Reads .u8 W q2 c2 ys) => ref_Same S E q' m2 c' P hm2 s2 e2 q2 n2 c2 ys l2 g3 hb2 W hW hW2
              simp only [hm2] at hO hQ
              generalize (made S E P).length = N at *
              generalize same S E P s e xs = b1 at *
              generalize same S E P s2 e2 ys = b2 at *
              clear hG ho hm2 g1 g2 g3
              cases b1 with
              | true =>
                go_wp2_with (first
                  | (go_at_call 10; refine (hO wr rk8).mono ?_; rintro x wa ⟨qa, ca, rfl, ra, hba⟩; have Ya := Y8.below hba; have Va := V8.below hba; have rpa := rp8.below hba; have rqa := rq8.below hba; have rka := rk8.below hba; have hBa := bnext hBr hba; have Za := Blk.new wa #[.int .u64 0, .int .u32 0, .slice none 0 0] 30)
                  | (refine at_store_rec _ _ wa.heap.size _ _ _ _ (by rfl) (by rfl) (by rfl) Za rfl ⟨rfl, rfl, rfl⟩ (by rfl) ?_; intro Wb Zb Gb; have hbb : Below wa.heap.size wa Wb := (bnew wa _).grown Gb (by simp) (fun j hj => by simp at hj; omega); have Yb := Ya.below hbb; have Vb := Va.below hbb; have rpb := rpa.below hbb; have rqb := rqa.below hbb; have rkb := rka.below hbb; have rb := ra.below hbb; have hBb := bnext hBa hbb)
                  | (go_at_call 16; refine (hQ Wb rkb).mono ?_; rintro x wc ⟨qc, cc, rfl, rc, hbc⟩; have Yc := Yb.below hbc; have Vc := Vb.below hbc; have rpc := rpb.below hbc; have rqc := rqb.below hbc; have rbc := rb.below hbc; have Zbc := Zb.below hbc; have hBc := bnext hBb hbc; have Zc := Blk.new wc #[.int .u64 0, .int .u32 0, .slice none 0 0] 30)
                  | (refine at_store_rec _ _ wc.heap.size _ _ _ _ (by rfl) (by rfl) (by rfl) Zc rfl ⟨rfl, rfl, rfl⟩ (by rfl) ?_; intro Wd Zd Gd; have hbd : Below wc.heap.size wc Wd := (bnew wc _).grown Gd (by simp) (fun j hj => by simp at hj; omega); have Yd := Yc.below hbd; have Vd := Vc.below hbd; have Zbd := Zbc.below hbd; have rpd := rpc.below hbd; have rqd := rqc.below hbd; have rd := rbc.below hbd; have hBd := bnext hBc hbd; have kY := Yd.cell; have kV := Vd.cell; have kZ := Zbd.cell)
                  | (go_at_call 17; (with_reducible refine (hS1 qa ca Wd rd rpd).mono ?_); rintro x we ⟨rfl, hbe⟩; have Ye := Yd.below hbe; have Ve := Vd.below hbe; have Zbe := Zbd.below hbe; have re := rd.below hbe; have rqe := rqd.below hbe; have hBe := bnext hBd hbe; have jY := Ye.cell; have jV := Ve.cell; have jZ := Zbe.cell))
                go_ret
                exact ⟨rfl, hBe⟩
              | false =>
                cases b2 with
                | true =>
                  go_wp2_with (first
                    | (go_at_call 10; refine (hO wr rk8).mono ?_; rintro x wa ⟨qa, ca, rfl, ra, hba⟩; have Ya := Y8.below hba; have Va := V8.below hba; have rpa := rp8.below hba; have rqa := rq8.below hba; have rka := rk8.below hba; have hBa := bnext hBr hba; have Za := Blk.new wa #[.int .u64 0, .int .u32 0, .slice none 0 0] 30)
                    | (refine at_store_rec _ _ wa.heap.size _ _ _ _ (by rfl) (by rfl) (by rfl) Za rfl ⟨rfl, rfl, rfl⟩ (by rfl) ?_; intro Wb Zb Gb; have hbb : Below wa.heap.size wa Wb := (bnew wa _).grown Gb (by simp) (fun j hj => by simp at hj; omega); have Yb := Ya.below hbb; have Vb := Va.below hbb; have rpb := rpa.below hbb; have rqb := rqa.below hbb; have rkb := rka.below hbb; have rb := ra.below hbb; have hBb := bnext hBa hbb)
                    | (go_at_call 16; refine (hQ Wb rkb).mono ?_; rintro x wc ⟨qc, cc, rfl, rc, hbc⟩; have Yc := Yb.below hbc; have Vc := Vb.below hbc; have rpc := rpb.below hbc; have rqc := rqb.below hbc; have rbc := rb.below hbc; have Zbc := Zb.below hbc; have hBc := bnext hBb hbc; have Zc := Blk.new wc #[.int .u64 0, .int .u32 0, .slice none 0 0] 30)
                    | (refine at_store_rec _ _ wc.heap.size _ _ _ _ (by rfl) (by rfl) (by rfl) Zc rfl ⟨rfl, rfl, rfl⟩ (by rfl) ?_; intro Wd Zd Gd; have hbd : Below wc.heap.size wc Wd := (bnew wc _).grown Gd (by simp) (fun j hj => by simp at hj; omega); have Yd := Yc.below hbd; have Vd := Vc.below hbd; have Zbd := Zbc.below hbd; have rpd := rpc.below hbd; have rqd := rqc.below hbd; have rd := rbc.below hbd; have hBd := bnext hBc hbd; have kY := Yd.cell; have kV := Vd.cell; have kZ := Zbd.cell)
                    | (go_at_call 17; (with_reducible refine (hS1 qa ca Wd rd rpd).mono ?_); rintro x we ⟨rfl, hbe⟩; have Ye := Yd.below hbe; have Ve := Vd.below hbe; have Zbe := Zbd.below hbe; have re := rd.below hbe; have rqe := rqd.below hbe; have hBe := bnext hBd hbe; have jY := Ye.cell; have jV := Ve.cell; have jZ := Zbe.cell)
                    | (go_at_call 17; (with_reducible refine (hS2 qa ca we re rqe).mono ?_); rintro x wf ⟨rfl, hbf⟩; have hBf := bnext hBe hbf))
                  go_ret
                  exact ⟨rfl, hBf⟩
                | false =>
                  go_wp2_with (first
                    | (go_at_call 10; refine (hO wr rk8).mono ?_; rintro x wa ⟨qa, ca, rfl, ra, hba⟩; have Ya := Y8.below hba; have Va := V8.below hba; have rpa := rp8.below hba; have rqa := rq8.below hba; have rka := rk8.below hba; have hBa := bnext hBr hba; have Za := Blk.new wa #[.int .u64 0, .int .u32 0, .slice none 0 0] 30)
                    | (refine at_store_rec _ _ wa.heap.size _ _ _ _ (by rfl) (by rfl) (by rfl) Za rfl ⟨rfl, rfl, rfl⟩ (by rfl) ?_; intro Wb Zb Gb; have hbb : Below wa.heap.size wa Wb := (bnew wa _).grown Gb (by simp) (fun j hj => by simp at hj; omega); have Yb := Ya.below hbb; have Vb := Va.below hbb; have rpb := rpa.below hbb; have rqb := rqa.below hbb; have rkb := rka.below hbb; have rb := ra.below hbb; have hBb := bnext hBa hbb)
                    | (go_at_call 16; refine (hQ Wb rkb).mono ?_; rintro x wc ⟨qc, cc, rfl, rc, hbc⟩; have Yc := Yb.below hbc; have Vc := Vb.below hbc; have rpc := rpb.below hbc; have rqc := rqb.below hbc; have rbc := rb.below hbc; have Zbc := Zb.below hbc; have hBc := bnext hBb hbc; have Zc := Blk.new wc #[.int .u64 0, .int .u32 0, .slice none 0 0] 30)
                    | (refine at_store_rec _ _ wc.heap.size _ _ _ _ (by rfl) (by rfl) (by rfl) Zc rfl ⟨rfl, rfl, rfl⟩ (by rfl) ?_; intro Wd Zd Gd; have hbd : Below wc.heap.size wc Wd := (bnew wc _).grown Gd (by simp) (fun j hj => by simp at hj; omega); have Yd := Yc.below hbd; have Vd := Vc.below hbd; have Zbd := Zbc.below hbd; have rpd := rpc.below hbd; have rqd := rqc.below hbd; have rd := rbc.below hbd; have hBd := bnext hBc hbd; have kY := Yd.cell; have kV := Vd.cell; have kZ := Zbd.cell)
                    | (go_at_call 17; (with_reducible refine (hS1 qa ca Wd rd rpd).mono ?_); rintro x we ⟨rfl, hbe⟩; have Ye := Yd.below hbe; have Ve := Vd.below hbe; have Zbe := Zbd.below hbe; have re := rd.below hbe; have rqe := rqd.below hbe; have hBe := bnext hBd hbe; have jY := Ye.cell; have jV := Ve.cell; have jZ := Zbe.cell)
                    | (go_at_call 17; (with_reducible refine (hS2 qa ca we re rqe).mono ?_); rintro x wf ⟨rfl, hbf⟩; have hBf := bnext hBe hbf))
                  go_ret
                  exact ⟨rfl, hBf⟩
end Go.Proofs.Ytdjcdpmnijcenaa.Frame
