/-
  The book of bytes: book.Read.
-/
import Derived.Test.YtnaofcggdjbocaaBkEnts
import Derived.Test.YtnaofcggdjbocaaBkOne
import Derived.Test.YtnaofcggdjbocaaLebList
namespace Go.Proofs.Ytnaofcggdjbocaa.Book
open Go.RowKit Go.Proofs.Ytnaofcggdjbocaa.Mem Go.Proofs.Ytnaofcggdjbocaa.Policy Go.Proofs.Ytnaofcggdjbocaa.Event Go.Proofs.Ytnaofcggdjbocaa.Addr
set_option maxRecDepth 100000

/-- What Read answers. -/
def rdB (bs : List Int) : Bk := (readB bs).getD zeroB
def rdE (bs : List Int) : Int := if (readB bs).isSome = true then 0 else 131
theorem rdb_none {bs : List Int} (h : readB bs = none) : rdB bs = zeroB ∧ rdE bs = 131 := by unfold rdB rdE; rw [h]; exact ⟨rfl, rfl⟩
theorem rdb_some {bs : List Int} {b : Bk} (h : readB bs = some b) : rdB bs = b ∧ rdE bs = 0 := by unfold rdB rdE; rw [h]; exact ⟨rfl, rfl⟩
theorem zero_freshB (B : Nat) : FreshB B zeroH := by simp [FreshB, zeroH]
set_option maxHeartbeats 4000000 in
theorem book_Read (p : Option Addr) (n c : Nat) (bs : List Int) (hn : bs.length = n) (hb : ∀ c ∈ bs, Byte c) (w : World) (r : Reads .u8 w p c bs) :
    Calls Try.prog 10 #[.slice p n c] w fun x w' => ∃ h, x = .returned (.tuple #[bv h, .int .i64 (rdE bs)]) ∧ IsB w' h (rdB bs) ∧ FreshB w.heap.size h ∧ Below w.heap.size w w' := by
  have hA := fun {W : World} (hb' : Below w.heap.size w W) => Leb.all_any p n c bs hn hb W (r.below hb')
  obtain ⟨l, E, hlE⟩ : ∃ l E, Leb.lall bs = (l, E) := ⟨_, _, rfl⟩
  have hbk : (l = [] ∧ E = 21) ∨ (E = 0 ∧ (∀ x ∈ l, Word x) ∧ l.length ≤ 128) := by
    rcases Leb.lall_back bs with h | ⟨m, h, -, h1, h2⟩
    · rw [hlE] at h; simp only [Prod.mk.injEq] at h; exact .inl h
    · rw [hlE] at h; simp only [Prod.mk.injEq] at h; rw [h.1]; exact .inr ⟨h.2, h1, h2⟩
  have hO : Hid (readB bs = if E = 0 ∧ 1 ≤ l.length then ((entsO (l.drop 1)).map (Bk.mk (l.getD 0 0))).filter rightB else none) := by unfold Hid readB; rw [hlE]
  rw [hlE] at hA
  simp only at hA
  clear hlE hn hb r
  rcases hbk with ⟨rfl, rfl⟩ | ⟨rfl, hw, h128⟩
  · have hR : readB bs = none := by rw [hO.out, if_neg (by simp)]
    rw [(rdb_none hR).1, (rdb_none hR).2]
    clear hO hR
    go_enter Try.func10, Try.ntmps10
    go_wp2_with (first
      | ((fail_if_success (have _ := hX1)); (refine at_alloc_bk (by rfl) (by rfl) ?_); intro V1 hX1 hB1 hz1)
      | ((fail_if_success (have _ := hB3)); (have _ := hX1); (with_reducible refine (hA hB1).mono ?_); rintro e w3 ⟨q3, c3, rfl, r3, hB3⟩; have hX3 := hX1.below hB3; have hB13 := bnext hB1 hB3)
      | ((fail_if_success (have _ := hX4)); (have _ := hX3); (refine at_build_bzero (by rfl) (by rfl) ?_))
      | ((fail_if_success (have _ := hX4)); (have _ := hX3); (refine at_store_bk _ _ _ _ _ (by rfl) (by rfl) (by rfl) hX3 rfl (by rfl) ?_); intro V4 hX4 hg4 hz4))
    refine ret_bk2 (by rfl) rfl _ _ rfl hX4 ⟨_, rfl, IsB.zero _, zero_freshB _, hB13.grown hg4 hB13.size (by simp)⟩
  · cases l with
    | nil =>
      have hR : readB bs = none := by rw [hO.out, if_neg (by simp)]
      rw [(rdb_none hR).1, (rdb_none hR).2]
      clear hO hR
      go_enter Try.func10, Try.ntmps10
      go_wp2_with (first
        | ((fail_if_success (have _ := hX1)); (refine at_alloc_bk (by rfl) (by rfl) ?_); intro V1 hX1 hB1 hz1)
        | ((fail_if_success (have _ := hB3)); (have _ := hX1); (with_reducible refine (hA hB1).mono ?_); rintro e w3 ⟨q3, c3, rfl, r3, hB3⟩; have hX3 := hX1.below hB3; have hB13 := bnext hB1 hB3)
        | ((fail_if_success (have _ := hX4)); (have _ := hX3); (refine at_build_bzero (by rfl) (by rfl) ?_))
        | ((fail_if_success (have _ := hX4)); (have _ := hX3); (refine at_store_bk _ _ _ _ _ (by rfl) (by rfl) (by rfl) hX3 rfl (by rfl) ?_); intro V4 hX4 hg4 hz4))
      refine ret_bk2 (by rfl) rfl _ _ rfl hX4 ⟨_, rfl, IsB.zero _, zero_freshB _, hB13.grown hg4 hB13.size (by simp)⟩
    | cons x0 rest =>
      obtain ⟨m, hm⟩ : ∃ m, rest.length = m := ⟨_, rfl⟩
      obtain ⟨M, hM⟩ : ∃ M, (x0 :: rest).length = M := ⟨_, rfl⟩
      have hml : M = m + 1 := by rw [← hM]; simp [hm]
      have HML : Hid (M = m + 1) := hml
      rw [hM] at hA h128
      replace hO : Hid (readB bs = ((entsO rest).map (Bk.mk x0)).filter rightB) := by
        unfold Hid
        rw [hO.out, if_pos ⟨rfl, by simp⟩]
        rfl
      have he0 : ((M : Int) == 0) = false := by simp; omega
      have z0 : (0 : Int) < (M : Int) := by omega
      have z1 : 0 < M := by omega
      have hwr : ∀ x ∈ rest, Word x := fun x hx => hw x (by simp [hx])
      have hEn := fun {W : World} {q d} (hr : Reads .u64 W q d rest) => entries_of q m d rest hm (by omega) hwr W hr
      have hback : Hid (∀ es, entsO rest = some es → (∀ e ∈ es, EnOk e) ∧ es.length ≤ 1000) := fun es he => by
        obtain ⟨k1, k2⟩ := entsA_back _ _ _ _ hwr (Nat.le_refl _) (by simp) he
        refine ⟨k2, ?_⟩
        have := congrArg List.length k1
        rw [ents_len, List.flatMap_nil, List.nil_append] at this
        omega
      obtain ⟨RE, hRE⟩ : ∃ RE, RE = rdB bs := ⟨_, rfl⟩
      obtain ⟨RN, hRN⟩ : ∃ RN, RN = rdE bs := ⟨_, rfl⟩
      rw [← hRE, ← hRN]
      have HRE : Hid (RE = rdB bs) := hRE
      have HRN : Hid (RN = rdE bs) := hRN
      clear hw hwr hml hm hRE hRN hM
      cases hes : entsO rest with
      | some es =>
        have hEn2 : ∀ {W : World} {q d}, Reads .u64 W q d rest → Calls Try.prog 27 #[.slice q m d] W fun x w' => ∃ q4 c4, x = .returned (.tuple #[.slice q4 es.length c4, .bool true]) ∧ EO W.heap.size w' (.slice q4 es.length c4) es ∧ Below W.heap.size W w' := fun hr => (hEn hr).mono fun x w' ⟨v, b, hx, ht, hB⟩ => by
          rcases ht with ⟨es', he', rfl, hO'⟩ | ⟨hno, _⟩
          · rw [hes] at he'
            obtain rfl := Option.some.inj he'
            obtain ⟨q4, c4, rfl, -, -⟩ := hO'.shape
            exact ⟨q4, c4, hx, hO', hB⟩
          · rw [hes] at hno; cases hno
        obtain ⟨ok1, ok2⟩ := hback.out es hes
        have hRt := fun (W : World) (q4 : Option Addr) (c4 : Nat) (hO : EO w.heap.size W (.slice q4 es.length c4) es) => book_Right ⟨x0, q4, es.length, c4⟩ ⟨x0, es⟩ W ⟨rfl, rfl, hO.is.2.1⟩ ok1 ok2
        clear hEn
        have hEn := @hEn2
        clear hEn2
        obtain ⟨K, hK⟩ : ∃ K, es.length = K := ⟨_, rfl⟩
        simp only [hK] at hEn hRt
        cases hr : rightB ⟨x0, es⟩ with
        | true =>
          have hR : readB bs = some ⟨x0, es⟩ := by rw [hO.out, hes]; simp [Option.filter, hr]
          obtain ⟨e1, e2⟩ := rdb_some hR
          obtain rfl : RE = ⟨x0, es⟩ := HRE.out.trans e1
          obtain rfl : RN = 0 := HRN.out.trans e2
          simp only [hr] at hRt
          clear e1 e2 hR hr hback HRE HRN hO hes ok1 ok2 hK
          go_enter Try.func10, Try.ntmps10
          go_wp2_with (first
            | ((fail_if_success (have _ := hX1)); (refine at_alloc_bk (by rfl) (by rfl) ?_); intro V1 hX1 hB1 hz1)
            | ((fail_if_success (have _ := hB3)); (have _ := hX1); (with_reducible refine (hA hB1).mono ?_); rintro e w3 ⟨q3, c3, rfl, r3, hB3⟩; have hX3 := hX1.below hB3; have hB13 := bnext hB1 hB3; have hr3 := r3.cut 1 (by simp); obtain ⟨b0, o0, rfl, hbl, hcl⟩ := r3.2.2.2 (by simp); have hV1 : w.heap.size < w3.heap.size := (by have := hB3.size; have := hz1.out; omega); have hcut : ∀ W, (Instr.slice 65 (.slice (some ⟨b0, o0, none⟩) M c3) (some (.int .i64 1)) none none).run Try.prog W = .ok (.slice (cutP (some ⟨b0, o0, none⟩) c3 1) m (c3 - 1)) W := fun W => by have h9 := run_from_u W (some ⟨b0, o0, none⟩) M c3 1 (by have := HML.out; omega); rwa [show M - 1 = m by have := HML.out; omega] at h9)
            | ((fail_if_success (have _ := hB4)); (have _ := hB3); (with_reducible refine (hEn hr3).mono ?_); rintro e w4 ⟨q4, c4, rfl, hO4, hB4⟩; have k0 := (hB4.cell (p := ⟨b0, o0 + 0, none⟩) hbl).trans (hcl 0 (by simp)); simp only [Nat.add_zero, List.getD_cons_zero] at k0; have hX4 := hX3.below hB4; have hB14 := bnext hB13 hB4; have hO4l := hO4.lower (Nat.le_of_lt hV1))
            | ((fail_if_success (have _ := hZ5)); (have _ := hB4); (refine at_build_bboth _ _ x0 q4 K c4 (by rfl) (by rfl) (by rfl) (by rfl) ?_))
            | ((fail_if_success (have _ := hZ5)); (have _ := hB4); (refine at_alloc_bk (by rfl) (by rfl) ?_); intro V5 hZ5 hB5 hz5)
            | ((fail_if_success (have _ := hZ6)); (have _ := hZ5); (refine at_store_bk _ _ _ _ _ (by rfl) (by rfl) (by rfl) hZ5 rfl (by rfl) ?_); intro V6 hZ6 hg6 hz6; have hB6 := hB5.grown hg6 hB5.size (by simp); have hO6 := hO4l.below hB6)
            | ((fail_if_success (have _ := hB7)); (have _ := hZ6); (refine at_load_bk _ _ _ (by rfl) (by rfl) hZ6 (by rfl) ?_))
            | ((fail_if_success (have _ := hB7)); (have _ := hZ6); (with_reducible refine (hRt _ _ _ hO6).mono ?_); rintro e7 w7 ⟨rfl, hB7⟩; have hZ7 := hZ6.below hB7; have hB47 := bnext hB6 hB7; have hX7 := hX4.below hB47; have hO7 := hO4.below hB47; have hB17 := bnext hB14 hB47)
            | ((fail_if_success (have _ := hX8)); (have _ := hB7); (refine at_load_bk _ _ _ (by rfl) (by rfl) hZ7 (by rfl) ?_))
            | ((fail_if_success (have _ := hX8)); (have _ := hB7); (refine at_store_bk _ _ _ _ _ (by rfl) (by rfl) (by rfl) hX7 rfl (by rfl) ?_); intro V8 hX8 hg8 hz8; have hO8 := hO7.off hX7 (by decide) hg8))
          refine ret_bk2 (by rfl) rfl _ _ rfl hX8 ⟨_, rfl, (isb_own hO8).1, (isb_own hO8).2.mono (by omega), hB17.grown hg8 hB17.size (by simp)⟩
        | false =>
          have hR : readB bs = none := by rw [hO.out, hes]; simp [Option.filter, hr]
          obtain ⟨e1, e2⟩ := rdb_none hR
          obtain rfl : RE = zeroB := HRE.out.trans e1
          obtain rfl : RN = 131 := HRN.out.trans e2
          simp only [hr] at hRt
          clear e1 e2 hR hr hback HRE HRN hO hes ok1 ok2 hK
          go_enter Try.func10, Try.ntmps10
          go_wp2_with (first
            | ((fail_if_success (have _ := hX1)); (refine at_alloc_bk (by rfl) (by rfl) ?_); intro V1 hX1 hB1 hz1)
            | ((fail_if_success (have _ := hB3)); (have _ := hX1); (with_reducible refine (hA hB1).mono ?_); rintro e w3 ⟨q3, c3, rfl, r3, hB3⟩; have hX3 := hX1.below hB3; have hB13 := bnext hB1 hB3; have hr3 := r3.cut 1 (by simp); obtain ⟨b0, o0, rfl, hbl, hcl⟩ := r3.2.2.2 (by simp); have hV1 : w.heap.size < w3.heap.size := (by have := hB3.size; have := hz1.out; omega); have hcut : ∀ W, (Instr.slice 65 (.slice (some ⟨b0, o0, none⟩) M c3) (some (.int .i64 1)) none none).run Try.prog W = .ok (.slice (cutP (some ⟨b0, o0, none⟩) c3 1) m (c3 - 1)) W := fun W => by have h9 := run_from_u W (some ⟨b0, o0, none⟩) M c3 1 (by have := HML.out; omega); rwa [show M - 1 = m by have := HML.out; omega] at h9)
            | ((fail_if_success (have _ := hB4)); (have _ := hB3); (with_reducible refine (hEn hr3).mono ?_); rintro e w4 ⟨q4, c4, rfl, hO4, hB4⟩; have k0 := (hB4.cell (p := ⟨b0, o0 + 0, none⟩) hbl).trans (hcl 0 (by simp)); simp only [Nat.add_zero, List.getD_cons_zero] at k0; have hX4 := hX3.below hB4; have hB14 := bnext hB13 hB4; have hO4l := hO4.lower (Nat.le_of_lt hV1))
            | ((fail_if_success (have _ := hZ5)); (have _ := hB4); (refine at_build_bboth _ _ x0 q4 K c4 (by rfl) (by rfl) (by rfl) (by rfl) ?_))
            | ((fail_if_success (have _ := hZ5)); (have _ := hB4); (refine at_alloc_bk (by rfl) (by rfl) ?_); intro V5 hZ5 hB5 hz5)
            | ((fail_if_success (have _ := hZ6)); (have _ := hZ5); (refine at_store_bk _ _ _ _ _ (by rfl) (by rfl) (by rfl) hZ5 rfl (by rfl) ?_); intro V6 hZ6 hg6 hz6; have hB6 := hB5.grown hg6 hB5.size (by simp); have hO6 := hO4l.below hB6)
            | ((fail_if_success (have _ := hB7)); (have _ := hZ6); (refine at_load_bk _ _ _ (by rfl) (by rfl) hZ6 (by rfl) ?_))
            | ((fail_if_success (have _ := hB7)); (have _ := hZ6); (with_reducible refine (hRt _ _ _ hO6).mono ?_); rintro e7 w7 ⟨rfl, hB7⟩; have hB47 := bnext hB6 hB7; have hX7 := hX4.below hB47; have hB17 := bnext hB14 hB47)
            | ((fail_if_success (have _ := hX8)); (have _ := hB7); (refine at_build_bzero (by rfl) (by rfl) ?_))
            | ((fail_if_success (have _ := hX8)); (have _ := hB7); (refine at_store_bk _ _ _ _ _ (by rfl) (by rfl) (by rfl) hX7 rfl (by rfl) ?_); intro V8 hX8 hg8 hz8))
          refine ret_bk2 (by rfl) rfl _ _ rfl hX8 ⟨_, rfl, IsB.zero _, zero_freshB _, hB17.grown hg8 hB17.size (by simp)⟩
      | none =>
        have hEn2 : ∀ {W : World} {q d}, Reads .u64 W q d rest → Calls Try.prog 27 #[.slice q m d] W fun x w' => x = .returned (.tuple #[.slice none 0 0, .bool false]) ∧ Below W.heap.size W w' := fun hr => (hEn hr).mono fun x w' ⟨v, b, hx, ht, hB⟩ => by
          rcases ht with ⟨es', he', _⟩ | ⟨_, rfl, rfl⟩
          · rw [hes] at he'; cases he'
          · exact ⟨hx, hB⟩
        clear hEn
        have hEn := @hEn2
        clear hEn2
        have hR : readB bs = none := by rw [hO.out, hes]; rfl
        obtain ⟨e1, e2⟩ := rdb_none hR
        obtain rfl : RE = zeroB := HRE.out.trans e1
        obtain rfl : RN = 131 := HRN.out.trans e2
        clear e1 e2 hR hback HRE HRN hO hes
        go_enter Try.func10, Try.ntmps10
        go_wp2_with (first
          | ((fail_if_success (have _ := hX1)); (refine at_alloc_bk (by rfl) (by rfl) ?_); intro V1 hX1 hB1 hz1)
          | ((fail_if_success (have _ := hB3)); (have _ := hX1); (with_reducible refine (hA hB1).mono ?_); rintro e w3 ⟨q3, c3, rfl, r3, hB3⟩; have hX3 := hX1.below hB3; have hB13 := bnext hB1 hB3; have hr3 := r3.cut 1 (by simp); obtain ⟨b0, o0, rfl, hbl, hcl⟩ := r3.2.2.2 (by simp); have hV1 : w.heap.size < w3.heap.size := (by have := hB3.size; have := hz1.out; omega); have hcut : ∀ W, (Instr.slice 65 (.slice (some ⟨b0, o0, none⟩) M c3) (some (.int .i64 1)) none none).run Try.prog W = .ok (.slice (cutP (some ⟨b0, o0, none⟩) c3 1) m (c3 - 1)) W := fun W => by have h9 := run_from_u W (some ⟨b0, o0, none⟩) M c3 1 (by have := HML.out; omega); rwa [show M - 1 = m by have := HML.out; omega] at h9)
          | ((fail_if_success (have _ := hB4)); (have _ := hB3); (with_reducible refine (hEn hr3).mono ?_); rintro e w4 ⟨rfl, hB4⟩; have k0 := (hB4.cell (p := ⟨b0, o0 + 0, none⟩) hbl).trans (hcl 0 (by simp)); simp only [Nat.add_zero, List.getD_cons_zero] at k0; have hX4 := hX3.below hB4; have hB14 := bnext hB13 hB4)
          | ((fail_if_success (have _ := hZ5)); (have _ := hB4); (refine at_build_bboth _ _ x0 none 0 0 (by rfl) (by rfl) (by rfl) (by rfl) ?_))
          | ((fail_if_success (have _ := hZ5)); (have _ := hB4); (refine at_alloc_bk (by rfl) (by rfl) ?_); intro V5 hZ5 hB5 hz5)
          | ((fail_if_success (have _ := hZ6)); (have _ := hZ5); (refine at_store_bk _ _ _ _ _ (by rfl) (by rfl) (by rfl) hZ5 rfl (by rfl) ?_); intro V6 hZ6 hg6 hz6; have hB6 := hB5.grown hg6 hB5.size (by simp); have hX7 := hX4.below hB6; have hB17 := bnext hB14 hB6)
          | ((fail_if_success (have _ := hX8)); (have _ := hZ6); (refine at_build_bzero (by rfl) (by rfl) ?_))
          | ((fail_if_success (have _ := hX8)); (have _ := hZ6); (refine at_store_bk _ _ _ _ _ (by rfl) (by rfl) (by rfl) hX7 rfl (by rfl) ?_); intro V8 hX8 hg8 hz8))
        refine ret_bk2 (by rfl) rfl _ _ rfl hX8 ⟨_, rfl, IsB.zero _, zero_freshB _, hB17.grown hg8 hB17.size (by simp)⟩
end Go.Proofs.Ytnaofcggdjbocaa.Book
