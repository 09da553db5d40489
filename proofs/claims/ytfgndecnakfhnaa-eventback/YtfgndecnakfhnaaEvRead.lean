/-
  The event of bytes: event.Read. (Written by gen_evread.py.)
-/
import Derived.Test.YtfgndecnakfhnaaEvOf2
import Derived.Test.YtfgndecnakfhnaaInvB
namespace Go.Proofs.Ytfgndecnakfhnaa.Event
open Go.RowKit Go.Proofs.Ytfgndecnakfhnaa.Mem Go.Proofs.Ytfgndecnakfhnaa.Policy
set_option maxRecDepth 100000

def rdEv (bs : List Int) : Ev := (readO bs).getD zeroE
def rdErr (bs : List Int) : Int := if (readO bs).isSome then 0 else 121
theorem rd_none {bs : List Int} (h : readO bs = none) : rdEv bs = zeroE ∧ rdErr bs = 121 := by unfold rdEv rdErr; rw [h]; exact ⟨rfl, rfl⟩
theorem rd_some {bs : List Int} {e : Ev} (h : readO bs = some e) : rdEv bs = e ∧ rdErr bs = 0 := by unfold rdEv rdErr; rw [h]; exact ⟨rfl, rfl⟩
theorem zero_fresh (B : Nat) : Fresh B zeroH := by simp [Fresh, zeroH]
/-- Its lists lie elsewhere. -/
def Away (g : Nat) (h : Eh) (o : Option Ev) : Prop := ∀ e, o = some e → (0 < e.ps.length → ∀ a, h.pp = some a → a.block ≠ g) ∧ (0 < e.ds.length → ∀ a, h.dp = some a → a.block ≠ g)
theorem Told.away {B g : Nat} {w w' : World} {h : Eh} {b : Bool} {o : Option Ev} (ht : Told B w h b o) (hg : w.grownBy w' (some g)) (ha : Away g h o) : Told B w' h b o := by
  rcases ht with ⟨e, h1, h2, h3, h4⟩ | ht
  · obtain ⟨a1, a2⟩ := ha e h1
    exact .inl ⟨e, h1, h2, ⟨h3.1, ⟨h3.2.1.1, rk_kept h3.2.1.2 hg a1⟩, h3.2.2.1, h3.2.2.2.kept hg a2⟩, h4⟩
  · exact .inr ht
theorem Told.later {B : Nat} {w : World} {h : Eh} {b : Bool} {o : Option Ev} (ht : Told B w h b o) : Away w.heap.size h o := by
  rcases ht with ⟨e, h1, h2, h3, h4⟩ | ⟨h1, -⟩
  · rintro e' he
    obtain rfl := Option.some.inj (h1.symm.trans he)
    refine ⟨fun hz a ha => ?_, fun hz a ha => ?_⟩
    · obtain ⟨b', o', e', hlt, -⟩ := h3.2.1.2.2.2.2 hz
      rw [e'] at ha
      obtain rfl := Option.some.inj ha
      exact Nat.ne_of_lt hlt
    · obtain ⟨b', o', e', hlt, -⟩ := h3.2.2.2.2.2.2 hz
      rw [e'] at ha
      obtain rfl := Option.some.inj ha
      exact Nat.ne_of_lt hlt
  · rintro e' he; rw [h1] at he; cases he
theorem Told.before {B g : Nat} {w : World} {h : Eh} {b : Bool} {o : Option Ev} (ht : Told B w h b o) (hg : g < B) : Away g h o := by
  rcases ht with ⟨e, h1, h2, h3, h4⟩ | ⟨h1, -⟩
  · exact fun e' _ => ⟨fun _ a ha => by have := h4.1 a ha; omega, fun _ a ha => by have := h4.2 a ha; omega⟩
  · rintro e' he; rw [h1] at he; cases he
set_option maxHeartbeats 1000000 in
theorem event_Read (p : Option Addr) (n c : Nat) (bs : List Int) (hn : bs.length = n) (hb : ∀ c ∈ bs, Byte c) (w : World) (r : Reads .u8 w p c bs) :
    Calls Try.prog 10 #[.slice p n c] w fun x w' => ∃ h, x = .returned (.tuple #[ev h, .int .i64 (rdErr bs)]) ∧ Is w' h (rdEv bs) ∧ Fresh w.heap.size h ∧ Below w.heap.size w w' := by
  have hA := fun {W : World} (hb' : Below w.heap.size w W) => Leb.all_any p n c bs hn hb W (r.below hb')
  obtain ⟨l, E, hlE⟩ : ∃ l E, Leb.lall bs = (l, E) := ⟨_, _, rfl⟩
  have hbk : (l = [] ∧ E = 21) ∨ (E = 0 ∧ (∀ x ∈ l, Word x) ∧ l.length ≤ 128) := by
    rcases Leb.lall_back bs with h | ⟨m, h, -, h1, h2⟩
    · rw [hlE] at h; simp only [Prod.mk.injEq] at h; exact .inl h
    · rw [hlE] at h; simp only [Prod.mk.injEq] at h; rw [h.1]; exact .inr ⟨h.2, h1, h2⟩
  have hO : Hid (readO bs = if E = 0 ∧ 2 ≤ l.length then (ofO (l.getD 0 0) (l.getD 1 0) (l.drop 2)).filter rightE else none) := by unfold Hid readO; rw [hlE]
  rw [hlE] at hA
  simp only at hA
  clear hlE hn hb r
  by_cases h2 : E = 0 ∧ 2 ≤ l.length
  · obtain ⟨rfl, h2⟩ := h2
    obtain ⟨hw, h128⟩ : (∀ x ∈ l, Word x) ∧ l.length ≤ 128 := by
      rcases hbk with ⟨-, h⟩ | ⟨-, h⟩
      · cases h
      · exact h
    clear hbk
    obtain ⟨x0, x1, rest, rfl⟩ := two_of h2
    obtain ⟨m, hm⟩ : ∃ m, rest.length = m := ⟨_, rfl⟩
    have hml : (x0 :: x1 :: rest).length = m + 2 := by simp [hm]
    rw [hml] at hA h128
    replace hO : Hid (readO bs = (ofO x0 x1 rest).filter rightE) := by
      unfold Hid
      rw [hO.out, if_pos ⟨rfl, h2⟩]
      rfl
    have hlt : decide (((m + 2 : Nat) : Int) < 2) = false := decide_eq_false (by omega)
    have hlt2 : decide ((m : Int) + 2 < 2) = false := decide_eq_false (by omega)
    have hwr : ∀ x ∈ rest, Word x := fun x hx => hw x (by simp [hx])
    have hwb : Word x1 := hw x1 (by simp)
    obtain ⟨O, hOO⟩ : ∃ O, ofO x0 x1 rest = O := ⟨_, rfl⟩
    have hok : Hid (∀ e, O = some e → (∀ p ∈ e.ps, PoOk p) ∧ e.ps.length ≤ rest.length ∧ e.ds.length ≤ rest.length) := fun e he => ofO_ok hwr (hOO.trans he)
    have hOf := fun {W : World} {q d} (hr : Reads .u64 W q d rest) => event_of x0 x1 hwb q m d rest hm (by omega) hwr W hr
    rw [hOO] at hO hOf
    have hmH : Hid (rest.length = m) := hm
    obtain ⟨RE, hRE⟩ : ∃ RE, RE = rdEv bs := ⟨_, rfl⟩
    obtain ⟨RN, hRN⟩ : ∃ RN, RN = rdErr bs := ⟨_, rfl⟩
    rw [← hRE, ← hRN]
    have HRE : Hid (RE = rdEv bs) := hRE
    have HRN : Hid (RN = rdErr bs) := hRN
    clear hw h2 hwr hwb hOO hml hm hRE hRN
    go_enter Try.func10, Try.ntmps10
    go_wp2_with (first
      | ((fail_if_success (have _ := hX1)); (refine at_alloc_ev (by rfl) (by rfl) ?_); intro V1 hX1 hB1 hz1)
      | ((fail_if_success (have _ := hB3)); (have _ := hX1); (with_reducible refine (hA hB1).mono ?_); rintro e w3 ⟨q3, c3, rfl, r3, hB3⟩; have hX3 := hX1.below hB3; have hB13 := bnext hB1 hB3))
    have hc2 := r3.1
    have hr3 := r3.cut 2 (by simp)
    obtain ⟨b0, o0, rfl, hbl, hcl⟩ := r3.2.2.2 (by simp)
    have k0 := fun {W : World} (hb : Below w3.heap.size w3 W) => (hb.cell (p := ⟨b0, o0 + 0, none⟩) hbl).trans (hcl 0 (by simp))
    have k1 := fun {W : World} (hb : Below w3.heap.size w3 W) => (hb.cell (p := ⟨b0, o0 + 1, none⟩) hbl).trans (hcl 1 (by simp))
    simp only [Nat.add_zero, List.getD_cons_zero, List.getD_cons_succ] at k0 k1
    have hOf3 := fun {W : World} (hb : Below w3.heap.size w3 W) => hOf (hr3.below hb)
    have hcut : ∀ W, (Instr.slice 43 (.slice (some ⟨b0, o0, none⟩) (m + 2) c3) (some (.int .i64 2)) none none).run Try.prog W = .ok (.slice (cutP (some ⟨b0, o0, none⟩) c3 2) m (c3 - 2)) W := fun W => run_from_u W (some ⟨b0, o0, none⟩) (m + 2) c3 2 (by omega)
    have z0 : (0 : Int) < (m : Int) + 2 := by omega
    have z1 : (1 : Int) < (m : Int) + 2 := by omega
    have hB0 := Below.refl w3.heap.size w3
    clear hcl r3 hr3 hOf hbl hc2 hA
    refine Inv.region_invB (fun L a w' => ∃ (gA : Nat) (hE : Eh) (bb : Bool), a = { tmps := #[(Value.slice p n c), undef, (Value.pointer (some { block := w.heap.size, off := 0 })), (Value.int IntKind.i64 0), (Value.slice (some { block := b0, off := o0 }) (m + 2) c3), (Value.int IntKind.i64 0), (if L 12 = true then (.pointer (some ⟨gA, 0, none⟩)) else undef), (if L 14 = true then (.bool bb) else undef), (Value.tuple #[Value.slice (some { block := b0, off := o0 }) (m + 2) c3, Value.int IntKind.i64 0]), (Value.slice p n c), (Value.tuple #[Value.slice (some { block := b0, off := o0 }) (m + 2) c3, Value.int IntKind.i64 0]), (Value.slice (some { block := b0, off := o0 }) (m + 2) c3), (Value.int IntKind.i64 0), (Value.int IntKind.i64 0), (Value.bool false), (Value.bool false), (Value.slice (some { block := b0, off := o0 }) (m + 2) c3), (Value.int IntKind.i64 (↑m + 2)), (Value.bool false), (Value.bool false), undef, (if L 9 = true then (.tuple #[ev hE, .bool bb]) else undef), (if L 0 = true then (.slice (some ⟨b0, o0, none⟩) (m + 2) c3) else undef), (if L 1 = true then (.pointer (some ⟨b0, o0, none⟩)) else undef), (if L 2 = true then (.int .u64 x0) else undef), (if L 3 = true then (.slice (some ⟨b0, o0, none⟩) (m + 2) c3) else undef), (if L 4 = true then (.pointer (some ⟨b0, o0 + 1, none⟩)) else undef), (if L 5 = true then (.int .u64 x1) else undef), (if L 6 = true then (.slice (some ⟨b0, o0, none⟩) (m + 2) c3) else undef), (if L 7 = true then (.slice (cutP (some ⟨b0, o0, none⟩) c3 2) m (c3 - 2)) else undef), (if L 8 = true then (.tuple #[ev hE, .bool bb]) else undef), (if L 10 = true then (ev hE) else undef), (if L 11 = true then (.bool bb) else undef), undef, undef, undef, undef, undef, undef, undef, undef, undef], defers := [] } ∧ (Below w3.heap.size w3 w' ∧ (L 12 = true → Blk w' gA 30 (el (if L 13 = true then hE else zeroH)) ∧ w3.heap.size ≤ gA) ∧ (L 8 = true → Told w3.heap.size w' hE bb O) ∧ (L 8 = true → L 12 = true → Away gA hE O) ∧ (L 8 = false → L 9 = false ∧ L 10 = false ∧ L 11 = false ∧ L 13 = false ∧ L 14 = false) ∧ (L 12 = false → L 13 = false))) (by kernel_rfl) (by kernel_rfl) ?h0 ?step ?done
    case h0 => exact ⟨0, zeroH, false, by simp, hB0.drew, by simp, by simp, by simp, by simp, by simp⟩
    case step =>
      refine Inv.Steps.cons rfl ?_ ?_
      · intro L a w' hI hL hd K hK
        obtain ⟨gA, hE, bb, rfl, hI⟩ := hI
        clear hd
        rw [if_pos (by rfl)]
        go_simp
        exact hK.out _ _ ⟨gA, hE, bb, by simp, by simpa using hI⟩
      refine Inv.Steps.cons rfl ?_ ?_
      · intro L a w' hI hL hd K hK
        obtain ⟨gA, hE, bb, rfl, hI⟩ := hI
        simp [Region.binds] at hd
        simp only [hd, if_true]
        rw [if_pos (by rfl)]
        go_simp
        exact hK.out _ _ ⟨gA, hE, bb, by simp [hd], by simpa using hI⟩
      refine Inv.Steps.cons rfl ?_ ?_
      · intro L a w' hI hL hd K hK
        obtain ⟨gA, hE, bb, rfl, hI⟩ := hI
        simp [Region.binds] at hd
        simp only [hd, if_true]
        rw [if_pos (by rfl)]
        have hc := k0 hI.1
        go_simp
        exact hK.out _ _ ⟨gA, hE, bb, by simp [hd], by simpa using hI⟩
      refine Inv.Steps.cons rfl ?_ ?_
      · intro L a w' hI hL hd K hK
        obtain ⟨gA, hE, bb, rfl, hI⟩ := hI
        clear hd
        rw [if_pos (by rfl)]
        go_simp
        exact hK.out _ _ ⟨gA, hE, bb, by simp, by simpa using hI⟩
      refine Inv.Steps.cons rfl ?_ ?_
      · intro L a w' hI hL hd K hK
        obtain ⟨gA, hE, bb, rfl, hI⟩ := hI
        simp [Region.binds] at hd
        simp only [hd, if_true]
        rw [if_pos (by rfl)]
        go_simp
        exact hK.out _ _ ⟨gA, hE, bb, by simp [hd], by simpa using hI⟩
      refine Inv.Steps.cons rfl ?_ ?_
      · intro L a w' hI hL hd K hK
        obtain ⟨gA, hE, bb, rfl, hI⟩ := hI
        simp [Region.binds] at hd
        simp only [hd, if_true]
        rw [if_pos (by rfl)]
        have hc := k1 hI.1
        go_simp
        exact hK.out _ _ ⟨gA, hE, bb, by simp [hd], by simpa using hI⟩
      refine Inv.Steps.cons rfl ?_ ?_
      · intro L a w' hI hL hd K hK
        obtain ⟨gA, hE, bb, rfl, hI⟩ := hI
        clear hd
        rw [if_pos (by rfl)]
        go_simp
        exact hK.out _ _ ⟨gA, hE, bb, by simp, by simpa using hI⟩
      refine Inv.Steps.cons rfl ?_ ?_
      · intro L a w' hI hL hd K hK
        obtain ⟨gA, hE, bb, rfl, hI⟩ := hI
        simp [Region.binds] at hd
        simp only [hd, if_true]
        rw [if_pos (by rfl)]
        go_simp
        exact hK.out _ _ ⟨gA, hE, bb, by simp [hd], by simpa using hI⟩
      refine Inv.Steps.cons rfl ?_ ?_
      · intro L a w' hI hL hd K hK
        obtain ⟨gA, hE, bb, rfl, hI⟩ := hI
        simp [Region.binds] at hd
        simp only [hd, if_true]
        rw [if_pos (by rfl)]
        obtain ⟨n9, n10, n11, n13, n14⟩ := hI.2.2.2.2.1 hL
        go_simp
        refine (hOf3 hI.1).mono ?_
        rintro e w6 ⟨h6, b6, rfl, ht6, hB6⟩
        exact hK.out _ _ ⟨gA, h6, b6, by simp [hd, n9, n10, n11, n14], bnext hI.1 hB6, fun h => by have h2 := hI.2.1 (by simpa using h); rw [n13] at h2; exact ⟨by simpa [n13] using h2.1.below hB6, h2.2⟩, fun _ => ht6.mono hI.1.size, fun _ h => ht6.before (hI.2.1 (by simpa using h)).1.lt, fun h => by simp at h, by simpa using hI.2.2.2.2.2⟩
      refine Inv.Steps.cons rfl ?_ ?_
      · intro L a w' hI hL hd K hK
        obtain ⟨gA, hE, bb, rfl, hI⟩ := hI
        simp [Region.binds] at hd
        simp only [hd, if_true]
        rw [if_pos (by rfl)]
        go_simp
        exact hK.out _ _ ⟨gA, hE, bb, by simp [hd], hI.1, by simpa using hI.2.1, by simpa using hI.2.2.1, by simpa using hI.2.2.2.1, fun h8 => absurd h8 (by simp [hd]), by simpa using hI.2.2.2.2.2⟩
      refine Inv.Steps.cons rfl ?_ ?_
      · intro L a w' hI hL hd K hK
        obtain ⟨gA, hE, bb, rfl, hI⟩ := hI
        simp [Region.binds] at hd
        simp only [hd, if_true]
        rw [if_pos (by rfl)]
        go_simp
        exact hK.out _ _ ⟨gA, hE, bb, by simp [hd], hI.1, by simpa using hI.2.1, by simpa using hI.2.2.1, by simpa using hI.2.2.2.1, fun h8 => absurd (hI.2.2.2.2.1 (by simpa using h8)).1 (by simp [hd]), by simpa using hI.2.2.2.2.2⟩
      refine Inv.Steps.cons rfl ?_ ?_
      · intro L a w' hI hL hd K hK
        obtain ⟨gA, hE, bb, rfl, hI⟩ := hI
        simp [Region.binds] at hd
        simp only [hd, if_true]
        rw [if_pos (by rfl)]
        go_simp
        exact hK.out _ _ ⟨gA, hE, bb, by simp [hd], hI.1, by simpa using hI.2.1, by simpa using hI.2.2.1, by simpa using hI.2.2.2.1, fun h8 => absurd (hI.2.2.2.2.1 (by simpa using h8)).1 (by simp [hd]), by simpa using hI.2.2.2.2.2⟩
      refine Inv.Steps.cons rfl ?_ ?_
      · intro L a w' hI hL hd K hK
        obtain ⟨gA, hE, bb, rfl, hI⟩ := hI
        clear hd
        rw [if_pos (by rfl)]
        have n13 := hI.2.2.2.2.2 hL
        refine wp_alloc_ev (by rfl) ?_
        intro w6 hX6 hB6 hz6
        exact hK.out _ _ ⟨w'.heap.size, hE, bb, by simp [Act.put], bnext hI.1 hB6, fun _ => ⟨by simpa [n13] using hX6, hI.1.size⟩, fun h => (hI.2.2.1 (by simpa using h)).below hB6, fun h _ => (hI.2.2.1 (by simpa using h)).later, by simpa using hI.2.2.2.2.1, fun h => by simp at h⟩
      refine Inv.Steps.cons rfl ?_ ?_
      · intro L a w' hI hL hd K hK
        obtain ⟨gA, hE, bb, rfl, hI⟩ := hI
        simp [Region.binds] at hd
        simp only [hd, if_true]
        rw [if_pos (by rfl)]
        have e8 : L 8 = true := by simp [hd]
        have e12 : L 12 = true := by simp [hd]
        have hX := hI.2.1 e12
        have hX1 : Blk w' gA 30 (el zeroH) := by simpa [hL] using hX.1
        refine wp_store_ev _ _ _ _ _ (by rfl) (by rfl) (by rfl) hX1 rfl ?_
        intro w6 hX6 hg6 hz6
        exact hK.out _ _ ⟨gA, hE, bb, by simp [hd, Act.put], hI.1.grown hg6 hI.1.size (fun j hj => by obtain rfl := Option.some.inj hj; exact hX.2), fun _ => ⟨by simpa using hX6, hX.2⟩, fun _ => (hI.2.2.1 e8).away hg6 (hI.2.2.2.1 e8 e12), fun _ _ => hI.2.2.2.1 e8 e12, fun h => absurd h (by simp [e8]), fun h => absurd h (by simp [e12])⟩
      refine Inv.Steps.cons rfl ?_ ?_
      · intro L a w' hI hL hd K hK
        obtain ⟨gA, hE, bb, rfl, hI⟩ := hI
        simp [Region.binds] at hd
        simp only [hd, if_true]
        rw [if_pos (by rfl)]
        have e8 : L 8 = true := by simp [hd]
        go_simp
        exact hK.out _ _ ⟨gA, hE, bb, by simp [hd], hI.1, by simpa using hI.2.1, by simpa using hI.2.2.1, by simpa using hI.2.2.2.1, fun h => absurd h (by simp [e8]), by simpa using hI.2.2.2.2.2⟩
      exact Inv.Steps.nil (by decide)
    case done =>
      intro L a w' hI hall
      obtain ⟨gA, hE, bb, rfl, hI⟩ := hI
      simp only [hall, if_true] at hI ⊢
      have hIW := hI.1
      have hXA := (hI.2.1 trivial).1
      have hgA := (hI.2.1 trivial).2
      have hTO := hI.2.2.1 trivial
      clear hI hall
      have hXW := hX3.below hIW
      have hBW := bnext hB13 hIW
      have hV1 : w.heap.size < w3.heap.size := by have := hB3.size; have := hz1.out; omega
      rcases hTO with ⟨e, hOe, rfl, hIs, hFr⟩ | ⟨hOn, rfl⟩
      · obtain ⟨ok1, ok2, ok3⟩ := hok.out e hOe
        have hmm := hmH.out
        have hRt := fun {W : World} (hb : Below w'.heap.size w' W) => event_Right hE e W (hIs.below hb) ok1 (by have := hIs.2.1.1; omega) (by have := hIs.2.2.1; omega)
        clear hmm ok1 ok2 ok3
        cases hr : rightE e with
        | true =>
          have hR : readO bs = some e := by rw [hO.out, hOe]; simp [Option.filter, hr]
          obtain ⟨e1, e2⟩ := rd_some hR
          obtain rfl : RE = e := HRE.out.trans e1
          obtain rfl : RN = 0 := HRN.out.trans e2
          rw [hr] at hRt
          clear e1 e2 hR hr
          go_wp2_with (first
            | ((fail_if_success (have _ := hB5)); (refine at_load_ev _ _ _ (by rfl) (by rfl) hXA (by rfl) ?_))
            | ((fail_if_success (have _ := hB5)); (with_reducible refine (hRt (Below.refl _ _)).mono ?_); rintro e5 w5 ⟨rfl, hB5⟩; have hXA5 := hXA.below hB5; have hXW5 := hXW.below hB5; have hBW5 := bnext hBW hB5)
            | ((fail_if_success (have _ := hX6)); (have _ := hB5); (refine at_load_ev _ _ _ (by rfl) (by rfl) hXA5 (by rfl) ?_))
            | ((fail_if_success (have _ := hX6)); (have _ := hB5); (refine at_store_ev _ _ _ _ _ (by rfl) (by rfl) (by rfl) hXW5 rfl (by rfl) ?_); intro V6 hX6 hg6 hz6))
          refine ret_ev2 (by rfl) rfl _ _ rfl hX6 ⟨_, rfl, is_fresh (hIs.below hB5) hg6 hFr hV1, hFr.mono (by omega), hBW5.grown hg6 hBW5.size (by simp)⟩
        | false =>
          have hR : readO bs = none := by rw [hO.out, hOe]; simp [Option.filter, hr]
          obtain ⟨e1, e2⟩ := rd_none hR
          obtain rfl : RE = zeroE := HRE.out.trans e1
          obtain rfl : RN = 121 := HRN.out.trans e2
          rw [hr] at hRt
          clear e1 e2 hR hr
          go_wp2_with (first
            | ((fail_if_success (have _ := hB5)); (refine at_load_ev _ _ _ (by rfl) (by rfl) hXA (by rfl) ?_))
            | ((fail_if_success (have _ := hB5)); (with_reducible refine (hRt (Below.refl _ _)).mono ?_); rintro e5 w5 ⟨rfl, hB5⟩; have hXW5 := hXW.below hB5; have hBW5 := bnext hBW hB5)
            | ((fail_if_success (have _ := hX6)); (have _ := hB5); (refine at_build_zero (by rfl) (by rfl) ?_))
            | ((fail_if_success (have _ := hX6)); (have _ := hB5); (refine at_store_ev _ _ _ _ _ (by rfl) (by rfl) (by rfl) hXW5 rfl (by rfl) ?_); intro V6 hX6 hg6 hz6))
          refine ret_ev2 (by rfl) rfl _ _ rfl hX6 ⟨_, rfl, Is.zero _, zero_fresh _, hBW5.grown hg6 hBW5.size (by simp)⟩
      · have hR : readO bs = none := by rw [hO.out, hOn]; rfl
        obtain ⟨e1, e2⟩ := rd_none hR
        obtain rfl : RE = zeroE := HRE.out.trans e1
        obtain rfl : RN = 121 := HRN.out.trans e2
        clear e1 e2 hR
        go_wp2_with (first
          | ((fail_if_success (have _ := hX6)); (refine at_build_zero (by rfl) (by rfl) ?_))
          | ((fail_if_success (have _ := hX6)); (refine at_store_ev _ _ _ _ _ (by rfl) (by rfl) (by rfl) hXW rfl (by rfl) ?_); intro V6 hX6 hg6 hz6))
        refine ret_ev2 (by rfl) rfl _ _ rfl hX6 ⟨_, rfl, Is.zero _, zero_fresh _, hBW.grown hg6 hBW.size (by simp)⟩
  · have hR : readO bs = none := by rw [hO.out, if_neg h2]
    obtain ⟨e1, e2⟩ := rd_none hR
    rw [e1, e2]
    rcases hbk with ⟨rfl, rfl⟩ | ⟨rfl, -, -⟩
    · clear hO hR e1 e2 h2
      go_enter Try.func10, Try.ntmps10
      go_wp2_with (first
        | ((fail_if_success (have _ := hX1)); (refine at_alloc_ev (by rfl) (by rfl) ?_); intro V1 hX1 hB1 hz1)
        | ((fail_if_success (have _ := hB3)); (have _ := hX1); (with_reducible refine (hA hB1).mono ?_); rintro e w3 ⟨q3, c3, rfl, r3, hB3⟩; have hX3 := hX1.below hB3; have hB13 := bnext hB1 hB3)
        | ((fail_if_success (have _ := hX4)); (have _ := hX3); (refine at_build_zero (by rfl) (by rfl) ?_))
        | ((fail_if_success (have _ := hX4)); (have _ := hX3); (refine at_store_ev _ _ _ _ _ (by rfl) (by rfl) (by rfl) hX3 rfl (by rfl) ?_); intro V4 hX4 hg4 hz4))
      refine ret_ev2 (by rfl) rfl _ _ rfl hX4 ⟨_, rfl, Is.zero _, zero_fresh _, hB13.grown hg4 hB13.size (by simp)⟩
    · have hlt : ((l.length : Nat) : Int) < 2 := by omega
      obtain ⟨m, hm⟩ : ∃ m, l.length = m := ⟨_, rfl⟩
      rw [hm] at hA hlt
      clear hO hR e1 e2 h2 hm
      go_enter Try.func10, Try.ntmps10
      go_wp2_with (first
        | ((fail_if_success (have _ := hX1)); (refine at_alloc_ev (by rfl) (by rfl) ?_); intro V1 hX1 hB1 hz1)
        | ((fail_if_success (have _ := hB3)); (have _ := hX1); (with_reducible refine (hA hB1).mono ?_); rintro e w3 ⟨q3, c3, rfl, r3, hB3⟩; have hX3 := hX1.below hB3; have hB13 := bnext hB1 hB3)
        | ((fail_if_success (have _ := hX4)); (have _ := hX3); (refine at_build_zero (by rfl) (by rfl) ?_))
        | ((fail_if_success (have _ := hX4)); (have _ := hX3); (refine at_store_ev _ _ _ _ _ (by rfl) (by rfl) (by rfl) hX3 rfl (by rfl) ?_); intro V4 hX4 hg4 hz4))
      refine ret_ev2 (by rfl) rfl _ _ rfl hX4 ⟨_, rfl, Is.zero _, zero_fresh _, hB13.grown hg4 hB13.size (by simp)⟩
end Go.Proofs.Ytfgndecnakfhnaa.Event
