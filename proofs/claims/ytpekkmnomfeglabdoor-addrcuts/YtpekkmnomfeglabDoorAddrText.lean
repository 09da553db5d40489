/-
  The text of an address.
-/
import Derived.Test.YtpekkmnomfeglabDoorAddrNum
namespace Go.Proofs.YtpekkmnomfeglabDoor.Addr
open Go.RowKit Go.Proofs.YtpekkmnomfeglabDoor.Mem

theorem info_str : (Tryd.prog.info? 9).map (fun i => (i.zero, i.size, i.bytes)) = some (some (.string ByteArray.empty), 1, 16) := by kernel_rfl
theorem str_cell {w : World} {e : TypeId} {s : ByteArray} : ∀ j u, [Value.string s][j]? = some u → (w.alloc (.cells #[.string s] e)).cell? ((⟨w.heap.size, 0, none⟩ : Addr).add j) = some u := by
  intro j u hj
  match j, hj with
  | 0, hj => simp at hj; subst hj; simp [Addr.add]
theorem str_one {s : ByteArray} : ∀ u ∈ [Value.string s], u.oneCell' = true := by
  intro u hu; simp at hu; subst hu; rfl
/-- Strings that the call has laid in a row of its own. -/
theorem own_strs {w : World} {B n : Nat} {e : TypeId} {v : Value} {xs : List ByteArray} (h : w.ownsRow B e 1 v n (xs.map Value.string)) (hp : 0 < xs.length) :
    ∃ g cap, v = .slice (some ⟨g, 0, none⟩) xs.length cap ∧ xs.length ≤ cap ∧ g < w.heap.size ∧ ∀ j x, xs[j]? = some x → w.cell? ⟨g, 0 + j, none⟩ = some (.string x) := by
  have hn : n = xs.length := by have := h.1; simp at this; omega
  subst hn
  rcases h.2 with ⟨rfl, h0⟩ | ⟨g, cap, cur, rfl, hb, hg, hc, hm, hs, ht⟩
  · simp at h0; subst h0; simp at hp
  · refine ⟨g, cap, rfl, hc, (Array.getElem?_eq_some_iff.1 hg).1, fun j x hx => ?_⟩
    have hj : j < xs.length := (List.getElem?_eq_some_iff.1 hx).1
    have := h.cellAt j (by simpa using hj)
    rw [Nat.zero_add, this]
    simp [hx]
theorem grewv {B n : Nat} {e : TypeId} {w wr w1 : World} {u v : Value} {ys zs : List Value} {o : Obj} (hB : B ≤ w.heap.size) (hnx : Below B w wr) (hown : wr.ownsRow B e 1 u ys.length ys)
    (_hown1 : w1.ownsRow B e 1 v n (ys ++ zs)) (hg : (wr.alloc o).grownBy w1 u.ownBlock) : Below B w w1 := by
  have hs := hnx.size
  exact (hnx.alloc (by omega) o).grown hg (by simp; omega) fun g hg => (hown.lt g hg).1

set_option maxRecDepth 100000 in
theorem text_core (c0 c1 c2 c3 : Int) (q0 : Byte c0) (q1 : Byte c1) (q2 : Byte c2) (q3 : Byte c3) (s0 s1 s2 s3 t : ByteArray) (w : World) (hF : Fact w)
    (z0 : ∀ w, Fact w → Calls Tryd.prog 18 #[.int .i64 c0] w fun e w' => e = .returned (.string s0) ∧ Below w.heap.size w w')
    (z1 : ∀ w, Fact w → Calls Tryd.prog 18 #[.int .i64 c1] w fun e w' => e = .returned (.string s1) ∧ Below w.heap.size w w')
    (z2 : ∀ w, Fact w → Calls Tryd.prog 18 #[.int .i64 c2] w fun e w' => e = .returned (.string s2) ∧ Below w.heap.size w w')
    (z3 : ∀ w, Fact w → Calls Tryd.prog 18 #[.int .i64 c3] w fun e w' => e = .returned (.string s3) ∧ Below w.heap.size w w')
    (hj : ∀ w g cap, g < w.heap.size → 4 ≤ cap → (∀ j x, [s0, s1, s2, s3][j]? = some x → w.cell? ⟨g, 0 + j, none⟩ = some (.string x)) → Calls Tryd.prog 21 #[.slice (some ⟨g, 0, none⟩) 4 cap, .string ⟨#[46]⟩] w fun e w' => e = .returned (.string t) ∧ Below w.heap.size w w') :
    Calls Tryd.prog 17 #[.agg #[.int .u8 c0, .int .u8 c1, .int .u8 c2, .int .u8 c3]] w fun e w' => e = .returned (.string t) ∧ Below w.heap.size w w' := by
  obtain ⟨i0, hi, hz0, hz1, hz2⟩ := info_parts info_str
  have x0 := fun w => (idx4 c0 c1 c2 c3 w).1
  have x1 := fun w => (idx4 c0 c1 c2 c3 w).2.1
  have x2 := fun w => (idx4 c0 c1 c2 c3 w).2.2.1
  have x3 := fun w => (idx4 c0 c1 c2 c3 w).2.2.2
  obtain ⟨q0, p0⟩ := q0; obtain ⟨q1, p1⟩ := q1; obtain ⟨q2, p2⟩ := q2; obtain ⟨q3, p3⟩ := q3
  obtain ⟨B, hB⟩ : ∃ B, B = w.heap.size := ⟨_, rfl⟩
  have HB : Hid (B = w.heap.size) := hB
  have F0 : Below w.heap.size w (w.alloc (.cells #[.int .u8 c0, .int .u8 c1, .int .u8 c2, .int .u8 c3] 23)) := bnew _ _
  have R0 : (w.alloc (.cells #[.int .u8 c0, .int .u8 c1, .int .u8 c2, .int .u8 c3] 23)).ownsRow B 9 1 (.slice none 0 0) 0 [] := ⟨by simp, .inl ⟨rfl, rfl⟩⟩
  clear hB
  go_enter Tryd.func17, Tryd.ntmps17
  go_wp2_with fail
  refine wp_loop_rounds 5 ?_
  rw [rounds_succ]
  go_wp2_with (first
    | (go_at_call 18; refine (z0 _ (hF.below F0)).mono ?_; rintro e w0 ⟨rfl, hb0⟩)
    | (at_builtin; refine wpList_append_own _ rfl _ _ 43 rfl B 9 i0 (.string ByteArray.empty) 1 16 Tryd.underlying43 hi hz0 hz1 hz2 rfl (by decide) _ _ _ rfl ((own_below R0 hb0).alloc _) ⟨w0.heap.size, 0, none⟩ 1 1 [.string s0] rfl rfl str_cell str_one ?c3 ?c4 ?c5 ?_))
  case c3 => unfold maxLen; omega
  case c4 => omega
  case c5 => have := F0.size; have := hb0.size; have := HB.out; simp at *; omega
  intro v0 u0 ho0 hw0 _
  have F1 : Below w.heap.size w u0 := HB.out ▸ grewv (B := B) (w := w) (Nat.le_of_eq HB.out) (HB.out ▸ bnext F0 hb0) (own_below R0 hb0) ho0 hw0
  have R1 : u0.ownsRow B 9 1 v0 1 [.string s0] := ho0
  clear ho0 hw0 x0 R0
  go_wp2_with fail
  rw [rounds_succ]
  go_wp2_with (first
    | (go_at_call 18; refine (z1 _ (hF.below F1)).mono ?_; rintro e w1 ⟨rfl, hb1⟩)
    | (at_builtin; refine wpList_append_own _ rfl _ _ 43 rfl B 9 i0 (.string ByteArray.empty) 1 16 Tryd.underlying43 hi hz0 hz1 hz2 rfl (by decide) _ _ _ rfl ((own_below R1 hb1).alloc _) ⟨w1.heap.size, 0, none⟩ 1 1 [.string s1] rfl rfl str_cell str_one ?c3 ?c4 ?c5 ?_))
  case c3 => unfold maxLen; omega
  case c4 => omega
  case c5 => have := F1.size; have := hb1.size; have := HB.out; simp at *; omega
  intro v1 u1 ho1 hw1 _
  have F2 : Below w.heap.size w u1 := HB.out ▸ grewv (B := B) (w := w) (Nat.le_of_eq HB.out) (HB.out ▸ bnext F1 hb1) (own_below R1 hb1) ho1 hw1
  have R2 : u1.ownsRow B 9 1 v1 2 [.string s0, .string s1] := ho1
  clear ho1 hw1 x1 R1
  go_wp2_with fail
  rw [rounds_succ]
  go_wp2_with (first
    | (go_at_call 18; refine (z2 _ (hF.below F2)).mono ?_; rintro e w2 ⟨rfl, hb2⟩)
    | (at_builtin; refine wpList_append_own _ rfl _ _ 43 rfl B 9 i0 (.string ByteArray.empty) 1 16 Tryd.underlying43 hi hz0 hz1 hz2 rfl (by decide) _ _ _ rfl ((own_below R2 hb2).alloc _) ⟨w2.heap.size, 0, none⟩ 1 1 [.string s2] rfl rfl str_cell str_one ?c3 ?c4 ?c5 ?_))
  case c3 => unfold maxLen; omega
  case c4 => omega
  case c5 => have := F2.size; have := hb2.size; have := HB.out; simp at *; omega
  intro v2 u2 ho2 hw2 _
  have F3 : Below w.heap.size w u2 := HB.out ▸ grewv (B := B) (w := w) (Nat.le_of_eq HB.out) (HB.out ▸ bnext F2 hb2) (own_below R2 hb2) ho2 hw2
  have R3 : u2.ownsRow B 9 1 v2 3 [.string s0, .string s1, .string s2] := ho2
  clear ho2 hw2 x2 R2
  go_wp2_with fail
  rw [rounds_succ]
  go_wp2_with (first
    | (go_at_call 18; refine (z3 _ (hF.below F3)).mono ?_; rintro e w3 ⟨rfl, hb3⟩)
    | (at_builtin; refine wpList_append_own _ rfl _ _ 43 rfl B 9 i0 (.string ByteArray.empty) 1 16 Tryd.underlying43 hi hz0 hz1 hz2 rfl (by decide) _ _ _ rfl ((own_below R3 hb3).alloc _) ⟨w3.heap.size, 0, none⟩ 1 1 [.string s3] rfl rfl str_cell str_one ?c3 ?c4 ?c5 ?_))
  case c3 => unfold maxLen; omega
  case c4 => omega
  case c5 => have := F3.size; have := hb3.size; have := HB.out; simp at *; omega
  intro v3 u3 ho3 hw3 _
  have F4 : Below w.heap.size w u3 := HB.out ▸ grewv (B := B) (w := w) (Nat.le_of_eq HB.out) (HB.out ▸ bnext F3 hb3) (own_below R3 hb3) ho3 hw3
  have R4 : u3.ownsRow B 9 1 v3 4 [.string s0, .string s1, .string s2, .string s3] := ho3
  clear ho3 hw3 x3 R3
  go_wp2_with fail
  rw [rounds_succ]
  obtain ⟨g, cap, hv, hcap, hg, hcells⟩ := own_strs (xs := [s0, s1, s2, s3]) R4 (by simp)
  have hJ := hj u3 g cap hg hcap hcells
  subst hv
  clear R4 hcells hj z0 z1 z2 z3
  go_wp2_with (go_at_call 21; refine hJ.mono ?_; rintro e w5 ⟨rfl, hb5⟩)
  go_ret
  exact ⟨rfl, bnext F4 hb5⟩
theorem addr_Text (N : Nat) (w : World) (hF : Fact w) :
    Calls Tryd.prog 17 #[adr N] w fun e w' => e = .returned (.string (bs (txt N))) ∧ Below w.heap.size w w' := by
  have z : ∀ c : Nat, c < 256 → ∀ w, Fact w → Calls Tryd.prog 18 #[.int .i64 (c : Int)] w fun e w' => e = .returned (.string (bs (dec3 c))) ∧ Below w.heap.size w w' := fun c hc w hF => by
    have := itoa_any (c : Int) ⟨by omega, by omega⟩ w hF
    rwa [itoa_dec3 (by omega)] at this
  refine text_core (b0 N) (b1 N) (b2 N) (b3 N) ⟨by omega, by have := b0_lt N; omega⟩ ⟨by omega, by have := b1_lt N; omega⟩ ⟨by omega, by have := b2_lt N; omega⟩ ⟨by omega, by have := b3_lt N; omega⟩
    (bs (dec3 (b0 N))) (bs (dec3 (b1 N))) (bs (dec3 (b2 N))) (bs (dec3 (b3 N))) (bs (txt N)) w hF (z _ (b0_lt N)) (z _ (b1_lt N)) (z _ (b2_lt N)) (z _ (b3_lt N)) ?_
  intro w g cap hg hcap hcells
  have e : Lib.join ([bs (dec3 (b0 N)), bs (dec3 (b1 N)), bs (dec3 (b2 N)), bs (dec3 (b3 N))].map (·.data.toList)) (⟨#[46]⟩ : ByteArray).data.toList = txt N := txt_join N
  have h := Tryd.strings_Join g 0 cap [bs (dec3 (b0 N)), bs (dec3 (b1 N)), bs (dec3 (b2 N)), bs (dec3 (b3 N))] ⟨#[46]⟩ w hcells hg (by simp) (by simpa using hcap) (by rw [e]; have := (txt_len N).2; omega)
  rw [e] at h
  exact h
end Go.Proofs.YtpekkmnomfeglabDoor.Addr
