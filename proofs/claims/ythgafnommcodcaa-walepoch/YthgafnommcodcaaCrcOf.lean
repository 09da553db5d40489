/-
  The sum of parts, one behind the other: Of; bytes and their sum: Seal; the bytes of a seal: Open.
-/
import Derived.Test.YthgafnommcodcaaCrcTake
namespace Go.Proofs.Ythgafnommcodcaa.Crc
open Go.RowKit Go.Proofs.Ythgafnommcodcaa.Mem

/-- A part: where it lies, its capacity, its bytes. -/
def partV (x : Option Addr × Nat × List Int) : Value := .slice x.1 x.2.2.length x.2.1
def cat (ps : List (Option Addr × Nat × List Int)) : List Int := ps.flatMap (·.2.2)
theorem sum_nil : (0 : Int) = enc (sum []) := by decide
theorem sum_more (xs ys : List Int) : ~~~ crcs (~~~ sum xs) ys = sum (xs ++ ys) := by
  unfold sum
  rw [crcs_append, BitVec.not_not]
theorem crc_Of (q : Option Addr) (c n : Nat) (ps : List (Option Addr × Nat × List Int)) (hn : ps.length = n) (h9 : n ≤ 9) (w : World)
    (hq : 0 < ps.length → ∃ b o, q = some ⟨b, o, none⟩ ∧ ∀ k x, ps[k]? = some x → w.cell? ⟨b, o + k, none⟩ = some (partV x))
    (hr : ∀ x ∈ ps, Reads .u8 w x.1 x.2.1 x.2.2 ∧ ∀ c ∈ x.2.2, Byte c) :
    Calls Try.prog 75 #[.slice q n c] w fun e w' => e = .returned (.int .u32 (enc (sum (cat ps)))) ∧ w' = w := by
  go_enter Try.func75, Try.ntmps75
  go_wp2
  go_loop [3, 8] (fun x i => ∃ k : Nat, k ≤ n ∧ i = .int .i64 k ∧ x = .int .u32 (enc (sum (cat (ps.take k))))) (fun _ i => n - (intOf i).toNat)
  case atStart => exact ⟨0, by omega, rfl, by rw [sum_nil]; rfl⟩
  case round =>
    obtain ⟨k, hk, rfl, rfl⟩ := hrel
    by_cases hlt : k < n
    · obtain ⟨b, o, rfl, hcell⟩ := hq (by omega)
      obtain ⟨⟨p, cc, xs⟩, hx⟩ : ∃ x, ps[k]? = some x := ⟨_, List.getElem?_eq_getElem (by omega)⟩
      have hck : w.cell? ⟨b, o + k, none⟩ = some (.slice p xs.length cc) := hcell k _ hx
      obtain ⟨r, hb⟩ := hr _ (List.mem_of_getElem? hx)
      have hc := crc_More (sum (cat (ps.take k))) p xs.length cc xs rfl hb w r
      have hs : cat (ps.take k) ++ xs = cat (ps.take (k + 1)) := by
        rw [List.take_add_one, hx]
        simp [cat]
      rw [sum_more, hs] at hc
      clear hs hx hcell
      go_wp2_with (go_at_call 81; refine hc.mono ?_; rintro e w1 ⟨rfl, rfl⟩)
      go_round
      case rel => exact ⟨k + 1, by omega, by go_num, rfl⟩
      case measure => simp [intOf]; omega
    · have hk' : ps.take k = ps := List.take_of_length_le (by omega)
      rw [hk']
      go_wp2
      go_ret
      exact ⟨rfl, rfl⟩
/-- One part, as a literal has it. -/
theorem crc_Of_one (p : Option Addr) (n c : Nat) (xs : List Int) (l : xs.length = n) (hx : ∀ c ∈ xs, Byte c) (w : World) (r : Reads .u8 w p c xs) (g : Nat) (hg : w.heap.size = g) :
    Calls Try.prog 75 #[.slice (some ⟨g, 0, none⟩) 1 1] (w.alloc (.cells #[.slice p n c] 48)) fun e w' => e = .returned (.int .u32 (enc (sum xs))) ∧ w' = w.alloc (.cells #[.slice p n c] 48) := by
  subst l hg
  have h := crc_Of (some ⟨w.heap.size, 0, none⟩) 1 1 [(p, c, xs)] rfl (by omega) (w.alloc (.cells #[.slice p xs.length c] 48))
    (fun _ => ⟨_, _, rfl, fun k x hk => by
      match k, hk with
      | 0, hk => simp at hk; subst hk; simp [partV]⟩)
    (fun x hm => by simp at hm; subst hm; exact ⟨r.alloc _, hx⟩)
  simpa [cat] using h
theorem sealed_length (xs : List Int) : (sealed xs).length = xs.length + 4 := by simp [sealed, four]
theorem sealed_bytes {xs : List Int} (hx : ∀ c ∈ xs, Byte c) : ∀ c ∈ sealed xs, Byte c := by
  intro c hc
  rcases List.mem_append.1 hc with hc | hc
  · exact hx c hc
  · exact four_bytes _ c hc
/-- What the call has built by itself is read, and new. -/
theorem own_reads_new {w : World} {B n : Nat} {e : TypeId} {v : Value} {k : IntKind} {xs : List Int} (h : w.ownsRow B e 1 v n (xs.map (Value.int k))) :
    ∃ p cap, v = .slice p xs.length cap ∧ Reads k w p cap xs ∧ ∀ a, p = some a → B ≤ a.block := by
  obtain ⟨-, p, cap, rfl, hr⟩ := own_reads h
  refine ⟨p, cap, rfl, hr, fun a ha => ?_⟩
  subst ha
  rcases h.2 with ⟨h0, _⟩ | ⟨g, cap', cur, hv, hb, _⟩
  · simp at h0
  · simp only [Value.slice.injEq, Option.some.injEq] at hv
    rw [hv.1]
    exact hb
theorem crc_Seal (p : Option Addr) (n c : Nat) (xs : List Int) (l : xs.length = n) (hx : ∀ c ∈ xs, Byte c) (hn : n ≤ 1000) (w : World) (r : Reads .u8 w p c xs) :
    Calls Try.prog 63 #[.slice p n c] w fun e w' => ∃ q d, e = .returned (.slice q (n + 4) d) ∧ Reads .u8 w' q d (sealed xs) ∧ Below w.heap.size w w' ∧ ∀ a, q = some a → w.heap.size ≤ a.block := by
  obtain ⟨i0, hi, hz0, hz1, hz2⟩ := info_parts info_byte
  have hc := crc_Of_one p n c xs l hx w r _ rfl
  obtain ⟨w2, hmk, hown, hgr⟩ := run_make_own (P := Try.prog) (w.alloc (.cells #[.slice p n c] 48)) w.heap.size 48 5 i0 (.int .u8 0) 1 Try.underlying48 hi hz0 hz1 .i64 .i64 (n + 4) (by rw [hz2]; omega) (by unfold maxLen; omega) (by simp)
  rw [show ((n + 4 : Nat) : Int) = (n : Int) + 4 by omega] at hmk
  have hb2 : Below w.heap.size w w2 := ((Below.refl _ w).alloc (Nat.le_refl _) _).grown hgr (by simp) (by intro k hk; simp at hk)
  have hr2 := r.below hb2
  have hs := enc_half (sum xs)
  obtain ⟨S, hS⟩ : ∃ S, S = enc (sum xs) := ⟨_, rfl⟩
  rw [← hS] at hs hc
  have hfour : [S / 16777216, S / 65536 % 256, S / 256 % 256, S % 256] = four (sum xs) := by
    rw [hS]
    unfold enc four
    simp
  clear hS hgr
  have e1 : (w.alloc (.cells #[.slice p n c] 48)).heap.size = w.heap.size + 1 := by simp
  rw [e1] at hown hmk
  clear e1
  go_enter Try.func63, Try.ntmps63
  go_wp2_with (first
    | (go_at_call 75; refine hc.mono ?_; rintro e w1 ⟨rfl, rfl⟩)
    | (at_builtin; refine wpList_append_reads _ rfl _ _ 48 rfl w.heap.size 5 i0 (.int .u8 0) 1 .u8 Try.underlying48 hi hz0 hz1 hz2 rfl (.slice (some ⟨w.heap.size + 1, 0, none⟩) 0 (n + 4)) 0 [] rfl hown p n c xs rfl l hr2 ?c3 ?c4 ?c5 ?_))
  case c3 => unfold maxLen; omega
  case c4 => omega
  case c5 => have := hb2.size; omega
  · intro v3 w3 hown3 hg3
    have R := grew0 (ys := []) (zs := xs) (Nat.le_refl _) hb2 hown hown3 hg3
    clear hown hown3 hg3 hmk hc hr2
    obtain ⟨hown3, hb3⟩ := R
    rw [List.nil_append] at hown3
    rw [l] at hown3
    have hl4 : Reads .u8 (w3.alloc (.cells #[.int .u8 (S / 16777216), .int .u8 (S / 65536 % 256), .int .u8 (S / 256 % 256), .int .u8 (S % 256)] 5)) (some ⟨w3.heap.size, 0, none⟩) 4 [S / 16777216, S / 65536 % 256, S / 256 % 256, S % 256] := lit_reads rfl rfl (by simp)
    rw [hfour] at hl4
    go_wp2_with (at_builtin; refine wpList_append_reads _ rfl _ _ 48 rfl w.heap.size 5 i0 (.int .u8 0) 1 .u8 Try.underlying48 hi hz0 hz1 hz2 rfl v3 n (xs.map (Value.int .u8)) rfl (hown3.alloc _) (some ⟨w3.heap.size, 0, none⟩) 4 4 (four (sum xs)) rfl rfl hl4 ?c3 ?c4 ?c5 ?_)
    case c3 => unfold maxLen; omega
    case c4 => omega
    case c5 => have := hb3.size; simp; omega
    · intro v4 w4 hown4 hg4
      rw [← l] at hown3
      have R := grew (ys := xs) (zs := four (sum xs)) (Nat.le_refl _) hb3 hown3 hown4 hg4
      clear hown3 hown4 hg4
      obtain ⟨hown4, hb4⟩ := R
      obtain ⟨q, d, hv, hrd, hnw⟩ := own_reads_new hown4
      rw [show (xs ++ four (sum xs)).length = n + 4 by rw [List.length_append, l]; rfl] at hv
      subst hv
      clear hown4
      go_wp2
      go_ret
      exact ⟨q, d, rfl, hrd, hb4, hnw⟩
end Go.Proofs.Ythgafnommcodcaa.Crc
