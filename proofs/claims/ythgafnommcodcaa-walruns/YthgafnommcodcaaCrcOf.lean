/-
  The sum of parts, one behind the other: Of; bytes and their sum: Seal; the bytes of a seal: Open.
-/
import Derived.Test.YthgafnommcodcaaFramePlain
import Derived.Test.YthgafnommcodcaaBlk
import Derived.WalkMore
import Derived.ScopeJumps
import Derived.LoopTactic
import Derived.Laws.BitsAllLaws
/-
  The sum of a byte more, of bytes, of parts: take, More, Of; and of package bytes: Clone, Equal.
-/
namespace Go.Proofs.Ythgafnommcodcaa.Crc
open Go.RowKit Go.Proofs.Ythgafnommcodcaa.Mem

/-- A word of 32 bits as the program's number. -/
def enc (s : BitVec 32) : Int := (s.toNat : Int)
theorem enc_half (s : BitVec 32) : 0 ≤ enc s ∧ enc s < 4294967296 := by
  have := s.isLt
  unfold enc
  omega
theorem enc_of {x : Int} (h : Half x) : ∃ s : BitVec 32, x = enc s := by
  obtain ⟨n, rfl⟩ := Int.eq_ofNat_of_zero_le h.1
  refine ⟨BitVec.ofNat 32 n, ?_⟩
  have := h.2
  unfold enc
  rw [BitVec.toNat_ofNat, Nat.mod_eq_of_lt (by omega)]
theorem enc_inj {s t : BitVec 32} (h : enc s = enc t) : s = t := by
  unfold enc at h
  exact BitVec.eq_of_toNat_eq (by omega)
theorem enc_xor (s t : BitVec 32) : bits .xor .u32 (enc s) (enc t) = enc (s ^^^ t) := by
  unfold enc
  rw [u32_xor_nat _ _ s.isLt t.isLt, BitVec.toNat_xor]
theorem enc_not (s : BitVec 32) : 4294967295 - enc s = enc (~~~ s) := by
  have := s.isLt
  unfold enc
  rw [BitVec.toNat_not]
  omega

theorem enc_up {c : Int} (h0 : 0 ≤ c) (h1 : c < 256) : c * 16777216 = enc (up c) := by
  obtain ⟨n, rfl⟩ := Int.eq_ofNat_of_zero_le h0
  unfold enc up
  rw [BitVec.toNat_ofNat, Nat.mod_eq_of_lt (by omega)]
  simp
theorem enc_step (x : BitVec 32) : bits .xor .u32 (enc x * 2 % 4294967296) (enc x / 2147483648 * 79764919 % 4294967296) = enc (step x false) := by
  have hlt := x.isLt
  have e1 : enc x * (2 : Int) % (4294967296 : Int) = enc (x <<< (1 : Nat)) := by
    unfold enc
    rw [BitVec.toNat_shiftLeft, Nat.shiftLeft_eq]
    omega
  have e2 : enc x / 2147483648 * 79764919 % 4294967296 = enc (if x.msb then poly else 0#32) := by
    have hm : x.msb = decide (2147483648 ≤ x.toNat) := by rw [BitVec.msb_eq_decide]
    unfold enc
    by_cases h : 2147483648 ≤ x.toNat
    · rw [hm, decide_eq_true h]
      have : (x.toNat : Int) / 2147483648 = 1 := by omega
      rw [this]
      rfl
    · rw [hm, decide_eq_false h]
      have : (x.toNat : Int) / 2147483648 = 0 := by omega
      rw [this]
      rfl
  rw [e1, e2, enc_xor]
  simp [step]
theorem enc_step' (x : BitVec 32) : bits .xor .u32 (enc x * 2 % 4294967296) (enc x / 2147483648 * 79764919) = enc (step x false) := by
  have h := enc_half x
  rw [← enc_step, Int.emod_eq_of_lt (a := enc x / 2147483648 * 79764919) (by omega) (by omega)]
theorem zeros_step (x : BitVec 32) : ∀ n, zeros x (n + 1) = zeros (step x false) n
  | 0 => rfl
  | n + 1 => by
    have := zeros_step x n
    unfold zeros at this ⊢
    rw [run, this]
    rfl
def numOf : Value → Int | .int _ q => q | _ => 0
set_option maxRecDepth 1000000 in
theorem crc_take (s : BitVec 32) (c : Int) (hc : Byte c) (w : World) :
    Calls Try.prog 85 #[.int .u32 (enc s), .int .u8 c] w fun e w' => e = .returned (.int .u32 (enc (take s c))) ∧ w' = w := by
  obtain ⟨h0, h1⟩ := hc
  have hs := enc_half s
  go_enter Try.func85, Try.ntmps85
  go_wp2
  refine wp_scope_jumps 0 (fun a' w' => w' = w ∧ ∃ (m : Nat) (x : BitVec 32) (u1 u2 u3 u4 u6 u7 u8 u9 u10 u11 u12 u13 u14 u15 u16 u17 u18 u19 u20 u21 u22 u23 : Value), a' = { tmps := #[.int .u32 (enc x), u1, u2, u3, u4, .int .i64 ((m : Int) + 1), u6, u7, u8, u9, u10, u11, u12, u13, u14, u15, u16, u17, u18, u19, u20, u21, u22, u23], defers := [] } ∧ zeros x (m + 1) = take s c ∧ m ≤ 6) (fun a' _ => (numOf (a'.tmps.getD 5 undef)).toNat) rfl ?_ ?_
  · go_wp2
    go_step3
    go_wp2
    go_step3
    rw [enc_up h0 h1, enc_xor, enc_step]
    refine ⟨rfl, rfl, 6, step (s ^^^ up c) false, _, _, _, _, _, _, _, _, _, _, _, _, _, _, _, _, _, _, _, _, _, _, rfl, ?_, by omega⟩
    rw [← zeros_step]
    rfl
  · rintro a' w' ⟨rfl, m, x, u1, u2, u3, u4, u6, u7, u8, u9, u10, u11, u12, u13, u14, u15, u16, u17, u18, u19, u20, u21, u22, u23, rfl, hz, hm⟩
    have hx := enc_half x
    go_wp2
    · rename_i hpos
      go_step3
      rw [enc_step']
      obtain ⟨j, rfl⟩ : ∃ j, m = j + 1 := ⟨m - 1, by omega⟩
      refine ⟨rfl, ⟨rfl, j, step x false, _, _, _, _, _, _, _, _, _, _, _, _, _, _, _, _, _, _, _, _, _, _, rfl, ?_, by omega⟩, ?_⟩
      · rw [← zeros_step, hz]
      · simp [numOf]
        omega
    · rename_i hneg
      obtain rfl : m = 0 := by omega
      simp only [Exit.jump]
      rw [enc_step']
      go_ret
      refine ⟨?_, rfl⟩
      rw [← hz]
      rfl
theorem bytes_Clone (p : Option Addr) (n c : Nat) (xs : List Int) (l : xs.length = n) (w : World) (r : Reads .u8 w p c xs) (hn : n ≤ 1000) :
    Calls Try.prog 80 #[.slice p n c] w fun e w' => ∃ v, e = .returned v ∧ w'.ownsRow w.heap.size 5 1 v xs.length (xs.map (Value.int .u8)) ∧ Below w.heap.size w w' := by
  obtain ⟨i0, hi, hz0, hz1, hz2⟩ := info_parts info_byte
  have hq : ∀ (w : World) (a : Option Addr) (n c n' c' : Nat), (binOp .eql 48 (.slice a n c) (.slice none n' c')).run Try.prog w = .ok (.bool a.isNone) w := fun w a n c n' c' => Lib.run_eql_slice_nil w _ _ a n c n' c' Try.underlying48
  subst l
  cases p with
  | none =>
    have hc := r.2.2.1 rfl
    have h1 := r.1
    have hx : xs = [] := List.eq_nil_of_length_eq_zero (by omega)
    subst hx hc
    go_enter Try.func80, Try.ntmps80
    go_wp2
    go_ret
    exact ⟨_, rfl, World.ownsRow_nil _ _ _ _, Below.refl _ _⟩
  | some a =>
    obtain ⟨N, hN⟩ : ∃ N, xs.length = N := ⟨_, rfl⟩
    rw [hN] at hn ⊢
    go_enter Try.func80, Try.ntmps80
    go_wp2_with (at_builtin; refine wpList_append_reads _ rfl _ _ 48 rfl w.heap.size 5 i0 (.int .u8 0) 1 .u8 Try.underlying48 hi hz0 hz1 hz2 rfl (.slice (some ⟨w.heap.size, 0, none⟩) 0 0) 0 [] rfl (lit_none (k := .u8) w) (some a) N c xs rfl hN (r.alloc _) ?c3 ?c4 ?c5 ?_)
    case c3 => unfold maxLen; omega
    case c4 => omega
    case c5 => simp
    · intro v' w1 hown hg
      have hb : Below w.heap.size w w1 := ((Below.refl _ w).alloc (Nat.le_refl _) _).grown hg (by simp) (by intro k hk; simp [Value.ownBlock] at hk; omega)
      have ho : w1.ownsRow w.heap.size 5 1 v' N (xs.map (Value.int .u8)) := by simpa using hown
      clear hown hg
      go_wp2
      go_ret
      exact ⟨v', rfl, ho, hb⟩
/-- All bits turned. -/
theorem enc_flip (s : BitVec 32) : bits .xor .u32 4294967295 (enc s) = enc (~~~ s) := by
  have e : (4294967295 : Int) = enc ones := rfl
  rw [e, enc_xor, BitVec.xor_comm, ones_not]
theorem crc_More (s : BitVec 32) (p : Option Addr) (n c : Nat) (xs : List Int) (l : xs.length = n) (hx : ∀ c ∈ xs, Byte c) (w : World) (r : Reads .u8 w p c xs) :
    Calls Try.prog 81 #[.int .u32 (enc s), .slice p n c] w fun e w' => e = .returned (.int .u32 (enc (~~~ crcs (~~~ s) xs))) ∧ w' = w := by
  have hsg : IntKind.u32.signed = false := rfl
  have hmx : IntKind.u32.max = 4294967295 := by decide
  have hfl : ∀ t, bits .xor .u32 4294967295 (enc t) = enc (~~~ t) := enc_flip
  have hn : n ≤ 9223372036854775807 := by
    have h1 := r.1
    have h2 := r.2.1
    unfold maxLen at h2
    omega
  go_enter Try.func81, Try.ntmps81
  go_wp2
  go_loop [0, 11] (fun x i => ∃ k : Nat, k ≤ n ∧ i = .int .i64 k ∧ x = .int .u32 (enc (crcs (~~~ s) (xs.take k)))) (fun _ i => n - (intOf i).toNat)
  case atStart => exact ⟨0, by omega, rfl, rfl⟩
  case round =>
    obtain ⟨k, hk, rfl, rfl⟩ := hrel
    by_cases hlt : k < n
    · obtain ⟨b, o, rfl, _, hcell⟩ := r.2.2.2 (by omega)
      obtain ⟨y, hy⟩ : ∃ y, y = xs.getD k 0 := ⟨_, rfl⟩
      have hck : w.cell? ⟨b, o + k, none⟩ = some (.int .u8 y) := by rw [hy]; exact hcell k (by omega)
      have hyb : Byte y := by rw [hy]; exact getD_byte hx k
      have hc := crc_take (crcs (~~~ s) (xs.take k)) y hyb w
      have hs : take (crcs (~~~ s) (xs.take k)) y = crcs (~~~ s) (xs.take (k + 1)) := by
        rw [← crcs_snoc, hy, List.take_add_one]
        simp [List.getD_eq_getElem?_getD, show k < xs.length by omega]
      rw [hs] at hc
      clear hs hy hcell
      go_wp2_with (go_at_call 85; refine hc.mono ?_; rintro e w1 ⟨rfl, rfl⟩)
      go_round
      case rel => exact ⟨k + 1, by omega, by go_num, rfl⟩
      case measure => simp [intOf]; omega
    · have hk' : xs.take k = xs := List.take_of_length_le (by omega)
      rw [hk']
      go_wp2
      go_ret
      exact ⟨rfl, rfl⟩
end Go.Proofs.Ythgafnommcodcaa.Crc
namespace Go.Proofs.Ythgafnommcodcaa.Crc
open Go.RowKit Go.Proofs.Ythgafnommcodcaa.Mem

/-- A part: where it lies, its capacity, its bytes. -/
def partV (x : Option Addr × Nat × List Int) : Value := .slice x.1 x.2.2.length x.2.1
def cat (ps : List (Option Addr × Nat × List Int)) : List Int := ps.flatMap (·.2.2)
theorem sum_nil : (0 : Int) = enc (sum []) := by decide
theorem sum_more (xs ys : List Int) : ~~~ crcs (~~~ sum xs) ys = sum (xs ++ ys) := by
  unfold sum
  rw [crcs_append, BitVec.not_not]
theorem crc_Of (q : Option Addr) (c n : Nat) (ps : List (Option Addr × Nat × List Int)) (hn : ps.length = n) (h9 : n ≤ 9) (w : World)
    (hq : 0 < ps.length → ∃ b o, q = some ⟨b, o, none⟩ ∧ ∀ k x, ps[k]? = some x → w.cell? ⟨b, o + k, none⟩ = some (partV x))
    (hr : ∀ x ∈ ps, Reads .u8 w x.1 x.2.1 x.2.2 ∧ ∀ c ∈ x.2.2, Byte c) :
    Calls Try.prog 75 #[.slice q n c] w fun e w' => e = .returned (.int .u32 (enc (sum (cat ps)))) ∧ w' = w := by
  go_enter Try.func75, Try.ntmps75
  go_wp2
  go_loop [3, 8] (fun x i => ∃ k : Nat, k ≤ n ∧ i = .int .i64 k ∧ x = .int .u32 (enc (sum (cat (ps.take k))))) (fun _ i => n - (intOf i).toNat)
  case atStart => exact ⟨0, by omega, rfl, by rw [sum_nil]; rfl⟩
  case round =>
    obtain ⟨k, hk, rfl, rfl⟩ := hrel
    by_cases hlt : k < n
    · obtain ⟨b, o, rfl, hcell⟩ := hq (by omega)
      obtain ⟨⟨p, cc, xs⟩, hx⟩ : ∃ x, ps[k]? = some x := ⟨_, List.getElem?_eq_getElem (by omega)⟩
      have hck : w.cell? ⟨b, o + k, none⟩ = some (.slice p xs.length cc) := hcell k _ hx
      obtain ⟨r, hb⟩ := hr _ (List.mem_of_getElem? hx)
      have hc := crc_More (sum (cat (ps.take k))) p xs.length cc xs rfl hb w r
      have hs : cat (ps.take k) ++ xs = cat (ps.take (k + 1)) := by
        rw [List.take_add_one, hx]
        simp [cat]
      rw [sum_more, hs] at hc
      clear hs hx hcell
      go_wp2_with (go_at_call 81; refine hc.mono ?_; rintro e w1 ⟨rfl, rfl⟩)
      go_round
      case rel => exact ⟨k + 1, by omega, by go_num, rfl⟩
      case measure => simp [intOf]; omega
    · have hk' : ps.take k = ps := List.take_of_length_le (by omega)
      rw [hk']
      go_wp2
      go_ret
      exact ⟨rfl, rfl⟩
/-- One part, as a literal has it. -/
theorem crc_Of_one (p : Option Addr) (n c : Nat) (xs : List Int) (l : xs.length = n) (hx : ∀ c ∈ xs, Byte c) (w : World) (r : Reads .u8 w p c xs) (g : Nat) (hg : w.heap.size = g) :
    Calls Try.prog 75 #[.slice (some ⟨g, 0, none⟩) 1 1] (w.alloc (.cells #[.slice p n c] 48)) fun e w' => e = .returned (.int .u32 (enc (sum xs))) ∧ w' = w.alloc (.cells #[.slice p n c] 48) := by
  subst l hg
  have h := crc_Of (some ⟨w.heap.size, 0, none⟩) 1 1 [(p, c, xs)] rfl (by omega) (w.alloc (.cells #[.slice p xs.length c] 48))
    (fun _ => ⟨_, _, rfl, fun k x hk => by
      match k, hk with
      | 0, hk => simp at hk; subst hk; simp [partV]⟩)
    (fun x hm => by simp at hm; subst hm; exact ⟨r.alloc _, hx⟩)
  simpa [cat] using h
theorem sealed_length (xs : List Int) : (sealed xs).length = xs.length + 4 := by simp [sealed, four]
theorem sealed_bytes {xs : List Int} (hx : ∀ c ∈ xs, Byte c) : ∀ c ∈ sealed xs, Byte c := by
  intro c hc
  rcases List.mem_append.1 hc with hc | hc
  · exact hx c hc
  · exact four_bytes _ c hc
/-- What the call has built by itself is read, and new. -/
theorem own_reads_new {w : World} {B n : Nat} {e : TypeId} {v : Value} {k : IntKind} {xs : List Int} (h : w.ownsRow B e 1 v n (xs.map (Value.int k))) :
    ∃ p cap, v = .slice p xs.length cap ∧ Reads k w p cap xs ∧ ∀ a, p = some a → B ≤ a.block := by
  obtain ⟨-, p, cap, rfl, hr⟩ := own_reads h
  refine ⟨p, cap, rfl, hr, fun a ha => ?_⟩
  subst ha
  rcases h.2 with ⟨h0, _⟩ | ⟨g, cap', cur, hv, hb, _⟩
  · simp at h0
  · simp only [Value.slice.injEq, Option.some.injEq] at hv
    rw [hv.1]
    exact hb
theorem crc_Seal (p : Option Addr) (n c : Nat) (xs : List Int) (l : xs.length = n) (hx : ∀ c ∈ xs, Byte c) (hn : n ≤ 1000) (w : World) (r : Reads .u8 w p c xs) :
    Calls Try.prog 63 #[.slice p n c] w fun e w' => ∃ q d, e = .returned (.slice q (n + 4) d) ∧ Reads .u8 w' q d (sealed xs) ∧ Below w.heap.size w w' ∧ ∀ a, q = some a → w.heap.size ≤ a.block := by
  obtain ⟨i0, hi, hz0, hz1, hz2⟩ := info_parts info_byte
  have hc := crc_Of_one p n c xs l hx w r _ rfl
  obtain ⟨w2, hmk, hown, hgr⟩ := run_make_own (P := Try.prog) (w.alloc (.cells #[.slice p n c] 48)) w.heap.size 48 5 i0 (.int .u8 0) 1 Try.underlying48 hi hz0 hz1 .i64 .i64 (n + 4) (by rw [hz2]; omega) (by unfold maxLen; omega) (by simp)
  rw [show ((n + 4 : Nat) : Int) = (n : Int) + 4 by omega] at hmk
  have hb2 : Below w.heap.size w w2 := ((Below.refl _ w).alloc (Nat.le_refl _) _).grown hgr (by simp) (by intro k hk; simp at hk)
  have hr2 := r.below hb2
  have hs := enc_half (sum xs)
  obtain ⟨S, hS⟩ : ∃ S, S = enc (sum xs) := ⟨_, rfl⟩
  rw [← hS] at hs hc
  have hfour : [S / 16777216, S / 65536 % 256, S / 256 % 256, S % 256] = four (sum xs) := by
    rw [hS]
    unfold enc four
    simp
  clear hS hgr
  have e1 : (w.alloc (.cells #[.slice p n c] 48)).heap.size = w.heap.size + 1 := by simp
  rw [e1] at hown hmk
  clear e1
  go_enter Try.func63, Try.ntmps63
  go_wp2_with (first
    | (go_at_call 75; refine hc.mono ?_; rintro e w1 ⟨rfl, rfl⟩)
    | (at_builtin; refine wpList_append_reads _ rfl _ _ 48 rfl w.heap.size 5 i0 (.int .u8 0) 1 .u8 Try.underlying48 hi hz0 hz1 hz2 rfl (.slice (some ⟨w.heap.size + 1, 0, none⟩) 0 (n + 4)) 0 [] rfl hown p n c xs rfl l hr2 ?c3 ?c4 ?c5 ?_))
  case c3 => unfold maxLen; omega
  case c4 => omega
  case c5 => have := hb2.size; omega
  · intro v3 w3 hown3 hg3
    have R := grew0 (ys := []) (zs := xs) (Nat.le_refl _) hb2 hown hown3 hg3
    clear hown hown3 hg3 hmk hc hr2
    obtain ⟨hown3, hb3⟩ := R
    rw [List.nil_append] at hown3
    rw [l] at hown3
    have hl4 : Reads .u8 (w3.alloc (.cells #[.int .u8 (S / 16777216), .int .u8 (S / 65536 % 256), .int .u8 (S / 256 % 256), .int .u8 (S % 256)] 5)) (some ⟨w3.heap.size, 0, none⟩) 4 [S / 16777216, S / 65536 % 256, S / 256 % 256, S % 256] := lit_reads rfl rfl (by simp)
    rw [hfour] at hl4
    go_wp2_with (at_builtin; refine wpList_append_reads _ rfl _ _ 48 rfl w.heap.size 5 i0 (.int .u8 0) 1 .u8 Try.underlying48 hi hz0 hz1 hz2 rfl v3 n (xs.map (Value.int .u8)) rfl (hown3.alloc _) (some ⟨w3.heap.size, 0, none⟩) 4 4 (four (sum xs)) rfl rfl hl4 ?c3 ?c4 ?c5 ?_)
    case c3 => unfold maxLen; omega
    case c4 => omega
    case c5 => have := hb3.size; simp; omega
    · intro v4 w4 hown4 hg4
      rw [← l] at hown3
      have R := grew (ys := xs) (zs := four (sum xs)) (Nat.le_refl _) hb3 hown3 hown4 hg4
      clear hown3 hown4 hg4
      obtain ⟨hown4, hb4⟩ := R
      obtain ⟨q, d, hv, hrd, hnw⟩ := own_reads_new hown4
      rw [show (xs ++ four (sum xs)).length = n + 4 by rw [List.length_append, l]; rfl] at hv
      subst hv
      clear hown4
      go_wp2
      go_ret
      exact ⟨q, d, rfl, hrd, hb4, hnw⟩
end Go.Proofs.Ythgafnommcodcaa.Crc
