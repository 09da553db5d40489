/-
  What is read out of bytes: head.num, headerSize, fits, fault; bytes.Clone.
-/
import Derived.Test.YtogijgpamdcjkabHeadSum
import Derived.BigQuiet
import Derived.Deep.QuietTactic
namespace Go.Proofs.Ytogijgpamdcjkab.Head
open Go.RowKit Go.Proofs.Ytogijgpamdcjkab.Mem

theorem i64_or_nat (a b : Nat) (ha : a < 65536) (hb : b < 65536) : bits .or .i64 (a : Int) (b : Int) = ((a ||| b : Nat) : Int) := by
  have hx : a ||| b < 2 ^ 16 := Nat.or_lt_two_pow (by omega) (by omega)
  have e : ∀ n : Nat, n < 65536 → (BitVec.ofInt 64 (n : Int)).toNat = n := fun n hn => by
    rw [BitVec.ofInt_natCast, BitVec.toNat_ofNat]; exact Nat.mod_eq_of_lt (by omega)
  show IntKind.i64.wrap ((BitVec.ofInt 64 (a : Int) ||| BitVec.ofInt 64 (b : Int)).toNat : Int) = _
  rw [BitVec.toNat_or, e a ha, e b hb]
  generalize a ||| b = K at hx
  simp [IntKind.wrap, IntKind.bits, IntKind.signed]
  omega
theorem or_low {x y : Int} (hx : Byte x) (hy : Byte y) : bits .or .i64 (x * 256) y = 256 * x + y := by
  obtain ⟨x0, x1⟩ := hx
  obtain ⟨y0, y1⟩ := hy
  obtain ⟨a, rfl⟩ := Int.eq_ofNat_of_zero_le x0
  obtain ⟨b, rfl⟩ := Int.eq_ofNat_of_zero_le y0
  have e : (a : Int) * 256 = ((a * 256 : Nat) : Int) := by omega
  rw [e, i64_or_nat _ _ (by omega) (by omega), show 256 = 2 ^ 8 from rfl, Nat.mul_comm a, ← Nat.two_pow_add_eq_or_of_lt (by omega)]
  simp
theorem head_num (p : Option Addr) (n c : Nat) (xs : List Int) (l : xs.length = n) (hx : ∀ c ∈ xs, Byte c) (hn : n ≤ 9223372036854775807) (i : Nat) (hi : i + 1 < n) (w : World) (r : Reads .u8 w p c xs) :
    Calls Try.prog 14 #[.slice p n c, .int .i64 i] w fun e w' => e = .returned (.int .i64 (num xs i)) ∧ Below w.heap.size w w' := by
  obtain ⟨b, o, rfl, _, hcell⟩ := r.2.2.2 (by omega)
  obtain ⟨y, hy⟩ : ∃ y, y = xs.getD i 0 := ⟨_, rfl⟩
  obtain ⟨z, hz⟩ : ∃ z, z = xs.getD (i + 1) 0 := ⟨_, rfl⟩
  have h1 : w.cell? ⟨b, o + i, none⟩ = some (.int .u8 y) := by rw [hy]; exact hcell i (by omega)
  have h2 : w.cell? ⟨b, o + (i + 1), none⟩ = some (.int .u8 z) := by rw [hz]; exact hcell (i + 1) (by omega)
  have by1 : Byte y := by rw [hy]; exact getD_byte hx i
  have bz1 : Byte z := by rw [hz]; exact getD_byte hx (i + 1)
  have hor := or_low by1 bz1
  have HN : Hid (256 * y + z = num xs i) := by show _ = _; unfold num; rw [hy, hz]
  obtain ⟨y0, y1⟩ := by1
  obtain ⟨z0, z1⟩ := bz1
  clear hy hz hcell r
  go_enter Try.func14, Try.ntmps14
  go_wp2
  go_quiet (fail)
  go_wp2
  go_ret
  exact ⟨ret_int HN.out, bdrewN _ _⟩
theorem hsz_cast {xs : List Int} (hx : ∀ c ∈ xs, Byte c) : xs.getD 0 0 % 16 * 4 = (hsz xs : Int) := by
  have := getD_byte hx 0
  unfold Byte at this
  unfold hsz
  omega
theorem hsz_le {xs : List Int} (hx : ∀ c ∈ xs, Byte c) : hsz xs ≤ 60 := by
  have := getD_byte hx 0
  unfold Byte at this
  unfold hsz
  omega
theorem head_headerSize (p : Option Addr) (n c : Nat) (xs : List Int) (l : xs.length = n) (hx : ∀ c ∈ xs, Byte c) (hn : n ≤ 9223372036854775807) (h0 : 0 < n) (w : World) (r : Reads .u8 w p c xs) :
    Calls Try.prog 16 #[.slice p n c] w fun e w' => e = .returned (.int .i64 (hsz xs : Int)) ∧ w' = w := by
  obtain ⟨b, o, rfl, _, hcell⟩ := r.2.2.2 (by omega)
  have HS : Hid (xs.getD 0 0 % 16 * 4 = (hsz xs : Int)) := hsz_cast hx
  obtain ⟨y, hy⟩ : ∃ y, y = xs.getD 0 0 := ⟨_, rfl⟩
  have h1 : w.cell? ⟨b, o, none⟩ = some (.int .u8 y) := by rw [hy]; exact hcell 0 (by omega)
  obtain ⟨y0, y1⟩ : Byte y := by rw [hy]; exact getD_byte hx 0
  rw [← hy] at HS
  clear hy hcell r
  go_enter Try.func16, Try.ntmps16
  go_wp2
  go_ret
  exact ⟨ret_int HS.out, rfl⟩
theorem head_fits (p : Option Addr) (n c : Nat) (xs : List Int) (l : xs.length = n) (hx : ∀ c ∈ xs, Byte c) (hn : n ≤ 9223372036854775807) (h0 : 20 ≤ n) (w : World) (r : Reads .u8 w p c xs) :
    Calls Try.prog 18 #[.slice p n c] w fun e w' => e = .returned (.bool (fitB xs)) ∧ Below w.heap.size w w' := by
  have hs := head_headerSize p n c xs l hx hn (by omega) w r
  have hq := head_num p n c xs l hx hn 2 (by omega) w r
  have hsl := hsz_le hx
  have e : fitB xs = (decide (20 ≤ hsz xs) && decide (hsz xs ≤ n) && decide (num xs 2 = n) && decide (n ≤ 1500)) := by unfold fitB; rw [l]
  rw [e]
  clear e
  generalize hsz xs = H at hs hsl ⊢
  generalize num xs 2 = K at hq ⊢
  by_cases a1 : 20 ≤ H
  · by_cases a2 : H ≤ n
    · by_cases a3 : K = n
      · have d3 : (K == (n : Int)) = true := by simp [a3]
        have HA : Hid (K = n) := a3
        clear a3
        by_cases a4 : n ≤ 1500
        · go_enter Try.func18, Try.ntmps18
          go_wp2_with (first | (go_at_call 16; refine hs.mono ?_; rintro e w1 ⟨rfl, rfl⟩) | (go_at_call 14; refine hq.mono ?_; rintro e w1 ⟨rfl, hb1⟩))
          go_ret
          exact ⟨by simp [a1, a2, HA.out]; omega, hb1⟩
        · go_enter Try.func18, Try.ntmps18
          go_wp2_with (first | (go_at_call 16; refine hs.mono ?_; rintro e w1 ⟨rfl, rfl⟩) | (go_at_call 14; refine hq.mono ?_; rintro e w1 ⟨rfl, hb1⟩))
          go_ret
          exact ⟨by simp [a4]; omega, hb1⟩
      · have d3 : (K == (n : Int)) = false := by simp [a3]
        have HA : Hid (¬ K = n) := a3
        clear a3
        go_enter Try.func18, Try.ntmps18
        go_wp2_with (first | (go_at_call 16; refine hs.mono ?_; rintro e w1 ⟨rfl, rfl⟩) | (go_at_call 14; refine hq.mono ?_; rintro e w1 ⟨rfl, hb1⟩))
        go_ret
        exact ⟨by simp [HA.out], hb1⟩
    · go_enter Try.func18, Try.ntmps18
      go_wp2_with (go_at_call 16; refine hs.mono ?_; rintro e w1 ⟨rfl, rfl⟩)
      go_ret
      exact ⟨by simp [a2], Below.refl _ _⟩
  · go_enter Try.func18, Try.ntmps18
    go_wp2_with (go_at_call 16; refine hs.mono ?_; rintro e w1 ⟨rfl, rfl⟩)
    go_ret
    exact ⟨by simp, Below.refl _ _⟩
theorem head_fault (p : Option Addr) (n c : Nat) (xs : List Int) (l : xs.length = n) (hx : ∀ c ∈ xs, Byte c) (hn : n ≤ 9223372036854775807) (w : World) (r : Reads .u8 w p c xs) :
    Calls Try.prog 13 #[.slice p n c] w fun e w' => e = .returned (.int .i64 (faultE xs)) ∧ Below w.heap.size w w' := by
  by_cases h20 : n < 20
  · have HE : Hid (51 = faultE xs) := by show _ = _; unfold faultE; rw [l, if_pos h20]
    go_enter Try.func13, Try.ntmps13
    go_wp2
    go_ret
    exact ⟨ret_int HE.out, Below.refl _ _⟩
  obtain ⟨b, o, rfl, _, hcell⟩ := r.2.2.2 (by omega)
  obtain ⟨y, hy⟩ : ∃ y, y = xs.getD 0 0 := ⟨_, rfl⟩
  have h1 : w.cell? ⟨b, o, none⟩ = some (.int .u8 y) := by rw [hy]; exact hcell 0 (by omega)
  obtain ⟨y0, y1⟩ : Byte y := by rw [hy]; exact getD_byte hx 0
  by_cases h4 : y / 16 = 4
  · have d4 : (y / 16 == 4) = true := by simp [h4]
    have hf := head_fits (some ⟨b, o, none⟩) n c xs l hx hn (by omega) w r
    cases hfb : fitB xs with
    | false =>
      have HE : Hid (53 = faultE xs) := by show _ = _; unfold faultE; rw [l, if_neg h20, ← hy, if_neg (by simpa using h4), if_pos hfb]
      rw [hfb] at hf
      clear hy hcell h4 hfb
      go_enter Try.func13, Try.ntmps13
      go_wp2_with (go_at_call 18; refine hf.mono ?_; rintro e w1 ⟨rfl, hb1⟩)
      go_ret
      exact ⟨ret_int HE.out, hb1⟩
    | true =>
      obtain ⟨f1, f2, f3, f4⟩ := fit_iff.1 hfb
      have hsl := hsz_le hx
      have hs := fun w' (hb : Below w.heap.size w w') => head_headerSize (some ⟨b, o, none⟩) n c xs l hx hn (by omega) w' (r.below hb)
      obtain ⟨H, hH⟩ : ∃ H, H = hsz xs := ⟨_, rfl⟩
      rw [← hH] at hs hsl f1 f2
      have hsm := fun w' (hb : Below w.heap.size w w') => head_Sum (some ⟨b, o, none⟩) H c (xs.take H) (by simp; omega) (fun c hc => hx c (List.mem_of_mem_take hc)) (by omega) w' ((r.below hb).upto H)
      have hup := fun w => run_upto w b o n c H (by have := r.1; omega)
      obtain ⟨s, hs0⟩ : ∃ s, s = sumI (xs.take H) := ⟨_, rfl⟩
      rw [← hs0] at hsm
      rw [hfb] at hf
      by_cases hz : s = 0
      · have d0 : (s == 0) = true := by simp [hz]
        have HE : Hid (0 = faultE xs) := by show _ = _; unfold faultE; rw [l, if_neg h20, ← hy, if_neg (by simpa using h4), if_neg (by simp [hfb]), ← hH, ← hs0, if_neg (by simpa using hz)]
        clear hy hcell h4 hfb hH hs0 hz f3
        go_enter Try.func13, Try.ntmps13
        go_wp2_with (first
          | (go_at_call 18; refine hf.mono ?_; rintro e w1 ⟨rfl, hb1⟩)
          | (go_at_call 16; refine (hs _ hb1).mono ?_; rintro e w2 ⟨rfl, rfl⟩)
          | (go_at_call 9; refine (hsm _ hb1).mono ?_; rintro e w3 ⟨rfl, rfl⟩))
        go_ret
        exact ⟨ret_int HE.out, hb1⟩
      · have d0 : (s == 0) = false := by simp [hz]
        have HE : Hid (54 = faultE xs) := by show _ = _; unfold faultE; rw [l, if_neg h20, ← hy, if_neg (by simpa using h4), if_neg (by simp [hfb]), ← hH, ← hs0, if_pos hz]
        clear hy hcell h4 hfb hH hs0 hz f3
        go_enter Try.func13, Try.ntmps13
        go_wp2_with (first
          | (go_at_call 18; refine hf.mono ?_; rintro e w1 ⟨rfl, hb1⟩)
          | (go_at_call 16; refine (hs _ hb1).mono ?_; rintro e w2 ⟨rfl, rfl⟩)
          | (go_at_call 9; refine (hsm _ hb1).mono ?_; rintro e w3 ⟨rfl, rfl⟩))
        go_ret
        exact ⟨ret_int HE.out, hb1⟩
  · have d4 : (y / 16 == 4) = false := by simp [h4]
    have HE : Hid (52 = faultE xs) := by show _ = _; unfold faultE; rw [l, if_neg h20, ← hy, if_pos h4]
    clear hy hcell h4
    go_enter Try.func13, Try.ntmps13
    go_wp2
    go_ret
    exact ⟨ret_int HE.out, Below.refl _ _⟩
theorem bytes_Clone (p : Option Addr) (n c : Nat) (xs : List Int) (l : xs.length = n) (hn : n ≤ 100000) (w : World) (r : Reads .u8 w p c xs) :
    Calls Try.prog 15 #[.slice p n c] w fun e w' => ∃ q d, e = .returned (.slice q n d) ∧ Reads .u8 w' q d xs ∧ (∀ a, q = some a → w.heap.size ≤ a.block) ∧ Below w.heap.size w w' := by
  obtain ⟨i0, hi, hz0, hz1, hz2⟩ := info_parts info_byte
  have hq : ∀ (w : World) (a : Option Addr) (n c n' c' : Nat), (binOp .eql 24 (.slice a n c) (.slice none n' c')).run Try.prog w = .ok (.bool a.isNone) w := fun w a n c n' c' => Lib.run_eql_slice_nil w _ _ a n c n' c' Try.underlying24
  cases p with
  | none =>
    have hc := r.2.2.1 rfl
    have h1 := r.1
    have hx : xs = [] := List.eq_nil_of_length_eq_zero (by omega)
    have h0 : n = 0 := by omega
    subst hx hc h0
    go_enter Try.func15, Try.ntmps15
    go_wp2
    go_ret
    exact ⟨_, _, rfl, Reads.nil _ _, fun a h => by simp at h, Below.refl _ _⟩
  | some a =>
    go_enter Try.func15, Try.ntmps15
    go_wp2_with (at_builtin; refine wpList_append_reads _ rfl _ _ 24 rfl w.heap.size 5 i0 (.int .u8 0) 1 .u8 Try.underlying24 hi hz0 hz1 hz2 rfl (.slice (some ⟨w.heap.size, 0, none⟩) 0 0) 0 [] rfl (lit_none (k := .u8) w) (some a) n c xs rfl l (r.alloc _) ?c3 ?c4 ?c5 ?_)
    case c3 => unfold maxLen; omega
    case c4 => omega
    case c5 => simp
    · intro v' w1 hown hg
      have hb : Below w.heap.size w w1 := ((Below.refl _ w).alloc (Nat.le_refl _) _).grown hg (by simp) (by intro k hk; simp [Value.ownBlock] at hk; omega)
      have ho : w1.ownsRow w.heap.size 5 1 v' n (xs.map (Value.int .u8)) := by simpa using hown
      obtain ⟨hl, q, d, rfl, hr⟩ := own_reads ho
      have hfr : ∀ a, q = some a → w.heap.size ≤ a.block := fun a ha => (ho.lt a.block (by rw [ha]; rfl)).1
      clear hown hg ho
      rw [← hl]
      go_wp2
      go_ret
      exact ⟨q, d, rfl, hr, hfr, hb⟩
end Go.Proofs.Ytogijgpamdcjkab.Head
