/-
  There and back: what is made is read as it was; what is read and made again is the packet, but for a sum that has two forms. Every input gives true. (Written by gen_headback.py.)
-/
import Derived.Test.YtogijgpamdcjkaaHeadBoth
import Derived.Test.YtogijgpamdcjkaaHeadSame
import Derived.BigQuiet
import Derived.Deep.QuietTactic
namespace Go.Proofs.Ytogijgpamdcjkaa.Head
open Go.RowKit Go.Proofs.Ytogijgpamdcjkaa.Mem
set_option linter.unusedVariables false

theorem hdr_agree (h : Hd) (m all s t : Int) (X : List Int) (i : Nat) (h10 : i ≠ 10) (h11 : i ≠ 11) : (hdr h m all s ++ X).getD i 0 = (hdr h m all t ++ X).getD i 0 := by
  match i, h10, h11 with
  | 0, h10, h11 => rfl
  | 1, h10, h11 => rfl
  | 2, h10, h11 => rfl
  | 3, h10, h11 => rfl
  | 4, h10, h11 => rfl
  | 5, h10, h11 => rfl
  | 6, h10, h11 => rfl
  | 7, h10, h11 => rfl
  | 8, h10, h11 => rfl
  | 9, h10, h11 => rfl
  | 10, h10, h11 => exact absurd rfl h10
  | 11, h10, h11 => exact absurd rfl h11
  | 12, h10, h11 => rfl
  | 13, h10, h11 => rfl
  | 14, h10, h11 => rfl
  | 15, h10, h11 => rfl
  | 16, h10, h11 => rfl
  | 17, h10, h11 => rfl
  | 18, h10, h11 => rfl
  | 19, h10, h11 => rfl
  | i + 20, _, _ => rfl
theorem hdr_sum (h : Hd) (m all s : Int) (X : List Int) : (hdr h m all s ++ X).getD 10 0 = s / 256 ∧ (hdr h m all s ++ X).getD 11 0 = s % 256 := ⟨rfl, rfl⟩
/-- A packet read and made again, byte by byte. -/
theorem again {xs : List Int} (hx : ∀ c ∈ xs, Byte c) (hE : faultE xs = 0) : (∀ i, i ≠ 10 → i ≠ 11 → (packet (hdOf xs) (opts xs) (pay xs)).getD i 0 = xs.getD i 0) ∧
    (((packet (hdOf xs) (opts xs) (pay xs)).getD 10 0 = xs.getD 10 0 ∧ (packet (hdOf xs) (opts xs) (pay xs)).getD 11 0 = xs.getD 11 0) ∨ (xs.getD 10 0 = 255 ∧ xs.getD 11 0 = 255 ∧ (packet (hdOf xs) (opts xs) (pay xs)).getD 10 0 = 0 ∧ (packet (hdOf xs) (opts xs) (pay xs)).getD 11 0 = 0)) := by
  obtain ⟨s, s0, s1, hp, hs⟩ := remake hx hE
  have hw := xs_whole hx hE
  have c10 := getD_byte hx 10
  have c11 := getD_byte hx 11
  unfold Byte at c10 c11
  have hnum : num xs 10 = 256 * xs.getD 10 0 + xs.getD 11 0 := rfl
  unfold header at hp hw
  rw [List.append_assoc] at hp hw
  rw [hp]
  have g := hdr_sum (hdOf xs) (opts xs).length xs.length s (opts xs ++ pay xs)
  refine ⟨fun i h10 h11 => ?_, ?_⟩
  · have := hdr_agree (hdOf xs) (opts xs).length xs.length s (num xs 10) (opts xs ++ pay xs) i h10 h11
    rw [this, ← hw]
  · rw [g.1, g.2]
    omega
set_option maxRecDepth 100000 in
set_option maxHeartbeats 1000000 in
theorem back_n (h : Hd) (q : Option Addr) (m c : Nat) (os : List Int) (lo : os.length = m) (p : Option Addr) (n d : Nat) (ps : List Int) (lp : ps.length = n) (u : Option Addr) (k uc : Nat) (xs : List Int) (lx : xs.length = k) (ha : Ads h) (ho : ∀ c ∈ os, Byte c) (hp : ∀ c ∈ ps, Byte c) (hx : ∀ c ∈ xs, Byte c) (w : World) (ro : Reads .u8 w q c os) (rp : Reads .u8 w p d ps) (rx : Reads .u8 w u uc xs) (hg : 3000 < n) :
    Calls Try.prog 7 #[.agg #[.int .i64 h.tos, .int .i64 h.id, .int .i64 h.fl, .int .i64 h.ttl, .int .i64 h.pr, .int .u8 h.s0, .int .u8 h.s1, .int .u8 h.s2, .int .u8 h.s3, .int .u8 h.d0, .int .u8 h.d1, .int .u8 h.d2, .int .u8 h.d3, .slice q m c], .slice p n d, .slice u k uc] w fun e w' => e = .returned (.bool true) ∧ Below w.heap.size w w' := by
  have hal := alive_any (w.alloc (.cells #[.int .i64 h.tos, .int .i64 h.id, .int .i64 h.fl, .int .i64 h.ttl, .int .i64 h.pr, .int .u8 h.s0, .int .u8 h.s1, .int .u8 h.s2, .int .u8 h.s3, .int .u8 h.d0, .int .u8 h.d1, .int .u8 h.d2, .int .u8 h.d3, .slice q m c] 26))
  have hm : m ≤ 9223372036854775807 := by have h1 := ro.1; have h2 := ro.2.1; unfold maxLen at h2; omega
  have hn : n ≤ 9223372036854775807 := by have h1 := rp.1; have h2 := rp.2.1; unfold maxLen at h2; omega
  have hk : k ≤ 9223372036854775807 := by have h1 := rx.1; have h2 := rx.2.1; unfold maxLen at h2; omega
  have hz := fun w1 (hb : Below (w.alloc (.cells #[.int .i64 h.tos, .int .i64 h.id, .int .i64 h.fl, .int .i64 h.ttl, .int .i64 h.pr, .int .u8 h.s0, .int .u8 h.s1, .int .u8 h.s2, .int .u8 h.s3, .int .u8 h.d0, .int .u8 h.d1, .int .u8 h.d2, .int .u8 h.d3, .slice q m c] 26)).heap.size (w.alloc (.cells #[.int .i64 h.tos, .int .i64 h.id, .int .i64 h.fl, .int .i64 h.ttl, .int .i64 h.pr, .int .u8 h.s0, .int .u8 h.s1, .int .u8 h.s2, .int .u8 h.s3, .int .u8 h.d0, .int .u8 h.d1, .int .u8 h.d2, .int .u8 h.d3, .slice q m c] 26)) w1) => (Blk.new w #[.int .i64 h.tos, .int .i64 h.id, .int .i64 h.fl, .int .i64 h.ttl, .int .i64 h.pr, .int .u8 h.s0, .int .u8 h.s1, .int .u8 h.s2, .int .u8 h.s3, .int .u8 h.d0, .int .u8 h.d1, .int .u8 h.d2, .int .u8 h.d3, .slice q m c] 26).below hb
  go_enter Try.func7, Try.ntmps7
  go_wp2_with (go_at_call 11; refine hal.mono ?_; rintro e w1 ⟨rfl, hb1⟩; have kz := (hz _ hb1).cell)
  go_ret
  exact ⟨rfl, bnext (bnew _ _) hb1⟩
set_option maxRecDepth 100000 in
set_option maxHeartbeats 1000000 in
theorem back_m (h : Hd) (q : Option Addr) (m c : Nat) (os : List Int) (lo : os.length = m) (p : Option Addr) (n d : Nat) (ps : List Int) (lp : ps.length = n) (u : Option Addr) (k uc : Nat) (xs : List Int) (lx : xs.length = k) (ha : Ads h) (ho : ∀ c ∈ os, Byte c) (hp : ∀ c ∈ ps, Byte c) (hx : ∀ c ∈ xs, Byte c) (w : World) (ro : Reads .u8 w q c os) (rp : Reads .u8 w p d ps) (rx : Reads .u8 w u uc xs) (hg : n ≤ 3000 ∧ 3000 < m) :
    Calls Try.prog 7 #[.agg #[.int .i64 h.tos, .int .i64 h.id, .int .i64 h.fl, .int .i64 h.ttl, .int .i64 h.pr, .int .u8 h.s0, .int .u8 h.s1, .int .u8 h.s2, .int .u8 h.s3, .int .u8 h.d0, .int .u8 h.d1, .int .u8 h.d2, .int .u8 h.d3, .slice q m c], .slice p n d, .slice u k uc] w fun e w' => e = .returned (.bool true) ∧ Below w.heap.size w w' := by
  have hal := alive_any (w.alloc (.cells #[.int .i64 h.tos, .int .i64 h.id, .int .i64 h.fl, .int .i64 h.ttl, .int .i64 h.pr, .int .u8 h.s0, .int .u8 h.s1, .int .u8 h.s2, .int .u8 h.s3, .int .u8 h.d0, .int .u8 h.d1, .int .u8 h.d2, .int .u8 h.d3, .slice q m c] 26))
  have hm : m ≤ 9223372036854775807 := by have h1 := ro.1; have h2 := ro.2.1; unfold maxLen at h2; omega
  have hn : n ≤ 9223372036854775807 := by have h1 := rp.1; have h2 := rp.2.1; unfold maxLen at h2; omega
  have hk : k ≤ 9223372036854775807 := by have h1 := rx.1; have h2 := rx.2.1; unfold maxLen at h2; omega
  have hz := fun w1 (hb : Below (w.alloc (.cells #[.int .i64 h.tos, .int .i64 h.id, .int .i64 h.fl, .int .i64 h.ttl, .int .i64 h.pr, .int .u8 h.s0, .int .u8 h.s1, .int .u8 h.s2, .int .u8 h.s3, .int .u8 h.d0, .int .u8 h.d1, .int .u8 h.d2, .int .u8 h.d3, .slice q m c] 26)).heap.size (w.alloc (.cells #[.int .i64 h.tos, .int .i64 h.id, .int .i64 h.fl, .int .i64 h.ttl, .int .i64 h.pr, .int .u8 h.s0, .int .u8 h.s1, .int .u8 h.s2, .int .u8 h.s3, .int .u8 h.d0, .int .u8 h.d1, .int .u8 h.d2, .int .u8 h.d3, .slice q m c] 26)) w1) => (Blk.new w #[.int .i64 h.tos, .int .i64 h.id, .int .i64 h.fl, .int .i64 h.ttl, .int .i64 h.pr, .int .u8 h.s0, .int .u8 h.s1, .int .u8 h.s2, .int .u8 h.s3, .int .u8 h.d0, .int .u8 h.d1, .int .u8 h.d2, .int .u8 h.d3, .slice q m c] 26).below hb
  obtain ⟨g1, g2⟩ := hg
  go_enter Try.func7, Try.ntmps7
  go_wp2_with (go_at_call 11; refine hal.mono ?_; rintro e w1 ⟨rfl, hb1⟩; have kz := (hz _ hb1).cell)
  go_ret
  exact ⟨rfl, bnext (bnew _ _) hb1⟩
set_option maxRecDepth 100000 in
set_option maxHeartbeats 1000000 in
theorem back_k (h : Hd) (q : Option Addr) (m c : Nat) (os : List Int) (lo : os.length = m) (p : Option Addr) (n d : Nat) (ps : List Int) (lp : ps.length = n) (u : Option Addr) (k uc : Nat) (xs : List Int) (lx : xs.length = k) (ha : Ads h) (ho : ∀ c ∈ os, Byte c) (hp : ∀ c ∈ ps, Byte c) (hx : ∀ c ∈ xs, Byte c) (w : World) (ro : Reads .u8 w q c os) (rp : Reads .u8 w p d ps) (rx : Reads .u8 w u uc xs) (hg : n ≤ 3000 ∧ m ≤ 3000 ∧ 3000 < k) :
    Calls Try.prog 7 #[.agg #[.int .i64 h.tos, .int .i64 h.id, .int .i64 h.fl, .int .i64 h.ttl, .int .i64 h.pr, .int .u8 h.s0, .int .u8 h.s1, .int .u8 h.s2, .int .u8 h.s3, .int .u8 h.d0, .int .u8 h.d1, .int .u8 h.d2, .int .u8 h.d3, .slice q m c], .slice p n d, .slice u k uc] w fun e w' => e = .returned (.bool true) ∧ Below w.heap.size w w' := by
  have hal := alive_any (w.alloc (.cells #[.int .i64 h.tos, .int .i64 h.id, .int .i64 h.fl, .int .i64 h.ttl, .int .i64 h.pr, .int .u8 h.s0, .int .u8 h.s1, .int .u8 h.s2, .int .u8 h.s3, .int .u8 h.d0, .int .u8 h.d1, .int .u8 h.d2, .int .u8 h.d3, .slice q m c] 26))
  have hm : m ≤ 9223372036854775807 := by have h1 := ro.1; have h2 := ro.2.1; unfold maxLen at h2; omega
  have hn : n ≤ 9223372036854775807 := by have h1 := rp.1; have h2 := rp.2.1; unfold maxLen at h2; omega
  have hk : k ≤ 9223372036854775807 := by have h1 := rx.1; have h2 := rx.2.1; unfold maxLen at h2; omega
  have hz := fun w1 (hb : Below (w.alloc (.cells #[.int .i64 h.tos, .int .i64 h.id, .int .i64 h.fl, .int .i64 h.ttl, .int .i64 h.pr, .int .u8 h.s0, .int .u8 h.s1, .int .u8 h.s2, .int .u8 h.s3, .int .u8 h.d0, .int .u8 h.d1, .int .u8 h.d2, .int .u8 h.d3, .slice q m c] 26)).heap.size (w.alloc (.cells #[.int .i64 h.tos, .int .i64 h.id, .int .i64 h.fl, .int .i64 h.ttl, .int .i64 h.pr, .int .u8 h.s0, .int .u8 h.s1, .int .u8 h.s2, .int .u8 h.s3, .int .u8 h.d0, .int .u8 h.d1, .int .u8 h.d2, .int .u8 h.d3, .slice q m c] 26)) w1) => (Blk.new w #[.int .i64 h.tos, .int .i64 h.id, .int .i64 h.fl, .int .i64 h.ttl, .int .i64 h.pr, .int .u8 h.s0, .int .u8 h.s1, .int .u8 h.s2, .int .u8 h.s3, .int .u8 h.d0, .int .u8 h.d1, .int .u8 h.d2, .int .u8 h.d3, .slice q m c] 26).below hb
  obtain ⟨g1, g2, g3⟩ := hg
  go_enter Try.func7, Try.ntmps7
  go_wp2_with (go_at_call 11; refine hal.mono ?_; rintro e w1 ⟨rfl, hb1⟩; have kz := (hz _ hb1).cell)
  go_ret
  exact ⟨rfl, bnext (bnew _ _) hb1⟩
set_option maxHeartbeats 2000000 in
set_option maxRecDepth 100000 in
theorem back_not_err (h : Hd) (q : Option Addr) (m c : Nat) (os : List Int) (lo : os.length = m) (p : Option Addr) (n d : Nat) (ps : List Int) (lp : ps.length = n) (u : Option Addr) (k uc : Nat) (xs : List Int) (lx : xs.length = k) (ha : Ads h) (ho : ∀ c ∈ os, Byte c) (hp : ∀ c ∈ ps, Byte c) (hx : ∀ c ∈ xs, Byte c) (w : World) (ro : Reads .u8 w q c os) (rp : Reads .u8 w p d ps) (rx : Reads .u8 w u uc xs) (g1 : n ≤ 3000) (g2 : m ≤ 3000) (g3 : k ≤ 3000) (hb : ¬ madeB h os ps = true) (hE : ¬ faultE xs = 0) :
    Calls Try.prog 7 #[.agg #[.int .i64 h.tos, .int .i64 h.id, .int .i64 h.fl, .int .i64 h.ttl, .int .i64 h.pr, .int .u8 h.s0, .int .u8 h.s1, .int .u8 h.s2, .int .u8 h.s3, .int .u8 h.d0, .int .u8 h.d1, .int .u8 h.d2, .int .u8 h.d3, .slice q m c], .slice p n d, .slice u k uc] w fun e w' => e = .returned (.bool true) ∧ Below w.heap.size w w' := by
  have hal := alive_any (w.alloc (.cells #[.int .i64 h.tos, .int .i64 h.id, .int .i64 h.fl, .int .i64 h.ttl, .int .i64 h.pr, .int .u8 h.s0, .int .u8 h.s1, .int .u8 h.s2, .int .u8 h.s3, .int .u8 h.d0, .int .u8 h.d1, .int .u8 h.d2, .int .u8 h.d3, .slice q m c] 26))
  have hm : m ≤ 9223372036854775807 := by have h1 := ro.1; have h2 := ro.2.1; unfold maxLen at h2; omega
  have hn : n ≤ 9223372036854775807 := by have h1 := rp.1; have h2 := rp.2.1; unfold maxLen at h2; omega
  have hk : k ≤ 9223372036854775807 := by have h1 := rx.1; have h2 := rx.2.1; unfold maxLen at h2; omega
  have hz := fun w1 (hb : Below (w.alloc (.cells #[.int .i64 h.tos, .int .i64 h.id, .int .i64 h.fl, .int .i64 h.ttl, .int .i64 h.pr, .int .u8 h.s0, .int .u8 h.s1, .int .u8 h.s2, .int .u8 h.s3, .int .u8 h.d0, .int .u8 h.d1, .int .u8 h.d2, .int .u8 h.d3, .slice q m c] 26)).heap.size (w.alloc (.cells #[.int .i64 h.tos, .int .i64 h.id, .int .i64 h.fl, .int .i64 h.ttl, .int .i64 h.pr, .int .u8 h.s0, .int .u8 h.s1, .int .u8 h.s2, .int .u8 h.s3, .int .u8 h.d0, .int .u8 h.d1, .int .u8 h.d2, .int .u8 h.d3, .slice q m c] 26)) w1) => (Blk.new w #[.int .i64 h.tos, .int .i64 h.id, .int .i64 h.fl, .int .i64 h.ttl, .int .i64 h.pr, .int .u8 h.s0, .int .u8 h.s1, .int .u8 h.s2, .int .u8 h.s3, .int .u8 h.d0, .int .u8 h.d1, .int .u8 h.d2, .int .u8 h.d3, .slice q m c] 26).below hb
  have hA := fun W ro rp => make_any h q m c os lo p n d ps lp (by omega) ha ho W ro rp
  unfold made madeE at hA
  rw [if_neg hb, if_neg hb] at hA
  unfold MakeAns at hA
  have hB := fun W r => read_any u k uc xs lx hx W r
  unfold rdH rdO rdP at hB
  rw [if_neg hE, if_neg hE, if_neg hE] at hB
  unfold ReadAns at hB
  simp only [zeroH, List.length_nil] at hB
  have hZ := fun W q' qc' r r' => ref_Same zeroH q' none 0 qc' 0 [] rfl no_bytes W r r'
  simp only [zeroH] at hZ
  have dE : (faultE xs == 0) = false := by simp [hE]
  generalize faultE xs = E at hB dE
  clear hE
  go_enter Try.func7, Try.ntmps7
  go_wp2_with (first
    | (go_at_call 11; refine hal.mono ?_; rintro e w1 ⟨rfl, hb1⟩; have kz := (hz _ hb1).cell)
    | (go_at_call 10; refine (hA _ ((ro.alloc _).below hb1) ((rp.alloc _).below hb1)).mono ?_))
  rintro e w2 ⟨q2, d2, rfl, r2, hb2⟩
  have Y2 := (hz _ hb1).below hb2
  have hw2 := bnext (bnext (bnew _ _) hb1) hb2
  clear kz hal hA
  have hw4 := hw2
  go_wp2_with (go_at_call 9; refine (hB _ (rx.below hw4)).mono ?_)
  rintro e w5 ⟨oq5, oc5, pq5, pc5, rfl, ro5, rp5, hb5⟩
  go_wp2_with (go_at_call 18; refine (hZ _ _ _ (ro5.alloc _) (Reads.nil _ _)).mono ?_)
  rintro e w6 ⟨rfl, hb6⟩
  go_wp2
  go_ret
  exact ⟨rfl, bnext (bnext hw4 (bal hb5 _)) hb6⟩
set_option maxHeartbeats 2000000 in
set_option maxRecDepth 100000 in
theorem back_not_ok (h : Hd) (q : Option Addr) (m c : Nat) (os : List Int) (lo : os.length = m) (p : Option Addr) (n d : Nat) (ps : List Int) (lp : ps.length = n) (u : Option Addr) (k uc : Nat) (xs : List Int) (lx : xs.length = k) (ha : Ads h) (ho : ∀ c ∈ os, Byte c) (hp : ∀ c ∈ ps, Byte c) (hx : ∀ c ∈ xs, Byte c) (w : World) (ro : Reads .u8 w q c os) (rp : Reads .u8 w p d ps) (rx : Reads .u8 w u uc xs) (g1 : n ≤ 3000) (g2 : m ≤ 3000) (g3 : k ≤ 3000) (hb : ¬ madeB h os ps = true) (hE : faultE xs = 0) :
    Calls Try.prog 7 #[.agg #[.int .i64 h.tos, .int .i64 h.id, .int .i64 h.fl, .int .i64 h.ttl, .int .i64 h.pr, .int .u8 h.s0, .int .u8 h.s1, .int .u8 h.s2, .int .u8 h.s3, .int .u8 h.d0, .int .u8 h.d1, .int .u8 h.d2, .int .u8 h.d3, .slice q m c], .slice p n d, .slice u k uc] w fun e w' => e = .returned (.bool true) ∧ Below w.heap.size w w' := by
  have hal := alive_any (w.alloc (.cells #[.int .i64 h.tos, .int .i64 h.id, .int .i64 h.fl, .int .i64 h.ttl, .int .i64 h.pr, .int .u8 h.s0, .int .u8 h.s1, .int .u8 h.s2, .int .u8 h.s3, .int .u8 h.d0, .int .u8 h.d1, .int .u8 h.d2, .int .u8 h.d3, .slice q m c] 26))
  have hm : m ≤ 9223372036854775807 := by have h1 := ro.1; have h2 := ro.2.1; unfold maxLen at h2; omega
  have hn : n ≤ 9223372036854775807 := by have h1 := rp.1; have h2 := rp.2.1; unfold maxLen at h2; omega
  have hk : k ≤ 9223372036854775807 := by have h1 := rx.1; have h2 := rx.2.1; unfold maxLen at h2; omega
  have hz := fun w1 (hb : Below (w.alloc (.cells #[.int .i64 h.tos, .int .i64 h.id, .int .i64 h.fl, .int .i64 h.ttl, .int .i64 h.pr, .int .u8 h.s0, .int .u8 h.s1, .int .u8 h.s2, .int .u8 h.s3, .int .u8 h.d0, .int .u8 h.d1, .int .u8 h.d2, .int .u8 h.d3, .slice q m c] 26)).heap.size (w.alloc (.cells #[.int .i64 h.tos, .int .i64 h.id, .int .i64 h.fl, .int .i64 h.ttl, .int .i64 h.pr, .int .u8 h.s0, .int .u8 h.s1, .int .u8 h.s2, .int .u8 h.s3, .int .u8 h.d0, .int .u8 h.d1, .int .u8 h.d2, .int .u8 h.d3, .slice q m c] 26)) w1) => (Blk.new w #[.int .i64 h.tos, .int .i64 h.id, .int .i64 h.fl, .int .i64 h.ttl, .int .i64 h.pr, .int .u8 h.s0, .int .u8 h.s1, .int .u8 h.s2, .int .u8 h.s3, .int .u8 h.d0, .int .u8 h.d1, .int .u8 h.d2, .int .u8 h.d3, .slice q m c] 26).below hb
  have hA := fun W ro rp => make_any h q m c os lo p n d ps lp (by omega) ha ho W ro rp
  unfold made madeE at hA
  rw [if_neg hb, if_neg hb] at hA
  unfold MakeAns at hA
  have hB := fun W r => read_any u k uc xs lx hx W r
  unfold rdH rdO rdP at hB
  rw [if_pos hE, if_pos hE, if_pos hE, hE] at hB
  obtain ⟨xr, xa, xo, xp, xl, xn⟩ := read_right hx hE
  have hC := fun q' d' p' e' W r r' => make_any (hdOf xs) q' _ d' (opts xs) rfl p' _ e' (pay xs) rfl (by omega) xa xo W r r'
  have hmb : madeB (hdOf xs) (opts xs) (pay xs) = true := madeB_iff.2 ⟨xr, by omega⟩
  unfold made madeE at hC
  rw [if_pos hmb, if_pos hmb] at hC
  obtain ⟨ag, sm⟩ := again hx hE
  have hyl : (packet (hdOf xs) (opts xs) (pay xs)).length = k := by rw [packet_length]; omega
  have hk20 : 20 ≤ k := by have := (fault_ok.1 hE).1; omega
  have hk15 : k ≤ 1500 := by omega
  unfold ReadAns at hB
  unfold MakeAns at hC
  rw [hyl] at hC
  generalize packet (hdOf xs) (opts xs) (pay xs) = zs at hC ag sm hyl
  obtain ⟨M, hM⟩ : ∃ M, (opts xs).length = M := ⟨_, rfl⟩
  obtain ⟨K, hK⟩ : ∃ K, (pay xs).length = K := ⟨_, rfl⟩
  rw [hM, hK] at hB hC
  generalize hdOf xs = g at hB hC
  generalize opts xs = os' at hB hC
  generalize pay xs = ps' at hB hC
  clear hmb xr xa xo xp xl xn hE hM hK
  go_enter Try.func7, Try.ntmps7
  go_wp2_with (first
    | (go_at_call 11; refine hal.mono ?_; rintro e w1 ⟨rfl, hb1⟩; have kz := (hz _ hb1).cell)
    | (go_at_call 10; refine (hA _ ((ro.alloc _).below hb1) ((rp.alloc _).below hb1)).mono ?_))
  rintro e w2 ⟨q2, d2, rfl, r2, hb2⟩
  have Y2 := (hz _ hb1).below hb2
  have hw2 := bnext (bnext (bnew _ _) hb1) hb2
  clear kz hal hA
  have hw4 := hw2
  go_wp2_with (go_at_call 9; refine (hB _ (rx.below hw4)).mono ?_)
  rintro e w5 ⟨oq5, oc5, pq5, pc5, rfl, ro5, rp5, hb5⟩
  go_wp2_with (go_at_call 10; refine (hC _ _ _ _ _ (ro5.alloc _) (rp5.alloc _)).mono ?_)
  rintro e w6 ⟨q6, d6, rfl, r6, hb6⟩
  have hw6 := bnext (bnext hw4 (bal hb5 _)) hb6
  have rx6 := rx.below hw6
  obtain ⟨yb, yo, rfl, -, -⟩ := r6.2.2.2 (by omega)
  obtain ⟨xb, xo, rfl, -, -⟩ := rx6.2.2.2 (by omega)
  have hcy : ∀ W, Below w6.heap.size w6 W → ∀ i, i < k → W.cell? ⟨yb, yo + i, none⟩ = some (.int .u8 (zs.getD i 0)) := fun W hb i hi => by
    obtain ⟨b', o', e, _, hc⟩ := (r6.below hb).2.2.2 (by omega)
    simp only [Option.some.injEq, Addr.mk.injEq, and_true] at e
    obtain ⟨rfl, rfl⟩ := e
    exact hc i (by omega)
  have hcx : ∀ W, Below w6.heap.size w6 W → ∀ i, i < k → W.cell? ⟨xb, xo + i, none⟩ = some (.int .u8 (xs.getD i 0)) := fun W hb i hi => by
    obtain ⟨b', o', e, _, hc⟩ := (rx6.below hb).2.2.2 (by omega)
    simp only [Option.some.injEq, Addr.mk.injEq, and_true] at e
    obtain ⟨rfl, rfl⟩ := e
    exact hc i (by omega)
  clear hB hC ro5 rp5 hz
  go_wp2
  go_loopw [101] (fun t wr => ∃ i : Nat, i ≤ k ∧ t = .int .i64 i ∧ Below w6.heap.size w6 wr) (fun t _ => k - (intOf t).toNat)
  case atStart => exact ⟨0, by omega, rfl, Below.refl _ _⟩
  case round =>
    obtain ⟨i, hik, rfl, hbi⟩ := hrel
    by_cases hlt : i < k
    · have hlt' : (i : Int) < (k : Int) := by omega
      by_cases h10 : i = 10
      · have d10 : ((i : Int) != 10) = false := by simp; omega
        clear h10 hcy hcx ag sm
        go_wp2
        go_quiet (fail)
        go_wp2
        go_roundw
        case rel => exact ⟨i + 1, by omega, by go_num, bnext hbi (bdrewN _ _)⟩
        case measure => simp [intOf]; omega
      · have d10 : ((i : Int) != 10) = true := by simp; omega
        by_cases h11 : i = 11
        · have d11 : ((i : Int) != 11) = false := by simp; omega
          clear h10 h11 hcy hcx ag sm
          go_wp2
          go_quiet (fail)
          go_wp2
          go_roundw
          case rel => exact ⟨i + 1, by omega, by go_num, bnext hbi (bdrewN _ _)⟩
          case measure => simp [intOf]; omega
        · have d11 : ((i : Int) != 11) = true := by simp; omega
          have c1 := hcy _ hbi i hlt
          have c2 := hcx _ hbi i hlt
          rw [ag i h10 h11] at c1
          generalize xs.getD i 0 = z at c1 c2
          have dz : (z != z) = false := by simp
          clear h10 h11 hcy hcx ag sm
          go_wp2
          go_quiet (fail)
          go_wp2
          go_roundw
          case rel => exact ⟨i + 1, by omega, by go_num, bnext hbi (bdrewN _ _)⟩
          case measure => simp [intOf]; omega
    · have y10 := hcy _ hbi 10 (by omega)
      have y11 := hcy _ hbi 11 (by omega)
      have x10 := hcx _ hbi 10 (by omega)
      have x11 := hcx _ hbi 11 (by omega)
      have q10 : (10 : Int) < (k : Int) := by omega
      have q11 : (11 : Int) < (k : Int) := by omega
      rcases sm with ⟨s1, s2⟩ | ⟨s1, s2, s3, s4⟩
      · rw [s1] at y10
        rw [s2] at y11
        generalize xs.getD 10 0 = za at y10 x10
        generalize xs.getD 11 0 = zb at y11 x11
        have ea : (za == za) = true := by simp
        have eb : (zb == zb) = true := by simp
        clear hcy hcx ag s1 s2
        go_wp2
        go_quiet (fail)
        go_wp2
        go_ret
        exact ⟨rfl, bnext (bnext hw6 hbi) (bdrewN _ _)⟩
      · rw [s3] at y10
        rw [s4] at y11
        rw [s1] at x10
        rw [s2] at x11
        clear hcy hcx ag s1 s2 s3 s4
        go_wp2
        go_quiet (fail)
        go_wp2
        go_ret
        exact ⟨rfl, bnext (bnext hw6 hbi) (bdrewN _ _)⟩
set_option maxHeartbeats 2000000 in
set_option maxRecDepth 100000 in
theorem back_made_err (h : Hd) (q : Option Addr) (m c : Nat) (os : List Int) (lo : os.length = m) (p : Option Addr) (n d : Nat) (ps : List Int) (lp : ps.length = n) (u : Option Addr) (k uc : Nat) (xs : List Int) (lx : xs.length = k) (ha : Ads h) (ho : ∀ c ∈ os, Byte c) (hp : ∀ c ∈ ps, Byte c) (hx : ∀ c ∈ xs, Byte c) (w : World) (ro : Reads .u8 w q c os) (rp : Reads .u8 w p d ps) (rx : Reads .u8 w u uc xs) (g1 : n ≤ 3000) (g2 : m ≤ 3000) (g3 : k ≤ 3000) (hb : madeB h os ps = true) (hE : ¬ faultE xs = 0) :
    Calls Try.prog 7 #[.agg #[.int .i64 h.tos, .int .i64 h.id, .int .i64 h.fl, .int .i64 h.ttl, .int .i64 h.pr, .int .u8 h.s0, .int .u8 h.s1, .int .u8 h.s2, .int .u8 h.s3, .int .u8 h.d0, .int .u8 h.d1, .int .u8 h.d2, .int .u8 h.d3, .slice q m c], .slice p n d, .slice u k uc] w fun e w' => e = .returned (.bool true) ∧ Below w.heap.size w w' := by
  have hal := alive_any (w.alloc (.cells #[.int .i64 h.tos, .int .i64 h.id, .int .i64 h.fl, .int .i64 h.ttl, .int .i64 h.pr, .int .u8 h.s0, .int .u8 h.s1, .int .u8 h.s2, .int .u8 h.s3, .int .u8 h.d0, .int .u8 h.d1, .int .u8 h.d2, .int .u8 h.d3, .slice q m c] 26))
  have hm : m ≤ 9223372036854775807 := by have h1 := ro.1; have h2 := ro.2.1; unfold maxLen at h2; omega
  have hn : n ≤ 9223372036854775807 := by have h1 := rp.1; have h2 := rp.2.1; unfold maxLen at h2; omega
  have hk : k ≤ 9223372036854775807 := by have h1 := rx.1; have h2 := rx.2.1; unfold maxLen at h2; omega
  have hz := fun w1 (hb : Below (w.alloc (.cells #[.int .i64 h.tos, .int .i64 h.id, .int .i64 h.fl, .int .i64 h.ttl, .int .i64 h.pr, .int .u8 h.s0, .int .u8 h.s1, .int .u8 h.s2, .int .u8 h.s3, .int .u8 h.d0, .int .u8 h.d1, .int .u8 h.d2, .int .u8 h.d3, .slice q m c] 26)).heap.size (w.alloc (.cells #[.int .i64 h.tos, .int .i64 h.id, .int .i64 h.fl, .int .i64 h.ttl, .int .i64 h.pr, .int .u8 h.s0, .int .u8 h.s1, .int .u8 h.s2, .int .u8 h.s3, .int .u8 h.d0, .int .u8 h.d1, .int .u8 h.d2, .int .u8 h.d3, .slice q m c] 26)) w1) => (Blk.new w #[.int .i64 h.tos, .int .i64 h.id, .int .i64 h.fl, .int .i64 h.ttl, .int .i64 h.pr, .int .u8 h.s0, .int .u8 h.s1, .int .u8 h.s2, .int .u8 h.s3, .int .u8 h.d0, .int .u8 h.d1, .int .u8 h.d2, .int .u8 h.d3, .slice q m c] 26).below hb
  obtain ⟨hr, hl⟩ := madeB_iff.1 hb
  have hA := fun W ro rp => make_any h q m c os lo p n d ps lp (by omega) ha ho W ro rp
  obtain ⟨pe, ph, po, pp, _⟩ := packet_read (ps := ps) hr ha ho hl
  have hpl := packet_length h os ps
  have hR := fun q1 d1 W r => read_any q1 (packet h os ps).length d1 (packet h os ps) rfl (packet_bytes hr ha ho hp hl) W r
  unfold rdH rdO rdP at hR
  rw [if_pos pe, if_pos pe, if_pos pe, pe, ph, po, pp] at hR
  unfold made madeE at hA
  rw [if_pos hb, if_pos hb] at hA
  have hS := fun W q' qc' r r' => ref_Same h q q' m c qc' os lo ho W r r'
  have tp : ((str ps).toList == (str ps).toList) = true := by rw [str_eq hp hp]; simp
  unfold MakeAns at hA
  unfold ReadAns at hR
  rw [lo, lp] at hR
  obtain ⟨N, hN⟩ : ∃ N, (packet h os ps).length = N := ⟨_, rfl⟩
  have hN15 : N ≤ 1500 := by omega
  rw [hN] at hA hR
  generalize packet h os ps = ys at hA hR hN
  clear pe ph po pp hpl hr hl
  have hB := fun W r => read_any u k uc xs lx hx W r
  unfold rdH rdO rdP at hB
  rw [if_neg hE, if_neg hE, if_neg hE] at hB
  unfold ReadAns at hB
  simp only [zeroH, List.length_nil] at hB
  have hZ := fun W q' qc' r r' => ref_Same zeroH q' none 0 qc' 0 [] rfl no_bytes W r r'
  simp only [zeroH] at hZ
  have dE : (faultE xs == 0) = false := by simp [hE]
  generalize faultE xs = E at hB dE
  clear hE
  go_enter Try.func7, Try.ntmps7
  go_wp2_with (first
    | (go_at_call 11; refine hal.mono ?_; rintro e w1 ⟨rfl, hb1⟩; have kz := (hz _ hb1).cell)
    | (go_at_call 10; refine (hA _ ((ro.alloc _).below hb1) ((rp.alloc _).below hb1)).mono ?_))
  rintro e w2 ⟨q2, d2, rfl, r2, hb2⟩
  have Y2 := (hz _ hb1).below hb2
  have hw2 := bnext (bnext (bnew _ _) hb1) hb2
  clear kz hal hA
  go_wp2_with (go_at_call 9; refine (hR _ _ _ r2).mono ?_)
  rintro e w3 ⟨oq, oc, pq, pc, rfl, ro3, rp3, hb3⟩
  have hb3' := bal hb3 (.cells #[.int .i64 h.tos, .int .i64 h.id, .int .i64 h.fl, .int .i64 h.ttl, .int .i64 h.pr, .int .u8 h.s0, .int .u8 h.s1, .int .u8 h.s2, .int .u8 h.s3, .int .u8 h.d0, .int .u8 h.d1, .int .u8 h.d2, .int .u8 h.d3, .slice oq m oc] 26)
  have k3 := (Y2.below hb3').cell
  go_wp2_with (go_at_call 18; refine (hS _ _ _ ((ro.below hw2).below hb3') (ro3.alloc _)).mono ?_)
  rintro e w4 ⟨rfl, hb4⟩
  have c1 := conv ((rp3.alloc _).below hb4) lp
  have c2 := conv (((rp.below hw2).below hb3').below hb4) lp
  have hw4 := bnext (bnext hw2 hb3') hb4
  clear k3 hS hR
  go_wp2_with (go_at_call 9; refine (hB _ (rx.below hw4)).mono ?_)
  rintro e w5 ⟨oq5, oc5, pq5, pc5, rfl, ro5, rp5, hb5⟩
  go_wp2_with (go_at_call 18; refine (hZ _ _ _ (ro5.alloc _) (Reads.nil _ _)).mono ?_)
  rintro e w6 ⟨rfl, hb6⟩
  go_wp2
  go_ret
  exact ⟨rfl, bnext (bnext hw4 (bal hb5 _)) hb6⟩
set_option maxHeartbeats 2000000 in
set_option maxRecDepth 100000 in
theorem back_made_ok (h : Hd) (q : Option Addr) (m c : Nat) (os : List Int) (lo : os.length = m) (p : Option Addr) (n d : Nat) (ps : List Int) (lp : ps.length = n) (u : Option Addr) (k uc : Nat) (xs : List Int) (lx : xs.length = k) (ha : Ads h) (ho : ∀ c ∈ os, Byte c) (hp : ∀ c ∈ ps, Byte c) (hx : ∀ c ∈ xs, Byte c) (w : World) (ro : Reads .u8 w q c os) (rp : Reads .u8 w p d ps) (rx : Reads .u8 w u uc xs) (g1 : n ≤ 3000) (g2 : m ≤ 3000) (g3 : k ≤ 3000) (hb : madeB h os ps = true) (hE : faultE xs = 0) :
    Calls Try.prog 7 #[.agg #[.int .i64 h.tos, .int .i64 h.id, .int .i64 h.fl, .int .i64 h.ttl, .int .i64 h.pr, .int .u8 h.s0, .int .u8 h.s1, .int .u8 h.s2, .int .u8 h.s3, .int .u8 h.d0, .int .u8 h.d1, .int .u8 h.d2, .int .u8 h.d3, .slice q m c], .slice p n d, .slice u k uc] w fun e w' => e = .returned (.bool true) ∧ Below w.heap.size w w' := by
  have hal := alive_any (w.alloc (.cells #[.int .i64 h.tos, .int .i64 h.id, .int .i64 h.fl, .int .i64 h.ttl, .int .i64 h.pr, .int .u8 h.s0, .int .u8 h.s1, .int .u8 h.s2, .int .u8 h.s3, .int .u8 h.d0, .int .u8 h.d1, .int .u8 h.d2, .int .u8 h.d3, .slice q m c] 26))
  have hm : m ≤ 9223372036854775807 := by have h1 := ro.1; have h2 := ro.2.1; unfold maxLen at h2; omega
  have hn : n ≤ 9223372036854775807 := by have h1 := rp.1; have h2 := rp.2.1; unfold maxLen at h2; omega
  have hk : k ≤ 9223372036854775807 := by have h1 := rx.1; have h2 := rx.2.1; unfold maxLen at h2; omega
  have hz := fun w1 (hb : Below (w.alloc (.cells #[.int .i64 h.tos, .int .i64 h.id, .int .i64 h.fl, .int .i64 h.ttl, .int .i64 h.pr, .int .u8 h.s0, .int .u8 h.s1, .int .u8 h.s2, .int .u8 h.s3, .int .u8 h.d0, .int .u8 h.d1, .int .u8 h.d2, .int .u8 h.d3, .slice q m c] 26)).heap.size (w.alloc (.cells #[.int .i64 h.tos, .int .i64 h.id, .int .i64 h.fl, .int .i64 h.ttl, .int .i64 h.pr, .int .u8 h.s0, .int .u8 h.s1, .int .u8 h.s2, .int .u8 h.s3, .int .u8 h.d0, .int .u8 h.d1, .int .u8 h.d2, .int .u8 h.d3, .slice q m c] 26)) w1) => (Blk.new w #[.int .i64 h.tos, .int .i64 h.id, .int .i64 h.fl, .int .i64 h.ttl, .int .i64 h.pr, .int .u8 h.s0, .int .u8 h.s1, .int .u8 h.s2, .int .u8 h.s3, .int .u8 h.d0, .int .u8 h.d1, .int .u8 h.d2, .int .u8 h.d3, .slice q m c] 26).below hb
  obtain ⟨hr, hl⟩ := madeB_iff.1 hb
  have hA := fun W ro rp => make_any h q m c os lo p n d ps lp (by omega) ha ho W ro rp
  obtain ⟨pe, ph, po, pp, _⟩ := packet_read (ps := ps) hr ha ho hl
  have hpl := packet_length h os ps
  have hR := fun q1 d1 W r => read_any q1 (packet h os ps).length d1 (packet h os ps) rfl (packet_bytes hr ha ho hp hl) W r
  unfold rdH rdO rdP at hR
  rw [if_pos pe, if_pos pe, if_pos pe, pe, ph, po, pp] at hR
  unfold made madeE at hA
  rw [if_pos hb, if_pos hb] at hA
  have hS := fun W q' qc' r r' => ref_Same h q q' m c qc' os lo ho W r r'
  have tp : ((str ps).toList == (str ps).toList) = true := by rw [str_eq hp hp]; simp
  unfold MakeAns at hA
  unfold ReadAns at hR
  rw [lo, lp] at hR
  obtain ⟨N, hN⟩ : ∃ N, (packet h os ps).length = N := ⟨_, rfl⟩
  have hN15 : N ≤ 1500 := by omega
  rw [hN] at hA hR
  generalize packet h os ps = ys at hA hR hN
  clear pe ph po pp hpl hr hl
  have hB := fun W r => read_any u k uc xs lx hx W r
  unfold rdH rdO rdP at hB
  rw [if_pos hE, if_pos hE, if_pos hE, hE] at hB
  obtain ⟨xr, xa, xo, xp, xl, xn⟩ := read_right hx hE
  have hC := fun q' d' p' e' W r r' => make_any (hdOf xs) q' _ d' (opts xs) rfl p' _ e' (pay xs) rfl (by omega) xa xo W r r'
  have hmb : madeB (hdOf xs) (opts xs) (pay xs) = true := madeB_iff.2 ⟨xr, by omega⟩
  unfold made madeE at hC
  rw [if_pos hmb, if_pos hmb] at hC
  obtain ⟨ag, sm⟩ := again hx hE
  have hyl : (packet (hdOf xs) (opts xs) (pay xs)).length = k := by rw [packet_length]; omega
  have hk20 : 20 ≤ k := by have := (fault_ok.1 hE).1; omega
  have hk15 : k ≤ 1500 := by omega
  unfold ReadAns at hB
  unfold MakeAns at hC
  rw [hyl] at hC
  generalize packet (hdOf xs) (opts xs) (pay xs) = zs at hC ag sm hyl
  obtain ⟨M, hM⟩ : ∃ M, (opts xs).length = M := ⟨_, rfl⟩
  obtain ⟨K, hK⟩ : ∃ K, (pay xs).length = K := ⟨_, rfl⟩
  rw [hM, hK] at hB hC
  generalize hdOf xs = g at hB hC
  generalize opts xs = os' at hB hC
  generalize pay xs = ps' at hB hC
  clear hmb xr xa xo xp xl xn hE hM hK
  go_enter Try.func7, Try.ntmps7
  go_wp2_with (first
    | (go_at_call 11; refine hal.mono ?_; rintro e w1 ⟨rfl, hb1⟩; have kz := (hz _ hb1).cell)
    | (go_at_call 10; refine (hA _ ((ro.alloc _).below hb1) ((rp.alloc _).below hb1)).mono ?_))
  rintro e w2 ⟨q2, d2, rfl, r2, hb2⟩
  have Y2 := (hz _ hb1).below hb2
  have hw2 := bnext (bnext (bnew _ _) hb1) hb2
  clear kz hal hA
  go_wp2_with (go_at_call 9; refine (hR _ _ _ r2).mono ?_)
  rintro e w3 ⟨oq, oc, pq, pc, rfl, ro3, rp3, hb3⟩
  have hb3' := bal hb3 (.cells #[.int .i64 h.tos, .int .i64 h.id, .int .i64 h.fl, .int .i64 h.ttl, .int .i64 h.pr, .int .u8 h.s0, .int .u8 h.s1, .int .u8 h.s2, .int .u8 h.s3, .int .u8 h.d0, .int .u8 h.d1, .int .u8 h.d2, .int .u8 h.d3, .slice oq m oc] 26)
  have k3 := (Y2.below hb3').cell
  go_wp2_with (go_at_call 18; refine (hS _ _ _ ((ro.below hw2).below hb3') (ro3.alloc _)).mono ?_)
  rintro e w4 ⟨rfl, hb4⟩
  have c1 := conv ((rp3.alloc _).below hb4) lp
  have c2 := conv (((rp.below hw2).below hb3').below hb4) lp
  have hw4 := bnext (bnext hw2 hb3') hb4
  clear k3 hS hR
  go_wp2_with (go_at_call 9; refine (hB _ (rx.below hw4)).mono ?_)
  rintro e w5 ⟨oq5, oc5, pq5, pc5, rfl, ro5, rp5, hb5⟩
  go_wp2_with (go_at_call 10; refine (hC _ _ _ _ _ (ro5.alloc _) (rp5.alloc _)).mono ?_)
  rintro e w6 ⟨q6, d6, rfl, r6, hb6⟩
  have hw6 := bnext (bnext hw4 (bal hb5 _)) hb6
  have rx6 := rx.below hw6
  obtain ⟨yb, yo, rfl, -, -⟩ := r6.2.2.2 (by omega)
  obtain ⟨xb, xo, rfl, -, -⟩ := rx6.2.2.2 (by omega)
  have hcy : ∀ W, Below w6.heap.size w6 W → ∀ i, i < k → W.cell? ⟨yb, yo + i, none⟩ = some (.int .u8 (zs.getD i 0)) := fun W hb i hi => by
    obtain ⟨b', o', e, _, hc⟩ := (r6.below hb).2.2.2 (by omega)
    simp only [Option.some.injEq, Addr.mk.injEq, and_true] at e
    obtain ⟨rfl, rfl⟩ := e
    exact hc i (by omega)
  have hcx : ∀ W, Below w6.heap.size w6 W → ∀ i, i < k → W.cell? ⟨xb, xo + i, none⟩ = some (.int .u8 (xs.getD i 0)) := fun W hb i hi => by
    obtain ⟨b', o', e, _, hc⟩ := (rx6.below hb).2.2.2 (by omega)
    simp only [Option.some.injEq, Addr.mk.injEq, and_true] at e
    obtain ⟨rfl, rfl⟩ := e
    exact hc i (by omega)
  clear hB hC ro5 rp5 hz
  go_wp2
  go_loopw [101] (fun t wr => ∃ i : Nat, i ≤ k ∧ t = .int .i64 i ∧ Below w6.heap.size w6 wr) (fun t _ => k - (intOf t).toNat)
  case atStart => exact ⟨0, by omega, rfl, Below.refl _ _⟩
  case round =>
    obtain ⟨i, hik, rfl, hbi⟩ := hrel
    by_cases hlt : i < k
    · have hlt' : (i : Int) < (k : Int) := by omega
      by_cases h10 : i = 10
      · have d10 : ((i : Int) != 10) = false := by simp; omega
        clear h10 hcy hcx ag sm
        go_wp2
        go_quiet (fail)
        go_wp2
        go_roundw
        case rel => exact ⟨i + 1, by omega, by go_num, bnext hbi (bdrewN _ _)⟩
        case measure => simp [intOf]; omega
      · have d10 : ((i : Int) != 10) = true := by simp; omega
        by_cases h11 : i = 11
        · have d11 : ((i : Int) != 11) = false := by simp; omega
          clear h10 h11 hcy hcx ag sm
          go_wp2
          go_quiet (fail)
          go_wp2
          go_roundw
          case rel => exact ⟨i + 1, by omega, by go_num, bnext hbi (bdrewN _ _)⟩
          case measure => simp [intOf]; omega
        · have d11 : ((i : Int) != 11) = true := by simp; omega
          have c1 := hcy _ hbi i hlt
          have c2 := hcx _ hbi i hlt
          rw [ag i h10 h11] at c1
          generalize xs.getD i 0 = z at c1 c2
          have dz : (z != z) = false := by simp
          clear h10 h11 hcy hcx ag sm
          go_wp2
          go_quiet (fail)
          go_wp2
          go_roundw
          case rel => exact ⟨i + 1, by omega, by go_num, bnext hbi (bdrewN _ _)⟩
          case measure => simp [intOf]; omega
    · have y10 := hcy _ hbi 10 (by omega)
      have y11 := hcy _ hbi 11 (by omega)
      have x10 := hcx _ hbi 10 (by omega)
      have x11 := hcx _ hbi 11 (by omega)
      have q10 : (10 : Int) < (k : Int) := by omega
      have q11 : (11 : Int) < (k : Int) := by omega
      rcases sm with ⟨s1, s2⟩ | ⟨s1, s2, s3, s4⟩
      · rw [s1] at y10
        rw [s2] at y11
        generalize xs.getD 10 0 = za at y10 x10
        generalize xs.getD 11 0 = zb at y11 x11
        have ea : (za == za) = true := by simp
        have eb : (zb == zb) = true := by simp
        clear hcy hcx ag s1 s2
        go_wp2
        go_quiet (fail)
        go_wp2
        go_ret
        exact ⟨rfl, bnext (bnext hw6 hbi) (bdrewN _ _)⟩
      · rw [s3] at y10
        rw [s4] at y11
        rw [s1] at x10
        rw [s2] at x11
        clear hcy hcx ag s1 s2 s3 s4
        go_wp2
        go_quiet (fail)
        go_wp2
        go_ret
        exact ⟨rfl, bnext (bnext hw6 hbi) (bdrewN _ _)⟩
theorem back_any (h : Hd) (q : Option Addr) (m c : Nat) (os : List Int) (lo : os.length = m) (p : Option Addr) (n d : Nat) (ps : List Int) (lp : ps.length = n) (u : Option Addr) (k uc : Nat) (xs : List Int) (lx : xs.length = k) (ha : Ads h) (ho : ∀ c ∈ os, Byte c) (hp : ∀ c ∈ ps, Byte c) (hx : ∀ c ∈ xs, Byte c) (w : World) (ro : Reads .u8 w q c os) (rp : Reads .u8 w p d ps) (rx : Reads .u8 w u uc xs) :
    Calls Try.prog 7 #[.agg #[.int .i64 h.tos, .int .i64 h.id, .int .i64 h.fl, .int .i64 h.ttl, .int .i64 h.pr, .int .u8 h.s0, .int .u8 h.s1, .int .u8 h.s2, .int .u8 h.s3, .int .u8 h.d0, .int .u8 h.d1, .int .u8 h.d2, .int .u8 h.d3, .slice q m c], .slice p n d, .slice u k uc] w fun e w' => e = .returned (.bool true) ∧ Below w.heap.size w w' := by
  by_cases g1 : 3000 < n
  · exact back_n h q m c os lo p n d ps lp u k uc xs lx ha ho hp hx w ro rp rx g1
  by_cases g2 : 3000 < m
  · exact back_m h q m c os lo p n d ps lp u k uc xs lx ha ho hp hx w ro rp rx ⟨by omega, g2⟩
  by_cases g3 : 3000 < k
  · exact back_k h q m c os lo p n d ps lp u k uc xs lx ha ho hp hx w ro rp rx ⟨by omega, by omega, g3⟩
  by_cases hb : madeB h os ps = true
  · by_cases hE : faultE xs = 0
    · exact back_made_ok h q m c os lo p n d ps lp u k uc xs lx ha ho hp hx w ro rp rx (by omega) (by omega) (by omega) hb hE
    · exact back_made_err h q m c os lo p n d ps lp u k uc xs lx ha ho hp hx w ro rp rx (by omega) (by omega) (by omega) hb hE
  · by_cases hE : faultE xs = 0
    · exact back_not_ok h q m c os lo p n d ps lp u k uc xs lx ha ho hp hx w ro rp rx (by omega) (by omega) (by omega) hb hE
    · exact back_not_err h q m c os lo p n d ps lp u k uc xs lx ha ho hp hx w ro rp rx (by omega) (by omega) (by omega) hb hE
end Go.Proofs.Ytogijgpamdcjkaa.Head
