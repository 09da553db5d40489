/-
  A packet's header and payload, whatever the bytes; and one hop: head.Read, Hop.
-/
import Derived.Test.YtogijgpamdcjkaaHeadReadOk
import Derived.Test.YtogijgpamdcjkaaHeadFacts
import Derived.Test.YtogijgpamdcjkaaHeadMade
namespace Go.Proofs.Ytogijgpamdcjkaa.Head
open Go.RowKit Go.Proofs.Ytogijgpamdcjkaa.Mem

theorem four_src {w : World} {b o c : Nat} {xs : List Int} (r : Reads .u8 w (some ⟨b, o, none⟩) c xs) (i : Nat) (hi : i + 4 ≤ xs.length) :
    ∀ j v, (bs [xs.getD i 0, xs.getD (i + 1) 0, xs.getD (i + 2) 0, xs.getD (i + 3) 0])[j]? = some v → w.cell? ((⟨b, o + i, none⟩ : Addr).add j) = some v := by
  obtain ⟨b', o', e, _, hc⟩ := r.2.2.2 (by omega)
  simp only [Option.some.injEq, Addr.mk.injEq, and_true] at e
  obtain ⟨rfl, rfl⟩ := e
  intro j v hj
  rw [Addr.add_lit, Nat.add_assoc]
  match j, hj with
  | 0, hj => rw [hc (i + 0) (by omega), ← hj]; rfl
  | 1, hj => rw [hc (i + 1) (by omega), ← hj]; rfl
  | 2, hj => rw [hc (i + 2) (by omega), ← hj]; rfl
  | 3, hj => rw [hc (i + 3) (by omega), ← hj]; rfl
  | j + 4, hj => simp [bs] at hj
theorem read_ok (p : Option Addr) (n c : Nat) (xs : List Int) (l : xs.length = n) (hx : ∀ c ∈ xs, Byte c) (hE : faultE xs = 0) (m k : Nat) (hm : (opts xs).length = m) (hk : (pay xs).length = k) (w : World) (r : Reads .u8 w p c xs) :
    Calls Try.prog 9 #[.slice p n c] w fun e w' => ∃ oq oc pq pc, e = .returned (.tuple #[.agg #[.int .i64 (hdOf xs).tos, .int .i64 (hdOf xs).id, .int .i64 (hdOf xs).fl, .int .i64 (hdOf xs).ttl, .int .i64 (hdOf xs).pr, .int .u8 (hdOf xs).s0, .int .u8 (hdOf xs).s1, .int .u8 (hdOf xs).s2, .int .u8 (hdOf xs).s3, .int .u8 (hdOf xs).d0, .int .u8 (hdOf xs).d1, .int .u8 (hdOf xs).d2, .int .u8 (hdOf xs).d3, .slice oq m oc], .slice pq k pc, .int .i64 0]) ∧ Reads .u8 w' oq oc (opts xs) ∧ Reads .u8 w' pq pc (pay xs) ∧ Below w.heap.size w w' := by
  obtain ⟨h20, h4, hf, _⟩ := fault_ok.1 hE
  obtain ⟨f1, f2, f3, f4⟩ := fit_iff.1 hf
  obtain ⟨b, o, rfl, hbl, _⟩ := r.2.2.2 (by omega)
  have hlo := opts_length f2
  have hlp := pay_length xs
  have hnc := r.1
  have h := read_core b o n c m (hsz xs) xs (opts xs) (pay xs) (xs.getD 1 0) (xs.getD 8 0) (xs.getD 9 0) (num xs 4) (num xs 6) _ _ _ _ _ _ _ _ (by omega) (by omega) f1 (by omega) (by omega) (by omega) w r hbl (getD_byte hx 1) (getD_byte hx 8) (getD_byte hx 9)
    (fun w' r' => by have := head_fault _ n c xs l hx (by omega) w' r'; rw [hE] at this; exact this)
    (fun w' r' => head_num _ n c xs l hx (by omega) 4 (by omega) w' r')
    (fun w' r' => head_num _ n c xs l hx (by omega) 6 (by omega) w' r')
    (fun w' r' => head_headerSize _ n c xs l hx (by omega) (by omega) w' r')
    (fun w' r' => bytes_Clone _ m (c - 20) (opts xs) hm (by omega) w' (Reads.mid r' 20 (hsz xs) f1 f2))
    (fun w' r' => bytes_Clone _ (n - hsz xs) (c - hsz xs) (pay xs) (by omega) (by omega) w' (r'.cut (hsz xs) f2))
    (fun w' r' => by
      obtain ⟨b', o', e, _, hc⟩ := r'.2.2.2 (by omega)
      simp only [Option.some.injEq, Addr.mk.injEq, and_true] at e
      obtain ⟨rfl, rfl⟩ := e
      exact ⟨hc 1 (by omega), hc 8 (by omega), hc 9 (by omega)⟩)
    (fun w' r' => ⟨four_src r' 12 (by omega), four_src r' 16 (by omega)⟩)
  rw [show n - hsz xs = k by omega] at h
  exact h
/-- A header with another TTL. -/
def withTTL (h : Hd) (t : Int) : Hd := { h with ttl := t }
def hopped (xs : List Int) : List Int := packet (withTTL (hdOf xs) ((hdOf xs).ttl - 1)) (opts xs) (pay xs)
theorem right_ttl {h : Hd} {m : Nat} (hr : rightB h m = true) {t : Int} (h0 : 0 ≤ t) (h1 : t ≤ 255) : rightB (withTTL h t) m = true := by
  obtain ⟨a, _, c⟩ := right_iff.1 hr
  exact right_iff.2 ⟨a, ⟨h0, h1⟩, c⟩
theorem hop_err (p : Option Addr) (n c : Nat) (xs : List Int) (l : xs.length = n) (hx : ∀ c ∈ xs, Byte c) (hn : n ≤ 9223372036854775807) (E : Int) (hE : faultE xs = E) (h0 : E ≠ 0) (w : World) (r : Reads .u8 w p c xs) :
    Calls Try.prog 16 #[.slice p n c] w fun e w' => e = .returned (.tuple #[.slice none 0 0, .int .i64 E]) ∧ Below w.heap.size w w' := by
  have hr := read_err p n c xs l hx hn E hE h0 w r
  have d0 : (E == 0) = false := by simp [h0]
  clear hE h0
  go_enter Try.func16, Try.ntmps16
  go_wp2_with (go_at_call 9; refine hr.mono ?_; rintro e w1 ⟨rfl, hb1⟩)
  go_ret2
  exact ⟨rfl, bal hb1 _⟩
theorem hop_zero (p : Option Addr) (n c : Nat) (xs : List Int) (l : xs.length = n) (hx : ∀ c ∈ xs, Byte c) (hE : faultE xs = 0) (ht : (hdOf xs).ttl = 0) (w : World) (r : Reads .u8 w p c xs) :
    Calls Try.prog 16 #[.slice p n c] w fun e w' => e = .returned (.tuple #[.slice none 0 0, .int .i64 55]) ∧ Below w.heap.size w w' := by
  have hr := read_ok p n c xs l hx hE _ _ rfl rfl w r
  generalize hdOf xs = h at hr ht
  generalize (opts xs).length = m at hr
  generalize (pay xs).length = k at hr
  have d0 : (h.ttl == 0) = true := by simp [ht]
  clear ht
  go_enter Try.func16, Try.ntmps16
  go_wp2_with (go_at_call 9; refine hr.mono ?_; rintro e w1 ⟨oq, oc, pq, pc, rfl, -, -, hb1⟩)
  go_ret2
  exact ⟨rfl, bal hb1 _⟩
set_option maxHeartbeats 1000000 in
theorem hop_ok (p : Option Addr) (n c : Nat) (xs : List Int) (l : xs.length = n) (hx : ∀ c ∈ xs, Byte c) (hE : faultE xs = 0) (ht : (hdOf xs).ttl ≠ 0) (w : World) (r : Reads .u8 w p c xs) :
    Calls Try.prog 16 #[.slice p n c] w fun e w' => ∃ g, e = .returned (.tuple #[.slice (some ⟨g, 0, none⟩) n n, .int .i64 0]) ∧ w.heap.size ≤ g ∧ Blk w' g 5 (bs (hopped xs)) ∧ Below w.heap.size w w' := by
  obtain ⟨hr, ha, ho, hp, hl, hn⟩ := read_right hx hE
  obtain ⟨_, ⟨t0, t1⟩, _⟩ := right_iff.1 hr
  have hrd := read_ok p n c xs l hx hE _ _ rfl rfl w r
  obtain ⟨m, hm⟩ : ∃ m, (opts xs).length = m := ⟨_, rfl⟩
  obtain ⟨k, hk⟩ : ∃ k, (pay xs).length = k := ⟨_, rfl⟩
  have hmk := fun W q qc u uc ro rp => make_ok (withTTL (hdOf xs) ((hdOf xs).ttl - 1)) q m qc (opts xs) hm u k uc (pay xs) hk n (by omega) (by rw [← hm]; exact right_ttl hr (by omega) (by omega)) ha ho (by omega) W ro rp
  have HH : Hid (packet (withTTL (hdOf xs) ((hdOf xs).ttl - 1)) (opts xs) (pay xs) = hopped xs) := rfl
  rw [HH.out] at hmk
  rw [hm, hk] at hrd
  simp only [withTTL] at hmk
  generalize hdOf xs = h at hrd ht hmk t0 t1
  have d0 : (h.ttl == 0) = false := by simp [ht]
  clear ht
  go_enter Try.func16, Try.ntmps16
  go_wp2_with (first
    | (go_at_call 9; refine hrd.mono ?_; rintro e w1 ⟨oq, oc, pq, pc, rfl, r1, r2, hb1⟩)
    | (go_at_call 10; refine (hmk _ oq oc pq pc ?c1 ?c2).mono ?_))
  case c1 => exact r1.alloc _
  case c2 => exact r2.alloc _
  rintro e w3 ⟨g, rfl, hg, B3, hb3⟩
  have hs1 := hb1.size
  simp only [World.size_alloc] at hg
  go_wp2
  go_ret2
  exact ⟨g, rfl, by omega, B3, bnext (bal hb1 _) hb3⟩
end Go.Proofs.Ytogijgpamdcjkaa.Head
