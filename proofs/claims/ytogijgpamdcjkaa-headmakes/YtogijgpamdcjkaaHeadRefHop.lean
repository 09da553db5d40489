/-
  The document's answers, as they are typed out: Read of a packet, Hop.
-/
import Derived.Test.YtogijgpamdcjkaaHeadRefReadOk
import Derived.Test.YtogijgpamdcjkaaHeadRefMake
import Derived.Test.YtogijgpamdcjkaaHeadAlive
import Derived.Test.YtogijgpamdcjkaaHeadSame
namespace Go.Proofs.Ytogijgpamdcjkaa.Head
open Go.RowKit Go.Proofs.Ytogijgpamdcjkaa.Mem

theorem rread_ok (p : Option Addr) (n c : Nat) (xs : List Int) (l : xs.length = n) (hx : ∀ c ∈ xs, Byte c) (hE : faultE xs = 0) (m k : Nat) (hm : (opts xs).length = m) (hk : (pay xs).length = k) (w : World) (r : Reads .u8 w p c xs) :
    Calls Try.prog 15 #[.slice p n c] w fun e w' => ∃ oq oc pq pc, e = .returned (.tuple #[.agg #[.int .i64 (hdOf xs).tos, .int .i64 (hdOf xs).id, .int .i64 (hdOf xs).fl, .int .i64 (hdOf xs).ttl, .int .i64 (hdOf xs).pr, .int .u8 (hdOf xs).s0, .int .u8 (hdOf xs).s1, .int .u8 (hdOf xs).s2, .int .u8 (hdOf xs).s3, .int .u8 (hdOf xs).d0, .int .u8 (hdOf xs).d1, .int .u8 (hdOf xs).d2, .int .u8 (hdOf xs).d3, .slice oq m oc], .slice pq k pc, .int .i64 0]) ∧ Reads .u8 w' oq oc (opts xs) ∧ Reads .u8 w' pq pc (pay xs) ∧ Below w.heap.size w w' := by
  obtain ⟨h20, h4, hf, hs⟩ := fault_ok.1 hE
  obtain ⟨f1, f2, f3, f4⟩ := fit_iff.1 hf
  obtain ⟨b, o, rfl, hbl, _⟩ := r.2.2.2 (by omega)
  have hlo := opts_length f2
  have hlp := pay_length xs
  have hnc := r.1
  have hb := fun i => getD_byte hx i
  have hc : ∀ W, Reads .u8 W (some ⟨b, o, none⟩) c xs → ∀ i, i < n → W.cell? ⟨b, o + i, none⟩ = some (.int .u8 (xs.getD i 0)) := fun W r' i hi => by
    obtain ⟨b', o', e, _, hc⟩ := r'.2.2.2 (by omega)
    simp only [Option.some.injEq, Addr.mk.injEq, and_true] at e
    obtain ⟨rfl, rfl⟩ := e
    exact hc i (by omega)
  have h := rread_core b o n c m (hsz xs) xs (opts xs) (pay xs) (xs.getD 0 0) (xs.getD 1 0) (xs.getD 2 0) (xs.getD 3 0) (xs.getD 4 0) (xs.getD 5 0) (xs.getD 6 0) (xs.getD 7 0) (xs.getD 8 0) (xs.getD 9 0) (xs.getD 12 0) (xs.getD 13 0) (xs.getD 14 0) (xs.getD 15 0) (xs.getD 16 0) (xs.getD 17 0) (xs.getD 18 0) (xs.getD 19 0) (by omega) (by omega) f1 (by omega) (by omega) (by omega) w r hbl
    (hb 0) (hb 1) (hb 2) (hb 3) (hb 4) (hb 5) (hb 6) (hb 7) (hb 8) (hb 9) (hb 12) (hb 13) (hb 14) (hb 15) (hb 16) (hb 17) (hb 18) (hb 19)
    (by rw [h4]; rfl) (by have := hsz_cast hx; omega) (by rw [← l]; exact f3) (fun W r' => hc W r' 0 (by omega))
    (fun W r' => ⟨hc W r' 1 (by omega), hc W r' 2 (by omega), hc W r' 3 (by omega), hc W r' 4 (by omega), hc W r' 5 (by omega), hc W r' 6 (by omega), hc W r' 7 (by omega), hc W r' 8 (by omega), hc W r' 9 (by omega), hc W r' 12 (by omega), hc W r' 13 (by omega), hc W r' 14 (by omega), hc W r' 15 (by omega), hc W r' 16 (by omega), hc W r' 17 (by omega), hc W r' 18 (by omega), hc W r' 19 (by omega)⟩)
    (fun W r' => by
      have hsl := hsz_le hx
      have := ref_Sum (some ⟨b, o, none⟩) (hsz xs) c (xs.take (hsz xs)) (by simp; omega) (fun c hc => hx c (List.mem_of_mem_take hc)) (by omega) W (r'.upto (hsz xs))
      rw [hs] at this
      exact this)
    hm (by omega) (fun W r' => Reads.mid r' 20 (hsz xs) f1 f2) (fun W r' => r'.cut (hsz xs) f2)
  rw [show n - hsz xs = k by omega] at h
  exact h
theorem rhop_err (p : Option Addr) (n c : Nat) (xs : List Int) (l : xs.length = n) (hx : ∀ c ∈ xs, Byte c) (hn : n ≤ 9223372036854775807) (E : Int) (hE : faultE xs = E) (h0 : E ≠ 0) (w : World) (r : Reads .u8 w p c xs) :
    Calls Try.prog 17 #[.slice p n c] w fun e w' => e = .returned (.tuple #[.slice none 0 0, .int .i64 E]) ∧ Below w.heap.size w w' := by
  have hr := rread_err p n c xs l hx hn E hE h0 w r
  have d0 : (E == 0) = false := by simp [h0]
  clear hE h0
  go_enter Try.func17, Try.ntmps17
  go_wp2_with (go_at_call 15; refine hr.mono ?_; rintro e w1 ⟨rfl, hb1⟩)
  go_ret2
  exact ⟨rfl, bal hb1 _⟩
theorem rhop_zero (p : Option Addr) (n c : Nat) (xs : List Int) (l : xs.length = n) (hx : ∀ c ∈ xs, Byte c) (hE : faultE xs = 0) (ht : (hdOf xs).ttl = 0) (w : World) (r : Reads .u8 w p c xs) :
    Calls Try.prog 17 #[.slice p n c] w fun e w' => e = .returned (.tuple #[.slice none 0 0, .int .i64 55]) ∧ Below w.heap.size w w' := by
  have hr := rread_ok p n c xs l hx hE _ _ rfl rfl w r
  generalize hdOf xs = h at hr ht
  generalize (opts xs).length = m at hr
  generalize (pay xs).length = k at hr
  have d0 : (h.ttl == 0) = true := by simp [ht]
  clear ht
  go_enter Try.func17, Try.ntmps17
  go_wp2_with (go_at_call 15; refine hr.mono ?_; rintro e w1 ⟨oq, oc, pq, pc, rfl, -, -, hb1⟩)
  go_ret2
  exact ⟨rfl, bal hb1 _⟩
set_option maxHeartbeats 1000000 in
theorem rhop_ok (p : Option Addr) (n c : Nat) (xs : List Int) (l : xs.length = n) (hx : ∀ c ∈ xs, Byte c) (hE : faultE xs = 0) (ht : (hdOf xs).ttl ≠ 0) (w : World) (r : Reads .u8 w p c xs) :
    Calls Try.prog 17 #[.slice p n c] w fun e w' => ∃ g d, e = .returned (.tuple #[.slice (some ⟨g, 0, none⟩) n d, .int .i64 0]) ∧ Reads .u8 w' (some ⟨g, 0, none⟩) d (hopped xs) ∧ Below w.heap.size w w' := by
  obtain ⟨hr, ha, ho, hp, hl, hn⟩ := read_right hx hE
  obtain ⟨_, ⟨t0, t1⟩, _⟩ := right_iff.1 hr
  have hrd := rread_ok p n c xs l hx hE _ _ rfl rfl w r
  obtain ⟨m, hm⟩ : ∃ m, (opts xs).length = m := ⟨_, rfl⟩
  obtain ⟨k, hk⟩ : ∃ k, (pay xs).length = k := ⟨_, rfl⟩
  have hmk := fun W q qc u uc ro rp => ref_make_ok (withTTL (hdOf xs) ((hdOf xs).ttl - 1)) q m qc (opts xs) hm u k uc (pay xs) hk n (by omega) (by rw [← hm]; exact right_ttl hr (by omega) (by omega)) ha ho (by omega) W ro rp
  have HH : Hid (packet (withTTL (hdOf xs) ((hdOf xs).ttl - 1)) (opts xs) (pay xs) = hopped xs) := rfl
  rw [HH.out] at hmk
  rw [hm, hk] at hrd
  simp only [withTTL] at hmk
  generalize hdOf xs = h at hrd ht hmk t0 t1
  have d0 : (h.ttl == 0) = false := by simp [ht]
  clear ht
  go_enter Try.func17, Try.ntmps17
  go_wp2_with (first
    | (go_at_call 15; refine hrd.mono ?_; rintro e w1 ⟨oq, oc, pq, pc, rfl, r1, r2, hb1⟩)
    | (go_at_call 14; refine (hmk _ oq oc pq pc ?c1 ?c2).mono ?_))
  case c1 => exact r1.alloc _
  case c2 => exact r2.alloc _
  rintro e w3 ⟨g, d, rfl, R3, hb3⟩
  go_wp2
  go_ret2
  exact ⟨g, d, rfl, R3, bnext (bal hb1 _) hb3⟩
end Go.Proofs.Ytogijgpamdcjkaa.Head
