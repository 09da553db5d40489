/-
  A packet makes as many hops as its TTL says, and no more: every input gives true.
-/
import Derived.Test.YtogijgpamdcjkabHeadBoth
namespace Go.Proofs.Ytogijgpamdcjkab.Head
open Go.RowKit Go.Proofs.Ytogijgpamdcjkab.Mem

/-- The packet behind some hops. -/
theorem hop_packet {h : Hd} {os ps : List Int} (hr : rightB h os.length = true) (ha : Ads h) (ho : ∀ c ∈ os, Byte c) (hl : 20 + os.length + ps.length ≤ 1500) (ht : h.ttl ≠ 0) :
    hopE (packet h os ps) = 0 ∧ hopX (packet h os ps) = packet (withTTL h (h.ttl - 1)) os ps := by
  obtain ⟨pe, ph, po, pp, _⟩ := packet_read (ps := ps) hr ha ho hl
  unfold hopE hopX hopped
  rw [if_pos pe, if_pos pe, ph, if_neg ht, if_neg ht, po, pp]
  exact ⟨rfl, rfl⟩
theorem hop_last {h : Hd} {os ps : List Int} (hr : rightB h os.length = true) (ha : Ads h) (ho : ∀ c ∈ os, Byte c) (hl : 20 + os.length + ps.length ≤ 1500) (ht : h.ttl = 0) :
    hopE (packet h os ps) = 55 ∧ hopX (packet h os ps) = [] := by
  obtain ⟨pe, ph, po, pp, _⟩ := packet_read (ps := ps) hr ha ho hl
  unfold hopE hopX
  rw [if_pos pe, if_pos pe, ph, if_pos ht, if_pos ht]
  exact ⟨rfl, rfl⟩
theorem ttl_ttl (h : Hd) (s t : Int) : withTTL (withTTL h s) t = withTTL h t := rfl
set_option maxHeartbeats 2000000 in
set_option maxRecDepth 100000 in
theorem hops_any (h : Hd) (q : Option Addr) (m c : Nat) (os : List Int) (lo : os.length = m) (p : Option Addr) (n d : Nat) (ps : List Int) (lp : ps.length = n) (ha : Ads h) (ho : ∀ c ∈ os, Byte c) (hp : ∀ c ∈ ps, Byte c) (w : World) (ro : Reads .u8 w q c os) (rp : Reads .u8 w p d ps) :
    Calls Try.prog 3 #[.agg #[.int .i64 h.tos, .int .i64 h.id, .int .i64 h.fl, .int .i64 h.ttl, .int .i64 h.pr, .int .u8 h.s0, .int .u8 h.s1, .int .u8 h.s2, .int .u8 h.s3, .int .u8 h.d0, .int .u8 h.d1, .int .u8 h.d2, .int .u8 h.d3, .slice q m c], .slice p n d] w fun e w' => e = .returned (.bool true) ∧ Below w.heap.size w w' := by
  have hal := alive_any (w.alloc (.cells #[.int .i64 h.tos, .int .i64 h.id, .int .i64 h.fl, .int .i64 h.ttl, .int .i64 h.pr, .int .u8 h.s0, .int .u8 h.s1, .int .u8 h.s2, .int .u8 h.s3, .int .u8 h.d0, .int .u8 h.d1, .int .u8 h.d2, .int .u8 h.d3, .slice q m c] 26))
  have hm : m ≤ 9223372036854775807 := by have h1 := ro.1; have h2 := ro.2.1; unfold maxLen at h2; omega
  have hn : n ≤ 9223372036854775807 := by have h1 := rp.1; have h2 := rp.2.1; unfold maxLen at h2; omega
  have hz := fun w1 (hb : Below (w.alloc (.cells #[.int .i64 h.tos, .int .i64 h.id, .int .i64 h.fl, .int .i64 h.ttl, .int .i64 h.pr, .int .u8 h.s0, .int .u8 h.s1, .int .u8 h.s2, .int .u8 h.s3, .int .u8 h.d0, .int .u8 h.d1, .int .u8 h.d2, .int .u8 h.d3, .slice q m c] 26)).heap.size (w.alloc (.cells #[.int .i64 h.tos, .int .i64 h.id, .int .i64 h.fl, .int .i64 h.ttl, .int .i64 h.pr, .int .u8 h.s0, .int .u8 h.s1, .int .u8 h.s2, .int .u8 h.s3, .int .u8 h.d0, .int .u8 h.d1, .int .u8 h.d2, .int .u8 h.d3, .slice q m c] 26)) w1) => (Blk.new w #[.int .i64 h.tos, .int .i64 h.id, .int .i64 h.fl, .int .i64 h.ttl, .int .i64 h.pr, .int .u8 h.s0, .int .u8 h.s1, .int .u8 h.s2, .int .u8 h.s3, .int .u8 h.d0, .int .u8 h.d1, .int .u8 h.d2, .int .u8 h.d3, .slice q m c] 26).below hb
  by_cases g1 : 100 < n
  · go_enter Try.func3, Try.ntmps3
    go_wp2_with (go_at_call 5; refine hal.mono ?_; rintro e w1 ⟨rfl, hb1⟩)
    go_ret
    exact ⟨rfl, bnext (bnew _ _) hb1⟩
  by_cases g2 : 40 < h.ttl
  · go_enter Try.func3, Try.ntmps3
    go_wp2_with (go_at_call 5; refine hal.mono ?_; rintro e w1 ⟨rfl, hb1⟩; have kz := (hz _ hb1).cell)
    go_ret
    exact ⟨rfl, bnext (bnew _ _) hb1⟩
  have hA := fun W ro rp => make_any h q m c os lo p n d ps lp (by omega) ha ho W ro rp
  by_cases hb : madeB h os ps = true
  · obtain ⟨hr, hl⟩ := madeB_iff.1 hb
    obtain ⟨_, ⟨t0, t1⟩, _⟩ := right_iff.1 hr
    unfold made madeE at hA
    rw [if_pos hb, if_pos hb] at hA
    unfold MakeAns at hA
    obtain ⟨N, hN⟩ : ∃ N, 20 + os.length + ps.length = N := ⟨_, rfl⟩
    have hpl : ∀ g, (packet g os ps).length = N := fun g => by rw [packet_length]; exact hN
    have hpk : ∀ t, 0 ≤ t → t ≤ 255 → (∀ c ∈ packet (withTTL h t) os ps, Byte c) := fun t a b => packet_bytes (right_ttl hr a b) ha ho hp hl
    have hE1 : ∀ t, 0 < t → t ≤ 255 → hopE (packet (withTTL h t) os ps) = 0 ∧ hopX (packet (withTTL h t) os ps) = packet (withTTL h (t - 1)) os ps := fun t a b => hop_packet (h := withTTL h t) (right_ttl hr (by omega) b) ha ho hl (by show t ≠ 0; omega)
    have hE0 := hop_last (h := withTTL h 0) (ps := ps) (right_ttl hr (by omega) (by omega)) ha ho hl rfl
    have hR0 := packet_read (h := withTTL h 0) (ps := ps) (right_ttl hr (by omega) (by omega)) ha ho hl
    have hH : ∀ t, 0 < t → t ≤ 255 → ∀ u uc W, Reads .u8 W u uc (packet (withTTL h t) os ps) → Calls Try.prog 7 #[.slice u N uc] W fun e w' => ∃ q d, e = .returned (.tuple #[.slice q N d, .int .i64 0]) ∧ Reads .u8 w' q d (packet (withTTL h (t - 1)) os ps) ∧ Below W.heap.size W w' := fun t a b u uc W r => by
      have := hop_any u N uc (packet (withTTL h t) os ps) (hpl _) (hpk t (by omega) b) W r
      rw [(hE1 t a b).1, (hE1 t a b).2] at this
      unfold MakeAns at this
      rw [hpl] at this
      exact this
    have hL := fun u uc W r => hop_any u N uc (packet (withTTL h 0) os ps) (hpl _) (hpk 0 (by omega) (by omega)) W r
    rw [hE0.1, hE0.2] at hL
    unfold MakeAns at hL
    have hQ := fun u uc W r => read_any u N uc (packet (withTTL h 0) os ps) (hpl _) (hpk 0 (by omega) (by omega)) W r
    unfold ReadAns rdH rdO rdP at hQ
    rw [if_pos hR0.1, if_pos hR0.1, if_pos hR0.1, hR0.1, hR0.2.1, hR0.2.2.1, hR0.2.2.2.1, lo, lp] at hQ
    have tp : ((str ps).toList == (str ps).toList) = true := by rw [str_eq hp hp]; simp
    rw [hpl, show packet h os ps = packet (withTTL h h.ttl) os ps from rfl] at hA
    simp only [List.length_nil] at hL
    obtain ⟨T, hT⟩ : ∃ T : Nat, h.ttl = T := ⟨h.ttl.toNat, by omega⟩
    have HT : Hid (h.ttl = T) := hT
    have hT40 : T ≤ 40 := by omega
    obtain ⟨pk, hpkq⟩ : ∃ pk : Int → List Int, ∀ t, packet (withTTL h t) os ps = pk t := ⟨_, fun _ => rfl⟩
    simp only [hpkq] at hA hH hL hQ
    have e0 : (withTTL h 0).ttl = 0 := rfl
    generalize withTTL h 0 = h0 at hQ e0
    have d0 : (h0.ttl == 0) = true := by simp [e0]
    clear hpl hpk hE1 hE0 hR0 hpkq hb hr hl hN t0 hT e0
    go_enter Try.func3, Try.ntmps3
    go_wp2_with (first
      | (go_at_call 5; refine hal.mono ?_; rintro e w1 ⟨rfl, hb1⟩; have kz := (hz _ hb1).cell)
      | (go_at_call 6; refine (hA _ ((ro.alloc _).below hb1) ((rp.alloc _).below hb1)).mono ?_))
    rintro e w2 ⟨q2, d2, rfl, r2, hb2⟩
    rw [HT.out] at r2
    have Y2 := (hz _ hb1).below hb2
    have hw2 := bnext (bnext (bnew _ _) hb1) hb2
    clear kz hal hA hz
    go_wp2
    go_loopw [5, 7] (fun x t wr => ∃ (j : Nat) (u : Option Addr) (uc : Nat), j ≤ T ∧ t = .int .i64 j ∧ x = .slice u N uc ∧ Reads .u8 wr u uc (pk ((T : Int) - j)) ∧ Below w2.heap.size w2 wr) (fun _ t _ => T - (intOf t).toNat)
    case atStart => exact ⟨0, q2, d2, by omega, rfl, rfl, by simpa using r2, Below.refl _ _⟩
    case round =>
      obtain ⟨j, u, uc, hj, rfl, rfl, rj, hbj⟩ := hrel
      have kj := (Y2.below hbj).cell
      rw [HT.out] at kj
      by_cases hlt : j < T
      · have hh := hH ((T : Int) - j) (by omega) (by have := HT.out; omega) u uc _ rj
        rw [show (T : Int) - j - 1 = (T : Int) - ((j + 1 : Nat) : Int) by omega] at hh
        go_wp2_with (go_at_call 7; refine hh.mono ?_)
        rintro e w4 ⟨u4, d4, rfl, r4, hb4⟩
        go_wp2
        go_roundw
        case rel => exact ⟨j + 1, u4, d4, by omega, by go_num, rfl, r4, bnext hbj hb4⟩
        case measure => simp [intOf]; omega
      · obtain rfl : j = T := by omega
        rw [Int.sub_self] at rj
        have hq := hQ u uc _ rj
        go_wp2_with (go_at_call 8; refine hq.mono ?_)
        rintro e w4 ⟨oq, oc, pq, pc, rfl, ro4, rp4, hb4⟩
        have hb4' := bal hb4 (.cells #[.int .i64 h0.tos, .int .i64 h0.id, .int .i64 h0.fl, .int .i64 h0.ttl, .int .i64 h0.pr, .int .u8 h0.s0, .int .u8 h0.s1, .int .u8 h0.s2, .int .u8 h0.s3, .int .u8 h0.d0, .int .u8 h0.d1, .int .u8 h0.d2, .int .u8 h0.d3, .slice oq m oc] 26)
        have hll := hL u uc _ (rj.below hb4')
        have Y4 := Blk.new w4 #[.int .i64 h0.tos, .int .i64 h0.id, .int .i64 h0.fl, .int .i64 h0.ttl, .int .i64 h0.pr, .int .u8 h0.s0, .int .u8 h0.s1, .int .u8 h0.s2, .int .u8 h0.s3, .int .u8 h0.d0, .int .u8 h0.d1, .int .u8 h0.d2, .int .u8 h0.d3, .slice oq m oc] 26
        clear kj
        go_wp2_with (go_at_call 7; refine hll.mono ?_)
        rintro e w5 ⟨q5, d5, rfl, -, hb5⟩
        have k5 := (Y4.below hb5).cell
        have c1 := conv ((rp4.alloc _).below hb5) lp
        have hw5 := bnext (bnext (bnext hw2 hbj) hb4') hb5
        have c2 := conv (rp.below hw5) lp
        go_wp2
        go_ret
        exact ⟨rfl, hw5⟩
  · unfold made madeE at hA
    rw [if_neg hb, if_neg hb] at hA
    unfold MakeAns at hA
    clear hb
    go_enter Try.func3, Try.ntmps3
    go_wp2_with (first
      | (go_at_call 5; refine hal.mono ?_; rintro e w1 ⟨rfl, hb1⟩; have kz := (hz _ hb1).cell)
      | (go_at_call 6; refine (hA _ ((ro.alloc _).below hb1) ((rp.alloc _).below hb1)).mono ?_))
    rintro e w2 ⟨q2, d2, rfl, -, hb2⟩
    go_wp2
    go_ret
    exact ⟨rfl, bnext (bnext (bnew _ _) hb1) hb2⟩
end Go.Proofs.Ytogijgpamdcjkab.Head
