/-
  What the document answers, whatever is asked: Make, Read, Hop.
-/
import Derived.Test.YtogijgpamdcjkaaHeadBoth
import Derived.Test.YtogijgpamdcjkaaHeadRefHop
namespace Go.Proofs.Ytogijgpamdcjkaa.Head
open Go.RowKit Go.Proofs.Ytogijgpamdcjkaa.Mem

theorem ref_make_any (h : Hd) (q : Option Addr) (m c : Nat) (os : List Int) (lo : os.length = m) (p : Option Addr) (n d : Nat) (ps : List Int) (lp : ps.length = n) (hn : n ≤ 100000) (ha : Ads h) (ho : ∀ c ∈ os, Byte c) (w : World) (ro : Reads .u8 w q c os) (rp : Reads .u8 w p d ps) :
    Calls Try.prog 14 #[.agg #[.int .i64 h.tos, .int .i64 h.id, .int .i64 h.fl, .int .i64 h.ttl, .int .i64 h.pr, .int .u8 h.s0, .int .u8 h.s1, .int .u8 h.s2, .int .u8 h.s3, .int .u8 h.d0, .int .u8 h.d1, .int .u8 h.d2, .int .u8 h.d3, .slice q m c], .slice p n d] w (MakeAns w (made h os ps) (madeE h os ps)) := by
  have hm : m ≤ 9223372036854775807 := by have h1 := ro.1; have h2 := ro.2.1; unfold maxLen at h2; omega
  by_cases hb : madeB h os ps = true
  · obtain ⟨hr, hl⟩ := madeB_iff.1 hb
    have hpl := packet_length h os ps
    unfold made madeE
    rw [if_pos hb, if_pos hb]
    refine (ref_make_ok h q m c os lo p n d ps lp _ rfl (by rw [← lo]; exact hr) ha ho (by omega) w ro rp).mono ?_
    rintro e w' ⟨g, cp, rfl, hR, hbw⟩
    rw [show 20 + m + n = (packet h os ps).length by omega]
    exact ⟨_, _, rfl, hR, hbw⟩
  · unfold made madeE
    rw [if_neg hb, if_neg hb]
    cases hr : rightB h m with
    | false => exact (ref_make_wrong h q m c p n d hm hr w).mono fun e w' ⟨he, hbw⟩ => ⟨_, _, he, Reads.nil _ _, hbw⟩
    | true =>
      refine (ref_make_long h q m c p n d hr hn ?_ w).mono fun e w' ⟨he, hbw⟩ => ⟨_, _, he, Reads.nil _ _, hbw⟩
      have : ¬ (20 + os.length + ps.length ≤ 1500) := fun h' => hb (madeB_iff.2 ⟨by rw [lo]; exact hr, h'⟩)
      omega
theorem ref_read_any (p : Option Addr) (n c : Nat) (xs : List Int) (l : xs.length = n) (hx : ∀ c ∈ xs, Byte c) (w : World) (r : Reads .u8 w p c xs) :
    Calls Try.prog 15 #[.slice p n c] w (ReadAns w (rdH xs) (rdO xs) (rdP xs) (faultE xs)) := by
  have hn : n ≤ 9223372036854775807 := by have h1 := r.1; have h2 := r.2.1; unfold maxLen at h2; omega
  by_cases hE : faultE xs = 0
  · unfold rdH rdO rdP
    rw [if_pos hE, if_pos hE, if_pos hE, hE]
    exact rread_ok p n c xs l hx hE _ _ rfl rfl w r
  · unfold rdH rdO rdP
    rw [if_neg hE, if_neg hE, if_neg hE]
    exact (rread_err p n c xs l hx hn _ rfl hE w r).mono fun e w' ⟨he, hbw⟩ => ⟨_, _, _, _, he, Reads.nil _ _, Reads.nil _ _, hbw⟩
theorem ref_hop_any (p : Option Addr) (n c : Nat) (xs : List Int) (l : xs.length = n) (hx : ∀ c ∈ xs, Byte c) (w : World) (r : Reads .u8 w p c xs) :
    Calls Try.prog 17 #[.slice p n c] w (MakeAns w (hopX xs) (hopE xs)) := by
  have hn : n ≤ 9223372036854775807 := by have h1 := r.1; have h2 := r.2.1; unfold maxLen at h2; omega
  by_cases hE : faultE xs = 0
  · unfold hopX hopE
    rw [if_pos hE, if_pos hE]
    by_cases ht : (hdOf xs).ttl = 0
    · rw [if_pos ht, if_pos ht]
      exact (rhop_zero p n c xs l hx hE ht w r).mono fun e w' ⟨he, hbw⟩ => ⟨_, _, he, Reads.nil _ _, hbw⟩
    · rw [if_neg ht, if_neg ht]
      refine (rhop_ok p n c xs l hx hE ht w r).mono ?_
      rintro e w' ⟨g, d, rfl, hR, hbw⟩
      have hlh := hopped_length hx hE
      rw [show n = (hopped xs).length by omega]
      exact ⟨_, _, rfl, hR, hbw⟩
  · unfold hopX hopE
    rw [if_neg hE, if_neg hE]
    exact (rhop_err p n c xs l hx hn _ rfl hE w r).mono fun e w' ⟨he, hbw⟩ => ⟨_, _, he, Reads.nil _ _, hbw⟩
end Go.Proofs.Ytogijgpamdcjkaa.Head
