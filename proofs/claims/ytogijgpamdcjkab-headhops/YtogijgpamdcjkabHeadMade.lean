/-
  Packets: head.Make.
-/
import Derived.Test.YtogijgpamdcjkabHeadFill
namespace Go.Proofs.Ytogijgpamdcjkab.Head
open Go.RowKit Go.Proofs.Ytogijgpamdcjkab.Mem

theorem make_wrong (h : Hd) (q : Option Addr) (m c : Nat) (p : Option Addr) (n d : Nat) (hm : m ≤ 9223372036854775807) (hr : rightB h m = false) (w : World) :
    Calls Try.prog 6 #[.agg #[.int .i64 h.tos, .int .i64 h.id, .int .i64 h.fl, .int .i64 h.ttl, .int .i64 h.pr, .int .u8 h.s0, .int .u8 h.s1, .int .u8 h.s2, .int .u8 h.s3, .int .u8 h.d0, .int .u8 h.d1, .int .u8 h.d2, .int .u8 h.d3, .slice q m c], .slice p n d] w fun e w' => e = .returned (.tuple #[.slice none 0 0, .int .i64 55]) ∧ Below w.heap.size w w' := by
  have hc := fun W => head_right h q m c hm W
  rw [hr] at hc
  go_enter Try.func6, Try.ntmps6
  go_wp2_with (go_at_call 10; refine (hc _).mono ?_; rintro e w1 ⟨rfl, hb1⟩)
  go_ret2
  exact ⟨rfl, bnext (bnew _ _) hb1⟩
theorem make_long (h : Hd) (q : Option Addr) (m c : Nat) (p : Option Addr) (n d : Nat) (hr : rightB h m = true) (hn : n ≤ 100000) (hl : 1500 < 20 + m + n) (w : World) :
    Calls Try.prog 6 #[.agg #[.int .i64 h.tos, .int .i64 h.id, .int .i64 h.fl, .int .i64 h.ttl, .int .i64 h.pr, .int .u8 h.s0, .int .u8 h.s1, .int .u8 h.s2, .int .u8 h.s3, .int .u8 h.d0, .int .u8 h.d1, .int .u8 h.d2, .int .u8 h.d3, .slice q m c], .slice p n d] w fun e w' => e = .returned (.tuple #[.slice none 0 0, .int .i64 55]) ∧ Below w.heap.size w w' := by
  have hm40 := (right_iff.1 hr).2.2.2.2.2.1
  have hc := fun W => head_right h q m c (by omega) W
  rw [hr] at hc
  go_enter Try.func6, Try.ntmps6
  go_wp2_with (go_at_call 10; refine (hc _).mono ?_; rintro e w1 ⟨rfl, hb1⟩)
  go_ret2
  exact ⟨rfl, bnext (bnew _ _) hb1⟩
theorem hdr_set (h : Hd) (m all s t : Int) (X : List Int) : ((hdr h m all s ++ X).set 10 (t / 256)).set (10 + 1) (t % 256) = hdr h m all t ++ X := rfl
theorem splice_end (A ps : List Int) (n k : Nat) (hA : A.length = k) (hp : ps.length = n) : splice (bs (A ++ List.replicate n 0)) k (bs ps) = bs (A ++ ps) := by
  rw [splice_bs A _ ps k hA, hp]
  simp
set_option maxHeartbeats 1000000 in
theorem make_ok (h : Hd) (q : Option Addr) (m c : Nat) (os : List Int) (lo : os.length = m) (p : Option Addr) (n d : Nat) (ps : List Int) (lp : ps.length = n) (N : Nat) (hN : 20 + m + n = N) (hr : rightB h m = true) (ha : Ads h) (ho : ∀ c ∈ os, Byte c) (hl : N ≤ 1500)
    (w : World) (ro : Reads .u8 w q c os) (rp : Reads .u8 w p d ps) :
    Calls Try.prog 6 #[.agg #[.int .i64 h.tos, .int .i64 h.id, .int .i64 h.fl, .int .i64 h.ttl, .int .i64 h.pr, .int .u8 h.s0, .int .u8 h.s1, .int .u8 h.s2, .int .u8 h.s3, .int .u8 h.d0, .int .u8 h.d1, .int .u8 h.d2, .int .u8 h.d3, .slice q m c], .slice p n d] w fun e w' => ∃ g, e = .returned (.tuple #[.slice (some ⟨g, 0, none⟩) N N, .int .i64 0]) ∧ w.heap.size ≤ g ∧ Blk w' g 5 (bs (packet h os ps)) ∧ Below w.heap.size w w' := by
  obtain ⟨i0, hi, hz0, hz1, hz2⟩ := info_parts info_byte
  have hm40 := (right_iff.1 hr).2.2.2.2.2.1
  have hc := fun W => head_right h q m c (by omega) W
  rw [hr] at hc
  obtain ⟨F, hF⟩ : ∃ F : Nat, 20 + m = F := ⟨_, rfl⟩
  have hF1 : 20 + (m : Int) = (F : Int) := by omega
  have hN1 : (F : Int) + (n : Int) = (N : Int) := by omega
  have hall : allOf os ps = (N : Int) := by unfold allOf; omega
  have hH : ∀ s, (header h os N s).length = F := fun s => by rw [header_length]; omega
  have hr' : rightB h os.length = true := by rw [lo]; exact hr
  have hbH : ∀ c ∈ header h os N 0, Byte c := header_bytes hr' ha ho (by omega) (by omega) (by omega) (by omega)
  obtain ⟨s, hs⟩ : ∃ s, s = sumI (header h os N 0) := ⟨_, rfl⟩
  have hs2 : 0 ≤ s ∧ s ≤ 65535 := by rw [hs]; exact sum_range hbH
  have hpk : bs (header h os N s ++ ps) = bs (packet h os ps) := by unfold packet sumOf; rw [hall, hs]
  have HPK : Hid (bs (header h os N s ++ ps) = bs (packet h os ps)) := hpk
  have HS : Hid (s = sumI (header h os N 0)) := hs
  clear hs hpk hall
  go_enter Try.func6, Try.ntmps6
  go_wp2_with (go_at_call 10; refine (hc _).mono ?_)
  rintro e w1 ⟨rfl, hb1⟩
  have hbw : Below w.heap.size w w1 := bnext (bnew _ _) hb1
  have Y1 := (Blk.new w #[.int .i64 h.tos, .int .i64 h.id, .int .i64 h.fl, .int .i64 h.ttl, .int .i64 h.pr, .int .u8 h.s0, .int .u8 h.s1, .int .u8 h.s2, .int .u8 h.s3, .int .u8 h.d0, .int .u8 h.d1, .int .u8 h.d2, .int .u8 h.d3, .slice q m c] 26).below hb1
  have k1 := Y1.cell
  obtain ⟨w2, hmk, B2, G2⟩ := run_make_blk (P := Try.prog) w1 24 5 i0 .u8 Try.underlying24 hi hz0 hz1 hz2 N (by omega)
  obtain ⟨g, hg⟩ : ∃ g, g = w1.heap.size := ⟨_, rfl⟩
  rw [← hg] at hmk B2
  have hb2 : Below w1.heap.size w1 w2 := (Below.refl _ _).grown G2 (Nat.le_refl _) (by simp)
  have hbw2 := bnext hbw hb2
  have Y2 := Y1.below hb2
  have k2 := Y2.cell
  have hsz := hbw.size
  have e2 : List.replicate N (0 : Int) = [0, 0, 0, 0, 0, 0, 0, 0, 0, 0, 0, 0, 0, 0, 0, 0, 0, 0, 0, 0] ++ List.replicate (N - 20) 0 := by
    obtain ⟨K, rfl⟩ : ∃ K, N = K + 20 := ⟨N - 20, by omega⟩
    rw [Nat.add_sub_cancel]
    rfl
  have B2' : Blk w2 g 5 (bs ([0, 0, 0, 0, 0, 0, 0, 0, 0, 0, 0, 0, 0, 0, 0, 0, 0, 0, 0, 0] ++ List.replicate (N - 20) 0)) := by rw [← e2]; exact B2
  have hap : 0 < ps.length → ∀ a, p = some a → a.block ≠ g := (rp.below hbw).apart (by omega)
  have hfl := head_fill h g N q m c os (List.replicate (N - 20) 0) lo (by simp) hr (by omega) hl w2 B2' (ro.below hbw2) ((ro.below hbw).apart (by omega))
  rw [List.drop_replicate, show N - 20 - m = n by omega] at hfl
  have hup := fun w => run_upto w g 0 N N F (by omega)
  have hcf := fun w => run_from w (some ⟨g, 0, none⟩) N N F (by omega)
  have HG : Hid (g = w1.heap.size) := hg
  clear hc hb1 Y1 k1 B2 B2' e2 G2 hb2 hg
  go_wp2_with (go_at_call 11; refine hfl.mono ?_)
  rintro e w3 ⟨rfl, B3, M3⟩
  have hbw3 := hbw2.grown M3 (by have := hbw2.size; omega) (by intro k hk; have := HG.out; simp at hk; omega)
  have Hl : ∀ s, (hdr h m N s ++ (os ++ List.replicate n 0)).length = N := fun s => by simp [hdr]; omega
  have He : ∀ s, hdr h m N s ++ (os ++ List.replicate n 0) = header h os N s ++ List.replicate n 0 := fun s => by unfold header; rw [lo, List.append_assoc]
  have r3 : Reads .u8 w3 (some ⟨g, 0, none⟩) N (header h os N 0) := by
    have := (Blk.reads B3 (by rw [Hl]; omega)).upto F
    rw [Hl, He, List.take_left' (hH 0)] at this
    exact this
  have hsum := head_Sum (some ⟨g, 0, none⟩) F N (header h os N 0) (hH 0) hbH (by omega) w3 r3
  rw [← HS.out] at hsum
  have hput := head_put g N N 10 s _ _ (Hl 0) (by omega) (by omega) hs2.1 hs2.2 (hdr_set h m N 0 s _) w3 B3
  clear hfl k2 hmk
  go_wp2_with (first
    | (go_at_call 9; refine hsum.mono ?_; rintro e w8 ⟨rfl, rfl⟩)
    | (go_at_call 12; refine hput.mono ?_))
  rintro e w4 ⟨rfl, B4, M4⟩
  have hbw4 := hbw3.grown M4 (by have := hbw3.size; omega) (by intro k hk; have := HG.out; simp at hk; omega)
  have rp4 := ((rp.below hbw2).kept M3 hap).kept M4 hap
  rw [He] at B4
  clear hsum hput
  obtain ⟨w5, hcp, B5, M5⟩ := run_copy_blk (P := Try.prog) w4 24 24 3 5 Try.underlying24 info_one (cutP (some ⟨g, 0, none⟩) N F) p (N - F) (N - F) n d g F _ 5 B4 (bs ps)
    (by show _ = min n (N - F); rw [bs_length]; omega)
    (fun hp => ⟨by rw [bs_length] at hp; unfold cutP; rw [if_neg (by omega)]; simp [Addr.add]; omega, reads_pos rp4 hp⟩)
    (by rw [bs_length, bs_length, List.length_append, hH, List.length_replicate]; omega) bs_one
  rw [splice_end _ ps n F (hH s) lp, HPK.out] at B5
  have hbw5 := hbw4.grown M5 (by have := hbw4.size; omega) (by intro k hk; have := HG.out; simp at hk; omega)
  go_wp2
  go_ret2
  exact ⟨g, rfl, by have := HG.out; omega, B5, hbw5⟩
end Go.Proofs.Ytogijgpamdcjkab.Head
