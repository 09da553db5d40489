/-
  The chapter's own lines, walked.
-/
import Derived.Test.YthgafnommcodcaaWalLg
import Derived.Test.YthgafnommcodcaaFrameAlive
import Derived.Test.YthgafnommcodcaaDiskAlive
namespace Go.Proofs.Ythgafnommcodcaa.Wal
open Go.RowKit Go.Proofs.Ythgafnommcodcaa.Mem Go.Proofs.Ythgafnommcodcaa.Sect Go.Proofs.Ythgafnommcodcaa.Frame Go.Proofs.Ythgafnommcodcaa.Disk Go.Proofs.Ythgafnommcodcaa.Area
set_option maxRecDepth 100000

theorem one_byte {x : Int} (h : Byte x) : ∀ c ∈ ([x] : List Int), Byte c := fun c hc => by
  rw [List.mem_singleton] at hc
  rw [hc]
  exact h
/-- A log just begun. -/
theorem lg_begin {B : Nat} {S0 : Nat → Prop} {w w' : World} {g gl n S st ep nx0 : Nat} (hD : Dk B S0 w g (fresh n)) (hb : Below w.heap.size w w') (hgl : w.heap.size ≤ gl) (hY : Blk w' gl 86 (lgc g ep nx0 st st 0)) (hc : Can n S st 0 0) : Lg B S0 w' g gl n S st ep nx0 (fresh n) 0 0 [] 0 := by
  refine ⟨hD.below hb, ?_, fun q => ?_, ?_, kept_fresh hc.2.1 (by have := hc.two; omega), byt_fresh n, hc⟩
  · rw [seg_first hc.2.2.2.1]
    exact hY
  · have := hD.lt _ q; omega
  · obtain ⟨vs, vp, h1, _, _, h4, _, _, h7⟩ := hD
    have := h7 g h4
    omega
theorem put_stb (d : Dsk) (l : List Sec) (S st i : Nat) (h : i + l.length ≤ d.st.length) : stb (writes d i l).1 S st = stb d S st := by
  funext k u
  unfold stb
  rw [(writes_all l d i h).1]
theorem alive_can : Can 64 2 1 0 0 := ⟨by omega, by omega, rfl, by omega, by omega, by omega⟩
theorem alive_append {B g gl k : Nat} {S0 : Nat → Prop} {w : World} {d : Dsk} {ps : List (List Int)} {safe : Nat} (h : Lg B S0 w g gl 64 2 1 3 7 d 0 k ps safe) (hf : Fine d) (hp : d.pe.length ≤ 100) (hk : k ≤ 9) (hl : ps.length ≤ 9) (q : Option Addr) (c : Nat) (x : Int) (hx : Byte x) (r : Reads .u8 w q c [x]) :
    Calls Try.prog 15 #[.pointer (some ⟨gl, 0, none⟩), .slice q 1 c] w fun e w' => e = .returned (.tuple #[.int .u64 ((7 + ps.length : Nat) : Int), .int .i64 0]) ∧
      ∃ S' d', Lg B S' w' g gl 64 2 1 3 7 d' 0 (k + 1) (ps ++ [[x]]) safe ∧ Fine d' ∧ d'.pe.length ≤ d.pe.length + 1 ∧ stb d' 2 1 = stb d 2 1 ∧ Fr (fun k => S0 k ∨ k = gl) w w' ∧ (∀ k, S' k → S0 k ∨ w.heap.size ≤ k) := by
  have e1 : toJ 0 k (size 1) = 0 := if_pos (by show k + 1 ≤ 16; omega)
  have e2 : toT k (size 1) = k := if_pos (by show k + 1 ≤ 16; omega)
  have hlen := h.len
  have hrt : right (7 + ps.length) [x] = true := right_of (by simp) (by omega)
  have hML : (made (7 + ps.length) 3 [x]).length = 1 := by rw [made_len hrt]; show size 1 = 1; decide
  have hfit : adr 2 1 0 k + (made (7 + ps.length) 3 [x]).length ≤ d.st.length := by
    rw [hML, hlen]
    exact adr_fits (n := 64) (S := 2) (t := k) (z := 1) rfl (by omega) (by omega) (by omega)
  obtain ⟨w1, w2⟩ := fine_writes (made (7 + ps.length) 3 [x]) d (adr 2 1 0 k) hf hfit
  have ha := lg_append h q 1 c [x] rfl (one_byte hx) r (by
    have : free 2 0 k (size 1) = true := by unfold free; rw [show size 1 = 1 from rfl, decide_eq_true (show k + 1 ≤ 16 by omega)]; rfl
    unfold room
    rw [this, decide_eq_true (show 7 + ps.length ≠ 0 by omega)]
    rfl) (by omega) (by omega) (by omega) (by rw [e1, e2]; exact w1)
  rw [e1, e2] at ha
  have hst := put_stb d (made (7 + ps.length) 3 [x]) 2 1 _ hfit
  have hpe := (writes_all (made (7 + ps.length) 3 [x]) d (adr 2 1 0 k) hfit).2.2.1
  rw [hML] at hpe
  generalize made (7 + ps.length) 3 [x] = M at *
  refine ha.mono ?_
  rintro e w' ⟨rfl, S', d', hL, hF, hS, rfl⟩
  exact ⟨rfl, S', _, hL, w2, hpe, hst, hF, hS⟩
/-- What is there behind the crash. -/
theorem alive_found {B g gl : Nat} {S0 : Nat → Prop} {w : World} {d1 d2 : Dsk} {t : Nat} (h : Lg B S0 w g gl 64 2 1 3 7 d1.sync 0 t [[97]] 1) (hf : Fine d1) (hs : stb d2 2 1 = stb d1.sync 2 1) : pscan (vis (d2.crash []) 2 1) 2 3 7 = ([⟨true, 1, 7, 3, [97]⟩], 0) := by
  have hq : d1.sync.pe = [] := by
    unfold Dsk.sync
    rw [if_neg (by simp [fine_no hf])]
    rfl
  rw [vis_crash_none, hs, ← vis_quiet 2 1 hq, pscan_kept h.2.2.2.2.1 (by omega) (by omega) (by simp)]
  rfl
theorem alive_scan {B g : Nat} {S0 : Nat → Prop} {w : World} {d : Dsk} (hD : Dk B S0 w g (d.crash [])) (hok : d.ok) (hby : Byt d) (hn : d.st.length = 64) (hpf : pscan (vis (d.crash []) 2 1) 2 3 7 = ([⟨true, 1, 7, 3, [97]⟩], 0)) :
    Calls Try.prog 10 #[.pointer (some ⟨g, 0, none⟩), .int .u32 3, .int .u64 7, .int .i64 1] w fun e w' => ∃ b o c q d, e = .returned (.tuple #[.slice (some ⟨b, o, none⟩) 1 c, .int .i64 1, .int .i64 0]) ∧ w'.cell? ⟨b, o + 2, none⟩ = some (.slice q 1 d) ∧ Reads .u8 w' q d [97] ∧ Below w.heap.size w w' := by
  have hs := wal_Scan hD (crash_ok hok []) (byt_crash hby []) 3 7 1 (by omega) (by omega) (by rw [crash_len, hn]; decide) (S := 2) (by rw [crash_len, hn]; rfl)
  rw [hpf] at hs
  refine hs.mono ?_
  rintro e w' ⟨v, rs, rfl, hR, hm, hB⟩
  obtain ⟨r, rfl, hg⟩ := List.map_eq_singleton_iff.1 hm
  obtain ⟨p, c, rfl, hk, -⟩ := own_rk rc_len (by decide) hR.1
  obtain ⟨b, o, rfl, _, _, _, k2⟩ := rk_rec (i := 0) hk rfl
  have hr := (hR.2.1 r (by simp)).1
  rw [hg] at k2 hr
  rw [show o + 0 * 3 + 2 = o + 2 by omega] at k2
  exact ⟨b, o, c, r.q, r.d, rfl, k2, hr, hB⟩
set_option maxHeartbeats 1000000 in
theorem alive_any (w : World) : Calls Try.prog 11 #[] w fun e w' => e = .returned (.bool true) ∧ Below w.heap.size w w' := by
  have hnew := new_any 64 w
  rw [show clamp 64 = 64 by decide] at hnew
  have hst : ∀ {B S0 W g}, Dk B S0 W g (fresh 64) → Calls Try.prog 9 #[.pointer (some ⟨g, 0, none⟩), .int .u32 3, .int .u64 7, .int .i64 1] W fun e w' => ∃ gl, e = .returned (.tuple #[.pointer (some ⟨gl, 0, none⟩), .int .i64 0]) ∧ W.heap.size ≤ gl ∧ Blk w' gl 86 (lgc g 3 7 1 1 0) ∧ Below W.heap.size W w' := fun h => wal_Start h 3 7 1 (by rw [show (fresh 64).st.length = 64 by rfl]; decide)
  have hk1 := fun W => conv_const W #[.int .u8 97] 1 1
  have hk2 := fun W => conv_const W #[.int .u8 98] 1 1
  have hb97 := fun W => bnew W (.cells #[.int .u8 97] 5 (1, 2))
  have hb98 := fun W => bnew W (.cells #[.int .u8 98] 5 (1, 2))
  have hr97 : ∀ W : World, Reads .u8 (W.alloc (.cells #[.int .u8 97] 5 (1, 2))) (some ⟨W.heap.size, 0, none⟩) 1 [97] := fun W => const_reads rfl rfl (by decide)
  have hr98 : ∀ W : World, Reads .u8 (W.alloc (.cells #[.int .u8 98] 5 (1, 2))) (some ⟨W.heap.size, 0, none⟩) 1 [98] := fun W => const_reads rfl rfl (by decide)
  have hap1 := fun {B S0 W g gl d} (h : Lg B S0 W g gl 64 2 1 3 7 d 0 0 [] 0) hf hp => alive_append (h.below (hb97 W)) hf hp (by omega) (by decide) (some ⟨W.heap.size, 0, none⟩) 1 97 ⟨by decide, by decide⟩ (hr97 W)
  have hap2 := fun {B S0 W g gl d t s} (h : Lg B S0 W g gl 64 2 1 3 7 d 0 t [[97]] s) hf hp ht => alive_append (h.below (hb98 W)) hf hp ht (by decide) (some ⟨W.heap.size, 0, none⟩) 1 98 ⟨by decide, by decide⟩ (hr98 W)
  have hst97 : str [97] = ⟨#[97]⟩ := rfl
  go_enter Try.func11, Try.ntmps11
  go_wp2_with (first
    | ((with_reducible refine hnew.mono ?_); rintro e w1 ⟨g, S0, rfl, hD0, hB1⟩)
    | ((with_reducible refine (hst hD0).mono ?_); rintro e w2 ⟨gl, rfl, hgl, hY2, hB2⟩; have hL2 := lg_begin hD0 hB2 hgl hY2 alive_can; have hB12 := bnext hB1 hB2)
    | ((with_reducible refine (hap1 hL2 (fine_fresh 64) (by decide)).mono ?_); rintro e w3 ⟨rfl, S3, d3, hL3, hf3, hp3, -, hF3, hS3⟩; replace hL3 : Lg w.heap.size S3 w3 g gl 64 2 1 3 7 d3 0 1 [[97]] 0 := hL3)
    | ((with_reducible refine (lg_sync hL3 (fine_no hf3)).mono ?_); rintro e w4 ⟨rfl, S4, hL4, hF4, hS4⟩; replace hL4 : Lg w.heap.size S4 w4 g gl 64 2 1 3 7 d3.sync 0 1 [[97]] 1 := hL4; have hf4 := fine_sync hf3; have hl4 := (sync_len d3).1)
    | ((with_reducible refine (hap2 hL4 hf4 (by have : (fresh 64).pe.length = 0 := rfl; omega) (by omega)).mono ?_); rintro e w5 ⟨rfl, S5, d5, hL5, hf5, hp5, hs5, hF5, hS5⟩; replace hL5 : Lg w.heap.size S5 w5 g gl 64 2 1 3 7 d5 0 2 [[97], [98]] 1 := hL5; have hpf := alive_found hL4 hf3 hs5; have hcr5 := dk_crash hL5.1 hL5.ok none 0 0 [] rfl (RK.nil _ _) (fun h => absurd h (by omega)))
    | ((with_reducible refine hcr5.mono ?_); rintro e w6 ⟨rfl, S6, hD6, hF6, hS6⟩; have hL6 := hF6.blk hL5.2.1 hL5.2.2.1; have hsc6 := alive_scan hD6 hL5.ok hL5.2.2.2.2.2.1 hL5.len hpf)
    | ((with_reducible refine hsc6.mono ?_); rintro e w7 ⟨b7, o7, c7, q7, k7, rfl, hc7, r7, hB7⟩; have hcv := conv (n := 1) r7 rfl; have hnx := wal_Next (hL6.below hB7))
    | ((with_reducible refine hnx.mono ?_); rintro e w8 ⟨rfl, hw⟩; rw [hw]; clear hw))
  have hB3 := bfr (bnext hB12 (hb97 w2)) hF3 (fun k hk => (hL2.lts k hk).1)
  have hB4 := bfr hB3 hF4 (fun k hk => hL3.1.base k hk)
  have hB5 := bfr (bnext hB4 (hb98 w4)) hF5 (fun k hk => (hL4.lts k hk).1)
  have hB6 := bfr hB5 hF6 (fun k hk => hL5.1.base k hk)
  go_ret
  exact ⟨rfl, bnext hB6 hB7⟩
end Go.Proofs.Ythgafnommcodcaa.Wal
