/-
  What is synced is found, at every input.
-/
import Derived.Test.YthgafnommcodcaaWalRoom
import Derived.Test.YthgafnommcodcaaWalOpen
/-
  What is synced is found: what the acts make of a log and its disk, and what there is behind a crash.
-/
namespace Go.Proofs.Ythgafnommcodcaa.Wal
open Go.RowKit Go.Proofs.Ythgafnommcodcaa.Mem Go.Proofs.Ythgafnommcodcaa.Sect Go.Proofs.Ythgafnommcodcaa.Frame Go.Proofs.Ythgafnommcodcaa.Disk Go.Proofs.Ythgafnommcodcaa.Area
set_option maxRecDepth 100000

/-- The disk at the end: what is safe lies there. -/
def Fin (B : Nat) (S0 : Nat → Prop) (w : World) (g n S st ep nx0 : Nat) (d : Dsk) (ps : List (List Int)) (safe : Nat) : Prop :=
  Dk B S0 w g d ∧ d.ok ∧ Byt d ∧ d.st.length = n ∧ ∃ e, Safe S st ep nx0 d ps safe e
section
variable {B g gl n S st ep nx0 j t safe : Nat} {S0 : Nat → Prop} {w w' : World} {d : Dsk} {ps : List (List Int)}
theorem Lg.fin (h : Lg B S0 w g gl n S st ep nx0 d j t ps safe) : Fin B S0 w g n S st ep nx0 d ps safe := by
  obtain ⟨e, he, _⟩ := h.2.2.2.2.1.2.2.2.2.2.2
  exact ⟨h.1, h.ok, h.2.2.2.2.2.1, h.len, e, he⟩
theorem Fin.below (h : Fin B S0 w g n S st ep nx0 d ps safe) (hb : Below w.heap.size w w') : Fin B S0 w' g n S st ep nx0 d ps safe := ⟨h.1.below hb, h.2⟩
theorem keep_append (h : Lg B S0 w g gl n S st ep nx0 d j t ps safe) (q : Option Addr) (m c : Nat) (p : List Int) (hm : p.length = m) (hpb : ∀ c ∈ p, Byte c) (r : Reads .u8 w q c p) (hr : room S j t (nx0 + ps.length) (size m) = true) (hn : nx0 + ps.length + 1 < 18446744073709551616) (hep : ep < 4294967296) (hpe : d.pe.length ≤ 900)
    (hE : (writes d (adr S st (toJ j t (size m)) (toT t (size m))) (made (nx0 + ps.length) ep p)).2 = 0) :
    Calls Try.prog 15 #[.pointer (some ⟨gl, 0, none⟩), .slice q m c] w fun e w' => e = .returned (.tuple #[.int .u64 ((nx0 + ps.length : Nat) : Int), .int .i64 0]) ∧
      ∃ S' d', Lg B S' w' g gl n S st ep nx0 d' (toJ j t (size m)) (toT t (size m) + size m) (ps ++ [p]) safe ∧ d'.dn = d.dn ∧ d'.pe.length ≤ d.pe.length + size m ∧ Fr (fun k => S0 k ∨ k = gl) w w' ∧ (∀ k, S' k → S0 k ∨ w.heap.size ≤ k) := by
  obtain ⟨r1, r2, r3⟩ := room_parts hr
  have hm7 := size_pos r1
  have hrt := right_of (p := p) (by omega) r2
  have hML := made_len (e := ep) hrt
  rw [hm] at hML
  have hall := writes_all (made (nx0 + ps.length) ep p) d (adr S st (toJ j t (size m)) (toT t (size m))) (by rw [hML, h.len]; exact adr_fits h.2.2.2.2.2.2.2.2.1 (by have := h.2.2.2.2.2.2.two; omega) (to_fits (t := t) (size_le m)) r1)
  rw [hML] at hall
  refine (lg_append h q m c p hm hpb r hr hn hep hpe hE).mono ?_
  rintro e w' ⟨rfl, S', d', hL, hF, hS, rfl⟩
  refine ⟨rfl, S', _, hL, ?_, hall.2.2.1, hF, hS⟩
  rcases hall.2.2.2 with ⟨_, h2⟩ | ⟨h2, _⟩
  · exact h2
  · rw [hE] at h2; omega
theorem keep_down (h : Lg B S0 w g gl n S st ep nx0 d j t ps safe) (q : Option Addr) (m c : Nat) (p : List Int) (hm : p.length = m) (hpb : ∀ c ∈ p, Byte c) (r : Reads .u8 w q c p) (hr : room S j t (nx0 + ps.length) (size m) = true) (hn : nx0 + ps.length + 1 < 18446744073709551616) (hep : ep < 4294967296) (hpe : d.pe.length ≤ 900)
    (hE : (writes d (adr S st (toJ j t (size m)) (toT t (size m))) (made (nx0 + ps.length) ep p)).2 ≠ 0) :
    Calls Try.prog 15 #[.pointer (some ⟨gl, 0, none⟩), .slice q m c] w fun e w' => e = .returned (.tuple #[.int .u64 0, .int .i64 72]) ∧
      ∃ S' d', Fin B S' w' g n S st ep nx0 d' ps safe ∧ d'.dn = true ∧ Fr (fun k => S0 k ∨ k = gl) w w' ∧ (∀ k, S' k → S0 k ∨ w.heap.size ≤ k) := by
  refine (lg_append_down h q m c p hm hpb r hr hn hep hpe hE).mono ?_
  rintro e w' ⟨rfl, S', d', k1, k2, k3, k4, k5, k6, k7, k8⟩
  exact ⟨rfl, S', d', ⟨k1, k2, k3, k4, k6⟩, k5, k7, k8⟩
theorem keep_sync (h : Lg B S0 w g gl n S st ep nx0 d j t ps safe) (hno : d.no = false) :
    Calls Try.prog 17 #[.pointer (some ⟨gl, 0, none⟩)] w fun e w' => e = .returned (.int .i64 0) ∧ ∃ S' d', Lg B S' w' g gl n S st ep nx0 d' j t ps ps.length ∧ d'.dn = d.dn ∧ d'.pe.length ≤ d.pe.length ∧ Fr S0 w w' ∧ (∀ k, S' k → S0 k ∨ w.heap.size ≤ k) := by
  have hk := (kept_sync h.2.2.2.2.1 h.2.2.2.2.2.2.2.2.1 hno).2
  refine (lg_sync h hno).mono ?_
  rintro e w' ⟨rfl, S', hL, hF, hS⟩
  exact ⟨rfl, S', _, hL, hk, (sync_len d).1, hF, hS⟩
theorem keep_sync_down (h : Lg B S0 w g gl n S st ep nx0 d j t ps safe) (hno : d.no = true) :
    Calls Try.prog 17 #[.pointer (some ⟨gl, 0, none⟩)] w fun e w' => e = .returned (.int .i64 72) ∧ ∃ S' d', Fin B S' w' g n S st ep nx0 d' ps safe ∧ d'.dn = true ∧ Fr S0 w w' ∧ (∀ k, S' k → S0 k ∨ w.heap.size ≤ k) := by
  have hs := wal_Sync h.1 h.2.1 h.ok
  rw [show d.err = 72 by unfold Dsk.err; rw [if_pos hno]] at hs
  have e1 : d.sync = d.acted := by unfold Dsk.sync; rw [if_pos hno]
  obtain ⟨e, he, _⟩ := h.2.2.2.2.1.2.2.2.2.2.2
  refine hs.mono ?_
  rw [e1]
  rintro e' w' ⟨rfl, S', hD, hF, hS⟩
  refine ⟨rfl, S', _, ⟨hD, acted_ok h.ok, byt_acted h.2.2.2.2.2.1, by rw [acted_st]; exact h.len, e, safe_acted he⟩, ?_, hF, hS⟩
  unfold Dsk.acted
  rw [if_pos hno]
theorem keep_break (h : Lg B S0 w g gl n S st ep nx0 d j t ps safe) {x : Int} (hx : Inty x) :
    Calls Try.prog 21 #[.pointer (some ⟨g, 0, none⟩), .int .i64 x] w fun e w' => e = .returned (.tuple #[]) ∧ ∃ S' d', Lg B S' w' g gl n S st ep nx0 d' j t ps safe ∧ d'.dn = d.dn ∧ d'.pe.length = d.pe.length ∧ Fr S0 w w' ∧ (∀ k, S' k → S0 k ∨ w.heap.size ≤ k) := by
  refine (break_any h.1 x).mono ?_
  rintro e w' ⟨rfl, S', hD, hF, hS⟩
  exact ⟨rfl, S', _, h.went hD hF hS (kept_break h.2.2.2.2.1 hx) (byt_breaks h.2.2.2.2.2.1 x), rfl, rfl, hF, hS⟩
/-- The end: a crash, and a scan. -/
theorem fin_crash (h : Fin B S0 w g n S st ep nx0 d ps safe) (q : Option Addr) (m c : Nat) (ks : List Bool) (hm : ks.length = m) (hr : RK bc w q c ks) (ho : Off S0 q m) :
    Calls Try.prog 23 #[.pointer (some ⟨g, 0, none⟩), .slice q m c] w fun e w' => e = .returned (.tuple #[]) ∧ ∃ S', Dk B S' w' g (d.crash ks) ∧ Fr S0 w w' ∧ (∀ k, S' k → S0 k ∨ w.heap.size ≤ k) := dk_crash h.1 h.2.1 q m c ks hm hr ho
theorem fin_scan (h : Fin B S0 w g n S st ep nx0 d ps safe) {S1 : Nat → Prop} {w1 : World} {ks : List Bool} (hD : Dk B S1 w1 g (d.crash ks)) (hc : Can n S st 0 0) (hep : ep < 4294967296) (h0 : 0 < nx0) (hn : nx0 + safe < 18446744073709551616) (hl : safe ≤ 16 * S) :
    Calls Try.prog 10 #[.pointer (some ⟨g, 0, none⟩), .int .u32 (ep : Int), .int .u64 (nx0 : Int), .int .i64 (st : Int)] w1 fun e w' => ∃ p m c rs r z, e = .returned (.tuple #[.slice p m c, .int .i64 z, .int .i64 0]) ∧ rs.length = m ∧ m ≤ 9223372036854775807 ∧ safe ≤ m ∧ Rows w' w1.heap.size (.slice p m c) rs ∧ Hid (rs.map (·.g) = tells ep nx0 (ps.take safe) ++ r) ∧ Below w1.heap.size w1 w' := by
  obtain ⟨-, hok, hby, hlen, e, he⟩ := h
  have hlc : (d.crash ks).st.length = n := (crash_len d ks).trans hlen
  have hs := wal_Scan hD (crash_ok hok ks) (byt_crash hby ks) ep nx0 st hep (by omega) (by rw [hlc]; exact chk_zero hc.begin (by omega)) (S := S) (by rw [hlc]; exact hc.2.2.1)
  obtain ⟨r, b, hp⟩ := pscan_crash he ks hep (by have := hc.two; omega) h0 hn hl
  rw [hp] at hs
  refine hs.mono ?_
  rintro e' w' ⟨v, rs, rfl, hR, hm, hB⟩
  obtain ⟨p, c, rfl, hk, -⟩ := own_rk rc_len (by decide) hR.1
  refine ⟨p, rs.length, c, rs, r, _, rfl, rfl, by have := hk.1; have := hk.2.1; unfold maxLen at this; omega, ?_, hR, hm, hB⟩
  have := congrArg List.length hm
  rw [List.length_map, List.length_append, tells_len, List.length_take] at this
  have := he.1
  omega
end
theorem safe_key {ep nx0 safe : Nat} {ps : List (List Int)} {rs zs : List Rv} {r : List Got} (h1 : rs.map (·.g) = tells ep nx0 (ps.take safe) ++ r) (h2 : zs.map (·.g) = tells ep nx0 ps) (hs : safe ≤ ps.length) {i : Nat} (hi : i < safe) {x z : Rv} (hx : rs[i]? = some x) (hz : zs[i]? = some z) : key x = key z := by
  have e1 : (tells ep nx0 (ps.take safe))[i]? = some x.g := by
    have : (rs.map (·.g))[i]? = some x.g := by rw [List.getElem?_map, hx]; rfl
    rw [h1, List.getElem?_append_left (by rw [tells_len, List.length_take]; omega)] at this
    exact this
  have e2 : (tells ep nx0 ps)[i]? = some z.g := by rw [← h2, List.getElem?_map, hz]; rfl
  have e3 : ∀ (l : List (List Int)) (nx k i : Nat), i < k → (tells ep nx (l.take k))[i]? = (tells ep nx l)[i]? := by
    intro l
    induction l with
    | nil => intro nx k i _; simp
    | cons a l ih =>
      intro nx k i hik
      obtain ⟨k, rfl⟩ : ∃ m, k = m + 1 := ⟨k - 1, by omega⟩
      cases i with
      | zero => rfl
      | succ i =>
        show (tells ep (nx + 1) (l.take k))[i]? = (tells ep (nx + 1) l)[i]?
        exact ih (nx + 1) k i (by omega)
  rw [e3 ps nx0 safe i hi, e2] at e1
  have := Option.some.inj e1
  unfold key
  rw [this]
end Go.Proofs.Ythgafnommcodcaa.Wal
/-
  What is synced is found. (Written by gen_wkeeps.py.)
-/
namespace Go.Proofs.Ythgafnommcodcaa.Wal
open Go.RowKit Go.Proofs.Ythgafnommcodcaa.Mem Go.Proofs.Ythgafnommcodcaa.Sect Go.Proofs.Ythgafnommcodcaa.Frame Go.Proofs.Ythgafnommcodcaa.Disk Go.Proofs.Ythgafnommcodcaa.Area
set_option maxRecDepth 100000

set_option maxHeartbeats 4000000 in
theorem keeps_main (N n c : Nat) (q : Option Addr) (xs : List Ac) (q2 : Option Addr) (n2 c2 : Nat) (ks : List Bool) (hN1 : 64 ≤ N) (hN2 : N ≤ 140) (hl : xs.length = n) (hn : n ≤ 60) (w : World) (r : RK ac w q c xs) (oa : ∀ a ∈ xs, AcOk w a ∧ Byte a.2.2.1) (l2 : ks.length = n2) (r2 : RK bc w q2 c2 ks) :
    Calls Try.prog 5 #[.int .i64 (N : Int), .slice q n c, .slice q2 n2 c2] w fun e w' => e = .returned (.bool true) ∧ Below w.heap.size w w' := by
  have hal := alive_any w
  have hnew := fun w => new_any (N : Int) w
  rw [clamp_nat (by omega)] at hnew
  obtain ⟨S, hS⟩ : ∃ S, S = segsN N := ⟨_, rfl⟩
  have hSb : 2 ≤ S ∧ S ≤ 6 := by unfold segsN at hS; omega
  have hcan : Can N S 0 0 0 := ⟨by omega, by omega, hS, by omega, by omega, by omega⟩
  have hst : ∀ {B S0 W g}, Dk B S0 W g (fresh N) → Calls Try.prog 9 #[.pointer (some ⟨g, 0, none⟩), .int .u32 9, .int .u64 100, .int .i64 0] W fun e w' => ∃ gl, e = .returned (.tuple #[.pointer (some ⟨gl, 0, none⟩), .int .i64 0]) ∧ W.heap.size ≤ gl ∧ Blk w' gl 86 (lgc g 9 100 0 0 0) ∧ Below W.heap.size W w' := fun h => wal_Start h 9 100 0 (by rw [fresh_len]; exact chk_zero hcan.begin (by omega))
  have hb1 : decide ((N : Int) < 64) = false := decide_eq_false (by omega)
  have hb2 : decide (140 < (N : Int)) = false := decide_eq_false (by omega)
  have hb3 : decide (60 < (n : Int)) = false := decide_eq_false (by omega)
  have scan9 : ∀ {g : Nat} {W : World} {P : Ending → World → Prop}, Calls Try.prog 10 #[.pointer (some ⟨g, 0, none⟩), .int .u32 ((9 : Nat) : Int), .int .u64 ((100 : Nat) : Int), .int .i64 ((0 : Nat) : Int)] W P → Calls Try.prog 10 #[.pointer (some ⟨g, 0, none⟩), .int .u32 9, .int .u64 100, .int .i64 0] W P := fun h => h
  have hDn := fun {B S1 W g d1 b} (h : Dk B S1 W g d1) (hb : d1.dn = b) => (by have := down_any h; rw [hb] at this; exact this : Calls Try.prog 32 #[.pointer (some ⟨g, 0, none⟩)] W fun e w' => e = .returned (.bool b) ∧ w' = W)
  have hoff : ∀ {S1 : Nat → Prop}, (∀ k, S1 k → w.heap.size ≤ k) → Off S1 q2 n2 := fun h h0 a ha hk => by
    obtain ⟨b, o, e, hlt, _⟩ := r2.2.2.2 (by omega)
    rw [ha] at e
    obtain rfl := Option.some.inj e
    exact absurd (h _ hk) (Nat.not_le.2 hlt)
  go_enter Try.func5, Try.ntmps5
  go_wp2_with (first
    | ((with_reducible refine hal.mono ?_); rintro e w1 ⟨rfl, hB1⟩)
    | ((with_reducible refine (hnew _).mono ?_); rintro e w2 ⟨g, S0, rfl, hD0, hB2⟩; replace hD0 := hD0.lower hB1.size)
    | ((with_reducible refine (hst hD0).mono ?_); rintro e w3 ⟨gl, rfl, hgl, hY3, hB3⟩; have hL3 := lg_begin hD0 hB3 hgl hY3 hcan; have hB123 := bnext (bnext hB1 hB2) hB3))
  have hM3 := made_nil w3 (fun k => S0 k ∨ k = gl) (fun k hk => (hL3.lts k hk).2)
  have hL4 := hL3.below (bnew w3 (.cells #[] 75))
  have hB4 := bnext hB123 (bnew w3 (.cells #[] 75))
  have hM4 := hM3.lower hB123.size
  clear hal hst hnew hgl hY3 hD0 hM3 hL3 hS
  go_loopw [10, 11, 46] (fun v10 v11 i wr => ∃ (k : Nat) (d : Dsk) (S' : Nat → Prop) (j t : Nat) (ps : List (List Int)) (rs : List Rv) (p8 : Option Addr) (c8 safe : Nat), k ≤ n ∧ v10 = .slice p8 rs.length c8 ∧ v11 = .int .i64 safe ∧ i = .int .i64 k ∧ Lg w.heap.size S' wr g gl N S 0 9 100 d j t ps safe ∧ d.dn = false ∧ Made wr w.heap.size (fun k => S' k ∨ k = gl) (.slice p8 rs.length c8) rs ∧ Hid (rs.map (·.g) = tells 9 100 ps) ∧ Hid (d.pe.length ≤ 16 * j + t) ∧ Below w.heap.size w wr) (fun _ _ i _ => n - (intOf i).toNat)
  case atStart => exact ⟨0, fresh N, S0, 0, 0, [], [], some ⟨w3.heap.size, 0, none⟩, 0, 0, by omega, rfl, rfl, rfl, hL4, rfl, hM4, rfl, by unfold Hid; simp [fresh], hB4⟩
  case round =>
    obtain ⟨k, d, S', j, t, ps, rs, p8, c8, safe, hk, rfl, rfl, rfl, hL, hdn, hM, hg, hpe, hB⟩ := hrel
    obtain ⟨hcnt, hps⟩ := kept_count hL.2.2.2.2.1
    have hjS := hL.2.2.2.2.1.2.2.1
    have hjt := hL.2.2.2.2.1.2.2.2.1
    have hpe2 := hpe.out
    have hrl : Hid (rs.length = ps.length) := by
      have := congrArg List.length hg.out
      rw [List.length_map, tells_len] at this
      exact this
    have hrl96 : rs.length ≤ 96 := by have := hrl.out; omega
    have hrs : safe ≤ rs.length := by have := hrl.out; omega
    have hsl : safe ≤ 16 * S := by omega
    by_cases hlt : k < n
    · have hlt2 : decide ((k : Int) < (n : Int)) = true := decide_eq_true (by omega)
      have hlt3 : (k : Int) < (n : Int) := by omega
      obtain ⟨⟨ki, ni, by8, aq, an, ac9⟩, hxk⟩ : ∃ x, xs[k]? = some x := ⟨_, List.getElem?_eq_getElem (by omega)⟩
      obtain ⟨b, o, rfl, hbl, hcc⟩ := (r.below hB).at ac_len hxk
      have cl0 := hcc 0 _ rfl
      have cl1 := hcc 1 _ rfl
      have cl2 := hcc 2 _ rfl
      have cl3 := hcc 3 _ rfl
      simp only [Nat.add_zero] at cl0 cl1 cl2 cl3
      have hni : Inty ni := (oa _ (List.mem_of_getElem? hxk)).1.2.1
      have hmt : ∀ k, (S' k ∨ k = gl) → k < wr.heap.size := fun k hk => (hL.lts k hk).2
      clear hcc hxk
      by_cases k0 : ki = 0
      · subst k0
        obtain ⟨m, hm⟩ : ∃ m, payN ni = m := ⟨_, rfl⟩
        have hpy := fun W => payload_nat ni by8 W hm
        have hpl : (pay ni by8).length = m := (pay_len _ _).trans hm
        have hbx := bnew wr (.cells #[.int .i64 0, .int .i64 ni, .int .u8 by8, .slice aq an ac9] 47)
        have hLb := hL.below hbx
        have hMb := hM.below hbx
        have hBb := bnext hB hbx
        have hz12 := size_le m
        cases hr : room S j t (100 + ps.length) (size m) with
        | false =>
          obtain ⟨E, hE⟩ : ∃ E : Int, (if size m = 0 then (81 : Int) else 101) = E := ⟨_, rfl⟩
          have hE0 : (E == 0) = false := by rw [← hE]; split <;> rfl
          have hap := fun {W : World} (hW : Below (wr.alloc (.cells #[.int .i64 0, .int .i64 ni, .int .u8 by8, .slice aq an ac9] 47)).heap.size (wr.alloc (.cells #[.int .i64 0, .int .i64 ni, .int .u8 by8, .slice aq an ac9] 47)) W) (g6 : Nat) => lg_append_no (hLb.below hW) (some ⟨g6, 0, none⟩) m m hr
          rw [hE] at hap
          clear hr hE
          go_wp2_with (first
            | ((with_reducible refine (hpy _).mono ?_); rintro e w6 ⟨g6, rfl, r6, hg6, hB6⟩; have hLb6 := hL.below (bnext hbx hB6))
            | ((with_reducible refine (hap hB6 g6).mono ?_); rintro e w7 ⟨rfl, hB7⟩; have hB67 := bnext hB6 hB7; have hL7 := hLb.below hB67; have hM7 := hMb.below hB67; have hdw := hDn hL7.1 hdn)
            | ((with_reducible refine hdw.mono ?_); rintro e w10 ⟨rfl, hw⟩; rw [hw]; clear hw))
          exact ⟨⟨k + 1, d, S', j, t, ps, rs, p8, c8, safe, by omega, rfl, rfl, by go_num, hL7, hdn, hM7, hg, hpe, bnext hBb hB67⟩, by simp [intOf]; omega⟩
        | true =>
          obtain ⟨NX, hNX⟩ : ∃ NX, 100 + ps.length = NX := ⟨_, rfl⟩
          have htell := tells_snoc 9 100 ps (pay ni by8)
          rw [hpl, hNX] at htell
          have hm7 := size_pos (room_parts hr).1
          have hjts := toJT (j := j) (z := size m) hjt
          by_cases hE : (writes d (adr S 0 (toJ j t (size m)) (toT t (size m))) (made (100 + ps.length) 9 (pay ni by8))).2 = 0
          · have hap := fun {W : World} (hW : Below (wr.alloc (.cells #[.int .i64 0, .int .i64 ni, .int .u8 by8, .slice aq an ac9] 47)).heap.size (wr.alloc (.cells #[.int .i64 0, .int .i64 ni, .int .u8 by8, .slice aq an ac9] 47)) W) (g6 : Nat) (r6 : Reads .u8 W (some ⟨g6, 0, none⟩) m (pay ni by8)) => keep_append (hLb.below hW) (some ⟨g6, 0, none⟩) m m (pay ni by8) hpl (pay_bytes _ _) r6 hr (by omega) (by omega) (by omega) hE
            rw [hNX] at hap
            generalize toJ j t (size m) = j' at *
            generalize toT t (size m) = t' at *
            generalize size m = z at *
            clear hE hr
            go_wp2_with (first
              | ((with_reducible refine (hpy _).mono ?_); rintro e w6 ⟨g6, rfl, r6, hg6, hB6⟩; have hLb6 := hL.below (bnext hbx hB6))
              | ((with_reducible refine (hap hB6 g6 r6).mono ?_); rintro e w7 ⟨rfl, S7, d7, hL7, hdn7, hp7, hF7, hS7⟩; replace hdn7 := hdn7.trans hdn; have hg6a : wr.heap.size ≤ g6 := Nat.le_trans hbx.size hg6.1; have hM7 := (hMb.below hB6).step (T' := fun k => S7 k ∨ k = gl) hF7 (step_set hS7); have r7 := reads_fr r6 (off_fresh (b := wr.heap.size) (fun a ha => by obtain rfl := (Option.some.inj ha); exact hg6a) hmt) hF7; have hk7 := apart_set (g6 := g6) hS7 hmt (fun k hk => (hM.1.lt k hk).2) hg6a hg6.2; have hs7 := hF7.size; have hB7 := bfr (bnext hBb hB6) hF7 (fun k hk => (hL.lts k hk).1))
              | (at_builtin; refine at_push rfl _ _ rfl p8 c8 rs.length rs hM7 rfl (by omega) rfl ⟨⟨true, z, NX, 9, pay ni by8⟩, some ⟨g6, 0, none⟩, m⟩ NX 9 m rfl rfl hpl rfl rfl (by have := hBb.size; have := hB6.size; omega) r7 (pay_bytes _ _) (fun a ha => by obtain rfl := (Option.some.inj ha); exact ⟨by have := hB.size; simp only; omega, hk7⟩) (by simp only [hpl]; exact hm7) (fun k hk => (hL7.lts k hk).2) ?_; intro p9 c9 w9 hM9 hF9 hB9; have hL9 := hL7.fr hF9 (fun k hk q => hM7.2.2 k hk q); have hdw := hDn hL9.1 hdn7)
              | ((with_reducible refine hdw.mono ?_); rintro e w10 ⟨rfl, hw⟩; rw [hw]; clear hw))
            have e9 : (rs ++ [(⟨⟨true, z, NX, 9, pay ni by8⟩, some ⟨g6, 0, none⟩, m⟩ : Rv)]).length = rs.length + 1 := by simp
            refine ⟨⟨k + 1, d7, S7, j', t' + z, ps ++ [pay ni by8], rs ++ [⟨⟨true, z, NX, 9, pay ni by8⟩, some ⟨g6, 0, none⟩, m⟩], p9, c9, safe, by omega, by rw [e9], rfl, by go_num, hL9, hdn7, by rw [e9]; exact hM9, ?_, by unfold Hid; omega, hB7.trans hB9⟩, by simp [intOf]; omega⟩
            unfold Hid
            rw [List.map_append, hg.out, htell]
            rfl
          · have hap := fun {W : World} (hW : Below (wr.alloc (.cells #[.int .i64 0, .int .i64 ni, .int .u8 by8, .slice aq an ac9] 47)).heap.size (wr.alloc (.cells #[.int .i64 0, .int .i64 ni, .int .u8 by8, .slice aq an ac9] 47)) W) (g6 : Nat) (r6 : Reads .u8 W (some ⟨g6, 0, none⟩) m (pay ni by8)) => keep_down (hLb.below hW) (some ⟨g6, 0, none⟩) m m (pay ni by8) hpl (pay_bytes _ _) r6 hr (by omega) (by omega) (by omega) hE
            clear hE hr htell hjts
            go_wp2_with (first
              | ((with_reducible refine (hpy _).mono ?_); rintro e w6 ⟨g6, rfl, r6, hg6, hB6⟩; have hLb6 := hL.below (bnext hbx hB6))
              | ((with_reducible refine (hap hB6 g6 r6).mono ?_); rintro e w7 ⟨rfl, S7, d7, hFin, hdn7, hF7, hS7⟩; have hMr := (hMb.below hB6).step (T' := fun k => S7 k ∨ k = gl) hF7 (step_set hS7); have hBr := bfr (bnext hBb hB6) hF7 (fun k hk => (hL.lts k hk).1); have hdw := hDn hFin.1 hdn7; have hcr := fin_crash hFin q2 n2 c2 ks l2 (r2.below hBr) (hoff fun k hk => hFin.1.base k hk))
              | ((with_reducible refine hdw.mono ?_); rintro e w10 ⟨rfl, hw⟩; rw [hw]; clear hw)
              | ((with_reducible refine hcr.mono ?_); rintro e w20 ⟨rfl, S20, hD20, hF20, hS20⟩; have hM20 := hMr.fr (Fr.mono hF20 fun _ hk => .inl hk); have hBr20 := bfr hBr hF20 (fun k hk => hFin.1.base k hk); have hscn := fin_scan hFin hD20 hcan (by omega) (by omega) (by omega) hsl; replace hscn := scan9 hscn)
              | ((with_reducible refine hscn.mono ?_); rintro e w21 ⟨p21, m21, c21, rs21, r21, z21, rfl, hm21, hl21, hs21, hR21, hg21, hB21⟩; have hls : decide ((m21 : Int) < (safe : Int)) = false := decide_eq_false (by omega); have hlsn : decide (m21 < safe) = false := decide_eq_false (by omega)))
            have hM21 := hM20.below hB21
            have hBr21 := bnext hBr20 hB21
            have hk21 : RK rc w21 p21 c21 rs21 := (made_rows (T := fun _ => False) hR21 (fun _ h => h.elim)).rk
            clear hcr hscn
            go_loopw [108] (fun i wx => ∃ y : Nat, y ≤ m21 ∧ i = .int .i64 y ∧ Below w21.heap.size w21 wx) (fun i _ => m21 - (intOf i).toNat)
            case atStart => exact ⟨0, by omega, rfl, Below.refl _ _⟩
            case round =>
              obtain ⟨y, hy, rfl, hBx⟩ := hrel
              by_cases hlt : y < m21
              · have hlt2 : decide ((y : Int) < (m21 : Int)) = true := decide_eq_true (by omega)
                have hlt3 : (y : Int) < (m21 : Int) := by omega
                by_cases hym : rs.length ≤ y
                · have hge : decide ((rs.length : Int) ≤ (y : Int)) = true := decide_eq_true (by omega)
                  have hsn : safe ≤ y := by omega
                  have hsy : decide ((safe : Int) ≤ (y : Int)) = true := decide_eq_true (by omega)
                  go_wp2
                  go_quiet (fail)
                  go_wp2
                  go_ret
                  exact ⟨rfl, bnext hBr21 (bnext hBx (bdrewN _ _))⟩
                · have hge : decide ((rs.length : Int) ≤ (y : Int)) = false := decide_eq_false (by omega)
                  have hlt4 : (y : Int) < (rs.length : Int) := by omega
                  obtain ⟨x, hx⟩ : ∃ x, rs21[y]? = some x := ⟨_, List.getElem?_eq_getElem (by omega)⟩
                  obtain ⟨z, hz⟩ : ∃ z, rs[y]? = some z := ⟨_, List.getElem?_eq_getElem (by omega)⟩
                  have hSm := fun {W : World} (hW : Below w21.heap.size w21 W) => same_rec hR21.2.1 hM21.2.1 (List.mem_of_getElem? hx) (List.mem_of_getElem? hz) hW
                  have hBd := hBx.drew
                  have hcells := fun {W : World} (hW : Below w21.heap.size w21 W) => (⟨rk_rec (hk21.below hW) hx, rk_rec (hM21.rk.below hW) hz⟩ : _ ∧ _)
                  obtain ⟨⟨b, o, rfl, hb1, k0, k1, k2⟩, ⟨b2, o2, rfl, hb2, j0, j1, j2⟩⟩ := hcells hBd
                  obtain ⟨D, hD⟩ : ∃ D, decide (key x = key z) = D := ⟨_, rfl⟩
                  have hkey : D = false → safe ≤ y := fun hf => by
                    rcases Nat.lt_or_ge y safe with h | h
                    · exact absurd (safe_key hg21.out hg.out hps h hx hz) (of_decide_eq_false (hD.trans hf))
                    · exact h
                  rw [hD] at hSm
                  clear hcells hm21 hx hz hD
                  go_wp2
                  go_region_held (fun W => W.cell? ⟨b, o + y * 3, none⟩ = some (.int .u64 (x.g.s : Int)) ∧ W.cell? ⟨b, o + y * 3 + 1, none⟩ = some (.int .u32 (x.g.e : Int)) ∧ W.cell? ⟨b, o + y * 3 + 2, none⟩ = some (.slice x.q x.g.p.length x.d) ∧ W.cell? ⟨b2, o2 + y * 3, none⟩ = some (.int .u64 (z.g.s : Int)) ∧ W.cell? ⟨b2, o2 + y * 3 + 1, none⟩ = some (.int .u32 (z.g.e : Int)) ∧ W.cell? ⟨b2, o2 + y * 3 + 2, none⟩ = some (.slice z.q z.g.p.length z.d))
                    (first | exact ⟨k0, k1, k2, j0, j1, j2⟩ | exact hS6 | assumption)
                    (((with_reducible refine (hSm hBd).mono ?_); rintro e w6 ⟨rfl, hB6⟩; have hS6 : w6.cell? ⟨b, o + y * 3, none⟩ = some (.int .u64 (x.g.s : Int)) ∧ w6.cell? ⟨b, o + y * 3 + 1, none⟩ = some (.int .u32 (x.g.e : Int)) ∧ w6.cell? ⟨b, o + y * 3 + 2, none⟩ = some (.slice x.q x.g.p.length x.d) ∧ w6.cell? ⟨b2, o2 + y * 3, none⟩ = some (.int .u64 (z.g.s : Int)) ∧ w6.cell? ⟨b2, o2 + y * 3 + 1, none⟩ = some (.int .u32 (z.g.e : Int)) ∧ w6.cell? ⟨b2, o2 + y * 3 + 2, none⟩ = some (.slice z.q z.g.p.length z.d) := ⟨(hB6.cell hb1).trans k0, (hB6.cell hb1).trans k1, (hB6.cell hb1).trans k2, (hB6.cell hb2).trans j0, (hB6.cell hb2).trans j1, (hB6.cell hb2).trans j2⟩))
                  have hBB := bnext hBd hB6
                  clear k0 k1 k2 j0 j1 j2 hS6
                  cases D with
                  | true =>
                    go_wp2
                    go_roundw
                    case rel => exact ⟨y + 1, by omega, by go_num, hBB⟩
                    case measure => simp [intOf]; omega
                  | false =>
                    have hsn : safe ≤ y := hkey rfl
                    have hsy : decide ((safe : Int) ≤ (y : Int)) = true := decide_eq_true (by omega)
                    go_wp2
                    go_ret
                    exact ⟨rfl, bnext hBr21 hBB⟩
              · obtain rfl : y = m21 := by omega
                go_wp2
                go_ret
                exact ⟨rfl, bnext hBr21 hBx⟩
      · have kb0 : (ki == 0) = false := by simp [k0]
        by_cases k1 : ki = 1
        · subst k1
          have hbx := bnew wr (.cells #[.int .i64 1, .int .i64 ni, .int .u8 by8, .slice aq an ac9] 47)
          have hLb := hL.below hbx
          have hMb := hM.below hbx
          have hBb := bnext hB hbx
          cases hno : d.no with
          | false =>
            have hsy := keep_sync hLb hno
            go_wp2_with (first
              | ((with_reducible refine hsy.mono ?_); rintro e w7 ⟨rfl, S7, d7, hL7, hdn7, hp7, hF7, hS7⟩; replace hdn7 := hdn7.trans hdn; have hM7 := hMb.step (T' := fun k => S7 k ∨ k = gl) (Fr.mono hF7 fun _ hk => .inl hk) (step_set hS7); have hB7 := bfr hBb hF7 (fun k hk => (hL.lts k (.inl hk)).1); have hdw := hDn hL7.1 hdn7)
              | ((with_reducible refine hdw.mono ?_); rintro e w10 ⟨rfl, hw⟩; rw [hw]; clear hw))
            exact ⟨⟨k + 1, d7, S7, j, t, ps, rs, p8, c8, rs.length, by omega, rfl, rfl, by go_num, by rw [hrl.out]; exact hL7, hdn7, hM7, hg, by unfold Hid; omega, hB7⟩, by simp [intOf]; omega⟩
          | true =>
            have hsy := keep_sync_down hLb hno
            go_wp2_with (first
              | ((with_reducible refine hsy.mono ?_); rintro e w7 ⟨rfl, S7, d7, hFin, hdn7, hF7, hS7⟩; have hMr := hMb.step (T' := fun k => S7 k ∨ k = gl) (Fr.mono hF7 fun _ hk => .inl hk) (step_set hS7); have hBr := bfr hBb hF7 (fun k hk => (hL.lts k (.inl hk)).1); have hdw := hDn hFin.1 hdn7; have hcr := fin_crash hFin q2 n2 c2 ks l2 (r2.below hBr) (hoff fun k hk => hFin.1.base k hk))
              | ((with_reducible refine hdw.mono ?_); rintro e w10 ⟨rfl, hw⟩; rw [hw]; clear hw)
              | ((with_reducible refine hcr.mono ?_); rintro e w20 ⟨rfl, S20, hD20, hF20, hS20⟩; have hM20 := hMr.fr (Fr.mono hF20 fun _ hk => .inl hk); have hBr20 := bfr hBr hF20 (fun k hk => hFin.1.base k hk); have hscn := fin_scan hFin hD20 hcan (by omega) (by omega) (by omega) hsl; replace hscn := scan9 hscn)
              | ((with_reducible refine hscn.mono ?_); rintro e w21 ⟨p21, m21, c21, rs21, r21, z21, rfl, hm21, hl21, hs21, hR21, hg21, hB21⟩; have hls : decide ((m21 : Int) < (safe : Int)) = false := decide_eq_false (by omega); have hlsn : decide (m21 < safe) = false := decide_eq_false (by omega)))
            have hM21 := hM20.below hB21
            have hBr21 := bnext hBr20 hB21
            have hk21 : RK rc w21 p21 c21 rs21 := (made_rows (T := fun _ => False) hR21 (fun _ h => h.elim)).rk
            clear hcr hscn
            go_loopw [108] (fun i wx => ∃ y : Nat, y ≤ m21 ∧ i = .int .i64 y ∧ Below w21.heap.size w21 wx) (fun i _ => m21 - (intOf i).toNat)
            case atStart => exact ⟨0, by omega, rfl, Below.refl _ _⟩
            case round =>
              obtain ⟨y, hy, rfl, hBx⟩ := hrel
              by_cases hlt : y < m21
              · have hlt2 : decide ((y : Int) < (m21 : Int)) = true := decide_eq_true (by omega)
                have hlt3 : (y : Int) < (m21 : Int) := by omega
                by_cases hym : rs.length ≤ y
                · have hge : decide ((rs.length : Int) ≤ (y : Int)) = true := decide_eq_true (by omega)
                  have hsn : safe ≤ y := by omega
                  have hsy : decide ((safe : Int) ≤ (y : Int)) = true := decide_eq_true (by omega)
                  go_wp2
                  go_quiet (fail)
                  go_wp2
                  go_ret
                  exact ⟨rfl, bnext hBr21 (bnext hBx (bdrewN _ _))⟩
                · have hge : decide ((rs.length : Int) ≤ (y : Int)) = false := decide_eq_false (by omega)
                  have hlt4 : (y : Int) < (rs.length : Int) := by omega
                  obtain ⟨x, hx⟩ : ∃ x, rs21[y]? = some x := ⟨_, List.getElem?_eq_getElem (by omega)⟩
                  obtain ⟨z, hz⟩ : ∃ z, rs[y]? = some z := ⟨_, List.getElem?_eq_getElem (by omega)⟩
                  have hSm := fun {W : World} (hW : Below w21.heap.size w21 W) => same_rec hR21.2.1 hM21.2.1 (List.mem_of_getElem? hx) (List.mem_of_getElem? hz) hW
                  have hBd := hBx.drew
                  have hcells := fun {W : World} (hW : Below w21.heap.size w21 W) => (⟨rk_rec (hk21.below hW) hx, rk_rec (hM21.rk.below hW) hz⟩ : _ ∧ _)
                  obtain ⟨⟨b, o, rfl, hb1, k0, k1, k2⟩, ⟨b2, o2, rfl, hb2, j0, j1, j2⟩⟩ := hcells hBd
                  obtain ⟨D, hD⟩ : ∃ D, decide (key x = key z) = D := ⟨_, rfl⟩
                  have hkey : D = false → safe ≤ y := fun hf => by
                    rcases Nat.lt_or_ge y safe with h | h
                    · exact absurd (safe_key hg21.out hg.out hps h hx hz) (of_decide_eq_false (hD.trans hf))
                    · exact h
                  rw [hD] at hSm
                  clear hcells hm21 hx hz hD
                  go_wp2
                  go_region_held (fun W => W.cell? ⟨b, o + y * 3, none⟩ = some (.int .u64 (x.g.s : Int)) ∧ W.cell? ⟨b, o + y * 3 + 1, none⟩ = some (.int .u32 (x.g.e : Int)) ∧ W.cell? ⟨b, o + y * 3 + 2, none⟩ = some (.slice x.q x.g.p.length x.d) ∧ W.cell? ⟨b2, o2 + y * 3, none⟩ = some (.int .u64 (z.g.s : Int)) ∧ W.cell? ⟨b2, o2 + y * 3 + 1, none⟩ = some (.int .u32 (z.g.e : Int)) ∧ W.cell? ⟨b2, o2 + y * 3 + 2, none⟩ = some (.slice z.q z.g.p.length z.d))
                    (first | exact ⟨k0, k1, k2, j0, j1, j2⟩ | exact hS6 | assumption)
                    (((with_reducible refine (hSm hBd).mono ?_); rintro e w6 ⟨rfl, hB6⟩; have hS6 : w6.cell? ⟨b, o + y * 3, none⟩ = some (.int .u64 (x.g.s : Int)) ∧ w6.cell? ⟨b, o + y * 3 + 1, none⟩ = some (.int .u32 (x.g.e : Int)) ∧ w6.cell? ⟨b, o + y * 3 + 2, none⟩ = some (.slice x.q x.g.p.length x.d) ∧ w6.cell? ⟨b2, o2 + y * 3, none⟩ = some (.int .u64 (z.g.s : Int)) ∧ w6.cell? ⟨b2, o2 + y * 3 + 1, none⟩ = some (.int .u32 (z.g.e : Int)) ∧ w6.cell? ⟨b2, o2 + y * 3 + 2, none⟩ = some (.slice z.q z.g.p.length z.d) := ⟨(hB6.cell hb1).trans k0, (hB6.cell hb1).trans k1, (hB6.cell hb1).trans k2, (hB6.cell hb2).trans j0, (hB6.cell hb2).trans j1, (hB6.cell hb2).trans j2⟩))
                  have hBB := bnext hBd hB6
                  clear k0 k1 k2 j0 j1 j2 hS6
                  cases D with
                  | true =>
                    go_wp2
                    go_roundw
                    case rel => exact ⟨y + 1, by omega, by go_num, hBB⟩
                    case measure => simp [intOf]; omega
                  | false =>
                    have hsn : safe ≤ y := hkey rfl
                    have hsy : decide ((safe : Int) ≤ (y : Int)) = true := decide_eq_true (by omega)
                    go_wp2
                    go_ret
                    exact ⟨rfl, bnext hBr21 hBB⟩
              · obtain rfl : y = m21 := by omega
                go_wp2
                go_ret
                exact ⟨rfl, bnext hBr21 hBx⟩
        · have kb1 : (ki == 1) = false := by simp [k1]
          by_cases k3 : ki = 3
          · subst k3
            have hbx := bnew wr (.cells #[.int .i64 3, .int .i64 ni, .int .u8 by8, .slice aq an ac9] 47)
            have hLb := hL.below hbx
            have hMb := hM.below hbx
            have hBb := bnext hB hbx
            have hbk := keep_break hLb hni
            go_wp2_with (first
              | ((with_reducible refine hbk.mono ?_); rintro e w7 ⟨rfl, S7, d7, hL7, hdn7, hp7, hF7, hS7⟩; replace hdn7 := hdn7.trans hdn; have hM7 := hMb.step (T' := fun k => S7 k ∨ k = gl) (Fr.mono hF7 fun _ hk => .inl hk) (step_set hS7); have hB7 := bfr hBb hF7 (fun k hk => (hL.lts k (.inl hk)).1); have hdw := hDn hL7.1 hdn7)
              | ((with_reducible refine hdw.mono ?_); rintro e w10 ⟨rfl, hw⟩; rw [hw]; clear hw))
            exact ⟨⟨k + 1, d7, S7, j, t, ps, rs, p8, c8, safe, by omega, rfl, rfl, by go_num, hL7, hdn7, hM7, hg, by unfold Hid; omega, hB7⟩, by simp [intOf]; omega⟩
          · have kb3 : (ki == 3) = false := by simp [k3]
            have hbx := bnew wr (.cells #[.int .i64 ki, .int .i64 ni, .int .u8 by8, .slice aq an ac9] 47)
            have hLb := hL.below hbx
            have hMb := hM.below hbx
            have hBb := bnext hB hbx
            have hdw := hDn hLb.1 hdn
            go_wp2_with (first
              | ((with_reducible refine hdw.mono ?_); rintro e w10 ⟨rfl, hw⟩; rw [hw]; clear hw))
            exact ⟨⟨k + 1, d, S', j, t, ps, rs, p8, c8, safe, by omega, rfl, rfl, by go_num, hLb, hdn, hMb, hg, hpe, hBb⟩, by simp [intOf]; omega⟩
    · obtain rfl : k = n := by omega
      have hFin := hL.fin
      have hMr := hM
      have hBr := hB
      have hcr := fin_crash hFin q2 n2 c2 ks l2 (r2.below hBr) (hoff fun k hk => hFin.1.base k hk)
      go_wp2_with (first
        | ((with_reducible refine hcr.mono ?_); rintro e w20 ⟨rfl, S20, hD20, hF20, hS20⟩; have hM20 := hMr.fr (Fr.mono hF20 fun _ hk => .inl hk); have hBr20 := bfr hBr hF20 (fun k hk => hFin.1.base k hk); have hscn := fin_scan hFin hD20 hcan (by omega) (by omega) (by omega) hsl; replace hscn := scan9 hscn)
        | ((with_reducible refine hscn.mono ?_); rintro e w21 ⟨p21, m21, c21, rs21, r21, z21, rfl, hm21, hl21, hs21, hR21, hg21, hB21⟩; have hls : decide ((m21 : Int) < (safe : Int)) = false := decide_eq_false (by omega); have hlsn : decide (m21 < safe) = false := decide_eq_false (by omega)))
      have hM21 := hM20.below hB21
      have hBr21 := bnext hBr20 hB21
      have hk21 : RK rc w21 p21 c21 rs21 := (made_rows (T := fun _ => False) hR21 (fun _ h => h.elim)).rk
      clear hcr hscn
      go_loopw [108] (fun i wx => ∃ y : Nat, y ≤ m21 ∧ i = .int .i64 y ∧ Below w21.heap.size w21 wx) (fun i _ => m21 - (intOf i).toNat)
      case atStart => exact ⟨0, by omega, rfl, Below.refl _ _⟩
      case round =>
        obtain ⟨y, hy, rfl, hBx⟩ := hrel
        by_cases hlt : y < m21
        · have hlt2 : decide ((y : Int) < (m21 : Int)) = true := decide_eq_true (by omega)
          have hlt3 : (y : Int) < (m21 : Int) := by omega
          by_cases hym : rs.length ≤ y
          · have hge : decide ((rs.length : Int) ≤ (y : Int)) = true := decide_eq_true (by omega)
            have hsn : safe ≤ y := by omega
            have hsy : decide ((safe : Int) ≤ (y : Int)) = true := decide_eq_true (by omega)
            go_wp2
            go_quiet (fail)
            go_wp2
            go_ret
            exact ⟨rfl, bnext hBr21 (bnext hBx (bdrewN _ _))⟩
          · have hge : decide ((rs.length : Int) ≤ (y : Int)) = false := decide_eq_false (by omega)
            have hlt4 : (y : Int) < (rs.length : Int) := by omega
            obtain ⟨x, hx⟩ : ∃ x, rs21[y]? = some x := ⟨_, List.getElem?_eq_getElem (by omega)⟩
            obtain ⟨z, hz⟩ : ∃ z, rs[y]? = some z := ⟨_, List.getElem?_eq_getElem (by omega)⟩
            have hSm := fun {W : World} (hW : Below w21.heap.size w21 W) => same_rec hR21.2.1 hM21.2.1 (List.mem_of_getElem? hx) (List.mem_of_getElem? hz) hW
            have hBd := hBx.drew
            have hcells := fun {W : World} (hW : Below w21.heap.size w21 W) => (⟨rk_rec (hk21.below hW) hx, rk_rec (hM21.rk.below hW) hz⟩ : _ ∧ _)
            obtain ⟨⟨b, o, rfl, hb1, k0, k1, k2⟩, ⟨b2, o2, rfl, hb2, j0, j1, j2⟩⟩ := hcells hBd
            obtain ⟨D, hD⟩ : ∃ D, decide (key x = key z) = D := ⟨_, rfl⟩
            have hkey : D = false → safe ≤ y := fun hf => by
              rcases Nat.lt_or_ge y safe with h | h
              · exact absurd (safe_key hg21.out hg.out hps h hx hz) (of_decide_eq_false (hD.trans hf))
              · exact h
            rw [hD] at hSm
            clear hcells hm21 hx hz hD
            go_wp2
            go_region_held (fun W => W.cell? ⟨b, o + y * 3, none⟩ = some (.int .u64 (x.g.s : Int)) ∧ W.cell? ⟨b, o + y * 3 + 1, none⟩ = some (.int .u32 (x.g.e : Int)) ∧ W.cell? ⟨b, o + y * 3 + 2, none⟩ = some (.slice x.q x.g.p.length x.d) ∧ W.cell? ⟨b2, o2 + y * 3, none⟩ = some (.int .u64 (z.g.s : Int)) ∧ W.cell? ⟨b2, o2 + y * 3 + 1, none⟩ = some (.int .u32 (z.g.e : Int)) ∧ W.cell? ⟨b2, o2 + y * 3 + 2, none⟩ = some (.slice z.q z.g.p.length z.d))
              (first | exact ⟨k0, k1, k2, j0, j1, j2⟩ | exact hS6 | assumption)
              (((with_reducible refine (hSm hBd).mono ?_); rintro e w6 ⟨rfl, hB6⟩; have hS6 : w6.cell? ⟨b, o + y * 3, none⟩ = some (.int .u64 (x.g.s : Int)) ∧ w6.cell? ⟨b, o + y * 3 + 1, none⟩ = some (.int .u32 (x.g.e : Int)) ∧ w6.cell? ⟨b, o + y * 3 + 2, none⟩ = some (.slice x.q x.g.p.length x.d) ∧ w6.cell? ⟨b2, o2 + y * 3, none⟩ = some (.int .u64 (z.g.s : Int)) ∧ w6.cell? ⟨b2, o2 + y * 3 + 1, none⟩ = some (.int .u32 (z.g.e : Int)) ∧ w6.cell? ⟨b2, o2 + y * 3 + 2, none⟩ = some (.slice z.q z.g.p.length z.d) := ⟨(hB6.cell hb1).trans k0, (hB6.cell hb1).trans k1, (hB6.cell hb1).trans k2, (hB6.cell hb2).trans j0, (hB6.cell hb2).trans j1, (hB6.cell hb2).trans j2⟩))
            have hBB := bnext hBd hB6
            clear k0 k1 k2 j0 j1 j2 hS6
            cases D with
            | true =>
              go_wp2
              go_roundw
              case rel => exact ⟨y + 1, by omega, by go_num, hBB⟩
              case measure => simp [intOf]; omega
            | false =>
              have hsn : safe ≤ y := hkey rfl
              have hsy : decide ((safe : Int) ≤ (y : Int)) = true := decide_eq_true (by omega)
              go_wp2
              go_ret
              exact ⟨rfl, bnext hBr21 hBB⟩
        · obtain rfl : y = m21 := by omega
          go_wp2
          go_ret
          exact ⟨rfl, bnext hBr21 hBx⟩
end Go.Proofs.Ythgafnommcodcaa.Wal
namespace Go.Proofs.Ythgafnommcodcaa.Wal
open Go.RowKit Go.Proofs.Ythgafnommcodcaa.Mem Go.Proofs.Ythgafnommcodcaa.Sect Go.Proofs.Ythgafnommcodcaa.Frame Go.Proofs.Ythgafnommcodcaa.Disk Go.Proofs.Ythgafnommcodcaa.Area
set_option maxRecDepth 100000

theorem keeps_any (x : Int) (q : Option Addr) (n c : Nat) (xs : List Ac) (q2 : Option Addr) (n2 c2 : Nat) (ks : List Bool) (hl : xs.length = n) (w : World) (r : RK ac w q c xs) (oa : ∀ a ∈ xs, AcOk w a ∧ Byte a.2.2.1) (l2 : ks.length = n2) (r2 : RK bc w q2 c2 ks) :
    Calls Try.prog 5 #[.int .i64 x, .slice q n c, .slice q2 n2 c2] w fun e w' => e = .returned (.bool true) ∧ Below w.heap.size w w' := by
  have hal := alive_any w
  rcases (show x < 64 ∨ (¬ x < 64 ∧ 140 < x) ∨ (¬ x < 64 ∧ ¬ 140 < x ∧ 60 < n) ∨ (64 ≤ x ∧ x ≤ 140 ∧ n ≤ 60) by omega) with h1 | ⟨h1, h2⟩ | ⟨h1, h2, h3⟩ | ⟨h1, h2, h3⟩
  · have hb1 : decide (x < 64) = true := decide_eq_true h1
    go_enter Try.func5, Try.ntmps5
    go_wp2_with (first
      | ((with_reducible refine hal.mono ?_); rintro e w1 ⟨rfl, hB1⟩))
    go_ret
    exact ⟨rfl, hB1⟩
  · have hb1 : decide (x < 64) = false := decide_eq_false h1
    have hb2 : decide (140 < x) = true := decide_eq_true h2
    go_enter Try.func5, Try.ntmps5
    go_wp2_with (first
      | ((with_reducible refine hal.mono ?_); rintro e w1 ⟨rfl, hB1⟩))
    go_ret
    exact ⟨rfl, hB1⟩
  · have hb1 : decide (x < 64) = false := decide_eq_false h1
    have hb2 : decide (140 < x) = false := decide_eq_false h2
    have hb3 : decide (60 < (n : Int)) = true := decide_eq_true (by omega)
    go_enter Try.func5, Try.ntmps5
    go_wp2_with (first
      | ((with_reducible refine hal.mono ?_); rintro e w1 ⟨rfl, hB1⟩))
    go_ret
    exact ⟨rfl, hB1⟩
  · obtain ⟨N, rfl⟩ : ∃ N : Nat, x = (N : Int) := ⟨x.toNat, by omega⟩
    exact keeps_main N n c q xs q2 n2 c2 ks (by omega) (by omega) hl h3 w r oa l2 r2
end Go.Proofs.Ythgafnommcodcaa.Wal
