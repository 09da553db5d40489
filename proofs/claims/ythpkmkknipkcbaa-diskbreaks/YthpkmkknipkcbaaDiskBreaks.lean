/-
  So many acts are done, the next one isn't, nor is any behind it, till the crash.
-/
import Derived.Test.YthpkmkknipkcbaaDiskAlive
namespace Go.Proofs.Ythpkmkknipkcbaa.Disk
open Go.RowKit Go.Proofs.Ythpkmkknipkcbaa.Mem
set_option maxRecDepth 100000

/-- Behind i acts, n of which may be done. -/
def Bst (n : Int) (i : Nat) (d : Dsk) : Prop := d.ok ∧ d.st.length = 4 ∧ d.pe.length ≤ i ∧ ((i : Int) ≤ n → d.dn = false ∧ d.lf = n - i) ∧ (n < i → d.dn = true)
theorem bst_no {n : Int} {i : Nat} {d : Dsk} (h : Bst n i d) : d.no = decide (n ≤ i) := by
  obtain ⟨_, _, _, h1, h2⟩ := h
  unfold Dsk.no
  rcases Int.lt_trichotomy i n with q | q | q
  · obtain ⟨a, b⟩ := h1 (by omega)
    have b' : ¬ d.lf = 0 := by omega
    rw [a, decide_eq_false b', decide_eq_false (show ¬ n ≤ i by omega)]
    rfl
  · obtain ⟨a, b⟩ := h1 (by omega)
    have b' : d.lf = 0 := by omega
    rw [a, decide_eq_true b', decide_eq_true (show n ≤ i by omega)]
    rfl
  · rw [h2 q, decide_eq_true (show n ≤ i by omega)]
    rfl
theorem bst_err {n : Int} {i : Nat} {d : Dsk} (h : Bst n i d) : d.err = if n ≤ i then 72 else 0 := by
  unfold Dsk.err
  rw [bst_no h]
  simp
theorem bst_acted {n : Int} {i : Nat} {d : Dsk} (h : Bst n i d) : ((i : Int) < n → d.acted.dn = false ∧ d.acted.lf = n - i - 1) ∧ (n ≤ i → d.acted.dn = true) := by
  have hno := bst_no h
  obtain ⟨_, _, _, h1, h2⟩ := h
  unfold Dsk.acted
  refine ⟨fun q => ?_, fun q => ?_⟩
  · obtain ⟨a, b⟩ := h1 (by omega)
    rw [hno, if_neg (by simp; omega)]
    refine ⟨a, ?_⟩
    simp only
    rw [if_pos (by omega)]
    omega
  · rw [hno, if_pos (by simpa using q)]
theorem sync_acted (d : Dsk) : d.sync.dn = d.acted.dn ∧ d.sync.lf = d.acted.lf := by
  unfold Dsk.sync
  split
  · exact ⟨rfl, rfl⟩
  · exact ⟨rfl, rfl⟩
theorem put_acted {d : Dsk} {j : Int} (s : Sec) (h : has d.st.length j = true) : (d.put j s).dn = d.acted.dn ∧ (d.put j s).lf = d.acted.lf ∧ d.putE j = d.err := by
  unfold Dsk.put Dsk.putE
  rw [h]
  simp only [if_true]
  split
  · exact ⟨rfl, rfl, trivial⟩
  · exact ⟨rfl, rfl, trivial⟩
theorem bst_next {n : Int} {i : Nat} {d d' : Dsk} (h : Bst n i d) (ho : d'.ok) (hs : d'.st.length = 4) (hp : d'.pe.length ≤ d.pe.length + 1) (h1 : d'.dn = d.acted.dn) (h2 : d'.lf = d.acted.lf) : Bst n (i + 1) d' ∧ d'.dn = decide (n ≤ i) := by
  obtain ⟨a1, a2⟩ := bst_acted h
  refine ⟨⟨ho, hs, by have := h.2.2.1; omega, fun q => ?_, fun q => ?_⟩, ?_⟩
  · obtain ⟨b1, b2⟩ := a1 (by omega)
    rw [h1, h2]
    exact ⟨b1, by rw [b2]; omega⟩
  · rw [h1]; exact a2 (by omega)
  · rw [h1]
    by_cases q : n ≤ i
    · rw [a2 q, decide_eq_true q]
    · rw [(a1 (by omega)).1, decide_eq_false q]
theorem breaks_walk (x : Int) (q : Option Addr) (n c : Nat) (ks : List Bool) (w : World) (hx : (Lit.int .i64 x).wf = true) (l : ks.length = n) (r : RK bc w q c ks) :
    Calls Try.prog 6 #[.int .i64 x, .slice q n c] w fun e w' => e = .returned (.bool true) ∧ Below w.heap.size w w' := by
  have hix := inty_of_wf hx
  by_cases h0 : x < 0
  · have e0 : decide (x < 0) = true := decide_eq_true h0
    go_enter Try.func6, Try.ntmps6
    go_wp2_with (first
      | ((with_reducible refine (alive_any _).mono ?_); rintro e w5 ⟨rfl, hb5⟩))
    go_ret
    exact ⟨rfl, hb5⟩
  · have e0 : decide (x < 0) = false := decide_eq_false h0
    by_cases h1 : 100 < n
    · have e1 : decide ((100 : Int) < (n : Int)) = true := decide_eq_true (by omega)
      go_enter Try.func6, Try.ntmps6
      go_wp2_with (first
        | ((with_reducible refine (alive_any _).mono ?_); rintro e w5 ⟨rfl, hb5⟩))
      go_ret
      exact ⟨rfl, hb5⟩
    · have e1 : decide ((100 : Int) < (n : Int)) = false := decide_eq_false (by omega)
      go_enter Try.func6, Try.ntmps6
      go_wp2_with (first
        | ((with_reducible refine (alive_any _).mono ?_); rintro e w1 ⟨rfl, hb1⟩)
        | ((with_reducible refine (new_any 4 _).mono ?_); rintro e w2 ⟨g, S2, rfl, hD2, hb2⟩)
        | ((with_reducible refine (break_any hD2 x).mono ?_); rintro e w3 ⟨rfl, S3, hD3, hF3, hS3⟩))
      have hD3' := hD3.lower (show w.heap.size ≤ w1.heap.size from hb1.size)
      have hb3 : Below w.heap.size w w3 := bfr (bnext hb1 hb2) hF3 (fun k hk => by have := hD2.base k hk; have := hb1.size; omega)
      have hst : Bst x 0 ((fresh (clamp 4)).breaks x) := ⟨breaks_ok (fresh_ok (by decide)) hix, rfl, by simp [Dsk.breaks, fresh], fun _ => ⟨rfl, by simp only [Dsk.breaks]; omega⟩, fun q => by omega⟩
      clear hD2 hb2 hF3 hS3 hD3 hb1
      go_loopw [24] (fun t wr => ∃ (k : Nat) (d : Dsk) (S : Nat → Prop), k ≤ n ∧ t = .int .i64 k ∧ Bst x k d ∧ Dk w.heap.size S wr g d ∧ Below w.heap.size w wr) (fun t _ => n - (intOf t).toNat)
      case atStart => exact ⟨0, _, S3, Nat.zero_le _, rfl, hst, hD3', hb3⟩
      case round =>
        obtain ⟨k, d, S, hk, rfl, hB, hD, hbel⟩ := hrel
        by_cases hlt : k < n
        · obtain ⟨b, hb⟩ : ∃ b, ks[k]? = some b := ⟨_, List.getElem?_eq_getElem (by omega)⟩
          obtain ⟨a, o, rfl, hr⟩ := rk_range bc_len (r.below hbel) hb
          have hck : wr.cell? ⟨a, o + k, none⟩ = some (.bool b) := by
            have := hr 0 (.bool b) rfl
            simpa using this
          have hlt' : (k : Int) < (n : Int) := by omega
          clear hr
          have hD4 : has d.st.length ((k : Int) % 4) = true := by
            rw [hB.2.1]
            simp only [has, Bool.and_eq_true, decide_eq_true_eq]
            omega
          have hpu := put_acted (one (k : Int)) hD4
          have hps := put_len d ((k : Int) % 4) (one (k : Int))
          have hsa := sync_acted d
          have hsl := sync_len d
          have hpl : d.pe.length < 1000 := by have := hB.2.2.1; omega
          have hsN := bst_next hB (sync_ok hB.1) (by rw [hsl.2]; exact hB.2.1) (by omega) hsa.1 hsa.2
          have hpN := bst_next hB (put_ok hB.1 _ _ hpl) (by rw [hps.2]; exact hB.2.1) hps.1 hpu.1 hpu.2.1
          have hsy := sync_any hD hB.1
          have hwr := write_any hD hB.1 ((k : Int) % 4) (one (k : Int))
          rw [hpu.2.2, bst_err hB] at hwr
          rw [bst_err hB] at hsy
          obtain ⟨ds, hds⟩ : ∃ ds, ds = d.sync := ⟨_, rfl⟩
          obtain ⟨dp, hdp⟩ : ∃ dp, dp = d.put ((k : Int) % 4) (one (k : Int)) := ⟨_, rfl⟩
          rw [← hds] at hsN hsy
          rw [← hdp] at hpN hwr
          obtain ⟨hsN, hsd⟩ := hsN
          obtain ⟨hpN, hpd⟩ := hpN
          have hdn : ∀ {S' W d'}, Dk w.heap.size S' W g d' → d'.dn = decide (x ≤ k) → Calls Try.prog 12 #[.pointer (some ⟨g, 0, none⟩)] W fun e w' => e = .returned (.bool (decide (x ≤ k))) ∧ w' = W := fun h e => by
            have := down_any h; rw [e] at this; exact this
          have HB : Hid (Bst x k d) := hB
          clear hds hdp hpu hps hsa hsl hB hD4
          by_cases hkx : x ≤ k
          · have f1 : decide ((k : Int) < x) = false := decide_eq_false (by omega)
            have f2 : decide (x ≤ (k : Int)) = true := decide_eq_true hkx
            rw [if_pos hkx] at hsy hwr
            simp only [f2] at hdn
            cases b with
            | true =>
              go_wp2_with (first
                | ((with_reducible refine hsy.mono ?_); rintro e w4 ⟨rfl, S4, hDn, hFn, _⟩)
                | ((with_reducible refine (hdn hDn (by first | exact hsd | (rw [hsd]; simp [f2]))).mono ?_); rintro e w5 ⟨rfl, rfl⟩))
              go_roundw
              case rel => exact ⟨k + 1, _, S4, by omega, by go_num, hsN, hDn, bfr hbel hFn hD.base⟩
              case measure => simp [intOf]; omega
            | false =>
              go_wp2_with (first
                | ((refine at_build1 _ _ (by rfl) (by rfl) (by rfl) ?_))
                | ((with_reducible refine hwr.mono ?_); rintro e w4 ⟨rfl, S4, hDn, hFn, _⟩)
                | ((with_reducible refine (hdn hDn (by first | exact hpd | (rw [hpd]; simp [f2]))).mono ?_); rintro e w5 ⟨rfl, rfl⟩))
              go_roundw
              case rel => exact ⟨k + 1, _, S4, by omega, by go_num, hpN, hDn, bfr hbel hFn hD.base⟩
              case measure => simp [intOf]; omega
          · have f1 : decide ((k : Int) < x) = true := decide_eq_true (by omega)
            have f2 : decide (x ≤ (k : Int)) = false := decide_eq_false hkx
            rw [if_neg hkx] at hsy hwr
            simp only [f2] at hdn
            cases b with
            | true =>
              go_wp2_with (first
                | ((with_reducible refine hsy.mono ?_); rintro e w4 ⟨rfl, S4, hDn, hFn, _⟩)
                | ((with_reducible refine (hdn hDn (by first | exact hsd | (rw [hsd]; simp [f2]))).mono ?_); rintro e w5 ⟨rfl, rfl⟩))
              go_roundw
              case rel => exact ⟨k + 1, _, S4, by omega, by go_num, hsN, hDn, bfr hbel hFn hD.base⟩
              case measure => simp [intOf]; omega
            | false =>
              go_wp2_with (first
                | ((refine at_build1 _ _ (by rfl) (by rfl) (by rfl) ?_))
                | ((with_reducible refine hwr.mono ?_); rintro e w4 ⟨rfl, S4, hDn, hFn, _⟩)
                | ((with_reducible refine (hdn hDn (by first | exact hpd | (rw [hpd]; simp [f2]))).mono ?_); rintro e w5 ⟨rfl, rfl⟩))
              go_roundw
              case rel => exact ⟨k + 1, _, S4, by omega, by go_num, hpN, hDn, bfr hbel hFn hD.base⟩
              case measure => simp [intOf]; omega
        · have oc := crash_ok hB.1 []
          have hl0 : (d.crash []).st.length = 4 := by simp [Dsk.crash, Dsk.settled, settle_len, hB.2.1]
          have hl1 : (d.crash []).sync.st.length = 4 := by rw [(sync_len _).2, hl0]
          have hcr := crash_any hD hB.1 none 0 0 [] rfl (RK.nil _ _) (fun h => absurd h (by omega))
          have e5 : (d.crash []).err = 0 := by simp [Dsk.err, Dsk.no, Dsk.crash]
          have e6 : (d.crash []).sync.putE 0 = 0 := by
            unfold Dsk.putE
            rw [hl1, if_pos (by decide)]
            simp [Dsk.err, Dsk.no, Dsk.sync, Dsk.crash, Dsk.acted, Dsk.settled]
          have hsy : ∀ {S' W}, Dk w.heap.size S' W g (d.crash []) → Calls Try.prog 11 #[.pointer (some ⟨g, 0, none⟩)] W fun e w' => e = .returned (.int .i64 0) ∧ Went w.heap.size S' W w' g (d.crash []).sync := fun h => by
            have := sync_any h oc; rw [e5] at this; exact this
          have hwr : ∀ {S' W}, Dk w.heap.size S' W g (d.crash []).sync → Calls Try.prog 15 #[.pointer (some ⟨g, 0, none⟩), .int .i64 0, secv zero] W fun e w' => e = .returned (.int .i64 0) ∧ Went w.heap.size S' W w' g ((d.crash []).sync.put 0 zero) := fun h => by
            have := write_any h (sync_ok oc) 0 zero; rw [e6] at this; exact this
          clear e5 e6 hl0 hl1
          go_wp2_with (first
            | ((with_reducible refine hcr.mono ?_); rintro e w4 ⟨rfl, S4, hD4, hF4, _⟩)
            | ((with_reducible refine (hsy hD4).mono ?_); rintro e w5 ⟨rfl, S5, hD5, hF5, _⟩)
            | ((refine at_build0 (by rfl) (by rfl) ?_))
            | ((with_reducible refine (hwr hD5).mono ?_); rintro e w6 ⟨rfl, S6, hD6, hF6, _⟩))
          go_ret
          exact ⟨rfl, bfr (bfr (bfr hbel hF4 hD.base) hF5 hD4.base) hF6 hD5.base⟩
end Go.Proofs.Ythpkmkknipkcbaa.Disk
