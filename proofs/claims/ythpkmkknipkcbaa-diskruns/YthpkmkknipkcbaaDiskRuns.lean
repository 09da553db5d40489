/-
  Whatever is done with a disk: as the document's answer has it.
-/
import Derived.Test.YthpkmkknipkcbaaDiskAgree
import Derived.Deep.CutRange
namespace Go.Proofs.Ythpkmkknipkcbaa.Disk
open Go.RowKit Go.Proofs.Ythpkmkknipkcbaa.Mem
set_option maxRecDepth 100000
set_option linter.unusedVariables false

/-- Behind some acts: both disks, and that they go on alike. -/
def St (w wr : World) (g G : Nat) (k : Nat) (d : Dsk) (r : Rfd) (S : Nat → Prop) (p : Option Addr) (c : Nat) (q : Option Addr) (e : Nat) : Prop :=
  Dk w.heap.size S wr g d ∧ d.ok ∧ r.ok ∧ Agree d r ∧ Rb S wr G r p c q e ∧ d.pe.length ≤ k ∧ Below w.heap.size w wr
theorem St.below {w wr w' : World} {g G k : Nat} {d : Dsk} {r : Rfd} {S : Nat → Prop} {p q : Option Addr} {c e : Nat} (h : St w wr g G k d r S p c q e) (hb : Below wr.heap.size wr w') : St w w' g G k d r S p c q e :=
  ⟨h.1.below hb, h.2.1, h.2.2.1, h.2.2.2.1, h.2.2.2.2.1.below hb, h.2.2.2.2.2.1, bnext h.2.2.2.2.2.2 hb⟩
theorem Dk.kept {B g G : Nat} {S : Nat → Prop} {w w' : World} {d : Dsk} (h : Dk B S w g d) (hg : w.grownBy w' (some G)) (hS : ¬ S G) : Dk B S w' g d := by
  obtain ⟨vs, vp, h⟩ := h
  exact ⟨vs, vp, h.same hg.size (fun k hk => hg.block k (h.2.2.2.2.2.2 k hk).2 (fun q => hS (by simp at q; exact q ▸ hk)))⟩
theorem rput_st (r : Rfd) (i : Int) (s : Sec) : (r.put i s).st = r.st := by
  unfold Rfd.put
  split
  · split
    · exact (racted_st r).1
    · exact (racted_st r).1
  · rfl
theorem step_done {w W7 W8 W9 W10 : World} {g G GA k : Nat} {d d' : Dsk} {r r' : Rfd} {S S8 : Nat → Prop} {p q p' q' : Option Addr} {c e c' e' : Nat} {a : Ac} (hSt : St w W7 g G k d r S p c q e) (hGw : w.heap.size ≤ G) (hXA : Blk W7 GA 41 (ac a)) (hGA : ¬ S GA) (hne : GA ≠ G)
    (hF8 : Fr S W7 W8) (hS8 : ∀ k, S8 k → S k ∨ W7.heap.size ≤ k) (hD8 : Dk w.heap.size S8 W8 g d') (hB9 : Below W8.heap.size W8 W9) (hX10 : Blk W10 G 37 (rl r' p' c' q' e')) (hg10 : W9.grownBy W10 (some G)) (r1 : RK sc W9 p' c' r'.st) (r2 : RK wc W9 q' e' r'.pe)
    (n1 : (p' = p ∧ r'.st.length = r.st.length) ∨ ∀ a, p' = some a → W8.heap.size ≤ a.block) (n2 : (q' = q ∧ r'.pe.length = r.pe.length) ∨ ∀ a, q' = some a → W8.heap.size ≤ a.block) (hd' : d'.ok) (hr' : r'.ok) (hag : Agree d' r') (hl : d'.pe.length ≤ k + 1) :
    St w W10 g G (k + 1) d' r' S8 p' c' q' e' ∧ Blk W10 GA 41 (ac a) ∧ ¬ S8 GA := by
  obtain ⟨h1, h2, h3, h4, h5, h6, h7⟩ := hSt
  have hR8 := h5.fr hF8 hS8
  have hnG := hR8.2.2.2.2.2
  have hb8 := bfr h7 hF8 h1.base
  have hb9 := bnext hb8 hB9
  refine ⟨⟨(hD8.below hB9).kept hg10 hnG, hd', hr', hag, hR8.set hD8.lt hB9 hX10 hg10 r1 r2 n1 n2, hl, hb9.grown hg10 hb9.size (by simp; exact hGw)⟩, ((hF8.blk hXA hGA).below hB9).kept hg10 (by simpa using hne), fun q => ?_⟩
  rcases hS8 _ q with q | q
  · exact hGA q
  · have := hXA.lt; omega
set_option maxHeartbeats 8000000 in
theorem runs_walk (x : Int) (q0 : Option Addr) (n c0 : Nat) (xs : List Ac) (w : World) (hx : (Lit.int .i64 x).wf = true) (l : xs.length = n) (ra : RK ac w q0 c0 xs) (oa : ∀ a ∈ xs, AcOk w a) :
    Calls Try.prog 4 #[.int .i64 x, .slice q0 n c0] w fun e w' => e = .returned (.bool true) ∧ Below w.heap.size w w' := by
  by_cases h0 : 600 < x
  · have e0 : decide (600 < x) = true := decide_eq_true h0
    go_enter Try.func4, Try.ntmps4
    go_wp2_with (first
      | ((with_reducible refine (alive_any _).mono ?_); rintro e w5 ⟨rfl, hb5⟩))
    go_ret
    exact ⟨rfl, hb5⟩
  have e0 : decide (600 < x) = false := decide_eq_false h0
  by_cases h1 : 100 < n
  · have e1 : decide ((100 : Int) < (n : Int)) = true := decide_eq_true (by omega)
    go_enter Try.func4, Try.ntmps4
    go_wp2_with (first
      | ((with_reducible refine (alive_any _).mono ?_); rintro e w5 ⟨rfl, hb5⟩))
    go_ret
    exact ⟨rfl, hb5⟩
  have e1 : decide ((100 : Int) < (n : Int)) = false := decide_eq_false (by omega)
  have hcl : clamp x ≤ 512 := by unfold clamp; omega
  go_enter Try.func4, Try.ntmps4
  go_wp2_with (first
    | ((with_reducible refine (alive_any _).mono ?_); rintro e w1 ⟨rfl, hb1⟩)
    | ((with_reducible refine (new_any x _).mono ?_); rintro e w2 ⟨g, S2, rfl, hD2, hb2⟩)
    | ((with_reducible refine (rnew_any x _).mono ?_); rintro e w3 ⟨p3, c3, rfl, hr3, hp3, hb3⟩)
    | ((refine at_alloc_rd (by rfl) (by rfl) ?_); intro W4 hX4 hB4 hz4)
    | ((refine at_store_rd _ _ _ _ (rfresh (clamp x)) p3 c3 none 0 (by rfl) (by rfl) (by rfl) hX4 (by simp [rl]) (by rfl) ?_); intro W5 hX5 hg5 hz5))
  have hb5 : Below w3.heap.size w3 W5 := hB4.grown hg5 hB4.size (by simp)
  have hS2 : ∀ k, S2 k → k < w2.heap.size := hD2.lt
  have hs3 := hb3.size
  have hSt : St w W5 g w3.heap.size 0 (fresh (clamp x)) (rfresh (clamp x)) S2 p3 c3 none 0 := by
    refine ⟨(((hD2.lower hb1.size).below hb3).below hb5), fresh_ok hcl, ⟨by simp [rfresh]; exact hcl, by simp [rfresh], by simp [rfresh], ⟨by simp [rfresh], by simp [rfresh]⟩, by simp [rfresh]⟩, ⟨rfl, rfl, rfl, rfl⟩, ⟨hX5, hr3.below hb5, RK.nil _ _, fun hz a ha q => ?_, fun hz => by simp [rfresh] at hz, fun q => by have := hS2 _ q; omega⟩, by simp [fresh], bnext (bnext (bnext hb1 hb2) hb3) hb5⟩
    obtain ⟨b, o, e, hlt, _⟩ := hr3.2.2.2 hz
    rw [e] at ha
    obtain rfl := Option.some.inj ha
    rcases q with q | q
    · have := hS2 _ q
      have := hp3 _ e
      simp only at *
      omega
    · simp only at q
      omega
  obtain ⟨G, hG⟩ : ∃ G, G = w3.heap.size := ⟨_, rfl⟩
  have hGw : w.heap.size ≤ G := by have := hb1.size; have := hb2.size; omega
  rw [← hG] at hSt ⊢
  clear hD2 hr3 hp3 hX4 hX5 hg5 hB4 hb1 hb2 hb3 hb5 hS2 hG
  go_loopw [36] (fun t wr => ∃ (k : Nat) (d : Dsk) (r : Rfd) (S : Nat → Prop) (p : Option Addr) (c : Nat) (q : Option Addr) (e : Nat), k ≤ n ∧ t = .int .i64 k ∧ St w wr g G k d r S p c q e) (fun t _ => n - (intOf t).toNat)
  case atStart => exact ⟨0, _, _, S2, p3, c3, none, 0, Nat.zero_le _, rfl, hSt⟩
  case round =>
    obtain ⟨k, d, r, S, p, c, q, e, hk, rfl, hSt⟩ := hrel
    by_cases hlt : k < n
    · obtain ⟨a, ha⟩ : ∃ a, xs[k]? = some a := ⟨_, List.getElem?_eq_getElem (by omega)⟩
      obtain ⟨b, o, rfl, hr⟩ := rk_range ac_len (ra.below hSt.2.2.2.2.2.2) ha
      have hlt' : (k : Int) < (n : Int) := by omega
      have hao := oa a (List.mem_of_getElem? ha)
      go_upto_region 11 with (first
        | ((refine at_load_ac _ _ _ _ (by rfl) (by rfl) hr (by rfl) ?_))
        | ((refine at_alloc_ac (by rfl) (by rfl) ?_); intro W6 hX6 hB6 hz6)
        | ((refine at_store_ac _ _ _ _ _ (by rfl) (by rfl) (by rfl) hX6 (by rfl) ?_); intro W7 hX7 hg7 hz7))
      have hb7 : Below wr.heap.size wr W7 := hB6.grown hg7 hB6.size (by simp)
      have hSt7 := hSt.below hb7
      have hGA : ¬ S wr.heap.size := fun q => Nat.lt_irrefl _ (hSt.1.lt _ q)
      have hne : wr.heap.size ≠ G := by have := hSt.2.2.2.2.1.1.lt; omega
      obtain ⟨ki, ai, bi, kq, kn, kc⟩ := a
      obtain ⟨oa1, oa2, ks, lk, bk, rk⟩ := hao
      simp only at oa1 oa2 lk bk rk
      have hc7 := hX7.cell
      simp only [ac] at hc7
      have rk7 := rk.below hSt7.2.2.2.2.2.2
      iterate 10 go_step
      clear hr hX6 hB6 hg7 hSt hb7
      go_cut [9, 10] from 37 to 135 (fun e9 f9 wc => ∃ (E : Int) (d' : Dsk) (r' : Rfd) (S' : Nat → Prop) (p' : Option Addr) (c' : Nat) (q' : Option Addr) (e' : Nat), e9 = .int .i64 E ∧ f9 = .int .i64 E ∧ (St w wc g G (k + 1) d' r' S' p' c' q' e' ∧ Blk wc wr.heap.size 41 (ac (ki, ai, bi, kq, kn, kc)) ∧ ¬ S' wr.heap.size))
      case first =>
        obtain ⟨hD7, od7, or7, hag, hR7, hl7, hb7⟩ := hSt7
        have hSt7' : St w W7 g G k d r S p c q e := ⟨hD7, od7, or7, hag, hR7, hl7, hb7⟩
        have hpl : d.pe.length < 1000 := by omega
        have hrl : r.pe.length < 1000 := by rw [← hag.2.1]; exact hpl
        by_cases k0 : ki = 0
        · subst k0
          go_wp2_with (first
            | ((refine at_build2 _ _ _ _ (by rfl) (by rfl) (by rfl) (by rfl) ?_))
            | ((with_reducible refine (write_any hD7 od7 ai (two bi 7)).mono ?_); rintro e' W8 ⟨rfl, S8, hD8, hF8, hS8⟩; have hR8 := hR7.fr hF8 hS8; have hX8 := hF8.blk hX7 hGA; have hc8 := hX8.cell; simp only [ac] at hc8; have hq8 := hR8.2.2.1; have hp8 := hR8.2.1; have hG8 := hR8.1; clear hc7)
            | ((refine at_load_rd _ _ _ _ _ _ _ (by rfl) (by rfl) hG8 (by rfl) ?_))
            | ((with_reducible refine (rput_any r p c q e ai (two bi 7) _ or7 hq8).mono ?_); rintro e' W9 ⟨q9, c9, rfl, hr9, hn9, hB9⟩; have hX9 := hG8.below hB9)
            | ((refine at_store_rd _ _ _ _ (r.put ai (two bi 7)) p c q9 c9 (by rfl) (by rfl) (by rfl) hX9 (by simp [rl]) (by rfl) ?_); intro W10 hX10 hg10 hz10))
          go_meet
          case rel =>
            have hE := ag_put hag or7 ai (two bi 7)
            exact ⟨d.putE ai, _, _, S8, p, c, q9, c9, rfl, by rw [hE.2], step_done hSt7' hGw hX7 hGA hne hF8 hS8 hD8 hB9 hX10 hg10 (by rw [rput_st]; exact hp8.below hB9) hr9 (.inl ⟨rfl, by rw [rput_st]⟩) hn9 (put_ok od7 _ _ hpl) (rput_ok or7 _ _ hrl) hE.1 (by have := (put_len d ai (two bi 7)).1; omega)⟩
        · have z0 : (ki == 0) = false := by simp [k0]
          by_cases k1 : ki = 1
          · subst k1
            go_wp2_with (first
            | ((with_reducible refine (sync_any hD7 od7).mono ?_); rintro e' W8 ⟨rfl, S8, hD8, hF8, hS8⟩; have hR8 := hR7.fr hF8 hS8; have hX8 := hF8.blk hX7 hGA; have hc8 := hX8.cell; simp only [ac] at hc8; have hq8 := hR8.2.2.1; have hp8 := hR8.2.1; have hG8 := hR8.1; clear hc7)
            | ((refine at_load_rd _ _ _ _ _ _ _ (by rfl) (by rfl) hG8 (by rfl) ?_))
            | ((with_reducible refine (rsync_any r p c q e _ or7 hp8 hq8).mono ?_); rintro e' W9 ⟨p9, k9, q9, c9, rfl, hs9, hr9, hm9, hn9, hB9⟩; have hX9 := hG8.below hB9)
            | ((refine at_store_rd _ _ _ _ r.sync p9 k9 q9 c9 (by rfl) (by rfl) (by rfl) hX9 (by simp [rl]) (by rfl) ?_); intro W10 hX10 hg10 hz10))
            go_meet
            case rel =>
              have hE := ag_err hag
              exact ⟨r.err, _, _, S8, p9, k9, q9, c9, by rw [hE], rfl, step_done hSt7' hGw hX7 hGA hne hF8 hS8 hD8 hB9 hX10 hg10 hs9 hr9 hm9 hn9 (sync_ok od7) (rsync_ok or7) (ag_sync hag or7) (by have := (sync_len d).1; omega)⟩
          · have z1 : (ki == 1) = false := by simp [k1]
            by_cases k2 : ki = 2
            · subst k2
              go_wp2_with (first
            | ((with_reducible refine (break_any hD7 ai).mono ?_); rintro e' W8 ⟨rfl, S8, hD8, hF8, hS8⟩; have hR8 := hR7.fr hF8 hS8; have hX8 := hF8.blk hX7 hGA; have hc8 := hX8.cell; simp only [ac] at hc8; have hq8 := hR8.2.2.1; have hp8 := hR8.2.1; have hG8 := hR8.1; clear hc7)
            | ((refine at_load_rd _ _ _ _ _ _ _ (by rfl) (by rfl) hG8 (by rfl) ?_))
            | ((with_reducible refine (rbreak_any r p c q e ai _).mono ?_); rintro e' W9 ⟨rfl, hB9⟩; have hX9 := hG8.below hB9)
            | ((refine at_store_rd _ _ _ _ (r.breaks ai) p c q e (by rfl) (by rfl) (by rfl) hX9 (by simp [rl]) (by rfl) ?_); intro W10 hX10 hg10 hz10))
              go_meet
              case rel => exact ⟨0, _, _, S8, p, c, q, e, rfl, rfl, step_done hSt7' hGw hX7 hGA hne hF8 hS8 hD8 hB9 hX10 hg10 (hp8.below hB9) (hq8.below hB9) (.inl ⟨rfl, rfl⟩) (.inl ⟨rfl, rfl⟩) (breaks_ok od7 oa2) (rbreaks_ok or7 oa2) (ag_breaks hag ai) (by simp only [Dsk.breaks]; omega)⟩
            · have z2 : (ki == 2) = false := by simp [k2]
              by_cases k3 : ki = 3
              · subst k3
                have hc7a := fun o => (hX7.alloc o).cell
                simp only [ac] at hc7a
                go_wp2_with (first
                  | (at_builtin; refine at_app_bools _ (by rfl) _ _ (by rfl) W7.heap.size (.slice (some ⟨W7.heap.size, 0, none⟩) 0 0) 0 [] (by rfl) (lit_none_k (k := 1) (enc := bc) W7) kq kn kc ks (by rfl) lk (rk7.alloc _) (by omega) (by simp) ?_; intro v8 W8 hown8 hg8; rw [List.nil_append, Nat.zero_add] at hown8; have hb8 : Below W7.heap.size W7 W8 := (bnew W7 _).grown hg8 (by simp) (fun b hb => by simp [Value.ownBlock] at hb; omega); obtain ⟨p8, c8, hv8, hr8, hp8⟩ := own_rk bc_len (by decide) hown8; rw [lk] at hv8; subst hv8; have hX8 := hX7.below hb8; have hD8 := hD7.below hb8; have hR8 := hR7.below hb8; have ho8 : Off S p8 kn := fun _ a ha q => by { have := hp8 a ha; have := hD7.lt _ q; omega })
                  | ((with_reducible refine (crash_any hD8 od7 p8 kn c8 ks lk hr8 ho8).mono ?_); rintro e' W9 ⟨rfl, S9, hD9, hF9, hS9⟩; have hR9 := hR8.fr hF9 hS9; have hX9 := hF9.blk hX8 hGA; have hc9 := hX9.cell; simp only [ac] at hc9; have hq9 := hR9.2.2.1; have hp9 := hR9.2.1; have hG9 := hR9.1; have rk9 := rk.below (bfr (bnext hb7 hb8) hF9 hD7.base); clear hc7 hc7a)
                  | ((refine at_load_rd _ _ _ _ _ _ _ (by rfl) (by rfl) hG9 (by rfl) ?_))
                  | ((with_reducible refine (rcrash_any r p c q e kq kn kc ks _ or7 hp9 hq9 lk rk9).mono ?_); rintro e' W10 ⟨p10, c10, rfl, hr10, hp10, hB10⟩; have hX10 := hG9.below hB10)
                  | ((refine at_store_rd _ _ _ _ (r.crash ks) p10 c10 none 0 (by rfl) (by rfl) (by rfl) hX10 (by simp [rl]) (by rfl) ?_); intro W11 hX11 hg11 hz11))
                go_meet
                case rel => exact ⟨0, _, _, S9, p10, c10, none, 0, rfl, rfl, step_done (hSt7'.below hb8) hGw hX8 hGA hne hF9 hS9 hD9 hB10 hX11 hg11 hr10 (RK.nil _ _) (.inr hp10) (.inr (by simp)) (crash_ok od7 ks) (rcrash_ok or7 ks) (ag_crash hag ks) (by simp [Dsk.crash, Dsk.settled])⟩
              · have z3 : (ki == 3) = false := by simp [k3]
                go_wp2
                go_meet
                case rel => exact ⟨0, d, r, S, p, c, q, e, rfl, rfl, ⟨hD7, od7, or7, hag, hR7, by omega, hb7⟩, hX7, hGA⟩
      case rest =>
        obtain ⟨E, d2, r2, S2', p2, c2, q2, e2, rfl, rfl, ⟨hD, od, or, hag, hR, hl, hb⟩, hXA, hGA2⟩ := hcut
        have hcA := hXA.cell
        simp only [ac] at hcA
        have hq := hR.2.2.1
        have hp := hR.2.1
        have hG := hR.1
        have hrd := ag_read hag od ai
        have hrl2 : r2.pe.length ≤ 1000 := or.2.1
        go_wp2_with (first
          | ((with_reducible refine (read_any hD od ai).mono ?_); rintro e' V1 ⟨rfl, hB1⟩)
          | (have _ := hB4; (refine at_alloc_sec (by rfl) (by rfl) ?_); intro V5 hY5 hB5 hz5)
          | ((refine at_alloc_sec (by rfl) (by rfl) ?_); intro V2 hY2 hB2 hz2)
          | ((refine at_store_sec _ _ _ _ _ (by rfl) (by rfl) (by rfl) hY5 (by rfl) ?_); intro V6 hY6 hg6 hz6; have hb6 := bnext hB4 (hB5.grown hg6 hB5.size (by simp)))
          | ((refine at_store_sec _ _ _ _ _ (by rfl) (by rfl) (by rfl) hY2 (by rfl) ?_); intro V3 hY3 hg3 hz3; have hb3 := bnext hB1 (hB2.grown hg3 hB2.size (by simp)); have hG3 := hG.below hb3; have hcA3 := (hXA.below hb3).cell; simp only [ac] at hcA3; clear hcA)
          | ((refine at_load_rd _ _ _ _ _ _ _ (by rfl) (by rfl) hG3 (by rfl) ?_))
          | ((with_reducible refine (rread_any r2 p2 c2 q2 e2 ai _ hrl2 (hp.below hb3) (hq.below hb3)).mono ?_); rintro e' V4 ⟨rfl, hB4⟩))
        have hneq := ne_secs
        have hgne := ne_guard
        have hdn : d2.dn = r2.dn := hag.2.2.1
        have hpe : d2.pe = r2.pe := hag.2.1
        obtain ⟨Lp, hLp⟩ : ∃ Lp, r2.pe.length = Lp := ⟨_, rfl⟩
        have hdown : ∀ {W : World}, Dk w.heap.size S2' W g d2 → Calls Try.prog 12 #[.pointer (some ⟨g, 0, none⟩)] W fun e w' => e = .returned (.bool r2.dn) ∧ w' = W := fun h => by
          have := down_any h; rw [hdn] at this; exact this
        have hpend : ∀ {W : World}, Dk w.heap.size S2' W g d2 → Calls Try.prog 23 #[.pointer (some ⟨g, 0, none⟩)] W fun e w' => ∃ p c, e = .returned (.slice p Lp c) ∧ Reads .i64 w' p c (places r2.pe) ∧ Below W.heap.size W w' := fun h => by
          have := pending_any h od; rw [hpe, hLp] at this; exact this
        have hlp : Lp ≤ 1000 := by omega
        have hbE := bnext hb3 hb6
        have hDV := hD.below hbE
        have hGV := hG.below hbE
        have hqV := hq.below hbE
        have hrlV : rl r2 p2 c2 q2 e2 = [.slice p2 r2.st.length c2, .slice q2 Lp e2, .bool r2.ct, .int .i64 r2.lf, .bool r2.dn] := by simp [rl, hLp]
        replace hY3 := hY3.below hb6
        clear hpe hdn hY2 hY5 hB2 hB4 hB5 hg3 hg6 hcA3 hrd
        refine Inv.region_inv (fun L a w' => ∃ (pp : Option Addr) (pc : Nat), a = { tmps := #[(Value.int IntKind.i64 x), (Value.slice (some { block := b, off := o }) n c0), (undef), (undef), (u4), (Value.pointer (some { block := g, off := 0 })), (Value.pointer (some { block := G, off := 0 })), (undef), (Value.pointer (some { block := wr.heap.size, off := 0 })), (Value.int IntKind.i64 E), (Value.int IntKind.i64 E), (u11), (Value.pointer (some { block := V1.heap.size, off := 0 })), (Value.int IntKind.i64 (r2.read ai).snd), (Value.pointer (some { block := V4.heap.size, off := 0 })), (Value.int IntKind.i64 (r2.read ai).snd), (undef), (undef), (undef), (undef), (undef), (Value.bool true), (Value.bool false), (Value.int IntKind.i64 x), (Value.bool false), (Value.bool false), (Value.slice (some { block := b, off := o }) n c0), (Value.int IntKind.i64 (n : Int)), (Value.bool false), (Value.bool false), (Value.int IntKind.i64 x), (Value.pointer (some { block := g, off := 0 })), (Value.int IntKind.i64 x), (rv (rfresh (clamp x)) p3 c3 none 0), (Value.slice (some { block := b, off := o }) n c0), (Value.int IntKind.i64 (n : Int)), (Value.int IntKind.i64 (k : Int)), (u37), (u38), (u39), (u40), (u41), (u42), (u43), (u44), (u45), (u46), (u47), (u48), (u49), (u50), (u51), (u52), (u53), (u54), (u55), (u56), (u57), (u58), (u59), (u60), (u61), (u62), (u63), (u64), (u65), (u66), (u67), (u68), (u69), (u70), (u71), (u72), (u73), (u74), (u75), (u76), (u77), (u78), (u79), (u80), (u81), (u82), (u83), (u84), (u85), (u86), (u87), (u88), (u89), (u90), (u91), (u92), (Value.tuple #[secv (r2.read ai).fst, Value.int IntKind.i64 (r2.read ai).snd]), (Value.pointer (some { block := g, off := 0 })), (Value.pointer (some { block := wr.heap.size, off := 1 })), (Value.int IntKind.i64 ai), (Value.tuple #[secv (r2.read ai).fst, Value.int IntKind.i64 (r2.read ai).snd]), (secv (r2.read ai).fst), (Value.int IntKind.i64 (r2.read ai).snd), (Value.tuple #[secv (r2.read ai).fst, Value.int IntKind.i64 (r2.read ai).snd]), (rv r2 p2 c2 q2 e2), (Value.pointer (some { block := wr.heap.size, off := 1 })), (Value.int IntKind.i64 ai), (Value.tuple #[secv (r2.read ai).fst, Value.int IntKind.i64 (r2.read ai).snd]), (secv (r2.read ai).fst), (Value.int IntKind.i64 (r2.read ai).snd), (if L 0 = true then (Value.int IntKind.i64 E) else (u107)), (if L 1 = true then (Value.int IntKind.i64 E) else (u108)), (if L 2 = true then (.bool false) else (u109)), (if L 3 = true then (.bool false) else (u110)), (if L 4 = true then (secv (r2.read ai).fst) else (u111)), (if L 5 = true then (secv (r2.read ai).fst) else (u112)), (if L 6 = true then (.bool false) else (u113)), (if L 7 = true then (.bool false) else (u114)), (if L 8 = true then (.bool false) else (u115)), (if L 9 = true then (Value.int IntKind.i64 (r2.read ai).snd) else (u116)), (if L 10 = true then (Value.int IntKind.i64 (r2.read ai).snd) else (u117)), (if L 11 = true then (.bool false) else (u118)), (if L 12 = true then (.bool false) else (u119)), (if L 13 = true then (.bool false) else (u120)), (if L 14 = true then (Value.pointer (some { block := g, off := 0 })) else (u121)), (if L 15 = true then (.bool r2.dn) else (u122)), (if L 16 = true then (.pointer (some ⟨G, 4, none⟩)) else (u123)), (if L 17 = true then (.bool r2.dn) else (u124)), (if L 18 = true then (.bool false) else (u125)), (if L 19 = true then (.bool false) else (u126)), (if L 20 = true then (.bool false) else (u127)), (if L 21 = true then (Value.pointer (some { block := g, off := 0 })) else (u128)), (if L 22 = true then (.slice pp Lp pc) else (u129)), (if L 23 = true then (.pointer (some ⟨G, 1, none⟩)) else (u130)), (if L 24 = true then (.slice q2 Lp e2) else (u131)), (if L 25 = true then (.bool true) else (u132)), (if L 26 = true then (.bool false) else (u133)), (if L 27 = true then (.bool false) else (u134)), (u135), (undef), (undef), (undef), (undef), (undef), (undef), (undef), (undef), (undef), (undef), (undef), (undef), (undef), (undef), (undef), (undef), (undef), (undef), (undef), (undef), (undef), (undef), (undef), (undef), (undef), (undef), (undef), (undef), (undef), (undef), (undef), (undef), (undef), (undef), (undef), (undef), (undef), (undef), (undef)], defers := [] } ∧ (Below V6.heap.size V6 w' ∧ (L 22 = true → Reads .i64 w' pp pc (places r2.pe)))) (by kernel_rfl) (by kernel_rfl) ?h0 ?step ?done
        case h0 => exact ⟨none, 0, by simp, ⟨(Below.refl _ _).drew, by simp⟩⟩
        case step =>
          refine Inv.Steps.cons rfl ?_ ?_
          · intro L a w' hI hL hd K hK
            obtain ⟨pp, pc, rfl, hI⟩ := hI
            clear hd
            rw [if_pos (by rfl)]
            go_simp
            exact hK.out _ _ ⟨pp, pc, by simp, ⟨hI.1, by simpa using hI.2⟩⟩
          refine Inv.Steps.cons rfl ?_ ?_
          · intro L a w' hI hL hd K hK
            obtain ⟨pp, pc, rfl, hI⟩ := hI
            clear hd
            rw [if_pos (by rfl)]
            go_simp
            exact hK.out _ _ ⟨pp, pc, by simp, ⟨hI.1, by simpa using hI.2⟩⟩
          refine Inv.Steps.cons rfl ?_ ?_
          · intro L a w' hI hL hd K hK
            obtain ⟨pp, pc, rfl, hI⟩ := hI
            simp [Region.binds] at hd
            simp only [hd, if_true]
            rw [if_pos (by rfl)]
            go_simp
            exact hK.out _ _ ⟨pp, pc, by simp [hd], ⟨hI.1, by simpa using hI.2⟩⟩
          refine Inv.Steps.cons rfl ?_ ?_
          · intro L a w' hI hL hd K hK
            obtain ⟨pp, pc, rfl, hI⟩ := hI
            simp [Region.binds] at hd
            simp only [hd, if_true]
            rw [if_pos (by rfl)]
            go_simp
            exact hK.out _ _ ⟨pp, pc, by simp [hd], ⟨hI.1, by simpa using hI.2⟩⟩
          refine Inv.Steps.cons rfl ?_ ?_
          · intro L a w' hI hL hd K hK
            obtain ⟨pp, pc, rfl, hI⟩ := hI
            simp [Region.binds] at hd
            simp only [hd, if_true]
            rw [if_pos (by rfl)]
            refine wp_load_sec _ _ _ _ (by rfl) (by rfl) (blk_sec (hY3.below hI.1)) ?_
            exact hK.out _ _ ⟨pp, pc, by simp [hd, Act.put], ⟨hI.1, by simpa using hI.2⟩⟩
          refine Inv.Steps.cons rfl ?_ ?_
          · intro L a w' hI hL hd K hK
            obtain ⟨pp, pc, rfl, hI⟩ := hI
            simp [Region.binds] at hd
            simp only [hd, if_true]
            rw [if_pos (by rfl)]
            refine wp_load_sec _ _ _ _ (by rfl) (by rfl) (blk_sec (hY6.below hI.1)) ?_
            exact hK.out _ _ ⟨pp, pc, by simp [hd, Act.put], ⟨hI.1, by simpa using hI.2⟩⟩
          refine Inv.Steps.cons rfl ?_ ?_
          · intro L a w' hI hL hd K hK
            obtain ⟨pp, pc, rfl, hI⟩ := hI
            simp [Region.binds] at hd
            simp only [hd, if_true]
            rw [if_pos (by rfl)]
            go_simp
            exact hK.out _ _ ⟨pp, pc, by simp [hd], ⟨hI.1, by simpa using hI.2⟩⟩
          refine Inv.Steps.cons rfl ?_ ?_
          · intro L a w' hI hL hd K hK
            obtain ⟨pp, pc, rfl, hI⟩ := hI
            simp [Region.binds] at hd
            simp only [hd, if_true]
            rw [if_pos (by rfl)]
            go_simp
            exact hK.out _ _ ⟨pp, pc, by simp [hd], ⟨hI.1, by simpa using hI.2⟩⟩
          refine Inv.Steps.cons rfl ?_ ?_
          · intro L a w' hI hL hd K hK
            obtain ⟨pp, pc, rfl, hI⟩ := hI
            simp [Region.binds] at hd
            simp only [hd, if_true]
            rw [if_pos (by rfl)]
            go_simp
            exact hK.out _ _ ⟨pp, pc, by simp [hd], ⟨hI.1, by simpa using hI.2⟩⟩
          refine Inv.Steps.cons rfl ?_ ?_
          · intro L a w' hI hL hd K hK
            obtain ⟨pp, pc, rfl, hI⟩ := hI
            simp [Region.binds] at hd
            simp only [hd, if_true]
            rw [if_pos (by rfl)]
            go_simp
            exact hK.out _ _ ⟨pp, pc, by simp [hd], ⟨hI.1, by simpa using hI.2⟩⟩
          refine Inv.Steps.cons rfl ?_ ?_
          · intro L a w' hI hL hd K hK
            obtain ⟨pp, pc, rfl, hI⟩ := hI
            simp [Region.binds] at hd
            simp only [hd, if_true]
            rw [if_pos (by rfl)]
            go_simp
            exact hK.out _ _ ⟨pp, pc, by simp [hd], ⟨hI.1, by simpa using hI.2⟩⟩
          refine Inv.Steps.cons rfl ?_ ?_
          · intro L a w' hI hL hd K hK
            obtain ⟨pp, pc, rfl, hI⟩ := hI
            simp [Region.binds] at hd
            simp only [hd, if_true]
            rw [if_pos (by rfl)]
            go_simp
            exact hK.out _ _ ⟨pp, pc, by simp [hd], ⟨hI.1, by simpa using hI.2⟩⟩
          refine Inv.Steps.cons rfl ?_ ?_
          · intro L a w' hI hL hd K hK
            obtain ⟨pp, pc, rfl, hI⟩ := hI
            simp [Region.binds] at hd
            simp only [hd, if_true]
            rw [if_pos (by rfl)]
            go_simp
            exact hK.out _ _ ⟨pp, pc, by simp [hd], ⟨hI.1, by simpa using hI.2⟩⟩
          refine Inv.Steps.cons rfl ?_ ?_
          · intro L a w' hI hL hd K hK
            obtain ⟨pp, pc, rfl, hI⟩ := hI
            simp [Region.binds] at hd
            simp only [hd, if_true]
            rw [if_pos (by rfl)]
            go_simp
            exact hK.out _ _ ⟨pp, pc, by simp [hd], ⟨hI.1, by simpa using hI.2⟩⟩
          refine Inv.Steps.cons rfl ?_ ?_
          · intro L a w' hI hL hd K hK
            obtain ⟨pp, pc, rfl, hI⟩ := hI
            simp [Region.binds] at hd
            simp only [hd, if_true]
            rw [if_pos (by rfl)]
            go_simp
            exact hK.out _ _ ⟨pp, pc, by simp [hd], ⟨hI.1, by simpa using hI.2⟩⟩
          refine Inv.Steps.cons rfl ?_ ?_
          · intro L a w' hI hL hd K hK
            obtain ⟨pp, pc, rfl, hI⟩ := hI
            simp [Region.binds] at hd
            simp only [hd, if_true]
            rw [if_pos (by rfl)]
            go_simp
            refine (hdown (hDV.below hI.1)).mono ?_
            rintro e6 w6 ⟨rfl, rfl⟩
            exact hK.out _ _ ⟨pp, pc, by simp [hd], ⟨hI.1, by simpa using hI.2⟩⟩
          refine Inv.Steps.cons rfl ?_ ?_
          · intro L a w' hI hL hd K hK
            obtain ⟨pp, pc, rfl, hI⟩ := hI
            simp [Region.binds] at hd
            simp only [hd, if_true]
            rw [if_pos (by rfl)]
            go_simp
            exact hK.out _ _ ⟨pp, pc, by simp [hd], ⟨hI.1, by simpa using hI.2⟩⟩
          refine Inv.Steps.cons rfl ?_ ?_
          · intro L a w' hI hL hd K hK
            obtain ⟨pp, pc, rfl, hI⟩ := hI
            simp [Region.binds] at hd
            simp only [hd, if_true]
            rw [if_pos (by rfl)]
            have hc := (hGV.below hI.1).cell
            rw [hrlV] at hc
            go_simp
            exact hK.out _ _ ⟨pp, pc, by simp [hd], ⟨hI.1, by simpa using hI.2⟩⟩
          refine Inv.Steps.cons rfl ?_ ?_
          · intro L a w' hI hL hd K hK
            obtain ⟨pp, pc, rfl, hI⟩ := hI
            simp [Region.binds] at hd
            simp only [hd, if_true]
            rw [if_pos (by rfl)]
            go_simp
            exact hK.out _ _ ⟨pp, pc, by simp [hd], ⟨hI.1, by simpa using hI.2⟩⟩
          refine Inv.Steps.cons rfl ?_ ?_
          · intro L a w' hI hL hd K hK
            obtain ⟨pp, pc, rfl, hI⟩ := hI
            simp [Region.binds] at hd
            simp only [hd, if_true]
            rw [if_pos (by rfl)]
            go_simp
            exact hK.out _ _ ⟨pp, pc, by simp [hd], ⟨hI.1, by simpa using hI.2⟩⟩
          refine Inv.Steps.cons rfl ?_ ?_
          · intro L a w' hI hL hd K hK
            obtain ⟨pp, pc, rfl, hI⟩ := hI
            simp [Region.binds] at hd
            simp only [hd, if_true]
            rw [if_pos (by rfl)]
            go_simp
            exact hK.out _ _ ⟨pp, pc, by simp [hd], ⟨hI.1, by simpa using hI.2⟩⟩
          refine Inv.Steps.cons rfl ?_ ?_
          · intro L a w' hI hL hd K hK
            obtain ⟨pp, pc, rfl, hI⟩ := hI
            simp [Region.binds] at hd
            simp only [hd, if_true]
            rw [if_pos (by rfl)]
            go_simp
            exact hK.out _ _ ⟨pp, pc, by simp [hd], ⟨hI.1, by simpa using hI.2⟩⟩
          refine Inv.Steps.cons rfl ?_ ?_
          · intro L a w' hI hL hd K hK
            obtain ⟨pp, pc, rfl, hI⟩ := hI
            simp [Region.binds] at hd
            simp only [hd, if_true]
            rw [if_pos (by rfl)]
            go_simp
            refine (hpend (hDV.below hI.1)).mono ?_
            rintro e6 w6 ⟨pp6, pc6, rfl, hr6, hb6⟩
            exact hK.out _ _ ⟨pp6, pc6, by simp [hd], bnext hI.1 hb6, fun _ => hr6⟩
          refine Inv.Steps.cons rfl ?_ ?_
          · intro L a w' hI hL hd K hK
            obtain ⟨pp, pc, rfl, hI⟩ := hI
            simp [Region.binds] at hd
            simp only [hd, if_true]
            rw [if_pos (by rfl)]
            go_simp
            exact hK.out _ _ ⟨pp, pc, by simp [hd], ⟨hI.1, by simpa using hI.2⟩⟩
          refine Inv.Steps.cons rfl ?_ ?_
          · intro L a w' hI hL hd K hK
            obtain ⟨pp, pc, rfl, hI⟩ := hI
            simp [Region.binds] at hd
            simp only [hd, if_true]
            rw [if_pos (by rfl)]
            have hc := (hGV.below hI.1).cell
            rw [hrlV] at hc
            go_simp
            exact hK.out _ _ ⟨pp, pc, by simp [hd], ⟨hI.1, by simpa using hI.2⟩⟩
          refine Inv.Steps.cons rfl ?_ ?_
          · intro L a w' hI hL hd K hK
            obtain ⟨pp, pc, rfl, hI⟩ := hI
            simp [Region.binds] at hd
            simp only [hd, if_true]
            rw [if_pos (by rfl)]
            go_simp
            refine (same_any pp pc q2 e2 Lp r2.pe _ hLp hlp (hI.2 (by simp [hd])) (hqV.below hI.1)).mono ?_
            rintro e6 w6 ⟨rfl, hb6⟩
            exact hK.out _ _ ⟨pp, pc, by simp [hd], bnext hI.1 hb6, fun h => (hI.2 (by simpa using h)).below hb6⟩
          refine Inv.Steps.cons rfl ?_ ?_
          · intro L a w' hI hL hd K hK
            obtain ⟨pp, pc, rfl, hI⟩ := hI
            simp [Region.binds] at hd
            simp only [hd, if_true]
            rw [if_pos (by rfl)]
            go_simp
            exact hK.out _ _ ⟨pp, pc, by simp [hd], ⟨hI.1, by simpa using hI.2⟩⟩
          refine Inv.Steps.cons rfl ?_ ?_
          · intro L a w' hI hL hd K hK
            obtain ⟨pp, pc, rfl, hI⟩ := hI
            simp [Region.binds] at hd
            simp only [hd, if_true]
            rw [if_pos (by rfl)]
            go_simp
            exact hK.out _ _ ⟨pp, pc, by simp [hd], ⟨hI.1, by simpa using hI.2⟩⟩
          exact Inv.Steps.nil (by decide)
        case done =>
          intro L a w' hI hall
          obtain ⟨pp, pc, rfl, hI⟩ := hI
          simp only [hall, if_true] at hI ⊢
          have hbV := hI.1
          go_wp2
          go_roundw
          case rel => exact ⟨k + 1, d2, r2, S2', p2, c2, q2, e2, by omega, by go_num, ⟨hDV.below hbV, od, or, hag, (hR.below hbE).below hbV, hl, bnext (bnext hb hbE) hbV⟩⟩
          case measure => simp [intOf]; omega
    · obtain ⟨hD, od, or, hag, hR, hl, hb⟩ := hSt
      have hst : d.st = r.st := hag.1
      obtain ⟨N, hN⟩ : ∃ N, r.st.length = N := ⟨_, rfl⟩
      have hG := hR.1
      have hc := hG.cell
      rw [show rl r p c q e = [.slice p N c, .slice q r.pe.length e, .bool r.ct, .int .i64 r.lf, .bool r.dn] by simp [rl, hN]] at hc
      have hlen : ∀ {W : World}, Dk w.heap.size S W g d → Calls Try.prog 13 #[.pointer (some ⟨g, 0, none⟩)] W fun e w' => e = .returned (.int .i64 (N : Int)) ∧ w' = W := fun h => by
        have := len_any h; rw [hst, hN] at this; exact this
      go_upto_region 30 with fail
      go_cut [141] from 136 (fun v wc => v = .bool false ∧ Below wr.heap.size wr wc)
      case first =>
        have hD' := hD.below ((Below.refl wr.heap.size wr).drew)
        go_region_with (((with_reducible refine (hlen hD').mono ?_); rintro e' w' ⟨rfl, rfl⟩))
        all_goals
          go_wp2
          go_meet
          case rel => exact ⟨by simp, (Below.refl _ _).drew⟩
      case rest =>
        obtain ⟨rfl, hbx0⟩ := hcut
        have hDx := hD.below hbx0
        have hGx := hG.below hbx0
        have hpx := hR.2.1.below hbx0
        have hbw := bnext hb hbx0
        have hnl := or.1
        rw [hN] at hnl
        have hrlN : rl r p c q e = [.slice p N c, .slice q r.pe.length e, .bool r.ct, .int .i64 r.lf, .bool r.dn] := by simp [rl, hN]
        have hc2 := hGx.cell
        rw [hrlN] at hc2
        clear hc hSt
        go_wp2
        clear hc2
        go_loopw [145] (fun t wr => ∃ i : Nat, i ≤ N ∧ t = .int .i64 i ∧ Below wc.heap.size wc wr) (fun t _ => N - (intOf t).toNat)
        case atStart => exact ⟨0, Nat.zero_le _, rfl, Below.refl _ _⟩
        case round =>
          obtain ⟨i, hi, rfl, hbx⟩ := hrel
          by_cases hiN : i < N
          · obtain ⟨si, hsi⟩ : ∃ si, r.st[i]? = some si := ⟨_, List.getElem?_eq_getElem (by omega)⟩
            obtain ⟨b5, o5, rfl, hr5⟩ := rk_range sc_len (hpx.below hbx) hsi
            have hsb : stab d.st (i : Int) = (si, 0) := by
              unfold stab
              rw [hst, hN, if_pos (by simp [has]; exact hiN)]
              simp [hsi]
            have hstab : Calls Try.prog 24 #[.pointer (some ⟨g, 0, none⟩), .int .i64 (i : Int)] wr fun e w' => e = .returned (.tuple #[secv si, .int .i64 0]) ∧ Below wr.heap.size wr w' := by
              have := stable_any (hDx.below hbx) (i : Int); rw [hsb] at this; exact this
            have hiN' : (i : Int) < (N : Int) := by omega
            have hneq := ne_secs
            have hgne := ne_guard
            go_wp2_with (first
              | ((with_reducible refine hstab.mono ?_); rintro e' V1 ⟨rfl, hB1⟩)
              | ((refine at_alloc_sec (by rfl) (by rfl) ?_); intro V2 hY2 hB2 hz2)
              | ((refine at_store_sec _ _ _ _ _ (by rfl) (by rfl) (by rfl) hY2 (by rfl) ?_); intro V3 hY3 hg3 hz3))
            have hbE : Below wr.heap.size wr V3 := bnext hB1 (hB2.grown hg3 hB2.size (by simp))
            have hGV := (hGx.below hbx).below hbE
            have hrs : ∀ {W : World}, Below V3.heap.size V3 W → W.rangeAt b5 (o5 + i * 64) (sc si) := fun {W} hW j v hv => by
              have h1 := hr5 j v hv
              have h2 := (bnext hbE hW).cell (p := ⟨b5, o5 + i * 64 + j, none⟩) (block_lt_of_cell h1)
              rw [h2]
              exact h1
            clear hsb hstab hr5 hY2 hB1 hB2 hg3
            refine Inv.region_inv (fun L a w' => a = { tmps := #[(Value.int IntKind.i64 x), (Value.slice q0 n c0), (undef), (undef), (u4), (Value.pointer (some { block := g, off := 0 })), (Value.pointer (some { block := G, off := 0 })), (undef), (u8), (u9), (u10), (u11), (u12), (u13), (u14), (u15), (Value.int IntKind.i64 (i : Int)), (Value.pointer (some { block := V1.heap.size, off := 0 })), (Value.int IntKind.i64 0), (undef), (undef), (Value.bool true), (Value.bool false), (Value.int IntKind.i64 x), (Value.bool false), (Value.bool false), (Value.slice q0 n c0), (Value.int IntKind.i64 (n : Int)), (Value.bool false), (Value.bool false), (Value.int IntKind.i64 x), (Value.pointer (some { block := g, off := 0 })), (Value.int IntKind.i64 x), (rv (rfresh (clamp x)) p3 c3 none 0), (Value.slice q0 n c0), (Value.int IntKind.i64 (n : Int)), (Value.int IntKind.i64 (k : Int)), (Value.bool false), (u38), (u39), (u40), (u41), (u42), (u43), (u44), (u45), (u46), (u47), (u48), (u49), (u50), (u51), (u52), (u53), (u54), (u55), (u56), (u57), (u58), (u59), (u60), (u61), (u62), (u63), (u64), (u65), (u66), (u67), (u68), (u69), (u70), (u71), (u72), (u73), (u74), (u75), (u76), (u77), (u78), (u79), (u80), (u81), (u82), (u83), (u84), (u85), (u86), (u87), (u88), (u89), (u90), (u91), (u92), (u93), (u94), (u95), (u96), (u97), (u98), (u99), (u100), (u101), (u102), (u103), (u104), (u105), (u106), (u107), (u108), (u109), (u110), (u111), (u112), (u113), (u114), (u115), (u116), (u117), (u118), (u119), (u120), (u121), (u122), (u123), (u124), (u125), (u126), (u127), (u128), (u129), (u130), (u131), (u132), (u133), (u134), (u135), (u136), (u137), (u138), (u139), (u140), (Value.bool false), (Value.pointer (some { block := G, off := 0 })), (Value.slice (some { block := b5, off := o5 }) N c), (Value.int IntKind.i64 (N : Int)), (Value.int IntKind.i64 (i : Int)), (Value.bool true), (Value.int IntKind.i64 (i : Int)), (Value.tuple #[secv si, Value.int IntKind.i64 0]), (Value.pointer (some { block := g, off := 0 })), (Value.int IntKind.i64 (i : Int)), (Value.tuple #[secv si, Value.int IntKind.i64 0]), (secv si), (Value.int IntKind.i64 0), (if L 0 = true then (Value.int IntKind.i64 0) else (u154)), (if L 1 = true then (.bool false) else (u155)), (if L 2 = true then (.bool false) else (u156)), (if L 3 = true then (secv si) else (u157)), (if L 4 = true then (.pointer (some ⟨G, 0, none⟩)) else (u158)), (if L 5 = true then (.slice (some ⟨b5, o5, none⟩) N c) else (u159)), (if L 6 = true then (Value.int IntKind.i64 (i : Int)) else (u160)), (if L 7 = true then (.pointer (some ⟨b5, o5 + i * 64, none⟩)) else (u161)), (if L 8 = true then (secv si) else (u162)), (if L 9 = true then (.bool false) else (u163)), (if L 10 = true then (.bool false) else (u164)), (u165), (u166), (u167), (u168), (u169), (u170), (u171), (u172), (u173), (u174)], defers := [] } ∧ (Below V3.heap.size V3 w')) (by kernel_rfl) (by kernel_rfl) ?h0 ?step ?done
            case h0 => exact ⟨by simp, (Below.refl _ _).drew⟩
            case step =>
              refine Inv.Steps.cons rfl ?_ ?_
              · intro L a w' hI hL hd K hK
                obtain ⟨rfl, hI⟩ := hI
                clear hd
                rw [if_pos (by rfl)]
                go_simp
                exact hK.out _ _ ⟨by simp, hI⟩
              refine Inv.Steps.cons rfl ?_ ?_
              · intro L a w' hI hL hd K hK
                obtain ⟨rfl, hI⟩ := hI
                simp [Region.binds] at hd
                simp only [hd, if_true]
                rw [if_pos (by rfl)]
                go_simp
                exact hK.out _ _ ⟨by simp [hd], hI⟩
              refine Inv.Steps.cons rfl ?_ ?_
              · intro L a w' hI hL hd K hK
                obtain ⟨rfl, hI⟩ := hI
                simp [Region.binds] at hd
                simp only [hd, if_true]
                rw [if_pos (by rfl)]
                go_simp
                exact hK.out _ _ ⟨by simp [hd], hI⟩
              refine Inv.Steps.cons rfl ?_ ?_
              · intro L a w' hI hL hd K hK
                obtain ⟨rfl, hI⟩ := hI
                simp [Region.binds] at hd
                simp only [hd, if_true]
                rw [if_pos (by rfl)]
                refine wp_load_sec _ _ _ _ (by rfl) (by rfl) (blk_sec (hY3.below hI)) ?_
                exact hK.out _ _ ⟨by simp [hd, Act.put], hI⟩
              refine Inv.Steps.cons rfl ?_ ?_
              · intro L a w' hI hL hd K hK
                obtain ⟨rfl, hI⟩ := hI
                simp [Region.binds] at hd
                simp only [hd, if_true]
                rw [if_pos (by rfl)]
                go_simp
                exact hK.out _ _ ⟨by simp [hd], hI⟩
              refine Inv.Steps.cons rfl ?_ ?_
              · intro L a w' hI hL hd K hK
                obtain ⟨rfl, hI⟩ := hI
                simp [Region.binds] at hd
                simp only [hd, if_true]
                rw [if_pos (by rfl)]
                have hc := (hGV.below hI).cell
                rw [hrlN] at hc
                go_simp
                exact hK.out _ _ ⟨by simp [hd], hI⟩
              refine Inv.Steps.cons rfl ?_ ?_
              · intro L a w' hI hL hd K hK
                obtain ⟨rfl, hI⟩ := hI
                simp [Region.binds] at hd
                simp only [hd, if_true]
                rw [if_pos (by rfl)]
                go_simp
                exact hK.out _ _ ⟨by simp [hd], hI⟩
              refine Inv.Steps.cons rfl ?_ ?_
              · intro L a w' hI hL hd K hK
                obtain ⟨rfl, hI⟩ := hI
                simp [Region.binds] at hd
                simp only [hd, if_true]
                rw [if_pos (by rfl)]
                go_simp
                exact hK.out _ _ ⟨by simp [hd], hI⟩
              refine Inv.Steps.cons rfl ?_ ?_
              · intro L a w' hI hL hd K hK
                obtain ⟨rfl, hI⟩ := hI
                simp [Region.binds] at hd
                simp only [hd, if_true]
                rw [if_pos (by rfl)]
                refine wp_load_sec _ _ _ _ (by rfl) (by rfl) (hrs hI) ?_
                exact hK.out _ _ ⟨by simp [hd, Act.put], hI⟩
              refine Inv.Steps.cons rfl ?_ ?_
              · intro L a w' hI hL hd K hK
                obtain ⟨rfl, hI⟩ := hI
                simp [Region.binds] at hd
                simp only [hd, if_true]
                rw [if_pos (by rfl)]
                go_simp
                exact hK.out _ _ ⟨by simp [hd], hI⟩
              refine Inv.Steps.cons rfl ?_ ?_
              · intro L a w' hI hL hd K hK
                obtain ⟨rfl, hI⟩ := hI
                simp [Region.binds] at hd
                simp only [hd, if_true]
                rw [if_pos (by rfl)]
                go_simp
                exact hK.out _ _ ⟨by simp [hd], hI⟩
              exact Inv.Steps.nil (by decide)
            case done =>
              intro L a w' hI hall
              obtain ⟨rfl, hI⟩ := hI
              simp only [hall, if_true] at hI ⊢
              go_wp2
              go_roundw
              case rel => exact ⟨i + 1, by omega, by go_num, bnext hbx (bnext hbE hI)⟩
              case measure => simp [intOf]; omega
          · have hsb : stab d.st (N : Int) = (zero, 71) := by
              unfold stab
              rw [hst, hN, if_neg (by simp [has])]
            have hstab : Calls Try.prog 24 #[.pointer (some ⟨g, 0, none⟩), .int .i64 (N : Int)] wr fun e w' => e = .returned (.tuple #[secv zero, .int .i64 71]) ∧ Below wr.heap.size wr w' := by
              have := stable_any (hDx.below hbx) (N : Int); rw [hsb] at this; exact this
            have hDr := hDx.below hbx
            clear hsb
            go_wp2_with (first
              | ((with_reducible refine (hlen hDr).mono ?_); rintro e' w' ⟨rfl, rfl⟩)
              | ((with_reducible refine hstab.mono ?_); rintro e' V1 ⟨rfl, hB1⟩)
              | ((refine at_alloc_sec (by rfl) (by rfl) ?_); intro V2 hY2 hB2 hz2)
              | ((refine at_store_sec _ _ _ _ _ (by rfl) (by rfl) (by rfl) hY2 (by rfl) ?_); intro V3 hY3 hg3 hz3))
            go_ret
            exact ⟨rfl, bnext (bnext hbw hbx) (bnext hB1 (hB2.grown hg3 hB2.size (by simp)))⟩
end Go.Proofs.Ythpkmkknipkcbaa.Disk
