/-
  A log with its disk, as a law carries it along: what Append, Sync, Break make of both.
-/
import Derived.Test.YthgafnommcodcaaWalSame
import Derived.Test.YthgafnommcodcaaWalFine
namespace Go.Proofs.Ythgafnommcodcaa.Wal
open Go.RowKit Go.Proofs.Ythgafnommcodcaa.Mem Go.Proofs.Ythgafnommcodcaa.Sect Go.Proofs.Ythgafnommcodcaa.Frame Go.Proofs.Ythgafnommcodcaa.Disk Go.Proofs.Ythgafnommcodcaa.Area
set_option maxRecDepth 100000

/-- The log at gl, its disk at g; its records ps, of which so many are safe. -/
def Lg (B : Nat) (S0 : Nat → Prop) (w : World) (g gl n S st ep nx0 : Nat) (d : Dsk) (j t : Nat) (ps : List (List Int)) (safe : Nat) : Prop :=
  Dk B S0 w g d ∧ Blk w gl 86 (lgc g ep (nx0 + ps.length) st (segOf S st j) t) ∧ ¬ S0 gl ∧ B ≤ gl ∧ Kept n S st ep nx0 d j t ps safe ∧ Byt d ∧ Can n S st j t
section
variable {B g gl n S st ep nx0 j t safe : Nat} {S0 : Nat → Prop} {w w' : World} {d : Dsk} {ps : List (List Int)}
theorem Lg.ok (h : Lg B S0 w g gl n S st ep nx0 d j t ps safe) : d.ok := h.2.2.2.2.1.1
theorem Lg.len (h : Lg B S0 w g gl n S st ep nx0 d j t ps safe) : d.st.length = n := h.2.2.2.2.1.2.1
theorem Lg.can (h : Lg B S0 w g gl n S st ep nx0 d j t ps safe) : Can d.st.length S st j t := by rw [h.len]; exact h.2.2.2.2.2.2
theorem Lg.below (h : Lg B S0 w g gl n S st ep nx0 d j t ps safe) (hb : Below w.heap.size w w') : Lg B S0 w' g gl n S st ep nx0 d j t ps safe :=
  ⟨h.1.below hb, h.2.1.below hb, h.2.2⟩
theorem Lg.lts (h : Lg B S0 w g gl n S st ep nx0 d j t ps safe) : ∀ k, (S0 k ∨ k = gl) → B ≤ k ∧ k < w.heap.size := fun k hk => by
  rcases hk with hk | rfl
  · exact ⟨h.1.base k hk, h.1.lt k hk⟩
  · exact ⟨h.2.2.2.1, h.2.1.lt⟩
/-- What became of the disk alone. -/
theorem Lg.went {d' : Dsk} {safe' : Nat} (h : Lg B S0 w g gl n S st ep nx0 d j t ps safe) {S' : Nat → Prop} (hD : Dk B S' w' g d') (hF : Fr S0 w w') (hS : ∀ k, S' k → S0 k ∨ w.heap.size ≤ k) (hK : Kept n S st ep nx0 d' j t ps safe') (hb : Byt d') : Lg B S' w' g gl n S st ep nx0 d' j t ps safe' := by
  obtain ⟨h1, h2, h3, h4, h5, h6, h7⟩ := h
  refine ⟨hD, hF.blk h2 h3, fun q => ?_, h4, hK, hb, h7⟩
  rcases hS _ q with q | q
  · exact h3 q
  · have := h2.lt; omega
theorem to_place {z : Nat} (hf : free S j t z = true) : (t + z ≤ 16 ∧ toJ j t z = j ∧ toT t z = t) ∨ (16 < t + z ∧ j + 1 < S ∧ toJ j t z = j + 1 ∧ toT t z = 0) := by
  unfold free at hf
  simp only [Bool.or_eq_true, decide_eq_true_eq] at hf
  unfold toJ toT
  by_cases h : t + z ≤ 16
  · exact .inl ⟨h, if_pos h, if_pos h⟩
  · exact .inr ⟨by omega, by omega, if_neg h, if_neg h⟩
theorem room_parts {nx z : Nat} (h : room S j t nx z = true) : 0 < z ∧ nx ≠ 0 ∧ free S j t z = true := by
  unfold room at h
  simp only [Bool.and_eq_true, decide_eq_true_eq] at h
  exact h
theorem size_pos {m : Nat} (h : 0 < size m) : m ≤ 700 := by
  unfold size at h
  split at h <;> omega
/-- An append that went well. -/
theorem lg_append (h : Lg B S0 w g gl n S st ep nx0 d j t ps safe) (q : Option Addr) (m c : Nat) (p : List Int) (hm : p.length = m) (hpb : ∀ c ∈ p, Byte c) (r : Reads .u8 w q c p) (hr : room S j t (nx0 + ps.length) (size m) = true) (hn : nx0 + ps.length + 1 < 18446744073709551616) (hep : ep < 4294967296) (hpe : d.pe.length ≤ 900)
    (hE : (writes d (adr S st (toJ j t (size m)) (toT t (size m))) (made (nx0 + ps.length) ep p)).2 = 0) :
    Calls Try.prog 15 #[.pointer (some ⟨gl, 0, none⟩), .slice q m c] w fun e w' => e = .returned (.tuple #[.int .u64 ((nx0 + ps.length : Nat) : Int), .int .i64 0]) ∧
      ∃ S' d', Lg B S' w' g gl n S st ep nx0 d' (toJ j t (size m)) (toT t (size m) + size m) (ps ++ [p]) safe ∧ Fr (fun k => S0 k ∨ k = gl) w w' ∧ (∀ k, S' k → S0 k ∨ w.heap.size ≤ k) ∧ d' = (writes d (adr S st (toJ j t (size m)) (toT t (size m))) (made (nx0 + ps.length) ep p)).1 := by
  have hlen := h.len
  have hcan := h.can
  obtain ⟨h1, h2, h3, h4, h5, h6, h7⟩ := h
  obtain ⟨r1, r2, r3⟩ := room_parts hr
  have hm7 := size_pos r1
  have hrt := right_of (p := p) (by omega) r2
  obtain ⟨⟨D, E⟩, hD⟩ : ∃ D, writes d (adr S st (toJ j t (size m)) (toT t (size m))) (made (nx0 + ps.length) ep p) = D := ⟨_, rfl⟩
  have ha := wal_Append_room h1 h2 h3 hcan h5.1 q m c p hm hpb r hr (by omega) hep (by omega) hD
  have hk := kept_write h5 h7.2.2.1 p hrt hpe (toJ j t (size m)) (toT t (size m)) (by rw [hm]; exact to_place r3) hE
  have hby := byt_writes (made (nx0 + ps.length) ep p) d (adr S st (toJ j t (size m)) (toT t (size m))) h6 (bs_made hpb)
  rw [hD] at hE hk hby
  rw [hm] at hk
  rw [hD]
  simp only at hE hk hby ⊢
  refine ha.mono ?_
  rintro e w' (⟨-, rfl, S', k1, k2, k3, k4⟩ | ⟨hne, -⟩)
  · refine ⟨rfl, S', D, ⟨k1, ?_, fun q => ?_, h4, hk, hby, ?_⟩, k2, k3, rfl⟩
    · have e1 : more (nx0 + ps.length) = nx0 + (ps ++ [p]).length := by
        unfold more
        rw [List.length_append, List.length_singleton, Nat.mod_eq_of_lt (by omega)]
        omega
      rw [← e1]
      exact k4
    · rcases k3 _ q with q | q
      · exact h3 q
      · have := h2.lt; omega
    · obtain ⟨c1, c2, c3, c4, c5, c6⟩ := h7
      exact ⟨c1, c2, c3, c4, hk.2.2.1, hk.2.2.2.1⟩
  · exact absurd hE hne
/-- The disk let it down: what was synced stays. -/
theorem lg_append_down (h : Lg B S0 w g gl n S st ep nx0 d j t ps safe) (q : Option Addr) (m c : Nat) (p : List Int) (hm : p.length = m) (hpb : ∀ c ∈ p, Byte c) (r : Reads .u8 w q c p) (hr : room S j t (nx0 + ps.length) (size m) = true) (hn : nx0 + ps.length + 1 < 18446744073709551616) (hep : ep < 4294967296) (hpe : d.pe.length ≤ 900)
    (hE : (writes d (adr S st (toJ j t (size m)) (toT t (size m))) (made (nx0 + ps.length) ep p)).2 ≠ 0) :
    Calls Try.prog 15 #[.pointer (some ⟨gl, 0, none⟩), .slice q m c] w fun e w' => e = .returned (.tuple #[.int .u64 0, .int .i64 72]) ∧
      ∃ S' d', Dk B S' w' g d' ∧ d'.ok ∧ Byt d' ∧ d'.st.length = n ∧ d'.dn = true ∧ (∃ e, Safe S st ep nx0 d' ps safe e) ∧ Fr (fun k => S0 k ∨ k = gl) w w' ∧ (∀ k, S' k → S0 k ∨ w.heap.size ≤ k) := by
  have hlen := h.len
  have hcan := h.can
  obtain ⟨h1, h2, h3, h4, h5, h6, h7⟩ := h
  obtain ⟨r1, r2, r3⟩ := room_parts hr
  have hm7 := size_pos r1
  have hrt := right_of (p := p) (by omega) r2
  have hML := made_len (e := ep) hrt
  rw [hm] at hML
  have hfit : toT t (size m) + size m ≤ 16 := to_fits (t := t) (size_le m)
  have hpl := to_place r3
  have hJ : toJ j t (size m) < S := by have := h5.2.2.1; rcases hpl with ⟨_, e, _⟩ | ⟨_, _, e, _⟩ <;> omega
  have hah : 16 * j + t ≤ 16 * toJ j t (size m) + toT t (size m) := by have := h5.2.2.2.1; rcases hpl with ⟨_, e, e2⟩ | ⟨_, _, e, e2⟩ <;> omega
  have hsw := safe_write h5 h7.2.2.1 (made (nx0 + ps.length) ep p) (toJ j t (size m)) (toT t (size m)) hJ (by rw [hML]; exact hfit) (by rw [hML]; exact r1) hah
  have hall := writes_all (made (nx0 + ps.length) ep p) d (adr S st (toJ j t (size m)) (toT t (size m))) (by rw [hlen, hML]; exact adr_fits h7.2.2.1 (by have := h5.2.2.1; omega) hfit r1)
  have hok := writes_ok (made (nx0 + ps.length) ep p) d (adr S st (toJ j t (size m)) (toT t (size m))) h5.1 (by rw [hML]; have := size_le m; omega)
  have hby := byt_writes (made (nx0 + ps.length) ep p) d (adr S st (toJ j t (size m)) (toT t (size m))) h6 (bs_made hpb)
  obtain ⟨⟨D, E⟩, hD⟩ : ∃ D, writes d (adr S st (toJ j t (size m)) (toT t (size m))) (made (nx0 + ps.length) ep p) = D := ⟨_, rfl⟩
  have ha := wal_Append_room h1 h2 h3 hcan h5.1 q m c p hm hpb r hr (by omega) hep (by omega) hD
  rw [hD] at hE hsw hall hok hby
  simp only at hE hsw hall hok hby
  refine ha.mono ?_
  rintro e w' (⟨h0, -⟩ | ⟨-, rfl, S', k1, k2, k3, k4⟩)
  · exact absurd h0 hE
  · rcases hall.2.2.2 with ⟨h0, -⟩ | ⟨h0, hdn⟩
    · exact absurd h0 hE
    · subst h0
      exact ⟨rfl, S', D, k1, hok, hby, by rw [hall.1, hlen], hdn, hsw, k2, k3⟩
/-- What was appended stays. -/
theorem lg_sync (h : Lg B S0 w g gl n S st ep nx0 d j t ps safe) (hno : d.no = false) :
    Calls Try.prog 17 #[.pointer (some ⟨gl, 0, none⟩)] w fun e w' => e = .returned (.int .i64 0) ∧ ∃ S', Lg B S' w' g gl n S st ep nx0 d.sync j t ps ps.length ∧ Fr S0 w w' ∧ (∀ k, S' k → S0 k ∨ w.heap.size ≤ k) := by
  have hs := wal_Sync h.1 h.2.1 h.ok
  rw [show d.err = 0 by unfold Dsk.err; rw [if_neg (by simp [hno])]] at hs
  refine hs.mono ?_
  rintro e w' ⟨rfl, S', hD, hF, hS⟩
  exact ⟨rfl, S', h.went hD hF hS (kept_sync h.2.2.2.2.1 h.2.2.2.2.2.2.2.2.1 hno).1 (byt_sync h.2.2.2.2.2.1), hF, hS⟩
theorem crash_len (d : Dsk) (ks : List Bool) : (d.crash ks).st.length = d.st.length := settle_len _ _ _ _
/-- A crash, and a scan from where the log began. -/
theorem dk_crash {d : Dsk} (h : Dk B S0 w g d) (hok : d.ok) (q : Option Addr) (m c : Nat) (ks : List Bool) (hm : ks.length = m) (hr : RK bc w q c ks) (ho : Off S0 q m) :
    Calls Try.prog 23 #[.pointer (some ⟨g, 0, none⟩), .slice q m c] w fun e w' => e = .returned (.tuple #[]) ∧ ∃ S', Dk B S' w' g (d.crash ks) ∧ Fr S0 w w' ∧ (∀ k, S' k → S0 k ∨ w.heap.size ≤ k) := crash_any h hok q m c ks hm hr ho
/-- Whatever is appended on a disk that nothing ails. -/
def Grew (B : Nat) (S0 : Nat → Prop) (w w' : World) (g gl n S st ep nx0 : Nat) (d : Dsk) (j t : Nat) (ps : List (List Int)) (safe : Nat) : Prop :=
  ∃ S', Lg B S' w' g gl n S st ep nx0 d j t ps safe ∧ Fine d ∧ Fr (fun k => S0 k ∨ k = gl) w w' ∧ (∀ k, S' k → S0 k ∨ w.heap.size ≤ k)
theorem lg_append_yes (h : Lg B S0 w g gl n S st ep nx0 d j t ps safe) (hf : Fine d) (q : Option Addr) (m c : Nat) (p : List Int) (hm : p.length = m) (hpb : ∀ c ∈ p, Byte c) (r : Reads .u8 w q c p) (hr : room S j t (nx0 + ps.length) (size m) = true) (hn : nx0 + ps.length + 1 < 18446744073709551616) (hep : ep < 4294967296) (hpe : d.pe.length ≤ 900) :
    Calls Try.prog 15 #[.pointer (some ⟨gl, 0, none⟩), .slice q m c] w fun e w' => e = .returned (.tuple #[.int .u64 ((nx0 + ps.length : Nat) : Int), .int .i64 0]) ∧
      ∃ d', d'.pe.length ≤ d.pe.length + size m ∧ Grew B S0 w w' g gl n S st ep nx0 d' (toJ j t (size m)) (toT t (size m) + size m) (ps ++ [p]) safe := by
  obtain ⟨r1, r2, r3⟩ := room_parts hr
  have hm7 := size_pos r1
  have hrt := right_of (p := p) (by omega) r2
  have hML := made_len (e := ep) hrt
  rw [hm] at hML
  have hfit : adr S st (toJ j t (size m)) (toT t (size m)) + (made (nx0 + ps.length) ep p).length ≤ d.st.length := by
    rw [hML, h.len]
    exact adr_fits h.2.2.2.2.2.2.2.2.1 (by have := h.2.2.2.2.2.2.two; omega) (to_fits (t := t) (size_le m)) r1
  obtain ⟨w1, w2⟩ := fine_writes _ d _ hf hfit
  have hpl := (writes_all _ d _ hfit).2.2.1
  rw [hML] at hpl
  refine (lg_append h q m c p hm hpb r hr hn hep hpe w1).mono ?_
  rintro e w' ⟨rfl, S', d', hL, hF, hS, rfl⟩
  exact ⟨rfl, _, hpl, S', hL, w2, hF, hS⟩
theorem lg_append_no (h : Lg B S0 w g gl n S st ep nx0 d j t ps safe) (q : Option Addr) (m c : Nat) (hr : room S j t (nx0 + ps.length) (size m) = false) :
    Calls Try.prog 15 #[.pointer (some ⟨gl, 0, none⟩), .slice q m c] w fun e w' => e = .returned (.tuple #[.int .u64 0, .int .i64 (if size m = 0 then 81 else 101)]) ∧ Below w.heap.size w w' := by
  by_cases hz : size m = 0
  · rw [if_pos hz]
    refine (wal_Append_long q m c (by rw [sizeN_nat]; exact hz)).mono ?_
    rintro e w1 ⟨rfl, rfl⟩
    exact ⟨rfl, Below.refl _ _⟩
  · rw [if_neg hz]
    exact wal_Append_full h.1 h.2.1 h.can q m c (by rw [sizeN_nat]; exact hz) (by rw [sizeN_nat]; exact hr)
theorem lg_append_any (h : Lg B S0 w g gl n S st ep nx0 d j t ps safe) (hf : Fine d) (q : Option Addr) (m c : Nat) (p : List Int) (hm : p.length = m) (hpb : ∀ c ∈ p, Byte c) (r : Reads .u8 w q c p) (hn : nx0 + ps.length + 1 < 18446744073709551616) (hep : ep < 4294967296) (hpe : d.pe.length ≤ 900) :
    Calls Try.prog 15 #[.pointer (some ⟨gl, 0, none⟩), .slice q m c] w fun e w' => ∃ x y d' j' t' ps', e = .returned (.tuple #[.int .u64 x, .int .i64 y]) ∧ d'.pe.length ≤ d.pe.length + 12 ∧ ps'.length ≤ ps.length + 1 ∧ Grew B S0 w w' g gl n S st ep nx0 d' j' t' ps' safe := by
  cases hr : room S j t (nx0 + ps.length) (size m) with
  | true =>
    refine (lg_append_yes h hf q m c p hm hpb r hr hn hep hpe).mono ?_
    rintro e w' ⟨rfl, d', hp, hG⟩
    exact ⟨_, _, d', _, _, _, rfl, by have := size_le m; omega, by simp, hG⟩
  | false =>
    refine (lg_append_no h q m c hr).mono ?_
    rintro e w' ⟨rfl, hB⟩
    exact ⟨_, _, d, _, _, ps, rfl, by omega, by omega, S0, h.below hB, hf, Fr.of_below hB _, fun _ hk => .inl hk⟩
end
end Go.Proofs.Ythgafnommcodcaa.Wal
