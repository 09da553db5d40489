/-
  What a log's appends, syncs, breaks and crashes make of a disk, in plain words; and that behind a crash all that was synced lies as it was laid. Nothing of a program is named here.
-/
import Derived.Test.YthgafnommcodcaaWalPlain
namespace Go.Proofs.Ythgafnommcodcaa.Wal
open Go.Proofs.Ythgafnommcodcaa.Frame Go.Proofs.Ythgafnommcodcaa.Disk

/-- Sectors one behind the other, up to the first error. -/
def writes : Dsk → Nat → List Sec → Dsk × Int
  | d, _, [] => (d, 0)
  | d, i, s :: r => if d.putE i = 0 then writes (d.put i s) (i + 1) r else (d.put i s, d.putE i)
theorem has_nat {n i : Nat} (h : i < n) : has n i = true := by unfold has; simp [h]
theorem putE_zero {d : Dsk} {i : Nat} (h : d.putE i = 0) : i < d.st.length ∧ d.no = false := by
  unfold Dsk.putE at h
  split at h
  · rename_i hh
    unfold has at hh
    unfold Dsk.err at h
    split at h
    · omega
    · rename_i hn
      exact ⟨by simp at hh; omega, by simpa using hn⟩
  · omega
theorem put_yes {d : Dsk} {i : Nat} (s : Sec) (h : d.putE i = 0) : (d.put i s).st = d.st ∧ (d.put i s).pe = d.pe ++ [((i : Int), s)] ∧ (d.put i s).dn = d.dn := by
  obtain ⟨h1, h2⟩ := putE_zero h
  unfold Dsk.put
  rw [if_pos (has_nat h1), if_neg (by simp [h2])]
  refine ⟨acted_st d, rfl, ?_⟩
  show d.acted.dn = d.dn
  unfold Dsk.acted
  rw [if_neg (by simp [h2])]
theorem put_no {d : Dsk} {i : Nat} (s : Sec) (h : d.putE i ≠ 0) : (d.put i s).st = d.st ∧ (d.put i s).pe = d.pe ∧ (i < d.st.length → (d.put i s).dn = true ∧ d.putE i = 72) := by
  unfold Dsk.putE at h ⊢
  unfold Dsk.put
  split at h
  · rename_i hh
    rw [if_pos hh, if_pos hh]
    unfold Dsk.err at h ⊢
    split at h
    · rename_i hn
      rw [if_pos hn, if_pos hn]
      refine ⟨acted_st d, acted_pe d, fun _ => ⟨?_, rfl⟩⟩
      unfold Dsk.acted
      rw [if_pos hn]
    · exact absurd rfl h
  · rename_i hh
    rw [if_neg hh]
    exact ⟨rfl, rfl, fun hi => absurd (has_nat hi) hh⟩
theorem put_read {d : Dsk} {i : Nat} (s : Sec) (h : d.putE i = 0) (a : Nat) : (d.put i s).read a = if a = i then (s, 0) else d.read a := by
  obtain ⟨h1, h2, _⟩ := put_yes s h
  unfold Dsk.read
  rw [h1, h2, last_app]
  by_cases hai : a = i
  · subst hai; simp
  · rw [if_neg (by simpa using fun e : (i : Int) = (a : Int) => hai (by omega)), if_neg hai]
theorem writes_read : ∀ (l : List Sec) (d : Dsk) (i : Nat), (writes d i l).2 = 0 → ∀ a : Nat, (writes d i l).1.read a = if i ≤ a ∧ a < i + l.length then (l.getD (a - i) zero, 0) else d.read a
  | [], d, i, _, a => by
    rw [if_neg (by simp only [List.length_nil]; omega)]; rfl
  | s :: r, d, i, h, a => by
    unfold writes at h ⊢
    by_cases hp : d.putE i = 0
    · rw [if_pos hp] at h ⊢
      rw [writes_read r _ (i + 1) h a, put_read s hp a]
      by_cases hai : a = i
      · subst hai
        rw [if_neg (by omega), if_pos rfl, if_pos (by simp only [List.length_cons]; omega), Nat.sub_self]
        rfl
      · by_cases h2 : i + 1 ≤ a ∧ a < i + 1 + r.length
        · rw [if_pos h2, if_pos (by simp only [List.length_cons]; omega), show a - i = (a - (i + 1)) + 1 by omega]
          rfl
        · rw [if_neg h2, if_neg hai, if_neg (by simp only [List.length_cons]; omega)]
    · rw [if_neg hp] at h
      exact absurd h hp
theorem writes_all : ∀ (l : List Sec) (d : Dsk) (i : Nat), i + l.length ≤ d.st.length → (writes d i l).1.st = d.st ∧ (∀ x ∈ (writes d i l).1.pe, x ∈ d.pe ∨ ∃ u, u < l.length ∧ x.1 = ((i + u : Nat) : Int)) ∧
    (writes d i l).1.pe.length ≤ d.pe.length + l.length ∧ ((writes d i l).2 = 0 ∧ (writes d i l).1.dn = d.dn ∨ (writes d i l).2 = 72 ∧ (writes d i l).1.dn = true)
  | [], d, i, _ => ⟨rfl, fun x hx => .inl hx, Nat.le_refl _, .inl ⟨rfl, rfl⟩⟩
  | s :: r, d, i, h => by
    simp only [List.length_cons] at h ⊢
    unfold writes
    by_cases hp : d.putE i = 0
    · rw [if_pos hp]
      obtain ⟨h1, h2, h3⟩ := put_yes s hp
      obtain ⟨a, b, c, e⟩ := writes_all r (d.put i s) (i + 1) (by rw [h1]; omega)
      rw [h2] at b c
      rw [h3] at e
      refine ⟨a.trans h1, fun x hx => ?_, by simp only [List.length_append, List.length_singleton] at c; omega, e⟩
      rcases b x hx with hb | ⟨u, hu, hb⟩
      · rcases List.mem_append.1 hb with hb | hb
        · exact .inl hb
        · rw [List.mem_singleton] at hb
          subst hb
          exact .inr ⟨0, by omega, rfl⟩
      · exact .inr ⟨u + 1, by omega, by rw [hb]; omega⟩
    · rw [if_neg hp]
      obtain ⟨h1, h2, h3⟩ := put_no s hp
      obtain ⟨h4, h5⟩ := h3 (by omega)
      exact ⟨h1, fun x hx => .inl (h2 ▸ hx), by rw [h2]; omega, .inr ⟨h5, h4⟩⟩
theorem writes_ok : ∀ (l : List Sec) (d : Dsk) (i : Nat), d.ok → d.pe.length + l.length ≤ 1000 → (writes d i l).1.ok
  | [], _, _, h, _ => h
  | s :: r, d, i, h, hl => by
    simp only [List.length_cons] at hl
    have h1 := put_ok h i s (by omega)
    have h2 := (put_len d i s).1
    unfold writes
    split
    · exact writes_ok r _ _ h1 (by omega)
    · exact h1

/-- What the places of a disk hold, as it is read, and what is stable. -/
def vis (d : Dsk) (S st : Nat) : Rd := fun j t => (d.read ((adr S st j t : Nat) : Int)).1
def stb (d : Dsk) (S st : Nat) : Rd := fun j t => d.st.getD (adr S st j t) zero
theorem vis_quiet {d : Dsk} (S st : Nat) (h : d.pe = []) : vis d S st = stb d S st := by
  funext j t
  unfold vis stb Dsk.read
  rw [h]
  simp only [last]
  unfold stab
  by_cases ha : adr S st j t < d.st.length
  · rw [if_pos (has_nat ha)]; simp
  · rw [if_neg (by unfold has; simp; omega), List.getD_eq_getElem?_getD, List.getElem?_eq_none (by omega)]; rfl
/-- What was synced stays: no write that is pending is of its places. -/
def Safe (S st ep nx0 : Nat) (d : Dsk) (ps : List (List Int)) (safe : Nat) (e : Nat × Nat) : Prop :=
  safe ≤ ps.length ∧ Chain (stb d S st) S ep nx0 0 0 (ps.take safe) e ∧ ∀ x ∈ d.pe, ∃ k u, k < S ∧ u < 16 ∧ x.1 = ((adr S st k u : Nat) : Int) ∧ 16 * e.1 + e.2 ≤ 16 * k + u
/-- A disk and the log on it: its records lie there, and what is ahead was never written. -/
def Kept (n S st ep nx0 : Nat) (d : Dsk) (j t : Nat) (ps : List (List Int)) (safe : Nat) : Prop :=
  d.ok ∧ d.st.length = n ∧ j < S ∧ t ≤ 16 ∧ Chain (vis d S st) S ep nx0 0 0 ps (j, t) ∧ (∀ k u, k < S → u < 16 → 16 * j + t ≤ 16 * k + u → vis d S st k u = zero) ∧
  ∃ e, Safe S st ep nx0 d ps safe e ∧ 16 * e.1 + e.2 ≤ 16 * j + t
theorem settle_other (f : Nat → Bool) (a : Nat) : ∀ (l : List Wr) (n : Nat) (st : List Sec), (∀ x ∈ l, 0 ≤ x.1 ∧ x.1 ≠ (a : Int)) → (settle f n l st).getD a zero = st.getD a zero
  | [], _, _, _ => rfl
  | x :: r, n, st, h => by
    unfold settle
    rw [settle_other f a r (n + 1) _ fun y hy => h y (by simp [hy])]
    split
    · obtain ⟨h1, h2⟩ := h x (by simp)
      rw [List.getD_eq_getElem?_getD, List.getD_eq_getElem?_getD, List.getElem?_set_ne (by omega)]
    · rfl
/-- Behind a crash what was synced is there. -/
theorem safe_crash {S st ep nx0 safe : Nat} {d : Dsk} {ps : List (List Int)} {e : Nat × Nat} (h : Safe S st ep nx0 d ps safe e) (ks : List Bool) : Chain (vis (d.crash ks) S st) S ep nx0 0 0 (ps.take safe) e := by
  obtain ⟨_, h2, h3⟩ := h
  rw [vis_quiet S st (show (d.crash ks).pe = [] from rfl)]
  refine chain_same _ _ _ _ _ (by omega) (fun k u hu _ h7 => ?_) h2
  refine settle_other _ _ _ _ _ fun x hx => ?_
  obtain ⟨k', u', hk', hu', hx', hle⟩ := h3 x hx
  refine ⟨by omega, fun e2 => ?_⟩
  rw [hx'] at e2
  obtain ⟨e3, e4⟩ := adr_inj hk' (by omega) hu' hu (Int.ofNat.inj e2)
  omega
theorem getD_replicate_zero (n a : Nat) : (List.replicate n zero).getD a zero = zero := by
  rw [List.getD_eq_getElem?_getD, List.getElem?_replicate]
  split <;> rfl
theorem kept_fresh {n S st ep nx0 : Nat} (hn : n ≤ 512) (hS : 0 < S) : Kept n S st ep nx0 (fresh n) 0 0 [] 0 := by
  refine ⟨fresh_ok hn, by simp [fresh], hS, by omega, rfl, fun k u _ _ _ => ?_, (0, 0), ⟨by simp, rfl, by simp [fresh]⟩, by simp⟩
  rw [vis_quiet S st (show (fresh n).pe = [] from rfl)]
  exact getD_replicate_zero _ _
/-- A record is laid: at the place where the log is, or at the beginning of the next segment. -/
theorem kept_write {n S st ep nx0 : Nat} {d : Dsk} {j t : Nat} {ps : List (List Int)} {safe : Nat} (h : Kept n S st ep nx0 d j t ps safe) (hSn : S = segsN n) (p : List Int) (hr : right (nx0 + ps.length) p = true) (hpe : d.pe.length ≤ 900)
    (j' t' : Nat) (hp : (t + size p.length ≤ 16 ∧ j' = j ∧ t' = t) ∨ (16 < t + size p.length ∧ j + 1 < S ∧ j' = j + 1 ∧ t' = 0)) (ho : (writes d (adr S st j' t') (made (nx0 + ps.length) ep p)).2 = 0) :
    Kept n S st ep nx0 (writes d (adr S st j' t') (made (nx0 + ps.length) ep p)).1 j' (t' + size p.length) (ps ++ [p]) safe := by
  obtain ⟨k1, k2, k3, k4, k5, k6, e, ⟨s1, s2, s3⟩, k7⟩ := h
  have hf := size_fits (show p.length ≤ 700 by simp [right] at hr; exact hr.1)
  have hm := made_len (e := ep) hr
  obtain ⟨M, hM⟩ : ∃ M, made (nx0 + ps.length) ep p = M := ⟨_, rfl⟩
  rw [hM] at hm ho ⊢
  have hj' : j' < S := by rcases hp with ⟨_, rfl, _⟩ | ⟨_, h2, rfl, _⟩ <;> omega
  have ht' : t' + size p.length ≤ 16 := by rcases hp with ⟨h1, _, rfl⟩ | ⟨_, _, _, rfl⟩ <;> omega
  have hahead : 16 * j + t ≤ 16 * j' + t' := by rcases hp with ⟨_, rfl, rfl⟩ | ⟨_, _, rfl, rfl⟩ <;> omega
  have hfit : adr S st j' t' + M.length ≤ d.st.length := by
    have := adr_lt (n := n) (st := st) (j := j') hSn (by omega) (show t' + size p.length - 1 < 16 by omega)
    unfold adr at this ⊢
    rw [k2, hm]
    omega
  obtain ⟨a1, a2, a3, a4⟩ := writes_all M d _ hfit
  have hrd := writes_read M d _ ho
  have hok := writes_ok M d (adr S st j' t') k1 (by omega)
  have hv : ∀ k u, k < S → u < 16 → vis (writes d (adr S st j' t') M).1 S st k u = if k = j' ∧ t' ≤ u ∧ u < t' + size p.length then M.getD (u - t') zero else vis d S st k u := by
    intro k u hk hu
    unfold vis
    rw [hrd (adr S st k u), hm]
    by_cases hc : k = j' ∧ t' ≤ u ∧ u < t' + size p.length
    · obtain ⟨rfl, h1, h2⟩ := hc
      rw [if_pos (by unfold adr; omega), if_pos ⟨rfl, h1, h2⟩]
      have : adr S st k u - adr S st k t' = u - t' := by unfold adr; omega
      rw [this]
    · rw [if_neg hc, if_neg]
      rintro ⟨h1, h2⟩
      have e3 : adr S st k u = adr S st j' (t' + (adr S st k u - adr S st j' t')) := by unfold adr at h1 ⊢; omega
      obtain ⟨e4, e5⟩ := adr_inj hk hj' hu (by omega) e3
      exact hc ⟨e4, by omega, by omega⟩
  generalize (writes d (adr S st j' t') M).1 = d' at *
  clear hrd
  have hold : ∀ k u, k < S → u < 16 → 16 * k + u < 16 * j + t → vis d' S st k u = vis d S st k u := fun k u hk hu hlt => by
    rw [hv k u hk hu, if_neg]
    rintro ⟨rfl, h1, h2⟩
    omega
  have hend := (chain_end ps nx0 0 0 (j, t) (by omega) k5).1
  have hHas : Has (vis d' S st) j' t' M := fun i hi => by
    rw [hm] at hi
    rw [hv j' (t' + i) hj' (by omega), if_pos ⟨rfl, by omega, by omega⟩, show t' + i - t' = i by omega]
  refine ⟨hok, a1 ▸ k2, hj', ht', ?_, fun k u hk hu hle => ?_, e, ⟨by simp; omega, ?_, fun x hx => ?_⟩, by show 16 * e.1 + e.2 ≤ 16 * j' + (t' + size p.length); omega⟩
  · refine chain_more ps nx0 0 0 (j, t) _ p (chain_same ps nx0 0 0 (j, t) (by omega) (fun k u hu _ h7 => hold k u (by simp only at h7; omega) hu h7) k5) ?_
    rcases hp with ⟨h1, rfl, rfl⟩ | ⟨h1, h2, rfl, rfl⟩
    · exact ⟨hr, .inl ⟨h1, hM.symm ▸ hHas, rfl⟩⟩
    · refine ⟨hr, .inr ⟨h1, h2, fun i hi hi2 => ?_, hM.symm ▸ hHas, by simp [Chain]⟩⟩
      rw [hv j i (by omega) hi2, if_neg (by omega)]
      exact k6 j i (by omega) hi2 (by omega)
  · rw [hv k u hk hu, if_neg (by omega)]
    exact k6 k u hk hu (by omega)
  · rw [List.take_append_of_le_length s1]
    have : stb d' S st = stb d S st := by funext k u; unfold stb; rw [a1]
    rw [this]
    exact s2
  · rcases a2 x hx with hb | ⟨u, hu, hb⟩
    · exact s3 x hb
    · rw [hm] at hu
      exact ⟨j', t' + u, hj', by omega, by rw [hb]; unfold adr; omega, by omega⟩
theorem settle_yes (a : Nat) : ∀ (l : List Wr) (n : Nat) (st : List Sec), a < st.length → (∀ x ∈ l, 0 ≤ x.1) → (settle (fun _ => true) n l st).getD a zero = (last l a).getD (st.getD a zero)
  | [], _, _, _, _ => rfl
  | x :: r, n, st, ha, h => by
    have h0 := h x (by simp)
    unfold settle
    rw [if_pos rfl, settle_yes a r (n + 1) _ (by simpa using ha) fun y hy => h y (by simp [hy])]
    show _ = (match last r (a : Int) with | some s => some s | none => if x.1 = (a : Int) then some x.2 else none).getD (st.getD a zero)
    cases last r (a : Int) with
    | some s => rfl
    | none =>
      simp only [Option.getD_none]
      by_cases hx : x.1 = (a : Int)
      · rw [if_pos hx, hx, List.getD_eq_getElem?_getD, Int.toNat_natCast, List.getElem?_set_self ha]
        rfl
      · rw [if_neg hx, List.getD_eq_getElem?_getD, List.getElem?_set_ne (by omega), ← List.getD_eq_getElem?_getD]
        rfl
/-- What is synced stays from then on. -/
theorem kept_sync {n S st ep nx0 : Nat} {d : Dsk} {j t : Nat} {ps : List (List Int)} {safe : Nat} (h : Kept n S st ep nx0 d j t ps safe) (hSn : S = segsN n) (hno : d.no = false) : Kept n S st ep nx0 d.sync j t ps ps.length ∧ d.sync.dn = d.dn := by
  obtain ⟨k1, k2, k3, k4, k5, k6, _⟩ := h
  have hs : d.sync = d.acted.settled fun _ => true := by unfold Dsk.sync; rw [if_neg (by simp [hno])]
  have hpe : d.sync.pe = [] := by rw [hs]; rfl
  have hlen : d.sync.st.length = n := (sync_len d).2.trans k2
  have hdn : d.sync.dn = d.dn := by
    rw [hs]
    show d.acted.dn = d.dn
    unfold Dsk.acted
    rw [if_neg (by simp [hno])]
  have hv : ∀ k u, k < S → u < 16 → vis d.sync S st k u = vis d S st k u := fun k u hk hu => by
    have hlt := adr_lt (st := st) (j := k) hSn (by omega) hu
    rw [vis_quiet S st hpe]
    unfold stb vis
    rw [hs]
    show (settle (fun _ => true) 0 d.acted.pe d.acted.st).getD _ zero = _
    rw [acted_pe, acted_st, settle_yes _ _ _ _ (by omega) fun x hx => (k1.2.2.1 x hx).1]
    unfold Dsk.read
    cases last d.pe ((adr S st k u : Nat) : Int) with
    | some s => rfl
    | none =>
      unfold stab
      rw [if_pos (has_nat (by omega))]
      simp
  have hend := (chain_end ps nx0 0 0 (j, t) (by omega) k5).1
  have hch : Chain (vis d.sync S st) S ep nx0 0 0 ps (j, t) := chain_same ps nx0 0 0 (j, t) (by omega) (fun k u hu _ h7 => hv k u (by simp only at h7; omega) hu) k5
  refine ⟨⟨sync_ok k1, hlen, k3, k4, hch, fun k u hk hu hle => by rw [hv k u hk hu]; exact k6 k u hk hu hle, (j, t), ⟨Nat.le_refl _, ?_, by rw [hpe]; simp⟩, Nat.le_refl _⟩, hdn⟩
  rw [List.take_of_length_le (Nat.le_refl _), ← vis_quiet S st hpe]
  exact hch
theorem kept_break {n S st ep nx0 : Nat} {d : Dsk} {j t : Nat} {ps : List (List Int)} {safe : Nat} (h : Kept n S st ep nx0 d j t ps safe) {x : Int} (hx : Inty x) : Kept n S st ep nx0 (d.breaks x) j t ps safe := by
  obtain ⟨k1, k2, k3, k4, k5, k6, e, s1, k7⟩ := h
  exact ⟨breaks_ok k1 hx, k2, k3, k4, k5, k6, e, s1, k7⟩
/-- Whatever came of the writes: what was synced stays. -/
theorem safe_write {n S st ep nx0 : Nat} {d : Dsk} {j t : Nat} {ps : List (List Int)} {safe : Nat} (h : Kept n S st ep nx0 d j t ps safe) (hSn : S = segsN n) (M : List Sec) (j' t' : Nat) (hj : j' < S) (ht : t' + M.length ≤ 16) (h0 : 0 < M.length) (ha : 16 * j + t ≤ 16 * j' + t') :
    ∃ e, Safe S st ep nx0 (writes d (adr S st j' t') M).1 ps safe e := by
  obtain ⟨k1, k2, k3, k4, k5, k6, e, ⟨s1, s2, s3⟩, k7⟩ := h
  have hfit : adr S st j' t' + M.length ≤ d.st.length := by
    have := adr_lt (n := n) (st := st) (j := j') hSn (by omega) (show t' + M.length - 1 < 16 by omega)
    unfold adr at this ⊢
    rw [k2]
    omega
  obtain ⟨a1, a2, -, -⟩ := writes_all M d _ hfit
  generalize (writes d (adr S st j' t') M).1 = d' at *
  refine ⟨e, s1, ?_, fun x hx => ?_⟩
  · have : stb d' S st = stb d S st := by funext k u; unfold stb; rw [a1]
    rw [this]
    exact s2
  · rcases a2 x hx with hb | ⟨u, hu, hb⟩
    · exact s3 x hb
    · exact ⟨j', t' + u, hj, by omega, by rw [hb]; unfold adr; omega, by omega⟩
theorem safe_acted {S st ep nx0 : Nat} {d : Dsk} {ps : List (List Int)} {safe : Nat} {e : Nat × Nat} (h : Safe S st ep nx0 d ps safe e) : Safe S st ep nx0 d.acted ps safe e := by
  obtain ⟨s1, s2, s3⟩ := h
  refine ⟨s1, ?_, by rw [acted_pe]; exact s3⟩
  have : stb d.acted S st = stb d S st := by funext k u; unfold stb; rw [acted_st]
  rw [this]
  exact s2
/-- A scan behind a crash finds what was synced, ahead of all else. -/
theorem scan_crash {S st ep nx0 : Nat} {d : Dsk} {ps : List (List Int)} {safe : Nat} {e : Nat × Nat} (h : Safe S st ep nx0 d ps safe e) (ks : List Bool) (hep : ep < 4294967296) (h0 : 0 < nx0) (hn : nx0 + safe < 18446744073709551616) (f : Nat) :
    ∃ r b, scan (vis (d.crash ks) S st) S ep (safe + f) nx0 0 0 = (tells ep nx0 (ps.take safe) ++ r, b) := by
  have hl : (ps.take safe).length = safe := by rw [List.length_take]; have := h.1; omega
  have := scan_chain hep (ps.take safe) nx0 0 0 f e h0 (by rw [hl]; exact hn) (safe_crash h ks)
  rw [hl] at this
  exact ⟨_, _, this⟩
end Go.Proofs.Ythgafnommcodcaa.Wal
