/-
  What a scan finds segment by segment, from the segment begun with on, and what it is of a log's disk; sectors that are bytes.
-/
import Derived.Test.YthgafnommcodcaaWalMore
import Derived.Test.YthgafnommcodcaaCrcOf
namespace Go.Proofs.Ythgafnommcodcaa.Wal
open Go.Proofs.Ythgafnommcodcaa.Frame Go.Proofs.Ythgafnommcodcaa.Disk

/-- A sector of bytes; a disk of such. -/
def BS (s : Sec) : Prop := ∀ c ∈ s.1, Byte c
def Byt (d : Dsk) : Prop := (∀ s ∈ d.st, BS s) ∧ ∀ x ∈ d.pe, BS x.2
theorem byte_zero : Byte 0 := ⟨by omega, by omega⟩
theorem bs_zero : BS zero := fun c hc => by
  obtain rfl := List.eq_of_mem_replicate (show c ∈ List.replicate 64 0 from hc)
  exact byte_zero
theorem byt_fresh (n : Nat) : Byt (fresh n) := ⟨fun s hs => by
  obtain rfl := List.eq_of_mem_replicate (show s ∈ List.replicate n zero from hs)
  exact bs_zero, fun x hx => by simp [fresh] at hx⟩
theorem byt_put {d : Dsk} (h : Byt d) (i : Int) {s : Sec} (hs : BS s) : Byt (d.put i s) := by
  unfold Dsk.put
  split
  · split
    · exact ⟨by rw [acted_st]; exact h.1, by rw [acted_pe]; exact h.2⟩
    · refine ⟨by show ∀ s ∈ d.acted.st, BS s; rw [acted_st]; exact h.1, fun x hx => ?_⟩
      rcases List.mem_append.1 (show x ∈ d.pe ++ [(i, s)] from hx) with hx | hx
      · exact h.2 x hx
      · rw [List.mem_singleton] at hx; subst hx; exact hs
  · exact h
theorem settle_bs (f : Nat → Bool) : ∀ (n : Nat) (l : List Wr) (st : List Sec), (∀ s ∈ st, BS s) → (∀ x ∈ l, BS x.2) → ∀ s ∈ Disk.settle f n l st, BS s
  | _, [], _, h, _ => h
  | n, x :: r, st, h, h2 => by
    unfold Disk.settle
    refine settle_bs f (n + 1) r _ ?_ fun y hy => h2 y (by simp [hy])
    split
    · intro s hs
      rcases List.mem_or_eq_of_mem_set hs with hs | rfl
      · exact h s hs
      · exact h2 x (by simp)
    · exact h
theorem byt_acted {d : Dsk} (h : Byt d) : Byt d.acted := ⟨by rw [acted_st]; exact h.1, by rw [acted_pe]; exact h.2⟩
theorem byt_settled {d : Dsk} (h : Byt d) (f : Nat → Bool) : Byt (d.settled f) := ⟨settle_bs f 0 d.pe d.st h.1 h.2, fun x hx => by simp [Dsk.settled] at hx⟩
theorem byt_sync {d : Dsk} (h : Byt d) : Byt d.sync := by
  unfold Dsk.sync
  split
  · exact byt_acted h
  · exact byt_settled (byt_acted h) _
theorem byt_crash {d : Dsk} (h : Byt d) (ks : List Bool) : Byt (d.crash ks) := byt_settled h (keeps ks)
theorem byt_breaks {d : Dsk} (h : Byt d) (n : Int) : Byt (d.breaks n) := h
theorem last_mem : ∀ {l : List Wr} {i : Int} {s : Sec}, last l i = some s → ∃ x ∈ l, x.2 = s
  | [], _, _, h => by simp [last] at h
  | x :: r, i, s, h => by
    unfold last at h
    cases hr : last r i with
    | some q =>
      rw [hr] at h
      obtain ⟨y, hy, e⟩ := last_mem hr
      exact ⟨y, by simp [hy], by simpa [e] using h⟩
    | none =>
      rw [hr] at h
      simp only at h
      split at h
      · exact ⟨x, by simp, by simpa using h⟩
      · cases h
theorem getD_bs {l : List Sec} (h : ∀ s ∈ l, BS s) (i : Nat) : BS (l.getD i zero) := by
  rw [List.getD_eq_getElem?_getD]
  cases hi : l[i]? with
  | none => exact bs_zero
  | some s => exact h s (List.mem_of_getElem? hi)
theorem byt_read {d : Dsk} (h : Byt d) (i : Int) : BS (d.read i).1 := by
  unfold Dsk.read
  cases hl : last d.pe i with
  | some s =>
    obtain ⟨x, hx, rfl⟩ := last_mem hl
    exact h.2 x hx
  | none =>
    show BS (stab d.st i).1
    unfold stab
    by_cases hh : has d.st.length i = true
    · rw [if_pos hh]
      exact getD_bs h.1 _
    · rw [if_neg hh]
      exact bs_zero
theorem secs_bytes : ∀ (n : Nat) (b : List Int), (∀ c ∈ b, Byte c) → ∀ s ∈ secs n b, BS s
  | 0, _, _, s, hs => by simp [secs] at hs
  | n + 1, b, hb, s, hs => by
    unfold secs at hs
    rcases List.mem_cons.1 hs with rfl | hs
    · intro c hc
      have := List.mem_of_mem_take (show c ∈ (_ ++ List.replicate 64 0).take 64 from hc)
      rcases List.mem_append.1 this with h | h
      · exact hb c h
      · obtain rfl := List.eq_of_mem_replicate h
        exact byte_zero
    · exact secs_bytes n _ (fun c hc => hb c (List.mem_of_mem_drop hc)) s hs
theorem bs_made {s e : Nat} {p : List Int} (hp : ∀ c ∈ p, Byte c) : ∀ x ∈ made s e p, BS x := by
  unfold made
  split
  · exact secs_bytes _ _ (Go.Proofs.Ythgafnommcodcaa.Crc.sealed_bytes (plain_bytes hp))
  · intro x hx; cases hx
theorem byt_writes : ∀ (l : List Sec) (d : Dsk) (i : Nat), Byt d → (∀ s ∈ l, BS s) → Byt (writes d i l).1
  | [], _, _, h, _ => h
  | s :: r, d, i, h, hl => by
    unfold writes
    split
    · exact byt_writes r _ _ (byt_put h _ (hl s (by simp))) fun x hx => hl x (by simp [hx])
    · exact byt_put h _ (hl s (by simp))
theorem byt_view {d : Dsk} (h : Byt d) (S st j t : Nat) : ∀ s ∈ view (vis d S st) j t, BS s := by
  intro s hs
  obtain ⟨i, _, rfl⟩ := List.mem_map.1 hs
  exact byt_read h _

/-- The records that sectors begin with. -/
def rights (l : List Sec) (ep nx : Nat) : Bool := (got l).ok && (decide ((got l).s = nx) && decide ((got l).e = ep))
def run (ep : Nat) : Nat → Nat → List Sec → List Got
  | 0, _, _ => []
  | f + 1, nx, l => if rights l ep nx = true then got l :: run ep f (more nx) (l.drop (got l).n) else []
theorem run_none {ep nx : Nat} {l : List Sec} (h : rights l ep nx = false) (f : Nat) : run ep f nx l = [] := by
  cases f with
  | zero => rfl
  | succ f => rw [run, if_neg (by simp [h])]
theorem run_some {ep nx : Nat} {l : List Sec} (h : rights l ep nx = true) (f : Nat) : run ep (f + 1) nx l = got l :: run ep f (more nx) (l.drop (got l).n) := by
  rw [run, if_pos h]
theorem got_fits {l : List Sec} (h : (got l).ok = true) : 0 < (got l).n ∧ (got l).n ≤ l.length ∧ right (got l).s (got l).p = true := by
  unfold got at h ⊢
  split at h
  · rename_i ho
    rw [if_pos ho]
    unfold opens roomy at ho
    simp only [Bool.and_eq_true, decide_eq_true_eq] at ho
    exact ⟨ho.1.2.1, ho.1.2.2, ho.2.1⟩
  · cases h
theorem rights_fits {l : List Sec} {ep nx : Nat} (h : rights l ep nx = true) : 0 < (got l).n ∧ (got l).n ≤ l.length ∧ (got l).ok = true ∧ (got l).s = nx ∧ (got l).e = ep ∧ nx ≠ 0 ∧ (got l).p.length ≤ 700 := by
  unfold rights at h
  simp only [Bool.and_eq_true, decide_eq_true_eq] at h
  obtain ⟨h1, h2, h3⟩ := h
  obtain ⟨a, b, c⟩ := got_fits h1
  simp only [right, Bool.and_eq_true, decide_eq_true_eq] at c
  exact ⟨a, b, h1, h2, h3, by omega, c.1⟩
theorem at_rights (rd : Rd) (ep nx j t : Nat) : (atPlace rd ep nx j t).ok = rights (view rd j t) ep nx := by
  cases h : rights (view rd j t) ep nx with
  | true =>
    unfold atPlace
    rw [if_pos (by exact h)]
    exact (rights_fits h).2.2.1
  | false =>
    unfold atPlace
    rw [if_neg (by unfold rights at h; simp [h])]
    rfl
theorem at_got {rd : Rd} {ep nx j t : Nat} (h : rights (view rd j t) ep nx = true) : atPlace rd ep nx j t = got (view rd j t) := by
  unfold atPlace
  rw [if_pos (by exact h)]
theorem at_pos {rd : Rd} {ep nx j t : Nat} (h : (atPlace rd ep nx j t).ok = true) : nx ≠ 0 := by
  rw [at_rights] at h
  exact (rights_fits h).2.2.2.2.2.1
theorem view_drop (rd : Rd) (j t n : Nat) : (view rd j t).drop n = view rd j (t + n) := by
  refine List.ext_getElem? fun i => ?_
  unfold view
  rw [List.getElem?_drop, List.getElem?_map, List.getElem?_map]
  rcases Nat.lt_or_ge (n + i) (16 - t) with h | h
  · rw [List.getElem?_range h, List.getElem?_range (by omega)]
    simp [Nat.add_assoc]
  · rw [List.getElem?_eq_none (by simp; omega), List.getElem?_eq_none (by simp; omega)]
    rfl
def adv (nx k : Nat) : Nat := (nx + k) % 18446744073709551616
theorem adv_more (nx k : Nat) : adv (more nx) k = adv nx (k + 1) := by unfold adv more; omega
theorem adv_zero {nx : Nat} (h : nx < 18446744073709551616) : adv nx 0 = nx := by unfold adv; omega
theorem adv_lt (nx k : Nat) : adv nx k < 18446744073709551616 := Nat.mod_lt _ (by omega)
theorem more_lt (nx : Nat) : more nx < 18446744073709551616 := Nat.mod_lt _ (by omega)
/-- A segment's records are what a scan finds there; what is behind them isn't one. -/
theorem scan_run (rd : Rd) (S ep j : Nat) : ∀ (k nx t : Nat), nx < 18446744073709551616 → t ≤ 16 → 16 - t < k → ∃ t', t ≤ t' ∧ t' ≤ 16 ∧ (run ep k nx (view rd j t)).length ≤ t' - t ∧
    (atPlace rd ep (adv nx (run ep k nx (view rd j t)).length) j t').ok = false ∧
    ∀ f, (run ep k nx (view rd j t)).length ≤ f → scan rd S ep f nx j t = (run ep k nx (view rd j t) ++ (scan rd S ep (f - (run ep k nx (view rd j t)).length) (adv nx (run ep k nx (view rd j t)).length) j t').1, (scan rd S ep (f - (run ep k nx (view rd j t)).length) (adv nx (run ep k nx (view rd j t)).length) j t').2)
  | 0, _, _, _, _, h => by omega
  | k + 1, nx, t, hn, ht, hk => by
    cases h : rights (view rd j t) ep nx with
    | false =>
      rw [run_none h]
      refine ⟨t, Nat.le_refl _, ht, by simp, ?_, fun f _ => by simp [adv_zero hn]⟩
      rw [List.length_nil, adv_zero hn, at_rights, h]
    | true =>
      obtain ⟨h1, h2, h3, h4, h5, h6, h7⟩ := rights_fits h
      rw [view_len] at h2
      obtain ⟨N, hN⟩ : ∃ N, (got (view rd j t)).n = N := ⟨_, rfl⟩
      rw [hN] at h1 h2
      have e1 : run ep (k + 1) nx (view rd j t) = got (view rd j t) :: run ep k (more nx) (view rd j (t + N)) := by rw [run_some h, view_drop, hN]
      obtain ⟨t', a, b, c, d, e⟩ := scan_run rd S ep j k (more nx) (t + N) (more_lt nx) (by omega) (by omega)
      rw [e1]
      generalize run ep k (more nx) (view rd j (t + N)) = R at *
      rw [adv_more] at d
      refine ⟨t', by omega, b, by simp; omega, by rw [List.length_cons]; exact d, fun f hf => ?_⟩
      rw [List.length_cons] at hf ⊢
      obtain ⟨f, rfl⟩ : ∃ g, f = g + 1 := ⟨f - 1, by omega⟩
      have hat : (atPlace rd ep nx j t).ok = true := by rw [at_rights, h]
      rw [scan_step, if_neg h6, if_pos hat, at_got h, hN, e f (by omega), adv_more, Nat.add_sub_add_right]
      rfl
/-- What is there from the beginning of a segment on. -/
def cont (rd : Rd) (S ep f nx j : Nat) : List Got × Nat := if j < S ∧ (atPlace rd ep nx j 0).ok = true then scan rd S ep f nx j 0 else ([], j - 1)
theorem cont_end {rd : Rd} {S ep nx j t : Nat} (h : (atPlace rd ep nx j t).ok = false) (hj : j < S) (f : Nat) : scan rd S ep (f + 1) nx j t = cont rd S ep (f + 1) nx (j + 1) := by
  unfold cont
  rw [scan_step, scan_step, if_neg (show ¬ (atPlace rd ep nx j t).ok = true by simp [h])]
  by_cases h0 : nx = 0
  · rw [if_pos h0, if_neg]
    · rfl
    · rintro ⟨_, h1⟩
      exact at_pos h1 h0
  · rw [if_neg h0, if_neg h0]
    by_cases h1 : j + 1 = S
    · rw [if_pos h1, if_neg (by omega)]
      rfl
    · rw [if_neg h1]
      by_cases h2 : (atPlace rd ep nx (j + 1) 0).ok = true
      · rw [if_pos h2, if_pos ⟨by omega, h2⟩, if_pos h2, Nat.zero_add]
      · rw [if_neg h2, if_neg (fun q => h2 q.2)]
        rfl
theorem cont_none {rd : Rd} {S ep nx j : Nat} (h : rights (view rd j 0) ep nx = false) (f : Nat) : cont rd S ep f nx j = ([], j - 1) := by
  unfold cont
  rw [if_neg]
  rintro ⟨_, h1⟩
  rw [at_rights, h] at h1
  cases h1
theorem cont_last (rd : Rd) (S ep f nx : Nat) : cont rd S ep f nx S = ([], S - 1) := by
  unfold cont
  rw [if_neg (by omega)]
theorem run_len {rd : Rd} {ep nx j : Nat} (hn : nx < 18446744073709551616) : (run ep 17 nx (view rd j 0)).length ≤ 16 := by
  obtain ⟨t', _, b, c, _⟩ := scan_run rd 0 ep j 17 nx 0 hn (by omega) (by omega)
  omega
theorem run_empty {ep nx : Nat} {l : List Sec} : run ep 17 nx l = [] ↔ rights l ep nx = false := by
  cases h : rights l ep nx with
  | false => simp [run_none h]
  | true => simp [run_some h]
theorem cont_step {rd : Rd} {S ep nx j f : Nat} (hn : nx < 18446744073709551616) (hj : j < S) (h : run ep 17 nx (view rd j 0) ≠ []) (hf : 17 ≤ f) :
    cont rd S ep f nx j = (run ep 17 nx (view rd j 0) ++ (cont rd S ep (f - (run ep 17 nx (view rd j 0)).length) (adv nx (run ep 17 nx (view rd j 0)).length) (j + 1)).1, (cont rd S ep (f - (run ep 17 nx (view rd j 0)).length) (adv nx (run ep 17 nx (view rd j 0)).length) (j + 1)).2) := by
  have hr : rights (view rd j 0) ep nx = true := by
    cases hc : rights (view rd j 0) ep nx with
    | true => rfl
    | false => exact absurd (run_empty.2 hc) h
  have hl := run_len (rd := rd) (ep := ep) (j := j) hn
  obtain ⟨t', a, b, c, d, e⟩ := scan_run rd S ep j 17 nx 0 hn (by omega) (by omega)
  generalize run ep 17 nx (view rd j 0) = R at *
  rw [cont, if_pos ⟨hj, by rw [at_rights, hr]⟩, e f (by omega)]
  obtain ⟨g, hg⟩ : ∃ g, f - R.length = g + 1 := ⟨f - R.length - 1, by omega⟩
  rw [hg, cont_end d hj]
/-- What the program's scan finds. -/
def pscan (rd : Rd) (S ep nx : Nat) : List Got × Nat := cont rd S ep (16 * S + 17) nx 0
/-- Of a log that is as it was laid: all its records. -/
theorem pscan_chain {rd : Rd} {S ep nx0 : Nat} (hep : ep < 4294967296) (hS : 0 < S) (h0 : 0 < nx0) {ps : List (List Int)} {e : Nat × Nat} (h : Chain rd S ep nx0 0 0 ps e) (hn : nx0 + ps.length < 18446744073709551616) (hl : ps.length ≤ 16 * S) :
    ∃ f, ps ≠ [] → pscan rd S ep nx0 = (tells ep nx0 ps ++ (scan rd S ep f (nx0 + ps.length) e.1 e.2).1, (scan rd S ep f (nx0 + ps.length) e.1 e.2).2) := by
  refine ⟨16 * S + 17 - ps.length, fun hne => ?_⟩
  have hs := scan_chain hep ps nx0 0 0 (16 * S + 17 - ps.length) e h0 hn h
  rw [show ps.length + (16 * S + 17 - ps.length) = 16 * S + 17 by omega] at hs
  rw [← hs, pscan, cont, if_pos]
  refine ⟨hS, ?_⟩
  cases ps with
  | nil => exact absurd rfl hne
  | cons p r =>
    have hn' : nx0 + (r.length + 1) < 18446744073709551616 := by simpa using hn
    obtain ⟨hr, ⟨h1, h2, _⟩ | ⟨h1, _⟩⟩ := h
    · rw [at_made hr (by omega) hep h1 h2]
    · have := size_fits (show p.length ≤ 700 by simp [right] at hr; exact hr.1)
      omega
theorem pscan_kept {n S st ep nx0 : Nat} {d : Dsk} {j t : Nat} {ps : List (List Int)} {safe : Nat} (h : Kept n S st ep nx0 d j t ps safe) (hep : ep < 4294967296) (h0 : 0 < nx0) (hn : nx0 + ps.length < 18446744073709551616) :
    pscan (vis d S st) S ep nx0 = (tells ep nx0 ps, j) := by
  have hc := (kept_count h).1
  obtain ⟨-, -, k3, k4, k5, k6, -⟩ := h
  cases ps with
  | nil =>
    obtain ⟨rfl, rfl⟩ : j = 0 ∧ t = 0 := by simpa [Chain] using k5
    rw [pscan, cont_none]
    · rfl
    · rw [← at_rights, at_zero fun i _ hi => k6 0 i k3 hi (by omega)]
      rfl
  | cons p r =>
    obtain ⟨f, hf⟩ := pscan_chain hep (by omega) h0 k5 hn hc
    rw [hf (by simp), scan_zero k6 k3 k4]
    simp
theorem pscan_crash {S st ep nx0 : Nat} {d : Dsk} {ps : List (List Int)} {safe : Nat} {e : Nat × Nat} (h : Safe S st ep nx0 d ps safe e) (ks : List Bool) (hep : ep < 4294967296) (hS : 0 < S) (h0 : 0 < nx0) (hn : nx0 + safe < 18446744073709551616) (hl : safe ≤ 16 * S) :
    ∃ r b, pscan (vis (d.crash ks) S st) S ep nx0 = (tells ep nx0 (ps.take safe) ++ r, b) := by
  have hlen : (ps.take safe).length = safe := by rw [List.length_take]; have := h.1; omega
  cases hq : ps.take safe with
  | nil => exact ⟨_, _, rfl⟩
  | cons p r =>
    have hc := safe_crash h ks
    rw [hq] at hc hlen
    obtain ⟨f, hf⟩ := pscan_chain hep hS h0 hc (by rw [hlen]; exact hn) (by rw [hlen]; exact hl)
    exact ⟨_, _, hf (by simp)⟩
/-- Each record that is found has the epoch, and the number that is one more. -/
theorem scan_seqs (rd : Rd) (S ep : Nat) : ∀ (f nx j t : Nat), nx < 18446744073709551616 → ∀ (i : Nat) (g : Got), (scan rd S ep f nx j t).1[i]? = some g → g.e = ep ∧ g.s = adv nx i
  | 0, _, _, _, _, i, g, h => by simp [scan] at h
  | f + 1, nx, j, t, hn, i, g, h => by
    rw [scan_step] at h
    have key : ∀ (j t : Nat) (r : List Got × Nat), (atPlace rd ep nx j t).ok = true → r = scan rd S ep f (more nx) j (t + (atPlace rd ep nx j t).n) → (atPlace rd ep nx j t :: r.1)[i]? = some g → g.e = ep ∧ g.s = adv nx i := by
      intro j t r ho hr hg
      cases i with
      | zero =>
        obtain rfl : atPlace rd ep nx j t = g := by simpa using hg
        obtain ⟨_, _, h3, h4, _⟩ := at_ok ho
        exact ⟨h4, by rw [h3, adv_zero hn]⟩
      | succ i =>
        rw [List.getElem?_cons_succ, hr] at hg
        rw [← adv_more]
        exact scan_seqs rd S ep f (more nx) j _ (more_lt nx) i g hg
    split at h
    · simp at h
    · split at h
      · rename_i ho
        exact key j t _ ho rfl h
      · split at h
        · simp at h
        · split at h
          · rename_i ho
            exact key (j + 1) 0 _ ho (by rw [Nat.zero_add]) h
          · simp at h
theorem pscan_seqs {rd : Rd} {S ep nx : Nat} (hn : nx < 18446744073709551616) (i : Nat) (g : Got) (h : (pscan rd S ep nx).1[i]? = some g) : g.e = ep ∧ g.s = adv nx i := by
  unfold pscan cont at h
  split at h
  · exact scan_seqs rd S ep _ nx 0 0 hn i g h
  · simp at h
/-- Of another epoch nothing is found. -/
theorem pscan_other {n S st ep ep' nx0 nx : Nat} {d : Dsk} {j t : Nat} {ps : List (List Int)} {safe : Nat} (h : Kept n S st ep nx0 d j t ps safe) (hep : ep < 4294967296) (hn : nx0 + ps.length < 18446744073709551616) (hne : ep' ≠ ep) :
    pscan (vis d S st) S ep' nx = ([], 0) := by
  obtain ⟨-, -, k3, k4, k5, k6, -⟩ := h
  rw [pscan, cont_none]
  rw [← at_rights]
  cases ps with
  | nil =>
    obtain ⟨rfl, rfl⟩ : j = 0 ∧ t = 0 := by simpa [Chain] using k5
    rw [at_zero fun i _ hi => k6 0 i k3 hi (by omega)]
    rfl
  | cons p r =>
    have hn' : nx0 + (r.length + 1) < 18446744073709551616 := by simpa using hn
    obtain ⟨hr, ⟨h1, h2, _⟩ | ⟨h1, _⟩⟩ := k5
    · have hm := made_len (e := ep) hr
      have e : got (view (vis d S st) 0 0) = ⟨true, size p.length, nx0, ep, p⟩ := by
        rw [view_has h2 (by rw [hm]; exact h1), got_made hr (by simpa using (show nx0 < 18446744073709551616 by omega)) (by simpa using hep), hm]
      unfold atPlace
      rw [e, if_neg]
      · rfl
      · simp only [Bool.and_eq_true, decide_eq_true_eq]
        rintro ⟨_, _, h5⟩
        exact hne h5.symm
    · have := size_fits (show p.length ≤ 700 by simp [right] at hr; exact hr.1)
      omega
end Go.Proofs.Ythgafnommcodcaa.Wal
