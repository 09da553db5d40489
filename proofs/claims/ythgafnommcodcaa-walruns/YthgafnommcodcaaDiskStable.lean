/-
  What is stable of a sector.
-/
import Derived.Test.YthgafnommcodcaaWalMore
import Derived.Test.YthgafnommcodcaaFrameMade
import Derived.Test.YthgafnommcodcaaBlk
import Derived.Test.YthgafnommcodcaaProg
import Derived.Deep.MidRow
import Derived.Laws.ResultCell
import Derived.ChangeKeysEq
import Derived.KernelRfl
import Derived.BigFrame
/-
  What of memory a disk holds, what stands behind a call that turns no more than that, and the laws for values of sixty-four cells and more: these are never taken apart.
-/
namespace Go.Proofs.Ythgafnommcodcaa.Disk
open Go.RowKit Go.Proofs.Ythgafnommcodcaa.Mem Go.Proofs.Ythgafnommcodcaa.Sect
open Go.Proofs.Ythgafnommcodcaa.Frame (Sec zero)
set_option maxRecDepth 100000

def wc (x : Wr) : List Value := .int .i64 x.1 :: sc x.2
theorem wc_len (x : Wr) : (wc x).length = 65 := by simp [wc, sc_len]
theorem wc_one (x : Wr) : ∀ v ∈ wc x, v.oneCell' = true := by
  intro v hv
  rcases List.mem_cons.1 hv with rfl | hv
  · rfl
  · exact sc_one _ v hv
def wrv (x : Wr) : Value := .agg (wc x).toArray

/-- No more than the blocks of S has turned. -/
def Fr (S : Nat → Prop) (w w' : World) : Prop := w'.os = w.os ∧ w'.tape = w.tape ∧ w'.output = w.output ∧ w.heap.size ≤ w'.heap.size ∧ ∀ k, k < w.heap.size → ¬ S k → w'.heap[k]? = w.heap[k]?
section
variable {S S' : Nat → Prop} {B : Nat} {w w' a b c : World}
theorem Fr.refl (S : Nat → Prop) (w : World) : Fr S w w := ⟨rfl, rfl, rfl, Nat.le_refl _, fun _ _ _ => rfl⟩
theorem Fr.trans (h : Fr S a b) (k : Fr S' b c) (hS : ∀ n, S' n → S n ∨ a.heap.size ≤ n) : Fr S a c :=
  ⟨k.1.trans h.1, k.2.1.trans h.2.1, k.2.2.1.trans h.2.2.1, Nat.le_trans h.2.2.2.1 k.2.2.2.1, fun n hn hs => (k.2.2.2.2 n (Nat.lt_of_lt_of_le hn h.2.2.2.1) (fun q => by rcases hS n q with q | q; exact hs q; omega)).trans (h.2.2.2.2 n hn hs)⟩
theorem Fr.of_below (h : Below w.heap.size w w') (S : Nat → Prop) : Fr S w w' := ⟨h.os, h.tape, h.output, h.size, fun k hk _ => h.block k hk⟩
theorem Fr.below (h : Fr S w w') (hS : ∀ k, S k → B ≤ k) (hB : B ≤ w.heap.size) : Below B w w' := ⟨h.1, h.2.1, h.2.2.1, h.2.2.2.1, fun k hk => h.2.2.2.2 k (by omega) (fun q => by have := hS k q; omega)⟩
theorem Fr.of_grown {g : Option Nat} (h : w.grownBy w' g) (hS : ∀ k, g = some k → S k) : Fr S w w' := ⟨h.os, h.tape, h.output, h.size, fun k hk hs => h.block k hk (fun e => hs (hS k e.symm))⟩
theorem Fr.blk {g : Nat} {t : TypeId} {cs : List Value} (h : Fr S w w') (hb : Blk w g t cs) (hs : ¬ S g) : Blk w' g t cs := (h.2.2.2.2 g hb.lt hs).trans hb
theorem Fr.size (h : Fr S w w') : w.heap.size ≤ w'.heap.size := h.2.2.2.1
end

/-- The disk at block g holds d, its two slices are vs and vp; all its blocks are in S, none lies below B. -/
def Dkv (B : Nat) (S : Nat → Prop) (w : World) (g : Nat) (vs vp : Value) (d : Dsk) : Prop :=
  Blk w g 83 [vs, vp, .bool d.dn, .int .i64 d.lf] ∧ w.ownsRow B 70 64 vs d.st.length (d.st.flatMap sc) ∧ w.ownsRow B 119 65 vp d.pe.length (d.pe.flatMap wc) ∧
    S g ∧ (∀ b, vs.ownBlock = some b → S b ∧ b ≠ g) ∧ (∀ b, vp.ownBlock = some b → S b ∧ b ≠ g ∧ vs.ownBlock ≠ some b) ∧ (∀ k, S k → B ≤ k ∧ k < w.heap.size)
def Dk (B : Nat) (S : Nat → Prop) (w : World) (g : Nat) (d : Dsk) : Prop := ∃ vs vp, Dkv B S w g vs vp d
/-- The same disk, and no more has turned. -/
def Went (B : Nat) (S : Nat → Prop) (w w' : World) (g : Nat) (d : Dsk) : Prop := ∃ S', Dk B S' w' g d ∧ Fr S w w' ∧ ∀ k, S' k → S k ∨ w.heap.size ≤ k
section
variable {S : Nat → Prop} {B g : Nat} {w w' : World} {d : Dsk}
theorem own_lower {B' : Nat} {e : TypeId} {k n : Nat} {v : Value} {xs : List Value} (h : w.ownsRow B e k v n xs) (hB : B' ≤ B) : w.ownsRow B' e k v n xs := by
  refine ⟨h.1, ?_⟩
  rcases h.2 with h | ⟨g, cap, cur, h1, h2, h3⟩
  · exact .inl h
  · exact .inr ⟨g, cap, cur, h1, by omega, h3⟩
theorem Dk.lower (h : Dk B S w g d) {B' : Nat} (hB : B' ≤ B) : Dk B' S w g d := by
  obtain ⟨vs, vp, h1, h2, h3, h4, h5, h6, h7⟩ := h
  exact ⟨vs, vp, h1, own_lower h2 hB, own_lower h3 hB, h4, h5, h6, fun k hk => ⟨by have := (h7 k hk).1; omega, (h7 k hk).2⟩⟩
theorem own_below {e : TypeId} {k n : Nat} {v : Value} {xs : List Value} (h : w.ownsRow B e k v n xs) (hb : Below w.heap.size w w') : w'.ownsRow B e k v n xs := by
  refine ⟨h.1, ?_⟩
  rcases h.2 with h | ⟨g, cap, cur, h1, h2, h3, h4⟩
  · exact .inl h
  · exact .inr ⟨g, cap, cur, h1, h2, (hb.block g (Array.getElem?_eq_some_iff.1 h3).1).trans h3, h4⟩
theorem Dk.below (h : Dk B S w g d) (hb : Below w.heap.size w w') : Dk B S w' g d := by
  obtain ⟨vs, vp, h1, h2, h3, h4, h5, h6, h7⟩ := h
  exact ⟨vs, vp, h1.below hb, own_below h2 hb, own_below h3 hb, h4, h5, h6, fun k hk => ⟨(h7 k hk).1, Nat.lt_of_lt_of_le (h7 k hk).2 hb.size⟩⟩
theorem Dkv.below {vs vp : Value} (h : Dkv B S w g vs vp d) (hb : Below w.heap.size w w') : Dkv B S w' g vs vp d := by
  obtain ⟨h1, h2, h3, h4, h5, h6, h7⟩ := h
  exact ⟨h1.below hb, own_below h2 hb, own_below h3 hb, h4, h5, h6, fun k hk => ⟨(h7 k hk).1, Nat.lt_of_lt_of_le (h7 k hk).2 hb.size⟩⟩
theorem Dk.base (h : Dk B S w g d) : ∀ k, S k → B ≤ k := by
  obtain ⟨vs, vp, h1, h2, h3, h4, h5, h6, h7⟩ := h
  exact fun k hk => (h7 k hk).1
theorem Dk.lt (h : Dk B S w g d) : ∀ k, S k → k < w.heap.size := by
  obtain ⟨vs, vp, h1, h2, h3, h4, h5, h6, h7⟩ := h
  exact fun k hk => (h7 k hk).2
/-- What one reads of it. -/
theorem Dk.reads (h : Dk B S w g d) : ∃ p c q e, Blk w g 83 [.slice p d.st.length c, .slice q d.pe.length e, .bool d.dn, .int .i64 d.lf] ∧ RK sc w p c d.st ∧ RK wc w q e d.pe := by
  obtain ⟨vs, vp, h1, h2, h3, h4, h5, h6, h7⟩ := h
  obtain ⟨p, c, rfl, r1, _⟩ := own_rk sc_len (by decide) h2
  obtain ⟨q, e, rfl, r2, _⟩ := own_rk wc_len (by decide) h3
  exact ⟨p, c, q, e, h1, r1, r2⟩
theorem Went.keep (h : Dk B S w g d) (hb : Below w.heap.size w w') : Went B S w w' g d := ⟨S, h.below hb, Fr.of_below hb S, fun _ h => .inl h⟩
end

/-! ### Values of many cells -/
section
variable {P : Program}
end
theorem size_wr (x : Wr) : (Try.prog.info? 119).map (·.size) = some (wc x).length := by rw [wc_len]; kernel_rfl
theorem und_wr : ∃ d, Try.prog.underlying 119 = some d ∧ TypeDesc.isRow d = true := ⟨_, rfl, rfl⟩
theorem zero_wr : (Try.prog.info? 119).map (fun i => i.zero) = some (some (wrv (0, zero))) := by kernel_rfl

section
variable {o : Oper} {a : Act} {w : World} {K : Act → World → Prop} {Q : Exit → Act → World → Prop}
end
end Go.Proofs.Ythgafnommcodcaa.Disk
/-
  Values of sixty-four cells and more: made, compared, laid into slices; a slice that is made; an append, and where it lies.
-/
namespace Go.Proofs.Ythgafnommcodcaa.Disk
open Go.RowKit Go.Proofs.Ythgafnommcodcaa.Mem Go.Proofs.Ythgafnommcodcaa.Sect
open Go.Proofs.Ythgafnommcodcaa.Frame (Sec zero)
set_option maxRecDepth 100000

theorem run_build1 (b : Int) (w : World) : (Instr.build 70 #[(0, .int .u8 b)]).run Try.prog w = .ok (secv (one b)) w := by rfl
theorem run_build2 (b c : Int) (w : World) : (Instr.build 70 #[(0, .int .u8 b), (1, .int .u8 c)]).run Try.prog w = .ok (secv (two b c)) w := by rfl
theorem run_buildw (i : Int) (s : Sec) (w : World) : (Instr.build 119 #[(0, .int .i64 i), (1, secv s)]).run Try.prog w = .ok (wrv (i, s)) w := by
  obtain ⟨f, rfl⟩ := sec_form s
  kernel_rfl
theorem run_buildr (i : Int) (s : Sec) (w : World) : (Instr.build 117 #[(0, .int .i64 i), (1, secv s)]).run Try.prog w = .ok (wrv (i, s)) w := by
  obtain ⟨f, rfl⟩ := sec_form s
  kernel_rfl
theorem run_litw (x : Wr) (w : World) : (Instr.buildSlice 81 1 #[(0, wrv x)]).run Try.prog w = .ok (.slice (some ⟨w.heap.size, 0, none⟩) 1 1) (w.alloc (.cells (wc x).toArray 119)) := by
  obtain ⟨i, s⟩ := x
  obtain ⟨f, rfl⟩ := sec_form s
  kernel_rfl
theorem run_litr (x : Wr) (w : World) : (Instr.buildSlice 37 1 #[(0, wrv x)]).run Try.prog w = .ok (.slice (some ⟨w.heap.size, 0, none⟩) 1 1) (w.alloc (.cells (wc x).toArray 117)) := by
  obtain ⟨i, s⟩ := x
  obtain ⟨f, rfl⟩ := sec_form s
  kernel_rfl

/-- An append to what is one's own: as ever, and it lies where it lay, or is new. -/
theorem run_append_where {P : Program} (w : World) (base : Nat) (t ty e : TypeId) (i : TypeInfo) (z : Value) (size bytes : Nat) (ht : P.underlying t = some (.slice e)) (hi : P.info? e = some i) (hz : i.zero = some z)
    (hsize : i.size = size) (hby : i.bytes = bytes) (hzs : z.cells.size = size) (hsz : 0 < size)
    (v : Value) (n : Nat) (xs : List Value) (hown : w.ownsRow base e size v n xs)
    (a : Addr) (m c : Nat) (news : List Value) (hl : news.length = m * size) (hnews : ∀ j u, news[j]? = some u → w.cell? (a.add j) = some u) (h1 : ∀ u ∈ news, u.oneCell' = true)
    (h63 : n + m ≤ maxLen) (hbytes : (n + m) * bytes ≤ 140737488355328) (hbase : base ≤ w.heap.size) :
    ∃ v' w', (Builtin.append_ #[t, t] ty #[v, .slice (some a) m c]).run P w = .ok v' w' ∧ w'.ownsRow base e size v' (n + m) (xs ++ news) ∧ w.grownBy w' v.ownBlock ∧ ∀ k, v'.ownBlock = some k → v.ownBlock = some k ∨ w.heap.size ≤ k := by
  obtain ⟨v', w', hr, h2, h3, _⟩ := run_append_own (P := P) w base t ty e i z size bytes ht hi hz hsize hby hzs hsz v n xs hown a m c news hl hnews h1 h63 hbytes hbase
  refine ⟨v', w', hr, h2, h3, fun k hk => ?_⟩
  rcases hown.2 with ⟨rfl, rfl⟩ | ⟨g, cap, cur, rfl, hbg, hg, hnc, hcm, hcs, htake⟩
  · obtain ⟨v2, w2, hr2, h22, _⟩ := run_append_own (P := P) w w.heap.size t ty e i z size bytes ht hi hz hsize hby hzs hsz (.slice none 0 0) 0 xs ⟨hown.1, .inl ⟨rfl, rfl⟩⟩ a m c news hl hnews h1 h63 hbytes (Nat.le_refl _)
    rw [hr2] at hr
    obtain ⟨rfl, rfl⟩ : v2 = v' ∧ w2 = w' := by simpa using hr
    exact .inr (h22.lt k hk).1
  · by_cases hroom : n + m ≤ cap
    · subst hsize
      have hr2 := run_append_room (P := P) w t ty e i ht hi g n cap cur hg a m c news hl hnews h1 hroom (by rw [hl, hcs, ← Nat.add_mul]; exact Nat.mul_le_mul_right _ hroom)
      rw [hr2] at hr
      obtain ⟨rfl, _⟩ : _ = v' ∧ _ = w' := by simpa using hr
      left
      simpa [Value.ownBlock] using hk
    · subst hsize
      subst hby
      have holds : ∀ j u, xs[j]? = some u → w.cell? ((⟨g, 0, none⟩ : Addr).add j) = some u := hown.cells (g := g) rfl
      have hr2 := run_append_grow (P := P) w t ty e i z ht hi hz ⟨g, 0, none⟩ n cap xs hown.1 holds a m c news hl hnews (by simp only [maxLen] at h63; omega) (by simp only [maxLen] at h63; omega) (growslice_fits (by simp only [maxLen] at h63; omega) hbytes)
      rw [hr2] at hr
      obtain ⟨rfl, _⟩ : _ = v' ∧ _ = w' := by simpa using hr
      right
      simp [Value.ownBlock] at hk
      omega
end Go.Proofs.Ythgafnommcodcaa.Disk
/-
  The small functions of package disk: has, Len, Down, Break, act.
-/
namespace Go.Proofs.Ythgafnommcodcaa.Disk
open Go.RowKit Go.Proofs.Ythgafnommcodcaa.Mem Go.Proofs.Ythgafnommcodcaa.Sect
open Go.Proofs.Ythgafnommcodcaa.Frame (Sec zero)
set_option maxRecDepth 100000

section
variable {S : Nat → Prop} {B g : Nat} {w w' : World} {d : Dsk}
/-- What one reads of it, and what it is once one of the two small cells has turned. -/
theorem Dk.parts (h : Dk B S w g d) : ∃ p c q e, Blk w g 83 [.slice p d.st.length c, .slice q d.pe.length e, .bool d.dn, .int .i64 d.lf] ∧ RK sc w p c d.st ∧ RK wc w q e d.pe ∧
    ∀ w' dn lf, Blk w' g 83 [.slice p d.st.length c, .slice q d.pe.length e, .bool dn, .int .i64 lf] → w.grownBy w' (some g) → Went B S w w' g { d with dn := dn, lf := lf } := by
  obtain ⟨vs, vp, h1, h2, h3, h4, h5, h6, h7⟩ := h
  have k2 := h2
  have k3 := h3
  obtain ⟨p, c, rfl, r1, _⟩ := own_rk sc_len (by decide) h2
  obtain ⟨q, e, rfl, r2, _⟩ := own_rk wc_len (by decide) h3
  exact ⟨p, c, q, e, h1, r1, r2, fun w' dn lf hb hg => ⟨S, ⟨_, _, hb, k2.kept hg (.inr fun q => (h5 g q).2 rfl), k3.kept hg (.inr fun q => (h6 g q).2.1 rfl), h4, h5, h6, fun k hk => ⟨(h7 k hk).1, Nat.lt_of_lt_of_le (h7 k hk).2 hg.size⟩⟩, Fr.of_grown hg (fun k hk => by simp at hk; subst hk; exact h4), fun k hk => .inl hk⟩⟩
end
theorem results_none {P : Program} {fn : Func} (h : fn.results = #[]) (tmps : Array Value) (w : World) : (results fn tmps).run P w = .ok (.tuple #[]) w := by simp [results, h]
theorem has_any {S : Nat → Prop} {B g : Nat} {w : World} {d : Dsk} (h : Dk B S w g d) (i : Int) :
    Calls Try.prog 57 #[.pointer (some ⟨g, 0, none⟩), .int .i64 i] w fun e w' => e = .returned (.bool (has d.st.length i)) ∧ w' = w := by
  obtain ⟨p, c, q, e, hb, _, _, _⟩ := h.parts
  have hc := hb.cell
  by_cases h0 : 0 ≤ i
  · have e0 : decide (0 ≤ i) = true := decide_eq_true h0
    go_enter Try.func57, Try.ntmps57
    go_wp2
    all_goals (go_ret; refine ⟨?_, rfl⟩; simp [has, h0])
  · have e0 : decide (0 ≤ i) = false := decide_eq_false h0
    go_enter Try.func57, Try.ntmps57
    go_wp2
    all_goals (go_ret; refine ⟨?_, rfl⟩; simp [has]; omega)
theorem len_any {S : Nat → Prop} {B g : Nat} {w : World} {d : Dsk} (h : Dk B S w g d) :
    Calls Try.prog 36 #[.pointer (some ⟨g, 0, none⟩)] w fun e w' => e = .returned (.int .i64 (d.st.length : Int)) ∧ w' = w := by
  obtain ⟨p, c, q, e, hb, _, _, _⟩ := h.parts
  have hc := hb.cell
  go_enter Try.func36, Try.ntmps36
  go_wp2
  go_ret
  exact ⟨rfl, rfl⟩
theorem down_any {S : Nat → Prop} {B g : Nat} {w : World} {d : Dsk} (h : Dk B S w g d) :
    Calls Try.prog 32 #[.pointer (some ⟨g, 0, none⟩)] w fun e w' => e = .returned (.bool d.dn) ∧ w' = w := by
  obtain ⟨p, c, q, e, hb, _, _, _⟩ := h.parts
  have hc := hb.cell
  go_enter Try.func32, Try.ntmps32
  go_wp2
  go_ret
  exact ⟨rfl, rfl⟩
theorem break_any {S : Nat → Prop} {B g : Nat} {w : World} {d : Dsk} (h : Dk B S w g d) (n : Int) :
    Calls Try.prog 21 #[.pointer (some ⟨g, 0, none⟩), .int .i64 n] w fun e w' => e = .returned (.tuple #[]) ∧ Went B S w w' g (d.breaks n) := by
  obtain ⟨p, c, q, e, hb, _, _, hk⟩ := h.parts
  have hc := hb.cell
  have hf := hb.frozen
  go_enter Try.func21, Try.ntmps21
  go_wp2
  all_goals refine ⟨rfl, .tuple #[], results_none rfl _ _, rfl, ?_⟩
  · rename_i hn
    have e1 : d.breaks n = { d with lf := -1 } := by simp only [Dsk.breaks]; congr 1; omega
    rw [e1]
    exact hk _ d.dn (-1) (hb.put 3 _) (only_put _ _ _)
  · rename_i hn
    have e1 : d.breaks n = { d with lf := n } := by simp only [Dsk.breaks]; congr 1; omega
    rw [e1]
    exact hk _ d.dn n (hb.put 3 _) (only_put _ _ _)
theorem act_any {S : Nat → Prop} {B g : Nat} {w : World} {d : Dsk} (h : Dk B S w g d) (hd : d.ok) :
    Calls Try.prog 68 #[.pointer (some ⟨g, 0, none⟩)] w fun e w' => e = .returned (.int .i64 d.err) ∧ Went B S w w' g d.acted := by
  obtain ⟨_, _, _, l1, l2⟩ := hd
  have hkeep := Went.keep h (Below.refl _ w)
  obtain ⟨p, c, q, e, hb, _, _, hk⟩ := h.parts
  obtain ⟨st, pe, dn, lf⟩ := d
  simp only at l1 l2 hb hk
  have hc := hb.cell
  have hf := hb.frozen
  cases dn with
  | true =>
    have e1 : Dsk.acted ⟨st, pe, true, lf⟩ = ⟨st, pe, true, lf⟩ := by simp [Dsk.acted, Dsk.no]
    have e2 : Dsk.err ⟨st, pe, true, lf⟩ = 72 := by simp [Dsk.err, Dsk.no]
    rw [e1, e2]
    go_enter Try.func68, Try.ntmps68
    go_wp2
    go_ret
    exact ⟨rfl, hkeep⟩
  | false =>
    by_cases h0 : lf = 0
    · subst h0
      have e1 : Dsk.acted ⟨st, pe, false, 0⟩ = ⟨st, pe, true, 0⟩ := by simp [Dsk.acted, Dsk.no]
      have e2 : Dsk.err ⟨st, pe, false, 0⟩ = 72 := by simp [Dsk.err, Dsk.no]
      rw [e1, e2]
      go_enter Try.func68, Try.ntmps68
      go_wp2
      go_ret
      exact ⟨rfl, hk _ true 0 (hb.put 2 _) (only_put _ _ _)⟩
    · have e2 : Dsk.err ⟨st, pe, false, lf⟩ = 0 := by simp [Dsk.err, Dsk.no, h0]
      have b0 : (lf == 0) = false := by simp [h0]
      rw [e2]
      by_cases hp : 0 < lf
      · have e1 : Dsk.acted ⟨st, pe, false, lf⟩ = ⟨st, pe, false, lf - 1⟩ := by simp [Dsk.acted, Dsk.no, h0, hp]
        have b1 : decide (0 < lf) = true := decide_eq_true hp
        have hw : IntKind.i64.wrap (lf - 1) = lf - 1 := wrap_int ⟨by omega, by omega⟩
        rw [e1]
        go_enter Try.func68, Try.ntmps68
        go_wp2
        go_ret
        exact ⟨rfl, hk _ false (lf - 1) (hb.put 3 _) (only_put _ _ _)⟩
      · have e1 : Dsk.acted ⟨st, pe, false, lf⟩ = ⟨st, pe, false, lf⟩ := by simp [Dsk.acted, Dsk.no, h0, hp]
        have b1 : decide (0 < lf) = false := decide_eq_false hp
        rw [e1]
        go_enter Try.func68, Try.ntmps68
        go_wp2
        go_ret
        exact ⟨rfl, hkeep⟩
end Go.Proofs.Ythgafnommcodcaa.Disk
/-
  What an operation on a sector or a write does, as a walk meets it: no cell of theirs is looked at.
-/
namespace Go.Proofs.Ythgafnommcodcaa.Disk
open Go.RowKit Go.Proofs.Ythgafnommcodcaa.Mem Go.Proofs.Ythgafnommcodcaa.Sect
open Go.Proofs.Ythgafnommcodcaa.Frame (Sec zero)
set_option maxRecDepth 100000

section
variable {o : Oper} {a : Act} {w : World} {K : Act → World → Prop} {Q : Exit → Act → World → Prop}
theorem wp_alloc_wr (ho : o.op = .alloc 119) (h : ∀ w', Blk w' w.heap.size 119 (wc (0, zero)) → Below w.heap.size w w' → Hid (w'.heap.size = w.heap.size + 1) → K (a.put o.dst (.pointer (some ⟨w.heap.size, 0, none⟩))) w') : o.wp Try.prog a w K Q :=
  wp_alloc_z _ (wc (0, zero)) ho zero_wr (h _ (new_blk _ _ _) (bnew _ _) (by unfold Hid; simp))
theorem zero_rf : (Try.prog.info? 117).map (fun i => i.zero) = some (some (wrv (0, zero))) := by kernel_rfl
theorem wp_alloc_rf (ho : o.op = .alloc 117) (h : ∀ w', Blk w' w.heap.size 117 (wc (0, zero)) → Below w.heap.size w w' → Hid (w'.heap.size = w.heap.size + 1) → K (a.put o.dst (.pointer (some ⟨w.heap.size, 0, none⟩))) w') : o.wp Try.prog a w K Q :=
  wp_alloc_z _ (wc (0, zero)) ho zero_rf (h _ (new_blk _ _ _) (bnew _ _) (by unfold Hid; simp))
theorem wp_build1 (x : Operand) (b : Int) (ho : o.op = .build 70 #[(0, x)]) (hx : a.eval x = .int .u8 b) (h : K (a.put o.dst (secv (one b))) w) : o.wp Try.prog a w K Q :=
  wp_run (Instr.build 70 #[(0, .int .u8 b)]) (by simp [execOp, ho, hx]) (run_build1 b w) h
theorem wp_build2 (x y : Operand) (b c : Int) (ho : o.op = .build 70 #[(0, x), (1, y)]) (hx : a.eval x = .int .u8 b) (hy : a.eval y = .int .u8 c) (h : K (a.put o.dst (secv (two b c))) w) : o.wp Try.prog a w K Q :=
  wp_run (Instr.build 70 #[(0, .int .u8 b), (1, .int .u8 c)]) (by simp [execOp, ho, hx, hy]) (run_build2 b c w) h
theorem wp_buildw (x y : Operand) (i : Int) (s : Sec) (ho : o.op = .build 119 #[(0, x), (1, y)]) (hx : a.eval x = .int .i64 i) (hy : a.eval y = secv s) (h : K (a.put o.dst (wrv (i, s))) w) : o.wp Try.prog a w K Q :=
  wp_run (Instr.build 119 #[(0, .int .i64 i), (1, secv s)]) (by simp [execOp, ho, hx, hy]) (run_buildw i s w) h
theorem wp_buildr (x y : Operand) (i : Int) (s : Sec) (ho : o.op = .build 117 #[(0, x), (1, y)]) (hx : a.eval x = .int .i64 i) (hy : a.eval y = secv s) (h : K (a.put o.dst (wrv (i, s))) w) : o.wp Try.prog a w K Q :=
  wp_run (Instr.build 117 #[(0, .int .i64 i), (1, secv s)]) (by simp [execOp, ho, hx, hy]) (run_buildr i s w) h
theorem wp_litw (x : Operand) (y : Wr) (ho : o.op = .buildSlice 81 1 #[(0, x)]) (hx : a.eval x = wrv y) (h : ∀ w', Blk w' w.heap.size 119 (wc y) → Below w.heap.size w w' → Hid (w'.heap.size = w.heap.size + 1) → K (a.put o.dst (.slice (some ⟨w.heap.size, 0, none⟩) 1 1)) w') : o.wp Try.prog a w K Q :=
  wp_run (Instr.buildSlice 81 1 #[(0, wrv y)]) (by simp [execOp, ho, hx]) (run_litw y w) (h _ (new_blk _ _ _) (bnew _ _) (by unfold Hid; simp))
theorem wp_litr (x : Operand) (y : Wr) (ho : o.op = .buildSlice 37 1 #[(0, x)]) (hx : a.eval x = wrv y) (h : ∀ w', Blk w' w.heap.size 117 (wc y) → Below w.heap.size w w' → Hid (w'.heap.size = w.heap.size + 1) → K (a.put o.dst (.slice (some ⟨w.heap.size, 0, none⟩) 1 1)) w') : o.wp Try.prog a w K Q :=
  wp_run (Instr.buildSlice 37 1 #[(0, wrv y)]) (by simp [execOp, ho, hx]) (run_litr y w) (h _ (new_blk _ _ _) (bnew _ _) (by unfold Hid; simp))
theorem wp_load_wr (x : Operand) (b p : Nat) (y : Wr) (ho : o.op = .load 119 x) (hx : a.eval x = .pointer (some ⟨b, p, none⟩)) (hc : w.rangeAt b p (wc y)) (h : K (a.put o.dst (wrv y)) w) : o.wp Try.prog a w K Q :=
  wp_load_mid _ x ho b p hx (wc y) _ hc (by rfl) rfl (size_wr y) h
theorem size_rf (x : Wr) : (Try.prog.info? 117).map (·.size) = some (wc x).length := by rw [wc_len]; kernel_rfl
theorem wp_load_rf (x : Operand) (b p : Nat) (y : Wr) (ho : o.op = .load 117 x) (hx : a.eval x = .pointer (some ⟨b, p, none⟩)) (hc : w.rangeAt b p (wc y)) (h : K (a.put o.dst (wrv y)) w) : o.wp Try.prog a w K Q :=
  wp_load_mid _ x ho b p hx (wc y) _ hc (by rfl) rfl (size_rf y) h
theorem wp_store_wv (t : TypeId) (x y : Operand) (g : Nat) (s0 s : Wr) (hi : (Try.prog.info? t).map (·.size) = some (wc s).length) (ho : o.op = .store t x y) (hx : a.eval x = .pointer (some ⟨g, 0, none⟩)) (hy : a.eval y = wrv s) (hb : Blk w g t (wc s0))
    (h : ∀ w', Blk w' g t (wc s) → w.grownBy w' (some g) → Hid (w'.heap.size = w.heap.size) → K (a.put o.dst undef) w') : o.wp Try.prog a w K Q := by
  unfold Oper.wp execOp
  have e := run_storeVar_row (P := Try.prog) w g t t (wc s0).toArray (wc s).toArray hb (by simpa using hi) (by simp [wc_len]) (all_oneCell_toArray (wc_one s))
  simp only [ho, hx, hy, wrv, Instr.storeAt, Instr.sureAddr, Sem.run_bind, Sem.run_pure, Result.andThen_ok, e]
  exact h _ (setRow_heap w g _ _ _ _ hb) ⟨rfl, rfl, rfl, by simp [World.setRow], fun k _ hk => setRow_other w g k _ (fun e => hk (by simp [e]))⟩ (by unfold Hid; simp [World.setRow])
end
section
variable {o : Oper} {a : Act} {w : World} {ops : Array Oper} {rest : List Oper} {Q : Exit → Act → World → Prop}
theorem at_alloc_wr (ho : o.op = .alloc 119) (hw : Region.wanted o (yielded ops a.tmps) = true) (h : ∀ w', Blk w' w.heap.size 119 (wc (0, zero)) → Below w.heap.size w w' → Hid (w'.heap.size = w.heap.size + 1) → wpList Try.prog ops Q rest (a.put o.dst (.pointer (some ⟨w.heap.size, 0, none⟩))) w') : wpList Try.prog ops Q (o :: rest) a w :=
  BigFrame.wpList_want hw fun _ hK => wp_alloc_wr ho (fun w2 h1 h2 h3 => hK _ _ (h w2 h1 h2 h3))
theorem at_alloc_rf (ho : o.op = .alloc 117) (hw : Region.wanted o (yielded ops a.tmps) = true) (h : ∀ w', Blk w' w.heap.size 117 (wc (0, zero)) → Below w.heap.size w w' → Hid (w'.heap.size = w.heap.size + 1) → wpList Try.prog ops Q rest (a.put o.dst (.pointer (some ⟨w.heap.size, 0, none⟩))) w') : wpList Try.prog ops Q (o :: rest) a w :=
  BigFrame.wpList_want hw fun _ hK => wp_alloc_rf ho (fun w2 h1 h2 h3 => hK _ _ (h w2 h1 h2 h3))
theorem at_build1 (x : Operand) (b : Int) (ho : o.op = .build 70 #[(0, x)]) (hx : a.eval x = .int .u8 b) (hw : Region.wanted o (yielded ops a.tmps) = true) (h : wpList Try.prog ops Q rest (a.put o.dst (secv (one b))) w) : wpList Try.prog ops Q (o :: rest) a w :=
  BigFrame.wpList_want hw fun _ hK => wp_build1 x b ho hx (hK _ _ h)
theorem at_build2 (x y : Operand) (b c : Int) (ho : o.op = .build 70 #[(0, x), (1, y)]) (hx : a.eval x = .int .u8 b) (hy : a.eval y = .int .u8 c) (hw : Region.wanted o (yielded ops a.tmps) = true) (h : wpList Try.prog ops Q rest (a.put o.dst (secv (two b c))) w) : wpList Try.prog ops Q (o :: rest) a w :=
  BigFrame.wpList_want hw fun _ hK => wp_build2 x y b c ho hx hy (hK _ _ h)
theorem at_buildw (x y : Operand) (i : Int) (s : Sec) (ho : o.op = .build 119 #[(0, x), (1, y)]) (hx : a.eval x = .int .i64 i) (hy : a.eval y = secv s) (hw : Region.wanted o (yielded ops a.tmps) = true) (h : wpList Try.prog ops Q rest (a.put o.dst (wrv (i, s))) w) : wpList Try.prog ops Q (o :: rest) a w :=
  BigFrame.wpList_want hw fun _ hK => wp_buildw x y i s ho hx hy (hK _ _ h)
theorem at_buildr (x y : Operand) (i : Int) (s : Sec) (ho : o.op = .build 117 #[(0, x), (1, y)]) (hx : a.eval x = .int .i64 i) (hy : a.eval y = secv s) (hw : Region.wanted o (yielded ops a.tmps) = true) (h : wpList Try.prog ops Q rest (a.put o.dst (wrv (i, s))) w) : wpList Try.prog ops Q (o :: rest) a w :=
  BigFrame.wpList_want hw fun _ hK => wp_buildr x y i s ho hx hy (hK _ _ h)
theorem at_litw (x : Operand) (y : Wr) (ho : o.op = .buildSlice 81 1 #[(0, x)]) (hx : a.eval x = wrv y) (hw : Region.wanted o (yielded ops a.tmps) = true) (h : ∀ w', Blk w' w.heap.size 119 (wc y) → Below w.heap.size w w' → Hid (w'.heap.size = w.heap.size + 1) → wpList Try.prog ops Q rest (a.put o.dst (.slice (some ⟨w.heap.size, 0, none⟩) 1 1)) w') : wpList Try.prog ops Q (o :: rest) a w :=
  BigFrame.wpList_want hw fun _ hK => wp_litw x y ho hx (fun w2 h1 h2 h3 => hK _ _ (h w2 h1 h2 h3))
theorem at_litr (x : Operand) (y : Wr) (ho : o.op = .buildSlice 37 1 #[(0, x)]) (hx : a.eval x = wrv y) (hw : Region.wanted o (yielded ops a.tmps) = true) (h : ∀ w', Blk w' w.heap.size 117 (wc y) → Below w.heap.size w w' → Hid (w'.heap.size = w.heap.size + 1) → wpList Try.prog ops Q rest (a.put o.dst (.slice (some ⟨w.heap.size, 0, none⟩) 1 1)) w') : wpList Try.prog ops Q (o :: rest) a w :=
  BigFrame.wpList_want hw fun _ hK => wp_litr x y ho hx (fun w2 h1 h2 h3 => hK _ _ (h w2 h1 h2 h3))
theorem at_load_wr (x : Operand) (b p : Nat) (y : Wr) (ho : o.op = .load 119 x) (hx : a.eval x = .pointer (some ⟨b, p, none⟩)) (hc : w.rangeAt b p (wc y)) (hw : Region.wanted o (yielded ops a.tmps) = true) (h : wpList Try.prog ops Q rest (a.put o.dst (wrv y)) w) : wpList Try.prog ops Q (o :: rest) a w :=
  BigFrame.wpList_want hw fun _ hK => wp_load_wr x b p y ho hx hc (hK _ _ h)
theorem at_load_rf (x : Operand) (b p : Nat) (y : Wr) (ho : o.op = .load 117 x) (hx : a.eval x = .pointer (some ⟨b, p, none⟩)) (hc : w.rangeAt b p (wc y)) (hw : Region.wanted o (yielded ops a.tmps) = true) (h : wpList Try.prog ops Q rest (a.put o.dst (wrv y)) w) : wpList Try.prog ops Q (o :: rest) a w :=
  BigFrame.wpList_want hw fun _ hK => wp_load_rf x b p y ho hx hc (hK _ _ h)
theorem at_store_wv (t : TypeId) (x y : Operand) (g : Nat) (s0 s : Wr) (hi : (Try.prog.info? t).map (·.size) = some (wc s).length) (ho : o.op = .store t x y) (hx : a.eval x = .pointer (some ⟨g, 0, none⟩)) (hy : a.eval y = wrv s) (hb : Blk w g t (wc s0)) (hw : Region.wanted o (yielded ops a.tmps) = true) (h : ∀ w', Blk w' g t (wc s) → w.grownBy w' (some g) → Hid (w'.heap.size = w.heap.size) → wpList Try.prog ops Q rest (a.put o.dst undef) w') : wpList Try.prog ops Q (o :: rest) a w :=
  BigFrame.wpList_want hw fun _ hK => wp_store_wv t x y g s0 s hi ho hx hy hb (fun w2 h1 h2 h3 => hK _ _ (h w2 h1 h2 h3))

end
theorem blk_wr {w : World} {g : Nat} {t : TypeId} {x : Wr} (h : Blk w g t (wc x)) : w.rangeAt g 0 (wc x) := fun j v hv => by rw [Nat.zero_add, h.cell]; exact hv
theorem blk_wsec {w : World} {g : Nat} {t : TypeId} {x : Wr} (h : Blk w g t (wc x)) : w.rangeAt g 1 (sc x.2) := fun j v hv => by
  rw [h.cell, Nat.add_comm]
  exact hv
theorem blk_wat {w : World} {g : Nat} {t : TypeId} {x : Wr} (h : Blk w g t (wc x)) : w.cell? ⟨g, 0, none⟩ = some (.int .i64 x.1) := by
  rw [h.cell]; rfl
end Go.Proofs.Ythgafnommcodcaa.Disk
namespace Go.Proofs.Ythgafnommcodcaa.Disk
open Go.RowKit Go.Proofs.Ythgafnommcodcaa.Mem Go.Proofs.Ythgafnommcodcaa.Sect
open Go.Proofs.Ythgafnommcodcaa.Frame (Sec zero)
set_option maxRecDepth 100000
/-- Two results, the first a sector in a block of its own. -/
theorem ret_sec {fn : Func} {p u : Tmp} {R : Ending → World → Prop} {a : Act} {w : World} (h : fn.results = #[.cell p 70, .tmp u]) (hd : a.defers = []) (g : Nat) (s : Sec) (hp : a.tmps.getD p undef = .pointer (some ⟨g, 0, none⟩))
    (hb : Blk w g 70 (sc s)) (hR : R (.returned (.tuple #[secv s, a.tmps.getD u undef])) w) : bodyPost Try.prog fn R .ret a w :=
  ret_cell h hd g _ (sc s) _ hp hb und_sec rfl (size_sec s) hR
theorem stable_any {S : Nat → Prop} {B g : Nat} {w : World} {d : Dsk} (h : Dk B S w g d) (i : Int) :
    Calls Try.prog 31 #[.pointer (some ⟨g, 0, none⟩), .int .i64 i] w fun e w' => e = .returned (.tuple #[secv (stab d.st i).1, .int .i64 (stab d.st i).2]) ∧ Below w.heap.size w w' := by
  obtain ⟨p, c, q, e, hb, r1, _, _⟩ := h.parts
  cases hh : has d.st.length i with
  | false =>
    have e1 : stab d.st i = (zero, 71) := by simp [stab, hh]
    rw [e1]
    go_enter Try.func31, Try.ntmps31
    go_wp2_with (first
      | ((refine at_alloc_sec (by rfl) (by rfl) ?_); intro W hW hB hz; have hD := h.below hB)
      | ((with_reducible refine (has_any hD i).mono ?_); rintro e w1 ⟨rfl, rfl⟩; rw [hh])
      | ((refine at_build0 (by rfl) (by rfl) ?_))
      | ((refine at_store_sec _ _ _ _ _ (by rfl) (by rfl) (by rfl) hW (by rfl) ?_); intro W2 hW2 hg2 hz2))
    exact ret_sec rfl rfl _ _ rfl hW2 ⟨rfl, hB.grown hg2 hB.size (by simp)⟩
  | true =>
    have hi : 0 ≤ i ∧ i < d.st.length := by simpa [has] using hh
    obtain ⟨k, rfl⟩ := Int.eq_ofNat_of_zero_le hi.1
    have hk : k < d.st.length := by omega
    have e1 : stab d.st k = (d.st[k], 0) := by simp [stab, hh, hk]
    rw [e1]
    obtain ⟨b, o, rfl, hlt, hr⟩ := r1.at sc_len (List.getElem?_eq_getElem hk)
    have hr' : ∀ {W : World}, Below w.heap.size w W → W.rangeAt b (o + k * 64) (sc d.st[k]) := fun hB j v hv => (hB.cell (p := ⟨b, o + k * 64 + j, none⟩) hlt).trans (hr j v hv)
    go_enter Try.func31, Try.ntmps31
    go_wp2_with (first
      | ((refine at_alloc_sec (by rfl) (by rfl) ?_); intro W hW hB hz; have hD := h.below hB; have hc := (hb.below hB).cell)
      | ((with_reducible refine (has_any hD _).mono ?_); rintro e w1 ⟨rfl, rfl⟩; rw [hh])
      | ((refine at_load_sec _ _ _ _ (by rfl) (by rfl) (hr' hB) (by rfl) ?_))
      | ((refine at_store_sec _ _ _ _ _ (by rfl) (by rfl) (by rfl) hW (by rfl) ?_); intro W2 hW2 hg2 hz2))
    exact ret_sec rfl rfl _ _ rfl hW2 ⟨rfl, hB.grown hg2 hB.size (by simp)⟩
end Go.Proofs.Ythgafnommcodcaa.Disk
