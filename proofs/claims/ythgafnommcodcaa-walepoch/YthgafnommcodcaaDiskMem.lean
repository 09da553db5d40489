/-
  What of memory a disk holds, what stands behind a call that turns no more than that, and the laws for values of sixty-four cells and more: these are never taken apart.
-/
import Derived.Test.YthgafnommcodcaaDiskPlain
import Derived.Test.YthgafnommcodcaaRowK
import Derived.Test.YthgafnommcodcaaSect
import Derived.Test.YthgafnommcodcaaBlk
import Derived.Test.YthgafnommcodcaaProg
import Derived.Deep.MidRow
import Derived.Laws.ResultCell
import Derived.ChangeKeysEq
import Derived.KernelRfl
import Derived.BigFrame
namespace Go.Proofs.Ythgafnommcodcaa.Disk
open Go.RowKit Go.Proofs.Ythgafnommcodcaa.Mem Go.Proofs.Ythgafnommcodcaa.Sect
open Go.Proofs.Ythgafnommcodcaa.Frame (Sec zero)
set_option maxRecDepth 100000

def wc (x : Wr) : List Value := .int .i64 x.1 :: sc x.2
theorem wc_len (x : Wr) : (wc x).length = 65 := by simp [wc, sc_len]
theorem wc_one (x : Wr) : ∀ v ∈ wc x, v.oneCell' = true := by
  intro v hv
  rcases List.mem_cons.1 hv with rfl | hv
  · rfl
  · exact sc_one _ v hv
def wrv (x : Wr) : Value := .agg (wc x).toArray

/-- No more than the blocks of S has turned. -/
def Fr (S : Nat → Prop) (w w' : World) : Prop := w'.os = w.os ∧ w'.tape = w.tape ∧ w'.output = w.output ∧ w.heap.size ≤ w'.heap.size ∧ ∀ k, k < w.heap.size → ¬ S k → w'.heap[k]? = w.heap[k]?
section
variable {S S' : Nat → Prop} {B : Nat} {w w' a b c : World}
theorem Fr.refl (S : Nat → Prop) (w : World) : Fr S w w := ⟨rfl, rfl, rfl, Nat.le_refl _, fun _ _ _ => rfl⟩
theorem Fr.trans (h : Fr S a b) (k : Fr S' b c) (hS : ∀ n, S' n → S n ∨ a.heap.size ≤ n) : Fr S a c :=
  ⟨k.1.trans h.1, k.2.1.trans h.2.1, k.2.2.1.trans h.2.2.1, Nat.le_trans h.2.2.2.1 k.2.2.2.1, fun n hn hs => (k.2.2.2.2 n (Nat.lt_of_lt_of_le hn h.2.2.2.1) (fun q => by rcases hS n q with q | q; exact hs q; omega)).trans (h.2.2.2.2 n hn hs)⟩
theorem Fr.of_below (h : Below w.heap.size w w') (S : Nat → Prop) : Fr S w w' := ⟨h.os, h.tape, h.output, h.size, fun k hk _ => h.block k hk⟩
theorem Fr.below (h : Fr S w w') (hS : ∀ k, S k → B ≤ k) (hB : B ≤ w.heap.size) : Below B w w' := ⟨h.1, h.2.1, h.2.2.1, h.2.2.2.1, fun k hk => h.2.2.2.2 k (by omega) (fun q => by have := hS k q; omega)⟩
theorem Fr.of_grown {g : Option Nat} (h : w.grownBy w' g) (hS : ∀ k, g = some k → S k) : Fr S w w' := ⟨h.os, h.tape, h.output, h.size, fun k hk hs => h.block k hk (fun e => hs (hS k e.symm))⟩
theorem Fr.blk {g : Nat} {t : TypeId} {cs : List Value} (h : Fr S w w') (hb : Blk w g t cs) (hs : ¬ S g) : Blk w' g t cs := (h.2.2.2.2 g hb.lt hs).trans hb
theorem Fr.size (h : Fr S w w') : w.heap.size ≤ w'.heap.size := h.2.2.2.1
end

/-- The disk at block g holds d, its two slices are vs and vp; all its blocks are in S, none lies below B. -/
def Dkv (B : Nat) (S : Nat → Prop) (w : World) (g : Nat) (vs vp : Value) (d : Dsk) : Prop :=
  Blk w g 83 [vs, vp, .bool d.dn, .int .i64 d.lf] ∧ w.ownsRow B 70 64 vs d.st.length (d.st.flatMap sc) ∧ w.ownsRow B 119 65 vp d.pe.length (d.pe.flatMap wc) ∧
    S g ∧ (∀ b, vs.ownBlock = some b → S b ∧ b ≠ g) ∧ (∀ b, vp.ownBlock = some b → S b ∧ b ≠ g ∧ vs.ownBlock ≠ some b) ∧ (∀ k, S k → B ≤ k ∧ k < w.heap.size)
def Dk (B : Nat) (S : Nat → Prop) (w : World) (g : Nat) (d : Dsk) : Prop := ∃ vs vp, Dkv B S w g vs vp d
/-- The same disk, and no more has turned. -/
def Went (B : Nat) (S : Nat → Prop) (w w' : World) (g : Nat) (d : Dsk) : Prop := ∃ S', Dk B S' w' g d ∧ Fr S w w' ∧ ∀ k, S' k → S k ∨ w.heap.size ≤ k
section
variable {S : Nat → Prop} {B g : Nat} {w w' : World} {d : Dsk}
theorem own_lower {B' : Nat} {e : TypeId} {k n : Nat} {v : Value} {xs : List Value} (h : w.ownsRow B e k v n xs) (hB : B' ≤ B) : w.ownsRow B' e k v n xs := by
  refine ⟨h.1, ?_⟩
  rcases h.2 with h | ⟨g, cap, cur, h1, h2, h3⟩
  · exact .inl h
  · exact .inr ⟨g, cap, cur, h1, by omega, h3⟩
theorem Dk.lower (h : Dk B S w g d) {B' : Nat} (hB : B' ≤ B) : Dk B' S w g d := by
  obtain ⟨vs, vp, h1, h2, h3, h4, h5, h6, h7⟩ := h
  exact ⟨vs, vp, h1, own_lower h2 hB, own_lower h3 hB, h4, h5, h6, fun k hk => ⟨by have := (h7 k hk).1; omega, (h7 k hk).2⟩⟩
theorem own_below {e : TypeId} {k n : Nat} {v : Value} {xs : List Value} (h : w.ownsRow B e k v n xs) (hb : Below w.heap.size w w') : w'.ownsRow B e k v n xs := by
  refine ⟨h.1, ?_⟩
  rcases h.2 with h | ⟨g, cap, cur, h1, h2, h3, h4⟩
  · exact .inl h
  · exact .inr ⟨g, cap, cur, h1, h2, (hb.block g (Array.getElem?_eq_some_iff.1 h3).1).trans h3, h4⟩
theorem Dk.below (h : Dk B S w g d) (hb : Below w.heap.size w w') : Dk B S w' g d := by
  obtain ⟨vs, vp, h1, h2, h3, h4, h5, h6, h7⟩ := h
  exact ⟨vs, vp, h1.below hb, own_below h2 hb, own_below h3 hb, h4, h5, h6, fun k hk => ⟨(h7 k hk).1, Nat.lt_of_lt_of_le (h7 k hk).2 hb.size⟩⟩
theorem Dkv.below {vs vp : Value} (h : Dkv B S w g vs vp d) (hb : Below w.heap.size w w') : Dkv B S w' g vs vp d := by
  obtain ⟨h1, h2, h3, h4, h5, h6, h7⟩ := h
  exact ⟨h1.below hb, own_below h2 hb, own_below h3 hb, h4, h5, h6, fun k hk => ⟨(h7 k hk).1, Nat.lt_of_lt_of_le (h7 k hk).2 hb.size⟩⟩
theorem Dk.base (h : Dk B S w g d) : ∀ k, S k → B ≤ k := by
  obtain ⟨vs, vp, h1, h2, h3, h4, h5, h6, h7⟩ := h
  exact fun k hk => (h7 k hk).1
theorem Dk.lt (h : Dk B S w g d) : ∀ k, S k → k < w.heap.size := by
  obtain ⟨vs, vp, h1, h2, h3, h4, h5, h6, h7⟩ := h
  exact fun k hk => (h7 k hk).2
/-- What one reads of it. -/
theorem Dk.reads (h : Dk B S w g d) : ∃ p c q e, Blk w g 83 [.slice p d.st.length c, .slice q d.pe.length e, .bool d.dn, .int .i64 d.lf] ∧ RK sc w p c d.st ∧ RK wc w q e d.pe := by
  obtain ⟨vs, vp, h1, h2, h3, h4, h5, h6, h7⟩ := h
  obtain ⟨p, c, rfl, r1, _⟩ := own_rk sc_len (by decide) h2
  obtain ⟨q, e, rfl, r2, _⟩ := own_rk wc_len (by decide) h3
  exact ⟨p, c, q, e, h1, r1, r2⟩
theorem Went.keep (h : Dk B S w g d) (hb : Below w.heap.size w w') : Went B S w w' g d := ⟨S, h.below hb, Fr.of_below hb S, fun _ h => .inl h⟩
end

/-! ### Values of many cells -/
section
variable {P : Program}
end
theorem size_wr (x : Wr) : (Try.prog.info? 119).map (·.size) = some (wc x).length := by rw [wc_len]; kernel_rfl
theorem und_wr : ∃ d, Try.prog.underlying 119 = some d ∧ TypeDesc.isRow d = true := ⟨_, rfl, rfl⟩
theorem zero_wr : (Try.prog.info? 119).map (fun i => i.zero) = some (some (wrv (0, zero))) := by kernel_rfl

section
variable {o : Oper} {a : Act} {w : World} {K : Act → World → Prop} {Q : Exit → Act → World → Prop}
end
end Go.Proofs.Ythgafnommcodcaa.Disk
