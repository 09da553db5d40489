/-
  An act of a log: its value is never taken apart. The state of both logs beside one another, and what a step leaves of it.
-/
import Derived.Test.YthgafnommcodcaaWalFar
import Derived.Test.YthgafnommcodcaaWalOpen
import Derived.Test.YthgafnommcodcaaWalRef7
namespace Go.Proofs.Ythgafnommcodcaa.Wal
open Go.RowKit Go.Proofs.Ythgafnommcodcaa.Mem Go.Proofs.Ythgafnommcodcaa.Sect Go.Proofs.Ythgafnommcodcaa.Frame Go.Proofs.Ythgafnommcodcaa.Disk Go.Proofs.Ythgafnommcodcaa.Area
set_option maxRecDepth 100000

def acw (a : Ac) : Value := .agg (ac a).toArray
theorem size_acw : (Try.prog.info? 47).map (·.size) = some 4 := by kernel_rfl
theorem zero_acw : (Try.prog.info? 47).map (fun i => i.zero) = some (some (acw (0, 0, 0, none, 0, 0))) := by kernel_rfl
theorem ac_one_w (a : Ac) : ∀ v ∈ ac a, v.oneCell' = true := by
  intro v hv
  simp only [ac, List.mem_cons, List.not_mem_nil, or_false] at hv
  rcases hv with rfl | rfl | rfl | rfl <;> rfl
section
variable {o : Oper} {a : Act} {w : World} {K : Act → World → Prop} {Q : Exit → Act → World → Prop}
theorem wp_alloc_acw (ho : o.op = .alloc 47) (h : ∀ w', Blk w' w.heap.size 47 (ac (0, 0, 0, none, 0, 0)) → Below w.heap.size w w' → Hid (w'.heap.size = w.heap.size + 1) → K (a.put o.dst (.pointer (some ⟨w.heap.size, 0, none⟩))) w') : o.wp Try.prog a w K Q :=
  wp_alloc_z _ _ ho zero_acw (h _ (new_blk _ _ _) (bnew _ _) (by unfold Hid; simp))
theorem wp_load_acw (x : Operand) (b p : Nat) (y : Ac) (ho : o.op = .load 47 x) (hx : a.eval x = .pointer (some ⟨b, p, none⟩)) (hc : w.rangeAt b p (ac y)) (h : K (a.put o.dst (acw y)) w) : o.wp Try.prog a w K Q :=
  wp_load_mid _ x ho b p hx (ac y) _ hc (by rfl) rfl size_acw h
theorem wp_store_acw (x y : Operand) (g : Nat) (s0 s : Ac) (ho : o.op = .store 47 x y) (hx : a.eval x = .pointer (some ⟨g, 0, none⟩)) (hy : a.eval y = acw s) (hb : Blk w g 47 (ac s0))
    (h : ∀ w', Blk w' g 47 (ac s) → w.grownBy w' (some g) → Hid (w'.heap.size = w.heap.size) → K (a.put o.dst undef) w') : o.wp Try.prog a w K Q := by
  unfold Oper.wp execOp
  have e := run_storeVar_row (P := Try.prog) w g 47 47 (ac s0).toArray (ac s).toArray hb (by simpa [ac] using size_acw) (by simp [ac]) (all_oneCell_toArray (ac_one_w s))
  simp only [ho, hx, hy, acw, Instr.storeAt, Instr.sureAddr, Sem.run_bind, Sem.run_pure, Result.andThen_ok, e]
  exact h _ (setRow_heap w g _ _ _ _ hb) ⟨rfl, rfl, rfl, by simp [World.setRow], fun k _ hk => setRow_other w g k _ (fun e => hk (by simp [e]))⟩ (by unfold Hid; simp [World.setRow])
end
section
variable {o : Oper} {a : Act} {w : World} {ops : Array Oper} {rest : List Oper} {Q : Exit → Act → World → Prop}
theorem at_alloc_acw (ho : o.op = .alloc 47) (hw : Region.wanted o (yielded ops a.tmps) = true) (h : ∀ w', Blk w' w.heap.size 47 (ac (0, 0, 0, none, 0, 0)) → Below w.heap.size w w' → Hid (w'.heap.size = w.heap.size + 1) → wpList Try.prog ops Q rest (a.put o.dst (.pointer (some ⟨w.heap.size, 0, none⟩))) w') : wpList Try.prog ops Q (o :: rest) a w :=
  BigFrame.wpList_want hw fun _ hK => wp_alloc_acw ho (fun w2 h1 h2 h3 => hK _ _ (h w2 h1 h2 h3))
theorem at_load_acw (x : Operand) (b p : Nat) (y : Ac) (ho : o.op = .load 47 x) (hx : a.eval x = .pointer (some ⟨b, p, none⟩)) (hc : w.rangeAt b p (ac y)) (hw : Region.wanted o (yielded ops a.tmps) = true) (h : wpList Try.prog ops Q rest (a.put o.dst (acw y)) w) : wpList Try.prog ops Q (o :: rest) a w :=
  BigFrame.wpList_want hw fun _ hK => wp_load_acw x b p y ho hx hc (hK _ _ h)
theorem at_store_acw (x y : Operand) (g : Nat) (s0 s : Ac) (ho : o.op = .store 47 x y) (hx : a.eval x = .pointer (some ⟨g, 0, none⟩)) (hy : a.eval y = acw s) (hb : Blk w g 47 (ac s0)) (hw : Region.wanted o (yielded ops a.tmps) = true) (h : ∀ w', Blk w' g 47 (ac s) → w.grownBy w' (some g) → Hid (w'.heap.size = w.heap.size) → wpList Try.prog ops Q rest (a.put o.dst undef) w') : wpList Try.prog ops Q (o :: rest) a w :=
  BigFrame.wpList_want hw fun _ hK => wp_store_acw x y g s0 s ho hx hy hb (fun w2 h1 h2 h3 => hK _ _ (h w2 h1 h2 h3))
end
/-- Both logs, and both disks, behind k acts. -/
def St (w wr : World) (g gl G GL n S st s0 k : Nat) (d : Dsk) (r : Rfd) (T : Nat → Prop) (p : Option Addr) (c : Nat) (q : Option Addr) (e nx j t : Nat) : Prop :=
  (Dk w.heap.size T wr g d ∧ Blk wr gl 86 (lgc g 5 nx st (segOf S st j) t) ∧ Blk wr GL 42 (ll ⟨5, nx, st, segOf S st j, t⟩) ∧ Rb (fun i => T i ∨ i = gl ∨ i = GL) wr G r p c q e ∧ Below w.heap.size w wr) ∧
  (¬ T gl ∧ ¬ T GL ∧ gl ≠ GL ∧ w.heap.size ≤ gl ∧ w.heap.size ≤ G ∧ w.heap.size ≤ GL) ∧
  (d.ok ∧ r.ok ∧ Agree d r ∧ Byt d ∧ Far d (adr S st 1 0) s0 ∧ d.st.length = n ∧ Can n S st j t ∧ Num s0 nx j t ∧ nx < 18446744073709551616 ∧ d.pe.length ≤ 12 * k)
section
variable {w W W8 W10 : World} {g gl G GL n S st s0 k nx j t nx' j' t' : Nat} {d d' : Dsk} {r r' : Rfd} {T T8 : Nat → Prop} {p q p' q' : Option Addr} {c e c' e' : Nat}
theorem St.below {w' : World} (h : St w W g gl G GL n S st s0 k d r T p c q e nx j t) (hb : Below W.heap.size W w') : St w w' g gl G GL n S st s0 k d r T p c q e nx j t :=
  ⟨⟨h.1.1.below hb, h.1.2.1.below hb, h.1.2.2.1.below hb, h.1.2.2.2.1.below hb, bnext h.1.2.2.2.2 hb⟩, h.2.1, h.2.2⟩
theorem St.later (h : St w W g gl G GL n S st s0 k d r T p c q e nx j t) : St w W g gl G GL n S st s0 (k + 1) d r T p c q e nx j t :=
  ⟨h.1, h.2.1, h.2.2.1, h.2.2.2.1, h.2.2.2.2.1, h.2.2.2.2.2.1, h.2.2.2.2.2.2.1, h.2.2.2.2.2.2.2.1, h.2.2.2.2.2.2.2.2.1, h.2.2.2.2.2.2.2.2.2.1, h.2.2.2.2.2.2.2.2.2.2.1, by have := h.2.2.2.2.2.2.2.2.2.2.2; omega⟩
/-- Behind what the program did, the document's side is as it was. -/
theorem St.prog (h : St w W g gl G GL n S st s0 k d r T p c q e nx j t) (hF : Fr (fun i => T i ∨ i = gl) W W8) (hS : ∀ i, T8 i → T i ∨ W.heap.size ≤ i) :
    Blk W8 GL 42 (ll ⟨5, nx, st, segOf S st j, t⟩) ∧ Rb (fun i => T8 i ∨ i = gl ∨ i = GL) W8 G r p c q e ∧ Below w.heap.size w W8 := by
  obtain ⟨⟨h1, h2, h3, h4, h5⟩, ⟨k1, k2, k3, k4, k5, k6⟩, -⟩ := h
  refine ⟨hF.blk h3 (fun q => q.elim k2 (fun q => k3 q.symm)), h4.fr (Fr.mono hF fun i hi => hi.elim .inl (fun q => .inr (.inl q))) (fun i hi => ?_), bfr h5 hF (fun i hi => hi.elim (fun q => h1.base i q) (fun q => q ▸ k4))⟩
  rcases hi with hi | hi
  · rcases hS i hi with q | q
    · exact .inl (.inl q)
    · exact .inr q
  · exact .inl (.inr hi)
theorem st_done (h : St w W g gl G GL n S st s0 k d r T p c q e nx j t) (hF : Fr (fun i => T i ∨ i = gl) W W8) (hS : ∀ i, T8 i → T i ∨ W.heap.size ≤ i) (hD : Dk w.heap.size T8 W8 g d') (hY : Blk W8 gl 86 (lgc g 5 nx' st (segOf S st j') t'))
    (hG : Fr (fun i => i = G ∨ i = GL) W8 W10) (hX : Blk W10 G 39 (rl r' p' c' q' e')) (hL : Blk W10 GL 42 (ll ⟨5, nx', st, segOf S st j', t'⟩)) (r1 : RK sc W10 p' c' r'.st) (r2 : RK wc W10 q' e' r'.pe)
    (n1 : (p' = p ∧ r'.st.length = r.st.length) ∨ ∀ a, p' = some a → W8.heap.size ≤ a.block) (n2 : (q' = q ∧ r'.pe.length = r.pe.length) ∨ ∀ a, q' = some a → W8.heap.size ≤ a.block)
    (hok : d'.ok ∧ r'.ok ∧ Agree d' r' ∧ Byt d' ∧ Far d' (adr S st 1 0) s0 ∧ d'.st.length = n ∧ Can n S st j' t' ∧ Num s0 nx' j' t' ∧ nx' < 18446744073709551616 ∧ d'.pe.length ≤ 12 * (k + 1)) :
    St w W10 g gl G GL n S st s0 (k + 1) d' r' T8 p' c' q' e' nx' j' t' := by
  obtain ⟨hL8, hR8, hB8⟩ := h.prog hF hS
  obtain ⟨⟨h1, h2, h3, h4, h5⟩, ⟨k1, k2, k3, k4, k5, k6⟩, -⟩ := h
  have hnG := hR8.2.2.2.2.2
  have hTg : ∀ i, T8 i → ¬ (i = G ∨ i = GL) := fun i hi q => by
    rcases q with q | q
    · exact hnG (.inl (q ▸ hi))
    · rcases hS i hi with u | u
      · exact k2 (q ▸ u)
      · have := h3.lt; omega
  have hglG : gl ≠ G := fun q => hnG (.inr (.inl q.symm))
  have hGGL : G ≠ GL := fun q => hnG (.inr (.inr q))
  have hlt : ∀ i, ((T8 i ∨ i = gl ∨ i = GL) ∨ i = G) → i < W8.heap.size := fun i hi => by
    rcases hi with (hi | hi | hi) | hi
    · exact hD.lt i hi
    · subst hi; exact hY.lt
    · subst hi; exact hL8.lt
    · subst hi; exact hR8.1.lt
  refine ⟨⟨dk_fr hD hG (fun i hi => hTg i hi), hG.blk hY (fun q => q.elim hglG k3), hL, ⟨hX, r1, r2, off_new (w := W8) hR8.2.2.2.1 hlt n1, off_new (w := W8) hR8.2.2.2.2.1 hlt n2, hnG⟩, bfr hB8 hG (fun i hi => by rcases hi with rfl | rfl <;> assumption)⟩, ⟨fun q => ?_, fun q => ?_, k3, k4, k5, k6⟩, hok⟩
  · rcases hS _ q with u | u
    · exact k1 u
    · have := h2.lt; omega
  · exact hTg _ q (.inr rfl)
/-- The same where the document's disk alone is written. -/
theorem st_set {W9 : World} (h : St w W g gl G GL n S st s0 k d r T p c q e nx j t) (hF : Fr T W W8) (hS : ∀ i, T8 i → T i ∨ W.heap.size ≤ i) (hD : Dk w.heap.size T8 W8 g d')
    (hB9 : Below W8.heap.size W8 W9) (hX : Blk W10 G 39 (rl r' p' c' q' e')) (hg : W9.grownBy W10 (some G)) (r1 : RK sc W9 p' c' r'.st) (r2 : RK wc W9 q' e' r'.pe)
    (n1 : (p' = p ∧ r'.st.length = r.st.length) ∨ ∀ a, p' = some a → W8.heap.size ≤ a.block) (n2 : (q' = q ∧ r'.pe.length = r.pe.length) ∨ ∀ a, q' = some a → W8.heap.size ≤ a.block)
    (hok : d'.ok ∧ r'.ok ∧ Agree d' r' ∧ Byt d' ∧ Far d' (adr S st 1 0) s0 ∧ d'.st.length = n ∧ Can n S st j t ∧ Num s0 nx j t ∧ nx < 18446744073709551616 ∧ d'.pe.length ≤ 12 * (k + 1)) :
    St w W10 g gl G GL n S st s0 (k + 1) d' r' T8 p' c' q' e' nx j t := by
  have hF2 : Fr (fun i => T i ∨ i = gl) W W8 := Fr.mono hF fun i hi => .inl hi
  obtain ⟨hL8, hR8, hB8⟩ := h.prog hF2 hS
  have hY8 := hF.blk h.1.2.1 h.2.1.1
  have hlt : ∀ i, (T8 i ∨ i = gl ∨ i = GL) → i < W8.heap.size := fun i hi => by
    rcases hi with hi | hi | hi
    · exact hD.lt i hi
    · subst hi; exact hY8.lt
    · subst hi; exact hL8.lt
  have hR10 := hR8.set hlt hB9 hX hg r1 r2 n1 n2
  have hGGL : G ≠ GL := fun q => hR8.2.2.2.2.2 (.inr (.inr q))
  exact st_done h hF2 hS hD hY8 ((Fr.of_below hB9 _).trans (Fr.of_grown hg (fun i hi => by simp at hi; exact .inl hi.symm)) (fun _ q => .inl q)) hX ((hL8.below hB9).kept hg (by simpa using hGGL.symm)) hR10.2.1 hR10.2.2.1 n1 n2 hok
/-- An act's block stays, too. -/
theorem St.apart (h : St w W g gl G GL n S st s0 k d r T p c q e nx j t) {A : Nat} (hA : W.heap.size ≤ A) : ¬ T A ∧ A ≠ gl ∧ A ≠ G ∧ A ≠ GL := by
  obtain ⟨⟨h1, h2, h3, h4, h5⟩, -⟩ := h
  have := h2.lt
  have := h3.lt
  have := h4.1.lt
  exact ⟨fun q => by have := h1.lt _ q; omega, by omega, by omega, by omega⟩
end
end Go.Proofs.Ythgafnommcodcaa.Wal
