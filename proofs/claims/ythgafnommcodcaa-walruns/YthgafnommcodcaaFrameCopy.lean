/-
  Sectors laid over sectors: a store of one.
-/
import Derived.Test.YthgafnommcodcaaFrameOpened
namespace Go.Proofs.Ythgafnommcodcaa.Frame
open Go.RowKit Go.Proofs.Ythgafnommcodcaa.Mem Go.Proofs.Ythgafnommcodcaa.Sect Go.Proofs.Ythgafnommcodcaa.Crc
set_option maxRecDepth 100000

theorem flat_drop (l : List Sec) (k : Nat) : flat (l.drop k) = (flat l).drop (64 * k) := by
  rcases Nat.le_total l.length k with h | h
  · rw [List.drop_of_length_le h, List.drop_of_length_le (by rw [flat_len]; omega)]; rfl
  · have e : flat l = flat (l.take k) ++ flat (l.drop k) := by rw [← flat_app, List.take_append_drop]
    rw [e, List.drop_left' (by rw [flat_len, List.length_take]; omega)]
theorem bs_flat_len (l : List Sec) : (bs (flat l)).length = 64 * l.length := by rw [bs_len, flat_len]
/-- One of them over another. -/
theorem over_one (D : List Sec) (i : Nat) (s : Sec) (h : i < D.length) : (bs (flat D)).take (i * 64) ++ sc s ++ (bs (flat D)).drop (i * 64 + (sc s).length) = bs (flat (D.set i s)) := by
  have e : D.set i s = D.take i ++ ([s] ++ D.drop (i + 1)) := by rw [List.set_eq_take_append_cons_drop, if_pos h]; rfl
  have e1 : flat [s] = s.1 := by simp [flat]
  rw [e, flat_app, flat_app, flat_take, flat_drop, e1, sc_len, show i * 64 = 64 * i by omega, show 64 * i + 64 = 64 * (i + 1) by omega]
  unfold bs sc
  rw [List.map_append, List.map_append, List.map_take, List.map_drop, List.append_assoc]
theorem run_store_in (w : World) (g : Nat) (t : TypeId) (D : List Sec) (i : Nat) (s : Sec) (hb : Blk w g t (bs (flat D))) (h : i < D.length) :
    (storeVar 70 ⟨g, i * 64, none⟩ (secv s)).run Try.prog w = .ok () (w.setRow g (bs (flat (D.set i s))).toArray) := by
  have hst := run_storeCells_at Try.prog g (i * 64) t (sc s) 0 (bs (flat D)).toArray w hb (by rw [sc_len]; simp [bs_flat_len]; omega) (sc_one s)
  simp only [Nat.add_zero] at hst
  rw [over_one D i s h] at hst
  obtain ⟨k, h1, h2, h3, h4⟩ := info_sec
  have hl : (sc s).toArray.size = 64 := by simp [sc_len]
  simp [storeVar, sizeOf, typeInfo, h1, h3, secv, Value.cells, hl, hst]
section
variable {o : Oper} {a : Act} {w : World} {ops : Array Oper} {rest : List Oper} {Q : Exit → Act → World → Prop}
theorem grown_row {w : World} {g : Nat} {t : TypeId} {cs : List Value} (hb : Blk w g t cs) (ds : List Value) : Blk (w.setRow g ds.toArray) g t ds ∧ w.grownBy (w.setRow g ds.toArray) (some g) :=
  ⟨setRow_heap w g _ _ t _ hb, rfl, rfl, rfl, by simp [World.setRow], fun k _ hk => setRow_other w g k _ (fun e => hk (by simp [e]))⟩
theorem at_store_in (x y : Operand) (g : Nat) (t : TypeId) (D : List Sec) (i : Nat) (s : Sec) (ho : o.op = .store 70 x y) (hx : a.eval x = .pointer (some ⟨g, i * 64, none⟩)) (hy : a.eval y = secv s) (hb : Blk w g t (bs (flat D))) (hi : i < D.length)
    (hw : Region.wanted o (yielded ops a.tmps) = true) (h : ∀ w', Blk w' g t (bs (flat (D.set i s))) → w.grownBy w' (some g) → wpList Try.prog ops Q rest (a.put o.dst undef) w') : wpList Try.prog ops Q (o :: rest) a w := by
  refine BigFrame.wpList_want hw fun _ hK => ?_
  obtain ⟨k1, k2⟩ := grown_row hb (bs (flat (D.set i s)))
  have e := run_store_in w g t D i s hb hi
  unfold Oper.wp execOp
  simp only [ho, hx, hy, Instr.storeAt, Instr.sureAddr, Sem.run_bind, Sem.run_pure, Result.andThen_ok, e]
  exact hK _ _ (h _ k1 k2)
end
end Go.Proofs.Ythgafnommcodcaa.Frame
