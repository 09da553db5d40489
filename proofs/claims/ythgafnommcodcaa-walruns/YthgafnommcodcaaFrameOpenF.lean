/-
  frame.Open: the record that sectors begin with.
-/
import Derived.Test.YthgafnommcodcaaFrameRead
namespace Go.Proofs.Ythgafnommcodcaa.Frame
open Go.RowKit Go.Proofs.Ythgafnommcodcaa.Mem Go.Proofs.Ythgafnommcodcaa.Sect Go.Proofs.Ythgafnommcodcaa.Crc
set_option maxRecDepth 100000

theorem results_cell_two {fn : Func} {p u v : Tmp} {ty : TypeId} (h : fn.results = #[.cell p ty, .tmp u, .tmp v]) (tmps : Array Value) (P : Program) (w : World) :
    (results fn tmps).run P w = ((asAddr (tmps.getD p undef)).run P w).andThen fun a w1 => ((loadVar ty a).run P w1).andThen fun z w2 => .ok (.tuple #[z, tmps.getD u undef, tmps.getD v undef]) w2 := by
  simp only [results, h]
  simp [Sem.run_bind, Result.andThen]
/-- Three results, the first a record in a block of its own. -/
theorem ret_rec {fn : Func} {p u v : Tmp} {R : Ending → World → Prop} {a : Act} {w : World} (h : fn.results = #[.cell p 75, .tmp u, .tmp v]) (hd : a.defers = []) (g : Nat) (x y z : Value)
    (hp : a.tmps.getD p undef = .pointer (some ⟨g, 0, none⟩)) (hb : Blk w g 75 [x, y, z])
    (hR : R (.returned (.tuple #[.agg #[x, y, z], a.tmps.getD u undef, a.tmps.getD v undef])) w) : bodyPost Try.prog fn R .ret a w := by
  refine bodyPost_ret (v := .tuple #[.agg #[x, y, z], a.tmps.getD u undef, a.tmps.getD v undef]) ?_ hd hR
  have hl := run_loadVar_row (P := Try.prog) w g 75 75 #[x, y, z] (0, 0) _ hb Try.underlying75 rfl (by show _ = some 3; kernel_rfl)
  rw [results_cell_two h, hp]
  simp only [asAddr, Sem.run_pure, Result.andThen_ok, hl]
theorem take_part (b : List Int) (t o k : Nat) (h : o + k ≤ t) : ((b.take t).drop o).take k = (b.drop o).take k := by
  rw [List.drop_take, List.take_take, Nat.min_eq_left (by omega)]
theorem fields_take (l : List Sec) (N : Nat) (h : 0 < N) : seqOf (flat (l.take N)) = seqOf (flat l) ∧ epochOf (flat (l.take N)) = epochOf (flat l) := by
  rw [flat_take]
  exact ⟨by unfold seqOf; rw [take_part _ _ _ _ (by omega)], by unfold epochOf; rw [take_part _ _ _ _ (by omega)]⟩
theorem fields_lt {b : List Int} (hb : ∀ c ∈ b, Byte c) : long b < 65536 ∧ seqOf b < 18446744073709551616 ∧ epochOf b < 4294967296 ∧ ∀ c ∈ payOf b, Byte c := by
  have key : ∀ o k, num ((b.drop o).take k) < 256 ^ k := fun o k => by
    have := num_lt ((b.drop o).take k) (fun c hc => hb c (List.mem_of_mem_drop (List.mem_of_mem_take hc)))
    exact Nat.lt_of_lt_of_le this (Nat.pow_le_pow_right (by omega) (by simp; omega))
  refine ⟨?_, key 2 8, key 10 4, fun c hc => hb c (List.mem_of_mem_drop (List.mem_of_mem_take hc))⟩
  have := key 0 2
  simpa [long] using this
theorem rk_cell {w : World} {b o c : Nat} {l : List Sec} (r : RK sc w (some ⟨b, o, none⟩) c l) {j : Nat} (hj : j < (flat l).length) : w.cell? ⟨b, o + j, none⟩ = some (.int .u8 ((flat l).getD j 0)) := by
  have hp : 0 < l.length := by have := flat_len l; omega
  obtain ⟨b', o', e, _, hc⟩ := r.2.2.2 hp
  simp only [Option.some.injEq, Addr.mk.injEq, and_true] at e
  obtain ⟨rfl, rfl⟩ := e
  refine hc j _ ?_
  rw [sc_flat]
  exact bs_at hj
theorem run_upto_s (w : World) (b o n cap l : Nat) (hl : l ≤ cap) :
    (Instr.slice 36 (.slice (some ⟨b, o, none⟩) n cap) none (some (.int .i64 (l : Int))) none).run Try.prog w = .ok (.slice (some ⟨b, o, none⟩) l cap) w := by
  have ht : Try.prog.underlying 36 = some (.slice (Try.prog.elem 36)) := by simp [Program.elem, Try.underlying36]
  have he : Try.prog.elem 36 = 70 := by simp [Program.elem, Try.underlying36]
  rw [run_slice_h w 36 _ n cap ht .i64 (l : Int) (by omega) (by omega), he]
  simp [Result.andThen, sliced, Addr.add_lit]
section
variable {o : Oper} {a : Act} {w : World} {ops : Array Oper} {rest : List Oper} {Q : Exit → Act → World → Prop}
theorem at_store_rec (x y : Operand) (g : Nat) (cs : List Value) (u v s : Value) (ho : o.op = .store 75 x y) (hx : a.eval x = .pointer (some ⟨g, 0, none⟩)) (hy : a.eval y = .agg #[u, v, s]) (hb : Blk w g 75 cs) (hl : cs.length = 3) (h1 : u.oneCell' = true ∧ v.oneCell' = true ∧ s.oneCell' = true)
    (hw : Region.wanted o (yielded ops a.tmps) = true) (h : ∀ w', Blk w' g 75 [u, v, s] → w.grownBy w' (some g) → wpList Try.prog ops Q rest (a.put o.dst undef) w') : wpList Try.prog ops Q (o :: rest) a w :=
  BigFrame.wpList_want hw fun _ hK => wp_store_blk _ x y ho g _ cs [u, v, s] hx hy hb (by show _ = some 3; kernel_rfl) hl (by intro z hz; simp at hz; rcases hz with rfl | rfl | rfl <;> first | exact h1.1 | exact h1.2.1 | exact h1.2.2) (fun w2 h1 h2 => hK _ _ (h w2 h1 h2))
end
theorem got_no {l : List Sec} (h : opens l = false) : got l = nought := by rw [got, if_neg (by rw [h]; simp)]
/-- What is told if there is none. -/
def told (x : Ending) (w w' : World) (G : Got) : Prop := ∃ q d, x = .returned (.tuple #[.agg #[.int .u64 (G.s : Int), .int .u32 (G.e : Int), .slice q G.p.length d], .int .i64 (G.n : Int), .bool G.ok]) ∧ Reads .u8 w' q d G.p ∧ Below w.heap.size w w' ∧ ∀ a, q = some a → w.heap.size ≤ a.block
theorem told_none {w w' : World} (hB : Below w.heap.size w w') : told (.returned (.tuple #[.agg #[.int .u64 0, .int .u32 0, .slice none 0 0], .int .i64 0, .bool false])) w w' nought := ⟨none, 0, rfl, Reads.nil _ _, hB, fun a h => by cases h⟩
theorem frame_Open_0 (p : Option Addr) (c : Nat) (w : World) :
    Calls Try.prog 59 #[.slice p 0 c] w fun x w' => told x w w' nought := by
  have Y1 := Blk.new w #[.int .u64 0, .int .u32 0, .slice none 0 0] 75
  have hB1 := bnew w (.cells #[.int .u64 0, .int .u32 0, .slice none 0 0] 75)
  go_enter Try.func59, Try.ntmps59
  go_wp2_with (refine at_store_rec _ _ _ _ _ _ _ (by rfl) (by rfl) (by rfl) Y1 rfl ⟨rfl, rfl, rfl⟩ (by rfl) ?_; intro W2 Y2 G2)
  exact ret_rec rfl rfl _ _ _ _ rfl Y2 (told_none (hB1.grown G2 hB1.size (by simp)))
set_option maxHeartbeats 2000000 in
theorem frame_Open_no (b o n c : Nat) (l : List Sec) (hl : l.length = n) (h0 : 0 < n) (hn : n ≤ 1000) (hb : ∀ s ∈ l, ∀ c ∈ s.1, Byte c) (hr : roomy l = false) (w : World) (r : RK sc w (some ⟨b, o, none⟩) c l) :
    Calls Try.prog 59 #[.slice (some ⟨b, o, none⟩) n c] w fun x w' => told x w w' nought := by
  have Y1 := Blk.new w #[.int .u64 0, .int .u32 0, .slice none 0 0] 75
  have hB1 := bnew w (.cells #[.int .u64 0, .int .u32 0, .slice none 0 0] 75)
  have hfl := flat_len l
  rw [hl] at hfl
  have hfb := flat_bytes hb
  have hlt := (fields_lt hfb).1
  have hN := fun W (hW : RK sc W (some ⟨b, o, none⟩) c l) => frame_number b o 2 64 ((flat l).take 2) (by simp; omega) (fun c hc => hfb c (List.mem_of_mem_take hc)) (by omega) W (fun j hj => by
    rw [rk_cell hW (by omega)]
    simp [hj])
  have hr' : size (long (flat l)) = 0 ∨ n < size (long (flat l)) := by
    unfold roomy at hr
    rw [hl] at hr
    simp [h0] at hr
    omega
  have em : num ((flat l).take 2) = long (flat l) := rfl
  rw [em] at hN
  obtain ⟨m, hm⟩ : ∃ m, long (flat l) = m := ⟨_, rfl⟩
  rw [hm] at hN hr' hlt
  have hS := fun w => frame_Size (m : Int) w
  rw [sizeI_nat] at hS
  obtain ⟨N, hNN⟩ : ∃ N, size m = N := ⟨_, rfl⟩
  rw [hNN] at hS hr'
  have hwm : IntKind.i64.wrap (m : Int) = (m : Int) := by rw [IntKind.wrap_i64]; omega
  have hn0 : ((n : Int) == 0) = false := by simp; omega
  have r1 := r.below hB1
  clear em hm hNN
  rcases hr' with h | h
  · subst h
    go_enter Try.func59, Try.ntmps59
    go_wp2_with (first
      | (go_at_call 72; refine (hN _ r1).mono ?_; rintro e w2 ⟨rfl, hB2⟩; have Y2 := Y1.below hB2)
      | (go_at_call 41; refine (hS _).mono ?_; rintro e w3 ⟨rfl, rfl⟩)
      | (refine at_store_rec _ _ _ _ _ _ _ (by rfl) (by rfl) (by rfl) Y2 rfl ⟨rfl, rfl, rfl⟩ (by rfl) ?_; intro W4 Y4 G4))
    have hB := bnext hB1 hB2
    exact ret_rec rfl rfl _ _ _ _ rfl Y4 (told_none (hB.grown G4 hB.size (by simp)))
  · have hN0 : ((N : Int) == 0) = false := by simp; omega
    have hNn : decide ((n : Int) < (N : Int)) = true := by simp; omega
    go_enter Try.func59, Try.ntmps59
    go_wp2_with (first
      | (go_at_call 72; refine (hN _ r1).mono ?_; rintro e w2 ⟨rfl, hB2⟩; have Y2 := Y1.below hB2)
      | (go_at_call 41; refine (hS _).mono ?_; rintro e w3 ⟨rfl, rfl⟩)
      | (refine at_store_rec _ _ _ _ _ _ _ (by rfl) (by rfl) (by rfl) Y2 rfl ⟨rfl, rfl, rfl⟩ (by rfl) ?_; intro W4 Y4 G4))
    have hB := bnext hB1 hB2
    exact ret_rec rfl rfl _ _ _ _ rfl Y4 (told_none (hB.grown G4 hB.size (by simp)))
end Go.Proofs.Ythgafnommcodcaa.Frame
