/-
  When two addresses, or two networks, are the same.
-/
import Derived.Test.YtnaofcggdjbocaaAddrPlain
import Derived.Test.YtnaofcggdjbocaaMem
import Derived.WalkMore
import Derived.ScopeJumps
import Derived.LoopTactic
import Derived.Laws.BitsAllLaws
import Derived.BigQuiet
import Derived.Deep.RegionWith
import Derived.ChangeKeysEq
import Derived.Laws.StructEq
/-
  The address of a number, the number of an address, masks and networks: Of, Num, held, Mask, Cut.
-/
namespace Go.Proofs.Ytnaofcggdjbocaa.Addr
open Go.RowKit Go.Proofs.Ytnaofcggdjbocaa.Mem

/-- The program's address of a number, and its network. -/
def adr (N : Nat) : Value := .agg #[.int .u8 (b0 N), .int .u8 (b1 N), .int .u8 (b2 N), .int .u8 (b3 N)]
def net (N : Nat) (b : Int) : Value := .agg #[.int .u8 (b0 N), .int .u8 (b1 N), .int .u8 (b2 N), .int .u8 (b3 N), .int .i64 b]

theorem bal {w w' : World} (h : Below w.heap.size w w') (o : Obj) : Below w.heap.size w (w'.alloc o) := h.alloc h.size o
theorem addr_Of (N : Nat) (hN : N < 4294967296) (w : World) :
    Calls Try.prog 82 #[.int .u32 N] w fun e w' => e = .returned (adr N) ∧ Below w.heap.size w w' := by
  have e : adr N = .agg #[.int .u8 ((N : Int) / 16777216), .int .u8 ((N : Int) / 65536 % 256), .int .u8 ((N : Int) / 256 % 256), .int .u8 ((N : Int) % 256)] := by
    unfold adr b0 b1 b2 b3
    simp
    omega
  rw [e]
  go_enter Try.func82, Try.ntmps82
  go_wp2
  exact bodyPost_ret (by simp [results, Try.results82, go_sem]) rfl ⟨rfl, bnew _ _⟩
theorem addr_held (b : Int) (w : World) :
    Calls Try.prog 107 #[.int .i64 b] w fun e w' => e = .returned (.int .i64 (held b)) ∧ w' = w := by
  go_enter Try.func107, Try.ntmps107
  go_wp2
  all_goals
    go_ret
    refine ⟨?_, rfl⟩
    simp
    unfold held
    omega
theorem or_step (x c : Int) (hx : 0 ≤ x) (hx2 : x < 16777216) (hc : 0 ≤ c) (hc2 : c < 256) : bits .or .u32 (x * 256 % 4294967296) c = x * 256 + c := by
  obtain ⟨x, rfl⟩ := Int.eq_ofNat_of_zero_le hx
  obtain ⟨c, rfl⟩ := Int.eq_ofNat_of_zero_le hc
  have e : (x : Int) * 256 % 4294967296 = ((x * 256 : Nat) : Int) := by omega
  rw [e, u32_or_nat _ _ (by omega) (by omega), show 256 = 2 ^ 8 from rfl, Nat.mul_comm x, ← Nat.two_pow_add_eq_or_of_lt (by omega)]
  simp
  omega
theorem idx4 (v0 v1 v2 v3 : Int) (w : World) :
    (Instr.index 43 (.agg #[.int .u8 v0, .int .u8 v1, .int .u8 v2, .int .u8 v3]) (.int .i64 0)).run Try.prog w = .ok (.int .u8 v0) w ∧
    (Instr.index 43 (.agg #[.int .u8 v0, .int .u8 v1, .int .u8 v2, .int .u8 v3]) (.int .i64 1)).run Try.prog w = .ok (.int .u8 v1) w ∧
    (Instr.index 43 (.agg #[.int .u8 v0, .int .u8 v1, .int .u8 v2, .int .u8 v3]) (.int .i64 2)).run Try.prog w = .ok (.int .u8 v2) w ∧
    (Instr.index 43 (.agg #[.int .u8 v0, .int .u8 v1, .int .u8 v2, .int .u8 v3]) (.int .i64 3)).run Try.prog w = .ok (.int .u8 v3) w := by
  refine ⟨?_, ?_, ?_, ?_⟩
  all_goals simp [Instr.index, run_underlying Try.underlying43, asIntOf, go_sem]
set_option maxRecDepth 100000 in
theorem num_core (c0 c1 c2 c3 : Nat) (h0 : c0 < 256) (h1 : c1 < 256) (h2 : c2 < 256) (h3 : c3 < 256) (w : World) :
    Calls Try.prog 61 #[.agg #[.int .u8 c0, .int .u8 c1, .int .u8 c2, .int .u8 c3]] w fun e w' => e = .returned (.int .u32 ((c0 * 16777216 + c1 * 65536 + c2 * 256 + c3 : Nat) : Int)) ∧ Below w.heap.size w w' := by
  have i0 := fun w => (idx4 c0 c1 c2 c3 w).1
  have i1 := fun w => (idx4 c0 c1 c2 c3 w).2.1
  have i2 := fun w => (idx4 c0 c1 c2 c3 w).2.2.1
  have i3 := fun w => (idx4 c0 c1 c2 c3 w).2.2.2
  go_enter Try.func61, Try.ntmps61
  go_wp2
  refine wp_loop_rounds 5 ?_
  rw [rounds_succ]
  go_wp2
  rw [rounds_succ]
  go_wp2
  rw [rounds_succ]
  go_wp2
  rw [rounds_succ]
  go_wp2
  rw [rounds_succ]
  go_wp2
  go_ret
  refine ⟨?_, bnew _ _⟩
  have e0 : bits .or .u32 0 (c0 : Int) = (c0 : Int) := by
    have := u32_or_nat 0 c0 (by decide) (by omega)
    simpa using this
  simp [e0, or_step (c0 : Int) c1 (by omega) (by omega) (by omega) (by omega), or_step ((c0 : Int) * 256 + c1) c2 (by omega) (by omega) (by omega) (by omega), or_step (((c0 : Int) * 256 + c1) * 256 + c2) c3 (by omega) (by omega) (by omega) (by omega)]
  omega
theorem addr_Num (N : Nat) (hN : N < 4294967296) (w : World) :
    Calls Try.prog 61 #[adr N] w fun e w' => e = .returned (.int .u32 N) ∧ Below w.heap.size w w' := by
  have h := num_core (b0 N) (b1 N) (b2 N) (b3 N) (b0_lt N) (b1_lt N) (b2_lt N) (b3_lt N) w
  rw [bytes_num hN] at h
  exact h

/-- Four cells, and five, that stand. -/
def Box4 (w : World) (g : Nat) (v0 v1 v2 v3 : Value) : Prop :=
  w.cell? ⟨g, 0, none⟩ = some v0 ∧ w.cell? ⟨g, 1, none⟩ = some v1 ∧ w.cell? ⟨g, 2, none⟩ = some v2 ∧ w.cell? ⟨g, 3, none⟩ = some v3 ∧
  w.frozen? ⟨g, 0, none⟩ = false ∧ w.frozen? ⟨g, 1, none⟩ = false ∧ w.frozen? ⟨g, 2, none⟩ = false ∧ w.frozen? ⟨g, 3, none⟩ = false ∧ g < w.heap.size
def Box5 (w : World) (g : Nat) (v0 v1 v2 v3 v4 : Value) : Prop := Box4 w g v0 v1 v2 v3 ∧ w.cell? ⟨g, 4, none⟩ = some v4 ∧ w.frozen? ⟨g, 4, none⟩ = false
theorem new4 (w : World) (v0 v1 v2 v3 : Value) (t : Nat) : Box4 (w.alloc (.cells #[v0, v1, v2, v3] t)) w.heap.size v0 v1 v2 v3 := by
  unfold Box4; simp
theorem new5 (w : World) (v0 v1 v2 v3 v4 : Value) (t : Nat) : Box5 (w.alloc (.cells #[v0, v1, v2, v3, v4] t)) w.heap.size v0 v1 v2 v3 v4 := by
  unfold Box5 Box4; simp
theorem Box4.below {w w' : World} {g : Nat} {v0 v1 v2 v3 : Value} (h : Box4 w g v0 v1 v2 v3) (hb : Below w.heap.size w w') : Box4 w' g v0 v1 v2 v3 := by
  obtain ⟨k0, k1, k2, k3, f0, f1, f2, f3, hg⟩ := h
  exact ⟨(hb.cell (p := ⟨g, 0, none⟩) hg).trans k0, (hb.cell (p := ⟨g, 1, none⟩) hg).trans k1, (hb.cell (p := ⟨g, 2, none⟩) hg).trans k2, (hb.cell (p := ⟨g, 3, none⟩) hg).trans k3,
    (hb.frozen (p := ⟨g, 0, none⟩) hg).trans f0, (hb.frozen (p := ⟨g, 1, none⟩) hg).trans f1, (hb.frozen (p := ⟨g, 2, none⟩) hg).trans f2, (hb.frozen (p := ⟨g, 3, none⟩) hg).trans f3, Nat.lt_of_lt_of_le hg hb.size⟩
theorem Box5.below {w w' : World} {g : Nat} {v0 v1 v2 v3 v4 : Value} (h : Box5 w g v0 v1 v2 v3 v4) (hb : Below w.heap.size w w') : Box5 w' g v0 v1 v2 v3 v4 := by
  obtain ⟨h4, k, f⟩ := h
  exact ⟨h4.below hb, (hb.cell (p := ⟨g, 4, none⟩) h4.2.2.2.2.2.2.2.2).trans k, (hb.frozen (p := ⟨g, 4, none⟩) h4.2.2.2.2.2.2.2.2).trans f⟩
theorem Box4.alloc {w : World} {g : Nat} {v0 v1 v2 v3 : Value} (h : Box4 w g v0 v1 v2 v3) (o : Obj) : Box4 (w.alloc o) g v0 v1 v2 v3 := h.below (bnew w o)
theorem Box5.alloc {w : World} {g : Nat} {v0 v1 v2 v3 v4 : Value} (h : Box5 w g v0 v1 v2 v3 v4) (o : Obj) : Box5 (w.alloc o) g v0 v1 v2 v3 v4 := h.below (bnew w o)

theorem mask_shl {k : Nat} (hk : k ≤ 32) : (4294967295 * 2 ^ (32 - k) % 4294967296 : Int) = ((cutN 4294967295 k : Nat) : Int) := by
  have : ∀ k ≤ 32, (4294967295 * 2 ^ (32 - k) % 4294967296 : Int) = ((cutN 4294967295 k : Nat) : Int) := by decide +kernel
  exact this k hk
theorem addr_Mask (b : Int) (w : World) :
    Calls Try.prog 106 #[.int .i64 b] w fun e w' => e = .returned (adr (cutN 4294967295 (held b))) ∧ Below w.heap.size w w' := by
  obtain ⟨k, hk, hh⟩ : ∃ k, k ≤ 32 ∧ held b = k := ⟨_, held_le b, rfl⟩
  have hc := fun w => addr_held b w
  have ho := fun w => addr_Of (cutN 4294967295 k) (cutN_lt (by decide) k) w
  rw [← mask_shl hk] at ho
  rw [hh] at hc ⊢
  generalize cutN 4294967295 k = M at ho
  clear hh
  unfold adr at ho ⊢
  go_enter Try.func106, Try.ntmps106
  go_wp2_with (first
    | (go_at_call 107; refine (hc _).mono ?_; rintro e w1 ⟨rfl, rfl⟩)
    | (go_at_call 82; refine (ho _).mono ?_; rintro e w2 ⟨rfl, hb2⟩; obtain ⟨k0, k1, k2, k3, f0, f1, f2, f3, hg⟩ := (new4 w _ _ _ _ _).below hb2))
  exact bodyPost_ret (by simp [results, Try.results106, go_sem, k0, k1, k2, k3]) rfl ⟨rfl, ((((bnext (bnew w _) hb2).setCell (Nat.le_refl _) _).setCell (Nat.le_refl _) _).setCell (Nat.le_refl _) _).setCell (Nat.le_refl _) _⟩
set_option maxRecDepth 100000 in
theorem addr_Cut (N : Nat) (hN : N < 4294967296) (b : Int) (w : World) :
    Calls Try.prog 91 #[adr N, .int .i64 b] w fun e w' => e = .returned (net (cutN N (held b)) (held b)) ∧ Below w.heap.size w w' := by
  obtain ⟨k, hk, hh⟩ : ∃ k, k ≤ 32 ∧ held b = k := ⟨_, held_le b, rfl⟩
  have hc := fun w => addr_held b w
  have hm := fun w => addr_Mask b w
  have ea := and_mask hN hk
  have e0 := u8_and_nat _ _ (b0_lt N) (b0_lt (cutN 4294967295 k))
  have e1 := u8_and_nat _ _ (b1_lt N) (b1_lt (cutN 4294967295 k))
  have e2 := u8_and_nat _ _ (b2_lt N) (b2_lt (cutN 4294967295 k))
  have e3 := u8_and_nat _ _ (b3_lt N) (b3_lt (cutN 4294967295 k))
  rw [← and_b0, ea] at e0
  rw [← and_b1, ea] at e1
  rw [← and_b2, ea] at e2
  rw [← and_b3, ea] at e3
  rw [hh] at hc hm ⊢
  clear hh ea
  generalize cutN 4294967295 k = M at hm e0 e1 e2 e3
  generalize cutN N k = R at e0 e1 e2 e3 ⊢
  unfold adr at hm ⊢
  unfold net
  go_enter Try.func91, Try.ntmps91
  go_wp2_with (go_at_call 106; refine (hm _).mono ?_; rintro e w2 ⟨rfl, hb2⟩; obtain ⟨k0, k1, k2, k3, f0, f1, f2, f3, hg⟩ := ((new4 w _ _ _ _ _).alloc _).below hb2; have hbox : Box5 w2 (w.heap.size + 1) (.int .u8 0) (.int .u8 0) (.int .u8 0) (.int .u8 0) (.int .i64 0) := (by simpa using (new5 (w.alloc _) _ _ _ _ _ _).below hb2); obtain ⟨⟨l0, l1, l2, l3, g0, g1, g2, g3, hl⟩, l4, g4⟩ := hbox)
  refine wp_loop_rounds 5 ?_
  rw [rounds_succ]
  go_wp2_with fail
  go_region
  go_wp2_with fail
  rw [rounds_succ]
  go_wp2_with fail
  go_region
  go_wp2_with fail
  rw [rounds_succ]
  go_wp2_with fail
  go_region
  go_wp2_with fail
  rw [rounds_succ]
  go_wp2_with fail
  go_region
  go_wp2_with fail
  rw [rounds_succ]
  go_wp2_with fail
  go_region_with (go_at_call 107; refine (hc _).mono ?_; rintro e w3 ⟨rfl, rfl⟩)
  all_goals
    go_wp2_with fail
    have hbw := bnext (bnext (bnew w _) (bnew _ _)) hb2
    refine bodyPost_ret (by simp [results, Try.results91, go_sem, l0, l1, l2, l3, l4, hl]) rfl ⟨rfl, ?_⟩
    repeat (first | with_reducible exact hbw | with_reducible apply Below.drew | with_reducible apply bal | with_reducible refine Below.setCell ?_ (by simp) _)
end Go.Proofs.Ytnaofcggdjbocaa.Addr
namespace Go.Proofs.Ytnaofcggdjbocaa.Addr
open Go.RowKit Go.Proofs.Ytnaofcggdjbocaa.Mem

theorem cells_u8 : Try.prog.cellsOf 5 = 1 := by kernel_rfl
theorem info_u8 : ∃ i, Try.prog.info? 5 = some i := Option.isSome_iff_exists.1 (by kernel_rfl)
theorem eq4 (d : Nat) (v0 v1 v2 v3 u0 u1 u2 u3 : Int) (w : World) :
    (Op.equalIn (d + 2) 43 (.agg #[.int .u8 v0, .int .u8 v1, .int .u8 v2, .int .u8 v3]) (.agg #[.int .u8 u0, .int .u8 u1, .int .u8 u2, .int .u8 u3])).run Try.prog w = .ok (v0 == u0 && v1 == u1 && v2 == u2 && v3 == u3) w := by
  obtain ⟨i, hi⟩ := info_u8
  rw [run_equalIn_array w (d + 1) _ _ Try.underlying43 hi, cells_u8]
  have r : List.range 4 = [0, 1, 2, 3] := rfl
  rw [r]
  simp only [Op.eqItems]
  simp [go_sem, part, Try.sizeOf5, Try.isAgg5]
  by_cases h0 : v0 = u0 <;> by_cases h1 : v1 = u1 <;> by_cases h2 : v2 = u2 <;> by_cases h3 : v3 = u3 <;> simp [h0, h1, h2, h3]
theorem eq_bytes {N M : Nat} (hN : N < 4294967296) (hM : M < 4294967296) :
    (((b0 N : Nat) : Int) == ((b0 M : Nat) : Int) && ((b1 N : Nat) : Int) == ((b1 M : Nat) : Int) && ((b2 N : Nat) : Int) == ((b2 M : Nat) : Int) && ((b3 N : Nat) : Int) == ((b3 M : Nat) : Int)) = decide (N = M) := by
  by_cases h : N = M
  · subst h; simp
  · rw [decide_eq_false h]
    simp only [Bool.and_eq_false_iff, beq_eq_false_iff_ne, ne_eq, Int.natCast_inj]
    by_cases h0 : b0 N = b0 M
    · by_cases h1 : b1 N = b1 M
      · by_cases h2 : b2 N = b2 M
        · exact Or.inr fun h3 => h (bytes_inj hN hM h0 h1 h2 h3)
        · exact Or.inl (Or.inr h2)
      · exact Or.inl (Or.inl (Or.inr h1))
    · exact Or.inl (Or.inl (Or.inl h0))
theorem eq_adr {N M : Nat} (hN : N < 4294967296) (hM : M < 4294967296) (w : World) : (Op.equalIn 10000 43 (adr N) (adr M)).run Try.prog w = .ok (decide (N = M)) w := by
  unfold adr
  rw [eq4 9998, eq_bytes hN hM]
theorem stood_net : Try.prog.stoodInHeld 45 = false := by kernel_rfl
theorem eq_net {N M : Nat} {b c : Int} (hN : N < 4294967296) (hM : M < 4294967296) (w : World) : (Op.equalIn 10000 45 (net N b) (net M c)).run Try.prog w = .ok (decide (N = M) && decide (b = c)) w := by
  unfold net
  have hf : Try.prog.underlying 45 = some (.struct (Try.prog.fieldsOf 45)) := by simp [Program.fieldsOf, Try.underlying45]
  rw [run_equalIn_struct w 9999 _ _ _ hf stood_net]
  have e := eq_bytes hN hM
  have e4 := eq4 9997 (b0 N) (b1 N) (b2 N) (b3 N) (b0 M) (b1 M) (b2 M) (b3 M) w
  rw [e] at e4
  simp [Program.fieldsOf, Try.underlying45, Op.eqFields, part, Try.isAgg43, Try.sizeOf43, Try.isAgg3, go_sem, e4]
  by_cases h : N = M <;> by_cases h2 : b = c <;> simp [h, h2]
end Go.Proofs.Ytnaofcggdjbocaa.Addr
