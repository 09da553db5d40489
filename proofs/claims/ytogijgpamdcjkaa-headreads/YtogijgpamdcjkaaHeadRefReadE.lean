/-
  The document's answers, as they are typed out: Read, where the bytes are no packet. (Written by gen_refread.py.)
-/
import Derived.Test.YtogijgpamdcjkaaHeadRef
import Derived.Test.YtogijgpamdcjkaaHeadReadE
namespace Go.Proofs.Ytogijgpamdcjkaa.Head
open Go.RowKit Go.Proofs.Ytogijgpamdcjkaa.Mem
set_option linter.unusedVariables false

theorem grownBy_drewN {w w' : World} {row : Option Nat} (h : w.grownBy w' row) (n : Nat) : w.grownBy (w'.drewN n) row := ⟨h.os, h.tape, h.output, h.size, h.block⟩
set_option maxRecDepth 100000 in
theorem rread_51 (p : Option Addr) (n c : Nat) (xs : List Int) (l : xs.length = n) (hx : ∀ c ∈ xs, Byte c) (hn : n ≤ 9223372036854775807) (w : World) (r : Reads .u8 w p c xs) (h20 : n < 20) :
    Calls Try.prog 15 #[.slice p n c] w fun e w' => e = .returned (.tuple #[.agg #[.int .i64 0, .int .i64 0, .int .i64 0, .int .i64 0, .int .i64 0, .int .u8 0, .int .u8 0, .int .u8 0, .int .u8 0, .int .u8 0, .int .u8 0, .int .u8 0, .int .u8 0, .slice none 0 0], .slice none 0 0, .int .i64 51]) ∧ Below w.heap.size w w' := by
  go_enter Try.func15, Try.ntmps15
  go_wp2
  exact bodyPost_ret (v := .tuple #[.agg #[.int .i64 0, .int .i64 0, .int .i64 0, .int .i64 0, .int .i64 0, .int .u8 0, .int .u8 0, .int .u8 0, .int .u8 0, .int .u8 0, .int .u8 0, .int .u8 0, .int .u8 0, .slice none 0 0], .slice none 0 0, .int .i64 51]) (by simp [results, Try.results15, go_sem]) rfl ⟨rfl, bnew _ _⟩
set_option maxRecDepth 100000 in
theorem rread_52 (p : Option Addr) (n c : Nat) (xs : List Int) (l : xs.length = n) (hx : ∀ c ∈ xs, Byte c) (hn : n ≤ 9223372036854775807) (w : World) (r : Reads .u8 w p c xs) (h20 : 20 ≤ n) (h4 : xs.getD 0 0 / 16 ≠ 4) :
    Calls Try.prog 15 #[.slice p n c] w fun e w' => e = .returned (.tuple #[.agg #[.int .i64 0, .int .i64 0, .int .i64 0, .int .i64 0, .int .i64 0, .int .u8 0, .int .u8 0, .int .u8 0, .int .u8 0, .int .u8 0, .int .u8 0, .int .u8 0, .int .u8 0, .slice none 0 0], .slice none 0 0, .int .i64 52]) ∧ Below w.heap.size w w' := by
  obtain ⟨b, o, rfl, hbl, hcell⟩ := r.2.2.2 (by omega)
  have hne : b ≠ w.heap.size := by omega
  obtain ⟨y, hy⟩ : ∃ y, y = xs.getD 0 0 := ⟨_, rfl⟩
  have h1 : w.cell? ⟨b, o, none⟩ = some (.int .u8 y) := by rw [hy]; exact hcell 0 (by omega)
  obtain ⟨y0, y1⟩ : Byte y := by rw [hy]; exact getD_byte hx 0
  have d4 : (y / 16 == 4) = false := by rw [hy]; exact beq_eq_false_iff_ne.2 h4
  clear hy hcell h4
  go_enter Try.func15, Try.ntmps15
  go_wp2
  exact bodyPost_ret (v := .tuple #[.agg #[.int .i64 0, .int .i64 0, .int .i64 0, .int .i64 0, .int .i64 0, .int .u8 0, .int .u8 0, .int .u8 0, .int .u8 0, .int .u8 0, .int .u8 0, .int .u8 0, .int .u8 0, .slice none 0 0], .slice none 0 0, .int .i64 52]) (by simp [results, Try.results15, go_sem]) rfl ⟨rfl, bnew _ _⟩
set_option maxRecDepth 100000 in
set_option maxHeartbeats 1000000 in
theorem rread_53a (p : Option Addr) (n c : Nat) (xs : List Int) (l : xs.length = n) (hx : ∀ c ∈ xs, Byte c) (hn : n ≤ 9223372036854775807) (w : World) (r : Reads .u8 w p c xs) (h20 : 20 ≤ n) (h4 : xs.getD 0 0 / 16 = 4) (H : Nat) (hH : H = hsz xs) (hbad : H < 20) :
    Calls Try.prog 15 #[.slice p n c] w fun e w' => e = .returned (.tuple #[.agg #[.int .i64 0, .int .i64 0, .int .i64 0, .int .i64 0, .int .i64 0, .int .u8 0, .int .u8 0, .int .u8 0, .int .u8 0, .int .u8 0, .int .u8 0, .int .u8 0, .int .u8 0, .slice none 0 0], .slice none 0 0, .int .i64 53]) ∧ Below w.heap.size w w' := by
  obtain ⟨b, o, rfl, hbl, hcell⟩ := r.2.2.2 (by omega)
  have hne : b ≠ w.heap.size := by omega
  obtain ⟨y, hy⟩ : ∃ y, y = xs.getD 0 0 := ⟨_, rfl⟩
  have h1 : w.cell? ⟨b, o, none⟩ = some (.int .u8 y) := by rw [hy]; exact hcell 0 (by omega)
  obtain ⟨y0, y1⟩ : Byte y := by rw [hy]; exact getD_byte hx 0
  have d4 : (y / 16 == 4) = true := by rw [hy, h4]; rfl
  obtain ⟨x2, hx2⟩ : ∃ y, y = xs.getD 2 0 := ⟨_, rfl⟩
  obtain ⟨x3, hx3⟩ : ∃ y, y = xs.getD 3 0 := ⟨_, rfl⟩
  have h2 : w.cell? ⟨b, o + 2, none⟩ = some (.int .u8 x2) := by rw [hx2]; exact hcell 2 (by omega)
  have h3 : w.cell? ⟨b, o + 3, none⟩ = some (.int .u8 x3) := by rw [hx3]; exact hcell 3 (by omega)
  obtain ⟨x20, x21⟩ : Byte x2 := by rw [hx2]; exact getD_byte hx 2
  obtain ⟨x30, x31⟩ : Byte x3 := by rw [hx3]; exact getD_byte hx 3
  have hK : num xs 2 = 256 * x2 + x3 := by unfold num; rw [hx2, hx3]
  have hHc : 4 * (y % 16) = (H : Int) := by rw [hH, hy]; unfold hsz; have := getD_byte hx 0; unfold Byte at this; omega
  try rw [hK] at hbad
  have q2 : (2 : Int) < (n : Int) := by omega
  have q3 : (3 : Int) < (n : Int) := by omega
  have v2 : IntKind.i64.wrap x2 = x2 := by simp [IntKind.wrap, IntKind.bits, IntKind.signed]; omega
  have v3 : IntKind.i64.wrap x3 = x3 := by simp [IntKind.wrap, IntKind.bits, IntKind.signed]; omega
  have v4 : IntKind.i64.wrap (256 * x2) = 256 * x2 := by simp [IntKind.wrap, IntKind.bits, IntKind.signed]; omega
  have v5 : IntKind.i64.wrap (256 * x2 + x3) = 256 * x2 + x3 := by simp [IntKind.wrap, IntKind.bits, IntKind.signed]; omega
  have e1 : decide ((H : Int) < 20) = true := by simp; omega
  have e1n : decide (H < 20) = true := by simp; omega
  clear hy hx2 hx3 hcell h4 hK hH hbad
  go_enter Try.func15, Try.ntmps15
  go_wp2
  go_quiet (fail)
  go_wp2
  exact bodyPost_ret (v := .tuple #[.agg #[.int .i64 0, .int .i64 0, .int .i64 0, .int .i64 0, .int .i64 0, .int .u8 0, .int .u8 0, .int .u8 0, .int .u8 0, .int .u8 0, .int .u8 0, .int .u8 0, .int .u8 0, .slice none 0 0], .slice none 0 0, .int .i64 53]) (by simp [results, Try.results15, go_sem]) rfl ⟨rfl, (bnext (bnew w _) (bdrewN _ _)).grown (sets14 _ _ _ _ _ _ _ _ _ _ _ _ _ _ _ _) (by simp) (by intro k hk; simp at hk; omega)⟩
set_option maxRecDepth 100000 in
set_option maxHeartbeats 1000000 in
theorem rread_53b (p : Option Addr) (n c : Nat) (xs : List Int) (l : xs.length = n) (hx : ∀ c ∈ xs, Byte c) (hn : n ≤ 9223372036854775807) (w : World) (r : Reads .u8 w p c xs) (h20 : 20 ≤ n) (h4 : xs.getD 0 0 / 16 = 4) (H : Nat) (hH : H = hsz xs) (hbad : 20 ≤ H ∧ n < H) :
    Calls Try.prog 15 #[.slice p n c] w fun e w' => e = .returned (.tuple #[.agg #[.int .i64 0, .int .i64 0, .int .i64 0, .int .i64 0, .int .i64 0, .int .u8 0, .int .u8 0, .int .u8 0, .int .u8 0, .int .u8 0, .int .u8 0, .int .u8 0, .int .u8 0, .slice none 0 0], .slice none 0 0, .int .i64 53]) ∧ Below w.heap.size w w' := by
  obtain ⟨b, o, rfl, hbl, hcell⟩ := r.2.2.2 (by omega)
  have hne : b ≠ w.heap.size := by omega
  obtain ⟨y, hy⟩ : ∃ y, y = xs.getD 0 0 := ⟨_, rfl⟩
  have h1 : w.cell? ⟨b, o, none⟩ = some (.int .u8 y) := by rw [hy]; exact hcell 0 (by omega)
  obtain ⟨y0, y1⟩ : Byte y := by rw [hy]; exact getD_byte hx 0
  have d4 : (y / 16 == 4) = true := by rw [hy, h4]; rfl
  obtain ⟨x2, hx2⟩ : ∃ y, y = xs.getD 2 0 := ⟨_, rfl⟩
  obtain ⟨x3, hx3⟩ : ∃ y, y = xs.getD 3 0 := ⟨_, rfl⟩
  have h2 : w.cell? ⟨b, o + 2, none⟩ = some (.int .u8 x2) := by rw [hx2]; exact hcell 2 (by omega)
  have h3 : w.cell? ⟨b, o + 3, none⟩ = some (.int .u8 x3) := by rw [hx3]; exact hcell 3 (by omega)
  obtain ⟨x20, x21⟩ : Byte x2 := by rw [hx2]; exact getD_byte hx 2
  obtain ⟨x30, x31⟩ : Byte x3 := by rw [hx3]; exact getD_byte hx 3
  have hK : num xs 2 = 256 * x2 + x3 := by unfold num; rw [hx2, hx3]
  have hHc : 4 * (y % 16) = (H : Int) := by rw [hH, hy]; unfold hsz; have := getD_byte hx 0; unfold Byte at this; omega
  try rw [hK] at hbad
  have q2 : (2 : Int) < (n : Int) := by omega
  have q3 : (3 : Int) < (n : Int) := by omega
  have v2 : IntKind.i64.wrap x2 = x2 := by simp [IntKind.wrap, IntKind.bits, IntKind.signed]; omega
  have v3 : IntKind.i64.wrap x3 = x3 := by simp [IntKind.wrap, IntKind.bits, IntKind.signed]; omega
  have v4 : IntKind.i64.wrap (256 * x2) = 256 * x2 := by simp [IntKind.wrap, IntKind.bits, IntKind.signed]; omega
  have v5 : IntKind.i64.wrap (256 * x2 + x3) = 256 * x2 + x3 := by simp [IntKind.wrap, IntKind.bits, IntKind.signed]; omega
  have e1 : decide ((H : Int) < 20) = false := by simp; omega
  have e1n : decide (H < 20) = false := by simp; omega
  have e2 : decide (n < H) = true := by simp; omega
  have e2i : decide ((n : Int) < (H : Int)) = true := by simp; omega
  clear hy hx2 hx3 hcell h4 hK hH hbad
  go_enter Try.func15, Try.ntmps15
  go_wp2
  go_quiet (fail)
  go_wp2
  exact bodyPost_ret (v := .tuple #[.agg #[.int .i64 0, .int .i64 0, .int .i64 0, .int .i64 0, .int .i64 0, .int .u8 0, .int .u8 0, .int .u8 0, .int .u8 0, .int .u8 0, .int .u8 0, .int .u8 0, .int .u8 0, .slice none 0 0], .slice none 0 0, .int .i64 53]) (by simp [results, Try.results15, go_sem]) rfl ⟨rfl, (bnext (bnew w _) (bdrewN _ _)).grown (sets14 _ _ _ _ _ _ _ _ _ _ _ _ _ _ _ _) (by simp) (by intro k hk; simp at hk; omega)⟩
set_option maxRecDepth 100000 in
set_option maxHeartbeats 1000000 in
theorem rread_53c (p : Option Addr) (n c : Nat) (xs : List Int) (l : xs.length = n) (hx : ∀ c ∈ xs, Byte c) (hn : n ≤ 9223372036854775807) (w : World) (r : Reads .u8 w p c xs) (h20 : 20 ≤ n) (h4 : xs.getD 0 0 / 16 = 4) (H : Nat) (hH : H = hsz xs) (hbad : 20 ≤ H ∧ H ≤ n ∧ num xs 2 ≠ n) :
    Calls Try.prog 15 #[.slice p n c] w fun e w' => e = .returned (.tuple #[.agg #[.int .i64 0, .int .i64 0, .int .i64 0, .int .i64 0, .int .i64 0, .int .u8 0, .int .u8 0, .int .u8 0, .int .u8 0, .int .u8 0, .int .u8 0, .int .u8 0, .int .u8 0, .slice none 0 0], .slice none 0 0, .int .i64 53]) ∧ Below w.heap.size w w' := by
  obtain ⟨b, o, rfl, hbl, hcell⟩ := r.2.2.2 (by omega)
  have hne : b ≠ w.heap.size := by omega
  obtain ⟨y, hy⟩ : ∃ y, y = xs.getD 0 0 := ⟨_, rfl⟩
  have h1 : w.cell? ⟨b, o, none⟩ = some (.int .u8 y) := by rw [hy]; exact hcell 0 (by omega)
  obtain ⟨y0, y1⟩ : Byte y := by rw [hy]; exact getD_byte hx 0
  have d4 : (y / 16 == 4) = true := by rw [hy, h4]; rfl
  obtain ⟨x2, hx2⟩ : ∃ y, y = xs.getD 2 0 := ⟨_, rfl⟩
  obtain ⟨x3, hx3⟩ : ∃ y, y = xs.getD 3 0 := ⟨_, rfl⟩
  have h2 : w.cell? ⟨b, o + 2, none⟩ = some (.int .u8 x2) := by rw [hx2]; exact hcell 2 (by omega)
  have h3 : w.cell? ⟨b, o + 3, none⟩ = some (.int .u8 x3) := by rw [hx3]; exact hcell 3 (by omega)
  obtain ⟨x20, x21⟩ : Byte x2 := by rw [hx2]; exact getD_byte hx 2
  obtain ⟨x30, x31⟩ : Byte x3 := by rw [hx3]; exact getD_byte hx 3
  have hK : num xs 2 = 256 * x2 + x3 := by unfold num; rw [hx2, hx3]
  have hHc : 4 * (y % 16) = (H : Int) := by rw [hH, hy]; unfold hsz; have := getD_byte hx 0; unfold Byte at this; omega
  try rw [hK] at hbad
  have q2 : (2 : Int) < (n : Int) := by omega
  have q3 : (3 : Int) < (n : Int) := by omega
  have v2 : IntKind.i64.wrap x2 = x2 := by simp [IntKind.wrap, IntKind.bits, IntKind.signed]; omega
  have v3 : IntKind.i64.wrap x3 = x3 := by simp [IntKind.wrap, IntKind.bits, IntKind.signed]; omega
  have v4 : IntKind.i64.wrap (256 * x2) = 256 * x2 := by simp [IntKind.wrap, IntKind.bits, IntKind.signed]; omega
  have v5 : IntKind.i64.wrap (256 * x2 + x3) = 256 * x2 + x3 := by simp [IntKind.wrap, IntKind.bits, IntKind.signed]; omega
  have e1 : decide ((H : Int) < 20) = false := by simp; omega
  have e1n : decide (H < 20) = false := by simp; omega
  have e2 : decide (n < H) = false := by simp; omega
  have e2i : decide ((n : Int) < (H : Int)) = false := by simp; omega
  have e3 : (256 * x2 + x3 != (n : Int)) = true := by simp; omega
  clear hy hx2 hx3 hcell h4 hK hH hbad
  go_enter Try.func15, Try.ntmps15
  go_wp2
  go_quiet (fail)
  go_wp2
  exact bodyPost_ret (v := .tuple #[.agg #[.int .i64 0, .int .i64 0, .int .i64 0, .int .i64 0, .int .i64 0, .int .u8 0, .int .u8 0, .int .u8 0, .int .u8 0, .int .u8 0, .int .u8 0, .int .u8 0, .int .u8 0, .slice none 0 0], .slice none 0 0, .int .i64 53]) (by simp [results, Try.results15, go_sem]) rfl ⟨rfl, (bnext (bnew w _) (bdrewN _ _)).grown (sets14 _ _ _ _ _ _ _ _ _ _ _ _ _ _ _ _) (by simp) (by intro k hk; simp at hk; omega)⟩
set_option maxRecDepth 100000 in
set_option maxHeartbeats 1000000 in
theorem rread_53d (p : Option Addr) (n c : Nat) (xs : List Int) (l : xs.length = n) (hx : ∀ c ∈ xs, Byte c) (hn : n ≤ 9223372036854775807) (w : World) (r : Reads .u8 w p c xs) (h20 : 20 ≤ n) (h4 : xs.getD 0 0 / 16 = 4) (H : Nat) (hH : H = hsz xs) (hbad : 20 ≤ H ∧ H ≤ n ∧ num xs 2 = n ∧ 1500 < n) :
    Calls Try.prog 15 #[.slice p n c] w fun e w' => e = .returned (.tuple #[.agg #[.int .i64 0, .int .i64 0, .int .i64 0, .int .i64 0, .int .i64 0, .int .u8 0, .int .u8 0, .int .u8 0, .int .u8 0, .int .u8 0, .int .u8 0, .int .u8 0, .int .u8 0, .slice none 0 0], .slice none 0 0, .int .i64 53]) ∧ Below w.heap.size w w' := by
  obtain ⟨b, o, rfl, hbl, hcell⟩ := r.2.2.2 (by omega)
  have hne : b ≠ w.heap.size := by omega
  obtain ⟨y, hy⟩ : ∃ y, y = xs.getD 0 0 := ⟨_, rfl⟩
  have h1 : w.cell? ⟨b, o, none⟩ = some (.int .u8 y) := by rw [hy]; exact hcell 0 (by omega)
  obtain ⟨y0, y1⟩ : Byte y := by rw [hy]; exact getD_byte hx 0
  have d4 : (y / 16 == 4) = true := by rw [hy, h4]; rfl
  obtain ⟨x2, hx2⟩ : ∃ y, y = xs.getD 2 0 := ⟨_, rfl⟩
  obtain ⟨x3, hx3⟩ : ∃ y, y = xs.getD 3 0 := ⟨_, rfl⟩
  have h2 : w.cell? ⟨b, o + 2, none⟩ = some (.int .u8 x2) := by rw [hx2]; exact hcell 2 (by omega)
  have h3 : w.cell? ⟨b, o + 3, none⟩ = some (.int .u8 x3) := by rw [hx3]; exact hcell 3 (by omega)
  obtain ⟨x20, x21⟩ : Byte x2 := by rw [hx2]; exact getD_byte hx 2
  obtain ⟨x30, x31⟩ : Byte x3 := by rw [hx3]; exact getD_byte hx 3
  have hK : num xs 2 = 256 * x2 + x3 := by unfold num; rw [hx2, hx3]
  have hHc : 4 * (y % 16) = (H : Int) := by rw [hH, hy]; unfold hsz; have := getD_byte hx 0; unfold Byte at this; omega
  try rw [hK] at hbad
  have q2 : (2 : Int) < (n : Int) := by omega
  have q3 : (3 : Int) < (n : Int) := by omega
  have v2 : IntKind.i64.wrap x2 = x2 := by simp [IntKind.wrap, IntKind.bits, IntKind.signed]; omega
  have v3 : IntKind.i64.wrap x3 = x3 := by simp [IntKind.wrap, IntKind.bits, IntKind.signed]; omega
  have v4 : IntKind.i64.wrap (256 * x2) = 256 * x2 := by simp [IntKind.wrap, IntKind.bits, IntKind.signed]; omega
  have v5 : IntKind.i64.wrap (256 * x2 + x3) = 256 * x2 + x3 := by simp [IntKind.wrap, IntKind.bits, IntKind.signed]; omega
  have e1 : decide ((H : Int) < 20) = false := by simp; omega
  have e1n : decide (H < 20) = false := by simp; omega
  have e2 : decide (n < H) = false := by simp; omega
  have e2i : decide ((n : Int) < (H : Int)) = false := by simp; omega
  have e3 : (256 * x2 + x3 != (n : Int)) = false := by simp; omega
  have e4 : decide (1500 < n) = true := by simp; omega
  have e4i : decide (1500 < (n : Int)) = true := by simp; omega
  clear hy hx2 hx3 hcell h4 hK hH hbad
  go_enter Try.func15, Try.ntmps15
  go_wp2
  go_quiet (fail)
  go_wp2
  exact bodyPost_ret (v := .tuple #[.agg #[.int .i64 0, .int .i64 0, .int .i64 0, .int .i64 0, .int .i64 0, .int .u8 0, .int .u8 0, .int .u8 0, .int .u8 0, .int .u8 0, .int .u8 0, .int .u8 0, .int .u8 0, .slice none 0 0], .slice none 0 0, .int .i64 53]) (by simp [results, Try.results15, go_sem]) rfl ⟨rfl, (bnext (bnew w _) (bdrewN _ _)).grown (sets14 _ _ _ _ _ _ _ _ _ _ _ _ _ _ _ _) (by simp) (by intro k hk; simp at hk; omega)⟩
set_option maxRecDepth 100000 in
set_option maxHeartbeats 1000000 in
theorem rread_54 (p : Option Addr) (n c : Nat) (xs : List Int) (l : xs.length = n) (hx : ∀ c ∈ xs, Byte c) (hn : n ≤ 9223372036854775807) (w : World) (r : Reads .u8 w p c xs) (h20 : 20 ≤ n) (h4 : xs.getD 0 0 / 16 = 4) (H : Nat) (hH : H = hsz xs) (hbad : 20 ≤ H ∧ H ≤ n ∧ num xs 2 = n ∧ n ≤ 1500) (hsum : sumI (xs.take H) ≠ 0) :
    Calls Try.prog 15 #[.slice p n c] w fun e w' => e = .returned (.tuple #[.agg #[.int .i64 0, .int .i64 0, .int .i64 0, .int .i64 0, .int .i64 0, .int .u8 0, .int .u8 0, .int .u8 0, .int .u8 0, .int .u8 0, .int .u8 0, .int .u8 0, .int .u8 0, .slice none 0 0], .slice none 0 0, .int .i64 54]) ∧ Below w.heap.size w w' := by
  obtain ⟨b, o, rfl, hbl, hcell⟩ := r.2.2.2 (by omega)
  have hne : b ≠ w.heap.size := by omega
  obtain ⟨y, hy⟩ : ∃ y, y = xs.getD 0 0 := ⟨_, rfl⟩
  have h1 : w.cell? ⟨b, o, none⟩ = some (.int .u8 y) := by rw [hy]; exact hcell 0 (by omega)
  obtain ⟨y0, y1⟩ : Byte y := by rw [hy]; exact getD_byte hx 0
  have d4 : (y / 16 == 4) = true := by rw [hy, h4]; rfl
  obtain ⟨x2, hx2⟩ : ∃ y, y = xs.getD 2 0 := ⟨_, rfl⟩
  obtain ⟨x3, hx3⟩ : ∃ y, y = xs.getD 3 0 := ⟨_, rfl⟩
  have h2 : w.cell? ⟨b, o + 2, none⟩ = some (.int .u8 x2) := by rw [hx2]; exact hcell 2 (by omega)
  have h3 : w.cell? ⟨b, o + 3, none⟩ = some (.int .u8 x3) := by rw [hx3]; exact hcell 3 (by omega)
  obtain ⟨x20, x21⟩ : Byte x2 := by rw [hx2]; exact getD_byte hx 2
  obtain ⟨x30, x31⟩ : Byte x3 := by rw [hx3]; exact getD_byte hx 3
  have hK : num xs 2 = 256 * x2 + x3 := by unfold num; rw [hx2, hx3]
  have hHc : 4 * (y % 16) = (H : Int) := by rw [hH, hy]; unfold hsz; have := getD_byte hx 0; unfold Byte at this; omega
  try rw [hK] at hbad
  have q2 : (2 : Int) < (n : Int) := by omega
  have q3 : (3 : Int) < (n : Int) := by omega
  have v2 : IntKind.i64.wrap x2 = x2 := by simp [IntKind.wrap, IntKind.bits, IntKind.signed]; omega
  have v3 : IntKind.i64.wrap x3 = x3 := by simp [IntKind.wrap, IntKind.bits, IntKind.signed]; omega
  have v4 : IntKind.i64.wrap (256 * x2) = 256 * x2 := by simp [IntKind.wrap, IntKind.bits, IntKind.signed]; omega
  have v5 : IntKind.i64.wrap (256 * x2 + x3) = 256 * x2 + x3 := by simp [IntKind.wrap, IntKind.bits, IntKind.signed]; omega
  have e1 : decide ((H : Int) < 20) = false := by simp; omega
  have e1n : decide (H < 20) = false := by simp; omega
  have e2 : decide (n < H) = false := by simp; omega
  have e2i : decide ((n : Int) < (H : Int)) = false := by simp; omega
  have e3 : (256 * x2 + x3 != (n : Int)) = false := by simp; omega
  have e4 : decide (1500 < n) = false := by simp; omega
  have e4i : decide (1500 < (n : Int)) = false := by simp; omega
  have hup := fun w => run_upto w b o n c H (by have := r.1; omega)
  have hsm := fun w' (rr : Reads .u8 w' (some ⟨b, o, none⟩) c xs) => ref_Sum (some ⟨b, o, none⟩) H c (xs.take H) (by simp; omega) (fun c hc => hx c (List.mem_of_mem_take hc)) (by omega) w' (rr.upto H)
  obtain ⟨s, hs0⟩ : ∃ s, s = sumI (xs.take H) := ⟨_, rfl⟩
  rw [← hs0] at hsm hsum
  have ds : (s == 0) = false := by simp [hsum]
  clear hs0 hsum
  clear hy hx2 hx3 hcell h4 hK hH hbad
  go_enter Try.func15, Try.ntmps15
  go_wp2
  go_quiet (fail)
  go_wp2_with (go_at_call 13; refine (hsm _ ((r.alloc _).drewN _)).mono ?_; rintro e w3 ⟨rfl, rfl⟩)
  exact bodyPost_ret (v := .tuple #[.agg #[.int .i64 0, .int .i64 0, .int .i64 0, .int .i64 0, .int .i64 0, .int .u8 0, .int .u8 0, .int .u8 0, .int .u8 0, .int .u8 0, .int .u8 0, .int .u8 0, .int .u8 0, .slice none 0 0], .slice none 0 0, .int .i64 54]) (by simp [results, Try.results15, go_sem]) rfl ⟨rfl, (bnext (bnew w _) (bdrewN _ _)).grown (sets14 _ _ _ _ _ _ _ _ _ _ _ _ _ _ _ _) (by simp) (by intro k hk; simp at hk; omega)⟩
theorem rread_err (p : Option Addr) (n c : Nat) (xs : List Int) (l : xs.length = n) (hx : ∀ c ∈ xs, Byte c) (hn : n ≤ 9223372036854775807) (E : Int) (hE : faultE xs = E) (h0 : E ≠ 0) (w : World) (r : Reads .u8 w p c xs) :
    Calls Try.prog 15 #[.slice p n c] w fun e w' => e = .returned (.tuple #[.agg #[.int .i64 0, .int .i64 0, .int .i64 0, .int .i64 0, .int .i64 0, .int .u8 0, .int .u8 0, .int .u8 0, .int .u8 0, .int .u8 0, .int .u8 0, .int .u8 0, .int .u8 0, .slice none 0 0], .slice none 0 0, .int .i64 E]) ∧ Below w.heap.size w w' := by
  subst hE
  unfold faultE at h0 ⊢
  rw [l] at h0 ⊢
  by_cases h20 : n < 20
  · rw [if_pos h20]
    exact rread_51 p n c xs l hx hn w r h20
  · rw [if_neg h20] at h0 ⊢
    by_cases h4 : xs.getD 0 0 / 16 = 4
    · rw [if_neg (by simpa using h4)] at h0 ⊢
      by_cases hf : fitB xs = false
      · rw [if_pos hf]
        have hq : ¬ (20 ≤ hsz xs ∧ hsz xs ≤ n ∧ num xs 2 = n ∧ n ≤ 1500) := fun h => by
          have := fit_iff.2 (by rw [l]; exact h)
          rw [this] at hf
          cases hf
        by_cases q1 : hsz xs < 20
        · exact rread_53a p n c xs l hx hn w r (by omega) h4 _ rfl q1
        · by_cases q2 : n < hsz xs
          · exact rread_53b p n c xs l hx hn w r (by omega) h4 _ rfl ⟨by omega, q2⟩
          · by_cases q3 : num xs 2 = n
            · exact rread_53d p n c xs l hx hn w r (by omega) h4 _ rfl ⟨by omega, by omega, q3, by omega⟩
            · exact rread_53c p n c xs l hx hn w r (by omega) h4 _ rfl ⟨by omega, by omega, q3⟩
      · rw [if_neg hf] at h0 ⊢
        have hf' : fitB xs = true := by simpa using hf
        have hq := fit_iff.1 hf'
        rw [l] at hq
        by_cases hs : sumI (xs.take (hsz xs)) = 0
        · rw [if_neg (by simpa using hs)] at h0
          exact absurd rfl h0
        · rw [if_pos hs]
          exact rread_54 p n c xs l hx hn w r (by omega) h4 _ rfl hq hs
    · rw [if_pos h4]
      exact rread_52 p n c xs l hx hn w r (by omega) h4
end Go.Proofs.Ytogijgpamdcjkaa.Head
