/-
  What package leb's Get gives, for every slice of bytes.
-/
import Derived.Test.YtfgndecnakfhnaaLebPut
namespace Go.Proofs.Ytfgndecnakfhnaa.Leb
open Go.RowKit Go.Proofs.Ytfgndecnakfhnaa.Mem
set_option maxRecDepth 100000

theorem equal_any (p1 p2 : Option Addr) (n c m d : Nat) (xs ys : List Int) (w : World) (hx : xs.length = n) (hy : ys.length = m) (h1 : Reads .u8 w p1 c xs) (h2 : Reads .u8 w p2 d ys)
    (b1 : ∀ z ∈ xs, Byte z) (b2 : ∀ z ∈ ys, Byte z) :
    Calls Try.prog 60 #[.slice p1 n c, .slice p2 m d] w fun e w' => e = .returned (.bool (decide (xs = ys))) ∧ w' = w := by
  rw [← bytes_eq b1 b2]
  exact Try.bytes_Equal_all p1 p2 n c m d xs ys w hx hy (h1.bytesIn hx) (h2.bytesIn hy)

/-- Three results. -/
def three (x : Int × Int × Int) : Value := .tuple #[.int .u64 x.1, .int .i64 x.2.1, .int .i64 x.2.2]

theorem asPut_any (n : Int) (hn : Word n) (p : Option Addr) (m cap : Nat) (zs : List Int) (hm : zs.length = m) (hb : ∀ c ∈ zs, Byte c) (w : World) (hr : Reads .u8 w p cap zs) :
    Calls Try.prog 53 #[.int .u64 n, .slice p m cap] w fun e w' => e = .returned (three (if put n = zs then (n, (m : Int), 0) else (0, 0, 21))) ∧ Below w.heap.size w w' := by
  by_cases hq : put n = zs
  · have hd : decide (zs = put n) = true := by simp [hq]
    rw [if_pos hq]; clear hq
    go_enter Try.func53, Try.ntmps53
    go_wp2_with (first
      | (go_at_call 61; refine (put_any n hn _).mono ?_; rintro e w1 ⟨g, cp, rfl, hr1, hb1⟩)
      | (go_at_call 60; refine (equal_any _ _ _ _ _ _ zs (put n) _ hm rfl (hr.below hb1) hr1 hb (put_bytes n hn.1)).mono ?_; rintro e w2 ⟨rfl, hw2⟩; subst hw2))
    go_ret3
    exact ⟨rfl, hb1⟩
  · have hd : decide (zs = put n) = false := by simpa using fun e => hq e.symm
    rw [if_neg hq]; clear hq
    go_enter Try.func53, Try.ntmps53
    go_wp2_with (first
      | (go_at_call 61; refine (put_any n hn _).mono ?_; rintro e w1 ⟨g, cp, rfl, hr1, hb1⟩)
      | (go_at_call 60; refine (equal_any _ _ _ _ _ _ zs (put n) _ hm rfl (hr.below hb1) hr1 hb (put_bytes n hn.1)).mono ?_; rintro e w2 ⟨rfl, hw2⟩; subst hw2))
    go_ret3
    exact ⟨rfl, by assumption⟩

theorem getD_byte {zs : List Int} (hb : ∀ c ∈ zs, Byte c) (k : Nat) (hk : k < zs.length) : Byte (zs.getD k 0) := by
  simp only [List.getD, List.getElem?_eq_getElem hk, Option.getD_some]
  exact hb _ (List.getElem_mem hk)

theorem get_some (b o m cap : Nat) (zs : List Int) (hm : zs.length = m) (hb : ∀ c ∈ zs, Byte c) (w : World) (hr : Reads .u8 w (some ⟨b, o, none⟩) cap zs) (hpos : 0 < m) :
    Calls Try.prog 39 #[.slice (some ⟨b, o, none⟩) m cap] w fun e w' => e = .returned (three (lget zs)) ∧ Below w.heap.size w w' := by
  have hmc : m ≤ cap := by rw [← hm]; exact hr.1
  have hcm : cap ≤ 9223372036854775807 := hr.2.1
  obtain ⟨L, hL⟩ : ∃ L, L = min m 10 := ⟨_, rfl⟩
  have hLm : L ≤ m := by omega
  have hL10 : L ≤ 10 := by omega
  have hmin : min (m : Int) 10 = (L : Int) := by omega
  have hcut := run_upto w b o m cap L (by omega)
  have HL : Hid (L = min m 10) := hL
  clear hL
  have hlead := lead_le zs
  obtain ⟨X, hX⟩ : ∃ X, X = lget zs := ⟨_, rfl⟩
  rw [← hX]
  unfold three
  have HX : Hid (X = lget zs) := hX
  clear hX
  go_enter Try.func39, Try.ntmps39
  go_wp2_with fail
  go_loop [5, 14] (fun n i => ∃ k : Nat, k ≤ L ∧ k ≤ lead zs ∧ i = .int .i64 k ∧ n = .int .u64 (val (zs.take k) % 18446744073709551616)) (fun _ i => L - (intOf i).toNat)
  case atStart => exact ⟨0, by omega, by omega, rfl, rfl⟩
  case round =>
    obtain ⟨k, hk, hkl, rfl, rfl⟩ := hrel
    by_cases hlt : k < L
    · obtain ⟨c, hc⟩ : ∃ c, c = zs.getD k 0 := ⟨_, rfl⟩
      have hcb : Byte c := by rw [hc]; exact getD_byte hb k (by omega)
      have hck : w.cell? ⟨b, o + k, none⟩ = some (.int .u8 c) := by
        obtain ⟨b', o', hpe, _, hcell⟩ := hr.2.2.2 (by omega)
        simp only [Option.some.injEq, Addr.mk.injEq, and_true] at hpe
        obtain ⟨rfl, rfl⟩ := hpe
        rw [hc]; exact hcell k (by omega)
      have hlow := low_of_byte hcb
      obtain ⟨c0, c1⟩ := hcb
      obtain ⟨N, hN⟩ : ∃ N, N = val (zs.take (k + 1)) % 18446744073709551616 := ⟨_, rfl⟩
      have hjoin : bits .or .u64 (val (zs.take k) % 18446744073709551616) (IntKind.u64.wrap (c % 128 * 2 ^ (7 * k))) = N := by
        rw [hN, hc]; exact join_groups zs k (by omega) (by omega)
      have HC : Hid (c = zs.getD k 0) := hc
      have HN : Hid (N = val (zs.take (k + 1)) % 18446744073709551616) := hN
      clear hc hN
      by_cases hc128 : c < 128
      · have hl : lead zs = k := lead_stop zs k hkl (by omega) (by rw [← HC.out]; exact hc128)
        have hN64 : Word N := by rw [HN.out]; exact ⟨by omega, by omega⟩
        have hw := asPut_any N hN64 (some ⟨b, o, none⟩) (k + 1) cap (zs.take (k + 1)) (by simp; omega) (fun c hc => hb c (List.mem_of_mem_take hc)) w (hr.upto (k + 1))
        have hres : (if put N = zs.take (k + 1) then (N, ((k + 1 : Nat) : Int), 0) else (0, 0, 21)) = lget zs := by
          unfold lget
          rw [hl, if_pos (show k < zs.length ∧ k < 10 from ⟨by omega, by omega⟩)]
          unfold gotOf
          rw [← HN.out, List.length_take, Nat.min_eq_left (by omega)]
        rw [hres, ← HX.out] at hw
        clear hres hl hkl hlead
        unfold three at hw
        go_wp2_with (go_at_call 53; refine hw.mono ?_; rintro e w1 ⟨rfl, hb1⟩)
        go_ret3
        exact ⟨rfl, hb1⟩
      · have hl : k + 1 ≤ lead zs := lead_step zs k hkl (by omega) (by rw [← HC.out]; omega)
        go_wp2_with fail
        go_round
        case rel => exact ⟨k + 1, by omega, hl, by go_num, by rw [HN.out]⟩
        case measure => simp [intOf]; omega
    · have hres : lget zs = (0, 0, 21) := by
        unfold lget
        rw [if_neg]
        have := HL.out
        omega
      go_wp2_with fail
      go_ret3
      exact ⟨by rw [HX.out, hres]; rfl, Below.refl _ _⟩

/-- A slice of no bytes. -/
theorem get_none (p : Option Addr) (cap : Nat) (w : World) :
    Calls Try.prog 39 #[.slice p 0 cap] w fun e w' => e = .returned (three (0, 0, 21)) ∧ Below w.heap.size w w' := by
  obtain ⟨q, hcut⟩ : ∃ q, (Instr.slice 22 (.slice p 0 cap) none (some (.int .i64 0)) none).run Try.prog w = .ok (.slice q 0 cap) w := by
    have ht : Try.prog.underlying 22 = some (.slice (Try.prog.elem 22)) := by simp [Program.elem, Try.underlying22]
    have he : Try.prog.elem 22 = 5 := by simp [Program.elem, Try.underlying22]
    rw [run_slice_h w 22 _ 0 cap ht .i64 0 (by omega) (by omega), he, Try.sizeOf5]
    exact ⟨_, rfl⟩
  unfold three
  go_enter Try.func39, Try.ntmps39
  go_wp2_with fail
  refine wp_loop_rounds 1 ?_
  rw [rounds_succ]
  go_wp2_with fail
  go_ret3
  exact ⟨rfl, Below.refl _ _⟩

/-- leb.Get. -/
theorem get_any (p : Option Addr) (m cap : Nat) (zs : List Int) (hm : zs.length = m) (hb : ∀ c ∈ zs, Byte c) (w : World) (hr : Reads .u8 w p cap zs) :
    Calls Try.prog 39 #[.slice p m cap] w fun e w' => e = .returned (three (lget zs)) ∧ Below w.heap.size w w' := by
  by_cases hpos : 0 < m
  · obtain ⟨b, o, rfl, _, _⟩ := hr.2.2.2 (by omega)
    exact get_some b o m cap zs hm hb w hr hpos
  · obtain rfl : m = 0 := by omega
    obtain rfl : zs = [] := List.eq_nil_of_length_eq_zero hm
    rw [lget_nil]
    exact get_none p cap w
end Go.Proofs.Ytfgndecnakfhnaa.Leb
