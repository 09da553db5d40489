/-
  The sums of three texts of one length, bit by bit without carry: every input gives true.
-/
import Derived.Test.YtfpgcebphfpkiaaCrcAlive
import Derived.Laws.OwnMore
import Derived.Deep.RegionHeld3
import Derived.Deep.CutRange
import Derived.Test.YtfpgcebphfpkiaaInv
namespace Go.Proofs.Ytfpgcebphfpkiaa.Crc
open Go.RowKit Go.Proofs.Ytfpgcebphfpkiaa.Mem

/-- Three bytes, bit by bit without carry. -/
def x3 (xs ys zs : List Int) (i : Nat) : Int := (((xs.getD i 0).toNat ^^^ (ys.getD i 0).toNat) ^^^ (zs.getD i 0).toNat : Nat)
def X3 (xs ys zs : List Int) (n k : Nat) : List Int := (List.range n).map fun i => if i < k then x3 xs ys zs i else 0
theorem X3_length (xs ys zs : List Int) (n k : Nat) : (X3 xs ys zs n k).length = n := by simp [X3]
theorem X3_zero (xs ys zs : List Int) (n : Nat) : X3 xs ys zs n 0 = List.replicate n 0 := by
  apply List.ext_getElem
  · simp [X3]
  · intro i h1 h2
    simp [X3]
theorem X3_next (xs ys zs : List Int) (n k : Nat) : (X3 xs ys zs n k).set k (x3 xs ys zs k) = X3 xs ys zs n (k + 1) := by
  apply List.ext_getElem
  · simp [X3]
  · intro i h1 h2
    simp only [X3, List.getElem_set, List.getElem_map, List.getElem_range]
    by_cases h : k = i
    · subst h; simp
    · rw [if_neg h]
      by_cases h3 : i < k
      · rw [if_pos h3, if_pos (by omega)]
      · rw [if_neg h3, if_neg (by omega)]
theorem x3_byte {xs ys zs : List Int} (hx : ∀ c ∈ xs, Byte c) (hy : ∀ c ∈ ys, Byte c) (hz : ∀ c ∈ zs, Byte c) (i : Nat) : Byte (x3 xs ys zs i) := by
  have a := getD_byte hx i
  have b := getD_byte hy i
  have c := getD_byte hz i
  have h1 : (xs.getD i 0).toNat < 2 ^ 8 := by have := a.2; omega
  have h2 : (ys.getD i 0).toNat < 2 ^ 8 := by have := b.2; omega
  have h3 : (zs.getD i 0).toNat < 2 ^ 8 := by have := c.2; omega
  have := Nat.xor_lt_two_pow (Nat.xor_lt_two_pow h1 h2) h3
  unfold x3
  exact ⟨by omega, by omega⟩
theorem x3_bits {xs ys zs : List Int} (hx : ∀ c ∈ xs, Byte c) (hy : ∀ c ∈ ys, Byte c) (hz : ∀ c ∈ zs, Byte c) (i : Nat) : bits .xor .u8 (bits .xor .u8 (xs.getD i 0) (ys.getD i 0)) (zs.getD i 0) = x3 xs ys zs i := by
  obtain ⟨a0, a1⟩ := getD_byte hx i
  obtain ⟨b0, b1⟩ := getD_byte hy i
  obtain ⟨c0, c1⟩ := getD_byte hz i
  have h1 : (xs.getD i 0).toNat < 2 ^ 8 := by omega
  have h2 : (ys.getD i 0).toNat < 2 ^ 8 := by omega
  have := Nat.xor_lt_two_pow h1 h2
  rw [u8_xor _ _ a0 a1 b0 b1, u8_xor _ _ (by omega) (by omega) c0 c1, Int.toNat_natCast]
  rfl
theorem X3_sum {xs ys zs : List Int} (hx : ∀ c ∈ xs, Byte c) (hy : ∀ c ∈ ys, Byte c) (hz : ∀ c ∈ zs, Byte c) (n : Nat) (l1 : n ≤ xs.length) (l2 : n ≤ ys.length) (l3 : n ≤ zs.length) :
    (∀ c ∈ X3 xs ys zs n n, Byte c) ∧ sum (X3 xs ys zs n n) = (sum (xs.take n) ^^^ sum (ys.take n)) ^^^ sum (zs.take n) := by
  have hb : ∀ c ∈ X3 xs ys zs n n, Byte c := by
    intro c hc
    simp only [X3, List.mem_map, List.mem_range] at hc
    obtain ⟨i, hi, rfl⟩ := hc
    rw [if_pos hi]
    exact x3_byte hx hy hz i
  refine ⟨hb, crcs_three hb (fun c hc => hx c (List.mem_of_mem_take hc)) (fun c hc => hy c (List.mem_of_mem_take hc)) (fun c hc => hz c (List.mem_of_mem_take hc)) (by simp [X3]; omega) (by simp [X3]; omega) (by simp [X3]; omega) (fun i hi => ?_)⟩
  rw [X3_length] at hi
  have e : (X3 xs ys zs n n).getD (i / 8) 0 = x3 xs ys zs (i / 8) := by
    simp [X3, List.getD_eq_getElem?_getD, show i / 8 < n by omega]
  have t : ∀ vs : List Int, (vs.take n).getD (i / 8) 0 = vs.getD (i / 8) 0 := fun vs => by
    simp [List.getD_eq_getElem?_getD, show i / 8 < n by omega]
  unfold bit
  rw [e, t, t, t]
  unfold x3
  rw [Int.toNat_natCast, Nat.testBit_xor, Nat.testBit_xor]
theorem crc_Of_at (p : Option Addr) (n c : Nat) (xs : List Int) (l : xs.length = n) (hx : ∀ c ∈ xs, Byte c) (w : World) (r : Reads .u8 w p c xs) (g : Nat) (hg : w.cell? ⟨g, 0, none⟩ = some (.slice p n c)) :
    Calls Try.prog 8 #[.slice (some ⟨g, 0, none⟩) 1 1] w fun e w' => e = .returned (.int .u32 (enc (sum xs))) ∧ w' = w := by
  subst l
  have h := crc_Of (some ⟨g, 0, none⟩) 1 1 [(p, c, xs)] rfl (by omega) w
    (fun _ => ⟨_, _, rfl, fun k x hk => by
      match k, hk with
      | 0, hk => simp at hk; subst hk; simpa [partV] using hg⟩)
    (fun x hm => by simp at hm; subst hm; exact ⟨r, hx⟩)
  simpa [cat] using h
/-- A slice up to some element, wherever it lies. -/
theorem run_upto_any (w : World) (p : Option Addr) (n cap l : Nat) (hl : l ≤ cap) :
    (Instr.slice 22 (.slice p n cap) none (some (.int .i64 (l : Int))) none).run Try.prog w = .ok (.slice p l cap) w := by
  have ht : Try.prog.underlying 22 = some (.slice (Try.prog.elem 22)) := by simp [Program.elem, Try.underlying22]
  have he : Try.prog.elem 22 = 5 := by simp [Program.elem, Try.underlying22]
  rw [run_slice_h w 22 p n cap ht .i64 (l : Int) (by omega) (by omega), he, Try.sizeOf5]
  cases p with
  | none => simp [Result.andThen, sliced]
  | some a => simp [Result.andThen, sliced, Addr.add]
theorem cell_new {w : World} {v : Value} {t g : Nat} (h : w.heap.size = g) : (w.alloc (.cells #[v] t)).cell? ⟨g, 0, none⟩ = some v := by
  subst h
  simp
theorem cell_old {w : World} {o : Obj} {v : Value} {g : Nat} (h : g < w.heap.size) (hc : w.cell? ⟨g, 0, none⟩ = some v) : (w.alloc o).cell? ⟨g, 0, none⟩ = some v :=
  ((bnew w o).cell (p := ⟨g, 0, none⟩) h).trans hc
theorem cell_drew {w : World} {v : Value} {a : Addr} (hc : w.cell? a = some v) : w.drew.cell? a = some v := hc
theorem cell_keep {w : World} {o : Obj} {v : Value} {g : Nat} (hc : w.cell? ⟨g, 0, none⟩ = some v) : (w.alloc o).cell? ⟨g, 0, none⟩ = some v :=
  cell_old (World.block_lt_of_cell? w _ hc) hc
/-- What is read all along the last statement. -/
def Lin (w : World) (g k : Nat) (X : List Int) (p1 : Option Addr) (c1 : Nat) (xs : List Int) (p2 : Option Addr) (c2 : Nat) (ys : List Int) (p3 : Option Addr) (c3 : Nat) (zs : List Int) (w' : World) : Prop :=
  Reads .u8 w' (some ⟨g, 0, none⟩) k X ∧ Reads .u8 w' p1 c1 xs ∧ Reads .u8 w' p2 c2 ys ∧ Reads .u8 w' p3 c3 zs ∧ Below w.heap.size w w'
set_option maxHeartbeats 8000000 in
theorem linear_any (p1 p2 p3 : Option Addr) (n1 n2 n3 c1 c2 c3 : Nat) (xs ys zs : List Int) (l1 : xs.length = n1) (l2 : ys.length = n2) (l3 : zs.length = n3)
    (hx : ∀ c ∈ xs, Byte c) (hy : ∀ c ∈ ys, Byte c) (hz : ∀ c ∈ zs, Byte c) (w : World) (r1 : Reads .u8 w p1 c1 xs) (r2 : Reads .u8 w p2 c2 ys) (r3 : Reads .u8 w p3 c3 zs) :
    Calls Try.prog 5 #[.slice p1 n1 c1, .slice p2 n2 c2, .slice p3 n3 c3] w fun e w' => e = .returned (.bool true) ∧ Below w.heap.size w w' := by
  have hal := alive_any w
  by_cases h1 : n1 > 500
  · go_enter Try.func5, Try.ntmps5
    go_wp2_with (go_at_call 6; refine hal.mono ?_; rintro e w1 ⟨rfl, hb1⟩)
    go_ret
    exact ⟨rfl, hb1⟩
  by_cases h2 : n2 > 500
  · go_enter Try.func5, Try.ntmps5
    go_wp2_with (go_at_call 6; refine hal.mono ?_; rintro e w1 ⟨rfl, hb1⟩)
    go_ret
    exact ⟨rfl, hb1⟩
  by_cases h3 : n3 > 500
  · go_enter Try.func5, Try.ntmps5
    go_wp2_with (go_at_call 6; refine hal.mono ?_; rintro e w1 ⟨rfl, hb1⟩)
    go_ret
    exact ⟨rfl, hb1⟩
  obtain ⟨i0, hi, hz0, hz1, hz2⟩ := info_parts info_byte
  go_enter Try.func5, Try.ntmps5
  go_upto_region 5 with (go_at_call 6; refine hal.mono ?_; rintro e w1 ⟨rfl, hb1⟩)
  go_cut [7] from 25 to 31 (fun v wc => ∃ n : Nat, v = .int .i64 n ∧ n ≤ n1 ∧ n ≤ n2 ∧ n ≤ n3 ∧ wc = w1)
  case first =>
    go_wp2_with fail
    all_goals
      go_meet
      case rel => exact ⟨_, rfl, by omega, by omega, by omega, rfl⟩
  case rest =>
    obtain ⟨n, rfl, m1, m2, m3, rfl⟩ := hcut
    obtain ⟨w2, hmk, hown, hgr⟩ := run_make_full (P := Try.prog) wc wc.heap.size 22 5 i0 (.int .u8 0) 1 Try.underlying22 hi hz0 hz1 .i64 .i64 n (by rw [hz2]; omega) (by unfold maxLen; omega) (Nat.le_refl _)
    have hzr : (madeCells (Value.int .u8 0).cells (n * 1)).toList = (X3 xs ys zs n 0).map (Value.int .u8) := by
      rw [X3_zero, Nat.mul_one, List.map_replicate]
      exact toList_madeCells_one (.int .u8 0) n
    rw [hzr] at hown
    have hb2 : Below wc.heap.size wc w2 := (Below.refl _ wc).grown hgr (Nat.le_refl _) (by intro k hk; simp at hk)
    obtain ⟨g, hg⟩ : ∃ g, g = wc.heap.size := ⟨_, rfl⟩
    rw [← hg] at hown hmk
    have HGE : Hid (g = wc.heap.size) := hg
    clear hgr hzr hg
    go_wp2_with fail
    go_loopw [36] (fun i wr => ∃ k : Nat, k ≤ n ∧ i = .int .i64 k ∧ wr.ownsRow g 5 1 (.slice (some ⟨g, 0, none⟩) n n) n ((X3 xs ys zs n k).map (Value.int .u8)) ∧ Below wc.heap.size wc wr) (fun i _ => n - (intOf i).toNat)
    case atStart => exact ⟨0, by omega, rfl, hown, hb2⟩
    case round =>
      obtain ⟨k, hk, rfl, hok, hbk⟩ := hrel
      by_cases hlt : k < n
      · obtain ⟨b1, o1, rfl, _, hc1⟩ := ((r1.below hb1).below hbk).2.2.2 (by omega)
        obtain ⟨b2, o2, rfl, _, hc2⟩ := ((r2.below hb1).below hbk).2.2.2 (by omega)
        obtain ⟨b3, o3, rfl, _, hc3⟩ := ((r3.below hb1).below hbk).2.2.2 (by omega)
        have k1 := hc1 k (by omega)
        have k2 := hc2 k (by omega)
        have k3 := hc3 k (by omega)
        have hxb := x3_bits hx hy hz k
        have q1 := getD_byte hx k
        have q2 := getD_byte hy k
        have q3 := getD_byte hz k
        obtain ⟨x, hxx⟩ : ∃ x, x = xs.getD k 0 := ⟨_, rfl⟩
        obtain ⟨y, hyy⟩ : ∃ y, y = ys.getD k 0 := ⟨_, rfl⟩
        obtain ⟨z, hzz⟩ : ∃ z, z = zs.getD k 0 := ⟨_, rfl⟩
        obtain ⟨t, ht⟩ : ∃ t, t = x3 xs ys zs k := ⟨_, rfl⟩
        have hfr := hok.frozenAt k
        have hcg : wr.cell? ⟨g, k, none⟩ = some (.int .u8 ((X3 xs ys zs n k).getD k 0)) := by
          have := hok.cellAt k (by omega)
          rw [this]
          simp [X3_length, hlt]
        obtain ⟨old, hold⟩ : ∃ old, old = (X3 xs ys zs n k).getD k 0 := ⟨_, rfl⟩
        have hst := (hok.stored k (.int .u8 (x3 xs ys zs k))).1
        rw [← List.map_set, X3_next] at hst
        rw [← hxx] at k1 q1 hxb
        rw [← hyy] at k2 q2 hxb
        rw [← hzz] at k3 q3 hxb
        rw [← ht] at hxb hst
        rw [← hold] at hcg
        obtain ⟨q1, q1'⟩ := q1
        obtain ⟨q2, q2'⟩ := q2
        obtain ⟨q3, q3'⟩ := q3
        have hbs : Below wc.heap.size wc (wr.setCell ⟨g, k, none⟩ (.int .u8 t)).drew := (hbk.setCell (by rw [← HGE.out]; exact Nat.le_refl _) _).drew
        have hst' := own_below hst ((Below.refl _ _).drew)
        clear hxx hyy hzz ht hc1 hc2 hc3 hok hold hst
        go_wp2_with fail
        go_region
        go_wp2_with fail
        go_roundw
        case rel => exact ⟨k + 1, by omega, by go_num, hst', hbs⟩
        case measure => simp [intOf]; omega
      · obtain rfl : k = n := by omega
        obtain ⟨hXb, hXs⟩ := X3_sum hx hy hz k (by omega) (by omega) (by omega)
        have hXl := X3_length xs ys zs k k
        obtain ⟨hkk, q', d', hv', hrd⟩ := own_reads hok
        clear hkk
        rw [hXl] at hv'
        simp only [Value.slice.injEq] at hv'
        obtain ⟨rfl, _, rfl⟩ := hv'
        have R1 := ((r1.below hb1).below hbk).upto k
        have R2 := ((r2.below hb1).below hbk).upto k
        have R3 := ((r3.below hb1).below hbk).upto k
        have u1 := fun w => run_upto_any w p1 n1 c1 k (by have := r1.1; omega)
        have u2 := fun w => run_upto_any w p2 n2 c2 k (by have := r2.1; omega)
        have u3 := fun w => run_upto_any w p3 n3 c3 k (by have := r3.1; omega)
        have t1 : (xs.take k).length = k := by simp; omega
        have t2 : (ys.take k).length = k := by simp; omega
        have t3 : (zs.take k).length = k := by simp; omega
        have v1 : ∀ c ∈ xs.take k, Byte c := fun c hc => hx c (List.mem_of_mem_take hc)
        have v2 : ∀ c ∈ ys.take k, Byte c := fun c hc => hy c (List.mem_of_mem_take hc)
        have v3 : ∀ c ∈ zs.take k, Byte c := fun c hc => hz c (List.mem_of_mem_take hc)
        obtain ⟨S, hS⟩ : ∃ S, S = Lin w g k (X3 xs ys zs k k) p1 c1 (xs.take k) p2 c2 (ys.take k) p3 c3 (zs.take k) := ⟨_, rfl⟩
        have S0 : S wr := by rw [hS]; exact ⟨hrd, R1, R2, R3, bnext hb1 hbk⟩
        have Sn : ∀ w1 w2, S w1 → Below w1.heap.size w1 w2 → S w2 := fun w1 w2 h hb => by
          rw [hS] at h ⊢
          exact ⟨h.1.below hb, h.2.1.below hb, h.2.2.1.below hb, h.2.2.2.1.below hb, bnext h.2.2.2.2 hb⟩
        have Sa : ∀ w1 o, S w1 → S (w1.alloc o) := fun w1 o h => Sn _ _ h (bnew _ _)
        have Sd : ∀ w1, S w1 → S w1.drew := fun w1 h => Sn _ _ h (Below.refl _ _).drew
        have Sb : ∀ w1, S w1 → Below w.heap.size w w1 := fun w1 h => by rw [hS] at h; exact h.2.2.2.2
        have O0 := fun w' g' (h : S w') (hg' : w'.cell? ⟨g', 0, none⟩ = some (.slice (some ⟨g, 0, none⟩) k k)) => crc_Of_at _ k k (X3 xs ys zs k k) hXl hXb w' (by rw [hS] at h; exact h.1) g' hg'
        have O1 := fun w' g' (h : S w') (hg' : w'.cell? ⟨g', 0, none⟩ = some (.slice p1 k c1)) => crc_Of_at _ k c1 (xs.take k) t1 v1 w' (by rw [hS] at h; exact h.2.1) g' hg'
        have O2 := fun w' g' (h : S w') (hg' : w'.cell? ⟨g', 0, none⟩ = some (.slice p2 k c2)) => crc_Of_at _ k c2 (ys.take k) t2 v2 w' (by rw [hS] at h; exact h.2.2.1) g' hg'
        have O3 := fun w' g' (h : S w') (hg' : w'.cell? ⟨g', 0, none⟩ = some (.slice p3 k c3)) => crc_Of_at _ k c3 (zs.take k) t3 v3 w' (by rw [hS] at h; exact h.2.2.2.1) g' hg'
        have hxx : bits .xor .u32 (bits .xor .u32 (enc (sum (xs.take k))) (enc (sum (ys.take k)))) (enc (sum (zs.take k))) = enc (sum (X3 xs ys zs k k)) := by rw [enc_xor, enc_xor, hXs]
        generalize enc (sum (X3 xs ys zs k k)) = s0 at O0 hxx
        generalize enc (sum (xs.take k)) = s1 at O1 hxx
        generalize enc (sum (ys.take k)) = s2 at O2 hxx
        generalize enc (sum (zs.take k)) = s3 at O3 hxx
        have S1 := Sd _ S0
        have hwk : IntKind.i64.wrap (k : Int) = (k : Int) := by rw [IntKind.wrap_i64]; omega
        clear hok hown hmk hS hrd R1 R2 R3 t1 t2 t3 v1 v2 v3 hXb hXs hXl r1 r2 r3 hx hy hz hal
        go_wp2_with fail
        refine Inv.region_inv (fun L a w' => S w' ∧ ∃ G0 G1 G2 G3 : Nat, a = { tmps := #[.slice p1 n1 c1, .slice p2 n2 c2, .slice p3 n3 c3, undef, undef, undef, (if L 21 = true then .bool true else .bool false), .int .i64 (k : Int), .slice (some ⟨g, 0, none⟩) k k, u9, .bool true, .bool false, .slice p1 n1 c1, .int .i64 (n1 : Int), .bool (decide ((500 : Int) < (n1 : Int))), .bool (decide ((500 : Int) < (n1 : Int))), .slice p2 n2 c2, .int .i64 (n2 : Int), .bool (decide ((500 : Int) < (n2 : Int))), .bool (decide ((500 : Int) < (n1 : Int)) || decide ((500 : Int) < (n2 : Int))), .bool (decide ((500 : Int) < (n1 : Int)) || decide ((500 : Int) < (n2 : Int))), .slice p3 n3 c3, .int .i64 (n3 : Int), .bool (decide ((500 : Int) < (n3 : Int))), .bool (decide ((500 : Int) < (n1 : Int)) || decide ((500 : Int) < (n2 : Int)) || decide ((500 : Int) < (n3 : Int))), u25, u26, u27, u28, u29, u30, u31, .int .i64 (k : Int), .slice (some ⟨g, 0, none⟩) k k, .slice (some ⟨g, 0, none⟩) k k, .int .i64 (k : Int), .int .i64 (k : Int), .bool false, u38, u39, u40, u41, u42, u43, u44, u45, u46, u47, u48, u49, u50, u51, u52, u53, u54, u55, u56, (if L 0 = true then .slice (some ⟨g, 0, none⟩) k k else undef), (if L 1 = true then .slice (some ⟨G0, 0, none⟩) 1 1 else undef), (if L 2 = true then .int .u32 s0 else undef), (if L 3 = true then .slice p1 n1 c1 else undef), (if L 4 = true then .int .i64 (k : Int) else undef), (if L 5 = true then .slice p1 k c1 else undef), (if L 6 = true then .slice (some ⟨G1, 0, none⟩) 1 1 else undef), (if L 7 = true then .int .u32 s1 else undef), (if L 8 = true then .slice p2 n2 c2 else undef), (if L 9 = true then .int .i64 (k : Int) else undef), (if L 10 = true then .slice p2 k c2 else undef), (if L 11 = true then .slice (some ⟨G2, 0, none⟩) 1 1 else undef), (if L 12 = true then .int .u32 s2 else undef), (if L 13 = true then .int .u32 (bits .xor .u32 s1 s2) else undef), (if L 14 = true then .slice p3 n3 c3 else undef), (if L 15 = true then .int .i64 (k : Int) else undef), (if L 16 = true then .slice p3 k c3 else undef), (if L 17 = true then .slice (some ⟨G3, 0, none⟩) 1 1 else undef), (if L 18 = true then .int .u32 s3 else undef), (if L 19 = true then .int .u32 s0 else undef), (if L 20 = true then .bool true else undef)], defers := [] } ∧ (L 1 = true → w'.cell? ⟨G0, 0, none⟩ = some (.slice (some ⟨g, 0, none⟩) k k)) ∧ (L 6 = true → w'.cell? ⟨G1, 0, none⟩ = some (.slice p1 k c1)) ∧ (L 11 = true → w'.cell? ⟨G2, 0, none⟩ = some (.slice p2 k c2)) ∧ (L 17 = true → w'.cell? ⟨G3, 0, none⟩ = some (.slice p3 k c3))) (by kernel_rfl) (by kernel_rfl) ?h0 ?step ?done
        case h0 => exact ⟨S1, 0, 0, 0, 0, by simp, by simp, by simp, by simp, by simp⟩
        case step =>
          refine Inv.Steps.cons rfl ?_ ?_
          · intro L a w' hI hL hd K hK
            obtain ⟨hSw, G0, G1, G2, G3, rfl, f0, f1, f2, f3⟩ := hI
            clear hd
            rw [if_pos (by rfl)]
            go_simp
            exact hK.out _ _ ⟨hSw, G0, G1, G2, G3, by simp, by simpa using f0, by simpa using f1, by simpa using f2, by simpa using f3⟩
          refine Inv.Steps.cons rfl ?_ ?_
          · intro L a w' hI hL hd K hK
            obtain ⟨hSw, G0, G1, G2, G3, rfl, f0, f1, f2, f3⟩ := hI
            simp [Region.binds] at hd
            rw [if_pos (by rfl)]
            simp only [hd, if_true]
            go_simp
            exact hK.out _ _ ⟨Sa _ _ hSw, w'.heap.size, G1, G2, G3, by simp [hd], fun _ => cell_new rfl, fun h => cell_keep (f1 (by simpa using h)), fun h => cell_keep (f2 (by simpa using h)), fun h => cell_keep (f3 (by simpa using h))⟩
          refine Inv.Steps.cons rfl ?_ ?_
          · intro L a w' hI hL hd K hK
            obtain ⟨hSw, G0, G1, G2, G3, rfl, f0, f1, f2, f3⟩ := hI
            simp [Region.binds] at hd
            rw [if_pos (by rfl)]
            simp only [hd, if_true]
            have hcc := f0 hd
            go_simp
            refine (O0 _ _ hSw hcc).mono ?_
            rintro e w6 ⟨rfl, rfl⟩
            exact hK.out _ _ ⟨hSw, G0, G1, G2, G3, by simp [hd], by simpa using f0, by simpa using f1, by simpa using f2, by simpa using f3⟩
          refine Inv.Steps.cons rfl ?_ ?_
          · intro L a w' hI hL hd K hK
            obtain ⟨hSw, G0, G1, G2, G3, rfl, f0, f1, f2, f3⟩ := hI
            clear hd
            rw [if_pos (by rfl)]
            go_simp
            exact hK.out _ _ ⟨hSw, G0, G1, G2, G3, by simp, by simpa using f0, by simpa using f1, by simpa using f2, by simpa using f3⟩
          refine Inv.Steps.cons rfl ?_ ?_
          · intro L a w' hI hL hd K hK
            obtain ⟨hSw, G0, G1, G2, G3, rfl, f0, f1, f2, f3⟩ := hI
            clear hd
            rw [if_pos (by rfl)]
            go_simp
            exact hK.out _ _ ⟨hSw, G0, G1, G2, G3, by simp, by simpa using f0, by simpa using f1, by simpa using f2, by simpa using f3⟩
          refine Inv.Steps.cons rfl ?_ ?_
          · intro L a w' hI hL hd K hK
            obtain ⟨hSw, G0, G1, G2, G3, rfl, f0, f1, f2, f3⟩ := hI
            simp [Region.binds] at hd
            rw [if_pos (by rfl)]
            simp only [hd, if_true]
            go_simp
            exact hK.out _ _ ⟨hSw, G0, G1, G2, G3, by simp [hd], by simpa using f0, by simpa using f1, by simpa using f2, by simpa using f3⟩
          refine Inv.Steps.cons rfl ?_ ?_
          · intro L a w' hI hL hd K hK
            obtain ⟨hSw, G0, G1, G2, G3, rfl, f0, f1, f2, f3⟩ := hI
            simp [Region.binds] at hd
            rw [if_pos (by rfl)]
            simp only [hd, if_true]
            go_simp
            exact hK.out _ _ ⟨Sa _ _ hSw, G0, w'.heap.size, G2, G3, by simp [hd], fun h => cell_keep (f0 (by simpa using h)), fun _ => cell_new rfl, fun h => cell_keep (f2 (by simpa using h)), fun h => cell_keep (f3 (by simpa using h))⟩
          refine Inv.Steps.cons rfl ?_ ?_
          · intro L a w' hI hL hd K hK
            obtain ⟨hSw, G0, G1, G2, G3, rfl, f0, f1, f2, f3⟩ := hI
            simp [Region.binds] at hd
            rw [if_pos (by rfl)]
            simp only [hd, if_true]
            have hcc := f1 hd.1
            go_simp
            refine (O1 _ _ hSw hcc).mono ?_
            rintro e w6 ⟨rfl, rfl⟩
            exact hK.out _ _ ⟨hSw, G0, G1, G2, G3, by simp [hd], by simpa using f0, by simpa using f1, by simpa using f2, by simpa using f3⟩
          refine Inv.Steps.cons rfl ?_ ?_
          · intro L a w' hI hL hd K hK
            obtain ⟨hSw, G0, G1, G2, G3, rfl, f0, f1, f2, f3⟩ := hI
            clear hd
            rw [if_pos (by rfl)]
            go_simp
            exact hK.out _ _ ⟨hSw, G0, G1, G2, G3, by simp, by simpa using f0, by simpa using f1, by simpa using f2, by simpa using f3⟩
          refine Inv.Steps.cons rfl ?_ ?_
          · intro L a w' hI hL hd K hK
            obtain ⟨hSw, G0, G1, G2, G3, rfl, f0, f1, f2, f3⟩ := hI
            clear hd
            rw [if_pos (by rfl)]
            go_simp
            exact hK.out _ _ ⟨hSw, G0, G1, G2, G3, by simp, by simpa using f0, by simpa using f1, by simpa using f2, by simpa using f3⟩
          refine Inv.Steps.cons rfl ?_ ?_
          · intro L a w' hI hL hd K hK
            obtain ⟨hSw, G0, G1, G2, G3, rfl, f0, f1, f2, f3⟩ := hI
            simp [Region.binds] at hd
            rw [if_pos (by rfl)]
            simp only [hd, if_true]
            go_simp
            exact hK.out _ _ ⟨hSw, G0, G1, G2, G3, by simp [hd], by simpa using f0, by simpa using f1, by simpa using f2, by simpa using f3⟩
          refine Inv.Steps.cons rfl ?_ ?_
          · intro L a w' hI hL hd K hK
            obtain ⟨hSw, G0, G1, G2, G3, rfl, f0, f1, f2, f3⟩ := hI
            simp [Region.binds] at hd
            rw [if_pos (by rfl)]
            simp only [hd, if_true]
            go_simp
            exact hK.out _ _ ⟨Sa _ _ hSw, G0, G1, w'.heap.size, G3, by simp [hd], fun h => cell_keep (f0 (by simpa using h)), fun h => cell_keep (f1 (by simpa using h)), fun _ => cell_new rfl, fun h => cell_keep (f3 (by simpa using h))⟩
          refine Inv.Steps.cons rfl ?_ ?_
          · intro L a w' hI hL hd K hK
            obtain ⟨hSw, G0, G1, G2, G3, rfl, f0, f1, f2, f3⟩ := hI
            simp [Region.binds] at hd
            rw [if_pos (by rfl)]
            simp only [hd, if_true]
            have hcc := f2 hd.1
            go_simp
            refine (O2 _ _ hSw hcc).mono ?_
            rintro e w6 ⟨rfl, rfl⟩
            exact hK.out _ _ ⟨hSw, G0, G1, G2, G3, by simp [hd], by simpa using f0, by simpa using f1, by simpa using f2, by simpa using f3⟩
          refine Inv.Steps.cons rfl ?_ ?_
          · intro L a w' hI hL hd K hK
            obtain ⟨hSw, G0, G1, G2, G3, rfl, f0, f1, f2, f3⟩ := hI
            simp [Region.binds] at hd
            rw [if_pos (by rfl)]
            simp only [hd, if_true]
            go_simp
            exact hK.out _ _ ⟨hSw, G0, G1, G2, G3, by simp [hd], by simpa using f0, by simpa using f1, by simpa using f2, by simpa using f3⟩
          refine Inv.Steps.cons rfl ?_ ?_
          · intro L a w' hI hL hd K hK
            obtain ⟨hSw, G0, G1, G2, G3, rfl, f0, f1, f2, f3⟩ := hI
            clear hd
            rw [if_pos (by rfl)]
            go_simp
            exact hK.out _ _ ⟨hSw, G0, G1, G2, G3, by simp, by simpa using f0, by simpa using f1, by simpa using f2, by simpa using f3⟩
          refine Inv.Steps.cons rfl ?_ ?_
          · intro L a w' hI hL hd K hK
            obtain ⟨hSw, G0, G1, G2, G3, rfl, f0, f1, f2, f3⟩ := hI
            clear hd
            rw [if_pos (by rfl)]
            go_simp
            exact hK.out _ _ ⟨hSw, G0, G1, G2, G3, by simp, by simpa using f0, by simpa using f1, by simpa using f2, by simpa using f3⟩
          refine Inv.Steps.cons rfl ?_ ?_
          · intro L a w' hI hL hd K hK
            obtain ⟨hSw, G0, G1, G2, G3, rfl, f0, f1, f2, f3⟩ := hI
            simp [Region.binds] at hd
            rw [if_pos (by rfl)]
            simp only [hd, if_true]
            go_simp
            exact hK.out _ _ ⟨hSw, G0, G1, G2, G3, by simp [hd], by simpa using f0, by simpa using f1, by simpa using f2, by simpa using f3⟩
          refine Inv.Steps.cons rfl ?_ ?_
          · intro L a w' hI hL hd K hK
            obtain ⟨hSw, G0, G1, G2, G3, rfl, f0, f1, f2, f3⟩ := hI
            simp [Region.binds] at hd
            rw [if_pos (by rfl)]
            simp only [hd, if_true]
            go_simp
            exact hK.out _ _ ⟨Sa _ _ hSw, G0, G1, G2, w'.heap.size, by simp [hd], fun h => cell_keep (f0 (by simpa using h)), fun h => cell_keep (f1 (by simpa using h)), fun h => cell_keep (f2 (by simpa using h)), fun _ => cell_new rfl⟩
          refine Inv.Steps.cons rfl ?_ ?_
          · intro L a w' hI hL hd K hK
            obtain ⟨hSw, G0, G1, G2, G3, rfl, f0, f1, f2, f3⟩ := hI
            simp [Region.binds] at hd
            rw [if_pos (by rfl)]
            simp only [hd, if_true]
            have hcc := f3 hd.1
            go_simp
            refine (O3 _ _ hSw hcc).mono ?_
            rintro e w6 ⟨rfl, rfl⟩
            exact hK.out _ _ ⟨hSw, G0, G1, G2, G3, by simp [hd], by simpa using f0, by simpa using f1, by simpa using f2, by simpa using f3⟩
          refine Inv.Steps.cons rfl ?_ ?_
          · intro L a w' hI hL hd K hK
            obtain ⟨hSw, G0, G1, G2, G3, rfl, f0, f1, f2, f3⟩ := hI
            simp [Region.binds] at hd
            rw [if_pos (by rfl)]
            simp only [hd, if_true]
            go_simp
            exact hK.out _ _ ⟨hSw, G0, G1, G2, G3, by simp [hd], by simpa using f0, by simpa using f1, by simpa using f2, by simpa using f3⟩
          refine Inv.Steps.cons rfl ?_ ?_
          · intro L a w' hI hL hd K hK
            obtain ⟨hSw, G0, G1, G2, G3, rfl, f0, f1, f2, f3⟩ := hI
            simp [Region.binds] at hd
            rw [if_pos (by rfl)]
            simp only [hd, if_true]
            go_simp
            exact hK.out _ _ ⟨hSw, G0, G1, G2, G3, by simp [hd], by simpa using f0, by simpa using f1, by simpa using f2, by simpa using f3⟩
          refine Inv.Steps.cons rfl ?_ ?_
          · intro L a w' hI hL hd K hK
            obtain ⟨hSw, G0, G1, G2, G3, rfl, f0, f1, f2, f3⟩ := hI
            simp [Region.binds] at hd
            rw [if_pos (by rfl)]
            simp only [hd, if_true]
            go_simp
            exact hK.out _ _ ⟨hSw, G0, G1, G2, G3, by simp [hd], by simpa using f0, by simpa using f1, by simpa using f2, by simpa using f3⟩
          exact Inv.Steps.nil (by decide)
        case done =>
          intro L a w' hI hall
          obtain ⟨hSw, G0, G1, G2, G3, rfl, _, _, _, _⟩ := hI
          simp only [hall, if_true]
          go_wp2_with fail
          go_ret
          exact ⟨rfl, Sb _ hSw⟩
end Go.Proofs.Ytfpgcebphfpkiaa.Crc
