/-
  frame.Size, frame.plain, frame.Make.
-/
import Derived.Test.YthgafnommcodcaaFramePut
import Derived.Test.YthgafnommcodcaaCrcOf
import Derived.Test.YthgafnommcodcaaSect
import Derived.Deep.RegionLaw
import Derived.Deep.RegionWith
namespace Go.Proofs.Ythgafnommcodcaa.Frame
open Go.RowKit Go.Proofs.Ythgafnommcodcaa.Mem Go.Proofs.Ythgafnommcodcaa.Sect Go.Proofs.Ythgafnommcodcaa.Crc

theorem bs_one {zs : List Int} : ∀ v ∈ bs zs, v.oneCell' = true := ints_oneCell _ _
theorem info_one : (Try.prog.info? 5).map (·.size) = some 1 := by kernel_rfl
/-- How many sectors a payload of so many bytes needs, whatever the number. -/
def sizeI (x : Int) : Int := if 0 ≤ x then (size x.toNat : Nat) else 0
theorem sizeI_nat (m : Nat) : sizeI (m : Int) = (size m : Nat) := by simp [sizeI]
theorem ret_int {k : IntKind} {a b : Int} (h : a = b) : Ending.returned (.int k a) = .returned (.int k b) := by rw [h]
theorem frame_Size (x : Int) (w : World) :
    Calls Try.prog 41 #[.int .i64 x] w fun e w' => e = .returned (.int .i64 (sizeI x)) ∧ w' = w := by
  by_cases h0 : x < 0
  · have e : sizeI x = 0 := by simp [sizeI]; omega
    rw [e]
    go_enter Try.func41, Try.ntmps41
    go_wp2
    go_ret
    exact ⟨rfl, rfl⟩
  · have d0 : decide (x < 0) = false := decide_eq_false h0
    by_cases h7 : 700 < x
    · have e : sizeI x = 0 := by simp only [sizeI, size]; rw [if_pos (by omega), if_neg (by omega)]; rfl
      rw [e]
      go_enter Try.func41, Try.ntmps41
      go_wp2
      go_ret
      exact ⟨rfl, rfl⟩
    · have e : sizeI x = (x + 81) / 64 := by simp only [sizeI, size]; rw [if_pos (by omega), if_pos (by omega)]; omega
      rw [e]
      go_enter Try.func41, Try.ntmps41
      go_wp2
      go_ret
      exact ⟨ret_int (show (14 + x + 4 + 64 - 1) / 64 = _ by omega), rfl⟩
theorem run_mid (w : World) (b o n cap l h : Nat) (hl : l ≤ h) (hh : h ≤ cap) (hc : l < cap) :
    (Instr.slice 48 (.slice (some ⟨b, o, none⟩) n cap) (some (.int .i64 (l : Int))) (some (.int .i64 (h : Int))) none).run Try.prog w = .ok (.slice (some ⟨b, o + l, none⟩) (h - l) (cap - l)) w := by
  have ht : Try.prog.underlying 48 = some (.slice (Try.prog.elem 48)) := by simp [Program.elem, Try.underlying48]
  have he : Try.prog.elem 48 = 5 := by simp [Program.elem, Try.underlying48]
  rw [run_slice_lh w 48 _ n cap ht .i64 .i64 (l : Int) (h : Int) (by omega) (by omega) (by omega), he, Try.sizeOf5]
  simp [Result.andThen, sliced, Addr.add_lit, show cap ≠ l by omega]
theorem put_zeros (A X : List Int) (off m k : Nat) (hA : A.length = off) (_ : X.length = k) (_ : k ≤ m) : (A ++ List.replicate m 0).take off ++ X ++ (A ++ List.replicate m 0).drop (off + k) = (A ++ X) ++ List.replicate (m - k) 0 := by
  subst hA
  rw [List.take_left' rfl, ← List.drop_drop, List.drop_left' rfl, List.drop_replicate]
theorem zeros_bytes {A : List Int} (h : ∀ c ∈ A, Byte c) (m : Nat) : ∀ c ∈ A ++ List.replicate m 0, Byte c := by
  intro c hc
  rcases List.mem_append.1 hc with hc | hc
  · exact h c hc
  · obtain ⟨_, rfl⟩ := List.mem_replicate.1 hc
    constructor <;> omega
theorem app_bytes {A B : List Int} (h : ∀ c ∈ A, Byte c) (k : ∀ c ∈ B, Byte c) : ∀ c ∈ A ++ B, Byte c := by
  intro c hc
  rcases List.mem_append.1 hc with hc | hc
  · exact h c hc
  · exact k c hc
theorem splice_end (A ps : List Int) (n k : Nat) (hA : A.length = k) (hp : ps.length = n) : splice (bs (A ++ List.replicate n 0)) k (bs ps) = bs (A ++ ps) := by
  subst hA hp
  unfold splice bs
  rw [List.map_append, List.map_append, List.length_map, List.drop_append, List.drop_of_length_le (by simp), List.take_left' (by simp)]
  simp
set_option maxHeartbeats 2000000 in
set_option maxRecDepth 100000 in
theorem frame_plain (s e : Nat) (q : Option Addr) (n c : Nat) (p : List Int) (l : p.length = n) (hn : n ≤ 700) (hs : s < 18446744073709551616) (he : e < 4294967296) (w : World) (r : Reads .u8 w q c p) :
    Calls Try.prog 64 #[.agg #[.int .u64 (s : Int), .int .u32 (e : Int), .slice q n c]] w fun x w' => ∃ g, x = .returned (.slice (some ⟨g, 0, none⟩) (n + 14) (n + 14)) ∧ Reads .u8 w' (some ⟨g, 0, none⟩) (n + 14) (plain s e p) ∧ Below w.heap.size w w' := by
  obtain ⟨i0, hi, hz0, hz1, hz2⟩ := info_parts info_byte
  obtain ⟨N, hN⟩ : ∃ N : Nat, n + 14 = N := ⟨_, rfl⟩
  have hN1 : 14 + (n : Int) = (N : Int) := by omega
  rw [hN]
  have Y1 := Blk.new w #[.int .u64 (s : Int), .int .u32 (e : Int), .slice q n c] 75
  have hB1 := bnew w (.cells #[.int .u64 (s : Int), .int .u32 (e : Int), .slice q n c] 75)
  obtain ⟨w2, hmk, B2, G2⟩ := run_make_blk (P := Try.prog) (w.alloc (.cells #[.int .u64 (s : Int), .int .u32 (e : Int), .slice q n c] 75)) 48 5 i0 .u8 Try.underlying48 hi hz0 hz1 hz2 N (by omega)
  have hs1 := Y1.lt
  obtain ⟨g, hg⟩ : ∃ g, g = (w.alloc (.cells #[.int .u64 (s : Int), .int .u32 (e : Int), .slice q n c] 75)).heap.size := ⟨_, rfl⟩
  rw [← hg] at hmk B2 hs1
  have hB2 : Below w.heap.size w w2 := hB1.grown G2 hB1.size (by simp)
  have Y2 := Y1.kept G2 (by simp)
  have hgl : w.heap.size < g := hs1
  have hng : some w.heap.size ≠ some g := by simp; omega
  have HG : Hid (∀ {a b : World}, Below w.heap.size w a → a.grownBy b (some g) → Below w.heap.size w b) := fun {a b} h k => h.grown k h.size (by intro j hj; simp at hj; omega)
  have hc1 : ∀ w, (Instr.slice 48 (.slice (some ⟨g, 0, none⟩) N N) (some (.int .i64 0)) (some (.int .i64 2)) none).run Try.prog w = .ok (.slice (some ⟨g, 0, none⟩) 2 N) w := fun w => run_mid w g 0 N N 0 2 (by omega) (by omega) (by omega)
  have hc2 : ∀ w, (Instr.slice 48 (.slice (some ⟨g, 0, none⟩) N N) (some (.int .i64 2)) (some (.int .i64 10)) none).run Try.prog w = .ok (.slice (some ⟨g, 2, none⟩) 8 (N - 2)) w := fun w => run_mid w g 0 N N 2 10 (by omega) (by omega) (by omega)
  have hc3 : ∀ w, (Instr.slice 48 (.slice (some ⟨g, 0, none⟩) N N) (some (.int .i64 10)) (some (.int .i64 14)) none).run Try.prog w = .ok (.slice (some ⟨g, 10, none⟩) 4 (N - 10)) w := fun w => run_mid w g 0 N N 10 14 (by omega) (by omega) (by omega)
  have hc4 : ∀ w, (Instr.slice 48 (.slice (some ⟨g, 0, none⟩) N N) (some (.int .i64 14)) none none).run Try.prog w = .ok (.slice (cutP (some ⟨g, 0, none⟩) N 14) (N - 14) (N - 14)) w := fun w => run_from w (some ⟨g, 0, none⟩) N N 14 (by omega)
  have P1 := fun W hb => frame_put g 0 2 N n ([] ++ List.replicate N 0) (zeros_bytes (by simp) _) (by simp; omega) (by omega) (by omega) W hb
  rw [put_zeros [] (be 2 n) 0 N 2 rfl (be_len _ _) (by omega)] at P1
  have P2 := fun W hb => frame_put g 2 8 (N - 2) s (([] ++ be 2 n) ++ List.replicate (N - 2) 0) (zeros_bytes (by simpa using be_bytes 2 n) _) (by simp [be_len]; omega) (by omega) hs W hb
  rw [put_zeros ([] ++ be 2 n) (be 8 s) 2 (N - 2) 8 (by simp [be_len]) (be_len _ _) (by omega)] at P2
  have P3 := fun W hb => frame_put g 10 4 (N - 10) e ((([] ++ be 2 n) ++ be 8 s) ++ List.replicate (N - 2 - 8) 0) (zeros_bytes (by rw [List.nil_append]; exact app_bytes (be_bytes 2 n) (be_bytes 8 s)) _) (by simp [be_len]; omega) (by omega) (by omega) W hb
  rw [put_zeros (([] ++ be 2 n) ++ be 8 s) (be 4 e) 10 (N - 2 - 8) 4 (by simp [be_len]) (be_len _ _) (by omega)] at P3
  have hfin : (([] ++ be 2 n) ++ be 8 s) ++ be 4 e ++ p = plain s e p := by simp [plain, l]
  have HN : Hid (N - 2 - 8 - 4 = n) := by unfold Hid; omega
  have hN4 : (N : Int) ≤ 1000 := by omega
  have hwn : IntKind.u64.wrap (n : Int) = (n : Int) := by rw [IntKind.wrap_u64]; omega
  have hwe : IntKind.u64.wrap (e : Int) = (e : Int) := by rw [IntKind.wrap_u64]; omega
  have k1 := Y1.cell
  have k2 := Y2.cell
  clear hg hs1
  go_enter Try.func64, Try.ntmps64
  go_wp2
  have B2' : Blk w2.drew g 5 (bs ([] ++ List.replicate N 0)) := B2
  go_region_with ((go_at_call 76; refine (P1 _ B2').mono ?_; rintro e w3 ⟨rfl, B3, M3⟩))
  have Y3 := Y2.drew.kept M3 hng
  have hB3 := HG.out hB2.drew M3
  have k3 := Y3.cell
  clear B2' B2 Y2 k2 hB2 P1 M3 k1 Y1 hB1 hmk G2
  go_wp2
  go_region_with ((go_at_call 76; refine (P2 _ B3.drew).mono ?_; rintro e w4 ⟨rfl, B4, M4⟩))
  have Y4 := Y3.drew.kept M4 hng
  have hB4 := HG.out hB3.drew M4
  have k4 := Y4.cell
  clear B3 Y3 k3 hB3 P2 M4
  go_wp2
  go_region_with ((go_at_call 76; refine (P3 _ B4.drew).mono ?_; rintro e w5 ⟨rfl, B5, M5⟩))
  have Y5 := Y4.drew.kept M5 hng
  have hB5 := HG.out hB4.drew M5
  have k5 := Y5.cell
  rw [HN.out] at B5
  clear B4 Y4 k4 hB4 P3 M5
  have r5 := r.below hB5
  go_wp2
  go_region_law (refine step_copy_blk rfl (.tmp 28) (.tmp 30) 48 48 rfl 5 Try.underlying48 info_one (cutP (some ⟨g, 0, none⟩) N 14) q (N - 14) (N - 14) n c (by simp [Act.eval]) (by simp [Act.eval]) g 14 _ 5 B5 (bs p) (by show _ = min n (N - 14); rw [bs_len]; omega) (fun hp => ⟨by unfold cutP; rw [bs_len] at hp; rw [if_neg (by omega)]; simp [Addr.add], reads_pos r5.drew hp⟩) (by simp [bs, be_len]; omega) bs_one ?_; intro w6 B6 M6)
  rw [splice_end _ p n 14 (by simp [be_len]) l, hfin] at B6
  have hB6 := HG.out hB5.drew M6
  go_wp2
  go_ret
  exact ⟨g, rfl, by have := Blk.reads B6 (by rw [plain_len]; omega); rwa [plain_len, l, hN] at this, hB6⟩
end Go.Proofs.Ythgafnommcodcaa.Frame
