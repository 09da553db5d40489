/-
  frame.Make: a record's bytes in sectors.
-/
import Derived.Test.YthgafnommcodcaaFrameMake
namespace Go.Proofs.Ythgafnommcodcaa.Frame
open Go.RowKit Go.Proofs.Ythgafnommcodcaa.Mem Go.Proofs.Ythgafnommcodcaa.Sect Go.Proofs.Ythgafnommcodcaa.Crc

theorem sc_flat : ∀ l : List Sec, l.flatMap sc = bs (flat l)
  | [] => rfl
  | s :: r => by
    have h := sc_flat r
    simp only [flat, List.flatMap_cons, bs, List.map_append] at h ⊢
    rw [h]
    rfl
theorem blk_rk {w : World} {g : Nat} {t : TypeId} {l : List Sec} (h : Blk w g t (bs (flat l))) (hl : l.length ≤ 1000) : RK sc w (some ⟨g, 0, none⟩) l.length l := by
  refine ⟨Nat.le_refl _, by unfold maxLen; omega, fun h => by simp at h, fun _ => ⟨g, 0, rfl, h.lt, fun j v hv => ?_⟩⟩
  rw [Nat.zero_add, h.cell j, ← sc_flat]
  exact hv
theorem splice_mid (A X : List Int) (Z k : Nat) (hA : A.length = k) : splice (bs (A ++ List.replicate Z 0)) k (bs X) = bs ((A ++ X) ++ List.replicate (Z - X.length) 0) := by
  subst hA
  unfold splice bs
  rw [List.map_append, List.length_map, List.drop_append, List.drop_of_length_le (by simp), List.take_left' (by simp)]
  simp
theorem cut_block {q : Option Addr} {c t g : Nat} (h : ∀ a, q = some a → a.block ≠ g) : ∀ a, cutP q c t = some a → a.block ≠ g := by
  intro a ha
  unfold cutP at ha
  split at ha
  · exact h a ha
  · cases q with
    | none => simp at ha
    | some x =>
      simp at ha
      subst ha
      have e : (x.add t).block = x.block := by unfold Addr.add; first | rfl | (split <;> rfl)
      rw [e]
      exact h x rfl
theorem frame_Make_no (s e : Nat) (q : Option Addr) (n c : Nat) (p : List Int) (l : p.length = n) (hr : right s p = false) (w : World) :
    Calls Try.prog 42 #[.agg #[.int .u64 (s : Int), .int .u32 (e : Int), .slice q n c]] w fun x w' => x = .returned (.tuple #[.slice none 0 0, .int .i64 81]) ∧ Below w.heap.size w w' := by
  subst l
  have hS := fun w => frame_Size (p.length : Int) w
  rw [sizeI_nat] at hS
  by_cases h7 : p.length ≤ 700
  · have h0 : s = 0 := by simp [right, h7] at hr; exact hr
    subst h0
    have hz : ((size p.length : Nat) == (0 : Int)) = false := by have := (size_fits h7).2.2.1; simp; omega
    have hz2 : size p.length ≠ 0 := by have := (size_fits h7).2.2.1; omega
    obtain ⟨N, hN⟩ : ∃ N, size p.length = N := ⟨_, rfl⟩
    rw [hN] at hS hz hz2
    clear hN
    go_enter Try.func42, Try.ntmps42
    go_wp2_with (go_at_call 41; refine (hS _).mono ?_; rintro e w1 ⟨rfl, rfl⟩)
    all_goals (go_ret2; exact ⟨rfl, bnew _ _⟩)
  · have hz : size p.length = 0 := by simp [size, h7]
    rw [hz] at hS
    go_enter Try.func42, Try.ntmps42
    go_wp2_with (go_at_call 41; refine (hS _).mono ?_; rintro e w1 ⟨rfl, rfl⟩)
    go_ret2
    exact ⟨rfl, bnew _ _⟩
set_option maxHeartbeats 2000000 in
set_option maxRecDepth 100000 in
theorem frame_Make_ok (s e : Nat) (q : Option Addr) (n c : Nat) (p : List Int) (l : p.length = n) (hr : right s p = true) (hs : s < 18446744073709551616) (he : e < 4294967296) (hp : ∀ c ∈ p, Byte c) (w : World) (r : Reads .u8 w q c p) :
    Calls Try.prog 42 #[.agg #[.int .u64 (s : Int), .int .u32 (e : Int), .slice q n c]] w fun x w' => ∃ g, x = .returned (.tuple #[.slice (some ⟨g, 0, none⟩) (made s e p).length (made s e p).length, .int .i64 0]) ∧ RK sc w' (some ⟨g, 0, none⟩) (made s e p).length (made s e p) ∧ Below w.heap.size w w' ∧ w.heap.size ≤ g := by
  have h7 : n ≤ 700 := by simp [right] at hr; omega
  have h0 : 0 < s := by simp [right] at hr; omega
  have hs0 : ((s : Int) == 0) = false := by simp; omega
  obtain ⟨hf1, hf2, hf3, hf4⟩ := size_fits h7
  have hS := fun w => frame_Size (n : Int) w
  rw [sizeI_nat] at hS
  rw [made_len hr, l]
  have HF := flat_made (e := e) hr
  rw [l] at HF
  obtain ⟨N, hN⟩ : ∃ N, size n = N := ⟨_, rfl⟩
  rw [hN] at hS hf1 hf2 hf3 hf4 HF ⊢
  have hN0 : ((N : Int) == 0) = false := by simp; omega
  have Y1 := Blk.new w #[.int .u64 (s : Int), .int .u32 (e : Int), .slice q n c] 75
  have hB1 := bnew w (.cells #[.int .u64 (s : Int), .int .u32 (e : Int), .slice q n c] 75)
  obtain ⟨w2, hmk, O2, G2⟩ := run_make_secs (w.alloc (.cells #[.int .u64 (s : Int), .int .u32 (e : Int), .slice q n c] 75)) N (N : Int) rfl (by omega)
  have B2 : Blk w2 (w.heap.size + 1) 70 (bs (List.replicate (64 * N) 0)) := by
    rcases O2.2 with ⟨h, _⟩ | ⟨g, cap, cur, hv, _, hh, _, _, hcs, htk⟩
    · simp at h
    · simp only [Value.slice.injEq, Option.some.injEq, Addr.mk.injEq, and_true, true_and, World.size_alloc] at hv
      obtain ⟨rfl, rfl⟩ := hv
      unfold Blk
      rw [hh]
      rw [List.take_of_length_le (by rw [Array.length_toList, hcs]; exact Nat.le_refl _), sc_flat, flat_zero] at htk
      rw [← htk]
  have hs1 := Y1.lt
  simp only [World.size_alloc] at hmk
  obtain ⟨g, hg⟩ : ∃ g, g = w.heap.size + 1 := ⟨_, rfl⟩
  rw [← hg] at hmk B2
  have hB2 : Below w.heap.size w w2 := hB1.grown G2 hB1.size (by simp)
  have Y2 := Y1.kept G2 (by simp)
  have hP := fun W rr => frame_plain s e q n c p l h7 hs he W rr
  have hL : (plain s e p).length = n + 14 := by rw [plain_len, l]
  have hpb := plain_bytes (s := s) (e := e) hp
  have HG : Hid (∀ {a b : World}, Below w.heap.size w a → a.grownBy b (some g) → Below w.heap.size w b) := fun {a b} h k => h.grown k h.size (by intro j hj; simp at hj; omega)
  have k1 := Y1.cell
  have k2 := Y2.cell
  have hgl2 : g < w2.heap.size := B2.lt
  have HGG : Hid (g = w.heap.size + 1) := hg
  clear hg hs1
  go_enter Try.func42, Try.ntmps42
  go_wp2_with (first
    | (go_at_call 41; refine (hS _).mono ?_; rintro e w1 ⟨rfl, rfl⟩)
    | (go_at_call 64; refine (hP w2 (r.below hB2)).mono ?_; rintro e w3 ⟨g3, rfl, r3, hB3⟩)
    | (go_at_call 63; refine (crc_Seal (some ⟨g3, 0, none⟩) (n + 14) (n + 14) (plain s e p) hL hpb (by omega) w3 r3).mono ?_; rintro e w4 ⟨q4, d4, rfl, r4, hB4, hnw⟩))
  have hB4' : Below w.heap.size w w4 := bnext (bnext hB2 hB3) hB4
  have B4 := (B2.below hB3).below hB4
  have hne4 : ∀ a, q4 = some a → a.block ≠ g := fun a ha => by have := hnw a ha; have := hB3.size; omega
  obtain ⟨b, hb⟩ : ∃ b, all s e p = b := ⟨_, rfl⟩
  have hbl : b.length = n + 18 := by rw [← hb, all_len, l]
  have r4' : Reads .u8 w4 q4 d4 b := by rw [← hb]; exact r4
  rw [hb] at HF
  have HFF : Hid (flat (made s e p) = b ++ List.replicate (64 * N - (n + 18)) 0) := HF
  have HM : Hid ((made s e p).length = N) := by unfold Hid; rw [made_len hr, l, hN]
  clear HF hb r4 B2 hnw hP hpb hL hS k1 k2 Y1 Y2 hmk O2 G2 hB1 hB2 hB3 hB4 r3 r hN hp hr l hs he h0
  go_loopw [6, 27] (fun rs i wr => ∃ (k : Nat) (q : Option Addr) (m c : Nat), k ≤ N ∧ i = .int .i64 k ∧ rs = .slice q m c ∧ (b.drop (k * 64)).length = m ∧ Reads .u8 wr q c (b.drop (k * 64)) ∧ (∀ a, q = some a → a.block ≠ g) ∧ Blk wr g 70 (bs (b.take (k * 64) ++ List.replicate (64 * N - (b.take (k * 64)).length) 0)) ∧ Below w.heap.size w wr)
    (fun _ i _ => N - (intOf i).toNat)
  case atStart => exact ⟨0, q4, n + 14 + 4, d4, by omega, rfl, rfl, by simp [hbl], by simpa using r4', hne4, by simpa using B4, hB4'⟩
  case round =>
    obtain ⟨k, q5, m, c5, hk, rfl, rfl, hm, r5, hne, B5, hB5⟩ := hrel
    by_cases hlt : k < N
    · have hkb : k * 64 < b.length := by omega
      have hA : (b.take (k * 64)).length = k * 64 := by rw [List.length_take]; omega
      obtain ⟨D, hD⟩ : ∃ D, b.drop (k * 64) = D := ⟨_, rfl⟩
      rw [hD] at hm r5
      have hm2 : m + k * 64 = b.length := by rw [← hm, ← hD, List.length_drop]; omega
      obtain ⟨t, ht⟩ : ∃ t, (D.take 64).length = t := ⟨_, rfl⟩
      have ht2 : t = min 64 m := by rw [← ht, List.length_take, hm]
      obtain ⟨w6, hcp, B6, M6⟩ := run_copy_blk (P := Try.prog) wr 48 48 3 5 Try.underlying48 info_one (some ⟨g, k * 64, none⟩) q5 64 64 m c5 g (k * 64) _ 70 B5 (bs (D.take 64))
        (by show _ = min m 64; rw [bs_len, ht]; omega)
        (fun hp => ⟨rfl, reads_pos (r5.upto 64) hp⟩)
        (by rw [bs_len, bs_len, List.length_append, hA, List.length_replicate, ht]; omega) bs_one
      rw [bs_len, ht] at hcp
      rw [splice_mid _ _ _ (k * 64) hA, hA, ht] at B6
      have e1 : b.take (k * 64) ++ D.take 64 = b.take ((k + 1) * 64) := by rw [← hD, ← List.take_add, Nat.succ_mul]
      have hA2 : (b.take ((k + 1) * 64)).length = k * 64 + t := by rw [← e1, List.length_append, hA, ht]
      have e2 : b.drop ((k + 1) * 64) = D.drop t := by
        rw [← hD, List.drop_drop]
        rcases Nat.le_total 64 m with h | h
        · rw [show t = 64 by omega, Nat.succ_mul]
        · rw [List.drop_of_length_le (by omega), List.drop_of_length_le (by omega)]
      rw [e1] at B6
      have B7 : Blk w6 g 70 (bs (b.take ((k + 1) * 64) ++ List.replicate (64 * N - (b.take ((k + 1) * 64)).length) 0)) := by
        rw [hA2, show 64 * N - (k * 64 + t) = 64 * N - k * 64 - t by omega]
        exact B6
      have r7 : Reads .u8 w6 (cutP q5 c5 t) (c5 - t) (b.drop ((k + 1) * 64)) := by
        rw [e2]
        exact (r5.kept M6 (fun _ => hne)).cut t (by omega)
      have hl7 : (b.drop ((k + 1) * 64)).length = m - t := by rw [e2, List.length_drop, hm]
      have hcut := fun w => run_from w q5 m c5 t (by omega)
      have hB7 := HG.out hB5 M6
      have hne7 := cut_block (c := c5) (t := t) hne
      clear e1 e2 hA hA2 B6 hD ht ht2 B5 hm r5 hne B4 r4'
      go_wp2
      go_roundw
      case rel => exact ⟨k + 1, _, _, _, by omega, by go_num, rfl, hl7, r7, hne7, B7, hB7⟩
      case measure => simp [intOf]; omega
    · obtain rfl : k = N := by omega
      have e1 : b.take (k * 64) = b := List.take_of_length_le (by omega)
      rw [e1, hbl, ← HFF.out] at B5
      have hrk := blk_rk B5 (by rw [HM.out]; omega)
      rw [HM.out] at hrk
      go_wp2
      go_ret2
      exact ⟨g, rfl, hrk, hB5, by have := HGG.out; omega⟩
/-- Whatever the record. -/
theorem frame_Make (s e : Nat) (q : Option Addr) (n c : Nat) (p : List Int) (l : p.length = n) (hs : s < 18446744073709551616) (he : e < 4294967296) (hp : ∀ c ∈ p, Byte c) (w : World) (r : Reads .u8 w q c p) :
    Calls Try.prog 42 #[.agg #[.int .u64 (s : Int), .int .u32 (e : Int), .slice q n c]] w fun x w' => ∃ q' c', x = .returned (.tuple #[.slice q' (made s e p).length c', .int .i64 (fault s p)]) ∧ RK sc w' q' c' (made s e p) ∧ Below w.heap.size w w' := by
  cases hr : right s p with
  | false =>
    refine (frame_Make_no s e q n c p l hr w).mono ?_
    rintro x w' ⟨rfl, hB⟩
    have e1 : made s e p = [] := by simp [made, hr]
    have e2 : fault s p = 81 := by simp [fault, hr]
    rw [e1, e2]
    exact ⟨none, 0, rfl, RK.nil _ _, hB⟩
  | true =>
    refine (frame_Make_ok s e q n c p l hr hs he hp w r).mono ?_
    rintro x w' ⟨g, rfl, hrk, hB, -⟩
    have e2 : fault s p = 0 := by simp [fault, hr]
    rw [e2]
    exact ⟨_, _, rfl, hrk, hB⟩
end Go.Proofs.Ythgafnommcodcaa.Frame
