/-
  Plain facts: what is read out of a packet; what is made of what is read; one byte that is another one; words in another order. Nothing of a program is named here.
-/
import Derived.Test.YtogijgpamdcjkaaHeadPlain
namespace Go.Proofs.Ytogijgpamdcjkaa.Head

theorem fold_full {T : Int} (hT : 0 ≤ T) : fold (T + (65535 - fold T)) = 65535 := by
  unfold fold
  by_cases h : T = 0
  · subst h; simp
  · rw [if_neg h, if_neg (by omega)]; omega
theorem fold_back {T S : Int} (hT : 0 < T) (h0 : 0 ≤ S) (h1 : S ≤ 65535) (h : fold (T + S) = 65535) : S = 65535 - fold T ∨ (S = 65535 ∧ 65535 - fold T = 0) := by
  unfold fold at h ⊢
  rw [if_neg (by omega)] at h ⊢
  omega
theorem fold_apart {T D : Int} (hT : 0 < T) (hD : 0 < T + D) (h0 : D ≠ 0) (h1 : -65280 ≤ D) (h2 : D ≤ 65280) (h : fold T = 65535) : fold (T + D) ≠ 65535 := by
  unfold fold at h ⊢
  rw [if_neg (by omega)] at h ⊢
  omega
theorem list20 {α : Type} (l : List α) (h : 20 ≤ l.length) : ∃ x0 x1 x2 x3 x4 x5 x6 x7 x8 x9 x10 x11 x12 x13 x14 x15 x16 x17 x18 x19 R, l = [x0, x1, x2, x3, x4, x5, x6, x7, x8, x9, x10, x11, x12, x13, x14, x15, x16, x17, x18, x19] ++ R := by
  obtain ⟨A, hA⟩ : ∃ A, A = l.take 20 := ⟨_, rfl⟩
  have hl : A.length = 20 := by rw [hA]; simp; omega
  have e : l = A ++ l.drop 20 := by rw [hA, List.take_append_drop]
  match A, hl with
  | [x0, x1, x2, x3, x4, x5, x6, x7, x8, x9, x10, x11, x12, x13, x14, x15, x16, x17, x18, x19], _ => exact ⟨x0, x1, x2, x3, x4, x5, x6, x7, x8, x9, x10, x11, x12, x13, x14, x15, x16, x17, x18, x19, l.drop 20, e⟩
/-- Bytes that are a packet, field by field. -/
theorem xs_header {xs : List Int} (hx : ∀ c ∈ xs, Byte c) (hE : faultE xs = 0) : xs.take (hsz xs) = header (hdOf xs) (opts xs) xs.length (num xs 10) := by
  obtain ⟨h20, h4, hf, _⟩ := fault_ok.1 hE
  obtain ⟨f1, f2, f3, f4⟩ := fit_iff.1 hf
  have hlo := opts_length f2
  obtain ⟨H, hH⟩ : ∃ H, H = hsz xs := ⟨_, rfl⟩
  have hHd : H = (xs.getD 0 0 % 16 * 4).toNat := hH
  unfold header
  rw [hlo]
  unfold opts
  rw [← hH] at f1 f2 ⊢
  clear hH hlo hE hf
  obtain ⟨x0, x1, x2, x3, x4, x5, x6, x7, x8, x9, x10, x11, x12, x13, x14, x15, x16, x17, x18, x19, R, rfl⟩ := list20 xs h20
  have b := fun i => getD_byte hx i
  have c0 := b 0; have c2 := b 2; have c3 := b 3; have c5 := b 5; have c7 := b 7; have c11 := b 11
  unfold Byte at c0 c2 c3 c5 c7 c11
  simp only [num, hdOf, List.getD_eq_getElem?_getD, List.cons_append, List.nil_append, List.getElem?_cons_zero, List.getElem?_cons_succ, Option.getD_some] at *
  obtain ⟨M, rfl⟩ : ∃ M, H = M + 20 := ⟨H - 20, by omega⟩
  simp only [hdr, List.take_succ_cons, List.drop_succ_cons, List.drop_zero, List.cons_append, List.nil_append, Nat.add_sub_cancel]
  have e0 : 69 + (M : Int) / 4 = x0 := by omega
  have e2 : ((x0 :: x1 :: x2 :: x3 :: x4 :: x5 :: x6 :: x7 :: x8 :: x9 :: x10 :: x11 :: x12 :: x13 :: x14 :: x15 :: x16 :: x17 :: x18 :: x19 :: R).length : Int) / 256 = x2 := by omega
  have e3 : ((x0 :: x1 :: x2 :: x3 :: x4 :: x5 :: x6 :: x7 :: x8 :: x9 :: x10 :: x11 :: x12 :: x13 :: x14 :: x15 :: x16 :: x17 :: x18 :: x19 :: R).length : Int) % 256 = x3 := by omega
  rw [e0, e2, e3, show (256 * x4 + x5) / 256 = x4 by omega, show (256 * x4 + x5) % 256 = x5 by omega, show (256 * x6 + x7) / 256 = x6 by omega, show (256 * x6 + x7) % 256 = x7 by omega, show (256 * x10 + x11) / 256 = x10 by omega, show (256 * x10 + x11) % 256 = x11 by omega]
theorem xs_whole {xs : List Int} (hx : ∀ c ∈ xs, Byte c) (hE : faultE xs = 0) : xs = header (hdOf xs) (opts xs) xs.length (num xs 10) ++ pay xs := by
  rw [← xs_header hx hE]
  unfold pay
  rw [List.take_append_drop]
theorem read_right {xs : List Int} (hx : ∀ c ∈ xs, Byte c) (hE : faultE xs = 0) : rightB (hdOf xs) (opts xs).length = true ∧ Ads (hdOf xs) ∧ (∀ c ∈ opts xs, Byte c) ∧ (∀ c ∈ pay xs, Byte c) ∧ 20 + (opts xs).length + (pay xs).length = xs.length ∧ xs.length ≤ 1500 := by
  obtain ⟨h20, h4, hf, _⟩ := fault_ok.1 hE
  obtain ⟨f1, f2, f3, f4⟩ := fit_iff.1 hf
  have b := fun i => getD_byte hx i
  have hlo := opts_length f2
  have hlp := pay_length xs
  have b0 := b 0
  have b1 := b 1; have b4 := b 4; have b5 := b 5; have b6 := b 6; have b7 := b 7; have b8 := b 8; have b9 := b 9
  have hH : (hsz xs : Int) = xs.getD 0 0 % 16 * 4 := by
    unfold Byte at b0
    unfold hsz
    omega
  unfold Byte at b0 b1 b4 b5 b6 b7 b8 b9
  refine ⟨right_iff.2 ?_, ⟨b 12, b 13, b 14, b 15, b 16, b 17, b 18, b 19⟩, fun c hc => hx c (List.mem_of_mem_take (List.mem_of_mem_drop hc)), fun c hc => hx c (List.mem_of_mem_drop hc), by omega, f4⟩
  simp only [hdOf, num, Nat.reduceAdd]
  refine ⟨by omega, by omega, by omega, by omega, by omega, by omega, by omega⟩
/-- What is read of a packet that was made. -/
theorem packet_read {h : Hd} {os ps : List Int} (hr : rightB h os.length = true) (ha : Ads h) (ho : ∀ c ∈ os, Byte c) (hl : 20 + os.length + ps.length ≤ 1500) :
    faultE (packet h os ps) = 0 ∧ hdOf (packet h os ps) = h ∧ opts (packet h os ps) = os ∧ pay (packet h os ps) = ps ∧ hsz (packet h os ps) = 20 + os.length := by
  obtain ⟨a, b, c, d, e, f, g⟩ := right_iff.1 hr
  obtain ⟨s0, s1⟩ := sum_bounds (ps := ps) hr ha ho hl
  have hA : allOf os ps = ((20 + os.length + ps.length : Nat) : Int) := by unfold allOf; omega
  have hbz := header_bytes hr ha ho (all := allOf os ps) (s := 0) (by omega) (by omega) (by omega) (by omega)
  have hT := (tot_range true hbz).1
  have hS : sumI (header h os (allOf os ps) (sumOf h os ps)) = 0 := by
    unfold sumI
    rw [tot_header]
    unfold sumOf sumI
    rw [fold_full hT]
    rfl
  have hlen := packet_length h os ps
  have hHl := header_length h os (allOf os ps) (sumOf h os ps)
  have hsz' : hsz (packet h os ps) = 20 + os.length := by
    unfold hsz packet header hdr
    simp
    omega
  have htk : (packet h os ps).take (20 + os.length) = header h os (allOf os ps) (sumOf h os ps) := by unfold packet; rw [List.take_left' hHl]
  have hn2 : num (packet h os ps) 2 = allOf os ps := by
    unfold num packet header hdr
    simp
    omega
  refine ⟨fault_ok.2 ⟨by omega, ?_, fit_iff.2 ⟨by omega, by omega, by omega, by omega⟩, ?_⟩, ?_, ?_, ?_, hsz'⟩
  · unfold packet header hdr
    simp
    omega
  · rw [hsz', htk, hS]
  · unfold hdOf num packet header hdr
    simp
    obtain ⟨tos, id, fl, ttl, pr, s0, s1, s2, s3, d0, d1, d2, d3⟩ := h
    simp only [Hd.mk.injEq, and_true, true_and]
    constructor <;> omega
  · unfold opts
    rw [hsz', htk]
    unfold header
    rw [List.drop_left' (hdr_length _ _ _ _)]
  · unfold pay
    rw [hsz']
    unfold packet
    rw [List.drop_left' hHl]
theorem tot_pos {h : Hd} {os : List Int} (hr : rightB h os.length = true) (ha : Ads h) (ho : ∀ c ∈ os, Byte c) {all s : Int} (h0 : 0 ≤ all) (h1 : all ≤ 65535) (h2 : 0 ≤ s) (h3 : s ≤ 65535) : 0 < tot true (header h os all s) := by
  have hb := header_bytes hr ha ho h0 h1 h2 h3
  unfold header at hb ⊢
  rw [tot_append]
  have hT := (tot_range (if (hdr h os.length all s).length % 2 = 0 then true else !true) ho).1
  have hH : 256 * 69 ≤ tot true (hdr h os.length all s) := by
    obtain ⟨a, b, c, d, e, f, g⟩ := right_iff.1 hr
    unfold Ads Byte at ha
    simp only [hdr, tot]
    omega
  omega
/-- What is made of what was read: the same bytes, but for a sum that has two forms. -/
theorem remake {xs : List Int} (hx : ∀ c ∈ xs, Byte c) (hE : faultE xs = 0) :
    ∃ s : Int, 0 ≤ s ∧ s ≤ 65535 ∧ packet (hdOf xs) (opts xs) (pay xs) = header (hdOf xs) (opts xs) xs.length s ++ pay xs ∧ (num xs 10 = s ∨ (num xs 10 = 65535 ∧ s = 0)) := by
  obtain ⟨hr, ha, ho, hp, hl, hn⟩ := read_right hx hE
  obtain ⟨_, _, _, hs⟩ := fault_ok.1 hE
  have hA : allOf (opts xs) (pay xs) = (xs.length : Int) := by unfold allOf; omega
  have hsb := sum_bounds (ps := pay xs) hr ha ho (by omega)
  refine ⟨sumOf (hdOf xs) (opts xs) (pay xs), hsb.1, hsb.2, by unfold packet; rw [hA], ?_⟩
  rw [xs_header hx hE] at hs
  unfold sumI at hs
  rw [tot_header] at hs
  have c10 := getD_byte hx 10
  have c11 := getD_byte hx (10 + 1)
  have hTp := tot_pos hr ha ho (all := xs.length) (s := 0) (by omega) (by omega) (by omega) (by omega)
  have hb := fold_back (S := num xs 10) hTp (by unfold Byte at c10 c11; unfold num; omega) (by unfold Byte at c10 c11; unfold num; omega) (by omega)
  unfold sumOf sumI
  rw [hA]
  exact hb
end Go.Proofs.Ytogijgpamdcjkaa.Head
