/-
  The document's Size and bytes, as they are typed out; and whether two records are the same.
-/
import Derived.Test.YthgafnommcodcaaFrameMade
namespace Go.Proofs.Ythgafnommcodcaa.Frame
open Go.RowKit Go.Proofs.Ythgafnommcodcaa.Mem Go.Proofs.Ythgafnommcodcaa.Sect Go.Proofs.Ythgafnommcodcaa.Crc
set_option maxRecDepth 100000

theorem ref_Size (x : Int) (w : World) :
    Calls Try.prog 45 #[.int .i64 x] w fun e w' => e = .returned (.int .i64 (sizeI x)) ∧ w' = w := by
  by_cases h0 : x < 0
  · have e : sizeI x = 0 := by simp [sizeI]; omega
    rw [e]
    go_enter Try.func45, Try.ntmps45
    go_wp2
    go_ret
    exact ⟨rfl, rfl⟩
  · have d0 : decide (x < 0) = false := decide_eq_false h0
    by_cases h7 : 700 < x
    · have e : sizeI x = 0 := by simp only [sizeI, size]; rw [if_pos (by omega), if_neg (by omega)]; rfl
      rw [e]
      go_enter Try.func45, Try.ntmps45
      go_wp2
      go_ret
      exact ⟨rfl, rfl⟩
    · have e : sizeI x = (x + 81) / 64 := by simp only [sizeI, size]; rw [if_pos (by omega), if_pos (by omega)]; omega
      rw [e]
      have HE : Hid (∀ k : Nat, 64 * (k : Int) < x + 82 → x + 18 ≤ 64 * (k : Int) → (k : Int) = (x + 81) / 64) := by intro k h1 h2; omega
      go_enter Try.func45, Try.ntmps45
      go_wp2
      go_loop [3] (fun i => ∃ k : Nat, i = .int .i64 k ∧ 64 * (k : Int) < x + 82) (fun i => 100 - (intOf i).toNat)
      case atStart => exact ⟨0, rfl, by omega⟩
      case round =>
        obtain ⟨k, rfl, hk⟩ := hrel
        by_cases hlt : 64 * (k : Int) < x + 18
        · go_wp2
          go_round
          case rel => exact ⟨k + 1, by go_num, by omega⟩
          case measure => simp [intOf]; omega
        · go_wp2
          go_ret
          exact ⟨ret_int (HE.out k hk (by omega)), rfl⟩
theorem ref_bytes : ∀ (k n : Nat), k ≤ 8 → n < 18446744073709551616 → ∀ w : World,
    Calls Try.prog 66 #[.int .u64 (n : Int), .int .i64 (k : Int)] w fun e w' => ∃ v, e = .returned v ∧ w'.ownsRow w.heap.size 5 1 v (be k n).length ((be k n).map (Value.int .u8)) ∧ Below w.heap.size w w'
  | 0, n, _, hn, w => by
    have h0 : (w.alloc (.cells #[] 5)).ownsRow w.heap.size 5 1 (.slice (some ⟨w.heap.size, 0, none⟩) 0 0) ([] : List Int).length (([] : List Int).map (Value.int .u8)) := lit_none (k := .u8) w
    go_enter Try.func66, Try.ntmps66
    go_wp2
    go_ret
    exact ⟨_, rfl, h0, bnew _ _⟩
  | k + 1, n, hk, hn, w => by
    obtain ⟨i0, hi, hz0, hz1, hz2⟩ := info_parts info_byte
    have hr := ref_bytes k (n / 256) (by omega) (by omega) w
    rw [be_len] at hr
    have ek : ((k + 1 : Nat) : Int) - 1 = (k : Int) := by omega
    have hk0 : ((((k + 1 : Nat) : Int)) == 0) = false := by simp; omega
    have en : ((n / 256 : Nat) : Int) = (n : Int) / 256 := by omega
    rw [en] at hr
    have HE : Hid (be k (n / 256) ++ [(n : Int) % 256] = be (k + 1) n) := by unfold Hid; rw [be]; simp
    have HL : Hid ((be (k + 1) n).length = k + 1) := be_len _ _
    have hlen : (be k (n / 256)).length = k := be_len _ _
    generalize be k (n / 256) = X at hr HE hlen
    generalize be (k + 1) n = Y at HE HL ⊢
    obtain ⟨K, hK⟩ : ∃ K : Nat, k + 1 = K := ⟨_, rfl⟩
    have hKk : (K : Int) - 1 = (k : Int) := by omega
    rw [hK] at hk0 HL ⊢
    have hK1 : 1 ≤ (K : Int) := by omega
    clear ek en hK
    go_enter Try.func66, Try.ntmps66
    go_wp2_with (first
      | (go_at_call 66; refine hr.mono ?_; rintro e w1 ⟨v1, rfl, hown1, hb1⟩)
      | (at_builtin; refine wpList_append_reads _ rfl _ _ 48 rfl w.heap.size 5 i0 (.int .u8 0) 1 .u8 Try.underlying48 hi hz0 hz1 hz2 rfl v1 k (X.map (Value.int .u8)) rfl (hown1.alloc _) (some ⟨w1.heap.size, 0, none⟩) 1 1 [(n : Int) % 256] rfl rfl (lit_reads rfl rfl (by simp)) ?c3 ?c4 ?c5 ?_))
    case c3 => unfold maxLen; omega
    case c4 => omega
    case c5 => have := hb1.size; simp; omega
    · intro v2 w2 hown2 hg2
      rw [← hlen] at hown1
      have R := grew (ys := X) (zs := [(n : Int) % 256]) (Nat.le_refl _) hb1 hown1 hown2 hg2
      rw [HE.out] at R
      clear hown1 hown2 hg2
      obtain ⟨hown2, hb2⟩ := R
      go_wp2
      go_ret
      exact ⟨v2, rfl, hown2, hb2⟩
/-- The same record? -/
def same (s e : Nat) (p : List Int) (s2 e2 : Nat) (p2 : List Int) : Bool := decide (s = s2) && (decide (e = e2) && decide (p = p2))
set_option maxHeartbeats 1000000 in
theorem ref_Same (s e : Nat) (q : Option Addr) (n c : Nat) (p : List Int) (l : p.length = n) (s2 e2 : Nat) (q2 : Option Addr) (n2 c2 : Nat) (p2 : List Int) (l2 : p2.length = n2) (hp : ∀ c ∈ p, Byte c) (hp2 : ∀ c ∈ p2, Byte c) (w : World) (r : Reads .u8 w q c p) (r2 : Reads .u8 w q2 c2 p2) :
    Calls Try.prog 33 #[.agg #[.int .u64 (s : Int), .int .u32 (e : Int), .slice q n c], .agg #[.int .u64 (s2 : Int), .int .u32 (e2 : Int), .slice q2 n2 c2]] w fun x w' => x = .returned (.bool (same s e p s2 e2 p2)) ∧ Below w.heap.size w w' := by
  have hB := bnext (bnew w (.cells #[.int .u64 (s : Int), .int .u32 (e : Int), .slice q n c] 75)) (bnew (w.alloc (.cells #[.int .u64 (s : Int), .int .u32 (e : Int), .slice q n c] 75)) (.cells #[.int .u64 (s2 : Int), .int .u32 (e2 : Int), .slice q2 n2 c2] 75))
  have hcv := conv (r.below hB) l
  have hcv2 := conv (r2.below hB) l2
  have hse := str_eq hp hp2
  by_cases h1 : s = s2
  · have d1 : ((s : Int) == (s2 : Int)) = true := by simp [h1]
    by_cases h2 : e = e2
    · have d2 : ((e : Int) == (e2 : Int)) = true := by simp [h2]
      have HE : Hid (same s e p s2 e2 p2 = decide (p = p2)) := by unfold Hid; simp [same, h1, h2]
      obtain ⟨D, hD⟩ : ∃ D, decide (p = p2) = D := ⟨_, rfl⟩
      rw [hD] at hse HE
      clear hD h1 h2
      go_enter Try.func33, Try.ntmps33
      go_wp2
      go_ret
      exact ⟨by rw [HE.out]; rfl, hB⟩
    · have d2 : ((e : Int) == (e2 : Int)) = false := by simp; omega
      have HE : Hid (same s e p s2 e2 p2 = false) := by unfold Hid; simp [same, h2]
      clear h1 h2
      go_enter Try.func33, Try.ntmps33
      go_wp2
      go_ret
      exact ⟨by rw [HE.out]; rfl, hB⟩
  · have d1 : ((s : Int) == (s2 : Int)) = false := by simp; omega
    have HE : Hid (same s e p s2 e2 p2 = false) := by unfold Hid; simp [same, h1]
    clear h1
    go_enter Try.func33, Try.ntmps33
    go_wp2
    go_ret
    exact ⟨by rw [HE.out]; rfl, hB⟩
end Go.Proofs.Ythgafnommcodcaa.Frame
