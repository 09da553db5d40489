/-
  The document's own answers: what the reference's Get gives, for every slice of bytes.
-/
import Derived.Test.YtnaofcggdjbocaaLebRef
import Derived.Deep.RegionWith
namespace Go.Proofs.Ytnaofcggdjbocaa.Leb
open Go.RowKit Go.Proofs.Ytnaofcggdjbocaa.Mem
set_option maxRecDepth 100000

set_option maxHeartbeats 1000000 in
/-- The document's Get. -/
theorem refGet_any (p : Option Addr) (m cap : Nat) (zs : List Int) (hm : zs.length = m) (hb : ∀ c ∈ zs, Byte c) (w : World) (hr : Reads .u8 w p cap zs) :
    Calls Try.prog 69 #[.slice p m cap] w fun e w' => e = .returned (three (lget zs)) ∧ Below w.heap.size w w' := by
  have hmc : m ≤ cap := by rw [← hm]; exact hr.1
  have hcm : cap ≤ 9223372036854775807 := hr.2.1
  have hlead := lead_le zs
  obtain ⟨X, hX⟩ : ∃ X, X = lget zs := ⟨_, rfl⟩
  rw [← hX]
  unfold three
  have HX : Hid (X = lget zs) := hX
  clear hX
  go_enter Try.func69, Try.ntmps69
  go_wp2_with fail
  go_loop [5] (fun i => ∃ k : Nat, k ≤ m ∧ k ≤ 10 ∧ k ≤ lead zs ∧ i = .int .i64 k) (fun i => 10 - (intOf i).toNat)
  case atStart => exact ⟨0, by omega, by omega, by omega, rfl⟩
  case round =>
    obtain ⟨k, hk, hk10, hkl, rfl⟩ := hrel
    by_cases hlt : k < m ∧ k < 10
    · obtain ⟨hltm, hlt10⟩ := hlt
      obtain ⟨b, o, rfl, _, hcell⟩ := hr.2.2.2 (by omega)
      obtain ⟨c, hc⟩ : ∃ c, c = zs.getD k 0 := ⟨_, rfl⟩
      have hck : w.cell? ⟨b, o + k, none⟩ = some (.int .u8 c) := by rw [hc]; exact hcell k (by omega)
      have HC : Hid (c = zs.getD k 0) := hc
      have HCELL : Hid (∀ i, i < zs.length → w.cell? ⟨b, o + i, none⟩ = some (.int .u8 (zs.getD i 0))) := hcell
      clear hc hcell
      by_cases hc128 : c < 128
      · go_wp2_with fail
        go_loop [6, 7] (fun n j => ∃ i : Nat, i ≤ k + 1 ∧ n = .int .u64 (val ((zs.take (k + 1)).drop i) % 18446744073709551616) ∧ ((∃ t : Nat, i = t + 1 ∧ j = .int .i64 (t : Int)) ∨ (i = 0 ∧ j = .int .i64 (-1)))) (fun _ j => (intOf j + 1).toNat)
        case atStart =>
          refine ⟨k + 1, Nat.le_refl _, ?_, .inl ⟨k, rfl, rfl⟩⟩
          rw [List.drop_eq_nil_of_le (by simp; omega)]
          rfl
        case round =>
          obtain ⟨i, hi, rfl, hj⟩ := hrel
          rcases hj with ⟨t, rfl, rfl⟩ | ⟨rfl, rfl⟩
          · obtain ⟨d, hd⟩ : ∃ d, d = zs.getD t 0 := ⟨_, rfl⟩
            have hdk : w.cell? ⟨b, o + t, none⟩ = some (.int .u8 d) := by rw [hd]; exact HCELL.out t (by omega)
            obtain ⟨d0, d1⟩ : Byte d := by rw [hd]; exact getD_byte hb t (by omega)
            obtain ⟨V, hV⟩ : ∃ V, V = val ((zs.take (k + 1)).drop (t + 1)) := ⟨_, rfl⟩
            have hval : val ((zs.take (k + 1)).drop t) = d % 128 + 128 * V := by
              rw [val_from _ t (by simp; omega), ← hV, hd]
              simp [List.getD, show t < k + 1 by omega]
            have HV : Hid (val ((zs.take (k + 1)).drop t) = d % 128 + 128 * V) := hval
            rw [← hV]
            have hV0 : 0 ≤ V := by rw [hV]; exact val_nonneg _
            clear hV hval hd
            go_wp2_with fail
            go_round
            case rel =>
              refine ⟨t, by omega, ?_, ?_⟩
              · rw [HV.out]
                refine congrArg (Value.int .u64) ?_
                first | omega | (simp only [IntKind.wrap_u64]; omega)
              · by_cases ht : t = 0
                · subst ht
                  exact .inr ⟨rfl, by first | rfl | go_num⟩
                · exact .inl ⟨t - 1, by omega, by first | go_num | (refine congrArg (Value.int .i64) ?_; omega)⟩
            case measure => simp [intOf]
          · simp only [List.drop_zero]
            obtain ⟨N, hN⟩ : ∃ N, N = val (zs.take (k + 1)) % 18446744073709551616 := ⟨_, rfl⟩
            have hN64 : Word N := by rw [hN]; exact ⟨by omega, by omega⟩
            rw [← hN]
            have hl : lead zs = k := lead_stop zs k hkl (by omega) (by rw [← HC.out]; exact hc128)
            have hcut : ∀ w, (Instr.slice 37 (.slice (some ⟨b, o, none⟩) m cap) none (some (.int .i64 ((k : Int) + 1))) none).run Try.prog w = .ok (.slice (some ⟨b, o, none⟩) (k + 1) cap) w := fun w => run_upto w b o m cap (k + 1) (by omega)
            have hwr : IntKind.i64.wrap ((k : Int) + 1) = (k : Int) + 1 := by rw [IntKind.wrap_i64]; omega
            have hr2 := hr.upto (k + 1)
            have hlen : (zs.take (k + 1)).length = k + 1 := by simp; omega
            have hby : ∀ c ∈ zs.take (k + 1), Byte c := fun c hc => hb c (List.mem_of_mem_take hc)
            have hseq := str_eq (put_bytes N hN64.1) hby
            have hgot : lget zs = if put N = zs.take (k + 1) then (N, ((k + 1 : Nat) : Int), 0) else (0, 0, 21) := by
              unfold lget
              rw [hl, if_pos (show k < zs.length ∧ k < 10 from ⟨by omega, by omega⟩)]
              unfold gotOf
              rw [← hN, hlen]
            have hcv := conv hr2.drew hlen
            clear hN hl hkl hlead
            by_cases hq : put N = zs.take (k + 1)
            · rw [if_pos hq] at hgot
              have hseq' : ((str (put N)).toList == (str (zs.take (k + 1))).toList) = true := by rw [hseq]; simpa using hq
              clear hseq hq
              go_wp2_with fail
              go_region_with ((go_at_call 65; refine (refPut_any N hN64 _).mono ?_; rintro e w1 ⟨g, cp, rfl, hrd1, hb1⟩; have hcv1 := conv hrd1 rfl; have hcv2 := conv (hr2.drew.below hb1) hlen))
              all_goals
                go_wp2_with fail
                go_ret3
                exact ⟨by rw [HX.out, hgot]; rfl, (Below.refl _ _).drew.trans (by assumption)⟩
            · rw [if_neg hq] at hgot
              have hseq' : ((str (put N)).toList == (str (zs.take (k + 1))).toList) = false := by rw [hseq]; simpa using hq
              clear hseq hq
              go_wp2_with fail
              go_region_with ((go_at_call 65; refine (refPut_any N hN64 _).mono ?_; rintro e w1 ⟨g, cp, rfl, hrd1, hb1⟩; have hcv1 := conv hrd1 rfl; have hcv2 := conv (hr2.drew.below hb1) hlen))
              all_goals
                go_wp2_with fail
                go_ret3
                exact ⟨by rw [HX.out, hgot]; rfl, (Below.refl _ _).drew.trans (by assumption)⟩
      · have hl : k + 1 ≤ lead zs := lead_step zs k hkl (by omega) (by rw [← HC.out]; omega)
        go_wp2_with fail
        go_round
        case rel => exact ⟨k + 1, by omega, by omega, hl, by go_num⟩
        case measure => simp [intOf]; omega
    · have hres : lget zs = (0, 0, 21) := by
        unfold lget
        rw [if_neg]
        omega
      by_cases hltm : k < m
      all_goals
        go_wp2_with fail
        go_ret3
        exact ⟨by rw [HX.out, hres]; rfl, Below.refl _ _⟩
end Go.Proofs.Ytnaofcggdjbocaa.Leb
