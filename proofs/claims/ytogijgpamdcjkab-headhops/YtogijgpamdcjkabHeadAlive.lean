/-
  The chapter's example of layer 5 holds, and a packet there and back.
-/
import Derived.Test.YtogijgpamdcjkabHeadHop
import Derived.Lib.SlBytesConst
import Derived.ChangeKeysEq
namespace Go.Proofs.Ytogijgpamdcjkab.Head
open Go.RowKit Go.Proofs.Ytogijgpamdcjkab.Mem

theorem cells_u8 : Try.prog.cellsOf 5 = 1 := by kernel_rfl
theorem info_u8 : ∃ i, Try.prog.info? 5 = some i := Option.isSome_iff_exists.1 (by kernel_rfl)
theorem guard_addr : Try.prog.eqGuardType Try.prog.depth 23 = false := by kernel_rfl
theorem eq4 (d : Nat) (v0 v1 v2 v3 u0 u1 u2 u3 : Int) (w : World) :
    (Op.equalIn (d + 2) 23 (.agg #[.int .u8 v0, .int .u8 v1, .int .u8 v2, .int .u8 v3]) (.agg #[.int .u8 u0, .int .u8 u1, .int .u8 u2, .int .u8 u3])).run Try.prog w = .ok (v0 == u0 && v1 == u1 && v2 == u2 && v3 == u3) w := by
  obtain ⟨i, hi⟩ := info_u8
  rw [run_equalIn_array w (d + 1) _ _ Try.underlying23 hi, cells_u8]
  have r : List.range 4 = [0, 1, 2, 3] := rfl
  rw [r]
  simp only [Op.eqItems]
  simp [go_sem, part, Try.sizeOf5, Try.isAgg5]
  by_cases h0 : v0 = u0 <;> by_cases h1 : v1 = u1 <;> by_cases h2 : v2 = u2 <;> by_cases h3 : v3 = u3 <;> simp [h0, h1, h2, h3]
theorem eq4_self (v0 v1 v2 v3 : Int) (w : World) :
    (Op.equalIn 10000 23 (.agg #[.int .u8 v0, .int .u8 v1, .int .u8 v2, .int .u8 v3]) (.agg #[.int .u8 v0, .int .u8 v1, .int .u8 v2, .int .u8 v3])).run Try.prog w = .ok true w := by
  rw [eq4 9998]; simp
/-- A slice that is typed out as a string of letters. -/
theorem const_reads {e : TypeId} {w : World} {cs : Array Value} {fr : Nat × Nat} {n : Nat} {zs : List Int} (hcs : cs = (zs.map (Value.int .u8)).toArray) (hn : n = zs.length) (hl : zs.length ≤ 1000) :
    Reads .u8 (w.alloc (.cells cs e fr)) (some ⟨w.heap.size, 0, none⟩) n zs := by
  subst hcs hn
  refine ⟨Nat.le_refl _, by unfold maxLen; omega, fun h => by simp at h, fun _ => ⟨_, _, rfl, by simp, fun i hi => ?_⟩⟩
  have hh := heap_alloc_new w (.cells (zs.map (Value.int .u8)).toArray e fr)
  rw [Nat.zero_add, World.cell?, hh]
  simp [hi]
theorem conv_const (w : World) (C : Array Value) (n c : Nat) : (convert 24 24 (.slice (some ⟨w.heap.size, 0, none⟩) n c)).run Try.prog (w.alloc (.cells C 5)) = .ok (.slice (some ⟨w.heap.size, 0, none⟩) n c) (w.alloc (.cells C 5 (C.size, C.size + 1))) :=
  Lib.run_convert_bytes_const w _ _ C n c Try.underlying24 Try.underlying5
def exH : Hd := ⟨0, 0, 0, 9, 0, 0, 0, 0, 0, 1, 2, 3, 4⟩
theorem exH_right : rightB exH 0 = true := by decide
theorem exH_ads : Ads exH := by unfold Ads Byte exH; decide
theorem ex_bytes : ∀ c ∈ ([104, 105] : List Int), Byte c := by
  intro c hc
  simp only [List.mem_cons, List.not_mem_nil, or_false] at hc
  rcases hc with rfl | rfl <;> exact ⟨by decide, by decide⟩
theorem no_bytes : ∀ c ∈ ([] : List Int), Byte c := by intro c hc; cases hc
theorem ex_sum : sumI [0, 1, 242, 3] = 3579 := by decide +kernel
set_option maxHeartbeats 1000000 in
theorem alive_any (w : World) : Calls Try.prog 5 #[] w fun e w' => e = .returned (.bool true) ∧ Below w.heap.size w w' := by
  have hk := conv_const w
  have hgd := guard_addr
  have heq := fun w => eq4_self 1 2 3 4 w
  have h2 : Reads .u8 (w.alloc (.cells #[.int .u8 104, .int .u8 105] 5 (2, 3))) (some ⟨w.heap.size, 0, none⟩) 2 [104, 105] := const_reads rfl rfl (by decide)
  have hmk := make_ok exH none 0 0 [] rfl (some ⟨w.heap.size, 0, none⟩) 2 2 [104, 105] rfl 22 rfl exH_right exH_ads no_bytes (by decide) _ (Reads.nil _ _) h2
  obtain ⟨e1, e2, e3, e4, _⟩ := packet_read (h := exH) (os := []) (ps := [104, 105]) exH_right exH_ads no_bytes (by decide)
  have hb := packet_bytes (h := exH) (os := []) (ps := [104, 105]) exH_right exH_ads no_bytes ex_bytes (by decide)
  have hl : (packet exH [] [104, 105]).length = 22 := packet_length _ _ _
  have hrd := fun q c W r => read_ok q 22 c (packet exH [] [104, 105]) hl hb e1 0 2 (by rw [e3]; rfl) (by rw [e4]; rfl) W r
  rw [e2, e3, e4] at hrd
  simp only [exH] at hmk hrd hl
  generalize packet (Hd.mk 0 0 0 9 0 0 0 0 0 1 2 3 4) [] [104, 105] = pk at hmk hrd hl
  have hsm := fun (W : World) => head_Sum (some ⟨W.heap.size, 0, none⟩) 4 4 [0, 1, 242, 3] rfl (by intro c hc; simp only [List.mem_cons, List.not_mem_nil, or_false] at hc; rcases hc with rfl | rfl | rfl | rfl <;> exact ⟨by decide, by decide⟩) (by omega) (W.alloc (.cells #[.int .u8 0, .int .u8 1, .int .u8 242, .int .u8 3] 5)) (lit_reads rfl rfl (by simp))
  rw [ex_sum] at hsm
  have hst : str [104, 105] = ⟨#[104, 105]⟩ := rfl
  clear e1 e2 e3 e4 hb h2
  go_enter Try.func5, Try.ntmps5
  go_wp2_with (go_at_call 6; refine hmk.mono ?_)
  rintro e w1 ⟨g, rfl, hg, B1, hb1⟩
  have r1 : Reads .u8 w1 (some ⟨g, 0, none⟩) 22 pk := by have := Blk.reads B1 (by omega); rw [hl] at this; exact this
  have hrd1 := hrd _ _ _ r1
  clear hmk hk
  go_wp2_with (go_at_call 8; refine hrd1.mono ?_)
  rintro e w2 ⟨oq, oc, pq, pc, rfl, ro, rp, hb2⟩
  have hsm1 := hsm (w2.alloc (.cells #[.int .i64 0, .int .i64 0, .int .i64 0, .int .i64 9, .int .i64 0, .int .u8 0, .int .u8 0, .int .u8 0, .int .u8 0, .int .u8 1, .int .u8 2, .int .u8 3, .int .u8 4, .slice oq 0 oc] 26))
  have hcv := conv ((rp.alloc (.cells #[.int .i64 0, .int .i64 0, .int .i64 0, .int .i64 9, .int .i64 0, .int .u8 0, .int .u8 0, .int .u8 0, .int .u8 0, .int .u8 1, .int .u8 2, .int .u8 3, .int .u8 4, .slice oq 0 oc] 26)).alloc (.cells #[.int .u8 0, .int .u8 1, .int .u8 242, .int .u8 3] 5)) (n := 2) rfl
  rw [hst] at hcv
  simp only [World.size_alloc] at hsm1
  clear hrd hrd1 hsm
  go_wp2_with (go_at_call 9; refine hsm1.mono ?_; rintro e w3 ⟨rfl, rfl⟩)
  go_ret
  exact ⟨rfl, bal (bal (bnext (bnext (bnew _ _) hb1) hb2) _) _⟩
end Go.Proofs.Ytogijgpamdcjkab.Head
