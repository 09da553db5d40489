/-
  The chapter's example of layer 8 holds, and a record there and back.
-/
import Derived.Test.YtdjcdpmnijcenaaFrameOpened
import Derived.Lib.SlBytesConst
namespace Go.Proofs.Ytdjcdpmnijcenaa.Frame
open Go.RowKit Go.Proofs.Ytdjcdpmnijcenaa.Mem Go.Proofs.Ytdjcdpmnijcenaa.Sect Go.Proofs.Ytdjcdpmnijcenaa.Crc
set_option maxRecDepth 100000

theorem made_bytes {s e : Nat} {p : List Int} (h : ∀ c ∈ p, Byte c) : ∀ x ∈ made s e p, ∀ c ∈ x.1, Byte c := by
  intro x hx c hc
  have hm : c ∈ flat (made s e p) := List.mem_flatMap.2 ⟨x, hx, hc⟩
  cases hr : right s p with
  | false => simp [made, hr] at hx
  | true =>
    rw [flat_made hr] at hm
    exact zeros_bytes (sealed_bytes (plain_bytes h)) _ c hm
theorem conv_const (w : World) (C : Array Value) (n c : Nat) : (convert 28 28 (.slice (some ⟨w.heap.size, 0, none⟩) n c)).run Try.prog (w.alloc (.cells C 5)) = .ok (.slice (some ⟨w.heap.size, 0, none⟩) n c) (w.alloc (.cells C 5 (C.size, C.size + 1))) :=
  Lib.run_convert_bytes_const w _ _ C n c Try.underlying28 Try.underlying5
theorem const_reads {e : TypeId} {w : World} {cs : Array Value} {fr : Nat × Nat} {n : Nat} {zs : List Int} (hcs : cs = (zs.map (Value.int .u8)).toArray) (hn : n = zs.length) (hl : zs.length ≤ 1000) :
    Reads .u8 (w.alloc (.cells cs e fr)) (some ⟨w.heap.size, 0, none⟩) n zs := by
  subst hcs hn
  refine ⟨Nat.le_refl _, by unfold maxLen; omega, fun h => by simp at h, fun _ => ⟨_, _, rfl, by simp, fun i hi => ?_⟩⟩
  have hh := heap_alloc_new w (.cells (zs.map (Value.int .u8)).toArray e fr)
  rw [Nat.zero_add, World.cell?, hh]
  simp [hi]
theorem ex_bytes : ∀ c ∈ ([104, 105] : List Int), Byte c := by
  intro c hc
  simp only [List.mem_cons, List.not_mem_nil, or_false] at hc
  rcases hc with rfl | rfl <;> exact ⟨by decide, by decide⟩
theorem bal {w w' : World} (h : Below w.heap.size w w') (o : Obj) : Below w.heap.size w (w'.alloc o) := h.alloc h.size o
set_option maxHeartbeats 1000000 in
theorem alive_any (w : World) : Calls Try.prog 11 #[] w fun e w' => e = .returned (.bool true) ∧ Below w.heap.size w w' := by
  have hk := conv_const w
  have h2 : Reads .u8 (w.alloc (.cells #[.int .u8 104, .int .u8 105] 5 (2, 3))) (some ⟨w.heap.size, 0, none⟩) 2 [104, 105] := const_reads rfl rfl (by decide)
  have hr : right 5 [104, 105] = true := by decide
  have hmk := frame_Make 5 2 (some ⟨w.heap.size, 0, none⟩) 2 2 [104, 105] rfl (by omega) (by omega) ex_bytes _ h2
  have hg := got_made (s := 5) (e := 2) (p := [104, 105]) hr (by decide) (by decide) []
  rw [List.append_nil] at hg
  have hl : (made 5 2 [104, 105]).length = 1 := by rw [made_len hr]; rfl
  have hf : fault 5 [104, 105] = 0 := by decide
  rw [hl] at hg hmk
  rw [hf] at hmk
  have hop := fun q c W r => frame_Open q 1 c (made 5 2 [104, 105]) hl (by omega) (made_bytes ex_bytes) W r
  rw [hg] at hop
  unfold told at hop
  have hst : str [104, 105] = ⟨#[104, 105]⟩ := rfl
  have hS0 := fun w => frame_Size 0 w
  rw [show sizeI 0 = 1 by decide] at hS0
  have hb1 := bnew w (.cells #[.int .u8 104, .int .u8 105] 5 (2, 3))
  generalize made 5 2 [104, 105] = M at *
  go_enter Try.func11, Try.ntmps11
  go_wp2_with (first
    | (go_at_call 9; refine hmk.mono ?_; rintro e w1 ⟨q1, c1, rfl, r1, hb2⟩)
    | (go_at_call 10; refine (hop q1 c1 w1 r1).mono ?_; rintro e w2 ⟨q2, c2, rfl, r2, hb3⟩; have hcv := fun o => conv (n := 2) (r2.alloc o) rfl)
    | (go_at_call 12; refine (hS0 _).mono ?_; rintro e w3 ⟨rfl, rfl⟩))
  go_ret
  exact ⟨rfl, bal (bnext (bnext hb1 hb2) hb3) _⟩
end Go.Proofs.Ytdjcdpmnijcenaa.Frame
