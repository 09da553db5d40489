/-
  The chapter's lines of layer 8 hold, and a record goes there and back.
-/
import Derived.Test.YthgafnommcodcaaFrameOpened
import Derived.Lib.SlBytesConst
namespace Go.Proofs.Ythgafnommcodcaa.Frame
open Go.RowKit Go.Proofs.Ythgafnommcodcaa.Mem Go.Proofs.Ythgafnommcodcaa.Sect Go.Proofs.Ythgafnommcodcaa.Crc
set_option maxRecDepth 100000

theorem made_bytes {s e : Nat} {p : List Int} (h : ∀ c ∈ p, Byte c) : ∀ x ∈ made s e p, ∀ c ∈ x.1, Byte c := by
  intro x hx c hc
  have hm : c ∈ flat (made s e p) := List.mem_flatMap.2 ⟨x, hx, hc⟩
  cases hr : right s p with
  | false => simp [made, hr] at hx
  | true =>
    rw [flat_made hr] at hm
    exact zeros_bytes (sealed_bytes (plain_bytes h)) _ c hm
theorem conv_const (w : World) (C : Array Value) (n c : Nat) : (convert 48 48 (.slice (some ⟨w.heap.size, 0, none⟩) n c)).run Try.prog (w.alloc (.cells C 5)) = .ok (.slice (some ⟨w.heap.size, 0, none⟩) n c) (w.alloc (.cells C 5 (C.size, C.size + 1))) :=
  Lib.run_convert_bytes_const w _ _ C n c Try.underlying48 Try.underlying5
theorem const_reads {e : TypeId} {w : World} {cs : Array Value} {fr : Nat × Nat} {n : Nat} {zs : List Int} (hcs : cs = (zs.map (Value.int .u8)).toArray) (hn : n = zs.length) (hl : zs.length ≤ 1000) :
    Reads .u8 (w.alloc (.cells cs e fr)) (some ⟨w.heap.size, 0, none⟩) n zs := by
  subst hcs hn
  refine ⟨Nat.le_refl _, by unfold maxLen; omega, fun h => by simp at h, fun _ => ⟨_, _, rfl, by simp, fun i hi => ?_⟩⟩
  have hh := heap_alloc_new w (.cells (zs.map (Value.int .u8)).toArray e fr)
  rw [Nat.zero_add, World.cell?, hh]
  simp [hi]
theorem ex_bytes : ∀ c ∈ ([104, 105] : List Int), Byte c := by
  intro c hc
  simp only [List.mem_cons, List.not_mem_nil, or_false] at hc
  rcases hc with rfl | rfl <;> exact ⟨by decide, by decide⟩
theorem bal {w w' : World} (h : Below w.heap.size w w') (o : Obj) : Below w.heap.size w (w'.alloc o) := h.alloc h.size o
end Go.Proofs.Ythgafnommcodcaa.Frame
