/-
  The ranges of the kinds of integers that the programs handle; nothing of a program is named here.
-/
import GoSem.Claim
namespace Go.Proofs.Ytnaofcggdjbocaa
def Word (x : Int) : Prop := 0 ≤ x ∧ x ≤ 18446744073709551615
def Half (x : Int) : Prop := 0 ≤ x ∧ x < 4294967296
def Inty (n : Int) : Prop := -9223372036854775808 ≤ n ∧ n ≤ 9223372036854775807
def Byte (c : Int) : Prop := 0 ≤ c ∧ c < 256
theorem word_of_wf {x : Int} (h : (Lit.int .u64 x).wf = true) : Word x := by
  simp [Lit.wf, IntKind.min, IntKind.max, IntKind.signed, IntKind.bits] at h
  exact ⟨by omega, by omega⟩
theorem half_of_wf {x : Int} (h : (Lit.int .u32 x).wf = true) : Half x := by
  simp [Lit.wf, IntKind.min, IntKind.max, IntKind.signed, IntKind.bits] at h
  exact ⟨by omega, by omega⟩
theorem inty_of_wf {x : Int} (h : (Lit.int .i64 x).wf = true) : Inty x := by
  simp [Lit.wf, IntKind.min, IntKind.max, IntKind.signed, IntKind.bits] at h
  exact ⟨by omega, by omega⟩
theorem byte_of_wf {x : Int} (h : (Lit.int .u8 x).wf = true) : Byte x := by
  simp [Lit.wf, IntKind.min, IntKind.max, IntKind.signed, IntKind.bits] at h
  exact ⟨by omega, by omega⟩
end Go.Proofs.Ytnaofcggdjbocaa
