/-
  Slices of bytes as the library reads them.
-/
import Derived.Test.YtnaofcggdjbocaaShelf
import Derived.Test.YtnaofcggdjbocaaMem
import Derived.Test.YtnaofcggdjbocaaBkPlain
namespace Go.Proofs.Ytnaofcggdjbocaa.Mem
open Go.RowKit
theorem Reads.bytesIn {w : World} {p : Option Addr} {cap n : Nat} {zs : List Int} (h : Reads .u8 w p cap zs) (hn : zs.length = n) : Lib.BytesIn w p n zs := by
  subst hn
  intro hz
  obtain ⟨b, o, e, _, hc⟩ := h.2.2.2 hz
  exact ⟨b, o, e, hc⟩
end Go.Proofs.Ytnaofcggdjbocaa.Mem
namespace Go.Proofs.Ytnaofcggdjbocaa.Leb
theorem info_word : (Try.prog.info? 22).map (fun i => (i.zero, i.size, i.bytes)) = some (some (.int .u64 0), 1, 8) := by kernel_rfl
end Go.Proofs.Ytnaofcggdjbocaa.Leb
