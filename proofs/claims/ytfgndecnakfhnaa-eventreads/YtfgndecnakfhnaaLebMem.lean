/-
  Slices of bytes as the library reads them.
-/
import Derived.Test.YtfgndecnakfhnaaShelf
import Derived.Test.YtfgndecnakfhnaaMem
import Derived.Test.YtfgndecnakfhnaaLebPlain
namespace Go.Proofs.Ytfgndecnakfhnaa.Mem
open Go.RowKit
theorem Reads.bytesIn {w : World} {p : Option Addr} {cap n : Nat} {zs : List Int} (h : Reads .u8 w p cap zs) (hn : zs.length = n) : Lib.BytesIn w p n zs := by
  subst hn
  intro hz
  obtain ⟨b, o, e, _, hc⟩ := h.2.2.2 hz
  exact ⟨b, o, e, hc⟩
end Go.Proofs.Ytfgndecnakfhnaa.Mem
namespace Go.Proofs.Ytfgndecnakfhnaa.Leb
theorem info_word : (Try.prog.info? 28).map (fun i => (i.zero, i.size, i.bytes)) = some (some (.int .u64 0), 1, 8) := by kernel_rfl
end Go.Proofs.Ytfgndecnakfhnaa.Leb
