/-
  What numbers of 64 bits lie in.
-/
import Derived.Test.YtnaofcggdjbocabShelf
import Derived.Test.YtnaofcggdjbocabMem
import Derived.Test.YtnaofcggdjbocabBkPlain
namespace Go.Proofs.Ytnaofcggdjbocab.Leb
theorem info_word : (Try.prog.info? 22).map (fun i => (i.zero, i.size, i.bytes)) = some (some (.int .u64 0), 1, 8) := by kernel_rfl
end Go.Proofs.Ytnaofcggdjbocab.Leb
