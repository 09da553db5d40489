/-
  Which policies can be: the document's Right.
-/
import Derived.Test.YtnaofcggdjbocabAddrNet
import Derived.Test.YtnaofcggdjbocabPolRight
/-
  The document's numbers and networks: Of, Num, bounded, Cut.
-/
namespace Go.Proofs.Ytnaofcggdjbocab.Addr
open Go.RowKit Go.Proofs.Ytnaofcggdjbocab.Mem

end Go.Proofs.Ytnaofcggdjbocab.Addr
/-
  The document's networks: Right, In, Within.
-/
namespace Go.Proofs.Ytnaofcggdjbocab.Addr
open Go.RowKit Go.Proofs.Ytnaofcggdjbocab.Mem






end Go.Proofs.Ytnaofcggdjbocab.Addr
namespace Go.Proofs.Ytnaofcggdjbocab.Policy
open Go.RowKit Go.Proofs.Ytnaofcggdjbocab.Mem Go.Proofs.Ytnaofcggdjbocab.Addr
set_option maxRecDepth 100000

end Go.Proofs.Ytnaofcggdjbocab.Policy
