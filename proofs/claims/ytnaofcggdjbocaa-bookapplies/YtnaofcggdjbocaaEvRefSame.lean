/-
  The same events, in the document's words: floodgateref12.Same. (Written by gen_evrsame.py.)
-/
import Derived.Test.YtnaofcggdjbocaaEvCommit
namespace Go.Proofs.Ytnaofcggdjbocaa.Event
open Go.RowKit Go.Proofs.Ytnaofcggdjbocaa.Mem Go.Proofs.Ytnaofcggdjbocaa.Policy
set_option maxRecDepth 100000

end Go.Proofs.Ytnaofcggdjbocaa.Event
