/-
  No cell of these rows narrows 'for every input' (looked for: loops, veiled, ifaces, maps, wideKeys, modest, calm, conditions, laid).
  DERIVED. THE GIVEN ROWS OF THIS SEAT. 6 by the template 'for every input the law returns true; each argument reads behind the call as it read before'; 0 by the template 'total and deterministic' (their statements: YtcbhenjfjncddaaTotals.lean).
  GIVEN WITH THE SEED: the statements are not yours to turn. If you find one false, say at which input.
  Laid BY PROGRAM, IN A SANDBOX (cutbox-rows.mjs): the forced cells as the released guide's own fill.sh prints them over the translation fc5561ccbef8afce… (all of the seat's roots in one cut). By AI agents, Wed Nov 11 2026. No macro, syntax, notation, axiom, sorry.
-/
import Derived.Test.YtcbhenjfjncddaaChecked
import GoSem.Claim
import GoSem.ClaimJoined
import GoSem.ClaimMapViews
import Derived.JoinedTies
import Derived.KernelRfl
namespace Go.Proofs.Ytcbhenjfjncddaa
/- THE CELL 'sum', in the pinned program and in every row, IS THE sha256 OF THE DUMP (.gsa) THAT YtcbhenjfjncddaaProg.lean LOADS. Nothing in Lean hashes anything: it is a label: what it is worth is what the hold of that sum in a sandbox is worth. -/
noncomputable def Try.pinned : Pinned := { name := "ytcbhenjfjncddaa", sum := "fc5561ccbef8afce50ab6cae48407040aaea1439abfba3e386aee4ee9947cc8b", checked := Try.checked }
namespace Rows
def none {H : Type} : Left H := { results := [], args := [] }

/-- 'floodgatelaw02.LebNames': WHATEVER THE INPUT: true; the input reads as it did. -/
def lebNamesSpec : ChangeSpec := { name := "lebNames", fn := fun _ => fun
  | [] => { results := [.lit (.bool true)], args := [] }
  | _ => none }
def lebNamesRow : OpenClaim := { program := "ytcbhenjfjncddaa", sum := "fc5561ccbef8afce50ab6cae48407040aaea1439abfba3e386aee4ee9947cc8b", func := "floodgate/floodgatelaw02.LebNames", spec := "lebNames", apart := false }
def LebNamesSaid : Prop := lebNamesRow.holds Try.pinned (OpenSpec.ofChange lebNamesSpec)

/-- ITS FALSE NEIGHBOUR: 'it returns false'. Refute it at one input. -/
def lebNamesWrong : ChangeSpec := { name := "lebNames", fn := fun _ => fun
  | [] => { results := [.lit (.bool false)], args := [] }
  | _ => none }
def LebNamesWrongFalsely : Prop := lebNamesRow.holds Try.pinned (OpenSpec.ofChange lebNamesWrong)

/-- 'floodgatelaw02.LebPuts': WHATEVER THE INPUT: true; the input reads as it did. -/
def lebPutsSpec : ChangeSpec := { name := "lebPuts", fn := fun _ => fun
  | [d1, d2] => { results := [.lit (.bool true)], args := [d1, d2] }
  | _ => none }
def lebPutsRow : OpenClaim := { program := "ytcbhenjfjncddaa", sum := "fc5561ccbef8afce50ab6cae48407040aaea1439abfba3e386aee4ee9947cc8b", func := "floodgate/floodgatelaw02.LebPuts", spec := "lebPuts", recurses := true, apart := false }
def LebPutsSaid : Prop := lebPutsRow.holds Try.pinned (OpenSpec.ofChange lebPutsSpec)

/-- ITS FALSE NEIGHBOUR: 'it returns false'. Refute it at one input. -/
def lebPutsWrong : ChangeSpec := { name := "lebPuts", fn := fun _ => fun
  | [d1, d2] => { results := [.lit (.bool false)], args := [d1, d2] }
  | _ => none }
def LebPutsWrongFalsely : Prop := lebPutsRow.holds Try.pinned (OpenSpec.ofChange lebPutsWrong)

/-- 'floodgatelaw02.LebLists': WHATEVER THE INPUT: true; the input reads as it did. -/
def lebListsSpec : ChangeSpec := { name := "lebLists", fn := fun _ => fun
  | [d1, d2] => { results := [.lit (.bool true)], args := [d1, d2] }
  | _ => none }
def lebListsRow : OpenClaim := { program := "ytcbhenjfjncddaa", sum := "fc5561ccbef8afce50ab6cae48407040aaea1439abfba3e386aee4ee9947cc8b", func := "floodgate/floodgatelaw02.LebLists", spec := "lebLists", recurses := true, apart := false }
def LebListsSaid : Prop := lebListsRow.holds Try.pinned (OpenSpec.ofChange lebListsSpec)

/-- ITS FALSE NEIGHBOUR: 'it returns false'. Refute it at one input. -/
def lebListsWrong : ChangeSpec := { name := "lebLists", fn := fun _ => fun
  | [d1, d2] => { results := [.lit (.bool false)], args := [d1, d2] }
  | _ => none }
def LebListsWrongFalsely : Prop := lebListsRow.holds Try.pinned (OpenSpec.ofChange lebListsWrong)

/-- 'floodgatelaw02.LebZigs': WHATEVER THE INPUT: true; the input reads as it did. -/
def lebZigsSpec : ChangeSpec := { name := "lebZigs", fn := fun _ => fun
  | [d1, d2] => { results := [.lit (.bool true)], args := [d1, d2] }
  | _ => none }
def lebZigsRow : OpenClaim := { program := "ytcbhenjfjncddaa", sum := "fc5561ccbef8afce50ab6cae48407040aaea1439abfba3e386aee4ee9947cc8b", func := "floodgate/floodgatelaw02.LebZigs", spec := "lebZigs", apart := false }
def LebZigsSaid : Prop := lebZigsRow.holds Try.pinned (OpenSpec.ofChange lebZigsSpec)

/-- ITS FALSE NEIGHBOUR: 'it returns false'. Refute it at one input. -/
def lebZigsWrong : ChangeSpec := { name := "lebZigs", fn := fun _ => fun
  | [d1, d2] => { results := [.lit (.bool false)], args := [d1, d2] }
  | _ => none }
def LebZigsWrongFalsely : Prop := lebZigsRow.holds Try.pinned (OpenSpec.ofChange lebZigsWrong)

/-- 'floodgatelaw02.LebBack': WHATEVER THE INPUT: true; the input reads as it did. -/
def lebBackSpec : ChangeSpec := { name := "lebBack", fn := fun _ => fun
  | [d1, d2] => { results := [.lit (.bool true)], args := [d1, d2] }
  | _ => none }
def lebBackRow : OpenClaim := { program := "ytcbhenjfjncddaa", sum := "fc5561ccbef8afce50ab6cae48407040aaea1439abfba3e386aee4ee9947cc8b", func := "floodgate/floodgatelaw02.LebBack", spec := "lebBack", apart := false }
def LebBackSaid : Prop := lebBackRow.holds Try.pinned (OpenSpec.ofChange lebBackSpec)

/-- ITS FALSE NEIGHBOUR: 'it returns false'. Refute it at one input. -/
def lebBackWrong : ChangeSpec := { name := "lebBack", fn := fun _ => fun
  | [d1, d2] => { results := [.lit (.bool false)], args := [d1, d2] }
  | _ => none }
def LebBackWrongFalsely : Prop := lebBackRow.holds Try.pinned (OpenSpec.ofChange lebBackWrong)

/-- 'floodgatelaw02.LebApart': WHATEVER THE INPUT: true; the input reads as it did. -/
def lebApartSpec : ChangeSpec := { name := "lebApart", fn := fun _ => fun
  | [d1, d2] => { results := [.lit (.bool true)], args := [d1, d2] }
  | _ => none }
def lebApartRow : OpenClaim := { program := "ytcbhenjfjncddaa", sum := "fc5561ccbef8afce50ab6cae48407040aaea1439abfba3e386aee4ee9947cc8b", func := "floodgate/floodgatelaw02.LebApart", spec := "lebApart", apart := false }
def LebApartSaid : Prop := lebApartRow.holds Try.pinned (OpenSpec.ofChange lebApartSpec)

/-- ITS FALSE NEIGHBOUR: 'it returns false'. Refute it at one input. -/
def lebApartWrong : ChangeSpec := { name := "lebApart", fn := fun _ => fun
  | [d1, d2] => { results := [.lit (.bool false)], args := [d1, d2] }
  | _ => none }
def LebApartWrongFalsely : Prop := lebApartRow.holds Try.pinned (OpenSpec.ofChange lebApartWrong)

/- THE SECOND FORM. 'bulk': how many values and letters a reading holds, each counted each time it is reached (what is shared counts as often as it is met; a slice's spare places count too). A statement '..UptoSaid' is the law's where the arguments, and the package variables that the reading takes, are together of bulk at most 1048576: NARROWER than '..Said'. Prove '..Said' where nothing that the law and all that it calls make is longer than what came in: it says more and counts as full. Else prove '..UptoSaid'. A law counts once. -/
mutual
def uptoBulk {H : Type} : DataW H → Nat
  | .lit (.string bytes) => bytes.length + 1
  | .lit _ => 1
  | .nil => 1
  | .ptr d => uptoBulk d + 1
  | .slice elems spare => uptoBulkAll elems + uptoBulkAll spare + 1
  | .agg parts => uptoBulkAll parts + 1
  | .iface _ d => uptoBulk d + 1
  | .map entries => uptoBulkEntries entries + 1
  | .held _ => 1
def uptoBulkAll {H : Type} : List (DataW H) → Nat
  | [] => 0
  | d :: r => uptoBulk d + uptoBulkAll r
def uptoBulkEntries {H : Type} : List (Lit × DataW H) → Nat
  | [] => 0
  | x :: r => uptoBulkEntry x + uptoBulkEntries r
def uptoBulkEntry {H : Type} : Lit × DataW H → Nat
  | (.string bytes, d) => bytes.length + uptoBulk d + 1
  | (_, d) => uptoBulk d + 1
 end
def uptoSmall : (H : Type) → List (DataW H) → Bool := fun _ ds => decide (uptoBulkAll ds ≤ 1048576)
def OpenSpec.upto (s : _root_.Go.ChangeSpec) : _root_.Go.OpenSpec := { _root_.Go.OpenSpec.ofChange s with cond := some uptoSmall }

/-- 'floodgatelaw02.LebNames', WHERE WHAT IT READS IS OF BULK AT MOST 1048576: true; the input reads as it did. -/
def lebNamesUptoRow : OpenClaim := { program := "ytcbhenjfjncddaa", sum := "fc5561ccbef8afce50ab6cae48407040aaea1439abfba3e386aee4ee9947cc8b", func := "floodgate/floodgatelaw02.LebNames", spec := "lebNames", apart := false, narrowed := true }
def LebNamesUptoSaid : Prop := lebNamesUptoRow.holds Try.pinned (OpenSpec.upto lebNamesSpec)

/-- 'floodgatelaw02.LebPuts', WHERE WHAT IT READS IS OF BULK AT MOST 1048576: true; the input reads as it did. -/
def lebPutsUptoRow : OpenClaim := { program := "ytcbhenjfjncddaa", sum := "fc5561ccbef8afce50ab6cae48407040aaea1439abfba3e386aee4ee9947cc8b", func := "floodgate/floodgatelaw02.LebPuts", spec := "lebPuts", recurses := true, apart := false, narrowed := true }
def LebPutsUptoSaid : Prop := lebPutsUptoRow.holds Try.pinned (OpenSpec.upto lebPutsSpec)

/-- 'floodgatelaw02.LebLists', WHERE WHAT IT READS IS OF BULK AT MOST 1048576: true; the input reads as it did. -/
def lebListsUptoRow : OpenClaim := { program := "ytcbhenjfjncddaa", sum := "fc5561ccbef8afce50ab6cae48407040aaea1439abfba3e386aee4ee9947cc8b", func := "floodgate/floodgatelaw02.LebLists", spec := "lebLists", recurses := true, apart := false, narrowed := true }
def LebListsUptoSaid : Prop := lebListsUptoRow.holds Try.pinned (OpenSpec.upto lebListsSpec)

/-- 'floodgatelaw02.LebZigs', WHERE WHAT IT READS IS OF BULK AT MOST 1048576: true; the input reads as it did. -/
def lebZigsUptoRow : OpenClaim := { program := "ytcbhenjfjncddaa", sum := "fc5561ccbef8afce50ab6cae48407040aaea1439abfba3e386aee4ee9947cc8b", func := "floodgate/floodgatelaw02.LebZigs", spec := "lebZigs", apart := false, narrowed := true }
def LebZigsUptoSaid : Prop := lebZigsUptoRow.holds Try.pinned (OpenSpec.upto lebZigsSpec)

/-- 'floodgatelaw02.LebBack', WHERE WHAT IT READS IS OF BULK AT MOST 1048576: true; the input reads as it did. -/
def lebBackUptoRow : OpenClaim := { program := "ytcbhenjfjncddaa", sum := "fc5561ccbef8afce50ab6cae48407040aaea1439abfba3e386aee4ee9947cc8b", func := "floodgate/floodgatelaw02.LebBack", spec := "lebBack", apart := false, narrowed := true }
def LebBackUptoSaid : Prop := lebBackUptoRow.holds Try.pinned (OpenSpec.upto lebBackSpec)

/-- 'floodgatelaw02.LebApart', WHERE WHAT IT READS IS OF BULK AT MOST 1048576: true; the input reads as it did. -/
def lebApartUptoRow : OpenClaim := { program := "ytcbhenjfjncddaa", sum := "fc5561ccbef8afce50ab6cae48407040aaea1439abfba3e386aee4ee9947cc8b", func := "floodgate/floodgatelaw02.LebApart", spec := "lebApart", apart := false, narrowed := true }
def LebApartUptoSaid : Prop := lebApartUptoRow.holds Try.pinned (OpenSpec.upto lebApartSpec)

end Rows
end Go.Proofs.Ytcbhenjfjncddaa
