/-
  What the rows' condition gives the walks: the library's table lies where its initialiser lays it; and a world that meets the condition.
-/
import Derived.Test.YtfpgcebphfpkiaaDoorRows
import Derived.Test.YtfpgcebphfpkiaaDoorCrcBurst
import Derived.LaidMore
import Derived.Lib.LaidTab
import Derived.Stop.Joined
namespace Go.Proofs.YtfpgcebphfpkiaaDoor.Door
open Go.ChangeShapes Go.WideShapes Go.RowKit

def laid : List (String × DataW Unit) := [("math/bits.deBruijn32tab", Rows.laid_math_bits_deBruijn32tab)]
abbrev steps : Nat := 14
def Fact (w : World) : Prop := Crc.Table w
theorem named : Tryd.prog.globalNamed "math/bits.deBruijn32tab" = some 0 := by kernel_rfl
theorem typed : (Tryd.prog.globals[0]?).map (·.type) = some 41 := by kernel_rfl
theorem cells1 : Tryd.prog.cellsOf 5 = 1 := by kernel_rfl
theorem cells32 : Tryd.prog.cellsOf 41 = 32 := by kernel_rfl
theorem of_laid {W : World} (h : laidMetH Tryd.prog laid W) : Fact W := by
  have h1 : laidMet Tryd.prog [("math/bits.deBruijn32tab", Lib.tabData .u8 (Lib.deBruijn32tab.map Int.ofNat))] W := h
  have hT := Lib.tabIs_of_head named typed Tryd.underlying41 Tryd.underlying5 cells1 cells32 h1
  intro j hj
  have hlen : (Lib.deBruijn32tab.map Int.ofNat).length = 32 := by decide
  have key : ∀ j < 32, (Lib.deBruijn32tab.map Int.ofNat).getD j 0 = ((Lib.deBruijn32tab.getD j 0 : Nat) : Int) := by decide +kernel
  rw [hT.cell named j (by rw [hlen]; exact hj), key j hj]
theorem met (os : Os) (args : Array Value) : laidMetH Tryd.prog laid ((World.doorLaid Tryd.prog steps os).forCall (fun _ _ => 0) ⟨#[], args, []⟩).memory :=
  laidMetH_of_parts3 (fuel := 8) (laidMet_of_run' 8 (by kernel_rfl) (by kernel_rfl)) (by kernel_rfl) (by kernel_rfl)
end Go.Proofs.YtfpgcebphfpkiaaDoor.Door
