/-
  What is no packet: head.Read.
-/
import Derived.Test.YtogijgpamdcjkaaHeadRead
import Derived.Test.YtogijgpamdcjkaaHeadFill
import Derived.Test.YtogijgpamdcjkaaInv
import Derived.Deep.RegionLaw
import Derived.Deep.RegionHeldLaw
namespace Go.Proofs.Ytogijgpamdcjkaa.Head
open Go.RowKit Go.Proofs.Ytogijgpamdcjkaa.Mem

/-- A header of nothing, as cells. -/
def zcs : List Value := [.int .i64 0, .int .i64 0, .int .i64 0, .int .i64 0, .int .i64 0, .int .u8 0, .int .u8 0, .int .u8 0, .int .u8 0, .int .u8 0, .int .u8 0, .int .u8 0, .int .u8 0, .slice none 0 0]
/-- Fourteen cells of one block that are written. -/
theorem sets14 (X : World) (G : Nat) (v0 v1 v2 v3 v4 v5 v6 v7 v8 v9 v10 v11 v12 v13 : Value) : X.grownBy ((((((((((((((X.setCell ⟨G, 0, none⟩ v0).setCell ⟨G, 1, none⟩ v1).setCell ⟨G, 2, none⟩ v2).setCell ⟨G, 3, none⟩ v3).setCell ⟨G, 4, none⟩ v4).setCell ⟨G, 5, none⟩ v5).setCell ⟨G, 6, none⟩ v6).setCell ⟨G, 7, none⟩ v7).setCell ⟨G, 8, none⟩ v8).setCell ⟨G, 9, none⟩ v9).setCell ⟨G, 10, none⟩ v10).setCell ⟨G, 11, none⟩ v11).setCell ⟨G, 12, none⟩ v12).setCell ⟨G, 13, none⟩ v13) (some G) :=
  (((((((((((((only_put X ⟨G, 0, none⟩ v0).trans (only_put _ ⟨G, 1, none⟩ v1)).trans (only_put _ ⟨G, 2, none⟩ v2)).trans (only_put _ ⟨G, 3, none⟩ v3)).trans (only_put _ ⟨G, 4, none⟩ v4)).trans (only_put _ ⟨G, 5, none⟩ v5)).trans (only_put _ ⟨G, 6, none⟩ v6)).trans (only_put _ ⟨G, 7, none⟩ v7)).trans (only_put _ ⟨G, 8, none⟩ v8)).trans (only_put _ ⟨G, 9, none⟩ v9)).trans (only_put _ ⟨G, 10, none⟩ v10)).trans (only_put _ ⟨G, 11, none⟩ v11)).trans (only_put _ ⟨G, 12, none⟩ v12)).trans (only_put _ ⟨G, 13, none⟩ v13)
theorem put14 {X : World} {G : Nat} {t : TypeId} {cs : List Value} (h : Blk X G t cs) (hl : cs.length = 14) (v0 v1 v2 v3 v4 v5 v6 v7 v8 v9 v10 v11 v12 v13 : Value) : Blk ((((((((((((((X.setCell ⟨G, 0, none⟩ v0).setCell ⟨G, 1, none⟩ v1).setCell ⟨G, 2, none⟩ v2).setCell ⟨G, 3, none⟩ v3).setCell ⟨G, 4, none⟩ v4).setCell ⟨G, 5, none⟩ v5).setCell ⟨G, 6, none⟩ v6).setCell ⟨G, 7, none⟩ v7).setCell ⟨G, 8, none⟩ v8).setCell ⟨G, 9, none⟩ v9).setCell ⟨G, 10, none⟩ v10).setCell ⟨G, 11, none⟩ v11).setCell ⟨G, 12, none⟩ v12).setCell ⟨G, 13, none⟩ v13) G t [v0, v1, v2, v3, v4, v5, v6, v7, v8, v9, v10, v11, v12, v13] := by
  match cs, hl with
  | [_, _, _, _, _, _, _, _, _, _, _, _, _, _], _ => exact (((((((((((((h.put 0 v0).put 1 v1).put 2 v2).put 3 v3).put 4 v4).put 5 v5).put 6 v6).put 7 v7).put 8 v8).put 9 v9).put 10 v10).put 11 v11).put 12 v12).put 13 v13
set_option maxRecDepth 100000 in
theorem read_err (p : Option Addr) (n c : Nat) (xs : List Int) (l : xs.length = n) (hx : ∀ c ∈ xs, Byte c) (hn : n ≤ 9223372036854775807) (E : Int) (hE : faultE xs = E) (h0 : E ≠ 0) (w : World) (r : Reads .u8 w p c xs) :
    Calls Try.prog 9 #[.slice p n c] w fun e w' => e = .returned (.tuple #[.agg #[.int .i64 0, .int .i64 0, .int .i64 0, .int .i64 0, .int .i64 0, .int .u8 0, .int .u8 0, .int .u8 0, .int .u8 0, .int .u8 0, .int .u8 0, .int .u8 0, .int .u8 0, .slice none 0 0], .slice none 0 0, .int .i64 E]) ∧ Below w.heap.size w w' := by
  have hf := fun w' (hb : Below w.heap.size w w') => head_fault p n c xs l hx hn w' (r.below hb)
  rw [hE] at hf
  have d0 : (E == 0) = false := by simp [h0]
  have hz := fun w1 (hb : Below (w.alloc (.cells #[.int .i64 0, .int .i64 0, .int .i64 0, .int .i64 0, .int .i64 0, .int .u8 0, .int .u8 0, .int .u8 0, .int .u8 0, .int .u8 0, .int .u8 0, .int .u8 0, .int .u8 0, .slice none 0 0] 26)).heap.size (w.alloc (.cells #[.int .i64 0, .int .i64 0, .int .i64 0, .int .i64 0, .int .i64 0, .int .u8 0, .int .u8 0, .int .u8 0, .int .u8 0, .int .u8 0, .int .u8 0, .int .u8 0, .int .u8 0, .slice none 0 0] 26)) w1) => (Blk.new w #[.int .i64 0, .int .i64 0, .int .i64 0, .int .i64 0, .int .i64 0, .int .u8 0, .int .u8 0, .int .u8 0, .int .u8 0, .int .u8 0, .int .u8 0, .int .u8 0, .int .u8 0, .slice none 0 0] 26).below hb
  clear hE h0
  go_enter Try.func9, Try.ntmps9
  go_wp2_with (go_at_call 19; refine (hf _ (bnew _ _)).mono ?_; rintro e w1 ⟨rfl, hb1⟩; have kz := (hz _ hb1).cell; have fz := (hz _ hb1).frozen)
  exact bodyPost_ret (v := .tuple #[.agg #[.int .i64 0, .int .i64 0, .int .i64 0, .int .i64 0, .int .i64 0, .int .u8 0, .int .u8 0, .int .u8 0, .int .u8 0, .int .u8 0, .int .u8 0, .int .u8 0, .int .u8 0, .slice none 0 0], .slice none 0 0, .int .i64 E]) (by simp [results, Try.results9, go_sem, kz]) rfl ⟨rfl, (bnext (bnew _ _) hb1).grown (sets14 _ _ _ _ _ _ _ _ _ _ _ _ _ _ _ _) (bnext (bnew w (.cells #[.int .i64 0, .int .i64 0, .int .i64 0, .int .i64 0, .int .i64 0, .int .u8 0, .int .u8 0, .int .u8 0, .int .u8 0, .int .u8 0, .int .u8 0, .int .u8 0, .int .u8 0, .slice none 0 0] 26)) hb1).size (by intro k hk; simp at hk; omega)⟩
end Go.Proofs.Ytogijgpamdcjkaa.Head
