/-
  A table's clone.
-/
import Derived.Test.YtdpigcfchjpofaaRouteKeys
import Derived.Shelf.SlMaps.Clone
namespace Go.Proofs.Ytdpigcfchjpofaa.Route
open Go.RowKit Go.Maps Go.Proofs.Ytdpigcfchjpofaa.Mem Go.Proofs.Ytdpigcfchjpofaa.Addr

theorem maps_clone (b : Nat) (es : Array MapEntry) (clock : Nat) (w : World) (hb : w.heap[b]? = some (.map es clock)) :
    Calls Try.prog 25 #[.map (some b)] w fun e w' => e = .returned (.map (some w.heap.size)) ∧ w' = w.alloc (.map es clock) := by
  have hq := fun w => run_eql_map_nil_sl (P := Try.prog) w 54 _ _ (some b) Try.underlying54
  go_enter Try.func25, Try.ntmps25
  go_wp2
  rw [run_callFunc_extern Try.func32 (by kernel_rfl) (by kernel_rfl) (by kernel_rfl) (e := Extern.MapsClone.clone) (by kernel_rfl), run_maps_clone_sl w 54 hb]
  simp only [Result.andThen]
  rw [Oper.upon_value]
  go_wp2
  rw [run_typeAssert_map_sl _ 54 20 _ _ _ Try.underlying54]
  simp only [Result.andThen]
  rw [Oper.upon_value]
  go_wp2
  go_ret
  exact ⟨rfl, rfl⟩
theorem Tab.copied {w : World} {b : Nat} {M : List Rt} (h : Tab w b M) : ∃ es clock, w.heap[b]? = some (.map es clock) ∧ Tab (w.alloc (.map es clock)) w.heap.size M := by
  obtain ⟨hM, D, ⟨es, clock, hb, F, hs, hD⟩, ha⟩ := h
  exact ⟨es, clock, hb, hM, D, ⟨es, clock, (MapKept.heap_alloc w _).1, F, hs, hD⟩, ha⟩
theorem route_Clone {w : World} {g b : Nat} {M : List Rt} (h : TabAt w g b M) :
    Calls Try.prog 17 #[.pointer (some ⟨g, 0, none⟩)] w fun e w' => ∃ g' b', e = .returned (.pointer (some ⟨g', 0, none⟩)) ∧ TabAt w' g' b' M ∧ w.heap.size ≤ g' ∧ w.heap.size ≤ b' ∧ Below w.heap.size w w' := by
  obtain ⟨es, clock, hb, hT⟩ := h.2.copied
  have c0 := h.1
  have hc := maps_clone b es clock w hb
  go_enter Try.func17, Try.ntmps17
  go_wp2_with (go_at_call 25; refine hc.mono ?_; rintro e w1 ⟨rfl, rfl⟩)
  go_ret
  exact ⟨_, _, rfl, ⟨by simp, hT.below (bnew _ _)⟩, by simp, Nat.le_refl _, bnext (bnew _ _) (bnew _ _)⟩
end Go.Proofs.Ytdpigcfchjpofaa.Route
