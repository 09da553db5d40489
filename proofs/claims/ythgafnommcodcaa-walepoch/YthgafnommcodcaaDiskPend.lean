/-
  What is pending, as the list of its places; a new disk.
-/
import Derived.Test.YthgafnommcodcaaDiskRead
namespace Go.Proofs.Ythgafnommcodcaa.Disk
open Go.RowKit Go.Proofs.Ythgafnommcodcaa.Mem Go.Proofs.Ythgafnommcodcaa.Sect
open Go.Proofs.Ythgafnommcodcaa.Frame (Sec zero)
set_option maxRecDepth 100000

/-- A disk that was just made. -/
theorem fresh_dk {w w1 : World} {n : Nat} (ho : w1.ownsRow w.heap.size 70 64 (.slice (some ⟨w.heap.size, 0, none⟩) n n) n ((List.replicate n zero).flatMap sc)) (hg : w.grownBy w1 none) :
    Dk w.heap.size (fun k => k = w.heap.size ∨ k = w1.heap.size) (w1.alloc (.cells #[.slice (some ⟨w.heap.size, 0, none⟩) n n, .slice none 0 0, .bool false, .int .i64 (-1)] 83)) w1.heap.size (fresh n) ∧ Below w.heap.size w (w1.alloc (.cells #[.slice (some ⟨w.heap.size, 0, none⟩) n n, .slice none 0 0, .bool false, .int .i64 (-1)] 83)) := by
  have hl := (ho.lt w.heap.size rfl).2
  have e1 : (fresh n).st.length = n := by simp [fresh]
  refine ⟨⟨_, _, Blk.new _ _ _, ?_, ?_, .inr rfl, ?_, ?_, ?_⟩, ?_⟩
  · rw [e1]; exact ho.alloc _
  · exact ⟨by simp [fresh], .inl ⟨rfl, rfl⟩⟩
  · intro b hb
    simp [Value.ownBlock] at hb
    subst hb
    exact ⟨.inl rfl, by omega⟩
  · intro b hb; simp [Value.ownBlock] at hb
  · rintro k (rfl | rfl)
    · exact ⟨Nat.le_refl _, by simp; omega⟩
    · exact ⟨by omega, by simp⟩
  · exact bnext ((Below.refl w.heap.size w).grown hg (Nat.le_refl _) (by simp)) (bnew _ _)
theorem new_any (x : Int) (w : World) :
    Calls Try.prog 8 #[.int .i64 x] w fun e w' => ∃ g S, e = .returned (.pointer (some ⟨g, 0, none⟩)) ∧ Dk w.heap.size S w' g (fresh (clamp x)) ∧ Below w.heap.size w w' := by
  obtain ⟨n, hn⟩ : ∃ n, clamp x = n := ⟨_, rfl⟩
  have hn2 : n ≤ 512 := by unfold clamp at hn; omega
  have hmin : min (max x 0) 512 = (n : Int) := by unfold clamp at hn; omega
  rw [hn]
  rcases Int.lt_or_le x 0 with h0 | h0
  · obtain ⟨w1, hr, ho, hg⟩ := run_make_secs w n 0 (by omega) (by omega)
    obtain ⟨hD, hB⟩ := fresh_dk ho hg
    go_enter Try.func8, Try.ntmps8
    go_wp2
    go_ret
    exact ⟨_, _, rfl, hD, hB⟩
  · rcases Int.lt_or_le 512 x with h5 | h5
    · obtain ⟨w1, hr, ho, hg⟩ := run_make_secs w n 512 (by omega) (by omega)
      obtain ⟨hD, hB⟩ := fresh_dk ho hg
      go_enter Try.func8, Try.ntmps8
      go_wp2
      go_ret
      exact ⟨_, _, rfl, hD, hB⟩
    · obtain ⟨w1, hr, ho, hg⟩ := run_make_secs w n x (by omega) (by omega)
      obtain ⟨hD, hB⟩ := fresh_dk ho hg
      go_enter Try.func8, Try.ntmps8
      go_wp2
      go_ret
      exact ⟨_, _, rfl, hD, hB⟩
theorem info_int : ∃ i, Try.prog.info? 3 = some i ∧ i.zero = some (.int .i64 0) ∧ i.size = 1 ∧ i.bytes = 8 := by
  have h : (Try.prog.info? 3).map (fun i => (i.zero, i.size, i.bytes)) = some (some (.int .i64 0), 1, 8) := by kernel_rfl
  obtain ⟨i, h1, h2⟩ := Option.map_eq_some_iff.1 h
  simp only [Prod.mk.injEq] at h2
  exact ⟨i, h1, h2⟩
def places (l : List Wr) : List Int := l.map (·.1)
theorem places_take {l : List Wr} {k : Nat} {x : Wr} (hx : l[k]? = some x) : places (l.take (k + 1)) = places (l.take k) ++ [x.1] := by
  rw [List.take_add_one, hx]
  simp [places]
end Go.Proofs.Ythgafnommcodcaa.Disk
