/-
  Values of sixty-four cells and more: made, compared, laid into slices; a slice that is made; an append, and where it lies.
-/
import Derived.Test.YthgafnommcodcaaDiskMem
namespace Go.Proofs.Ythgafnommcodcaa.Disk
open Go.RowKit Go.Proofs.Ythgafnommcodcaa.Mem Go.Proofs.Ythgafnommcodcaa.Sect
open Go.Proofs.Ythgafnommcodcaa.Frame (Sec zero)
set_option maxRecDepth 100000

theorem run_build1 (b : Int) (w : World) : (Instr.build 70 #[(0, .int .u8 b)]).run Try.prog w = .ok (secv (one b)) w := by rfl
theorem run_build2 (b c : Int) (w : World) : (Instr.build 70 #[(0, .int .u8 b), (1, .int .u8 c)]).run Try.prog w = .ok (secv (two b c)) w := by rfl
theorem run_buildw (i : Int) (s : Sec) (w : World) : (Instr.build 119 #[(0, .int .i64 i), (1, secv s)]).run Try.prog w = .ok (wrv (i, s)) w := by
  obtain ⟨f, rfl⟩ := sec_form s
  kernel_rfl
theorem run_buildr (i : Int) (s : Sec) (w : World) : (Instr.build 117 #[(0, .int .i64 i), (1, secv s)]).run Try.prog w = .ok (wrv (i, s)) w := by
  obtain ⟨f, rfl⟩ := sec_form s
  kernel_rfl
theorem run_litw (x : Wr) (w : World) : (Instr.buildSlice 81 1 #[(0, wrv x)]).run Try.prog w = .ok (.slice (some ⟨w.heap.size, 0, none⟩) 1 1) (w.alloc (.cells (wc x).toArray 119)) := by
  obtain ⟨i, s⟩ := x
  obtain ⟨f, rfl⟩ := sec_form s
  kernel_rfl
theorem run_litr (x : Wr) (w : World) : (Instr.buildSlice 37 1 #[(0, wrv x)]).run Try.prog w = .ok (.slice (some ⟨w.heap.size, 0, none⟩) 1 1) (w.alloc (.cells (wc x).toArray 117)) := by
  obtain ⟨i, s⟩ := x
  obtain ⟨f, rfl⟩ := sec_form s
  kernel_rfl

/-- An append to what is one's own: as ever, and it lies where it lay, or is new. -/
theorem run_append_where {P : Program} (w : World) (base : Nat) (t ty e : TypeId) (i : TypeInfo) (z : Value) (size bytes : Nat) (ht : P.underlying t = some (.slice e)) (hi : P.info? e = some i) (hz : i.zero = some z)
    (hsize : i.size = size) (hby : i.bytes = bytes) (hzs : z.cells.size = size) (hsz : 0 < size)
    (v : Value) (n : Nat) (xs : List Value) (hown : w.ownsRow base e size v n xs)
    (a : Addr) (m c : Nat) (news : List Value) (hl : news.length = m * size) (hnews : ∀ j u, news[j]? = some u → w.cell? (a.add j) = some u) (h1 : ∀ u ∈ news, u.oneCell' = true)
    (h63 : n + m ≤ maxLen) (hbytes : (n + m) * bytes ≤ 140737488355328) (hbase : base ≤ w.heap.size) :
    ∃ v' w', (Builtin.append_ #[t, t] ty #[v, .slice (some a) m c]).run P w = .ok v' w' ∧ w'.ownsRow base e size v' (n + m) (xs ++ news) ∧ w.grownBy w' v.ownBlock ∧ ∀ k, v'.ownBlock = some k → v.ownBlock = some k ∨ w.heap.size ≤ k := by
  obtain ⟨v', w', hr, h2, h3, _⟩ := run_append_own (P := P) w base t ty e i z size bytes ht hi hz hsize hby hzs hsz v n xs hown a m c news hl hnews h1 h63 hbytes hbase
  refine ⟨v', w', hr, h2, h3, fun k hk => ?_⟩
  rcases hown.2 with ⟨rfl, rfl⟩ | ⟨g, cap, cur, rfl, hbg, hg, hnc, hcm, hcs, htake⟩
  · obtain ⟨v2, w2, hr2, h22, _⟩ := run_append_own (P := P) w w.heap.size t ty e i z size bytes ht hi hz hsize hby hzs hsz (.slice none 0 0) 0 xs ⟨hown.1, .inl ⟨rfl, rfl⟩⟩ a m c news hl hnews h1 h63 hbytes (Nat.le_refl _)
    rw [hr2] at hr
    obtain ⟨rfl, rfl⟩ : v2 = v' ∧ w2 = w' := by simpa using hr
    exact .inr (h22.lt k hk).1
  · by_cases hroom : n + m ≤ cap
    · subst hsize
      have hr2 := run_append_room (P := P) w t ty e i ht hi g n cap cur hg a m c news hl hnews h1 hroom (by rw [hl, hcs, ← Nat.add_mul]; exact Nat.mul_le_mul_right _ hroom)
      rw [hr2] at hr
      obtain ⟨rfl, _⟩ : _ = v' ∧ _ = w' := by simpa using hr
      left
      simpa [Value.ownBlock] using hk
    · subst hsize
      subst hby
      have holds : ∀ j u, xs[j]? = some u → w.cell? ((⟨g, 0, none⟩ : Addr).add j) = some u := hown.cells (g := g) rfl
      have hr2 := run_append_grow (P := P) w t ty e i z ht hi hz ⟨g, 0, none⟩ n cap xs hown.1 holds a m c news hl hnews (by simp only [maxLen] at h63; omega) (by simp only [maxLen] at h63; omega) (growslice_fits (by simp only [maxLen] at h63; omega) hbytes)
      rw [hr2] at hr
      obtain ⟨rfl, _⟩ : _ = v' ∧ _ = w' := by simpa using hr
      right
      simp [Value.ownBlock] at hk
      omega
end Go.Proofs.Ythgafnommcodcaa.Disk
