/-
  Values of sixty-four cells and more: made, compared, laid into slices; a slice that is made; an append, and where it lies.
-/
import Derived.Test.YthpkmkknipkcbaaDiskMem
namespace Go.Proofs.Ythpkmkknipkcbaa.Disk
open Go.RowKit Go.Proofs.Ythpkmkknipkcbaa.Mem
set_option maxRecDepth 100000

theorem run_build0 (w : World) : (Instr.build 25 #[]).run Try.prog w = .ok (secv zero) w := by rfl
theorem run_build1 (b : Int) (w : World) : (Instr.build 25 #[(0, .int .u8 b)]).run Try.prog w = .ok (secv (one b)) w := by rfl
theorem run_build2 (b c : Int) (w : World) : (Instr.build 25 #[(0, .int .u8 b), (1, .int .u8 c)]).run Try.prog w = .ok (secv (two b c)) w := by rfl
theorem sec_form (s : Sec) : ∃ f : Nat → Int, s = ⟨(List.range 64).map f, by simp⟩ := by
  refine ⟨fun i => s.1.getD i 0, Subtype.ext ?_⟩
  refine List.ext_getElem? fun i => ?_
  have h := s.2
  rcases Nat.lt_or_ge i 64 with hi | hi
  · simp [hi, List.getElem?_eq_getElem (show i < s.1.length by omega)]
  · rw [List.getElem?_eq_none (by omega)]; simp [hi]
theorem run_buildw (i : Int) (s : Sec) (w : World) : (Instr.build 63 #[(0, .int .i64 i), (1, secv s)]).run Try.prog w = .ok (wrv (i, s)) w := by
  obtain ⟨f, rfl⟩ := sec_form s
  kernel_rfl
theorem run_buildr (i : Int) (s : Sec) (w : World) : (Instr.build 67 #[(0, .int .i64 i), (1, secv s)]).run Try.prog w = .ok (wrv (i, s)) w := by
  obtain ⟨f, rfl⟩ := sec_form s
  kernel_rfl
theorem run_litw (x : Wr) (w : World) : (Instr.buildSlice 59 1 #[(0, wrv x)]).run Try.prog w = .ok (.slice (some ⟨w.heap.size, 0, none⟩) 1 1) (w.alloc (.cells (wc x).toArray 63)) := by
  obtain ⟨i, s⟩ := x
  obtain ⟨f, rfl⟩ := sec_form s
  kernel_rfl
theorem run_litr (x : Wr) (w : World) : (Instr.buildSlice 35 1 #[(0, wrv x)]).run Try.prog w = .ok (.slice (some ⟨w.heap.size, 0, none⟩) 1 1) (w.alloc (.cells (wc x).toArray 67)) := by
  obtain ⟨i, s⟩ := x
  obtain ⟨f, rfl⟩ := sec_form s
  kernel_rfl
theorem run_lits (s : Sec) (w : World) : (Instr.buildSlice 34 1 #[(0, secv s)]).run Try.prog w = .ok (.slice (some ⟨w.heap.size, 0, none⟩) 1 1) (w.alloc (.cells (sc s).toArray 25)) := by
  obtain ⟨f, rfl⟩ := sec_form s
  kernel_rfl
theorem cells_u8 : Try.prog.cellsOf 5 = 1 := by kernel_rfl
theorem info_u8 : ∃ i, Try.prog.info? 5 = some i := Option.isSome_iff_exists.1 (by kernel_rfl)
theorem eq_items (d : Nat) (s t : Sec) (w : World) : ∀ is : List Nat, (∀ j ∈ is, j < 64) →
    (Op.eqItems (d + 1) 5 1 (sc s).toArray (sc t).toArray is).run Try.prog w = .ok (is.all fun j => s.1.getD j 0 == t.1.getD j 0) w
  | [], _ => by simp [Op.eqItems]
  | j :: r, h => by
    have hj := h j (by simp)
    have hs : (sc s)[j]? = some (.int .u8 (s.1.getD j 0)) := by simp [sc, List.getElem?_eq_getElem (show j < s.1.length by rw [s.2]; exact hj)]
    have ht : (sc t)[j]? = some (.int .u8 (t.1.getD j 0)) := by simp [sc, List.getElem?_eq_getElem (show j < t.1.length by rw [t.2]; exact hj)]
    have ih := eq_items d s t w r fun k hk => h k (by simp [hk])
    simp only [Op.eqItems, Nat.mul_one]
    simp [part, Try.sizeOf5, Try.isAgg5, hs, ht, go_sem]
    by_cases e : s.1[j]?.getD 0 = t.1[j]?.getD 0
    · simp [e, ih]
    · simp [e]
theorem eq_sec (s t : Sec) (w : World) : (Op.equalIn 10000 25 (secv s) (secv t)).run Try.prog w = .ok (decide (s = t)) w := by
  obtain ⟨i, hi⟩ := info_u8
  unfold secv
  rw [run_equalIn_array w 9999 _ _ und_sec hi, cells_u8, eq_items 9998 s t w _ (fun j hj => by simpa using hj)]
  congr 1
  by_cases h : s = t
  · subst h; simp
  · rw [decide_eq_false h]
    refine Bool.eq_false_iff.2 fun q => h (Subtype.ext (List.ext_getElem? fun i => ?_))
    simp only [List.all_eq_true, List.mem_range, beq_iff_eq] at q
    have h1 := s.2
    have h2 := t.2
    rcases Nat.lt_or_ge i 64 with hi | hi
    · have := q i hi
      simp only [List.getD_eq_getElem?_getD, List.getElem?_eq_getElem (show i < s.1.length by omega), List.getElem?_eq_getElem (show i < t.1.length by omega), Option.getD_some] at this
      rw [List.getElem?_eq_getElem (show i < s.1.length by omega), List.getElem?_eq_getElem (show i < t.1.length by omega), this]
    · rw [List.getElem?_eq_none (by omega), List.getElem?_eq_none (by omega)]

/-- An append to what is one's own: as ever, and it lies where it lay, or is new. -/
theorem run_append_where {P : Program} (w : World) (base : Nat) (t ty e : TypeId) (i : TypeInfo) (z : Value) (size bytes : Nat) (ht : P.underlying t = some (.slice e)) (hi : P.info? e = some i) (hz : i.zero = some z)
    (hsize : i.size = size) (hby : i.bytes = bytes) (hzs : z.cells.size = size) (hsz : 0 < size)
    (v : Value) (n : Nat) (xs : List Value) (hown : w.ownsRow base e size v n xs)
    (a : Addr) (m c : Nat) (news : List Value) (hl : news.length = m * size) (hnews : ∀ j u, news[j]? = some u → w.cell? (a.add j) = some u) (h1 : ∀ u ∈ news, u.oneCell' = true)
    (h63 : n + m ≤ maxLen) (hbytes : (n + m) * bytes ≤ 140737488355328) (hbase : base ≤ w.heap.size) :
    ∃ v' w', (Builtin.append_ #[t, t] ty #[v, .slice (some a) m c]).run P w = .ok v' w' ∧ w'.ownsRow base e size v' (n + m) (xs ++ news) ∧ w.grownBy w' v.ownBlock ∧ ∀ k, v'.ownBlock = some k → v.ownBlock = some k ∨ w.heap.size ≤ k := by
  obtain ⟨v', w', hr, h2, h3, _⟩ := run_append_own (P := P) w base t ty e i z size bytes ht hi hz hsize hby hzs hsz v n xs hown a m c news hl hnews h1 h63 hbytes hbase
  refine ⟨v', w', hr, h2, h3, fun k hk => ?_⟩
  rcases hown.2 with ⟨rfl, rfl⟩ | ⟨g, cap, cur, rfl, hbg, hg, hnc, hcm, hcs, htake⟩
  · obtain ⟨v2, w2, hr2, h22, _⟩ := run_append_own (P := P) w w.heap.size t ty e i z size bytes ht hi hz hsize hby hzs hsz (.slice none 0 0) 0 xs ⟨hown.1, .inl ⟨rfl, rfl⟩⟩ a m c news hl hnews h1 h63 hbytes (Nat.le_refl _)
    rw [hr2] at hr
    obtain ⟨rfl, rfl⟩ : v2 = v' ∧ w2 = w' := by simpa using hr
    exact .inr (h22.lt k hk).1
  · by_cases hroom : n + m ≤ cap
    · subst hsize
      have hr2 := run_append_room (P := P) w t ty e i ht hi g n cap cur hg a m c news hl hnews h1 hroom (by rw [hl, hcs, ← Nat.add_mul]; exact Nat.mul_le_mul_right _ hroom)
      rw [hr2] at hr
      obtain ⟨rfl, _⟩ : _ = v' ∧ _ = w' := by simpa using hr
      left
      simpa [Value.ownBlock] using hk
    · subst hsize
      subst hby
      have holds : ∀ j u, xs[j]? = some u → w.cell? ((⟨g, 0, none⟩ : Addr).add j) = some u := hown.cells (g := g) rfl
      have hr2 := run_append_grow (P := P) w t ty e i z ht hi hz ⟨g, 0, none⟩ n cap xs hown.1 holds a m c news hl hnews (by simp only [maxLen] at h63; omega) (by simp only [maxLen] at h63; omega) (growslice_fits (by simp only [maxLen] at h63; omega) hbytes)
      rw [hr2] at hr
      obtain ⟨rfl, _⟩ : _ = v' ∧ _ = w' := by simpa using hr
      right
      simp [Value.ownBlock] at hk
      omega
end Go.Proofs.Ythpkmkknipkcbaa.Disk
