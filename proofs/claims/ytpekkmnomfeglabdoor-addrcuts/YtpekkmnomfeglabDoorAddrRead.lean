/-
  The address of a text: there is one, or there is none.
-/
import Derived.Test.YtpekkmnomfeglabDoorAddrParse
namespace Go.Proofs.YtpekkmnomfeglabDoor.Addr
open Go.RowKit Go.Proofs.YtpekkmnomfeglabDoor.Mem

/-- The parts of a text. -/
def parts (l : List UInt8) : List ByteArray := Lib.splitB (bs [46]) 0 (min 5 ((bs l).size + 1) - 1) (bs l)
theorem parts_data (l : List UInt8) : (parts l).map (·.data.toList) = Lib.splitK [46] 0 (min 5 (l.length + 1) - 1) l := by
  unfold parts
  rw [Lib.splitB_data, bs_size]
  rfl
theorem parts_txt (N : Nat) : (parts (txt N)).map (·.data.toList) = [dec3 (b0 N), dec3 (b1 N), dec3 (b2 N), dec3 (b3 N)] := by
  have h := txt_len N
  rw [parts_data, show min 5 ((txt N).length + 1) - 1 = 4 by omega, split_txt]
theorem parts_join (l : List UInt8) : Lib.join ((parts l).map (·.data.toList)) [46] = l := by rw [parts_data, join_split]
theorem split_any (l : List UInt8) (hl : l.length ≤ 1000) (w : World) (hF : Fact w) :
    Calls Tryd.prog 15 #[.string (bs l), .string ⟨#[46]⟩, .int .i64 5] w fun e w' => ∃ g, e = .returned (.slice (some ⟨g, 0, none⟩) (parts l).length (min 5 ((bs l).size + 1))) ∧ w.heap.size ≤ g ∧ (∀ j x, (parts l)[j]? = some x → w'.cell? ⟨g, j, none⟩ = some (.string x)) ∧ Below w.heap.size w w' := by
  obtain ⟨⟨m, hm⟩, -⟩ := hF
  refine (Tryd.strings_SplitN (bs l) ⟨#[46]⟩ 5 m w (by rw [bs_size]; omega) hm (by decide) (by decide) (by decide)).mono fun e w' ⟨he, hw⟩ => ⟨w.heap.size, he, Nat.le_refl _, fun j x hx => ?_, hw ▸ bnew _ _⟩
  subst hw
  have hx' : (parts l)[j]? = some x := hx
  have hj : j < (parts l).length := (List.getElem?_eq_some_iff.1 hx).1
  have e2 : (Lib.cellsOf (parts l) (min 5 ((bs l).size + 1)))[j]? = some (.string x) := by
    unfold Lib.cellsOf
    rw [List.getElem?_toArray, List.getElem?_append_left (by simpa using hj), List.getElem?_map, hx']
    rfl
  rw [World.cell?_alloc_at] <;> first | exact e2 | rfl
theorem four {α : Type} {l : List α} (h : l.length = 4) : ∃ a b c d, l = [a, b, c, d] := by
  match l, h with
  | [a, b, c, d], _ => exact ⟨a, b, c, d, rfl⟩
theorem adr_zero : adr 0 = .agg #[.int .u8 0, .int .u8 0, .int .u8 0, .int .u8 0] := rfl
def IsNum (p : ByteArray) : Prop := ∃ n : Nat, n ≤ 255 ∧ p = bs (dec3 n)
theorem bs_inj {a b : List UInt8} (h : bs a = bs b) : a = b := by rw [← bs_list a, h, bs_list]
theorem parse_any (l : List UInt8) (hl : l.length ≤ 1000) (w : World) (hF : Fact w) :
    Calls Tryd.prog 10 #[.string (bs l)] w fun e w' =>
      ((∃ N, N < 4294967296 ∧ l = txt N ∧ e = .returned (.tuple #[adr N, .int .i64 0])) ∨ ((∀ N, N < 4294967296 → l ≠ txt N) ∧ e = .returned (.tuple #[adr 0, .int .i64 41]))) ∧ Below w.heap.size w w' := by
  have hs := fun w hF => split_any l hl w hF
  have hplen : ∀ p ∈ parts l, p.data.toList.length ≤ 1000000 := fun p hp => by
    have h1 := parts_join l
    obtain ⟨xs, ys, e⟩ := List.append_of_mem hp
    have h2 := congrArg List.length h1
    rw [e] at h2
    cases xs with
    | nil =>
      simp only [List.nil_append, List.map_cons] at h2
      rw [Lib.join_length] at h2
      simp only [Lib.lens, List.map_cons, List.sum_cons] at h2
      omega
    | cons x xs =>
      simp only [List.cons_append, List.map_cons, List.map_append] at h2
      rw [Lib.join_length] at h2
      simp only [Lib.lens, List.map_cons, List.sum_cons, List.map_append, List.sum_append] at h2
      omega
  by_cases hlen : (parts l).length = 4
  · obtain ⟨p0, p1, p2, p3, hp⟩ := four hlen
    have hs' : ∀ w, Fact w → Calls Tryd.prog 15 #[.string (bs l), .string ⟨#[46]⟩, .int .i64 5] w fun e w' => ∃ g, e = .returned (.slice (some ⟨g, 0, none⟩) 4 (min 5 ((bs l).size + 1))) ∧ w.heap.size ≤ g ∧ (w'.cell? ⟨g, 0, none⟩ = some (.string p0) ∧ w'.cell? ⟨g, 1, none⟩ = some (.string p1) ∧ w'.cell? ⟨g, 2, none⟩ = some (.string p2) ∧ w'.cell? ⟨g, 3, none⟩ = some (.string p3)) ∧ Below w.heap.size w w' := fun w hF => by
      refine (hs w hF).mono fun e w' ⟨g, he, hg, hc, hb⟩ => ⟨g, by rw [he, hlen], hg, ?_, hb⟩
      rw [hp] at hc
      exact ⟨hc 0 p0 rfl, hc 1 p1 rfl, hc 2 p2 rfl, hc 3 p3 rfl⟩
    have hno : ∀ N, l = txt N → p0 = bs (dec3 (b0 N)) ∧ p1 = bs (dec3 (b1 N)) ∧ p2 = bs (dec3 (b2 N)) ∧ p3 = bs (dec3 (b3 N)) := fun N hN => by
      have h1 := parts_txt N
      rw [← hN, hp] at h1
      simp only [List.map_cons, List.map_nil, List.cons.injEq, and_true] at h1
      exact ⟨by rw [← h1.1, bs_of], by rw [← h1.2.1, bs_of], by rw [← h1.2.2.1, bs_of], by rw [← h1.2.2.2, bs_of]⟩
    have bad : ∀ p, p ∈ parts l → ¬ IsNum p → ∀ w, Fact w → Calls Tryd.prog 16 #[.string p, .int .i64 255] w fun e w' => e = .returned (.tuple #[.int .i64 0, .bool false]) ∧ Below w.heap.size w w' := fun p hm h w hF => by
      have := number_miss p.data.toList (hplen p hm) 255 (by decide) (fun n hn e => h ⟨n, hn, by rw [← bs_of p, e]⟩) w hF
      exact this
    have good : ∀ n : Nat, n ≤ 255 → ∀ w, Fact w → Calls Tryd.prog 16 #[.string (bs (dec3 n)), .int .i64 255] w fun e w' => e = .returned (.tuple #[.int .i64 n, .bool true]) ∧ Below w.heap.size w w' := fun n hn w hF => number_hit n 255 (by decide) hn w hF
    have m0 : p0 ∈ parts l := by rw [hp]; simp
    have m1 : p1 ∈ parts l := by rw [hp]; simp
    have m2 : p2 ∈ parts l := by rw [hp]; simp
    have m3 : p3 ∈ parts l := by rw [hp]; simp
    rw [adr_zero]
    by_cases h0 : IsNum p0
    · obtain ⟨n0, l0, rfl⟩ := h0
      by_cases h1 : IsNum p1
      · obtain ⟨n1, l1, rfl⟩ := h1
        by_cases h2 : IsNum p2
        · obtain ⟨n2, l2, rfl⟩ := h2
          by_cases h3 : IsNum p3
          · obtain ⟨n3, l3, rfl⟩ := h3
            refine (parse_good (bs l) w hF _ _ _ _ _ hs' n0 (by omega) (by omega) (good n0 l0) n1 (by omega) (by omega) (good n1 l1) n2 (by omega) (by omega) (good n2 l2) n3 (by omega) (by omega) (good n3 l3)).mono fun e w' ⟨he, hb⟩ => ⟨Or.inl ⟨n0 * 16777216 + n1 * 65536 + n2 * 256 + n3, by omega, ?_, ?_⟩, hb⟩
            · have hj := parts_join l
              rw [hp] at hj
              obtain ⟨e0, e1, e2, e3⟩ := num_bytes (show n0 < 256 by omega) (show n1 < 256 by omega) (show n2 < 256 by omega) (show n3 < 256 by omega)
              rw [← txt_join, e0, e1, e2, e3, ← hj]
              rfl
            · obtain ⟨e0, e1, e2, e3⟩ := num_bytes (show n0 < 256 by omega) (show n1 < 256 by omega) (show n2 < 256 by omega) (show n3 < 256 by omega)
              rw [he, adr, e0, e1, e2, e3]
          · exact (parse_bad3 (bs l) w hF _ _ _ _ _ hs' n0 (by omega) (by omega) (good n0 l0) n1 (by omega) (by omega) (good n1 l1) n2 (by omega) (by omega) (good n2 l2) (bad p3 m3 h3)).mono fun e w' ⟨he, hb⟩ => ⟨Or.inr ⟨fun N _ hN => h3 ⟨b3 N, by have := b3_lt N; omega, (hno N hN).2.2.2⟩, he⟩, hb⟩
        · exact (parse_bad2 (bs l) w hF _ _ _ _ _ hs' n0 (by omega) (by omega) (good n0 l0) n1 (by omega) (by omega) (good n1 l1) (bad p2 m2 h2)).mono fun e w' ⟨he, hb⟩ => ⟨Or.inr ⟨fun N _ hN => h2 ⟨b2 N, by have := b2_lt N; omega, (hno N hN).2.2.1⟩, he⟩, hb⟩
      · exact (parse_bad1 (bs l) w hF _ _ _ _ _ hs' n0 (by omega) (by omega) (good n0 l0) (bad p1 m1 h1)).mono fun e w' ⟨he, hb⟩ => ⟨Or.inr ⟨fun N _ hN => h1 ⟨b1 N, by have := b1_lt N; omega, (hno N hN).2.1⟩, he⟩, hb⟩
    · exact (parse_bad0 (bs l) w hF _ _ _ _ _ hs' (bad p0 m0 h0)).mono fun e w' ⟨he, hb⟩ => ⟨Or.inr ⟨fun N _ hN => h0 ⟨b0 N, by have := b0_lt N; omega, (hno N hN).1⟩, he⟩, hb⟩
  · rw [adr_zero]
    refine (parse_len (bs l) w hF _ _ hlen (fun w hF => (hs w hF).mono fun e w' ⟨g, he, hg, _, hb⟩ => ⟨g, he, hg, hb⟩)).mono fun e w' ⟨he, hb⟩ => ⟨Or.inr ⟨fun N _ hN => hlen ?_, he⟩, hb⟩
    have := congrArg List.length (parts_txt N)
    rw [← hN, List.length_map] at this
    exact this
theorem parse_hit (N : Nat) (hN : N < 4294967296) (w : World) (hF : Fact w) :
    Calls Tryd.prog 10 #[.string (bs (txt N))] w fun e w' => e = .returned (.tuple #[adr N, .int .i64 0]) ∧ Below w.heap.size w w' := by
  refine (parse_any (txt N) (by have := (txt_len N).2; omega) w hF).mono fun e w' ⟨h, hb⟩ => ⟨?_, hb⟩
  rcases h with ⟨M, hM, e2, he⟩ | ⟨h, _⟩
  · rw [he, txt_inj hN hM e2]
  · exact absurd rfl (h N hN)
theorem parse_miss (l : List UInt8) (hl : l.length ≤ 1000) (h : ∀ N, N < 4294967296 → l ≠ txt N) (w : World) (hF : Fact w) :
    Calls Tryd.prog 10 #[.string (bs l)] w fun e w' => e = .returned (.tuple #[adr 0, .int .i64 41]) ∧ Below w.heap.size w w' := by
  refine (parse_any l hl w hF).mono fun e w' ⟨h2, hb⟩ => ⟨?_, hb⟩
  rcases h2 with ⟨M, hM, e2, he⟩ | ⟨_, he⟩
  · exact absurd e2 (h M hM)
  · exact he
end Go.Proofs.YtpekkmnomfeglabDoor.Addr
