/-
  What of the library is read, and the number that a text tells.
-/
import Derived.Test.YtpekkmnomfeglabDoorAddrNet
import Derived.Test.YtpekkmnomfeglabDoorLib
import Derived.Lib.LaidTab
import Derived.Shelf.Strconv.ErrVarAll
namespace Go.Proofs.YtpekkmnomfeglabDoor.Addr
open Go.RowKit Go.Proofs.YtpekkmnomfeglabDoor.Mem

/-- What is read of the library's variables. -/
def Fact (w : World) : Prop :=
  (∃ m, w.cell? ⟨0, 0, none⟩ = some (.int .i64 m)) ∧ (∃ t p, w.var? Tryd.prog "strconv.ErrSyntax" = some #[.iface t p]) ∧ (∃ t p, w.var? Tryd.prog "strconv.ErrRange" = some #[.iface t p]) ∧
  Lib.TabIs Tryd.prog w "internal/strconv.uint64pow10" .u64 Lib.pow10Tab
theorem cell_stays {w w' : World} (hb : Below w.heap.size w w') {a : Addr} {v : Value} (hc : w.cell? a = some v) : w'.cell? a = some v := (hb.cell (World.block_lt_of_cell? w a hc)).trans hc
theorem var_stays {n : String} {g : Nat} {cs : Array Value} {w w' : World} (hg : Tryd.prog.globalNamed n = some g) (h : w.var? Tryd.prog n = some cs) (hb : Below w.heap.size w w') : w'.var? Tryd.prog n = some cs := by
  unfold World.var? at h ⊢
  rw [hg] at h ⊢
  simp only [Option.bind_some] at h ⊢
  have hlt : g < w.heap.size := by
    rcases Nat.lt_or_ge g w.heap.size with h' | h'
    · exact h'
    · rw [Array.getElem?_eq_none h'] at h; cases h
  rw [hb.block g hlt]
  exact h
theorem pow_named : ∃ g, Tryd.prog.globalNamed "internal/strconv.uint64pow10" = some g := Option.isSome_iff_exists.1 (by kernel_rfl)
theorem fault_named : ∃ g, Tryd.prog.globalNamed "strconv.ErrSyntax" = some g := Option.isSome_iff_exists.1 (by kernel_rfl)
theorem range_named : ∃ g, Tryd.prog.globalNamed "strconv.ErrRange" = some g := Option.isSome_iff_exists.1 (by kernel_rfl)
theorem Fact.below {w w' : World} (h : Fact w) (hb : Below w.heap.size w w') : Fact w' := by
  obtain ⟨⟨m, h1⟩, ⟨t, p, h2⟩, ⟨u, q, h3⟩, h4⟩ := h
  obtain ⟨_, g1⟩ := pow_named
  obtain ⟨_, g2⟩ := fault_named
  obtain ⟨_, g3⟩ := range_named
  exact ⟨⟨m, cell_stays hb h1⟩, ⟨t, p, var_stays g2 h2 hb⟩, ⟨u, q, var_stays g3 h3 hb⟩, var_stays g1 h4 hb⟩
theorem bgrow (w : World) (k : Nat) (os : Array Obj) : Below w.heap.size w (Sort.grow (w.drewN k) os) :=
  ⟨rfl, rfl, rfl, by simp [Sort.grow, World.drewN], fun i hi => by simp [Sort.grow, World.drewN, Array.getElem?_append_left hi]⟩
theorem bbytes (w : World) (e : TypeId) (s : ByteArray) : Below w.heap.size w (Lib.bytesWorld w e s) :=
  ⟨rfl, rfl, rfl, by rw [Lib.bytesWorld_size]; omega, fun k hk => Lib.bytesWorld_at_old w e s k hk⟩
theorem bmaybe {w w' : World} {e : TypeId} (h : w' = w ∨ ∃ t, w' = Lib.bytesWorld w e t) : Below w.heap.size w w' := by
  rcases h with rfl | ⟨t, rfl⟩
  · exact Below.refl _ _
  · exact bbytes _ _ _

/-- The string of these bytes. -/
def bs (l : List UInt8) : ByteArray := ⟨l.toArray⟩
theorem bs_list (l : List UInt8) : (bs l).data.toList = l := rfl
theorem bs_toList (l : List UInt8) : (bs l).toList = l := by rw [ByteArray.toList_eq]; rfl
theorem bs_of (s : ByteArray) : bs s.data.toList = s := rfl
theorem bs_size (l : List UInt8) : (bs l).size = l.length := by simp [bs, ByteArray.size]

theorem itoa_any (n : Int) (hn : Inty n) (w : World) (hF : Fact w) :
    Calls Tryd.prog 18 #[.int .i64 n] w fun e w' => e = .returned (.string (bs (Lib.itoa n))) ∧ Below w.heap.size w w' :=
  (Tryd.strconv_Itoa n hn.1 hn.2 w hF.2.2.2).mono fun _ _ ⟨he, k, os, hw⟩ => ⟨he, hw ▸ bgrow w k os⟩
theorem atoi_ok (l : List UInt8) (hl : l.length ≤ 1000000) (v : Int) (h : Lib.atoiAll l = .ok v) (w : World) :
    Calls Tryd.prog 20 #[.string (bs l)] w fun e w' => e = .returned (.tuple #[.int .i64 v, .nilIface]) ∧ Below w.heap.size w w' :=
  (Tryd.strconv_Atoi_ok (bs l) (by rw [bs_size]; omega) v h w).mono fun _ _ ⟨he, hw⟩ => ⟨he, bmaybe hw⟩
theorem atoi_bad (l : List UInt8) (hl : l.length ≤ 1000000) (h : ∀ v, Lib.atoiAll l ≠ .ok v) (w : World) (hF : Fact w) :
    Calls Tryd.prog 20 #[.string (bs l)] w fun e w' => ∃ v t p, e = .returned (.tuple #[.int .i64 v, .iface t p]) ∧ Below w.heap.size w w' := by
  obtain ⟨-, ⟨t1, p1, hv1⟩, ⟨t2, p2, hv2⟩, -⟩ := hF
  cases hr : Lib.atoiAll l
  · exact absurd hr (h _)
  · exact (Any.strconv_Atoi_syntax_var Tryd.laysC172 (bs l) (by rw [bs_size]; omega) hr t1 p1 w hv1).mono fun e w' ⟨N, he, _, _, hb⟩ => ⟨_, _, _, he, hb⟩
  · exact (Any.strconv_Atoi_range_var Tryd.laysC172 (bs l) (by rw [bs_size]; omega) hr t2 p2 w hv2).mono fun e w' ⟨N, he, _, _, hb⟩ => ⟨_, _, _, he, hb⟩

theorem atoi_inty {l : List UInt8} {v : Int} (h : Lib.atoiAll l = .ok v) : Inty v := by
  unfold Lib.atoiAll at h
  split at h
  · cases h
  · simp only at h
    split at h
    · cases h
    · cases h
    · split at h
      · cases h
      · split at h
        · cases h
        · injection h with h
          subst h
          unfold Inty
          split <;> omega

set_option maxRecDepth 100000 in
/-- No number: what went wrong is told. -/
theorem number_bad (l : List UInt8) (hl : l.length ≤ 1000000) (h : ∀ v, Lib.atoiAll l ≠ .ok v) (most : Int) (w : World) (hF : Fact w) :
    Calls Tryd.prog 16 #[.string (bs l), .int .i64 most] w fun e w' => e = .returned (.tuple #[.int .i64 0, .bool false]) ∧ Below w.heap.size w w' := by
  have hc := atoi_bad l hl h w hF
  generalize bs l = s at hc ⊢
  clear hF h hl
  go_enter Tryd.func16, Tryd.ntmps16
  go_wp2_with (go_at_call 20; refine hc.mono ?_; rintro e w1 ⟨v, t, p, rfl, hb1⟩)
  all_goals
    go_ret2
    exact ⟨rfl, hb1⟩
set_option maxRecDepth 100000 in
theorem number_ok (l : List UInt8) (hl : l.length ≤ 1000000) (v : Int) (h : Lib.atoiAll l = .ok v) (most : Int) (w : World) (hF : Fact w) :
    Calls Tryd.prog 16 #[.string (bs l), .int .i64 most] w fun e w' => (if 0 ≤ v ∧ v ≤ most ∧ Lib.itoa v = l then e = .returned (.tuple #[.int .i64 v, .bool true]) else e = .returned (.tuple #[.int .i64 0, .bool false])) ∧ Below w.heap.size w w' := by
  have hc := atoi_ok l hl v h w
  have hi := fun w' (hb : Below w.heap.size w w') => itoa_any v (atoi_inty h) w' (hF.below hb)
  have hs : ((bs (Lib.itoa v)).toList == (bs l).toList) = decide (Lib.itoa v = l) := by rw [bs_toList, bs_toList]; by_cases e : Lib.itoa v = l <;> simp [e]
  generalize bs (Lib.itoa v) = s2 at hi hs
  generalize bs l = s at hc hs ⊢
  clear hF h hl
  by_cases c : 0 ≤ v ∧ v ≤ most ∧ Lib.itoa v = l
  · simp only [if_pos c]
    obtain ⟨c0, c1, c2⟩ := c
    rw [decide_eq_true c2] at hs
    clear c2
    go_enter Tryd.func16, Tryd.ntmps16
    go_wp2_with (first
      | (go_at_call 20; refine hc.mono ?_; rintro e w1 ⟨rfl, hb1⟩)
      | (go_at_call 18; refine (hi _ hb1).mono ?_; rintro e w2 ⟨rfl, hb2⟩))
    go_ret2
    exact ⟨rfl, bnext hb1 hb2⟩
  · simp only [if_neg c]
    by_cases c2 : Lib.itoa v = l
    · have c3 : v < 0 ∨ most < v := by
        by_cases c4 : v < 0
        · exact Or.inl c4
        · by_cases c5 : most < v
          · exact Or.inr c5
          · exact absurd ⟨by omega, by omega, c2⟩ c
      clear c c2 hs
      rcases c3 with c3 | c3
      all_goals
        go_enter Tryd.func16, Tryd.ntmps16
        go_wp2_with (go_at_call 20; refine hc.mono ?_; rintro e w1 ⟨rfl, hb1⟩)
        all_goals
          go_ret2
          exact ⟨rfl, hb1⟩
    · rw [decide_eq_false c2] at hs
      clear c c2
      go_enter Tryd.func16, Tryd.ntmps16
      go_wp2_with (first
        | (go_at_call 20; refine hc.mono ?_; rintro e w1 ⟨rfl, hb1⟩)
        | (go_at_call 18; refine (hi _ hb1).mono ?_; rintro e w2 ⟨rfl, hb2⟩))
      all_goals
        go_ret2
        exact ⟨rfl, by first | exact bnext hb1 hb2 | exact hb1⟩
/-- The number that a text tells: there is one, or there is none. -/
theorem number_any (l : List UInt8) (hl : l.length ≤ 1000000) (most : Nat) (hm : most < 256) (w : World) (hF : Fact w) :
    Calls Tryd.prog 16 #[.string (bs l), .int .i64 most] w fun e w' =>
      ((∃ n : Nat, n ≤ most ∧ l = dec3 n ∧ e = .returned (.tuple #[.int .i64 n, .bool true])) ∨ ((∀ n : Nat, n ≤ most → l ≠ dec3 n) ∧ e = .returned (.tuple #[.int .i64 0, .bool false]))) ∧ Below w.heap.size w w' := by
  by_cases h : ∃ v, Lib.atoiAll l = .ok v
  · obtain ⟨v, h⟩ := h
    refine (number_ok l hl v h most w hF).mono fun e w' ⟨he, hb⟩ => ⟨?_, hb⟩
    by_cases c : 0 ≤ v ∧ v ≤ most ∧ Lib.itoa v = l
    · rw [if_pos c] at he
      obtain ⟨c0, c1, c2⟩ := c
      obtain ⟨n, rfl⟩ := Int.eq_ofNat_of_zero_le c0
      rw [itoa_dec3 (by omega)] at c2
      exact Or.inl ⟨n, by omega, c2.symm, he⟩
    · rw [if_neg c] at he
      refine Or.inr ⟨fun n hn e2 => c ?_, he⟩
      rw [e2, dec3_atoi n (by omega)] at h
      injection h with h
      subst h
      exact ⟨by omega, by omega, by rw [itoa_dec3 (by omega), e2]⟩
  · refine (number_bad l hl (fun v hv => h ⟨v, hv⟩) most w hF).mono fun e w' ⟨he, hb⟩ => ⟨Or.inr ⟨fun n hn e2 => h ⟨n, ?_⟩, he⟩, hb⟩
    rw [e2]
    exact dec3_atoi n (by omega)
end Go.Proofs.YtpekkmnomfeglabDoor.Addr
