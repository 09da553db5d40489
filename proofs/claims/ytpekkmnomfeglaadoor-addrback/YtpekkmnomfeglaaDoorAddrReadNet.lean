/-
  The network of a text: there is one, or there is none.
-/
import Derived.Test.YtpekkmnomfeglaaDoorAddrNetParse
namespace Go.Proofs.YtpekkmnomfeglaaDoor.Addr
open Go.RowKit Go.Proofs.YtpekkmnomfeglaaDoor.Mem

theorem net_zero : net 0 0 = .agg #[.int .u8 0, .int .u8 0, .int .u8 0, .int .u8 0, .int .i64 0] := rfl
theorem pn_any (l : List UInt8) (hl : l.length ≤ 1000) (w : World) (hF : Fact w) :
    Calls Tryd.prog 10 #[.string (bs l)] w fun e w' =>
      ((∃ N k : Nat, N < 4294967296 ∧ k ≤ 32 ∧ rightN N k = true ∧ l = netTxt N k ∧ e = .returned (.tuple #[net N k, .int .i64 0])) ∨
       ((∀ N k : Nat, N < 4294967296 → k ≤ 32 → rightN N k = true → l ≠ netTxt N k) ∧ e = .returned (.tuple #[net 0 0, .int .i64 41]))) ∧ Below w.heap.size w w' := by
  have hc := fun w hF => cut_any l hl w hF
  have hno : ∀ N k : Nat, l = netTxt N k → (Lib.cut l [47]) = (txt N, dec3 k, true) := fun N k h => by rw [h, cut_net]
  have hl1 : (Lib.cut l [47]).2.2 = true → (Lib.cut l [47]).1.length ≤ 1000 ∧ (Lib.cut l [47]).2.1.length ≤ 1000 := fun h => by
    have := congrArg List.length (cut_some h)
    simp only [List.length_append, List.length_cons] at this
    omega
  have hsome : (Lib.cut l [47]).2.2 = true → l = (Lib.cut l [47]).1 ++ 47 :: (Lib.cut l [47]).2.1 := fun h => cut_some h
  rw [net_zero]
  generalize Lib.cut l [47] = c at hc hno hl1 hsome
  obtain ⟨x, y, f⟩ := c
  simp only at hc hl1 hsome
  cases f with
  | false => exact (pn_none (bs l) (bs x) (bs y) w hF hc).mono fun e w' ⟨he, hb⟩ => ⟨Or.inr ⟨fun N k _ _ _ h => by have := hno N k h; simp at this, he⟩, hb⟩
  | true =>
    obtain ⟨lx, ly⟩ := hl1 rfl
    have hsome := hsome rfl
    by_cases hx : ∃ N, N < 4294967296 ∧ x = txt N
    · obtain ⟨N, hN, rfl⟩ := hx
      have hp := fun w hF => parse_hit N hN w hF
      by_cases hy : ∃ k : Nat, k ≤ 32 ∧ y = dec3 k
      · obtain ⟨k, hk, rfl⟩ := hy
        have hn : ∀ w, Fact w → Calls Tryd.prog 32 #[.string (bs (dec3 k)), .int .i64 32] w fun e w' => e = .returned (.tuple #[.int .i64 k, .bool true]) ∧ Below w.heap.size w w' := fun w hF => number_hit k 32 (by decide) hk w hF
        have hr := fun w => addr_Right N hN (k : Int) w
        cases hv : rightN N k with
        | true =>
          rw [hv] at hr
          exact (pn_right (bs l) (bs (txt N)) (bs (dec3 k)) w hF hc (b0 N) (b1 N) (b2 N) (b3 N) hp k hn hr).mono fun e w' ⟨he, hb⟩ => ⟨Or.inl ⟨N, k, hN, hk, hv, hsome, he⟩, hb⟩
        | false =>
          rw [hv] at hr
          refine (pn_wrong (bs l) (bs (txt N)) (bs (dec3 k)) w hF hc (b0 N) (b1 N) (b2 N) (b3 N) hp k hn hr).mono fun e w' ⟨he, hb⟩ => ⟨Or.inr ⟨fun M j hM hj hr2 h => ?_, he⟩, hb⟩
          have h2 : netTxt N k = netTxt M j := hsome.symm.trans h
          obtain ⟨rfl, rfl⟩ := net_inj hN hM (by omega) (by omega) h2
          rw [hv] at hr2
          cases hr2
      · have hn : ∀ w, Fact w → Calls Tryd.prog 32 #[.string (bs y), .int .i64 32] w fun e w' => e = .returned (.tuple #[.int .i64 0, .bool false]) ∧ Below w.heap.size w w' := fun w hF => number_miss y (by omega) 32 (by decide) (fun k hk e => hy ⟨k, hk, e⟩) w hF
        refine (pn_num (bs l) (bs (txt N)) (bs y) w hF hc (b0 N) (b1 N) (b2 N) (b3 N) hp hn).mono fun e w' ⟨he, hb⟩ => ⟨Or.inr ⟨fun M j _ hj _ h => ?_, he⟩, hb⟩
        have := hno M j h
        simp only [Prod.mk.injEq, and_true] at this
        exact hy ⟨j, hj, this.2⟩
    · have hp : ∀ w, Fact w → Calls Tryd.prog 9 #[.string (bs x)] w fun e w' => e = .returned (.tuple #[adr 0, .int .i64 41]) ∧ Below w.heap.size w w' := fun w hF => parse_miss x lx (fun N hN e => hx ⟨N, hN, e⟩) w hF
      refine (pn_adr (bs l) (bs x) (bs y) w hF hc hp).mono fun e w' ⟨he, hb⟩ => ⟨Or.inr ⟨fun M j hM _ _ h => ?_, he⟩, hb⟩
      have := hno M j h
      simp only [Prod.mk.injEq, and_true] at this
      exact hx ⟨M, hM, this.1⟩
theorem pn_hit (N k : Nat) (hN : N < 4294967296) (hk : k ≤ 32) (hr : rightN N k = true) (w : World) (hF : Fact w) :
    Calls Tryd.prog 10 #[.string (bs (netTxt N k))] w fun e w' => e = .returned (.tuple #[net N k, .int .i64 0]) ∧ Below w.heap.size w w' := by
  have hl : (netTxt N k).length ≤ 1000 := by
    have h1 := txt_len N; have h2 := dec3_pos k
    unfold netTxt
    simp only [List.length_append, List.length_cons]
    omega
  refine (pn_any (netTxt N k) hl w hF).mono fun e w' ⟨h, hb⟩ => ⟨?_, hb⟩
  rcases h with ⟨M, j, hM, hj, _, e2, he⟩ | ⟨h, _⟩
  · obtain ⟨rfl, rfl⟩ := net_inj hN hM (by omega) (by omega) e2
    exact he
  · exact absurd rfl (h N k hN hk hr)
theorem pn_miss (l : List UInt8) (hl : l.length ≤ 1000) (h : ∀ N k : Nat, N < 4294967296 → k ≤ 32 → rightN N k = true → l ≠ netTxt N k) (w : World) (hF : Fact w) :
    Calls Tryd.prog 10 #[.string (bs l)] w fun e w' => e = .returned (.tuple #[net 0 0, .int .i64 41]) ∧ Below w.heap.size w w' := by
  refine (pn_any l hl w hF).mono fun e w' ⟨h2, hb⟩ => ⟨?_, hb⟩
  rcases h2 with ⟨M, j, hM, hj, hr, e2, he⟩ | ⟨_, he⟩
  · exact absurd e2 (h M j hM hj hr)
  · exact he
end Go.Proofs.YtpekkmnomfeglaaDoor.Addr
