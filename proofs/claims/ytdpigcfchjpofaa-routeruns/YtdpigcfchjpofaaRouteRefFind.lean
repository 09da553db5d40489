/-
  The document's answers, as they are typed out: Find.
-/
import Derived.Test.YtdpigcfchjpofaaRouteRef
namespace Go.Proofs.Ytdpigcfchjpofaa.Route
open Go.RowKit Go.Maps Go.Proofs.Ytdpigcfchjpofaa.Mem Go.Proofs.Ytdpigcfchjpofaa.Addr

theorem find_take {M : List Rt} {i : Nat} {x : Rt} (hi : M[i]? = some x) (A : Nat) : findM (M.take (i + 1)) A = stepF A (findM (M.take i) A) x := by
  rw [List.take_add_one, hi]; exact find_snoc _ _ _
/-- The loop under way. -/
def RFinds (w wr : World) (A : Nat) (n : Nat) (M : List Rt) (f t : Value) : Prop :=
  ∃ (i : Nat) (o : Option Rt), i ≤ n ∧ t = .int .i64 i ∧ Hid (o = findM (M.take i) A) ∧ f = .bool o.isSome ∧
    Blk wr w.heap.size 27 [.int .u8 (b0 A), .int .u8 (b1 A), .int .u8 (b2 A), .int .u8 (b3 A)] ∧ Blk wr (w.heap.size + 1) 42 (rc (0, 0, 0)) ∧ Blk wr (w.heap.size + 1 + 1) 42 (rc (o.getD (0, 0, 0))) ∧ Below w.heap.size w wr
set_option maxRecDepth 100000 in
theorem rref_Find {w : World} {p : Option Addr} {c : Nat} {M : List Rt} (h : RK rc w p c M) (hM : ∀ r ∈ M, ROk r) (hl : M.length ≤ 1000) {A : Nat} (hA : A < 4294967296) :
    Calls Try.prog 16 #[.slice p M.length c, adr A] w fun e w' => e = .returned (.tuple #[.agg (rc ((findM M A).getD (0, 0, 0))).toArray, .bool (findM M A).isSome]) ∧ Below w.heap.size w w' := by
  have hI := fun k (hk : NOk k) w => ref_In A hA k.1 hk.1 k.2 w
  unfold adr net at hI
  unfold adr
  obtain ⟨n, hn⟩ : ∃ n, n = M.length := ⟨_, rfl⟩
  have HN : Hid (n = M.length) := hn
  rw [← hn] at hl ⊢
  clear hn
  go_enter Try.func16, Try.ntmps16
  go_wp2
  go_loopw [7, 13] (fun f t wr => RFinds w wr A n M f t) (fun _ t _ => n - (intOf t).toNat)
  case atStart =>
    exact ⟨0, none, Nat.zero_le _, rfl, rfl, rfl, ((Blk.new w _ _).alloc _).alloc _, (Blk.new1 _ (by simp) _ _).alloc _, Blk.new1 _ (by simp) _ _, bnext (bnext (bnew w _) (bnew _ _)) (bnew _ _)⟩
  case round =>
    obtain ⟨i, o, hin, rfl, HO, rfl, kA, kR, kB, hbw⟩ := hrel
    have hr := h.below hbw
    by_cases hlt : i < n
    · have hML : i < M.length := by have := HN.out; omega
      have hx : M[i]? = some M[i] := List.getElem?_eq_getElem hML
      generalize hxe : M[i] = x at hx
      have hxk : NOk (kof x) := (hM x (List.mem_of_getElem? hx)).1
      obtain ⟨bb, oo, rfl, hbb, l0, l1, l2, l3, l4, l5⟩ := rcells hr hx
      have HT : Hid (findM (M.take (i + 1)) A = stepF A o x) := by
        show findM (M.take (i + 1)) A = stepF A o x
        rw [find_take hx, ← HO.out]
      have lA : ∀ ob j, (wr.alloc ob).cell? ⟨w.heap.size, j, none⟩ = _ := fun ob j => (kA.alloc ob).cell j
      have hI1 := hI (kof x) hxk
      simp only [kof] at hI1
      have e1 : stepF A o x = if (inN A x.1 x.2.1 && (o.isNone || decide ((o.getD (0, 0, 0)).2.1 < x.2.1))) = true then some x else o := rfl
      clear hxe HO
      cases hin2 : inN A x.1 x.2.1 with
      | false =>
        rw [hin2] at hI1 e1
        simp only [Bool.false_and, Bool.false_eq_true, if_false] at e1
        have HT1 : Hid (o = findM (M.take (i + 1)) A) := by
          show o = findM (M.take (i + 1)) A
          rw [HT.out, e1]
        clear e1 HT
        go_wp2_with (go_at_call 21; refine (hI1 _).mono ?_; rintro e w2 ⟨rfl, hb2⟩)
        go_roundw
        case rel => exact ⟨i + 1, o, by omega, by simp, HT1, rfl, (kA.alloc _).below hb2, (kR.alloc _).below hb2, (kB.alloc _).below hb2, (hbw.alloc hbw.size _).trans (hb2.mono (by have := hbw.size; simp; omega))⟩
        case measure => simp [intOf]; omega
      | true =>
        rw [hin2] at hI1 e1
        simp only [Bool.true_and] at e1
        cases ho2 : o with
        | none =>
          subst ho2
          simp only [Option.isNone_none, Bool.true_or, if_true] at e1
          have HT1 : Hid (some x = findM (M.take (i + 1)) A) := by
            show some x = findM (M.take (i + 1)) A
            rw [HT.out, e1]
          clear e1 HT
          go_wp2_with (go_at_call 21; refine (hI1 _).mono ?_; rintro e w2 ⟨rfl, hb2⟩; have kN2 := (Blk.new wr _ _).below hb2; have lN2 := kN2.cell; have kB2 := (kB.alloc _).below hb2; have lB2 := kB2.cell; have fB2 := kB2.frozen; unfold rc at lB2)
          have hbw2 : Below w.heap.size w w2 := (hbw.alloc hbw.size _).trans (hb2.mono (by have := hbw.size; simp; omega))
          go_roundw
          case rel => exact ⟨i + 1, some x, by omega, by simp, HT1, rfl, ((kA.alloc _).below hb2).kept (set6_grown _ _ _ _ _ _ _ _) (by simp <;> omega), ((kR.alloc _).below hb2).kept (set6_grown _ _ _ _ _ _ _ _) (by simp), set6_blk kB2 _ _ _ _ _ _, hbw2.grown (set6_grown _ _ _ _ _ _ _ _) hbw2.size fun j hj => by simp at hj; omega⟩
          case measure => simp [intOf]; omega
        | some r =>
          subst ho2
          simp only [Option.isNone_some, Option.getD_some, Bool.false_or, decide_eq_true_eq] at e1
          by_cases hlt2 : r.2.1 < x.2.1
          · rw [if_pos hlt2] at e1
            have HT1 : Hid (some x = findM (M.take (i + 1)) A) := by
              show some x = findM (M.take (i + 1)) A
              rw [HT.out, e1]
            clear e1 HT
            go_wp2_with (go_at_call 21; refine (hI1 _).mono ?_; rintro e w2 ⟨rfl, hb2⟩; have kN2 := (Blk.new wr _ _).below hb2; have lN2 := kN2.cell; have kB2 := (kB.alloc _).below hb2; have lB2 := kB2.cell; have fB2 := kB2.frozen; unfold rc at lB2)
            have hbw2 : Below w.heap.size w w2 := (hbw.alloc hbw.size _).trans (hb2.mono (by have := hbw.size; simp; omega))
            go_roundw
            case rel => exact ⟨i + 1, some x, by omega, by simp, HT1, rfl, ((kA.alloc _).below hb2).kept (set6_grown _ _ _ _ _ _ _ _) (by simp <;> omega), ((kR.alloc _).below hb2).kept (set6_grown _ _ _ _ _ _ _ _) (by simp), set6_blk kB2 _ _ _ _ _ _, hbw2.grown (set6_grown _ _ _ _ _ _ _ _) hbw2.size fun j hj => by simp at hj; omega⟩
            case measure => simp [intOf]; omega
          · rw [if_neg hlt2] at e1
            have HT1 : Hid (some r = findM (M.take (i + 1)) A) := by
              show some r = findM (M.take (i + 1)) A
              rw [HT.out, e1]
            clear e1 HT
            have hdc : decide (r.2.1 < x.2.1) = false := decide_eq_false hlt2
            go_wp2_with (go_at_call 21; refine (hI1 _).mono ?_; rintro e w2 ⟨rfl, hb2⟩; have kN2 := (Blk.new wr _ _).below hb2; have lN2 := kN2.cell; have kB2 := (kB.alloc _).below hb2; have lB2 := kB2.cell; have fB2 := kB2.frozen; unfold rc at lB2)
            go_roundw
            case rel => exact ⟨i + 1, some r, by omega, by simp, HT1, rfl, (kA.alloc _).below hb2, (kR.alloc _).below hb2, (kB.alloc _).below hb2, (hbw.alloc hbw.size _).trans (hb2.mono (by have := hbw.size; simp; omega))⟩
            case measure => simp [intOf]; omega
    · have hn : i = n := by omega
      subst hn
      have e1 : M.take i = M := List.take_of_length_le (by have := HN.out; omega)
      rw [e1] at HO
      obtain rfl := HO.out
      have m1 := kB.cell
      have m2 := kR.cell
      have m3 := kR.frozen
      unfold rc at m1 m2
      clear e1
      go_wp2
      refine bodyPost_ret (v := .tuple #[.agg (rc ((findM M A).getD (0, 0, 0))).toArray, .bool (findM M A).isSome]) (by simp [results, Try.results16, go_sem, m2, rc]) rfl ⟨rfl, ?_⟩
      exact (((((hbw.setCell (by simp) _).setCell (by simp) _).setCell (by simp) _).setCell (by simp) _).setCell (by simp) _).setCell (by simp) _
end Go.Proofs.Ytdpigcfchjpofaa.Route
