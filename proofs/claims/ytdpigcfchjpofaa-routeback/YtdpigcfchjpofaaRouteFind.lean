/-
  Whose an address is: Find, whatever order the map is gone through in.
-/
import Derived.Test.YtdpigcfchjpofaaRouteKeys
import Derived.Test.YtdpigcfchjpofaaAddrNet
import Derived.Test.YtdpigcfchjpofaaBlk
namespace Go.Proofs.Ytdpigcfchjpofaa.Route
open Go.RowKit Go.Maps Go.Proofs.Ytdpigcfchjpofaa.Mem Go.Proofs.Ytdpigcfchjpofaa.Addr

/-- A route's cells, and its value. -/
def rc (r : Rt) : List Value := [.int .u8 (b0 r.1), .int .u8 (b1 r.1), .int .u8 (b2 r.1), .int .u8 (b3 r.1), .int .i64 r.2.1, .int .i64 r.2.2]
theorem rc_len (r : Rt) : (rc r).length = 6 := rfl
theorem rc_one (r : Rt) : ∀ v ∈ rc r, v.oneCell' = true := by
  intro v hv
  simp only [rc, List.mem_cons, List.not_mem_nil, or_false] at hv
  rcases hv with rfl | rfl | rfl | rfl | rfl | rfl <;> rfl

theorem info_route : (Try.prog.info? 42).map (fun i => (i.zero, i.size, i.bytes)) = some (some (.agg #[.int .u8 0, .int .u8 0, .int .u8 0, .int .u8 0, .int .i64 0, .int .i64 0]), 6, 24) := by kernel_rfl

/-! ### What has come of a map so far -/
/-- These are the routes that have come. -/
def Coll (M : List Rt) (left : Lit → Bool) (rs : List Rt) : Prop := rs.Nodup ∧ ∀ x, x ∈ rs ↔ x ∈ M ∧ left (klit (kof x)) = false
theorem coll_start {D : DataW Unit} {M : List Rt} (hM : Good M) (h : Ag D M) : Coll M (has D) [] := by
  refine ⟨List.nodup_nil, fun x => ⟨fun hx => by simp at hx, fun ⟨hx, hl⟩ => ?_⟩⟩
  rw [h.1 _ (hM.2 x hx).1, show hasM M (kof x) = true from has_iff.2 ⟨x, hx, rfl⟩] at hl
  cases hl
theorem ag_entry {D : DataW Unit} {M : List Rt} {k : Nt} {c : Int} (h : Ag D M) (hk : NOk k) (hat : ∀ zd, D.atKey (klit k) zd = .lit (.int .i64 c)) : (k.1, k.2, c) ∈ M := by
  have h1 : has D (klit k) = true := has_true_of_atKey hat
  rw [h.1 k hk] at h1
  obtain ⟨x, hx, rfl⟩ := has_iff.1 h1
  have h2 := h.2.1 x hx .nil
  rw [hat] at h2
  simp only [DataW.lit.injEq, Lit.int.injEq, true_and] at h2
  subst h2
  exact hx
theorem coll_step {M : List Rt} {left : Lit → Bool} {rs : List Rt} {r : Rt} (hM : Good M) (h : Coll M left rs) (hr : r ∈ M) (hl : left (klit (kof r)) = true) :
    Coll M (fun z => left z && !z.sameKey (klit (kof r))) (rs ++ [r]) := by
  have hn : r ∉ rs := fun q => by have := ((h.2 r).1 q).2; rw [hl] at this; cases this
  refine ⟨List.nodup_append.2 ⟨h.1, by simp, fun a ha b hb => by simp at hb; subst hb; exact fun e => hn (e ▸ ha)⟩, fun x => ?_⟩
  rw [List.mem_append, List.mem_singleton, h.2 x]
  constructor
  · rintro (⟨h1, h2⟩ | rfl)
    · exact ⟨h1, by simp [h2]⟩
    · refine ⟨hr, ?_⟩
      simp only
      rw [klit_same (hM.2 x hr).1 (hM.2 x hr).1]; simp
  · rintro ⟨h1, h2⟩
    simp only at h2
    rw [klit_same (hM.2 x h1).1 (hM.2 r hr).1] at h2
    by_cases e : kof x = kof r
    · exact .inr (sorted_inj hM.1 h1 hr e)
    · exact .inl ⟨h1, by simpa [e] using h2⟩
theorem coll_end {M : List Rt} {left : Lit → Bool} {rs : List Rt} (h : Coll M left rs) (hl : ∀ z, left z = false) : ∀ x, x ∈ rs ↔ x ∈ M := fun x => by rw [h.2 x, hl]; simp
theorem coll_perm {M : List Rt} {left : Lit → Bool} {rs : List Rt} (hM : Good M) (h : Coll M left rs) (hl : ∀ z, left z = false) : rs.Perm M :=
  (List.perm_ext_iff_of_nodup h.1 (sorted_nodup hM.1)).2 (coll_end h hl)
theorem len_sub : ∀ {l m : List Rt}, l.Nodup → (∀ x ∈ l, x ∈ m) → l.length ≤ m.length
  | [], _, _, _ => Nat.zero_le _
  | a :: r, m, hn, h => by
    obtain ⟨h1, h2⟩ := List.nodup_cons.1 hn
    have ha := h a (by simp)
    have := len_sub (m := m.erase a) h2 fun x hx => (List.mem_erase_of_ne fun e => h1 (by rw [← e]; exact hx)).2 (h x (by simp [hx]))
    rw [List.length_erase_of_mem ha] at this
    have hp := List.length_pos_of_mem ha
    simp only [List.length_cons]
    omega
theorem coll_le {M : List Rt} {left : Lit → Bool} {rs : List Rt} (h : Coll M left rs) : rs.length ≤ M.length :=
  len_sub h.1 fun x hx => ((h.2 x).1 hx).1

/-- Six cells written, one behind the other. -/
abbrev set6 (w : World) (g : Nat) (v0 v1 v2 v3 v4 v5 : Value) : World :=
  (((((w.setCell ⟨g, 0, none⟩ v0).setCell ⟨g, 1, none⟩ v1).setCell ⟨g, 2, none⟩ v2).setCell ⟨g, 3, none⟩ v3).setCell ⟨g, 4, none⟩ v4).setCell ⟨g, 5, none⟩ v5
theorem gput {w w' : World} {g : Nat} (h : w.grownBy w' (some g)) (i : Nat) (v : Value) : w.grownBy (w'.setCell ⟨g, i, none⟩ v) (some g) := h.trans (only_put w' ⟨g, i, none⟩ v)
theorem set6_grown (w : World) (g : Nat) (v0 v1 v2 v3 v4 v5 : Value) : w.grownBy (set6 w g v0 v1 v2 v3 v4 v5) (some g) :=
  gput (gput (gput (gput (gput (gput (World.grownBy.refl w (some g)) 0 v0) 1 v1) 2 v2) 3 v3) 4 v4) 5 v5
theorem set6_blk {w : World} {g : Nat} {t : TypeId} {u0 u1 u2 u3 u4 u5 : Value} (h : Blk w g t [u0, u1, u2, u3, u4, u5]) (v0 v1 v2 v3 v4 v5 : Value) : Blk (set6 w g v0 v1 v2 v3 v4 v5) g t [v0, v1, v2, v3, v4, v5] :=
  (((((h.put 0 v0).put 1 v1).put 2 v2).put 3 v3).put 4 v4).put 5 v5
/-- The loop under way. -/
def Finds (w wr : World) (b A : Nat) (M : List Rt) (D : DataW Unit) (f : Value) : Prop :=
  ∃ (left : Lit → Bool) (cnt : Nat) (rs : List Rt) (o : Option Rt), wr.ranges Try.prog 29 (plainElem Try.prog 3) b (w.heap.size + 1 + 1 + 1) M.length D left cnt ∧ Coll M left rs ∧ Best rs A o ∧ f = .bool o.isSome ∧
    Blk wr w.heap.size 27 [.int .u8 (b0 A), .int .u8 (b1 A), .int .u8 (b2 A), .int .u8 (b3 A)] ∧ Blk wr (w.heap.size + 1) 42 (rc (0, 0, 0)) ∧ Blk wr (w.heap.size + 1 + 1) 42 (rc (o.getD (0, 0, 0))) ∧ Below w.heap.size w wr
/-- A network that is a key. -/
abbrev KNt := { k : Nt // NOk k }
def knet (k : KNt) : Value := .agg #[.int .u8 (b0 k.1.1), .int .u8 (b1 k.1.1), .int .u8 (b2 k.1.1), .int .u8 (b3 k.1.1), .int .i64 k.1.2]
theorem knet_inv (key : Value) (kl : Lit) (h : keyOf Try.prog 29 key = some kl) : ∃ x : KNt, key = knet x := by
  obtain ⟨k, hk, rfl, _⟩ := keyOf_inv h
  exact ⟨⟨k, hk⟩, rfl⟩
theorem vint_inv (v : Value) (y : DataW Unit × List MemPlace) (h : plainElem Try.prog 3 v = some y) : ∃ c : Int, v = .int .i64 c := by
  obtain ⟨c, rfl, _⟩ := plainElem_int_inv Try.underlying3 h
  exact ⟨c, rfl⟩
/-- What has come is one of the routes. -/
theorem came {D : DataW Unit} {M : List Rt} {x : KNt} {c : Int} {kl : Lit} {yd : DataW Unit} {yp : List MemPlace} (ha : Ag D M) (hkey : keyOf Try.prog 29 (knet x) = some kl) (hv : plainElem Try.prog 3 (.int .i64 c) = some (yd, yp))
    (hat : ∀ zd, D.atKey kl zd = yd) : kl = klit x.1 ∧ (x.1.1, x.1.2, c) ∈ M := by
  have e := keyOf_net x.2
  have e2 : keyOf Try.prog 29 (knet x) = some (klit x.1) := e
  rw [hkey] at e2
  obtain rfl := Option.some.inj e2
  obtain ⟨c', h1, h2, _⟩ := plainElem_int_inv Try.underlying3 hv
  simp only [Value.int.injEq, true_and] at h1
  subst h1
  simp only [Prod.mk.injEq] at h2
  exact ⟨rfl, ag_entry ha x.2 fun zd => by rw [hat, h2.1]⟩

set_option maxRecDepth 100000 in
theorem route_Find {w : World} {g b : Nat} {M : List Rt} (h : TabAt w g b M) {A : Nat} (hA : A < 4294967296) :
    Calls Try.prog 15 #[.pointer (some ⟨g, 0, none⟩), adr A] w fun e w' => e = .returned (.tuple #[.agg (rc ((findM M A).getD (0, 0, 0))).toArray, .bool (findM M A).isSome]) ∧ Below w.heap.size w w' := by
  obtain ⟨n0, hn0⟩ : ∃ n0, n0 = w.heap.size := ⟨_, rfl⟩
  obtain ⟨hM, D, ho, ha⟩ := h.2
  have hI := fun k (hk : NOk k) w => addr_In A hA k.1 hk.1 k.2 w
  unfold adr net at hI
  unfold adr
  have c0 : ∀ o1 o2 o3, (((w.alloc o1).alloc o2).alloc o3).cell? ⟨g, 0, none⟩ = some (.map (some b)) := fun o1 o2 o3 => (h.below (bnext (bnext (bnew w o1) (bnew _ o2)) (bnew _ o3))).1
  go_enter Try.func15, Try.ntmps15
  go_wp2_with (first
    | (at_range; refine wpList_range_own _ rfl _ 54 rfl 29 3 law Try.underlying54 _ b M.length D rfl (((ho.alloc _).alloc _).alloc _) ?_; intro w0 hrg0 hg0 hs0)
    | go_in)
  go_frame
  simp only [World.size_alloc] at hrg0 ⊢
  go_loopw [7] (fun f wr => Finds w wr b A M D f) (fun _ wr => wr.rangeLeft b (w.heap.size + 1 + 1 + 1))
  case atStart =>
    refine ⟨_, _, [], none, by simpa using hrg0, coll_start hM ha, best_nil A, rfl, ?_, ?_, ?_, (bnext (bnext (bnew w _) (bnew _ _)) (bnew _ _)).grown hg0 (by simp; omega) (by simp)⟩
    · exact (((Blk.new w _ _).alloc _).alloc _).kept hg0 (by simp)
    · exact ((Blk.new1 _ (by simp) _ _).alloc _).kept hg0 (by simp)
    · exact (Blk.new1 _ (by simp) _ _).kept hg0 (by simp)
  case round =>
    obtain ⟨left, cnt, rs, o, hrg, hC, hB, rfl, kA, kR, kB, hbw⟩ := hrel
    go_wp2_with (first
      | (at_next; refine wpList_next_ranges _ rfl _ rfl 29 law _ knet (Value.int .i64) knet_inv vint_inv b (w.heap.size + 1 + 1 + 1) M.length D _ _ rfl hrg ?_ ?_)
      | go_in)
    · intro _ hl0
      have e : o = findM M A := best_one hM.1 (best_mem hB (coll_end hC hl0)) (best_find M A)
      subst e
      have l1 := kB.cell
      have l2 := kR.cell
      have l3 := kR.frozen
      unfold rc at l1 l2
      go_wp2
      refine bodyPost_ret (v := .tuple #[.agg (rc ((findM M A).getD (0, 0, 0))).toArray, .bool (findM M A).isSome]) (by simp [results, Try.results15, go_sem, l2, rc]) rfl ⟨rfl, ?_⟩
      exact (((((hbw.setCell (by simp) _).setCell (by simp) _).setCell (by simp) _).setCell (by simp) _).setCell (by simp) _).setCell (by simp) _
    · intro N q hk c kl yd yp w1 cnt1 hkey hlk hv hat hrg1 hlt hg1 hs1 hen
      clear hs1
      obtain ⟨rfl, hmem⟩ := came (x := ⟨(N, q), hk⟩) ha hkey hv hat
      simp only at hmem hlk hrg1
      have hC1 := coll_step hM hC hmem hlk
      have hne : b ≠ w.heap.size + 1 + 1 := by have := ho.lt; omega
      have hB1 := best_step hB (N, q, c)
      have hbw1 := hbw.grown hg1 hbw.size fun j hj => by simp at hj; omega
      have kA1 := kA.kept hg1 (by simp <;> omega)
      have kR1 := kR.kept hg1 (by simp <;> omega)
      have kB1 := kB.kept hg1 (by simp)
      have lA : ∀ ob i, (w1.alloc ob).cell? ⟨w.heap.size, i, none⟩ = _ := fun ob i => (kA1.alloc ob).cell i
      have hI1 := hI (N, q) hk
      unfold knet at hen
      simp only at hI1 hen
      have e1 : stepF A o (N, q, c) = if (inN A N q && (o.isNone || decide ((o.getD (0, 0, 0)).2.1 < q))) = true then some (N, q, c) else o := rfl
      cases hin : inN A N q with
      | false =>
        rw [hin] at hI1 e1
        simp only [Bool.false_and, Bool.false_eq_true, if_false] at e1
        rw [e1] at hB1
        go_wp2_with (go_at_call 24; refine (hI1 _).mono ?_; rintro e w2 ⟨rfl, hb2⟩)
        go_roundw
        case rel => exact ⟨_, cnt1, _, o, (hrg1.alloc _).kept (grown_of_below hb2) (by simp) (by simp), hC1, hB1, rfl, (kA1.alloc _).below hb2, (kR1.alloc _).below hb2, (kB1.alloc _).below hb2, (hbw1.alloc hbw1.size _).trans (hb2.mono (by have := hbw1.size; simp; omega))⟩
        case measure => rw [((hrg1.alloc _).kept (grown_of_below hb2) (by simp) (by simp)).left_eq, hrg.left_eq]; exact hlt
      | true =>
        rw [hin] at hI1 e1
        simp only [Bool.true_and] at e1
        have lB : ∀ i, w1.cell? ⟨w.heap.size + 1 + 1, i, none⟩ = _ := kB1.cell
        cases ho2 : o with
        | none =>
          subst ho2
          simp only [Option.isNone_none, Bool.true_or, if_true] at e1
          rw [e1] at hB1
          go_wp2_with (go_at_call 24; refine (hI1 _).mono ?_; rintro e w2 ⟨rfl, hb2⟩; have kN2 := (Blk.new w1 _ _).below hb2; have lN2 := kN2.cell; have kB2 := (kB1.alloc _).below hb2; have lB2 := kB2.cell; have fB2 := kB2.frozen; unfold rc at lB2)
          have hrg2 := ((hrg1.alloc _).kept (grown_of_below hb2) (by simp) (by simp)).kept (set6_grown w2 (w.heap.size + 1 + 1) (.int .u8 (b0 N)) (.int .u8 (b1 N)) (.int .u8 (b2 N)) (.int .u8 (b3 N)) (.int .i64 q) (.int .i64 c)) (by simpa using hne) (by simp)
          have hbw2 : Below w.heap.size w w2 := (hbw1.alloc hbw1.size _).trans (hb2.mono (by have := hbw1.size; simp; omega))
          go_roundw
          case rel => exact ⟨_, cnt1, _, _, hrg2, hC1, hB1, rfl, ((kA1.alloc _).below hb2).kept (set6_grown _ _ _ _ _ _ _ _) (by simp <;> omega), ((kR1.alloc _).below hb2).kept (set6_grown _ _ _ _ _ _ _ _) (by simp), set6_blk kB2 _ _ _ _ _ _, hbw2.grown (set6_grown _ _ _ _ _ _ _ _) hbw2.size fun j hj => by simp at hj; omega⟩
          case measure => rw [hrg2.left_eq, hrg.left_eq]; exact hlt
        | some r =>
          subst ho2
          simp only [Option.isNone_some, Option.getD_some, Bool.false_or, decide_eq_true_eq] at e1
          by_cases hlt2 : r.2.1 < q
          · rw [if_pos hlt2] at e1
            rw [e1] at hB1
            have hdc : decide (r.2.1 < q) = true := decide_eq_true hlt2
            go_wp2_with (go_at_call 24; refine (hI1 _).mono ?_; rintro e w2 ⟨rfl, hb2⟩; have kN2 := (Blk.new w1 _ _).below hb2; have lN2 := kN2.cell; have kB2 := (kB1.alloc _).below hb2; have lB2 := kB2.cell; have fB2 := kB2.frozen; unfold rc at lB2)
            have hrg2 := ((hrg1.alloc _).kept (grown_of_below hb2) (by simp) (by simp)).kept (set6_grown w2 (w.heap.size + 1 + 1) (.int .u8 (b0 N)) (.int .u8 (b1 N)) (.int .u8 (b2 N)) (.int .u8 (b3 N)) (.int .i64 q) (.int .i64 c)) (by simpa using hne) (by simp)
            have hbw2 : Below w.heap.size w w2 := (hbw1.alloc hbw1.size _).trans (hb2.mono (by have := hbw1.size; simp; omega))
            go_roundw
            case rel => exact ⟨_, cnt1, _, _, hrg2, hC1, hB1, rfl, ((kA1.alloc _).below hb2).kept (set6_grown _ _ _ _ _ _ _ _) (by simp <;> omega), ((kR1.alloc _).below hb2).kept (set6_grown _ _ _ _ _ _ _ _) (by simp), set6_blk kB2 _ _ _ _ _ _, hbw2.grown (set6_grown _ _ _ _ _ _ _ _) hbw2.size fun j hj => by simp at hj; omega⟩
            case measure => rw [hrg2.left_eq, hrg.left_eq]; exact hlt
          · rw [if_neg hlt2] at e1
            rw [e1] at hB1
            have hdc : decide (r.2.1 < q) = false := decide_eq_false hlt2
            go_wp2_with (go_at_call 24; refine (hI1 _).mono ?_; rintro e w2 ⟨rfl, hb2⟩; have kN2 := (Blk.new w1 _ _).below hb2; have lN2 := kN2.cell; have kB2 := (kB1.alloc _).below hb2; have lB2 := kB2.cell; have fB2 := kB2.frozen; unfold rc at lB2)
            go_roundw
            case rel => exact ⟨_, cnt1, _, some r, (hrg1.alloc _).kept (grown_of_below hb2) (by simp) (by simp), hC1, hB1, rfl, (kA1.alloc _).below hb2, (kR1.alloc _).below hb2, (kB1.alloc _).below hb2, (hbw1.alloc hbw1.size _).trans (hb2.mono (by have := hbw1.size; simp; omega))⟩
            case measure => rw [((hrg1.alloc _).kept (grown_of_below hb2) (by simp) (by simp)).left_eq, hrg.left_eq]; exact hlt
end Go.Proofs.Ytdpigcfchjpofaa.Route
