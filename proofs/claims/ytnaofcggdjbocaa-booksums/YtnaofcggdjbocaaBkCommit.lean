/-
  book.commit. (Written by gen_bkcommit.py.)
-/
import Derived.Test.YtnaofcggdjbocaaBkDelete
import Derived.Test.YtnaofcggdjbocaaBkSort
import Derived.Test.YtnaofcggdjbocaaBkCom
import Derived.Test.YtnaofcggdjbocaaEvSmall
namespace Go.Proofs.Ytnaofcggdjbocaa.Book
open Go.RowKit Go.Proofs.Ytnaofcggdjbocaa.Mem Go.Proofs.Ytnaofcggdjbocaa.Policy Go.Proofs.Ytnaofcggdjbocaa.Event Go.Proofs.Ytnaofcggdjbocaa.Addr
set_option maxRecDepth 100000

section
variable {o : Oper} {a : Act} {w : World} {K : Act → World → Prop} {ops : Array Oper} {rest : List Oper} {Q : Exit → Act → World → Prop}
theorem wp_put_ents (x y : Operand) (g k : Nat) (t : TypeId) (cs : List Value) (q : Option Addr) (m d : Nat) (ho : o.op = .store 23 x y) (hx : a.eval x = .pointer (some ⟨g, k, none⟩)) (hy : a.eval y = .slice q m d) (hb : Blk w g t cs) (hk : k < cs.length)
    (h : ∀ w', Blk w' g t (cs.set k (.slice q m d)) → w.grownBy w' (some g) → Hid (w'.heap.size = w.heap.size) → K (a.put o.dst undef) w') : o.wp Try.prog a w K Q := by
  have c := hb.cell k
  have f := hb.frozen k
  rw [List.getElem?_eq_getElem hk] at c
  have hh := h _ (hb.put k (.slice q m d)) (only_put w ⟨g, k, none⟩ _) (by unfold Hid; simp)
  unfold Oper.wp execOp
  simp only [ho, hx, hy, Instr.storeAt, Instr.sureAddr, Sem.run_bind, Sem.run_pure, Result.andThen_ok]
  simp [go_sem, c, f]
  exact hh
theorem at_put_ents (x y : Operand) (g k : Nat) (t : TypeId) (cs : List Value) (q : Option Addr) (m d : Nat) (ho : o.op = .store 23 x y) (hx : a.eval x = .pointer (some ⟨g, k, none⟩)) (hy : a.eval y = .slice q m d) (hb : Blk w g t cs) (hk : k < cs.length) (hw : Region.wanted o (yielded ops a.tmps) = true)
    (h : ∀ w', Blk w' g t (cs.set k (.slice q m d)) → w.grownBy w' (some g) → Hid (w'.heap.size = w.heap.size) → wpList Try.prog ops Q rest (a.put o.dst undef) w') : wpList Try.prog ops Q (o :: rest) a w :=
  BigFrame.wpList_want hw fun _ hK => wp_put_ents x y g k t cs q m d ho hx hy hb hk (fun w2 h1 h2 h3 => hK _ _ (h w2 h1 h2 h3))
end
theorem own_from_base {B : Nat} {w : World} {v : Value} {es : List En} (h : EO B w v es) : ∀ g, v.ownBlock = some g → B ≤ g := by
  intro g hg
  unfold EO at h
  exact (World.ownsRow.lt h g hg).1
theorem dropF_above : ∀ {l : List Int} {last : Int}, dropF last l = true → ∀ d ∈ l, last < d := by
  intro l
  induction l with
  | nil => simp
  | cons d r ih =>
    intro last h x hx
    simp only [dropF, Bool.and_eq_true, Bool.not_eq_true', decide_eq_false_iff_not] at h
    rcases List.mem_cons.1 hx with rfl | hx
    · omega
    · have := ih h.2 x hx
      omega
/-- What a commit is told to come to. -/
def comOk (t : Int) (es : List En) (ps : List Po) (ds : List Int) : Bool := dropsIn es ds && rightB ⟨t, comE es ps ds⟩
theorem nodup_drops : ∀ {l : List Int} {last : Int}, dropF last l = true → l.Nodup := by
  intro l
  induction l with
  | nil => intro _ _; simp
  | cons d r ih =>
    intro last h
    simp only [dropF, Bool.and_eq_true] at h
    refine List.nodup_cons.2 ⟨fun hm => ?_, ih h.2⟩
    have := dropF_above h.2 d hm
    omega
/-- What a commit's entries are. -/
theorem com_ok {es L fs : List En} {ps : List Po} (hL : Dis L) (hps : ps.Pairwise (fun a b => a.s ≠ b.s)) (hm : ∀ e ∈ L, e ∈ es) (oe : ∀ e ∈ es, EnOk e) (op : ∀ p ∈ ps, PoOk p) (hp : fs.Perm (putAll L ps)) : ∀ e ∈ fs, EnOk e := by
  obtain ⟨-, -, k3, -⟩ := puts_any ps L hL hps
  intro e he
  rcases k3 e (hp.mem_iff.1 he) with k | ⟨p, hp, s, rfl⟩
  · exact oe e (hm e k)
  · refine ⟨op p hp, ?_⟩
    cases hl : look L s with
    | none => exact ⟨by simp, by simp⟩
    | some x => exact (oe x (hm x (look_mem hl).1)).2
set_option maxHeartbeats 4000000 in
theorem book_commit (w0 : World) (t : Int) (q : Option Addr) (n c : Nat) (es : List En) (pp : Option Addr) (pn pc : Nat) (ps : List Po) (dp : Option Addr) (dn dc : Nat) (ds : List Int) (hb : rightB ⟨t, es⟩ = true) (oe : ∀ e ∈ es, EnOk e) (hlp : ps.length = pn) (op : ∀ p ∈ ps, PoOk p) (hld : ds.length = dn)
    (hcm : comB ps ds = true) (rp : RK pl w0 pp pc ps) (rd : Reads .i64 w0 dp dc ds) (w : World) (hw : Below w0.heap.size w0 w) (h : EO w0.heap.size w (.slice q n c) es) :
    Calls Try.prog 51 #[bv ⟨t, q, n, c⟩, .slice pp pn pc, .slice dp dn dc] w fun x w' => ∃ q' n' c', x = .returned (.tuple #[bv ⟨t, q', n', c'⟩, .bool (comOk t es ps ds)]) ∧ (comOk t es ps ds = true → EO w0.heap.size w' (.slice q' n' c') (comE es ps ds)) ∧ Below w0.heap.size w0 w' ∧ w.grownBy w' (Value.slice q n c).ownBlock := by
  obtain ⟨-, htog, -⟩ := rightB_iff.1 hb
  obtain ⟨-, hpt, hd8, hdf, hap⟩ := com_iff.1 hcm
  have hlen8 := rightB_len hb
  simp only at hlen8 htog
  have hris := tog_rising htog
  have hdis := dis_rising hris
  have hnd := nodup_drops hdf
  have hp8 := hpt.1
  have hn := h.is.1
  have hw1 : w0.heap.size ≤ w.heap.size := hw.size
  have hRP := fun {W : World} (hb : Below w0.heap.size w0 W) => rp.below hb
  have hRD := fun {W : World} (hb : Below w0.heap.size w0 W) => rd.below hb
  have hes : ∀ e ∈ es, (1 ≤ e.p.s ∧ e.p.s ≤ 255) := fun e he => by
    have := htog.2.1 e.p (List.mem_map_of_mem he)
    have := rightP_iff.1 this
    omega
  have hpsr : ∀ p ∈ ps, (1 ≤ p.s ∧ p.s ≤ 255) := fun p hp => by
    have := rightP_iff.1 (hpt.2.1 p hp)
    omega
  have hpsd : ps.Pairwise fun a b => a.s ≠ b.s := hpt.2.2.imp fun hb => by have := hb.1; omega
  have hapd : ∀ p ∈ ps, p.s ∉ ds := fun p hp => by
    unfold apartB at hap
    have := List.all_eq_true.1 hap p hp
    simpa using this
  have hdrops := drops_any ds es hdis hnd
  obtain ⟨R, hR⟩ : ∃ R, comOk t es ps ds = R := ⟨_, rfl⟩
  rw [hR]
  have HR : Hid (comOk t es ps ds = R) := hR
  have HD0 : Hid (dropAll es ds = dropAll es (ds.drop 0)) := by unfold Hid; simp
  clear hb hcm htog hpt hdf hap hnd rp rd hR hris hdis
  go_enter Try.func51, Try.ntmps51
  go_wp2_with (first
    | ((fail_if_success (have _ := hX1)); (refine at_box_bk _ _ (by rfl) (by rfl) (by rfl) ?_); intro V1 hX1 hB1 hz1)
    | ((fail_if_success (have _ := hY2)); (have _ := hX1); (refine at_alloc_bk (by rfl) (by rfl) ?_); intro V2 hY2 hB2 hz2; have hX2 := hX1.below hB2; have hB12 := bnext hB1 hB2))
  have hO2 := h.below hB12
  have hC2 := bnext hw hB12
  have hG2 := gbelow (Value.slice q n c).ownBlock hB12
  have hv1 : w.heap.size ≤ V1.heap.size := hB1.size
  have hne : some w.heap.size ≠ some V1.heap.size := by have := hz1.out; simp; omega
  have hgb : w0.heap.size ≤ V1.heap.size := by have := hz1.out; omega
  clear h hX1
  go_loopw [15] (fun i wr => ∃ (k : Nat) (L : List En) (q' : Option Addr) (n' c' : Nat), k ≤ dn ∧ i = .int .i64 k ∧ EO w0.heap.size wr (.slice q' n' c') L ∧ Blk wr w.heap.size 25 (bl ⟨t, q', n', c'⟩) ∧ Blk wr V1.heap.size 25 (bl zeroH) ∧ Below w0.heap.size w0 wr ∧ n' ≤ 8 ∧ Lies w (.slice q n c) (.slice q' n' c') ∧ w.grownBy wr (Value.slice q n c).ownBlock ∧ Hid (dropAll es ds = dropAll L (ds.drop k))) (fun i _ => dn - (intOf i).toNat)
  case atStart => exact ⟨0, es, q, n, c, Nat.zero_le _, rfl, hO2, hX2, hY2, hC2, by omega, Lies.refl _ _, hG2, HD0⟩
  case round =>
    obtain ⟨k, L, q', n', c', hk, rfl, hO, hX, hY, hC, hn8, hLi, hG, HD⟩ := hrel
    have hLn := hO.is.1
    clear hO2 hX2 hY2 hC2 HD0
    by_cases hlt : k < dn
    · have hlt3 : (k : Int) < (dn : Int) := by omega
      obtain ⟨d, hd⟩ : ∃ d, ds[k]? = some d := ⟨_, List.getElem?_eq_getElem (by omega)⟩
      obtain ⟨b, o, rfl, _, hc⟩ := cell_at (hRD hC) hd
      have HDC : Hid (dropAll es ds = dropAll L (d :: ds.drop (k + 1))) := by
        unfold Hid
        rw [HD.out, List.drop_eq_getElem_cons (by omega), show ds[k] = d from by rw [List.getElem?_eq_getElem (by omega)] at hd; exact Option.some.inj hd]
      have c1 := cells_bk hX
      simp only at c1
      have hP := fun {W : World} (hb : Below wr.heap.size wr W) => book_place q' n' c' L d hLn (by omega) W (hO.is.2.1.below hb)
      rcases place_is2 L d with ⟨hp, -, -⟩ | ⟨i, e, hp, hi, -, -, -⟩
      · rw [hp] at hP
        have HNo : Hid (dropAll es ds = none) := HDC.out.trans (drop_no hp)
        obtain rfl : R = false := by
          rcases hdrops with ⟨k1, _⟩ | ⟨_, L', k2, _⟩
          · rw [← HR.out]; simp [comOk, k1]
          · rw [HNo.out] at k2; cases k2
        clear hd HD HDC hp hdrops HNo
        go_wp2_with (first
          | ((fail_if_success (have _ := hB3)); (with_reducible refine (hP (Below.refl _ _)).mono ?_); rintro e w3 ⟨rfl, hB3⟩; have hX3 := hX.below hB3; have hY3 := hY.below hB3; have hC3 := bnext hC hB3)
          | ((fail_if_success (have _ := hY4)); (have _ := hB3); (refine at_load_bk _ _ _ (by rfl) (by rfl) hX3 (by rfl) ?_))
          | ((fail_if_success (have _ := hY4)); (have _ := hB3); (refine at_store_bk _ _ _ _ _ (by rfl) (by rfl) (by rfl) hY3 rfl (by rfl) ?_); intro V4 hY4 hg4 hz4; have hC4 := hC3.grown hg4 hC3.size (fun j hj => by obtain rfl := Option.some.inj hj; exact hgb); have hG4 := gtrans (gthen hG hB3) hg4 (fun r e => .inr (by obtain rfl := Option.some.inj e; exact hv1))))
        refine ret_bk2 (by rfl) rfl _ _ rfl hY4 ⟨_, _, _, rfl, fun h => by simp at h, hC4, hG4⟩
      · rw [hp] at hP
        have hin : i < n' := by have := (List.getElem?_eq_some_iff.1 hi).1; omega
        have hi0 : decide ((i : Int) < 0) = false := decide_eq_false (by omega)
        have hi1 : (i : Int) < (n' : Int) := by omega
        have hwr : IntKind.i64.wrap ((i : Int) + 1) = (i : Int) + 1 := by rw [IntKind.wrap_i64]; omega
        obtain ⟨g, c2, hv, hob⟩ := hO.some (by omega)
        rw [hLn] at hv
        simp only [Value.slice.injEq, true_and] at hv
        obtain ⟨rfl, rfl⟩ := hv
        have HN : Hid (dropAll es ds = dropAll (L.eraseIdx i) (ds.drop (k + 1))) := HDC.out.trans (drop_go hp)
        have hD := fun {W : World} (hb : Below wr.heap.size wr W) => delete_one w0.heap.size g n' c' i L (by omega) hin W (hO.below hb)
        have hgB := own_from_base hO g hob
        have hgx := hO.ne hX (by decide)
        have hgy := hO.ne hY (by decide)
        rw [hob] at hgx hgy
        clear hd HD HDC hp hi
        go_wp2_with (first
          | ((fail_if_success (have _ := hB3)); (with_reducible refine (hP (Below.refl _ _)).mono ?_); rintro e w3 ⟨rfl, hB3⟩; have hX3 := hX.below hB3; have hY3 := hY.below hB3; have hC3 := bnext hC hB3; have c3 := cells_bk hX3; simp only at c3)
          | ((fail_if_success (have _ := hg4)); (have _ := hB3); (with_reducible refine (hD hB3).mono ?_); rintro e w4 ⟨rfl, hO4, hg4⟩; have hX4 := hX3.kept hg4 hgx; have hY4 := hY3.kept hg4 hgy; have hC4 := hC3.grown hg4 hC3.size (fun j hj => by obtain rfl := Option.some.inj hj; exact hgB); have hG4 := gtrans (gthen hG hB3) hg4 (fun r e => by obtain rfl := Option.some.inj e; rcases hLi g rfl with k | k; exact .inl k.symm; exact .inr k))
          | ((fail_if_success (have _ := hX5)); (have _ := hg4); (refine at_put_ents _ _ w.heap.size 1 _ _ (some ⟨g, 0, none⟩) (n' - 1) c' (by rfl) (by rfl) (by rfl) hX4 (by simp [bl]) (by rfl) ?_); intro V5 hX5 hg5 hz5; have hO5 := hO4.off hX4 (by decide) hg5; have hY5 := hY4.kept hg5 (Ne.symm hne); have hC5 := hC4.grown hg5 hC4.size (fun j hj => by obtain rfl := Option.some.inj hj; exact hw1); have hG5 := gtrans hG4 hg5 (fun r e => .inr (by obtain rfl := Option.some.inj e; exact Nat.le_refl _))))
        go_roundw
        case rel => exact ⟨k + 1, L.eraseIdx i, some ⟨g, 0, none⟩, n' - 1, c', by omega, by go_num, hO5, hX5, hY5, hC5, by omega, fun g' hg' => hLi g' hg', hG5, HN⟩
        case measure => simp [intOf]; omega
    · obtain rfl : k = dn := by omega
      have hde : ds.drop k = [] := List.drop_eq_nil_of_le (by omega)
      have hsome : dropAll es ds = some L := by rw [HD.out, hde]; rfl
      obtain ⟨hin, hdl, hml, hlk⟩ : dropsIn es ds = true ∧ Dis L ∧ (∀ e ∈ L, e ∈ es) ∧ ∀ s, look L s = if s ∈ ds then none else look es s := by
        rcases hdrops with ⟨_, k1⟩ | ⟨k0, L', k1, k2, k3, k4⟩
        · rw [hsome] at k1; cases k1
        · rw [hsome] at k1
          obtain rfl := Option.some.inj k1
          exact ⟨k0, k2, k3, k4⟩
      have HR2 : Hid (∀ fs, fs = comE es ps ds → rightB ⟨t, fs⟩ = R) := fun fs hfs => by rw [← HR.out, hfs]; simp [comOk, hin]
      have HCO : Hid (∀ fs, fs.Perm (putAll L ps) → fs.Pairwise (fun a b => a.p.s ≤ b.p.s) → fs = comE es ps ds ∧ ∀ e ∈ fs, EnOk e) := fun fs h1 h2 => ⟨com_of hdl hlk hpsd hapd (fun e he => hes e (hml e he)) hpsr h1 h2, com_ok hdl hpsd hml oe op h1⟩
      have HP0 : Hid (putAll L ps = putAll L (ps.drop 0)) := by unfold Hid; simp
      clear hdrops hes hpsr hpsd hapd oe hsome hde HD hin hdl hml hlk HR hlt hRD
      go_wp2
      go_loopw [36] (fun i ws => ∃ (m : Nat) (M : List En) (q2 : Option Addr) (n2 c2 : Nat), m ≤ pn ∧ i = .int .i64 m ∧ EO w0.heap.size ws (.slice q2 n2 c2) M ∧ Blk ws w.heap.size 25 (bl ⟨t, q2, n2, c2⟩) ∧ Blk ws V1.heap.size 25 (bl zeroH) ∧ Below w0.heap.size w0 ws ∧ n2 ≤ 8 + m ∧ Lies w (.slice q n c) (.slice q2 n2 c2) ∧ w.grownBy ws (Value.slice q n c).ownBlock ∧ Hid (putAll L ps = putAll M (ps.drop m))) (fun i _ => pn - (intOf i).toNat)
      case atStart => exact ⟨0, L, q', n', c', Nat.zero_le _, rfl, hO, hX, hY, hC, by omega, hLi, hG, HP0⟩
      case round =>
        clear hO hX hY hC HP0 hLn hn8 hLi hG
        obtain ⟨m, M, q2, n2, c2, hm, rfl, hO, hX, hY, hC, hn16, hLi, hG, HP⟩ := hrel
        have hMn := hO.is.1
        by_cases hlt : m < pn
        · have hlt3 : (m : Int) < (pn : Int) := by omega
          obtain ⟨p, hp⟩ : ∃ p, ps[m]? = some p := ⟨_, List.getElem?_eq_getElem (by omega)⟩
          obtain ⟨b, o, rfl, _, hc⟩ := (hRP hC).at pl_len hp
          have HPN : Hid (putAll L ps = putAll (putE M p) (ps.drop (m + 1))) := by
            unfold Hid
            rw [HP.out, List.drop_eq_getElem_cons (by omega), show ps[m] = p from by rw [List.getElem?_eq_getElem (by omega)] at hp; exact Option.some.inj hp]
            rfl
          have hPl := fun {W : World} (hb : Below wr.heap.size wr W) => book_put w0.heap.size (.slice q2 n2 c2) M p (by omega) W (Nat.le_trans hC.size hb.size) (hO.below hb)
          have hgB := own_from_base hO
          have hgx := hO.ne hX (by decide)
          have hgy := hO.ne hY (by decide)
          have hPL2 : (putE M p).length ≤ M.length + 1 := put_len
          clear hp HP
          go_wp2_with (first
            | ((fail_if_success (have _ := hZ3)); (refine at_load_pr _ _ _ _ (by rfl) (by rfl) hc (by rfl) ?_))
            | ((fail_if_success (have _ := hZ3)); (refine at_alloc_po (by rfl) (by rfl) ?_); intro V3 hZ3 hB3 hz3)
            | ((fail_if_success (have _ := hZ4)); (have _ := hZ3); (refine at_store_po _ _ _ _ _ (by rfl) (by rfl) (by rfl) hZ3 rfl (by rfl) ?_); intro V4 hZ4 hg4 hz4; have hB4 := hB3.grown hg4 hB3.size (by simp); have hX4 := hX.below hB4; have hY4 := hY.below hB4; have hC4 := bnext hC hB4; have c4 := cells_bk hX4; simp only at c4)
            | ((fail_if_success (have _ := hg5)); (have _ := hZ4); (refine at_load_po _ _ _ (by rfl) (by rfl) hZ4 (by rfl) ?_))
            | ((fail_if_success (have _ := hg5)); (have _ := hZ4); (with_reducible refine (hPl hB4).mono ?_); rintro e w5 ⟨v5, rfl, hO5, hg5, hl5⟩; obtain ⟨q5, c5, rfl, -, -⟩ := hO5.shape; have hG5 := gtrans (gthen hG hB4) hg5 (fun r e => (hLi r e).imp Eq.symm id); have hL5 := hLi.next hl5 (Nat.le_trans hG.size hB4.size); have hX5 := hX4.kept hg5 hgx; have hY5 := hY4.kept hg5 hgy; have hC5 := hC4.grown hg5 hC4.size hgB)
            | ((fail_if_success (have _ := hX6)); (have _ := hg5); (refine at_put_ents _ _ w.heap.size 1 _ _ q5 (putE M p).length c5 (by rfl) (by rfl) (by rfl) hX5 (by simp [bl]) (by rfl) ?_); intro V6 hX6 hg6 hz6; have hO6 := hO5.off hX5 (by decide) hg6; have hY6 := hY5.kept hg6 (Ne.symm hne); have hC6 := hC5.grown hg6 hC5.size (fun j hj => by obtain rfl := Option.some.inj hj; exact hw1); have hG6 := gtrans hG5 hg6 (fun r e => .inr (by obtain rfl := Option.some.inj e; exact Nat.le_refl _))))
          go_roundw
          case rel => exact ⟨m + 1, putE M p, q5, (putE M p).length, c5, by omega, by go_num, hO6, hX6, hY6, hC6, by omega, hL5, hG6, HPN⟩
          case measure => simp [intOf]; omega
        · obtain rfl : m = pn := by omega
          have hpe : ps.drop m = [] := List.drop_eq_nil_of_le (by omega)
          have HPM : Hid (putAll L ps = M) := by unfold Hid; rw [HP.out, hpe]; rfl
          have c1 := cells_bk hX
          simp only at c1
          have hS := sort_ents w0.heap.size q2 n2 c2 M (by omega) wr hO
          have hgB := own_from_base hO
          have hgx := hO.ne hX (by decide)
          have hgy := hO.ne hY (by decide)
          clear hpe HP hlt op hRP
          go_wp2_with (first
            | ((fail_if_success (have _ := hg5)); (with_reducible refine hS.mono ?_); rintro e w5 ⟨rfl, fs, hpm, hso, hO5, hg5⟩; have hX5 := hX.kept hg5 hgx; have hY5 := hY.kept hg5 hgy; have hC5 := hC.grown hg5 hC.size hgB; have hG5 := gtrans hG hg5 (fun r e => (hLi r e).imp Eq.symm id)))
          obtain ⟨hfs, hok⟩ := HCO.out fs (by rw [HPM.out]; exact hpm) hso
          have hRi := HR2.out fs hfs
          have HF : Hid (fs = comE es ps ds) := hfs
          obtain ⟨hfl, hfr, -⟩ := hO5.is
          have hRt := fun {W : World} (hb : Below w5.heap.size w5 W) => book_Right ⟨t, q2, n2, c2⟩ ⟨t, fs⟩ W ⟨rfl, hfl, hfr.below hb⟩ hok (by show n2 ≤ 1000; omega)
          rw [hRi] at hRt
          clear hfs hRi hS hO hX hY hC HCO HR2 HPM hfl hfr hok hpm hso c1
          refine Inv.region_invB (fun L a w' => a = { tmps := #[(bv { t := t, q := q, n := n, c := c }), (Value.slice pp m pc), (Value.slice dp k dc), (Value.pointer (some { block := w.heap.size, off := 0 })), undef, undef, (Value.pointer (some { block := V1.heap.size, off := 0 })), (if L 4 = true then (.bool R) else (u7)), undef, (u9), (u10), undef, (u12), (Value.slice dp k dc), (Value.int IntKind.i64 ↑k), (Value.int IntKind.i64 ↑k), (Value.bool false), (u17), (u18), (u19), (u20), (u21), (u22), (u23), (u24), (u25), (u26), (u27), (u28), (u29), (u30), (u31), (u32), (u33), (Value.slice pp m pc), (Value.int IntKind.i64 ↑m), (Value.int IntKind.i64 ↑m), (Value.bool false), (u38), (u39), (u40), (u41), (u42), (u43), (u44), (u45), (Value.pointer (some { block := w.heap.size, off := 1 })), (Value.slice q2 n2 c2), (Value.tuple #[]), (if L 0 = true then (bv ⟨t, q2, n2, c2⟩) else undef), (if L 1 = true then (bv ⟨t, q2, n2, c2⟩) else undef), (if L 2 = true then (.bool R) else undef)], defers := [] } ∧ ((L 3 = false → Below w5.heap.size w5 w') ∧ Blk w' w.heap.size 25 (bl ⟨t, q2, n2, c2⟩) ∧ Blk w' V1.heap.size 25 (bl (if L 3 = true then ⟨t, q2, n2, c2⟩ else zeroH)) ∧ EO w0.heap.size w' (.slice q2 n2 c2) fs ∧ Below w0.heap.size w0 w' ∧ w.grownBy w' (Value.slice q n c).ownBlock ∧ (L 3 = true → L 2 = true))) (by kernel_rfl) (by kernel_rfl) ?h0 ?step ?done
          case h0 => exact ⟨by simp, fun _ => (Below.refl _ _).drew, hX5.drew, by simpa using hY5.drew, hO5.below ((Below.refl _ _).drew), hC5.drew, gthen hG5 (Below.refl _ _).drew, by simp⟩
          case step =>
            refine Inv.Steps.cons rfl ?_ ?_
            · intro L a w' hI hL hd K hK
              obtain ⟨rfl, hI⟩ := hI
              clear hd
              rw [if_pos (by rfl)]
              refine wp_load_bk _ _ _ (by rfl) (by rfl) hI.2.1 ?_
              exact hK.out _ _ ⟨by simp [Act.put], by simpa using hI⟩
            refine Inv.Steps.cons rfl ?_ ?_
            · intro L a w' hI hL hd K hK
              obtain ⟨rfl, hI⟩ := hI
              clear hd
              rw [if_pos (by rfl)]
              refine wp_load_bk _ _ _ (by rfl) (by rfl) hI.2.1 ?_
              exact hK.out _ _ ⟨by simp [Act.put], by simpa using hI⟩
            refine Inv.Steps.cons rfl ?_ ?_
            · intro L a w' hI hL hd K hK
              obtain ⟨rfl, hI⟩ := hI
              simp [Region.binds] at hd
              simp only [hd, if_true]
              rw [if_pos (by rfl)]
              have h3 : L 3 = false := Bool.eq_false_iff.2 fun h => absurd (hI.2.2.2.2.2.2 h) (by simp [hL])
              go_simp
              refine (hRt (hI.1 h3)).mono ?_
              rintro e w6 ⟨rfl, hB6⟩
              have hX9 := hI.2.2.1
              rw [h3] at hX9
              exact hK.out _ _ ⟨by simp [hd], fun _ => bnext (hI.1 h3) hB6, hI.2.1.below hB6, by simpa [h3] using hX9.below hB6, hI.2.2.2.1.below hB6, bnext hI.2.2.2.2.1 hB6, gthen hI.2.2.2.2.2.1 hB6, fun h => by simp⟩
            refine Inv.Steps.cons rfl ?_ ?_
            · intro L a w' hI hL hd K hK
              obtain ⟨rfl, hI⟩ := hI
              simp [Region.binds] at hd
              simp only [hd, if_true]
              rw [if_pos (by rfl)]
              have hY1 : Blk w' V1.heap.size 25 (bl zeroH) := by simpa [hL] using hI.2.2.1
              refine wp_store_bk _ _ _ _ _ (by rfl) (by rfl) (by rfl) hY1 rfl ?_
              intro w6 hX6 hg6 hz6
              exact hK.out _ _ ⟨by simp [hd, Act.put], fun h => by simp at h, hI.2.1.kept hg6 hne, by simpa using hX6, hI.2.2.2.1.off hY1 (by decide) hg6, hI.2.2.2.2.1.grown hg6 hI.2.2.2.2.1.size (fun j hj => by obtain rfl := Option.some.inj hj; exact hgb), gtrans hI.2.2.2.2.2.1 hg6 (fun r e => .inr (by obtain rfl := Option.some.inj e; exact hv1)), fun _ => by simp [hd]⟩
            refine Inv.Steps.cons rfl ?_ ?_
            · intro L a w' hI hL hd K hK
              obtain ⟨rfl, hI⟩ := hI
              simp [Region.binds] at hd
              simp only [hd, if_true]
              rw [if_pos (by rfl)]
              go_simp
              exact hK.out _ _ ⟨by simp [hd], by simpa using hI⟩
            exact Inv.Steps.nil (by decide)
          case done =>
            intro L a w' hI hall
            obtain ⟨rfl, hI⟩ := hI
            simp only [hall, if_true] at hI ⊢
            have hYW := hI.2.2.1
            have hOW := hI.2.2.2.1
            have hCW := hI.2.2.2.2.1
            have hGW := hI.2.2.2.2.2.1
            rw [HF.out] at hOW
            clear hI hall
            go_wp2
            refine ret_bk2 (by rfl) rfl _ _ rfl hYW ⟨_, _, _, rfl, fun _ => hOW, hCW, hGW⟩
end Go.Proofs.Ytnaofcggdjbocaa.Book
