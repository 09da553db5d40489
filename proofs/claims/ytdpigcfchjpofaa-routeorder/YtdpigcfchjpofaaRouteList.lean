/-
  All routes in order: List, whatever order the map is gone through in.
-/
import Derived.Test.YtdpigcfchjpofaaRouteOrder0
import Derived.Test.YtdpigcfchjpofaaSortLaid
namespace Go.Proofs.Ytdpigcfchjpofaa.Route
open Go.RowKit Go.Maps Go.Proofs.Ytdpigcfchjpofaa.Mem Go.Proofs.Ytdpigcfchjpofaa.Addr
open Go.Sort (grow flatK get_flatK HoldsK putRowK)

/-! ### The order -/
def kmod (r : Rt) : Nt := (r.1 % 4294967296, r.2.1)
theorem lt_cf (a b : Rt) : ltOf cf a b = ltK (kmod a) (kmod b) := by
  unfold ltOf cf orI cmp ltK kmod
  rw [Bool.eq_iff_iff]
  simp only [decide_eq_true_eq, Bool.or_eq_true, Bool.and_eq_true]
  (repeat' split) <;> omega
theorem swo_cf : Sort.SWO (ltOf cf) where
  irrefl x := by rw [lt_cf]; exact lt_irrefl _
  trans x y z h1 h2 := by rw [lt_cf] at *; exact lt_trans h1 h2
  ntrans x y z h1 h2 := by
    rw [lt_cf, Bool.eq_false_iff, ne_eq, lt_iff] at *
    omega
theorem kmod_of {r : Rt} (h : ROk r) : kmod r = kof r := by
  have h1 : r.1 < 4294967296 := h.1.1
  unfold kmod kof
  rw [Nat.mod_eq_of_lt h1]
theorem sorted_of {d : Array Rt} {M : List Rt} (hM : Good M) (hp : d.toList.Perm M) (hs : Sort.SortedIn (ltOf cf) 0 d.size d) : d.toList = M := by
  have hmem : ∀ x, x ∈ d.toList ↔ x ∈ M := fun x => hp.mem_iff
  have hnd : d.toList.Nodup := hp.nodup_iff.2 (sorted_nodup hM.1)
  refine sorted_eq ?_ hM.1 hmem
  refine List.pairwise_iff_getElem.2 fun i j hi hj hij => ?_
  have hi' : i < d.size := by simpa using hi
  have hj' : j < d.size := by simpa using hj
  have h1 := hs i j (Nat.zero_le _) hij hj'
  rw [getElem!_pos d j hj', getElem!_pos d i hi', lt_cf] at h1
  have m1 : d[i] ∈ M := (hmem _).1 (by simp)
  have m2 : d[j] ∈ M := (hmem _).1 (by simp)
  rw [kmod_of (hM.2 _ m1), kmod_of (hM.2 _ m2)] at h1
  have hne : kof d[i] ≠ kof d[j] := by
    intro e
    have e2 := sorted_inj hM.1 m1 m2 e
    have := (List.nodup_iff_pairwise_ne.1 hnd)
    have := List.pairwise_iff_getElem.1 this i j hi hj hij
    exact this (by simpa using e2)
  rcases lt_total hne with h2 | h2
  · simpa using h2
  · rw [h1] at h2; cases h2

/-! ### Rows -/
theorem flat_get (d : Array Rt) (t : Nat) (h : t < d.size * 6) : (d.toList.flatMap rc)[t]? = some (flatK rc 6 d)[t]! := by
  have hi : t / 6 < d.size := by omega
  have hj : t % 6 < 6 := Nat.mod_lt _ (by decide)
  have e := get_flat rc_len d.toList (t / 6) (t % 6) d[t / 6] (by simp [hi]) hj
  rw [show t / 6 * 6 + t % 6 = t by omega] at e
  rw [e, get_flatK _ _ _ _ h, getElem!_pos d (t / 6) hi]
  have hl : t % 6 < (rc d[t / 6]).length := by rw [rc_len]; exact hj
  rw [List.getElem?_eq_getElem hl, getElem!_pos (rc d[t / 6]) (t % 6) hl]
theorem holds_own {w : World} {B g cap : Nat} {e : TypeId} {rs : List Rt} (h : w.ownsRow B e 6 (.slice (some ⟨g, 0, none⟩) rs.length cap) rs.length (rs.flatMap rc)) : HoldsK rc 6 w g 0 rs.toArray ∧ g < w.heap.size ∧ B ≤ g ∧ rs.length ≤ cap ∧ cap ≤ maxLen := by
  rcases h.2 with ⟨h0, _⟩ | ⟨g', cap', cur, hv, hb, hg, hc, hm, hs, ht⟩
  · simp at h0
  · simp only [Value.slice.injEq, Option.some.injEq, Addr.mk.injEq, and_true, true_and] at hv
    obtain ⟨rfl, rfl⟩ := hv
    refine ⟨fun t h' => ?_, (Array.getElem?_eq_some_iff.1 hg).1, hb, hc, hm⟩
    have h'' : t < rs.toArray.size * 6 := by simpa using h'
    have e1 := flat_get rs.toArray t h''
    simp only [List.size_toArray] at h''
    refine ⟨?_, by simp [World.frozen?, hg]⟩
    rw [← ht, List.getElem?_take] at e1
    simp only [h'', if_true, Array.getElem?_toList] at e1
    rw [Nat.zero_add]
    simp [World.cell?, hg, e1]
theorem holds_rk {w : World} {g cap : Nat} {d : Array Rt} (h : HoldsK rc 6 w g 0 d) (hg : g < w.heap.size) (hc : d.size ≤ cap) (hm : cap ≤ maxLen) : RK rc w (some ⟨g, 0, none⟩) cap d.toList := by
  refine ⟨by simpa using hc, hm, fun h => by simp at h, fun _ => ⟨g, 0, rfl, hg, fun j v hv => ?_⟩⟩
  have hj : j < d.size * 6 := by have := (List.getElem?_eq_some_iff.1 hv).1; rw [len_flat rc_len] at this; simpa using this
  have e := flat_get d j hj
  rw [hv] at e
  rw [(h j (by simpa using hj)).1, ← Option.some.inj e]
  rfl
theorem grown_sorted {w : World} {g n : Nat} {os : Array Obj} (d : Array Rt) : w.grownBy (sortWorldK rc 6 w g 0 n d os) (some g) := by
  refine ⟨rfl, rfl, rfl, size_sortWorldK_c rc 6 w g 0 n d os, fun k hk hne => ?_⟩
  have : g ≠ k := fun e => hne (by rw [e])
  unfold sortWorldK
  rw [Sort.heap_grow_old _ _ (by simpa [putRowK, Sort.putRow, Sort.mapBlock, Sort.ahead] using hk)]
  simp [putRowK, Sort.putRow, Sort.mapBlock, Sort.ahead, Array.getElem?_modify, this]
theorem ne_iter {w : World} {B n r c0 since : Nat} {e : TypeId} {k : Nat} {v : Value} {xs : List Value} {seen : Array Nat} {p : Option Nat} (h : w.ownsRow B e k v n xs) (hr : w.heap[r]? = some (.mapIter p since seen c0)) : some r ≠ v.ownBlock := by
  intro q
  rcases h.2 with ⟨rfl, _⟩ | ⟨g, cap, cur, rfl, _, hg, _⟩
  · cases q
  · simp [Value.ownBlock] at q
    subst q
    rw [hg] at hr
    cases hr
theorem sort_any (g cap : Nat) (rs M : List Rt) (hM : Good M) (hp : rs.Perm M) (hl : rs.length ≤ 1000) {B : Nat} {e : TypeId} (w : World) (h : w.ownsRow B e 6 (.slice (some ⟨g, 0, none⟩) rs.length cap) rs.length (rs.flatMap rc)) :
    Calls Try.prog 26 #[.slice (some ⟨g, 0, none⟩) rs.length cap, .func (.func 27) #[] #[]] w fun e w' => e = .returned (.tuple #[]) ∧ RK rc w' (some ⟨g, 0, none⟩) cap M ∧ w.grownBy w' (some g) := by
  obtain ⟨hH, hg, hB, hc, hm⟩ := holds_own h
  have eg : ∀ args w, (callFunc 27 args).run Try.prog w = .ok (.enter 27 args) w := enters_of Try.func27 (by kernel_rfl) rfl
  have hcon := AnyQ.slices_SortFunc Try.sortL 6 Try.isAgg42 Try.sizeOf42 rc rc_len rc_one cf swo_cf 27 #[] g 0 cap rs.toArray w eg (fun _ _ _ _ x y => order_any x y _) hH hg (by simp; omega)
  change Calls Try.prog 26 _ _ _ at hcon
  rw [List.size_toArray] at hcon
  refine hcon.mono fun e w' ⟨he, d', n, os, hpi, hsi, hw⟩ => ?_
  have hds : d'.size = rs.length := by simpa using hpi.1
  have hpd : d'.toList.Perm M := by
    have h1 := hpi.2.2
    have e1 : d'.extract 0 rs.length = d' := by rw [← hds]; exact Array.extract_size
    have e2 : rs.toArray.extract 0 rs.length = rs.toArray := by
      have : rs.toArray.extract 0 rs.toArray.size = rs.toArray := Array.extract_size
      rw [List.size_toArray] at this
      exact this
    rw [e1, e2] at h1
    exact h1.trans hp
  have hd : d'.toList = M := sorted_of hM hpd (by rw [hds]; exact hsi)
  subst hw
  refine ⟨he, ?_, grown_sorted d'⟩
  have := holds_rk (holdsK_sortWorldK_c rc 6 w g 0 rs.toArray d' n os hH hg (by simpa using hds)) (Nat.lt_of_lt_of_le hg (size_sortWorldK_c rc 6 w g 0 n d' os)) (by omega) hm
  rw [hd] at this
  exact this

/-- The loop under way. -/
def Lists (w wr : World) (b r0 : Nat) (M : List Rt) (D : DataW Unit) (v : Value) : Prop :=
  ∃ (left : Lit → Bool) (cnt : Nat) (rs : List Rt) (g cap : Nat), v = .slice (some ⟨g, 0, none⟩) rs.length cap ∧ wr.ranges Try.prog 29 (plainElem Try.prog 3) b r0 M.length D left cnt ∧ Coll M left rs ∧
    wr.ownsRow w.heap.size 42 6 (.slice (some ⟨g, 0, none⟩) rs.length cap) rs.length (rs.flatMap rc) ∧ Below w.heap.size w wr
theorem rng_iter {w : World} {b r n : Nat} {D : DataW Unit} {left : Lit → Bool} {cnt : Nat} (h : w.ranges Try.prog 29 (plainElem Try.prog 3) b r n D left cnt) : ∃ p since seen c0, w.heap[r]? = some (.mapIter p since seen c0) := by
  obtain ⟨es, clock, since, seen, c0, _, _, _, _, hr, _⟩ := h
  exact ⟨_, _, _, _, hr⟩
theorem own_shape {w : World} {B n k : Nat} {e : TypeId} {v : Value} {xs : List Value} (h : w.ownsRow B e k v n xs) (hp : 0 < n) : ∃ g cap, v = .slice (some ⟨g, 0, none⟩) n cap := by
  rcases h.2 with ⟨_, h0⟩ | ⟨g, cap, cur, rfl, _⟩
  · omega
  · exact ⟨g, cap, rfl⟩
theorem bal2 {B : Nat} {a w : World} (h : Below B a w) (hB : B ≤ a.heap.size) (o1 o2 : Obj) : Below B a ((w.alloc o1).alloc o2) :=
  (h.alloc (Nat.le_trans hB h.size) o1).alloc (by have := h.size; simp; omega) o2
set_option maxRecDepth 100000 in
theorem route_List {w : World} {g b : Nat} {M : List Rt} (h : TabAt w g b M) (hl : M.length ≤ 1000) :
    Calls Try.prog 18 #[.pointer (some ⟨g, 0, none⟩)] w fun e w' => ∃ p c, e = .returned (.slice p M.length c) ∧ RK rc w' p c M ∧ (∀ a, p = some a → w.heap.size ≤ a.block) ∧ Below w.heap.size w w' := by
  obtain ⟨i0, hi, hz0, hz1, hz2⟩ := info_parts info_route
  obtain ⟨hM, D, ho, ha⟩ := h.2
  have c0 := h.1
  have hlen := fun ty => tab_len h.2 ty
  have hlt := ho.lt
  obtain ⟨w1, hmk, hown1, hg1⟩ := run_make_own (P := Try.prog) w w.heap.size 33 42 i0 _ 6 Try.underlying33 hi hz0 hz1 .i64 .i64 M.length (by rw [hz2]; omega) (by unfold maxLen; omega) (Nat.le_refl _)
  have c1 : w1.cell? ⟨g, 0, none⟩ = some (.map (some b)) := (World.cell?_of_block (w := w) (hg1.block g h.lt (by simp))).trans c0
  have ho1 := ho.kept hg1 (by simp)
  have hb1 : Below w.heap.size w w1 := (Below.refl _ w).grown hg1 (Nat.le_refl _) (by simp)
  go_enter Try.func18, Try.ntmps18
  go_wp2_with (first
    | (at_range; refine wpList_range_own _ rfl _ 54 rfl 29 3 law Try.underlying54 _ b M.length D rfl ho1 ?_; intro w0 hrg0 hg0 hs0)
    | go_in)
  go_frame
  obtain ⟨r0, hr0⟩ : ∃ r0, r0 = w1.heap.size := ⟨_, rfl⟩
  rw [← hr0] at hrg0 ⊢
  have hr1 : w.heap.size ≤ r0 := by rw [hr0]; exact hb1.size
  clear hr0
  go_loopw [3] (fun v wr => Lists w wr b r0 M D v) (fun _ wr => wr.rangeLeft b r0)
  case atStart => exact ⟨_, _, [], _, _, rfl, hrg0, coll_start hM ha, hown1.kept hg0 (Or.inr (by simp [Value.ownBlock])), hb1.grown hg0 hb1.size (by simp)⟩
  case round =>
    obtain ⟨left, cnt, rs, gg, cap, rfl, hrg, hC, hown, hbw⟩ := hrel
    have hcl := coll_le hC
    go_wp2_with (first
      | (at_next; refine wpList_next_ranges _ rfl _ rfl 29 law _ knet (Value.int .i64) knet_inv vint_inv b r0 M.length D _ _ rfl hrg ?_ ?_)
      | go_in)
    · intro _ hl0
      have hs := sort_any gg cap rs M hM (coll_perm hM hC hl0) (by omega) wr hown
      have e1 : Hid (rs.length = M.length) := (coll_perm hM hC hl0).length_eq
      have hgb := (holds_own hown).2.2.1
      go_wp2_with (go_at_call 26; refine hs.mono ?_; rintro e w2 ⟨rfl, hrk, hg2⟩)
      go_ret
      exact ⟨_, _, by rw [e1.out]; rfl, hrk, fun a ha => by simp at ha; subst ha; exact hgb, hbw.grown hg2 hbw.size fun j hj => by simp at hj; omega⟩
    · intro N q hk c kl yd yp w2 cnt1 hkey hlk hv hat hrg1 hlt2 hg2 hs1 hen
      clear hs1
      obtain ⟨rfl, hmem⟩ := came (x := ⟨(N, q), hk⟩) ha hkey hv hat
      simp only at hmem hlk hrg1
      have hC1 := coll_step hM hC hmem hlk
      obtain ⟨_, _, _, _, hit⟩ := rng_iter hrg
      have hown2 := hown.kept hg2 (Or.inr (ne_iter hown hit).symm)
      have hbw2 := hbw.grown hg2 hbw.size fun j hj => by simp at hj; omega
      unfold knet at hen
      simp only at hen
      obtain ⟨v0, hv0⟩ : ∃ v0, v0 = Value.slice (some ⟨gg, 0, none⟩) rs.length cap := ⟨_, rfl⟩
      rw [← hv0] at hown2 ⊢
      have kN := Blk.new w2 #[.int .u8 (b0 N), .int .u8 (b1 N), .int .u8 (b2 N), .int .u8 (b3 N), .int .i64 q] 29
      have lN := kN.cell
      have hrd := lit_rk (enc := rc) (w := w2.alloc (.cells #[.int .u8 (b0 N), .int .u8 (b1 N), .int .u8 (b2 N), .int .u8 (b3 N), .int .i64 q] 29)) (cs := #[.int .u8 (b0 N), .int .u8 (b1 N), .int .u8 (b2 N), .int .u8 (b3 N), .int .i64 q, .int .i64 c]) (e := 42) (x := (N, q, c)) rfl
      simp only [World.size_alloc] at hrd
      go_wp2_with (at_builtin; refine wpList_append_rk rc_len (by decide) rc_one _ rfl _ _ 33 rfl w.heap.size 42 i0 _ 24 Try.underlying33 hi hz0 hz1 hz2 rfl v0 rs.length rs rfl ((hown2.alloc _).alloc _) (some ⟨w2.heap.size + 1, 0, none⟩) 1 1 [(N, q, c)] rfl rfl hrd (by omega) (by omega) (by have := hbw2.size; simp; omega) ?_; intro v3 w3 hown3 hg3)
      have hrg2 := (hrg1.alloc (.cells #[.int .u8 (b0 N), .int .u8 (b1 N), .int .u8 (b2 N), .int .u8 (b3 N), .int .i64 q] 29)).alloc (.cells #[.int .u8 (b0 N), .int .u8 (b1 N), .int .u8 (b2 N), .int .u8 (b3 N), .int .i64 q, .int .i64 c] 42)
      have hown4 := (hown2.alloc (.cells #[.int .u8 (b0 N), .int .u8 (b1 N), .int .u8 (b2 N), .int .u8 (b3 N), .int .i64 q] 29)).alloc (.cells #[.int .u8 (b0 N), .int .u8 (b1 N), .int .u8 (b2 N), .int .u8 (b3 N), .int .i64 q, .int .i64 c] 42)
      obtain ⟨_, _, _, _, hit2⟩ := rng_iter hrg2
      have hrg3 := hrg2.kept hg3 (fun q => by have := (hown4.lt b q.symm).1; omega) (ne_iter hown4 hit2)
      obtain ⟨g3, cap3, rfl⟩ := own_shape hown3 (by omega)
      have hbw3 := (bal2 hbw2 (Nat.le_refl _) _ _).grown hg3 (by have := hbw2.size; simp; omega) fun j hj => (hown4.lt j hj).1
      go_roundw
      case rel => exact ⟨_, cnt1, rs ++ [(N, q, c)], g3, cap3, by simp, hrg3, hC1, by simpa using hown3, hbw3⟩
      case measure => rw [hrg3.left_eq, hrg.left_eq]; exact hlt2
end Go.Proofs.Ytdpigcfchjpofaa.Route
