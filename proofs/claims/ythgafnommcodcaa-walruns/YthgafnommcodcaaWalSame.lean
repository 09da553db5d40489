/-
  Records held against each other, one by one.
-/
import Derived.Test.YthgafnommcodcaaWalPay
namespace Go.Proofs.Ythgafnommcodcaa.Wal
open Go.RowKit Go.Proofs.Ythgafnommcodcaa.Mem Go.Proofs.Ythgafnommcodcaa.Sect Go.Proofs.Ythgafnommcodcaa.Frame Go.Proofs.Ythgafnommcodcaa.Disk Go.Proofs.Ythgafnommcodcaa.Area
set_option maxRecDepth 100000

/-- What is held against another record's. -/
def key (r : Rv) : Nat × Nat × List Int := (r.g.s, r.g.e, r.g.p)
theorem same_key (r z : Rv) : same r.g.s r.g.e r.g.p z.g.s z.g.e z.g.p = decide (key r = key z) := by
  unfold same key
  rw [Bool.eq_iff_iff]
  simp only [Bool.and_eq_true, decide_eq_true_eq, Prod.mk.injEq]
theorem rk_rec {w : World} {p : Option Addr} {c i : Nat} {rs : List Rv} {r : Rv} (h : RK rc w p c rs) (hi : rs[i]? = some r) : ∃ b o, p = some ⟨b, o, none⟩ ∧ b < w.heap.size ∧
    w.cell? ⟨b, o + i * 3, none⟩ = some (.int .u64 (r.g.s : Int)) ∧ w.cell? ⟨b, o + i * 3 + 1, none⟩ = some (.int .u32 (r.g.e : Int)) ∧ w.cell? ⟨b, o + i * 3 + 2, none⟩ = some (.slice r.q r.g.p.length r.d) := by
  obtain ⟨b, o, e, hlt, hc⟩ := h.at rc_len hi
  exact ⟨b, o, e, hlt, hc 0 _ rfl, hc 1 _ rfl, hc 2 _ rfl⟩
theorem same_rec {w : World} {T T' : Nat → Prop} {rs zs : List Rv} (h : Pays T w rs) (h' : Pays T' w zs) {r z : Rv} (hr : r ∈ rs) (hz : z ∈ zs) {W : World} (hW : Below w.heap.size w W) :
    Calls Try.prog 33 #[.agg #[.int .u64 (r.g.s : Int), .int .u32 (r.g.e : Int), .slice r.q r.g.p.length r.d], .agg #[.int .u64 (z.g.s : Int), .int .u32 (z.g.e : Int), .slice z.q z.g.p.length z.d]] W fun x w' => x = .returned (.bool (decide (key r = key z))) ∧ Below W.heap.size W w' := by
  rw [← same_key]
  exact ref_Same _ _ _ _ _ _ rfl _ _ _ _ _ _ rfl (h r hr).2.1 (h' z hz).2.1 W ((h r hr).1.below hW) ((h' z hz).1.below hW)
set_option maxHeartbeats 2000000 in
theorem ref_SameRecords (q : Option Addr) (m c : Nat) (rs : List Rv) (hm : rs.length = m) (q2 : Option Addr) (m2 c2 : Nat) (zs : List Rv) (hm2 : zs.length = m2) (h1000 : m ≤ 10000) (h2000 : m2 ≤ 10000) {T T' : Nat → Prop} (w : World) (r1 : RK rc w q c rs) (r2 : RK rc w q2 c2 zs) (p1 : Pays T w rs) (p2 : Pays T' w zs) :
    Calls Try.prog 26 #[.slice q m c, .slice q2 m2 c2] w fun x w' => x = .returned (.bool (decide (rs.map key = zs.map key))) ∧ Below w.heap.size w w' := by
  by_cases hml : m = m2
  · subst hml
    have hb : ((m : Int) != (m : Int)) = false := by simp
    go_enter Try.func26, Try.ntmps26
    go_wp2
    go_loopw [13] (fun i wr => ∃ k : Nat, k ≤ m ∧ i = .int .i64 k ∧ Hid ((rs.take k).map key = (zs.take k).map key) ∧ Below w.heap.size w wr) (fun i _ => m - (intOf i).toNat)
    case atStart => exact ⟨0, by omega, rfl, by unfold Hid; simp, Below.refl _ _⟩
    case round =>
      obtain ⟨k, hk, rfl, HK, hB⟩ := hrel
      by_cases hlt : k < m
      · have hlt2 : decide ((k : Int) < (m : Int)) = true := by simp; omega
        have hlt3 : (k : Int) < (m : Int) := by omega
        obtain ⟨x, hx⟩ : ∃ x, rs[k]? = some x := ⟨_, List.getElem?_eq_getElem (by omega)⟩
        obtain ⟨z, hz⟩ : ∃ z, zs[k]? = some z := ⟨_, List.getElem?_eq_getElem (by omega)⟩
        have hxm := List.mem_of_getElem? hx
        have hzm := List.mem_of_getElem? hz
        have hS := fun {W : World} (hW : Below w.heap.size w W) => same_rec p1 p2 hxm hzm hW
        have hBd := hB.drew
        have hcells := fun {W : World} (hW : Below w.heap.size w W) => (⟨rk_rec (r1.below hW) hx, rk_rec (r2.below hW) hz⟩ : _ ∧ _)
        obtain ⟨⟨b, o, rfl, hb1, k0, k1, k2⟩, ⟨b2, o2, rfl, hb2, j0, j1, j2⟩⟩ := hcells hBd
        obtain ⟨D, hD⟩ : ∃ D, decide (key x = key z) = D := ⟨_, rfl⟩
        rw [hD] at hS
        replace hD : Hid (decide (key x = key z) = D) := hD
        replace hx : Hid (rs[k]? = some x) := hx
        replace hz : Hid (zs[k]? = some z) := hz
        clear hcells hm hm2
        go_wp2
        go_region_held (fun W => W.cell? ⟨b, o + k * 3, none⟩ = some (.int .u64 (x.g.s : Int)) ∧ W.cell? ⟨b, o + k * 3 + 1, none⟩ = some (.int .u32 (x.g.e : Int)) ∧ W.cell? ⟨b, o + k * 3 + 2, none⟩ = some (.slice x.q x.g.p.length x.d) ∧ W.cell? ⟨b2, o2 + k * 3, none⟩ = some (.int .u64 (z.g.s : Int)) ∧ W.cell? ⟨b2, o2 + k * 3 + 1, none⟩ = some (.int .u32 (z.g.e : Int)) ∧ W.cell? ⟨b2, o2 + k * 3 + 2, none⟩ = some (.slice z.q z.g.p.length z.d))
          (first | exact ⟨k0, k1, k2, j0, j1, j2⟩ | exact hS6 | assumption)
          (((with_reducible refine (hS hBd).mono ?_); rintro e w6 ⟨rfl, hB6⟩; have hS6 : w6.cell? ⟨b, o + k * 3, none⟩ = some (.int .u64 (x.g.s : Int)) ∧ w6.cell? ⟨b, o + k * 3 + 1, none⟩ = some (.int .u32 (x.g.e : Int)) ∧ w6.cell? ⟨b, o + k * 3 + 2, none⟩ = some (.slice x.q x.g.p.length x.d) ∧ w6.cell? ⟨b2, o2 + k * 3, none⟩ = some (.int .u64 (z.g.s : Int)) ∧ w6.cell? ⟨b2, o2 + k * 3 + 1, none⟩ = some (.int .u32 (z.g.e : Int)) ∧ w6.cell? ⟨b2, o2 + k * 3 + 2, none⟩ = some (.slice z.q z.g.p.length z.d) := ⟨(hB6.cell hb1).trans k0, (hB6.cell hb1).trans k1, (hB6.cell hb1).trans k2, (hB6.cell hb2).trans j0, (hB6.cell hb2).trans j1, (hB6.cell hb2).trans j2⟩))
        have hBB := bnext hBd hB6
        cases D with
        | true =>
          have HK2 : Hid ((rs.take (k + 1)).map key = (zs.take (k + 1)).map key) := by
            unfold Hid
            rw [List.take_add_one, List.take_add_one, hx.out, hz.out, List.map_append, List.map_append, HK.out]
            have := of_decide_eq_true hD.out
            simp [this]
          clear k0 k1 k2 j0 j1 j2 hS6
          go_wp2
          go_roundw
          case rel => exact ⟨k + 1, by omega, by go_num, HK2, hBB⟩
          case measure => simp [intOf]; omega
        | false =>
          have hne : decide (rs.map key = zs.map key) = false := by
            refine decide_eq_false fun e => of_decide_eq_false hD.out ?_
            have := congrArg (fun l => l[k]?) e
            simpa [hx.out, hz.out] using this
          replace hne : Hid (decide (rs.map key = zs.map key) = false) := hne
          clear k0 k1 k2 j0 j1 j2 hS6
          go_wp2
          go_ret
          rw [hne.out]
          exact ⟨rfl, hBB⟩
      · obtain rfl : k = m := by omega
        have e1 : decide (rs.map key = zs.map key) = true := by
          have := HK.out
          rw [List.take_of_length_le (by omega), List.take_of_length_le (by omega)] at this
          exact decide_eq_true this
        replace e1 : Hid (decide (rs.map key = zs.map key) = true) := e1
        go_wp2
        go_ret
        rw [e1.out]
        exact ⟨rfl, hB⟩
  · have hb : ((m : Int) != (m2 : Int)) = true := by simp; omega
    have e1 : decide (rs.map key = zs.map key) = false := by
      refine decide_eq_false fun e => hml ?_
      have := congrArg List.length e
      simp only [List.length_map] at this
      omega
    rw [e1]
    clear hm hm2
    go_enter Try.func26, Try.ntmps26
    go_wp2
    go_ret
    exact ⟨rfl, Below.refl _ _⟩
end Go.Proofs.Ythgafnommcodcaa.Wal
