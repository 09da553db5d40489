/-
  Scan: the records of a log, segment by segment.
-/
import Derived.Test.YthgafnommcodcaaWalRuns0
namespace Go.Proofs.Ythgafnommcodcaa.Wal
open Go.RowKit Go.Proofs.Ythgafnommcodcaa.Mem Go.Proofs.Ythgafnommcodcaa.Sect Go.Proofs.Ythgafnommcodcaa.Frame Go.Proofs.Ythgafnommcodcaa.Disk Go.Proofs.Ythgafnommcodcaa.Area
set_option maxRecDepth 100000

theorem can_of_chk {n k s : Nat} (h : chk (n : Int) (k : Int) s = 0) : Can n (segsN n) k 0 0 ∧ s ≠ 0 := by
  unfold chk at h
  split at h
  · rename_i ht
    obtain ⟨⟨h1, h2⟩, h3, h4⟩ := there_iff.1 ht
    refine ⟨⟨by omega, by omega, rfl, by unfold segsN; omega, by unfold segsN; omega, by omega⟩, ?_⟩
    intro h0
    rw [if_pos h0] at h
    omega
  · omega
theorem chk_nat {n s : Nat} {k : Int} (h : chk (n : Int) k s = 0) : ∃ m : Nat, k = (m : Int) := by
  unfold chk at h
  split at h
  · rename_i ht
    obtain ⟨_, h3, _⟩ := there_iff.1 ht
    exact ⟨k.toNat, by omega⟩
  · omega
/-- What a scan gives back: the records, and a segment. -/
def Found (w w' : World) (e : Ending) (gs : List Got) (k : Nat) : Prop := ∃ v rs, e = .returned (.tuple #[v, .int .i64 (k : Int), .int .i64 0]) ∧ Rows w' w.heap.size v rs ∧ rs.map (·.g) = gs ∧ Below w.heap.size w w'
section
variable {S0 : Nat → Prop} {B g : Nat} {w : World} {d : Dsk}
theorem wal_Scan_no (h : Dk B S0 w g d) (ep s : Nat) (k : Int) {E : Int} (hE : chk d.st.length k s = E) (hE0 : E ≠ 0) :
    Calls Try.prog 10 #[.pointer (some ⟨g, 0, none⟩), .int .u32 (ep : Int), .int .u64 (s : Int), .int .i64 k] w fun e w' => e = .returned (.tuple #[.slice none 0 0, .int .i64 0, .int .i64 E]) ∧ w' = w := by
  have hc := wal_check h s k
  rw [hE] at hc
  have hb : (E != 0) = true := by simp [hE0]
  clear hE hE0
  go_enter Try.func10, Try.ntmps10
  go_wp2_with (first
    | ((with_reducible refine hc.mono ?_); rintro e w1 ⟨rfl, hw⟩; rw [hw]; clear hw))
  go_ret3
  exact ⟨rfl, rfl⟩
set_option maxHeartbeats 2000000 in
theorem wal_Scan (h : Dk B S0 w g d) (hd : d.ok) (hby : Byt d) (ep s st : Nat) (hep : ep < 4294967296) (hs : s < 18446744073709551616) (hE : chk d.st.length st s = 0) {S : Nat} (hS : S = segsN d.st.length) :
    Calls Try.prog 10 #[.pointer (some ⟨g, 0, none⟩), .int .u32 (ep : Int), .int .u64 (s : Int), .int .i64 (st : Int)] w fun e w' => Found w w' e (pscan (vis d S st) S ep s).1 (segOf S st (pscan (vis d S st) S ep s).2) := by
  have hck := wal_check h s st
  rw [hE] at hck
  obtain ⟨hc, -⟩ := can_of_chk hE
  rw [← hS] at hc
  have hS2 := hc.two
  have hst := hc.2.2.2.1
  have hl := fun {W : World} (hW : Below w.heap.size w W) => len_any (h.below hW)
  obtain ⟨hn1, hE1⟩ := hc.segs
  have hsg := fun W => area_Segs (d.st.length : Int) W
  simp only [hn1, hE1] at hsg
  have hnx := fun (i : Nat) W => area_Next (d.st.length : Int) (segOf S st i : Int) W
  simp only [(hc.next _).1, (hc.next _).2] at hnx
  have hseg := fun {W : World} (hW : Below w.heap.size w W) (i : Nat) => wal_segment (h.below hW) hd hc i
  have hvb := byt_view hby S st
  have hvl := fun i => view_len (vis d S st) i 0
  have hfst := seg_first hst
  have HP : Hid (pscan (vis d S st) S ep s = (([] : List Rv).map (·.g) ++ (cont (vis d S st) S ep (16 * S + 17) s 0).1, (cont (vis d S st) S ep (16 * S + 17) s 0).2)) := rfl
  generalize hV : vis d S st = V at *
  generalize pscan V S ep s = T at *
  obtain ⟨T1, T2⟩ := T
  clear hn1 hE1 hE hc hby hS hV
  go_enter Try.func10, Try.ntmps10
  go_wp2_with (first
    | ((with_reducible refine hck.mono ?_); rintro e w1 ⟨rfl, hw⟩; rw [hw]; clear hw)
    | ((with_reducible refine (hl (Below.refl _ _)).mono ?_); rintro e w1 ⟨rfl, hw⟩; rw [hw]; clear hw)
    | ((with_reducible refine (hsg _).mono ?_); rintro e w1 ⟨rfl, hw⟩; rw [hw]; clear hw))
  clear hck hsg
  go_loopw [2, 12, 15, 16, 34] (fun s2 s12 s15 s16 s34 wr => ∃ (i nx f : Nat) (rs : List Rv) (p7 : Option Addr) (c7 : Nat), i ≤ S ∧ s2 = .int .u64 (nx : Int) ∧ s12 = .slice p7 rs.length c7 ∧ s15 = .int .i64 (segOf S st (i - 1) : Int) ∧ s16 = .int .i64 (segOf S st i : Int) ∧ s34 = .int .i64 (i : Int) ∧ nx < 18446744073709551616 ∧ Hid (16 * (S - i) + 17 ≤ f) ∧ Hid (rs.length ≤ 16 * i) ∧ Rows wr w.heap.size (.slice p7 rs.length c7) rs ∧ Hid ((T1, T2) = (rs.map (·.g) ++ (cont V S ep f nx i).1, (cont V S ep f nx i).2)) ∧ Below w.heap.size w wr) (fun _ _ _ _ s34 _ => S - (intOf s34).toNat)
  case atStart => exact ⟨0, s, 16 * S + 17, [], none, 0, by omega, rfl, rfl, by rw [hfst], by rw [hfst], rfl, hs, by unfold Hid; omega, by unfold Hid; simp, rows_nil _ _, HP, Below.refl _ _⟩
  case round =>
    obtain ⟨i, nx, f, rs, p7, c7, hi, rfl, rfl, rfl, rfl, rfl, hnx2, HF, HL, hR, HW, hB⟩ := hrel
    by_cases hlt : i < S
    · have hlt2 : decide ((i : Int) < (S : Int)) = true := by simp; omega
      have hrun := fun q c W r => wal_run q c 16 (view V i 0) (hvl i) (by omega) (hvb i 0) ep nx hep hnx2 W r
      have hl16 := run_len (rd := V) (ep := ep) (j := i) hnx2
      have hcn := fun h => cont_none (rd := V) (S := S) (ep := ep) (nx := nx) (j := i) (run_empty.1 h) f
      have hcs := fun h => cont_step (rd := V) (S := S) (ep := ep) (j := i) hnx2 hlt h (show 17 ≤ f by have := HF.out; omega)
      generalize run ep 17 nx (view V i 0) = R at *
      have hRl : Hid (R.length ≤ 16) := hl16
      have hlim := HL.out
      by_cases hemp : R = []
      · have HW2 := HW.out
        rw [hcn hemp, List.append_nil] at HW2
        simp only [Prod.mk.injEq] at HW2
        obtain ⟨e1, e2⟩ := HW2
        subst e1 e2 hemp
        clear HW hcn hcs hl16 hlim
        go_wp2_with (first
          | ((with_reducible refine (hseg hB i).mono ?_); rintro e w2 ⟨G2, rfl, rk2, hB2⟩)
          | ((with_reducible refine (hrun _ _ _ rk2).mono ?_); rintro e w3 ⟨v3, rs3, rfl, hR3, hm3, hB3⟩; obtain ⟨p9, c9, rfl, r9, f9⟩ := own_rk rc_len (by decide) hR3.1; have hz3 : rs3.length = 0 := (by simpa using congrArg List.length hm3); have hb3 : ((rs3.length : Int) == 0) = true := (by simp [hz3])))
        go_ret3
        exact ⟨_, rs, rfl, hR.below (bnext hB2 hB3), rfl, bnext hB (bnext hB2 hB3)⟩
      · have HW2 := HW.out
        rw [hcs hemp] at HW2
        have h0 : 0 < R.length := by
          cases R with
          | nil => exact absurd rfl hemp
          | cons _ _ => simp
        have hwr : ∀ k : Nat, k = R.length → IntKind.u64.wrap ((nx : Int) + (k : Int)) = ((adv nx R.length : Nat) : Int) := fun k hk => by rw [IntKind.wrap_u64]; unfold adv; omega
        have hav := adv_lt nx R.length
        have hw3 := hwr _ rfl
        have hb3 : ((R.length : Int) == 0) = false := beq_eq_false_iff_ne.2 (by omega)
        replace HW2 : Hid ((T1, T2) = (rs.map (·.g) ++ R ++ (cont V S ep (f - R.length) (adv nx R.length) (i + 1)).1, (cont V S ep (f - R.length) (adv nx R.length) (i + 1)).2)) := by
          unfold Hid
          rw [HW2, List.append_assoc]
        clear HW hcn hcs
        go_wp2_with (first
          | ((with_reducible refine (hseg hB i).mono ?_); rintro e w2 ⟨G2, rfl, rk2, hB2⟩)
          | ((with_reducible refine (hrun _ _ _ rk2).mono ?_); rintro e w3 ⟨v3, rs3, rfl, hR3, hm3, hB3⟩; obtain ⟨p9, c9, rfl, r9, f9⟩ := own_rk rc_len (by decide) hR3.1; have hz3 : rs3.length = R.length := (by simpa using congrArg List.length hm3); have hBB := bnext hB2 hB3)
          | (at_builtin; refine at_append_rec rfl _ _ rfl w.heap.size (.slice p7 rs.length c7) rs.length rs rfl (hR.below hBB).1 p9 R.length c9 rs3 rfl hz3 r9 (by omega) (by have := hB.size; have := hBB.size; omega) ?_; intro v5 w5 ho5 hg5 hl5; have hB5 : Below w.heap.size w w5 := (bnext hB hBB).grown hg5 (bnext hB hBB).size (fun j hj => (hR.lt j hj).1))
          | ((with_reducible refine (hl hB5).mono ?_); rintro e w6 ⟨rfl, hw⟩; rw [hw]; clear hw)
          | ((with_reducible refine (hnx i _).mono ?_); rintro e w7 ⟨rfl, hw⟩; rw [hw]; clear hw))
        have hPz : Pays (ownOf (.slice p7 rs.length c7)) w3 rs3 := fun r hr => ⟨(hR3.2.1 r hr).1, (hR3.2.1 r hr).2.1, off_fresh (hR3.2.2 r hr) (fun k hk => by have := (hR.lt k hk).2; have := hB2.size; omega), (hR3.2.1 r hr).2.2.2⟩
        have hR5 := hR.more hBB hPz (hR3.2.2.lower (by have := hB.size; have := hB2.size; omega)) hz3 ho5 hg5 hl5
        obtain ⟨p8, c8, rfl, -, -⟩ := own_rk rc_len (by decide) hR5.1
        refine ⟨⟨i + 1, adv nx R.length, f - R.length, rs ++ rs3, p8, c8, by omega, rfl, rfl, rfl, rfl, by go_num, hav, ?_, ?_, hR5, ?_, hB5⟩, by simp [intOf]; omega⟩
        · have := HF.out
          have := hRl.out
          unfold Hid
          omega
        · have := hRl.out
          unfold Hid
          rw [List.length_append, hz3]
          omega
        · unfold Hid
          rw [List.map_append, hm3, HW2.out]
    · obtain rfl : i = S := by omega
      have HW2 := HW.out
      rw [cont_last, List.append_nil] at HW2
      simp only [Prod.mk.injEq] at HW2
      obtain ⟨e1, e2⟩ := HW2
      subst e1 e2
      clear HW
      go_wp2
      go_ret3
      exact ⟨_, rs, rfl, hR, rfl, hB⟩
end
end Go.Proofs.Ythgafnommcodcaa.Wal
