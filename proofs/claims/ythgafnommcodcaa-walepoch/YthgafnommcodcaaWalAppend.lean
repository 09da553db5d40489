/-
  A log's Append.
-/
import Derived.Test.YthgafnommcodcaaWalWrite
namespace Go.Proofs.Ythgafnommcodcaa.Wal
open Go.RowKit Go.Proofs.Ythgafnommcodcaa.Mem Go.Proofs.Ythgafnommcodcaa.Sect Go.Proofs.Ythgafnommcodcaa.Frame Go.Proofs.Ythgafnommcodcaa.Disk Go.Proofs.Ythgafnommcodcaa.Area
set_option maxRecDepth 100000

theorem wrap_more (n : Nat) : IntKind.u64.wrap ((n : Int) + 1) = ((more n : Nat) : Int) := by rw [IntKind.wrap_u64]; unfold more; omega
/-- The disk, and the log, and no more has turned. -/
def Wen (B : Nat) (S0 : Nat → Prop) (w w' : World) (g gl : Nat) (d : Dsk) (L : List Value) : Prop :=
  ∃ S', Dk B S' w' g d ∧ Fr (fun k => S0 k ∨ k = gl) w w' ∧ (∀ k, S' k → S0 k ∨ w.heap.size ≤ k) ∧ Blk w' gl 86 L
theorem right_of {nx : Nat} {p : List Int} (hl : p.length ≤ 700) (h0 : nx ≠ 0) : right nx p = true := by
  unfold right
  simp only [Bool.and_eq_true, decide_eq_true_eq]
  omega
theorem to_fits {t z : Nat} (hz : z ≤ 12) : toT t z + z ≤ 16 := by unfold toT; split <;> omega
theorem own_fr {T : Nat → Prop} {B : Nat} {w w' : World} {e : TypeId} {k n : Nat} {v : Value} {xs : List Value} (h : w.ownsRow B e k v n xs) (hF : Fr T w w') (hT : ∀ b, v.ownBlock = some b → ¬ T b) : w'.ownsRow B e k v n xs := by
  refine ⟨h.1, ?_⟩
  rcases h.2 with h | ⟨g, cap, cur, h1, h2, h3, h4⟩
  · exact .inl h
  · refine .inr ⟨g, cap, cur, h1, h2, (hF.2.2.2.2 g (Array.getElem?_eq_some_iff.1 h3).1 (hT g (by rw [h1]; rfl))).trans h3, h4⟩
/-- A disk stays while what is none of it turns. -/
theorem dk_fr {S T : Nat → Prop} {B g : Nat} {w w' : World} {d : Dsk} (h : Dk B S w g d) (hF : Fr T w w') (hT : ∀ k, S k → ¬ T k) : Dk B S w' g d := by
  obtain ⟨vs, vp, h1, h2, h3, h4, h5, h6, h7⟩ := h
  exact ⟨vs, vp, hF.blk h1 (hT g h4), own_fr h2 hF fun b hb => hT b (h5 b hb).1, own_fr h3 hF fun b hb => hT b (h6 b hb).1, h4, h5, h6, fun k hk => ⟨(h7 k hk).1, Nat.lt_of_lt_of_le (h7 k hk).2 hF.size⟩⟩
section
variable {S0 : Nat → Prop} {B g : Nat} {w : World} {d : Dsk} {gl S ep nx st j t : Nat}
theorem wal_Append_long (q : Option Addr) (m c : Nat) (hz : sizeN (m : Int) = 0) :
    Calls Try.prog 15 #[.pointer (some ⟨gl, 0, none⟩), .slice q m c] w fun e w' => e = .returned (.tuple #[.int .u64 0, .int .i64 81]) ∧ w' = w := by
  have hS := fun w => frame_Size (m : Int) w
  rw [sizeI_sizeN, hz] at hS
  clear hz
  go_enter Try.func15, Try.ntmps15
  go_wp2_with (first
    | ((with_reducible refine (hS _).mono ?_); rintro e w1 ⟨rfl, hw⟩; rw [hw]; clear hw))
  go_ret2
  exact ⟨rfl, rfl⟩
theorem wal_Append_full (h : Dk B S0 w g d) (hY : Blk w gl 86 (lgc g ep nx st (segOf S st j) t)) (hc : Can d.st.length S st j t) (q : Option Addr) (m c : Nat) (hz : sizeN (m : Int) ≠ 0) (hr : room S j t nx (sizeN (m : Int)) = false) :
    Calls Try.prog 15 #[.pointer (some ⟨gl, 0, none⟩), .slice q m c] w fun e w' => e = .returned (.tuple #[.int .u64 0, .int .i64 101]) ∧ Below w.heap.size w w' := by
  have hS := fun w => frame_Size (m : Int) w
  rw [sizeI_sizeN] at hS
  have hR := wal_Room h hY hc (m : Int)
  rw [hr] at hR
  have hb : ((sizeN (m : Int) : Int) == 0) = false := by simp; omega
  clear hr hz
  generalize sizeN (m : Int) = z at *
  go_enter Try.func15, Try.ntmps15
  go_wp2_with (first
    | ((with_reducible refine (hS _).mono ?_); rintro e w1 ⟨rfl, hw⟩; rw [hw]; clear hw)
    | ((with_reducible refine hR.mono ?_); rintro e w2 ⟨rfl, hB2⟩))
  go_ret2
  exact ⟨rfl, hB2⟩
/-- There is room: the record's sectors are written where it goes. -/
theorem wal_Append_room (h : Dk B S0 w g d) (hY : Blk w gl 86 (lgc g ep nx st (segOf S st j) t)) (hgl : ¬ S0 gl) (hc : Can d.st.length S st j t) (hd : d.ok) (q : Option Addr) (m c : Nat) (p : List Int) (hm : p.length = m) (hpb : ∀ c ∈ p, Byte c) (r : Reads .u8 w q c p)
    (hr : room S j t nx (size m) = true) (hnx : nx < 18446744073709551616) (hep : ep < 4294967296) (hpe : d.pe.length ≤ 980) {D : Dsk} {E : Int} (hD : writes d (adr S st (toJ j t (size m)) (toT t (size m))) (made nx ep p) = (D, E)) :
    Calls Try.prog 15 #[.pointer (some ⟨gl, 0, none⟩), .slice q m c] w fun e w' =>
      (E = 0 ∧ e = .returned (.tuple #[.int .u64 (nx : Int), .int .i64 0]) ∧ Wen B S0 w w' g gl D (lgc g ep (more nx) st (segOf S st (toJ j t (size m))) (toT t (size m) + size m))) ∨
      (E ≠ 0 ∧ e = .returned (.tuple #[.int .u64 0, .int .i64 E]) ∧ Wen B S0 w w' g gl D (lgc g ep nx st (segOf S st j) t)) := by
  have hS := fun w => frame_Size (m : Int) w
  rw [sizeI_sizeN, sizeN_nat] at hS
  have hR := wal_Room h hY hc (m : Int)
  rw [sizeN_nat, hr] at hR
  simp only [room, Bool.and_eq_true, decide_eq_true_eq] at hr
  obtain ⟨h0, hn0, hfree⟩ := hr
  have hm7 : p.length ≤ 700 := by
    rw [hm]
    unfold size at h0
    split at h0 <;> omega
  have hrt := right_of hm7 hn0
  have hML := made_len (e := ep) hrt
  rw [hm] at hML
  have hz12 := size_le m
  have hfit := to_fits (t := t) hz12
  have hmk := fun W (rr : Reads .u8 W q c p) => frame_Make_ok nx ep q m c p hm hrt hnx hep hpb W rr
  rw [hML] at hmk
  have hP := fun {W : World} (hW : Below w.heap.size w W) => wal_place (h.below hW) (hY.below hW) hc (size m) (by omega)
  rw [hfree] at hP
  have hW := fun {W : World} (hW : Below w.heap.size w W) (q : Option Addr) (c : Nat) (rr : RK sc W q c (made nx ep p)) (ho : Off S0 q (size m)) => wal_write (h.below hW) (hY.below hW) hgl hc hd (toJ j t (size m)) (toT t (size m)) (made nx ep p) q (size m) c hML hz12 hfit (by omega) rr ho
  rw [hD] at hW
  generalize made nx ep p = M at *
  generalize hJ : toJ j t (size m) = j' at *
  generalize hT : toT t (size m) = t' at *
  generalize size m = z at *
  have hb : ((z : Int) == 0) = false := by simp; omega
  have hwm := wrap_more nx
  have hwt : IntKind.i64.wrap ((t' : Int) + (z : Int)) = ((t' + z : Nat) : Int) := by rw [wrap_int ⟨by omega, by omega⟩]; omega
  have hY0 := hY
  unfold lgc at hY
  have hlt := hY.lt
  have hoff : ∀ {W : World} (k : Nat), Below w.heap.size w W → W.heap.size ≤ k → Off S0 (some ⟨k, 0, none⟩) z := fun k hW hk _ a ha q => by
    obtain rfl : (⟨k, 0, none⟩ : Addr) = a := by simpa using ha
    have h1 := h.lt k q
    have h2 := hW.size
    omega
  by_cases hE : E = 0
  · subst hE
    go_enter Try.func15, Try.ntmps15
    go_wp2_with (first
      | ((with_reducible refine (hS _).mono ?_); rintro e w1 ⟨rfl, hw⟩; rw [hw]; clear hw)
      | ((with_reducible refine hR.mono ?_); rintro e w2 ⟨rfl, hB2⟩; have hk2 := (hY.below hB2).cell)
      | ((with_reducible refine (hmk _ (r.below hB2)).mono ?_); rintro e w3 ⟨g3, rfl, rk3, hB3, hg3⟩; have hB23 := bnext hB2 hB3)
      | ((with_reducible refine (hP hB23).mono ?_); rintro e w4 ⟨rfl, hB4⟩; have hB24 := bnext hB23 hB4)
      | ((with_reducible refine (hW hB24 _ _ (rk3.below hB4) (hoff g3 hB2 hg3)).mono ?_); rintro e w5 ⟨rfl, S5, hD5, hF5, hS5⟩; have hY5 := hF5.blk (hY.below hB24) hgl; have hk5 := hY5.cell; have hz5 := hY5.frozen))
    have hgr := grown2 (grown2 (only_put w5 ⟨gl, 4, none⟩ (.int .i64 (segOf S st j' : Int))) (only_put _ ⟨gl, 5, none⟩ (.int .i64 ((t' + z : Nat) : Int)))) (only_put _ ⟨gl, 2, none⟩ (.int .u64 ((more nx : Nat) : Int)))
    have hY6 := ((hY5.put 4 (.int .i64 (segOf S st j' : Int))).put 5 (.int .i64 ((t' + z : Nat) : Int))).put 2 (.int .u64 ((more nx : Nat) : Int))
    have hF6 : Fr (fun k => k = gl) w5 _ := Fr.of_grown hgr (fun k hk => (Option.some.inj hk).symm)
    have hn5 : ∀ k, S5 k → k ≠ gl := fun k hk e => by
      subst e
      rcases hS5 _ hk with q | q
      · exact hgl q
      · have := hB24.size; omega
    go_ret2
    refine .inl ⟨trivial, rfl, S5, dk_fr hD5 hF6 hn5, ?_, fun k hk => ?_, hY6⟩
    · exact ((Fr.of_below hB24 _).trans hF5 (fun n hn => .inl (.inl hn))).trans hF6 (fun n hn => .inl (.inr hn))
    · rcases hS5 k hk with q | q
      · exact .inl q
      · exact .inr (by have := hB24.size; omega)
  · have hbE : (E != 0) = true := by simp [hE]
    go_enter Try.func15, Try.ntmps15
    go_wp2_with (first
      | ((with_reducible refine (hS _).mono ?_); rintro e w1 ⟨rfl, hw⟩; rw [hw]; clear hw)
      | ((with_reducible refine hR.mono ?_); rintro e w2 ⟨rfl, hB2⟩; have hk2 := (hY.below hB2).cell)
      | ((with_reducible refine (hmk _ (r.below hB2)).mono ?_); rintro e w3 ⟨g3, rfl, rk3, hB3, hg3⟩; have hB23 := bnext hB2 hB3)
      | ((with_reducible refine (hP hB23).mono ?_); rintro e w4 ⟨rfl, hB4⟩; have hB24 := bnext hB23 hB4)
      | ((with_reducible refine (hW hB24 _ _ (rk3.below hB4) (hoff g3 hB2 hg3)).mono ?_); rintro e w5 ⟨rfl, S5, hD5, hF5, hS5⟩; have hY5 := hF5.blk (hY.below hB24) hgl))
    go_ret2
    refine .inr ⟨hE, rfl, S5, hD5, ?_, fun k hk => ?_, hY5⟩
    · exact (Fr.of_below hB24 _).trans hF5 (fun n hn => .inl (.inl hn))
    · rcases hS5 k hk with q | q
      · exact .inl q
      · exact .inr (by have := hB24.size; omega)
end
end Go.Proofs.Ythgafnommcodcaa.Wal
