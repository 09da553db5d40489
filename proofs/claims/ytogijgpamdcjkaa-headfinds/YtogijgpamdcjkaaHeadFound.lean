/-
  One byte that is another one, plain. Nothing of a program is named here.
-/
import Derived.Test.YtogijgpamdcjkaaHeadFacts
namespace Go.Proofs.Ytogijgpamdcjkaa.Head

/-- A packet in whose header one byte is another one isn't read, or still goes from where, and to where, it went. -/
def SameAds (g h : Hd) : Prop := g.s0 = h.s0 ∧ g.s1 = h.s1 ∧ g.s2 = h.s2 ∧ g.s3 = h.s3 ∧ g.d0 = h.d0 ∧ g.d1 = h.d1 ∧ g.d2 = h.d2 ∧ g.d3 = h.d3
theorem ads_far {h : Hd} {os ps : List Int} {i : Nat} {v : Int} (hi : i < 12 ∨ 20 ≤ i) : SameAds (hdOf ((packet h os ps).set i v)) h := by
  have e : ∀ j, j ≠ i → ((packet h os ps).set i v).getD j 0 = (packet h os ps).getD j 0 := fun j hj => by
    rw [List.getD_eq_getElem?_getD, List.getD_eq_getElem?_getD, List.getElem?_set_ne (Ne.symm hj)]
  unfold SameAds hdOf
  simp only
  rw [e 12 (by omega), e 13 (by omega), e 14 (by omega), e 15 (by omega), e 16 (by omega), e 17 (by omega), e 18 (by omega), e 19 (by omega)]
  exact ⟨rfl, rfl, rfl, rfl, rfl, rfl, rfl, rfl⟩
theorem set_take (zs : List Int) (n i : Nat) (v : Int) : (zs.set i v).take n = (zs.take n).set i v := by
  rw [List.take_set]
theorem tot_set : ∀ (b : Bool) (zs : List Int) (i : Nat) (v : Int), i < zs.length → tot b (zs.set i v) = tot b zs + (v - zs.getD i 0) * (if (i % 2 = 0) = (b = true) then 256 else 1)
  | true, x :: r, 0, v, _ => by simp [tot]; omega
  | false, x :: r, 0, v, _ => by simp [tot]; omega
  | true, x :: r, i + 1, v, h => by
    have := tot_set false r i v (by simpa using h)
    rw [List.set_cons_succ, tot, tot, this]
    have e : ((i + 1) % 2 = 0) = True ↔ ¬ (i % 2 = 0) := by simp; omega
    by_cases hi : i % 2 = 0
    · have h1 : ¬ ((i + 1) % 2 = 0) := by omega
      simp [hi, h1]
      omega
    · have h1 : (i + 1) % 2 = 0 := by omega
      simp [hi, h1]
      omega
  | false, x :: r, i + 1, v, h => by
    have := tot_set true r i v (by simpa using h)
    rw [List.set_cons_succ, tot, tot, this]
    by_cases hi : i % 2 = 0
    · have h1 : ¬ ((i + 1) % 2 = 0) := by omega
      simp [hi, h1]
      omega
    · have h1 : (i + 1) % 2 = 0 := by omega
      simp [hi, h1]
      omega
theorem set_bytes {zs : List Int} (hz : ∀ c ∈ zs, Byte c) {v : Int} (hv : Byte v) (i : Nat) : ∀ c ∈ zs.set i v, Byte c := by
  intro c hc
  rcases List.mem_or_eq_of_mem_set hc with h | h
  · exact hz c h
  · rw [h]; exact hv
theorem found {h : Hd} {os ps : List Int} (hr : rightB h os.length = true) (ha : Ads h) (ho : ∀ c ∈ os, Byte c) (hp : ∀ c ∈ ps, Byte c) (hl : 20 + os.length + ps.length ≤ 1500) {i : Nat} {v : Int} (hv : Byte v) (hne : (packet h os ps).getD i 0 ≠ v)
    (hE : faultE ((packet h os ps).set i v) = 0) : SameAds (hdOf ((packet h os ps).set i v)) h := by
  by_cases hi : i < 12 ∨ 20 ≤ i
  · exact ads_far hi
  · exfalso
    obtain ⟨pe, _, _, _, psz⟩ := packet_read (ps := ps) hr ha ho hl
    have hb := packet_bytes (ps := ps) hr ha ho hp hl
    have hlen := packet_length h os ps
    obtain ⟨_, _, _, hs0⟩ := fault_ok.1 pe
    obtain ⟨_, _, _, hs1⟩ := fault_ok.1 hE
    have e0 : ((packet h os ps).set i v).getD 0 0 = (packet h os ps).getD 0 0 := by
      rw [List.getD_eq_getElem?_getD, List.getD_eq_getElem?_getD, List.getElem?_set_ne (by omega)]
    have esz : hsz ((packet h os ps).set i v) = hsz (packet h os ps) := by unfold hsz; rw [e0]
    rw [esz, psz, set_take] at hs1
    rw [psz] at hs0
    obtain ⟨zs, hzs⟩ : ∃ zs, zs = (packet h os ps).take (20 + os.length) := ⟨_, rfl⟩
    rw [← hzs] at hs0 hs1
    have hzl : zs.length = 20 + os.length := by rw [hzs, List.length_take]; omega
    have hzb : ∀ c ∈ zs, Byte c := by rw [hzs]; exact fun c hc => hb c (List.mem_of_mem_take hc)
    have hzi : zs.getD i 0 = (packet h os ps).getD i 0 := by
      rw [hzs, List.getD_eq_getElem?_getD, List.getD_eq_getElem?_getD, List.getElem?_take, if_pos (by omega)]
    have hts := tot_set true zs i v (by omega)
    have hT0 := (tot_range true hzb).1
    have hT1 := (tot_range true (set_bytes hzb hv i)).1
    have hbi := getD_byte hzb i
    unfold sumI at hs0 hs1
    rw [hts] at hs1 hT1
    rw [hzi] at hs1 hT1 hbi
    unfold Byte at hbi hv
    obtain ⟨x, hx⟩ : ∃ x, x = (packet h os ps).getD i 0 := ⟨_, rfl⟩
    rw [← hx] at hs1 hT1 hbi hne
    obtain ⟨T, hT⟩ : ∃ T, T = tot true zs := ⟨_, rfl⟩
    rw [← hT] at hs0 hs1 hT0 hT1
    have hTp : 0 < T := by
      rcases Int.lt_or_eq_of_le hT0 with h' | h'
      · exact h'
      · rw [← h'] at hs0; simp [fold] at hs0
    by_cases hpar : (i % 2 = 0) = (true = true)
    · rw [if_pos hpar] at hs1 hT1
      have hTq : 0 < T + (v - x) * 256 := by
        rcases Int.lt_or_eq_of_le hT1 with h' | h'
        · exact h'
        · rw [← h'] at hs1; simp [fold] at hs1
      exact fold_apart (D := (v - x) * 256) hTp hTq (by omega) (by omega) (by omega) (by omega) (by omega)
    · rw [if_neg hpar] at hs1 hT1
      have hTq : 0 < T + (v - x) * 1 := by
        rcases Int.lt_or_eq_of_le hT1 with h' | h'
        · exact h'
        · rw [← h'] at hs1; simp [fold] at hs1
      exact fold_apart (D := (v - x) * 1) hTp hTq (by omega) (by omega) (by omega) (by omega) (by omega)
end Go.Proofs.Ytogijgpamdcjkaa.Head
