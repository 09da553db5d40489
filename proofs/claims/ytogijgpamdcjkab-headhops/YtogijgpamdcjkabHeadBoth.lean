/-
  What the program answers, whatever is asked: Make, Read, Hop.
-/
import Derived.Test.YtogijgpamdcjkabHeadAlive
namespace Go.Proofs.Ytogijgpamdcjkab.Head
open Go.RowKit Go.Proofs.Ytogijgpamdcjkab.Mem

/-- What Make answers. -/
def madeB (h : Hd) (os ps : List Int) : Bool := rightB h os.length && decide (20 + os.length + ps.length ≤ 1500)
def madeE (h : Hd) (os ps : List Int) : Int := if madeB h os ps = true then 0 else 55
def made (h : Hd) (os ps : List Int) : List Int := if madeB h os ps = true then packet h os ps else []
theorem madeB_iff {h : Hd} {os ps : List Int} : madeB h os ps = true ↔ rightB h os.length = true ∧ 20 + os.length + ps.length ≤ 1500 := by simp [madeB]
theorem made_bytes {h : Hd} {os ps : List Int} (ha : Ads h) (ho : ∀ c ∈ os, Byte c) (hp : ∀ c ∈ ps, Byte c) : ∀ c ∈ made h os ps, Byte c := by
  unfold made
  split
  · rename_i hb
    obtain ⟨hr, hl⟩ := madeB_iff.1 hb
    exact packet_bytes hr ha ho hp hl
  · exact no_bytes
theorem madeE_zero {h : Hd} {os ps : List Int} : madeE h os ps = 0 ↔ madeB h os ps = true := by
  unfold madeE
  split <;> simp_all
/-- What Read answers. -/
def zeroH : Hd := ⟨0, 0, 0, 0, 0, 0, 0, 0, 0, 0, 0, 0, 0⟩
def rdH (xs : List Int) : Hd := if faultE xs = 0 then hdOf xs else zeroH
def rdO (xs : List Int) : List Int := if faultE xs = 0 then opts xs else []
def rdP (xs : List Int) : List Int := if faultE xs = 0 then pay xs else []
theorem rdO_bytes {xs : List Int} (hx : ∀ c ∈ xs, Byte c) : ∀ c ∈ rdO xs, Byte c := by
  unfold rdO
  split
  · exact (read_right hx (by assumption)).2.2.1
  · exact no_bytes
theorem rdP_bytes {xs : List Int} (hx : ∀ c ∈ xs, Byte c) : ∀ c ∈ rdP xs, Byte c := by
  unfold rdP
  split
  · exact (read_right hx (by assumption)).2.2.2.1
  · exact no_bytes
theorem rdH_ads {xs : List Int} (hx : ∀ c ∈ xs, Byte c) : Ads (rdH xs) := by
  unfold rdH
  split
  · exact (read_right hx (by assumption)).2.1
  · unfold Ads Byte zeroH; decide
/-- What Hop answers. -/
def hopE (xs : List Int) : Int := if faultE xs = 0 then (if (hdOf xs).ttl = 0 then 55 else 0) else faultE xs
def hopX (xs : List Int) : List Int := if faultE xs = 0 then (if (hdOf xs).ttl = 0 then [] else hopped xs) else []
theorem hopped_length {xs : List Int} (hx : ∀ c ∈ xs, Byte c) (hE : faultE xs = 0) : (hopped xs).length = xs.length := by
  obtain ⟨hr, ha, ho, hp, hl, hn⟩ := read_right hx hE
  unfold hopped
  rw [packet_length, hl]
theorem hopped_bytes {xs : List Int} (hx : ∀ c ∈ xs, Byte c) (hE : faultE xs = 0) (ht : (hdOf xs).ttl ≠ 0) : ∀ c ∈ hopped xs, Byte c := by
  obtain ⟨hr, ha, ho, hp, hl, hn⟩ := read_right hx hE
  obtain ⟨_, ⟨t0, t1⟩, _⟩ := right_iff.1 hr
  exact packet_bytes (h := withTTL (hdOf xs) ((hdOf xs).ttl - 1)) (right_ttl hr (by omega) (by omega)) ha ho hp (by omega)
theorem hopX_bytes {xs : List Int} (hx : ∀ c ∈ xs, Byte c) : ∀ c ∈ hopX xs, Byte c := by
  unfold hopX
  split
  · split
    · exact no_bytes
    · exact hopped_bytes hx (by assumption) (by assumption)
  · exact no_bytes
/-- The shape of the answers. -/
def MakeAns (w : World) (ys : List Int) (E : Int) (e : Ending) (w' : World) : Prop := ∃ q d, e = .returned (.tuple #[.slice q ys.length d, .int .i64 E]) ∧ Reads .u8 w' q d ys ∧ Below w.heap.size w w'
def ReadAns (w : World) (h : Hd) (os ps : List Int) (E : Int) (e : Ending) (w' : World) : Prop := ∃ oq oc pq pc, e = .returned (.tuple #[.agg #[.int .i64 h.tos, .int .i64 h.id, .int .i64 h.fl, .int .i64 h.ttl, .int .i64 h.pr, .int .u8 h.s0, .int .u8 h.s1, .int .u8 h.s2, .int .u8 h.s3, .int .u8 h.d0, .int .u8 h.d1, .int .u8 h.d2, .int .u8 h.d3, .slice oq os.length oc], .slice pq ps.length pc, .int .i64 E]) ∧ Reads .u8 w' oq oc os ∧ Reads .u8 w' pq pc ps ∧ Below w.heap.size w w'
theorem make_any (h : Hd) (q : Option Addr) (m c : Nat) (os : List Int) (lo : os.length = m) (p : Option Addr) (n d : Nat) (ps : List Int) (lp : ps.length = n) (hn : n ≤ 100000) (ha : Ads h) (ho : ∀ c ∈ os, Byte c) (w : World) (ro : Reads .u8 w q c os) (rp : Reads .u8 w p d ps) :
    Calls Try.prog 6 #[.agg #[.int .i64 h.tos, .int .i64 h.id, .int .i64 h.fl, .int .i64 h.ttl, .int .i64 h.pr, .int .u8 h.s0, .int .u8 h.s1, .int .u8 h.s2, .int .u8 h.s3, .int .u8 h.d0, .int .u8 h.d1, .int .u8 h.d2, .int .u8 h.d3, .slice q m c], .slice p n d] w (MakeAns w (made h os ps) (madeE h os ps)) := by
  have hm : m ≤ 9223372036854775807 := by have h1 := ro.1; have h2 := ro.2.1; unfold maxLen at h2; omega
  by_cases hb : madeB h os ps = true
  · obtain ⟨hr, hl⟩ := madeB_iff.1 hb
    have hpl := packet_length h os ps
    unfold made madeE
    rw [if_pos hb, if_pos hb]
    refine (make_ok h q m c os lo p n d ps lp _ rfl (by rw [← lo]; exact hr) ha ho (by omega) w ro rp).mono ?_
    rintro e w' ⟨g, rfl, hg, B, hbw⟩
    have hR := Blk.reads B (by omega)
    rw [show 20 + m + n = (packet h os ps).length by omega]
    exact ⟨_, _, rfl, hR, hbw⟩
  · unfold made madeE
    rw [if_neg hb, if_neg hb]
    cases hr : rightB h m with
    | false => exact (make_wrong h q m c p n d hm hr w).mono fun e w' ⟨he, hbw⟩ => ⟨_, _, he, Reads.nil _ _, hbw⟩
    | true =>
      refine (make_long h q m c p n d hr hn ?_ w).mono fun e w' ⟨he, hbw⟩ => ⟨_, _, he, Reads.nil _ _, hbw⟩
      have : ¬ (20 + os.length + ps.length ≤ 1500) := fun h' => hb (madeB_iff.2 ⟨by rw [lo]; exact hr, h'⟩)
      omega
theorem read_any (p : Option Addr) (n c : Nat) (xs : List Int) (l : xs.length = n) (hx : ∀ c ∈ xs, Byte c) (w : World) (r : Reads .u8 w p c xs) :
    Calls Try.prog 8 #[.slice p n c] w (ReadAns w (rdH xs) (rdO xs) (rdP xs) (faultE xs)) := by
  have hn : n ≤ 9223372036854775807 := by have h1 := r.1; have h2 := r.2.1; unfold maxLen at h2; omega
  by_cases hE : faultE xs = 0
  · unfold rdH rdO rdP
    rw [if_pos hE, if_pos hE, if_pos hE, hE]
    exact read_ok p n c xs l hx hE _ _ rfl rfl w r
  · unfold rdH rdO rdP
    rw [if_neg hE, if_neg hE, if_neg hE]
    exact (read_err p n c xs l hx hn _ rfl hE w r).mono fun e w' ⟨he, hbw⟩ => ⟨_, _, _, _, he, Reads.nil _ _, Reads.nil _ _, hbw⟩
theorem hop_any (p : Option Addr) (n c : Nat) (xs : List Int) (l : xs.length = n) (hx : ∀ c ∈ xs, Byte c) (w : World) (r : Reads .u8 w p c xs) :
    Calls Try.prog 7 #[.slice p n c] w (MakeAns w (hopX xs) (hopE xs)) := by
  have hn : n ≤ 9223372036854775807 := by have h1 := r.1; have h2 := r.2.1; unfold maxLen at h2; omega
  by_cases hE : faultE xs = 0
  · unfold hopX hopE
    rw [if_pos hE, if_pos hE]
    by_cases ht : (hdOf xs).ttl = 0
    · rw [if_pos ht, if_pos ht]
      exact (hop_zero p n c xs l hx hE ht w r).mono fun e w' ⟨he, hbw⟩ => ⟨_, _, he, Reads.nil _ _, hbw⟩
    · rw [if_neg ht, if_neg ht]
      refine (hop_ok p n c xs l hx hE ht w r).mono ?_
      rintro e w' ⟨g, rfl, hg, B, hbw⟩
      obtain ⟨_, _, _, _, _, h15⟩ := read_right hx hE
      have hlh := hopped_length hx hE
      have hR := Blk.reads B (by omega)
      rw [show n = (hopped xs).length by omega]
      exact ⟨_, _, rfl, hR, hbw⟩
  · unfold hopX hopE
    rw [if_neg hE, if_neg hE]
    exact (hop_err p n c xs l hx hn _ rfl hE w r).mono fun e w' ⟨he, hbw⟩ => ⟨_, _, he, Reads.nil _ _, hbw⟩
end Go.Proofs.Ytogijgpamdcjkab.Head
