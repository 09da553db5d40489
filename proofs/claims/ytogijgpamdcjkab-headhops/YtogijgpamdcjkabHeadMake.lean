/-
  Packets: head.upTo, right, putNum, fill, Make.
-/
import Derived.Test.YtogijgpamdcjkabHeadSum
import Derived.Deep.RegionLaw
namespace Go.Proofs.Ytogijgpamdcjkab.Head
open Go.RowKit Go.Proofs.Ytogijgpamdcjkab.Mem

theorem up_snoc {m : Int} {ns : List Int} {k : Nat} (h : k < ns.length) : upB m (ns.take (k + 1)) = (upB m (ns.take k) && (decide (0 ≤ ns.getD k 0) && decide (ns.getD k 0 ≤ m))) := by
  rw [take_snoc h]; simp [upB]
theorem up_no {m : Int} {ns : List Int} {k : Nat} (h : k < ns.length) (hy : ns.getD k 0 < 0 ∨ m < ns.getD k 0) : upB m ns = false := by
  rw [Bool.eq_false_iff]
  intro hq
  unfold upB at hq
  rw [List.all_eq_true] at hq
  have := hq (ns.getD k 0) (by rw [List.getD_eq_getElem?_getD, List.getElem?_eq_getElem h]; simp)
  simp only [Bool.and_eq_true, decide_eq_true_eq] at this
  omega
theorem head_upTo (m : Int) (q : Option Addr) (n c : Nat) (ns : List Int) (l : ns.length = n) (hn : n ≤ 9) (w : World) (r : Reads .i64 w q c ns) :
    Calls Try.prog 17 #[.int .i64 m, .slice q n c] w fun e w' => e = .returned (.bool (upB m ns)) ∧ w' = w := by
  go_enter Try.func17, Try.ntmps17
  go_wp2
  go_loop [9] (fun i => ∃ k : Nat, k ≤ n ∧ i = .int .i64 k ∧ Hid (upB m (ns.take k) = true)) (fun i => n - (intOf i).toNat)
  case atStart => exact ⟨0, by omega, rfl, rfl⟩
  case round =>
    obtain ⟨k, hk, rfl, HK⟩ := hrel
    by_cases hlt : k < n
    · obtain ⟨b, o, rfl, _, hcell⟩ := r.2.2.2 (by omega)
      obtain ⟨y, hy⟩ : ∃ y, y = ns.getD k 0 := ⟨_, rfl⟩
      have hck : w.cell? ⟨b, o + k, none⟩ = some (.int .i64 y) := by rw [hy]; exact hcell k (by omega)
      have hsn := up_snoc (m := m) (ns := ns) (k := k) (by omega)
      rw [HK.out, ← hy] at hsn
      have hno := up_no (m := m) (ns := ns) (k := k) (by omega)
      rw [← hy] at hno
      clear hy hcell HK
      by_cases h1 : y < 0
      · have HB : Hid (upB m ns = false) := hno (.inl h1)
        clear hno hsn
        go_wp2
        go_ret
        exact ⟨by rw [HB.out]; rfl, rfl⟩
      · by_cases h2 : m < y
        · have HB : Hid (upB m ns = false) := hno (.inr h2)
          clear hno hsn
          go_wp2
          go_ret
          exact ⟨by rw [HB.out]; rfl, rfl⟩
        · have HN : Hid (upB m (ns.take (k + 1)) = true) := by show _ = _; rw [hsn]; simp; omega
          clear hno hsn
          go_wp2
          go_round
          case rel => exact ⟨k + 1, by omega, by go_num, HN⟩
          case measure => simp [intOf]; omega
    · have hkn : ns.take k = ns := List.take_of_length_le (by omega)
      rw [hkn] at HK
      go_wp2
      go_ret
      exact ⟨by rw [HK.out]; rfl, rfl⟩
theorem bal {w w' : World} (h : Below w.heap.size w w') (o : Obj) : Below w.heap.size w (w'.alloc o) := h.alloc h.size o
set_option maxHeartbeats 1000000 in
theorem head_right (h : Hd) (q : Option Addr) (m c : Nat) (hm : m ≤ 9223372036854775807) (w : World) :
    Calls Try.prog 10 #[.agg #[.int .i64 h.tos, .int .i64 h.id, .int .i64 h.fl, .int .i64 h.ttl, .int .i64 h.pr, .int .u8 h.s0, .int .u8 h.s1, .int .u8 h.s2, .int .u8 h.s3, .int .u8 h.d0, .int .u8 h.d1, .int .u8 h.d2, .int .u8 h.d3, .slice q m c]] w fun e w' => e = .returned (.bool (rightB h m)) ∧ Below w.heap.size w w' := by
  obtain ⟨A, hA⟩ : ∃ A, A = upB 255 [h.tos, h.ttl, h.pr] := ⟨_, rfl⟩
  obtain ⟨B, hB⟩ : ∃ B, B = upB 65535 [h.id, h.fl] := ⟨_, rfl⟩
  have h1 := fun (W : World) => head_upTo 255 (some ⟨W.heap.size, 0, none⟩) 3 3 [h.tos, h.ttl, h.pr] rfl (by omega) (W.alloc (.cells #[.int .i64 h.tos, .int .i64 h.ttl, .int .i64 h.pr] 3)) (lit_reads rfl rfl (by simp))
  have h2 := fun (W : World) => head_upTo 65535 (some ⟨W.heap.size, 0, none⟩) 2 2 [h.id, h.fl] rfl (by omega) (W.alloc (.cells #[.int .i64 h.id, .int .i64 h.fl] 3)) (lit_reads rfl rfl (by simp))
  rw [← hA] at h1
  rw [← hB] at h2
  have e : rightB h m = (A && B && decide (m ≤ 40) && decide (m % 4 = 0)) := by rw [hA, hB]; rfl
  rw [e]
  clear e hA hB
  have h1' := h1 (w.alloc (.cells #[.int .i64 h.tos, .int .i64 h.id, .int .i64 h.fl, .int .i64 h.ttl, .int .i64 h.pr, .int .u8 h.s0, .int .u8 h.s1, .int .u8 h.s2, .int .u8 h.s3, .int .u8 h.d0, .int .u8 h.d1, .int .u8 h.d2, .int .u8 h.d3, .slice q m c] 26))
  have h2' := h2 ((w.alloc (.cells #[.int .i64 h.tos, .int .i64 h.id, .int .i64 h.fl, .int .i64 h.ttl, .int .i64 h.pr, .int .u8 h.s0, .int .u8 h.s1, .int .u8 h.s2, .int .u8 h.s3, .int .u8 h.d0, .int .u8 h.d1, .int .u8 h.d2, .int .u8 h.d3, .slice q m c] 26)).alloc (.cells #[.int .i64 h.tos, .int .i64 h.ttl, .int .i64 h.pr] 3))
  simp only [World.size_alloc] at h1' h2'
  clear h1 h2
  cases A
  · go_enter Try.func10, Try.ntmps10
    go_wp2_with (go_at_call 17; refine h1'.mono ?_; rintro e w1 ⟨rfl, rfl⟩)
    go_ret
    exact ⟨rfl, bal (bnew _ _) _⟩
  cases B
  · go_enter Try.func10, Try.ntmps10
    go_wp2_with (first
      | (go_at_call 17; (with_reducible refine h1'.mono ?_); rintro e w1 ⟨rfl, rfl⟩)
      | (go_at_call 17; (with_reducible refine h2'.mono ?_); rintro e w1 ⟨rfl, rfl⟩))
    go_ret
    exact ⟨rfl, bal (bal (bnew _ _) _) _⟩
  by_cases h40 : m ≤ 40
  · by_cases h4 : m % 4 = 0
    · have d4 : ((m : Int) % 4 == 0) = true := by simp; omega
      go_enter Try.func10, Try.ntmps10
      go_wp2_with (first
        | (go_at_call 17; (with_reducible refine h1'.mono ?_); rintro e w1 ⟨rfl, rfl⟩)
        | (go_at_call 17; (with_reducible refine h2'.mono ?_); rintro e w1 ⟨rfl, rfl⟩))
      go_ret
      exact ⟨by simp [h40, h4], bal (bal (bnew _ _) _) _⟩
    · have d4 : ((m : Int) % 4 == 0) = false := by simp; omega
      go_enter Try.func10, Try.ntmps10
      go_wp2_with (first
        | (go_at_call 17; (with_reducible refine h1'.mono ?_); rintro e w1 ⟨rfl, rfl⟩)
        | (go_at_call 17; (with_reducible refine h2'.mono ?_); rintro e w1 ⟨rfl, rfl⟩))
      go_ret
      exact ⟨by simp [h4], bal (bal (bnew _ _) _) _⟩
  · go_enter Try.func10, Try.ntmps10
    go_wp2_with (first
      | (go_at_call 17; (with_reducible refine h1'.mono ?_); rintro e w1 ⟨rfl, rfl⟩)
      | (go_at_call 17; (with_reducible refine h2'.mono ?_); rintro e w1 ⟨rfl, rfl⟩))
    go_ret
    exact ⟨by simp, bal (bal (bnew _ _) _) _⟩
theorem head_putNum (g n c i : Nat) (v : Int) (zs : List Int) (l : zs.length = n) (hi : i + 1 < n) (hn : n ≤ 2000) (hv : 0 ≤ v) (hv2 : v ≤ 65535) (w : World) (hb : Blk w g 5 (zs.map (Value.int .u8))) :
    Calls Try.prog 12 #[.slice (some ⟨g, 0, none⟩) n c, .int .i64 i, .int .i64 v] w fun e w' => e = .returned (.tuple #[]) ∧ Blk w' g 5 (((zs.set i (v / 256)).set (i + 1) (v % 256)).map (Value.int .u8)) ∧ w.grownBy w' (some g) := by
  have f0 := hb.frozen i
  have f1 := hb.frozen (i + 1)
  have c0 := hb.cell i
  have c1 := hb.cell (i + 1)
  rw [List.getElem?_map, List.getElem?_eq_getElem (by omega)] at c0 c1
  simp only [Option.map_some] at c0 c1
  have hp := (hb.put i (.int .u8 (v / 256))).put (i + 1) (.int .u8 (v % 256))
  have hg := (only_put w ⟨g, i, none⟩ (.int .u8 (v / 256))).trans (only_put (w.setCell ⟨g, i, none⟩ (.int .u8 (v / 256))) ⟨g, i + 1, none⟩ (.int .u8 (v % 256)))
  go_enter Try.func12, Try.ntmps12
  go_wp2
  go_end0
  exact ⟨rfl, hp, hg⟩
/-- Bytes, as memory holds them. -/
def bs (zs : List Int) : List Value := zs.map (Value.int .u8)
theorem bs_length (zs : List Int) : (bs zs).length = zs.length := by simp [bs]
theorem bs_one {zs : List Int} : ∀ v ∈ bs zs, v.oneCell' = true := ints_oneCell _ _
theorem info_one : (Try.prog.info? 5).map (·.size) = some 1 := by kernel_rfl
theorem head_put (g n c : Nat) (i : Nat) (v : Int) (zs us : List Int) (l : zs.length = n) (hi : i + 1 < n) (hn : n ≤ 2000) (hv : 0 ≤ v) (hv2 : v ≤ 65535) (hu : (zs.set i (v / 256)).set (i + 1) (v % 256) = us) (w : World) (hb : Blk w g 5 (bs zs)) :
    Calls Try.prog 12 #[.slice (some ⟨g, 0, none⟩) n c, .int .i64 i, .int .i64 v] w fun e w' => e = .returned (.tuple #[]) ∧ Blk w' g 5 (bs us) ∧ w.grownBy w' (some g) := by
  subst hu
  exact head_putNum g n c i v zs l hi hn hv hv2 w hb
end Go.Proofs.Ytogijgpamdcjkab.Head
