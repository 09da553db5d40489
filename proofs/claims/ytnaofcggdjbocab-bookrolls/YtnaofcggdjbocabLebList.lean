/-
  What package leb's Nums and All give, for lists of at most 200 numbers and for every slice of bytes.
-/
import Derived.Test.YtnaofcggdjbocabLebMem
/-
  What package leb's add and Put give, for every input of their types: one contract a function.
-/
namespace Go.Proofs.Ytnaofcggdjbocab.Leb
open Go.RowKit Go.Proofs.Ytnaofcggdjbocab.Mem
set_option maxRecDepth 100000

theorem add_any (B : Nat) (v0 : Value) (xs : List Int) (n0 : Int) (hn0 : Word n0) (w : World) (hB : B ≤ w.heap.size) (hx : xs.length ≤ 100000)
    (hown0 : w.ownsRow B 5 1 v0 xs.length (xs.map (Value.int .u8))) :
    Calls Try.prog 40 #[v0, .int .u64 n0] w fun e w' => ∃ v, e = .returned v ∧ w'.ownsRow B 5 1 v (xs ++ put n0).length ((xs ++ put n0).map (Value.int .u8)) ∧ Below B w w' := by
  obtain ⟨i0, hi, hz0, hz1, hz2⟩ := info_parts info_byte
  have hp10 := put_le hn0
  go_enter Try.func40, Try.ntmps40
  go_wp2_with fail
  go_loopw [0, 1] (fun v n wr => ∃ (m : Int) (ys : List Int), Word m ∧ n = .int .u64 m ∧ wr.ownsRow B 5 1 v ys.length (ys.map (Value.int .u8)) ∧ ys ++ put m = xs ++ put n0 ∧ Below B w wr) (fun _ n _ => (intOf n).toNat)
  case atStart => exact ⟨n0, xs, hn0, rfl, hown0, rfl, Below.refl _ _⟩
  case round =>
    obtain ⟨m, ys, ⟨hm0, hm1⟩, rfl, hown, hys, hnx⟩ := hrel
    have HY : Hid (ys ++ put m = xs ++ put n0) := hys
    have hlen : ys.length ≤ 100010 := by
      have := congrArg List.length hys
      simp only [List.length_append] at this
      omega
    clear hys hown0
    by_cases hm : m < 128
    · go_wp2_with (at_builtin; refine wpList_append_own _ rfl _ _ 48 rfl B 5 i0 (.int .u8 0) 1 1 Try.underlying48 hi hz0 hz1 hz2 rfl (by decide) _ _ _ rfl (hown.alloc _) ⟨wr.heap.size, 0, none⟩ 1 1 [.int .u8 m] rfl rfl one_cell one_one ?c3 ?c4 ?c5 ?_)
      case c3 => unfold maxLen; omega
      case c4 => omega
      case c5 => have := hnx.size; simp; omega
      · intro v' w1 hown' hgrow _
        have R := grew (zs := [m]) hB hnx hown hown' hgrow
        rw [← put_small hm, HY.out] at R
        clear hown hown' hgrow
        go_wp2_with fail
        go_ret
        exact ⟨v', rfl, R.1, R.2⟩
    · have hor : bits .or .u8 (m % 256) 128 = 128 + m % 128 := by
        rw [high_of_byte ⟨by omega, by omega⟩]; omega
      have hor' : bits .or .u8 (IntKind.u8.wrap m) 128 = 128 + m % 128 := by
        rw [IntKind.wrap_u8]; exact hor
      go_wp2_with (at_builtin; refine wpList_append_own _ rfl _ _ 48 rfl B 5 i0 (.int .u8 0) 1 1 Try.underlying48 hi hz0 hz1 hz2 rfl (by decide) _ _ _ rfl (hown.alloc _) ⟨wr.heap.size, 0, none⟩ 1 1 [.int .u8 (128 + m % 128)] rfl rfl one_cell one_one ?d3 ?d4 ?d5 ?_)
      case d3 => unfold maxLen; omega
      case d4 => omega
      case d5 => have := hnx.size; simp; omega
      · intro v' w1 hown' hgrow _
        have R := grew (zs := [128 + m % 128]) hB hnx hown hown' hgrow
        clear hown hown' hgrow hor hor'
        go_wp2_with fail
        go_roundw
        case rel => exact ⟨m / 128, ys ++ [128 + m % 128], ⟨by omega, by omega⟩, by first | rfl | go_num, R.1, by rw [← HY.out, put_big (n := m) (by omega)]; simp, R.2⟩
        case measure => simp [intOf]; omega

end Go.Proofs.Ytnaofcggdjbocab.Leb
/-
  What package leb's Get gives, for every slice of bytes.
-/
namespace Go.Proofs.Ytnaofcggdjbocab.Leb
open Go.RowKit Go.Proofs.Ytnaofcggdjbocab.Mem
set_option maxRecDepth 100000


/-- Three results. -/
def three (x : Int × Int × Int) : Value := .tuple #[.int .u64 x.1, .int .i64 x.2.1, .int .i64 x.2.2]


theorem getD_byte {zs : List Int} (hb : ∀ c ∈ zs, Byte c) (k : Nat) (hk : k < zs.length) : Byte (zs.getD k 0) := by
  simp only [List.getD, List.getElem?_eq_getElem hk, Option.getD_some]
  exact hb _ (List.getElem_mem hk)



end Go.Proofs.Ytnaofcggdjbocab.Leb
namespace Go.Proofs.Ytnaofcggdjbocab.Leb
open Go.RowKit Go.Proofs.Ytnaofcggdjbocab.Mem
set_option maxRecDepth 100000

/-- leb.Nums. -/
theorem nums_any (p : Option Addr) (m cap : Nat) (ls : List Int) (hm : ls.length = m) (h200 : m ≤ 200) (hw : ∀ n ∈ ls, Word n) (w : World) (hr : Reads .u64 w p cap ls) :
    Calls Try.prog 23 #[.slice p m cap] w fun e w' => ∃ q c, e = .returned (.slice q (nums ls).length c) ∧ Reads .u8 w' q c (nums ls) ∧ Below w.heap.size w w' := by
  go_enter Try.func23, Try.ntmps23
  go_wp2_with fail
  go_loopw [3, 8] (fun v i wr => ∃ k : Nat, k ≤ m ∧ i = .int .i64 k ∧ wr.ownsRow w.heap.size 5 1 v (nums (ls.take k)).length ((nums (ls.take k)).map (Value.int .u8)) ∧ Below w.heap.size w wr) (fun _ i _ => m - (intOf i).toNat)
  case atStart => exact ⟨0, Nat.zero_le _, rfl, World.ownsRow_nil _ _ _ _, Below.refl _ _⟩
  case round =>
    obtain ⟨k, hk, rfl, hown, hnx⟩ := hrel
    by_cases hlt : k < m
    · obtain ⟨b, o, rfl, _, hcell⟩ := (hr.below hnx).2.2.2 (by omega)
      obtain ⟨x, hx⟩ : ∃ x, x = ls.getD k 0 := ⟨_, rfl⟩
      have hck : wr.cell? ⟨b, o + k, none⟩ = some (.int .u64 x) := by rw [hx]; exact hcell k (by omega)
      have hxw : Word x := by
        rw [hx]
        simp only [List.getD, List.getElem?_eq_getElem (show k < ls.length by omega), Option.getD_some]
        exact hw _ (List.getElem_mem _)
      have hlen : (nums (ls.take k)).length ≤ 100000 := by
        have := nums_len (ls.take k) (fun n hn => hw n (List.mem_of_mem_take hn))
        rw [List.length_take] at this
        omega
      have hc := add_any w.heap.size u3 (nums (ls.take k)) x hxw wr hnx.size hlen hown
      rw [hx, ← nums_take ls k (by omega), ← hx] at hc
      clear hx hcell hown hlen
      go_wp2_with (go_at_call 40; refine hc.mono ?_; rintro e w1 ⟨v1, rfl, hown1, hb1⟩)
      go_roundw
      case rel => exact ⟨k + 1, by omega, by go_num, hown1, hnx.trans hb1⟩
      case measure => simp [intOf]; omega
    · have hk' : ls.take k = ls := List.take_of_length_le (by omega)
      rw [hk'] at hown
      obtain ⟨_, q, c, hv, hrd⟩ := own_reads hown
      subst hv
      clear hown hk'
      go_wp2_with fail
      go_ret
      exact ⟨q, c, rfl, hrd, hnx⟩

end Go.Proofs.Ytnaofcggdjbocab.Leb
