/-
  The walk of BookReads.
-/
import Derived.Test.YtnaofcggdjbocaaBkRef4
import Derived.Test.YtnaofcggdjbocaaBkRefSame
import Derived.Test.YtnaofcggdjbocaaBkAlive
namespace Go.Proofs.Ytnaofcggdjbocaa.Book
open Go.RowKit Go.Proofs.Ytnaofcggdjbocaa.Mem Go.Proofs.Ytnaofcggdjbocaa.Policy Go.Proofs.Ytnaofcggdjbocaa.Event Go.Proofs.Ytnaofcggdjbocaa.Addr
set_option maxRecDepth 100000

theorem rdb_facts (bs : List Int) : (∀ e ∈ (rdB bs).es, EnOk e) ∧ (rdB bs).es.length ≤ 8 := by
  cases h : readB bs with
  | none => rw [(rdb_none h).1]; simp [zeroB]
  | some b =>
    rw [(rdb_some h).1]
    have hW := readB_some h
    exact ⟨hW.1.2, rightB_len hW.2.1⟩
theorem info_u8 : ∃ i, Try.prog.info? 5 = some i ∧ i.zero = some (.int .u8 0) ∧ i.size = 1 ∧ i.bytes = 1 := by
  obtain ⟨i, hi, he⟩ := Option.map_eq_some_iff.1 info_byte
  simp only [Prod.mk.injEq] at he
  exact ⟨i, hi, he⟩
theorem sameB_self (a : Bk) : sameB a a = true := sameB_iff.2 rfl
set_option maxHeartbeats 2000000 in
theorem reads_any (p : Option Addr) (n c : Nat) (bs : List Int) (hn : bs.length = n) (hb : ∀ c ∈ bs, Byte c) (w : World) (r : Reads .u8 w p c bs) :
    Calls Try.prog 6 #[.slice p n c] w fun e w' => e = .returned (.bool true) ∧ Below w.heap.size w w' := by
  have ha := fun W => alive_any W
  by_cases hbig : 1500 < n
  · have hbi : (1500 : Int) < (n : Int) := by omega
    go_enter Try.func6, Try.ntmps6
    go_wp2_with (first
      | ((with_reducible refine (ha _).mono ?_); rintro e w1 ⟨rfl, hB1⟩))
    go_ret
    exact ⟨rfl, hB1⟩
  · have hbi : decide ((1500 : Int) < (n : Int)) = false := decide_eq_false (by omega)
    obtain ⟨i0, hi, hz0, hz1', hz2⟩ := info_u8
    have hR := fun {W : World} {q d} (rq : Reads .u8 W q d bs) => book_Read q n d bs hn hb W rq
    have hRR := fun {W : World} (hb' : Below w.heap.size w W) => ref_ReadB p n c bs hn (by omega) hb W (r.below hb')
    obtain ⟨f1, f2⟩ := rdb_facts bs
    have hS := fun {W : World} (h1 h2 : Bh) (i1 : IsB W h1 (rdB bs)) (i2 : IsB W h2 (rdB bs)) => ref_SameB h1 h2 (rdB bs) (rdB bs) W i1 i2 f1 f1 (by have := i1.2.1; omega)
    simp only [sameB_self] at hS
    have hrb := fun {W : World} (hb' : Below w.heap.size w W) => r.below hb'
    obtain ⟨e0, he0⟩ : ∃ e0, e0 = rdB bs := ⟨_, rfl⟩
    obtain ⟨N, hN⟩ : ∃ N, N = rdE bs := ⟨_, rfl⟩
    rw [← he0] at hS
    rw [← he0, ← hN] at hR hRR
    have hNN : (N == N) = true := by simp
    have hsm : n ≤ 1500 := by omega
    clear f1 f2 he0 hN hbig
    have hnH : Hid (bs.length = n) := hn
    go_enter Try.func6, Try.ntmps6
    go_wp2_with (first
      | ((fail_if_success (have _ := hB1)); (with_reducible refine (ha _).mono ?_); rintro e w1 ⟨rfl, hB1⟩; have hown := lit_none (k := .u8) (e := 5) w1; have hra := (hrb hB1).alloc (.cells #[] 5))
      | (at_builtin; refine wpList_append_reads _ rfl _ _ 37 rfl w1.heap.size 5 i0 (.int .u8 0) 1 .u8 Try.underlying37 hi hz0 hz1' hz2 rfl (.slice (some ⟨w1.heap.size, 0, none⟩) 0 0) 0 [] rfl hown p n c bs rfl hnH.out hra ?c3 ?c4 ?c5 ?_))
    case c3 => unfold maxLen; omega
    case c4 => omega
    case c5 => simp
    · intro v2 V2 hown2 hg2
      have hB2 : Below w1.heap.size w1 V2 := (bnew w1 (.cells #[] 5)).grown hg2 (by simp) (fun j hj => by simp [Value.ownBlock] at hj; omega)
      obtain ⟨-, q2, c2, rfl, r2⟩ := own_reads hown2
      rw [hnH.out]
      have hB12 := bnext hB1 hB2
      clear hown hra hown2 hg2
      go_wp2_with (first
        | ((fail_if_success (have _ := hB3)); (with_reducible refine (hR r2).mono ?_); rintro e w3 ⟨h3, rfl, i3, -, hB3⟩; have hB13 := bnext hB12 hB3)
        | ((fail_if_success (have _ := hX4)); (have _ := hB3); (refine at_alloc_bk (by rfl) (by rfl) ?_); intro V4 hX4 hB4 hz4)
        | ((fail_if_success (have _ := hX5)); (have _ := hX4); (refine at_store_bk _ _ _ _ _ (by rfl) (by rfl) (by rfl) hX4 rfl (by rfl) ?_); intro V5 hX5 hg5 hz5; have hB5 := hB4.grown hg5 hB4.size (by simp); have hB15 := bnext hB13 hB5)
        | ((fail_if_success (have _ := hB6)); (have _ := hX5); (with_reducible refine (hRR hB15).mono ?_); rintro e w6 ⟨h6, rfl, i6, hB6⟩; have hB16 := bnext hB15 hB6; have hX6 := hX5.below hB6; have hB56 := bnext hB5 hB6)
        | ((fail_if_success (have _ := hY7)); (have _ := hB6); (refine at_alloc_bk (by rfl) (by rfl) ?_); intro V7 hY7 hB7 hz7)
        | ((fail_if_success (have _ := hY8)); (have _ := hY7); (refine at_store_bk _ _ _ _ _ (by rfl) (by rfl) (by rfl) hY7 rfl (by rfl) ?_); intro V8 hY8 hg8 hz8; have hB8 := hB7.grown hg8 hB7.size (by simp); have hB18 := bnext hB16 hB8; have hX8 := hX6.below hB8; have i38 := i3.below (bnext hB56 hB8); have i68 := i6.below hB8)
        | ((fail_if_success (have _ := hB9)); (have _ := hY8); (refine at_load_bk _ _ _ (by rfl) (by rfl) hX8 (by rfl) ?_))
        | ((fail_if_success (have _ := hB9)); (have _ := hY8); (refine at_load_bk _ _ _ (by rfl) (by rfl) hY8 (by rfl) ?_))
        | ((fail_if_success (have _ := hB9)); (have _ := hY8); (with_reducible refine (hS h3 h6 i38 i68).mono ?_); rintro e w9 ⟨rfl, hB9⟩))
      go_ret
      exact ⟨rfl, bnext hB18 hB9⟩
end Go.Proofs.Ytnaofcggdjbocaa.Book
