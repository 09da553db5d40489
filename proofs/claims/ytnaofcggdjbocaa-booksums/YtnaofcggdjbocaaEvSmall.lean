/-
  The small functions of package event, and the library's Index, Contains and Equal over ints.
-/
import Derived.Test.YtnaofcggdjbocaaBkSmall
import Derived.Test.YtnaofcggdjbocaaPolAll
import Derived.Deep.QuietTactic
import Derived.BigQuiet
namespace Go.Proofs.Ytnaofcggdjbocaa.Event
open Go.RowKit Go.Proofs.Ytnaofcggdjbocaa.Mem Go.Proofs.Ytnaofcggdjbocaa.Policy
set_option maxRecDepth 100000

theorem event_rightSub (n : Int) (w : World) :
    Calls Try.prog 48 #[.int .i64 n] w fun e w' => e = .returned (.bool (subB n)) ∧ w' = w := by
  unfold subB
  by_cases h : 1 ≤ n <;> by_cases h2 : n ≤ 255
  all_goals
    go_enter Try.func48, Try.ntmps48
    go_wp2
    go_ret
    exact ⟨by simp [h, h2], rfl⟩
theorem event_rightValue (n : Int) (w : World) :
    Calls Try.prog 49 #[.int .u64 n] w fun e w' => e = .returned (.bool (valB n)) ∧ w' = w := by
  unfold valB
  by_cases h : 1 ≤ n <;> by_cases h2 : n ≤ 281474976710656
  all_goals
    go_enter Try.func49, Try.ntmps49
    go_wp2
    go_ret
    exact ⟨by simp [h, h2], rfl⟩

theorem cell_at {k : IntKind} {w : World} {p : Option Addr} {cap i : Nat} {zs : List Int} {x : Int} (h : Reads k w p cap zs) (hx : zs[i]? = some x) : ∃ b o, p = some ⟨b, o, none⟩ ∧ b < w.heap.size ∧ w.cell? ⟨b, o + i, none⟩ = some (.int k x) := by
  have hi := (List.getElem?_eq_some_iff.1 hx).1
  obtain ⟨b, o, e, hb, hc⟩ := h.2.2.2 (by omega)
  refine ⟨b, o, e, hb, ?_⟩
  rw [hc i hi, List.getD, hx]
  rfl
/-- rightDrops. -/
theorem event_rightDrops (p : Option Addr) (n c : Nat) (ds : List Int) (hl : ds.length = n) (w : World) (r : Reads .i64 w p c ds) :
    Calls Try.prog 73 #[.slice p n c] w fun e w' => e = .returned (.bool (dropB ds)) ∧ w' = w := by
  by_cases h8 : 8 < n
  · have hno : dropB ds = false := by unfold dropB; rw [decide_eq_false (by omega)]; rfl
    have h8i : (8 : Int) < (n : Int) := by omega
    rw [hno]
    go_enter Try.func73, Try.ntmps73
    go_wp2
    go_ret
    exact ⟨rfl, rfl⟩
  · have h8i : decide ((8 : Int) < (n : Int)) = false := decide_eq_false (by omega)
    obtain ⟨B, hB⟩ : ∃ B, dropF 0 ds = B := ⟨_, rfl⟩
    have hall : dropB ds = B := by
      unfold dropB
      rw [decide_eq_true (by omega), hB, Bool.true_and]
    rw [hall]
    replace hB : Hid (dropF 0 (ds.drop 0) = B) := by unfold Hid; simpa using hB
    clear hall
    have hs := event_rightSub
    go_enter Try.func73, Try.ntmps73
    go_wp2
    go_loop [3, 11] (fun v3 i => ∃ (k : Nat) (last : Int), k ≤ n ∧ v3 = .int .i64 last ∧ i = .int .i64 k ∧ Hid (dropF last (ds.drop k) = B)) (fun _ i => n - (intOf i).toNat)
    case atStart => exact ⟨0, 0, by omega, rfl, rfl, hB⟩
    case round =>
      obtain ⟨k, last, hk, rfl, rfl, HW⟩ := hrel
      by_cases hlt : k < n
      · have hlt2 : decide ((k : Int) < (n : Int)) = true := decide_eq_true (by omega)
        have hlt3 : (k : Int) < (n : Int) := by omega
        obtain ⟨x, hx⟩ : ∃ x, ds[k]? = some x := ⟨_, List.getElem?_eq_getElem (by omega)⟩
        obtain ⟨b, o, rfl, hb, hc⟩ := cell_at r hx
        have hstep : Hid ((subB x && !decide (x ≤ last) && dropF x (ds.drop (k + 1))) = B) := by
          have := HW.out
          rw [List.drop_eq_getElem_cons (by omega), show ds[k] = x from by rw [List.getElem?_eq_getElem (by omega)] at hx; exact Option.some.inj hx] at this
          exact this
        clear HW hx hB
        replace hs := hs x
        cases hR : subB x with
        | false =>
          rw [hR] at hs hstep
          obtain rfl : B = false := by rw [← hstep.out]; rfl
          clear hR
          go_wp2_with (go_at_call 48; refine (hs _).mono ?_; rintro e w1 ⟨rfl, rfl⟩)
          go_ret
          exact ⟨rfl, rfl⟩
        | true =>
          rw [hR] at hs hstep
          clear hR
          by_cases hle : x ≤ last
          · obtain rfl : B = false := by rw [← hstep.out, decide_eq_true hle]; rfl
            go_wp2_with (go_at_call 48; refine (hs _).mono ?_; rintro e w1 ⟨rfl, rfl⟩)
            go_ret
            exact ⟨rfl, rfl⟩
          · have HN : Hid (dropF x (ds.drop (k + 1)) = B) := by
              have := hstep.out
              rw [decide_eq_false hle] at this
              unfold Hid
              simpa using this
            go_wp2_with (go_at_call 48; refine (hs _).mono ?_; rintro e w1 ⟨rfl, rfl⟩)
            go_round
            case rel => exact ⟨k + 1, x, by omega, rfl, by go_num, HN⟩
            case measure => simp [intOf]; omega
      · obtain rfl : k = n := by omega
        have hd : ds.drop k = [] := List.drop_eq_nil_of_le (by omega)
        obtain rfl : B = true := by rw [← HW.out, hd]; rfl
        have hlt2 : decide ((k : Int) < (k : Int)) = false := decide_eq_false (by omega)
        go_wp2
        go_ret
        exact ⟨rfl, rfl⟩
/-- Where an int is. -/
theorem slices_Index (p : Option Addr) (n c : Nat) (ds : List Int) (hl : ds.length = n) (hn : n ≤ 1000) (x : Int) (w : World) (r : Reads .i64 w p c ds) :
    Calls Try.prog 94 #[.slice p n c, .int .i64 x] w fun e w' => ∃ v : Int, e = .returned (.int .i64 v) ∧ (0 ≤ v ↔ x ∈ ds) ∧ w' = w := by
  go_enter Try.func94, Try.ntmps94
  go_wp2
  go_loop [8] (fun i => ∃ (k : Nat), k ≤ n ∧ i = .int .i64 k ∧ Hid (x ∉ ds.take k)) (fun i => n - (intOf i).toNat)
  case atStart => exact ⟨0, by omega, rfl, by unfold Hid; simp⟩
  case round =>
    obtain ⟨k, hk, rfl, HW⟩ := hrel
    by_cases hlt : k < n
    · have hlt3 : (k : Int) < (n : Int) := by omega
      obtain ⟨y, hy⟩ : ∃ y, ds[k]? = some y := ⟨_, List.getElem?_eq_getElem (by omega)⟩
      obtain ⟨b, o, rfl, hb, hc⟩ := cell_at r hy
      by_cases hxy : x = y
      · subst hxy
        have hin : Hid (x ∈ ds) := List.mem_of_getElem? hy
        clear hy HW
        have hbb : (x == x) = true := by simp
        go_wp2
        go_ret
        exact ⟨k, rfl, ⟨fun _ => hin.out, fun _ => by omega⟩, rfl⟩
      · have HN : Hid (x ∉ ds.take (k + 1)) := by
          unfold Hid
          rw [List.take_succ_eq_append_getElem (by omega), List.mem_append, List.mem_singleton]
          rw [List.getElem?_eq_getElem (by omega)] at hy
          rintro (h | h)
          · exact HW.out h
          · exact hxy (h.trans (Option.some.inj hy))
        have hbb : (x == y) = false := by simpa using hxy
        clear hy HW
        go_wp2
        go_round
        case rel => exact ⟨k + 1, by omega, by go_num, HN⟩
        case measure => simp [intOf]; omega
    · have HN : Hid (x ∉ ds) := by
        have := HW.out
        rwa [List.take_of_length_le (by omega)] at this
      go_wp2
      go_ret
      exact ⟨-1, rfl, ⟨fun h => by omega, fun h => absurd h HN.out⟩, rfl⟩
theorem slices_Contains (p : Option Addr) (n c : Nat) (ds : List Int) (hl : ds.length = n) (hn : n ≤ 1000) (x : Int) (w : World) (r : Reads .i64 w p c ds) :
    Calls Try.prog 85 #[.slice p n c, .int .i64 x] w fun e w' => e = .returned (.bool (decide (x ∈ ds))) ∧ w' = w := by
  have hi := slices_Index p n c ds hl hn x w r
  go_enter Try.func85, Try.ntmps85
  go_wp2_with (go_at_call 94; refine hi.mono ?_; rintro e w1 ⟨v, rfl, hv, rfl⟩)
  go_ret
  refine ⟨?_, rfl⟩
  by_cases h : x ∈ ds
  · simp [h]
  · simp [h]
end Go.Proofs.Ytnaofcggdjbocaa.Event
