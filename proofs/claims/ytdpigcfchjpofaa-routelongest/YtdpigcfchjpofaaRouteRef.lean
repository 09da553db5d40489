/-
  The document's answers, as they are typed out: Delete, Find, Same.
-/
import Derived.Test.YtdpigcfchjpofaaRouteFind
import Derived.Test.YtdpigcfchjpofaaAddrRefNet
namespace Go.Proofs.Ytdpigcfchjpofaa.Route
open Go.RowKit Go.Maps Go.Proofs.Ytdpigcfchjpofaa.Mem Go.Proofs.Ytdpigcfchjpofaa.Addr

theorem eq_nets {j k : Nt} (hj : NOk j) (hk : NOk k) (w : World) : (Op.equalIn 10000 29 (net j.1 j.2) (net k.1 k.2)).run Try.prog w = .ok (decide (j = k)) w := by
  rw [eq_net hj.1 hk.1]
  obtain ⟨a, b⟩ := j
  obtain ⟨c, d⟩ := k
  by_cases h : a = c <;> by_cases h2 : b = d <;> simp [h, h2]
theorem stood_route : Try.prog.stoodInHeld 42 = false := by kernel_rfl
theorem guard_route : Try.prog.eqGuardType Try.prog.depth 42 = false := by kernel_rfl
theorem eq_routes {x y : Rt} (hx : ROk x) (hy : ROk y) (w : World) : (Op.equalIn 10000 42 (.agg (rc x).toArray) (.agg (rc y).toArray)).run Try.prog w = .ok (decide (x = y)) w := by
  have hf : Try.prog.underlying 42 = some (.struct (Try.prog.fieldsOf 42)) := by simp [Program.fieldsOf, Try.underlying42]
  rw [run_equalIn_struct w 9999 _ _ _ hf stood_route]
  have e := eq_bytes (N := x.1) (M := y.1) hx.1.1 hy.1.1
  have e4 := eq4 9996 (b0 x.1) (b1 x.1) (b2 x.1) (b3 x.1) (b0 y.1) (b1 y.1) (b2 y.1) (b3 y.1) w
  rw [e] at e4
  simp [rc, Program.fieldsOf, Try.underlying42, Try.underlying29, Op.eqFields, part, Try.isAgg29, Try.sizeOf29, Try.isAgg27, Try.sizeOf27, Try.isAgg3, go_sem, e4]
  clear e e4 hf
  obtain ⟨a, b, c⟩ := x
  obtain ⟨d, u, f⟩ := y
  by_cases h : a = d <;> by_cases h2 : b = u <;> by_cases h3 : c = f <;> simp [h, h2, h3]
/-- One route's cells, as a load asks for them. -/
theorem rcells {w : World} {p : Option Addr} {cap i : Nat} {M : List Rt} {x : Rt} (h : RK rc w p cap M) (hi : M[i]? = some x) :
    ∃ b o, p = some ⟨b, o, none⟩ ∧ b < w.heap.size ∧ w.cell? ⟨b, o + i * 6, none⟩ = some (.int .u8 (b0 x.1)) ∧ w.cell? ⟨b, o + i * 6 + 1, none⟩ = some (.int .u8 (b1 x.1)) ∧ w.cell? ⟨b, o + i * 6 + 2, none⟩ = some (.int .u8 (b2 x.1)) ∧
      w.cell? ⟨b, o + i * 6 + 3, none⟩ = some (.int .u8 (b3 x.1)) ∧ w.cell? ⟨b, o + i * 6 + 4, none⟩ = some (.int .i64 x.2.1) ∧ w.cell? ⟨b, o + i * 6 + 5, none⟩ = some (.int .i64 x.2.2) := by
  obtain ⟨b, o, e, hlt, hc⟩ := h.at rc_len hi
  exact ⟨b, o, e, hlt, hc 0 _ rfl, hc 1 _ rfl, hc 2 _ rfl, hc 3 _ rfl, hc 4 _ rfl, hc 5 _ rfl⟩
theorem del_take {M : List Rt} {i : Nat} {x : Rt} (hi : M[i]? = some x) (k : Nt) : delM (M.take (i + 1)) k = if kof x = k then delM (M.take i) k else delM (M.take i) k ++ [x] := by
  have hl : i < M.length := (List.getElem?_eq_some_iff.1 hi).1
  have e : M.take (i + 1) = M.take i ++ [x] := by
    rw [List.take_add_one, hi]; rfl
  unfold delM
  rw [e, List.filter_append]
  by_cases h : kof x = k <;> simp [h]
theorem own_form {w : World} {B n k : Nat} {e : TypeId} {v : Value} {xs : List Value} (h : w.ownsRow B e k v n xs) (hp : 0 < n) : ∃ g cap, v = .slice (some ⟨g, 0, none⟩) n cap := by
  rcases h.2 with ⟨_, h0⟩ | ⟨g, cap, cur, rfl, _⟩
  · omega
  · exact ⟨g, cap, rfl⟩
set_option maxRecDepth 100000 in
theorem rref_Delete {w : World} {p : Option Addr} {c : Nat} {M : List Rt} (h : RK rc w p c M) (hM : Good M) (hl : M.length ≤ 1000) {k : Nt} (hk : NOk k) :
    Calls Try.prog 13 #[.slice p M.length c, net k.1 k.2] w fun e w' => ∃ g c', e = .returned (.tuple #[.slice (some ⟨g, 0, none⟩) (delM M k).length c', .bool (hasM M k)]) ∧ RK rc w' (some ⟨g, 0, none⟩) c' (delM M k) ∧ w.heap.size ≤ g ∧ Below w.heap.size w w' := by
  obtain ⟨i0, hi, hz0, hz1, hz2⟩ := info_parts info_route
  have hgd := guard_net
  obtain ⟨n, hn⟩ : ∃ n, n = M.length := ⟨_, rfl⟩
  have HN : Hid (n = M.length) := hn
  rw [← hn] at hl ⊢
  clear hn
  unfold net
  go_enter Try.func13, Try.ntmps13
  go_wp2
  go_loopw [6, 12] (fun v t wr => ∃ (i : Nat) (g cap m : Nat), i ≤ n ∧ t = .int .i64 i ∧ Hid (m = (delM (M.take i) k).length) ∧ v = .slice (some ⟨g, 0, none⟩) m cap ∧ wr.ownsRow (w.heap.size + 1) 42 6 (.slice (some ⟨g, 0, none⟩) m cap) m ((delM (M.take i) k).flatMap rc) ∧
      Blk wr w.heap.size 29 [.int .u8 (b0 k.1), .int .u8 (b1 k.1), .int .u8 (b2 k.1), .int .u8 (b3 k.1), .int .i64 k.2] ∧ Below w.heap.size w wr) (fun _ t _ => n - (intOf t).toNat)
  case atStart => exact ⟨0, _, 0, 0, Nat.zero_le _, rfl, rfl, rfl, (by have := World.ownsRow_lit (base := w.heap.size + 1) (e := 42) (size := 6) (w.alloc (.cells #[.int .u8 (b0 k.1), .int .u8 (b1 k.1), .int .u8 (b2 k.1), .int .u8 (b3 k.1), .int .i64 k.2] 29)) #[] 0 (Nat.le_of_eq (World.size_alloc ..).symm) (by decide) rfl; rw [World.size_alloc] at this; exact this), (Blk.new w _ _).alloc _, bnext (bnew _ _) (bnew _ _)⟩
  case round =>
    obtain ⟨i, g, cap, m, hin, rfl, HM, rfl, hown, kb, hbw⟩ := hrel
    have hr := h.below hbw
    have hbl := kb.lt
    by_cases hlt : i < n
    · have hML : i < M.length := by have := HN.out; omega
      have hx : M[i]? = some M[i] := List.getElem?_eq_getElem hML
      generalize hxe : M[i] = x at hx
      have hxk : NOk (kof x) := (hM.2 x (List.mem_of_getElem? hx)).1
      obtain ⟨bb, o, rfl, hbb, l0, l1, l2, l3, l4, l5⟩ := rcells hr hx
      have hdt := del_take hx k
      have heq := eq_nets hxk hk
      have lk : ∀ ob j, (wr.alloc ob).cell? ⟨w.heap.size, j, none⟩ = _ := fun ob j => (kb.alloc ob).cell j
      clear hxe
      by_cases he : kof x = k
      · have hd : decide (kof x = k) = true := decide_eq_true he
        simp only [hd] at heq
        unfold net at heq
        simp only [kof] at heq
        clear hd
        rw [if_pos he] at hdt
        go_wp2
        go_roundw
        case rel => exact ⟨i + 1, g, cap, m, by omega, by simp, by rw [hdt]; exact HM, rfl, by rw [hdt]; exact hown.alloc _, kb.alloc _, hbw.alloc hbw.size _⟩
        case measure => simp [intOf]; omega
      · have hd : decide (kof x = k) = false := decide_eq_false he
        simp only [hd] at heq
        unfold net at heq
        simp only [kof] at heq
        clear hd
        rw [if_neg he] at hdt
        have kx := Blk.new wr #[.int .u8 (b0 x.1), .int .u8 (b1 x.1), .int .u8 (b2 x.1), .int .u8 (b3 x.1), .int .i64 x.2.1, .int .i64 x.2.2] 42
        have lx := kx.cell
        have hml : m ≤ i := by rw [HM.out]; have := len_del_le (M.take i) k; simp at this; omega
        have hrd := lit_rk (enc := rc) (w := wr.alloc (.cells #[.int .u8 (b0 x.1), .int .u8 (b1 x.1), .int .u8 (b2 x.1), .int .u8 (b3 x.1), .int .i64 x.2.1, .int .i64 x.2.2] 42)) (cs := #[.int .u8 (b0 x.1), .int .u8 (b1 x.1), .int .u8 (b2 x.1), .int .u8 (b3 x.1), .int .i64 x.2.1, .int .i64 x.2.2]) (e := 42) (x := x) rfl
        simp only [World.size_alloc] at hrd
        go_wp2_with (at_builtin; refine wpList_append_rk rc_len (by decide) rc_one _ rfl _ _ 33 rfl (w.heap.size + 1) 42 i0 _ 24 Try.underlying33 hi hz0 hz1 hz2 rfl (.slice (some ⟨g, 0, none⟩) m cap) m (delM (M.take i) k) rfl ((hown.alloc _).alloc _) (some ⟨wr.heap.size + 1, 0, none⟩) 1 1 [x] rfl rfl hrd (by omega) (by omega) (by simp; omega) ?_; intro v3 w3 hown3 hg3)
        obtain ⟨g3, cap3, rfl⟩ := own_form hown3 (by omega)
        have hg4 : wr.grownBy w3 (some g) := (((grown_of_below (bnew wr _)).trans (grown_of_below (bnew _ _))).but _).trans hg3
        have hgl := (hown.lt g rfl).1
        go_roundw
        case rel => exact ⟨i + 1, g3, cap3, m + 1, by omega, by simp, by rw [hdt, List.length_append, HM.out]; rfl, rfl, by rw [hdt]; exact hown3, kb.kept hg4 (by simp; omega), hbw.grown hg4 hbw.size fun j hj => by simp at hj; omega⟩
        case measure => simp [intOf]; omega
    · have hn : i = n := by omega
      subst hn
      have e1 : M.take i = M := List.take_of_length_le (by have := HN.out; omega)
      rw [e1] at hown HM
      have hml : m ≤ i := by rw [HM.out, HN.out]; exact len_del_le M k
      have hd := del_lt hM.1 k
      rw [← HM.out, ← HN.out] at hd
      have HD : Hid (decide (m < i) = hasM M k) := hd
      clear hd
      obtain ⟨p', c', hv, hrk, hpb⟩ := own_rk rc_len (by decide) hown
      simp only [Value.slice.injEq] at hv
      obtain ⟨rfl, -, rfl⟩ := hv
      clear e1
      go_wp2
      go_ret2
      exact ⟨_, _, by rw [← HM.out, ← HD.out]; rfl, hrk, by have := hpb _ rfl; simp only at this; omega, hbw⟩
set_option maxRecDepth 100000 in
theorem rref_Same {w : World} {p q : Option Addr} {c d : Nat} {M N : List Rt} (hp : RK rc w p c M) (hq : RK rc w q d N) (hM : ∀ r ∈ M, ROk r) (hN : ∀ r ∈ N, ROk r) (hl : M.length ≤ 1000) :
    Calls Try.prog 19 #[.slice p M.length c, .slice q N.length d] w fun e w' => e = .returned (.bool (decide (M = N))) ∧ Below w.heap.size w w' := by
  have hgd := guard_route
  by_cases hne : M.length = N.length
  · obtain ⟨n, hn⟩ : ∃ n, n = M.length := ⟨_, rfl⟩
    have HN : Hid (n = M.length ∧ n = N.length) := ⟨hn, by omega⟩
    rw [← hne, ← hn]
    rw [← hn] at hl
    clear hn hne
    go_enter Try.func19, Try.ntmps19
    go_wp2
    go_loopw [13] (fun t wr => ∃ (i : Nat), i ≤ n ∧ t = .int .i64 i ∧ Hid (M.take i = N.take i) ∧ Below w.heap.size w wr) (fun t _ => n - (intOf t).toNat)
    case atStart => exact ⟨0, Nat.zero_le _, rfl, rfl, Below.refl _ _⟩
    case round =>
      obtain ⟨i, hin, rfl, HT, hbw⟩ := hrel
      by_cases hlt : i < n
      · have h1 : i < M.length := by have := HN.out.1; omega
        have h2 : i < N.length := by have := HN.out.2; omega
        have hx : M[i]? = some M[i] := List.getElem?_eq_getElem h1
        have hy : N[i]? = some N[i] := List.getElem?_eq_getElem h2
        generalize hxe : M[i] = x at hx
        generalize hye : N[i] = y at hy
        obtain ⟨bb, o, rfl, hbb, l0, l1, l2, l3, l4, l5⟩ := rcells (hp.below hbw) hx
        obtain ⟨bc, o2, rfl, hbc, m0, m1, m2, m3, m4, m5⟩ := rcells (hq.below hbw) hy
        have heq := eq_routes (hM x (List.mem_of_getElem? hx)) (hN y (List.mem_of_getElem? hy))
        by_cases he : x = y
        · have HT1 : Hid (M.take (i + 1) = N.take (i + 1)) := by
            show M.take (i + 1) = N.take (i + 1)
            rw [List.take_add_one, List.take_add_one, HT.out, hx, hy, he]
          have hd : decide (x = y) = true := decide_eq_true he
          simp only [hd] at heq
          unfold rc at heq
          clear hd hxe hye HT hx hy he
          go_wp2
          go_quiet (fail)
          go_wp2
          go_roundw
          case rel => exact ⟨i + 1, by omega, by simp, HT1, bnext hbw (bdrewN _ _)⟩
          case measure => simp [intOf]; omega
        · have hd : decide (x = y) = false := decide_eq_false he
          simp only [hd] at heq
          unfold rc at heq
          have e1 : decide (M = N) = false := decide_eq_false fun e => he (by subst e; rw [hx] at hy; exact Option.some.inj hy)
          clear hd hxe hye HT
          go_wp2
          go_quiet (fail)
          go_wp2
          go_ret
          exact ⟨by rw [e1]; rfl, bnext hbw (bdrewN _ _)⟩
      · have hn : i = n := by omega
        subst hn
        have e1 : M = N := by
          have := HT.out
          rwa [List.take_of_length_le (by have := HN.out.1; omega), List.take_of_length_le (by have := HN.out.2; omega)] at this
        have e2 : decide (M = N) = true := decide_eq_true e1
        clear e1
        go_wp2
        go_ret
        exact ⟨by rw [e2]; rfl, hbw⟩
  · have e1 : decide (M = N) = false := decide_eq_false fun e => hne (by rw [e])
    have e2 : ((M.length : Int) != (N.length : Int)) = true := by simp; omega
    have e3 : (M.length != N.length) = true := by simpa using hne
    rw [e1]
    go_enter Try.func19, Try.ntmps19
    go_wp2
    go_ret
    exact ⟨rfl, Below.refl _ _⟩
end Go.Proofs.Ytdpigcfchjpofaa.Route
