/-
  Full is full.
-/
import Derived.Test.YthgafnommcodcaaWalAlive
/-
  Records that a law has made, beside a disk and a log that turn.
-/
namespace Go.Proofs.Ythgafnommcodcaa.Wal
open Go.RowKit Go.Proofs.Ythgafnommcodcaa.Mem Go.Proofs.Ythgafnommcodcaa.Sect Go.Proofs.Ythgafnommcodcaa.Frame Go.Proofs.Ythgafnommcodcaa.Disk Go.Proofs.Ythgafnommcodcaa.Area
set_option maxRecDepth 100000

/-- Records in a row of one's own; the row and the payloads lie outside of the blocks of T. -/
def Made (w : World) (B : Nat) (T : Nat → Prop) (v : Value) (rs : List Rv) : Prop := Rows w B v rs ∧ Pays T w rs ∧ ∀ k, ownOf v k → ¬ T k
section
variable {w w' : World} {B : Nat} {T T' : Nat → Prop} {v v' : Value} {rs : List Rv}
theorem Made.below (h : Made w B T v rs) (hb : Below w.heap.size w w') : Made w' B T v rs := ⟨h.1.below hb, h.2.1.below hb, h.2.2⟩
theorem Made.fr (h : Made w B T v rs) (hF : Fr T w w') : Made w' B T v rs := by
  obtain ⟨⟨h1, h2, h3⟩, h4, h5⟩ := h
  have h6 := h4.fr hF
  exact ⟨⟨own_fr h1 hF h5, fun r hr => ⟨(h6 r hr).1, (h2 r hr).2⟩, h3⟩, h6, h5⟩
theorem Made.more (h : Made w B T v rs) (hT : ∀ k, T' k → T k ∨ w.heap.size ≤ k) : Made w B T' v rs := by
  refine ⟨h.1, h.2.1.more hT, fun k hk q => ?_⟩
  rcases hT k q with q | q
  · exact h.2.2 k hk q
  · have := (h.1.lt k hk).2; omega
theorem made_nil (w : World) (T : Nat → Prop) (hT : ∀ k, T k → k < w.heap.size) : Made (w.alloc (.cells #[] 75)) w.heap.size T (.slice (some ⟨w.heap.size, 0, none⟩) 0 0) [] :=
  ⟨⟨lit_none_k (α := Rv) (enc := rc) w, Pays.nil _ _, fun _ h => by cases h⟩, Pays.nil _ _, fun k hk q => by
    obtain rfl : w.heap.size = k := by simpa [ownOf, Value.ownBlock] using hk
    exact Nat.lt_irrefl _ (hT _ q)⟩
theorem made_rows (h : Rows w B v rs) (hT : ∀ k, T k → k < B) : Made w B T v rs :=
  ⟨h, fun r hr => ⟨(h.2.1 r hr).1, (h.2.1 r hr).2.1, off_fresh (h.2.2 r hr) hT, (h.2.1 r hr).2.2.2⟩, fun k hk q => by
    have := (h.lt k hk).1
    have := hT k q
    omega⟩
theorem Made.lower {B' : Nat} (h : Made w B T v rs) (hB : B' ≤ B) : Made w B' T v rs := ⟨⟨own_lower h.1.1 hB, h.1.2.1, h.1.2.2.lower hB⟩, h.2⟩
theorem Fr.mono {U : Nat → Prop} (h : Fr T w w') (hU : ∀ k, T k → U k) : Fr U w w' := ⟨h.1, h.2.1, h.2.2.1, h.2.2.2.1, fun k hk hs => h.2.2.2.2 k hk fun q => hs (hU k q)⟩
theorem Made.step (h : Made w B T v rs) (hF : Fr T w w') (hT : ∀ k, T' k → T k ∨ w.heap.size ≤ k) : Made w' B T' v rs :=
  ((h.more (T' := fun k => T k ∨ T' k) (fun k hk => by rcases hk with hk | hk; exact .inl hk; exact hT k hk)).fr (Fr.mono hF fun _ hk => .inl hk)).more fun _ hk => .inl (.inr hk)
/-- One more. -/
theorem Made.push {w0 : World} {r : Rv} (h : Made w B T v rs) (hb : Below w.heap.size w w0) (h1 : Reads .u8 w0 r.q r.d r.g.p) (h2 : ∀ c ∈ r.g.p, Byte c) (h3 : ∀ a, r.q = some a → B ≤ a.block ∧ w.heap.size ≤ a.block) (h4 : r.g.p.length ≤ 700) (hT : ∀ k, T k → k < w.heap.size)
    (ho : w'.ownsRow B 75 3 v' (rs.length + 1) ((rs ++ [r]).flatMap rc)) (hg : w0.grownBy w' v.ownBlock) (hl : ∀ k, v'.ownBlock = some k → v.ownBlock = some k ∨ w0.heap.size ≤ k) : Made w' B T v' (rs ++ [r]) := by
  have hz : Pays (ownOf v) w0 [r] := (Pays.nil _ _).snoc (rs := []) h1 h2 (off_fresh (fun a ha => (h3 a ha).2) fun k hk => (h.1.lt k hk).2) h4
  have hz2 : Pays T w0 [r] := (Pays.nil _ _).snoc (rs := []) h1 h2 (off_fresh (fun a ha => (h3 a ha).2) hT) h4
  have hR := h.1.more hb hz (fun x hx a ha => by rw [List.mem_singleton] at hx; subst hx; exact (h3 a ha).1) rfl ho hg hl
  refine ⟨hR, fun x hx => ⟨(hR.2.1 x hx).1, (hR.2.1 x hx).2.1, ?_, (hR.2.1 x hx).2.2.2⟩, fun k hk q => ?_⟩
  · exact (((h.2.1.below hb).app hz2) x hx).2.2.1
  · rcases hl k hk with q2 | q2
    · exact h.2.2 k q2 q
    · have := hT k q
      have := hb.size
      omega
end
/-- A log and its disk stay while what is none of them turns. -/
theorem Lg.fr {B g gl n S st ep nx0 j t safe : Nat} {S0 U : Nat → Prop} {w w' : World} {d : Dsk} {ps : List (List Int)} (h : Lg B S0 w g gl n S st ep nx0 d j t ps safe) (hF : Fr U w w') (hU : ∀ k, U k → ¬ (S0 k ∨ k = gl)) : Lg B S0 w' g gl n S st ep nx0 d j t ps safe :=
  ⟨dk_fr h.1 hF fun k hk q => hU k q (.inl hk), hF.blk h.2.1 fun q => hU gl q (.inr rfl), h.2.2⟩
theorem tells_snoc (ep : Nat) : ∀ (nx : Nat) (ps : List (List Int)) (p : List Int), tells ep nx (ps ++ [p]) = tells ep nx ps ++ [⟨true, size p.length, nx + ps.length, ep, p⟩]
  | nx, [], p => by simp [tells]
  | nx, q :: r, p => by
    show _ :: tells ep (nx + 1) (r ++ [p]) = _ :: tells ep (nx + 1) r ++ _
    rw [tells_snoc ep (nx + 1) r p]
    simp only [List.length_cons, List.cons_append]
    rw [show nx + 1 + r.length = nx + (r.length + 1) by omega]
/-- So many bytes as are asked. -/
theorem payload_nat (x c : Int) (w : World) {m : Nat} (hm : payN x = m) :
    Calls Try.prog 14 #[.int .i64 x, .int .u8 c] w fun e w' => ∃ g, e = .returned (.slice (some ⟨g, 0, none⟩) m m) ∧ Reads .u8 w' (some ⟨g, 0, none⟩) m (pay x c) ∧ (w.heap.size ≤ g ∧ g < w'.heap.size) ∧ Below w.heap.size w w' := by
  have h := payload_any x c w
  rw [pay_len, hm] at h
  exact h
/-- A record's row, one more. -/
theorem at_push {o : Oper} {a : Act} {W : World} {ops : Array Oper} {rest : List Oper} {Q : Exit → Act → World → Prop} (hgd : o.guard = none) (x y : Operand) (ho : o.op = .call { callee := .builtin .append, args := #[x, y], argTypes := #[30, 30] })
    {w0 : World} {B : Nat} {T : Nat → Prop} (p8 : Option Addr) (c8 L : Nat) (rs : List Rv) (hM : Made w0 B T (.slice p8 L c8) rs) (hL : rs.length = L) (hl : L ≤ 1000) (hx : a.eval x = .slice p8 L c8) (r : Rv) (s e m : Nat) (h1 : r.g.s = s) (h2 : r.g.e = e) (h3 : r.g.p.length = m) (hW : W = w0.alloc (.cells #[.int .u64 (s : Int), .int .u32 (e : Int), .slice r.q m r.d] 75)) (hy : a.eval y = .slice (some ⟨w0.heap.size, 0, none⟩) 1 1)
    (hB : B ≤ w0.heap.size) (k1 : Reads .u8 w0 r.q r.d r.g.p) (k2 : ∀ c ∈ r.g.p, Byte c) (k3 : ∀ a, r.q = some a → B ≤ a.block ∧ (∀ k, (T k ∨ ownOf (.slice p8 L c8) k) → k ≠ a.block)) (k4 : r.g.p.length ≤ 700) (hT : ∀ k, T k → k < w0.heap.size)
    (h : ∀ p' c' w', Made w' B T (.slice p' (L + 1) c') (rs ++ [r]) → Fr (ownOf (.slice p8 L c8)) w0 w' → Below B w0 w' → wpList Try.prog ops Q rest (a.put o.dst (.slice p' (L + 1) c')) w') : wpList Try.prog ops Q (o :: rest) a W := by
  subst hW h1 h2 h3 hL
  have hb := bnew w0 (.cells #[.int .u64 (r.g.s : Int), .int .u32 (r.g.e : Int), .slice r.q r.g.p.length r.d] 75)
  refine at_append_rec hgd x y ho B _ rs.length rs hx (hM.below hb).1.1 _ 1 1 [r] hy rfl (lit_rk rfl) (by omega) (by simp; omega) fun v' w' ho' hg' hl' => ?_
  have hz : Pays (ownOf (.slice p8 rs.length c8)) w0 [r] := (Pays.nil _ _).snoc (rs := []) k1 k2 (fun _ a ha q => (k3 a ha).2 _ (.inr q) rfl) k4
  have hz2 : Pays T w0 [r] := (Pays.nil _ _).snoc (rs := []) k1 k2 (fun _ a ha q => (k3 a ha).2 _ (.inl q) rfl) k4
  have hR := (hM.1.below hb).more (Below.refl _ _) (hz.below hb) (fun x hx a ha => by rw [List.mem_singleton] at hx; subst hx; exact (k3 a ha).1) rfl ho' hg' hl'
  obtain ⟨p', c', rfl, -, -⟩ := own_rk rc_len (by decide) hR.1
  rw [List.length_append, List.length_singleton] at hR ho' hl' ⊢
  refine h p' c' w' ⟨hR, fun x hx => ⟨(hR.2.1 x hx).1, (hR.2.1 x hx).2.1, ((hM.2.1.app hz2) x hx).2.2.1, (hR.2.1 x hx).2.2.2⟩, fun k hk q => ?_⟩ ((Fr.of_below hb _).trans (Fr.of_grown hg' fun k hk => hk) fun _ h => .inl h) ?_
  · rcases hl' k hk with q2 | q2
    · exact hM.2.2 k q2 q
    · have := hT k q
      have := hb.size
      omega
  · exact ((bnew w0 _).mono hB).grown hg' (by simp; omega) fun k hk => (hM.1.lt k hk).1
theorem step_set {S0 S7 : Nat → Prop} {gl : Nat} {W : World} (h : ∀ k, S7 k → S0 k ∨ W.heap.size ≤ k) : ∀ k, (S7 k ∨ k = gl) → (S0 k ∨ k = gl) ∨ W.heap.size ≤ k := fun k hk => by
  rcases hk with hk | hk
  · rcases h k hk with q | q
    · exact .inl (.inl q)
    · exact .inr q
  · exact .inl (.inr hk)
theorem apart_set {S0 S7 O : Nat → Prop} {gl b g6 : Nat} {W : World} (h : ∀ k, S7 k → S0 k ∨ W.heap.size ≤ k) (hm : ∀ k, (S0 k ∨ k = gl) → k < b) (ho : ∀ k, O k → k < b) (hb : b ≤ g6) (hg : g6 < W.heap.size) : ∀ k, ((S7 k ∨ k = gl) ∨ O k) → k ≠ g6 := fun k hk => by
  rcases hk with (hk | hk) | hk
  · rcases h k hk with q | q
    · have := hm k (.inl q); omega
    · omega
  · have := hm k (.inr hk); omega
  · have := ho k hk; omega
theorem Made.rk {w : World} {B L c : Nat} {T : Nat → Prop} {p : Option Addr} {rs : List Rv} (h : Made w B T (.slice p L c) rs) : RK rc w p c rs := by
  obtain ⟨p', c', e, hk, -⟩ := own_rk rc_len (by decide) h.1.1
  simp only [Value.slice.injEq] at e
  obtain ⟨rfl, -, rfl⟩ := e
  exact hk
/-- Records that are told alike are the same. -/
theorem made_same {w : World} {B B' L L' c c' : Nat} {T T' : Nat → Prop} {p p' : Option Addr} {rs zs : List Rv} (h : Made w B T (.slice p L c) rs) (h' : Made w B' T' (.slice p' L' c') zs) (hl : rs.length = L) (hl' : zs.length = L') (h1 : L ≤ 10000) (h2 : L' ≤ 10000) (he : rs.map (·.g) = zs.map (·.g)) :
    Calls Try.prog 26 #[.slice p L c, .slice p' L' c'] w fun x w' => x = .returned (.bool true) ∧ Below w.heap.size w w' := by
  have hs := ref_SameRecords p L c rs hl p' L' c' zs hl' h1 h2 w h.rk h'.rk h.2.1 h'.2.1
  have e : rs.map key = zs.map key := by
    have := congrArg (List.map fun g : Got => (g.s, g.e, g.p)) he
    rw [List.map_map, List.map_map] at this
    exact this
  rw [decide_eq_true e] at hs
  exact hs
end Go.Proofs.Ythgafnommcodcaa.Wal
namespace Go.Proofs.Ythgafnommcodcaa.Wal
open Go.RowKit Go.Proofs.Ythgafnommcodcaa.Mem Go.Proofs.Ythgafnommcodcaa.Sect Go.Proofs.Ythgafnommcodcaa.Frame Go.Proofs.Ythgafnommcodcaa.Disk Go.Proofs.Ythgafnommcodcaa.Area
set_option maxRecDepth 100000

theorem chk_zero {n k s : Nat} (ht : there (n : Int) (k : Int) = true) (h0 : s ≠ 0) : chk (n : Int) (k : Int) s = 0 := by unfold chk; rw [if_pos ht, if_neg h0]
theorem fresh_len (n : Nat) : (fresh n).st.length = n := by simp [fresh]
theorem clamp_nat {n : Nat} (h : n ≤ 512) : clamp (n : Int) = n := by unfold clamp; omega
theorem payN_nat {m : Nat} (h : m ≤ 800) : payN (m : Int) = m := by unfold payN; omega
theorem getD_mem {xs : List Int} {k : Nat} (h : k < xs.length) : xs.getD k 0 ∈ xs := by
  have e : xs.getD k 0 = xs[k] := by simp [List.getD, h]
  rw [e]
  exact List.getElem_mem h
theorem toJT {j t z : Nat} (ht : t ≤ 16) : 16 * j + t + z ≤ 16 * toJ j t z + (toT t z + z) := by unfold toJ toT; split <;> omega
set_option maxHeartbeats 2000000 in
theorem room_main (N n c : Nat) (q : Option Addr) (xs : List Int) (hN1 : 64 ≤ N) (hN2 : N ≤ 140) (hl : xs.length = n) (hn : n ≤ 80) (w : World) (r : Reads .i64 w q c xs) (hx : ∀ x ∈ xs, Inty x) :
    Calls Try.prog 6 #[.int .i64 (N : Int), .slice q n c] w fun e w' => e = .returned (.bool true) ∧ Below w.heap.size w w' := by
  have hal := alive_any w
  have hnew := fun w => new_any (N : Int) w
  rw [clamp_nat (by omega)] at hnew
  obtain ⟨S, hS⟩ : ∃ S, S = segsN N := ⟨_, rfl⟩
  have hSb : 2 ≤ S ∧ S ≤ 6 := by unfold segsN at hS; omega
  have hcan : Can N S 1 0 0 := ⟨by omega, by omega, hS, by omega, by omega, by omega⟩
  have hst : ∀ {B S0 W g}, Dk B S0 W g (fresh N) → Calls Try.prog 9 #[.pointer (some ⟨g, 0, none⟩), .int .u32 1, .int .u64 1, .int .i64 1] W fun e w' => ∃ gl, e = .returned (.tuple #[.pointer (some ⟨gl, 0, none⟩), .int .i64 0]) ∧ W.heap.size ≤ gl ∧ Blk w' gl 86 (lgc g 1 1 1 1 0) ∧ Below W.heap.size W w' := fun h => wal_Start h 1 1 1 (by rw [fresh_len]; exact chk_zero hcan.begin (by omega))
  have hsc := fun {B S0 W g d} (hD : Dk B S0 W g d) (hok : d.ok) (hby : Byt d) (hn : d.st.length = N) => wal_Scan hD hok hby 1 1 1 (by omega) (by omega) (by rw [hn]; exact chk_zero hcan.begin (by omega)) (S := S) (by rw [hn]; exact hS)
  have hb1 : decide ((N : Int) < 64) = false := by simp; omega
  have hb2 : decide (140 < (N : Int)) = false := by simp; omega
  have hb3 : decide (80 < (n : Int)) = false := by simp; omega
  go_enter Try.func6, Try.ntmps6
  go_wp2_with (first
    | ((with_reducible refine hal.mono ?_); rintro e w1 ⟨rfl, hB1⟩)
    | ((with_reducible refine (hnew _).mono ?_); rintro e w2 ⟨g, S0, rfl, hD0, hB2⟩; replace hD0 := hD0.lower hB1.size)
    | ((with_reducible refine (hst hD0).mono ?_); rintro e w3 ⟨gl, rfl, hgl, hY3, hB3⟩; have hL3 := lg_begin hD0 hB3 hgl hY3 hcan; have hB123 := bnext (bnext hB1 hB2) hB3))
  have hM3 := made_nil w3 (fun k => S0 k ∨ k = gl) (fun k hk => (hL3.lts k hk).2)
  have hL4 := hL3.below (bnew w3 (.cells #[] 75))
  have hB4 := bnext hB123 (bnew w3 (.cells #[] 75))
  have hM4 := hM3.lower hB123.size
  clear hal hst hnew hgl hY3 hD0 hM3 hL3
  go_loopw [8, 44] (fun v8 i wr => ∃ (k : Nat) (d : Dsk) (S' : Nat → Prop) (j t : Nat) (ps : List (List Int)) (rs : List Rv) (p8 : Option Addr) (c8 : Nat), k ≤ n ∧ v8 = .slice p8 rs.length c8 ∧ i = .int .i64 k ∧ Lg w.heap.size S' wr g gl N S 1 1 1 d j t ps 0 ∧ Fine d ∧ Made wr w.heap.size (fun k => S' k ∨ k = gl) (.slice p8 rs.length c8) rs ∧ Hid (rs.map (·.g) = tells 1 1 ps) ∧ Hid (d.pe.length ≤ 16 * j + t) ∧ Below w.heap.size w wr) (fun _ i _ => n - (intOf i).toNat)
  case atStart => exact ⟨0, fresh N, S0, 0, 0, [], [], some ⟨w3.heap.size, 0, none⟩, 0, by omega, rfl, rfl, hL4, fine_fresh N, hM4, rfl, by unfold Hid; simp [fresh], hB4⟩
  case round =>
    obtain ⟨k, d, S', j, t, ps, rs, p8, c8, hk, rfl, rfl, hL, hf, hM, hg, hpe, hB⟩ := hrel
    have hcnt := (kept_count hL.2.2.2.2.1).1
    have hjt := hL.2.2.2.2.2.2.2.2.2.2
    have hpe2 := hpe.out
    have hrl : rs.length ≤ 96 := by
      have := congrArg List.length hg.out
      rw [List.length_map, tells_len] at this
      omega
    by_cases hlt : k < n
    · have hlt2 : decide ((k : Int) < (n : Int)) = true := by simp; omega
      obtain ⟨b, o, rfl, hbl, hc⟩ := (r.below hB).2.2.2 (by omega)
      have hck := hc k (by omega)
      have hxk : Inty (xs.getD k 0) := hx _ (getD_mem (by omega))
      generalize xs.getD k 0 = y at hck hxk
      clear hc
      rcases (show y < 0 ∨ 700 < y ∨ (0 ≤ y ∧ y ≤ 700) by omega) with h1 | h1 | ⟨h1, h2⟩
      · have hd1 : decide (y < 0) = true := decide_eq_true h1
        go_wp2
        exact ⟨⟨k + 1, d, S', j, t, ps, rs, p8, c8, by omega, rfl, by go_num, hL, hf, hM, hg, hpe, hB⟩, by simp [intOf]; omega⟩
      · have hd1 : decide (y < 0) = false := decide_eq_false (by omega)
        have hd2 : decide (700 < y) = true := decide_eq_true h1
        go_wp2
        exact ⟨⟨k + 1, d, S', j, t, ps, rs, p8, c8, by omega, rfl, by go_num, hL, hf, hM, hg, hpe, hB⟩, by simp [intOf]; omega⟩
      · obtain ⟨m, rfl⟩ : ∃ m : Nat, y = (m : Int) := ⟨y.toNat, by omega⟩
        have hd1 : decide ((m : Int) < 0) = false := decide_eq_false (by omega)
        have hd2 : decide (700 < (m : Int)) = false := decide_eq_false (by omega)
        have hm7 : m ≤ 700 := by omega
        have hz := size_fits hm7
        have hpy := fun W => payload_nat (m : Int) (k : Int) W (payN_nat (m := m) (by omega))
        have hleft := wal_Left hL.1 hL.2.1 hL.can
        have hLz : 0 ≤ leftI S j t ∧ leftI S j t ≤ 100 := by have := hL.2.2.2.2.1.2.2.1; unfold leftI; omega
        have hd3 : ((m : Int) + 81) / 64 = (size m : Int) := by unfold size; rw [if_pos hm7]; omega
        have hd4 : Int.tdiv ((m : Int) + 81) 64 = (size m : Int) := by rw [← hd3]; exact Int.tdiv_eq_ediv_of_nonneg (by omega)
        obtain ⟨NX, hNX⟩ : ∃ NX, 1 + ps.length = NX := ⟨_, rfl⟩
        have hap1 := fun {W : World} (hW : Below wr.heap.size wr W) (g6 : Nat) (r6 : Reads .u8 W (some ⟨g6, 0, none⟩) m (pay (m : Int) (k : Int))) (hr : room S j t (1 + ps.length) (size m) = true) => lg_append_yes (hL.below hW) hf (some ⟨g6, 0, none⟩) m m (pay (m : Int) (k : Int)) ((pay_len _ _).trans (payN_nat (by omega))) (pay_bytes _ _) r6 hr (by omega) (by omega) (by omega)
        have hap0 := fun {W : World} (hW : Below wr.heap.size wr W) (g6 : Nat) (hr : room S j t (1 + ps.length) (size m) = false) => lg_append_no (hL.below hW) (some ⟨g6, 0, none⟩) m m hr
        rw [if_neg (show ¬ size m = 0 by omega)] at hap0
        have hrm := fun {W : World} (hW : Below wr.heap.size wr W) => wal_Room (hL.below hW).1 (hL.below hW).2.1 (hL.below hW).can (m : Int)
        rw [sizeN_nat] at hrm
        have htell := tells_snoc 1 1 ps (pay (m : Int) (k : Int))
        have hpl : (pay (m : Int) (k : Int)).length = m := (pay_len _ _).trans (payN_nat (by omega))
        rw [hpl] at htell
        rw [hNX] at hrm hap1 hap0 htell
        have hjts := toJT (j := j) (z := size m) hjt.2
        have hroomz : room S j t NX (size m) = true → (size m : Int) ≤ leftI S j t := fun hr => by
          obtain ⟨_, _, hfr⟩ := room_parts hr
          have := to_place hfr
          unfold leftI
          omega
        have hroomn : room S j t NX (size m) = false → leftI S j t < 27 := fun hr => by
          have := hL.2.2.2.2.1.2.2.1
          unfold leftI
          rcases Nat.lt_or_ge (j + 1) S with h | h
          · exfalso
            unfold room free at hr
            rw [decide_eq_true h, Bool.or_true, Bool.and_true, decide_eq_true (show 0 < size m by omega), decide_eq_true (show NX ≠ 0 by omega)] at hr
            cases hr
          · omega
        cases hr : room S j t NX (size m) with
        | true =>
          have hzl := hroomz hr
          have hap := fun {W : World} (hW : Below wr.heap.size wr W) (g6 : Nat) r6 => hap1 hW g6 r6 hr
          rw [hr] at hrm
          have hd5 : decide (leftI S j t < (size m : Int)) = false := by simp; omega
          have hwm : IntKind.i64.wrap ((m : Int) + 81) = (m : Int) + 81 := wrap_int ⟨by omega, by omega⟩
          obtain ⟨b27, hb27⟩ : ∃ b, decide (27 ≤ leftI S j t) = b := ⟨_, rfl⟩
          generalize leftI S j t = LL at *
          generalize hJJ : toJ j t (size m) = j' at *
          generalize hTT : toT t (size m) = t' at *
          generalize hZZ : size m = z at *
          have hmt : ∀ k, (S' k ∨ k = gl) → k < wr.heap.size := fun k hk => (hL.lts k hk).2
          clear hroomz hroomn hap1 hap0 hr
          cases b27
          all_goals
            go_wp2_with (first
              | ((with_reducible refine hleft.mono ?_); rintro e w4 ⟨rfl, hB4⟩)
              | ((with_reducible refine (hrm hB4).mono ?_); rintro e w5 ⟨rfl, hB5⟩; have hB45 := bnext hB4 hB5)
              | ((with_reducible refine (hpy _).mono ?_); rintro e w6 ⟨g6, rfl, r6, hg6, hB6⟩; have hB456 := bnext hB45 hB6)
              | ((with_reducible refine (hap hB456 g6 r6).mono ?_); rintro e w7 ⟨rfl, d7, hp7, S7, hL7, hf7, hF7, hS7⟩; have hM7 := (hM.below hB456).step (T' := fun k => S7 k ∨ k = gl) hF7 (step_set hS7); have r7 := reads_fr r6 (off_fresh (b := wr.heap.size) (fun a ha => by obtain rfl := (Option.some.inj ha); exact Nat.le_trans hB45.size hg6.1) hmt) hF7; have hk7 := apart_set (g6 := g6) hS7 hmt (fun k hk => (hM.1.lt k hk).2) (Nat.le_trans hB45.size hg6.1) hg6.2; have hs7 := hF7.size; have hB7 := bfr (bnext hB hB456) hF7 (fun k hk => (hL.lts k hk).1))
              | (at_builtin; refine at_push rfl _ _ rfl p8 c8 rs.length rs hM7 rfl (by omega) rfl ⟨⟨true, z, NX, 1, pay (m : Int) (k : Int)⟩, some ⟨g6, 0, none⟩, m⟩ NX 1 m rfl rfl hpl rfl rfl (by have := hB.size; have := hB456.size; omega) r7 (pay_bytes _ _) (fun a ha => by obtain rfl := (Option.some.inj ha); exact ⟨by have := hB.size; have := hB45.size; have := hg6.1; simp only; omega, hk7⟩) (by simp only [hpl]; exact hm7) (fun k hk => (hL7.lts k hk).2) ?_; intro p9 c9 w9 hM9 hF9 hB9))
            have e9 : (rs ++ [(⟨⟨true, z, NX, 1, pay (m : Int) (k : Int)⟩, some ⟨g6, 0, none⟩, m⟩ : Rv)]).length = rs.length + 1 := by simp
            refine ⟨⟨k + 1, d7, S7, j', t' + z, ps ++ [pay (m : Int) (k : Int)], rs ++ [⟨⟨true, z, NX, 1, pay (m : Int) (k : Int)⟩, some ⟨g6, 0, none⟩, m⟩], p9, c9, by omega, by rw [e9], by go_num, hL7.fr hF9 (fun k hk q => hM7.2.2 k hk q), hf7, by rw [e9]; exact hM9, ?_, by unfold Hid; omega, hB7.trans hB9⟩, by simp [intOf]; omega⟩
            unfold Hid
            rw [List.map_append, hg.out, htell]
            rfl
        | false =>
          have hln := hroomn hr
          have hap := fun {W : World} (hW : Below wr.heap.size wr W) (g6 : Nat) => hap0 hW g6 hr
          rw [hr] at hrm
          have hb27 : decide (27 ≤ leftI S j t) = false := decide_eq_false (by omega)
          generalize leftI S j t = LL at *
          generalize hJJ : toJ j t (size m) = j' at *
          generalize hTT : toT t (size m) = t' at *
          clear hroomz hroomn hap1 hap0 hr
          go_wp2_with (first
            | ((with_reducible refine hleft.mono ?_); rintro e w4 ⟨rfl, hB4⟩)
            | ((with_reducible refine (hrm hB4).mono ?_); rintro e w5 ⟨rfl, hB5⟩; have hB45 := bnext hB4 hB5)
            | ((with_reducible refine (hpy _).mono ?_); rintro e w6 ⟨g6, rfl, r6, hg6, hB6⟩; have hB456 := bnext hB45 hB6)
            | ((with_reducible refine (hap hB456 g6).mono ?_); rintro e w7 ⟨rfl, hB7⟩; have hB8 := bnext hB456 hB7))
          exact ⟨⟨k + 1, d, S', j, t, ps, rs, p8, c8, by omega, rfl, by go_num, hL.below hB8, hf, hM.below hB8, hg, hpe, bnext hB hB8⟩, by simp [intOf]; omega⟩
    · obtain rfl : k = n := by omega
      have hsc1 := hsc hL.1 hL.ok hL.2.2.2.2.2.1 hL.len
      rw [pscan_kept hL.2.2.2.2.1 (by omega) (by omega) (by omega), ← hg.out] at hsc1
      replace hsc1 : Calls Try.prog 10 #[.pointer (some ⟨g, 0, none⟩), .int .u32 1, .int .u64 1, .int .i64 1] wr fun e w' => Found wr w' e (rs.map (·.g)) (segOf S 1 j) := hsc1
      have hsy := fun {W : World} (hW : Below wr.heap.size wr W) => lg_sync (hL.below hW) (fine_no hf)
      have hlt9 := fun k hk => (hL.lts k (.inl hk)).2
      go_wp2_with (first
        | ((with_reducible refine hsc1.mono ?_); rintro e w6 ⟨v6, rs6, rfl, hR6, hm6, hB6⟩; have hM6 := (made_rows hR6 hlt9); obtain ⟨p6, c6, rfl, hk6, -⟩ := own_rk rc_len (by decide) hR6.1)
        | ((with_reducible refine (hsy hB6).mono ?_); rintro e w7 ⟨rfl, S7, hL7, hF7, hS7⟩; have hM7 := (hM.below hB6).fr (Fr.mono hF7 fun _ hk => .inl hk); have hM67 := hM6.fr hF7; have hsm := made_same hM67 hM7 rfl rfl (by have := congrArg List.length hm6; simp only [List.length_map] at this; omega) (by omega) hm6)
        | ((with_reducible refine hsm.mono ?_); rintro e w8 ⟨rfl, hB8⟩))
      go_ret
      exact ⟨rfl, (bfr (bnext hB hB6) hF7 (fun k hk => (hL.lts k (.inl hk)).1)).trans (hB8.mono (by have := (bfr (bnext hB hB6) hF7 (fun k hk => (hL.lts k (.inl hk)).1)).size; omega))⟩
theorem room_any (x : Int) (q : Option Addr) (n c : Nat) (xs : List Int) (hl : xs.length = n) (w : World) (r : Reads .i64 w q c xs) (hx : ∀ x ∈ xs, Inty x) :
    Calls Try.prog 6 #[.int .i64 x, .slice q n c] w fun e w' => e = .returned (.bool true) ∧ Below w.heap.size w w' := by
  have hal := alive_any w
  rcases (show x < 64 ∨ (¬ x < 64 ∧ 140 < x) ∨ (¬ x < 64 ∧ ¬ 140 < x ∧ 80 < n) ∨ (64 ≤ x ∧ x ≤ 140 ∧ n ≤ 80) by omega) with h1 | ⟨h1, h2⟩ | ⟨h1, h2, h3⟩ | ⟨h1, h2, h3⟩
  · have hb1 : decide (x < 64) = true := decide_eq_true h1
    go_enter Try.func6, Try.ntmps6
    go_wp2_with (first
      | ((with_reducible refine hal.mono ?_); rintro e w1 ⟨rfl, hB1⟩))
    go_ret
    exact ⟨rfl, hB1⟩
  · have hb1 : decide (x < 64) = false := decide_eq_false h1
    have hb2 : decide (140 < x) = true := decide_eq_true h2
    go_enter Try.func6, Try.ntmps6
    go_wp2_with (first
      | ((with_reducible refine hal.mono ?_); rintro e w1 ⟨rfl, hB1⟩))
    go_ret
    exact ⟨rfl, hB1⟩
  · have hb1 : decide (x < 64) = false := decide_eq_false h1
    have hb2 : decide (140 < x) = false := decide_eq_false h2
    have hb3 : decide (80 < (n : Int)) = true := decide_eq_true (by omega)
    go_enter Try.func6, Try.ntmps6
    go_wp2_with (first
      | ((with_reducible refine hal.mono ?_); rintro e w1 ⟨rfl, hB1⟩))
    go_ret
    exact ⟨rfl, hB1⟩
  · obtain ⟨N, rfl⟩ : ∃ N : Nat, x = (N : Int) := ⟨x.toNat, by omega⟩
    exact room_main N n c q xs (by omega) (by omega) hl h3 w r hx
end Go.Proofs.Ythgafnommcodcaa.Wal
