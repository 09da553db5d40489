/-
  Routes as a list in order: what is set, deleted and found in it. Whole numbers and lists alone; nothing of a program is named here.
-/
import Derived.Test.YtdpigcfchjpofaaAddrPlain
import Derived.Test.YtdpigcfchjpofaaKinds
namespace Go.Proofs.Ytdpigcfchjpofaa.Route
open Go.Proofs.Ytdpigcfchjpofaa.Addr

/-- A network: its address's number and its bits. A route: that, and whose it is. -/
abbrev Nt := Nat × Int
abbrev Rt := Nat × Int × Int
def kof (r : Rt) : Nt := (r.1, r.2.1)
def ltK (x y : Nt) : Bool := decide (x.1 < y.1) || (decide (x.1 = y.1) && decide (x.2 < y.2))
def NOk (k : Nt) : Prop := k.1 < 4294967296 ∧ Inty k.2
def ROk (r : Rt) : Prop := NOk (kof r) ∧ Inty r.2.2
/-- In order, no two of one network. -/
def Sorted (M : List Rt) : Prop := M.Pairwise fun x y => ltK (kof x) (kof y) = true
def Good (M : List Rt) : Prop := Sorted M ∧ ∀ r ∈ M, ROk r

theorem lt_irrefl (x : Nt) : ltK x x = false := by simp [ltK]
theorem lt_ne {x y : Nt} (h : ltK x y = true) : x ≠ y := fun e => by rw [e, lt_irrefl] at h; cases h
theorem lt_iff {x y : Nt} : ltK x y = true ↔ x.1 < y.1 ∨ (x.1 = y.1 ∧ x.2 < y.2) := by simp [ltK]
theorem lt_trans {x y z : Nt} (h1 : ltK x y = true) (h2 : ltK y z = true) : ltK x z = true := by
  rw [lt_iff] at *; omega
theorem lt_total {x y : Nt} (h : x ≠ y) : ltK x y = true ∨ ltK y x = true := by
  rw [lt_iff, lt_iff]
  obtain ⟨a, b⟩ := x
  obtain ⟨c, d⟩ := y
  simp only [ne_eq, Prod.mk.injEq, not_and] at h ⊢
  by_cases h1 : a = c
  · have := h h1; omega
  · omega
theorem lt_asymm {x y : Nt} (h1 : ltK x y = true) : ltK y x = false := by
  cases h2 : ltK y x
  · rfl
  · have := lt_trans h1 h2; rw [lt_irrefl] at this; cases this
theorem kof_inj {x y : Rt} (h : kof x = kof y) (hw : x.2.2 = y.2.2) : x = y := by
  obtain ⟨a, b, c⟩ := x
  obtain ⟨d, e, f⟩ := y
  simp only [kof, Prod.mk.injEq] at h
  simp_all

/-- One network has one route. -/
theorem sorted_inj : ∀ {M : List Rt}, Sorted M → ∀ {x y : Rt}, x ∈ M → y ∈ M → kof x = kof y → x = y
  | [], _, _, _, h, _, _ => by simp at h
  | a :: r, hp, x, y, hx, hy, h => by
    obtain ⟨h1, h2⟩ := List.pairwise_cons.1 hp
    rcases List.mem_cons.1 hx with ex | hx
    · rcases List.mem_cons.1 hy with ey | hy
      · rw [ex, ey]
      · have := lt_ne (h1 y hy); rw [← ex] at this; exact absurd h this
    · rcases List.mem_cons.1 hy with ey | hy
      · have := lt_ne (h1 x hx); rw [← ey] at this; exact absurd h.symm this
      · exact sorted_inj h2 hx hy h
theorem sorted_nodup {M : List Rt} (h : Sorted M) : M.Nodup := List.Pairwise.imp (S := fun a b => a ≠ b) (fun {_ _} hab e => lt_ne hab (congrArg kof e)) h
/-- Two lists in order with the same members are one. -/
theorem sorted_eq : ∀ {l m : List Rt}, Sorted l → Sorted m → (∀ x, x ∈ l ↔ x ∈ m) → l = m
  | [], [], _, _, _ => rfl
  | [], b :: s, _, _, h => by have := (h b).2 (by simp); simp at this
  | a :: r, [], _, _, h => by have := (h a).1 (by simp); simp at this
  | a :: r, b :: s, h1, h2, h => by
    obtain ⟨a1, a2⟩ := List.pairwise_cons.1 h1
    obtain ⟨b1, b2⟩ := List.pairwise_cons.1 h2
    have hab : a = b := by
      rcases List.mem_cons.1 ((h a).1 (by simp)) with e | ha
      · exact e
      · rcases List.mem_cons.1 ((h b).2 (by simp)) with e | hb
        · exact e.symm
        · have := lt_asymm (a1 b hb)
          rw [b1 a ha] at this
          cases this
    subst hab
    rw [sorted_eq a2 b2 fun x => ⟨fun hx => by
      rcases List.mem_cons.1 ((h x).1 (by simp [hx])) with e | hx'
      · exact absurd (congrArg kof e).symm (lt_ne (a1 x hx))
      · exact hx', fun hx => by
      rcases List.mem_cons.1 ((h x).2 (by simp [hx])) with e | hx'
      · exact absurd (congrArg kof e).symm (lt_ne (b1 x hx))
      · exact hx'⟩]

/-! ### Delete, Set -/
def hasM (M : List Rt) (k : Nt) : Bool := M.any fun x => decide (kof x = k)
def delM (M : List Rt) (k : Nt) : List Rt := M.filter fun x => !decide (kof x = k)
def insM (M : List Rt) (r : Rt) : List Rt :=
  (delM M (kof r)).takeWhile (fun x => ltK (kof x) (kof r)) ++ r :: (delM M (kof r)).dropWhile (fun x => ltK (kof x) (kof r))
def setOk (M : List Rt) (r : Rt) : Bool := rightN r.1 r.2.1 && decide (0 ≤ r.2.2) && (hasM M (kof r) || decide (M.length < 64))
def setM (M : List Rt) (r : Rt) : List Rt := if setOk M r = true then insM M r else M
def setE (M : List Rt) (r : Rt) : Int := if setOk M r = true then 0 else 61

theorem has_iff {M : List Rt} {k : Nt} : hasM M k = true ↔ ∃ x ∈ M, kof x = k := by simp [hasM]
theorem mem_del {M : List Rt} {k : Nt} {x : Rt} : x ∈ delM M k ↔ x ∈ M ∧ kof x ≠ k := by simp [delM]
theorem mem_ins {M : List Rt} {r x : Rt} : x ∈ insM M r ↔ x = r ∨ (x ∈ M ∧ kof x ≠ kof r) := by
  have h := mem_del (M := M) (k := kof r) (x := x)
  rw [← h]
  unfold insM
  rw [List.mem_append, List.mem_cons]
  have h2 : x ∈ delM M (kof r) ↔ x ∈ (delM M (kof r)).takeWhile (fun x => ltK (kof x) (kof r)) ∨ x ∈ (delM M (kof r)).dropWhile (fun x => ltK (kof x) (kof r)) := by
    rw [← List.mem_append, List.takeWhile_append_dropWhile]
  rw [h2]
  constructor
  · rintro (h | h | h)
    · exact .inr (.inl h)
    · exact .inl h
    · exact .inr (.inr h)
  · rintro (h | h | h)
    · exact .inr (.inl h)
    · exact .inl h
    · exact .inr (.inr h)
theorem sorted_del {M : List Rt} (h : Sorted M) (k : Nt) : Sorted (delM M k) := h.filter _
theorem take_lt {p : Rt → Bool} : ∀ {l : List Rt} {x : Rt}, x ∈ l.takeWhile p → p x = true
  | [], _, h => by simp at h
  | a :: r, x, h => by
    cases ha : p a
    · simp [ha] at h
    · simp only [List.takeWhile_cons, ha, if_true, List.mem_cons] at h
      rcases h with rfl | h
      · exact ha
      · exact take_lt h
theorem drop_ge {k : Nt} : ∀ {l : List Rt}, Sorted l → ∀ {x : Rt}, x ∈ l.dropWhile (fun y => ltK (kof y) k) → ltK (kof x) k = false
  | [], _, _, h => by simp at h
  | a :: r, hs, x, h => by
    obtain ⟨h1, h2⟩ := List.pairwise_cons.1 hs
    cases ha : ltK (kof a) k
    · simp only [List.dropWhile_cons, ha, Bool.false_eq_true, if_false, List.mem_cons] at h
      rcases h with rfl | h
      · exact ha
      · cases hx : ltK (kof x) k
        · rfl
        · have := lt_trans (h1 x h) hx; rw [ha] at this; cases this
    · simp only [List.dropWhile_cons, ha, if_true] at h
      exact drop_ge h2 h
theorem sorted_ins {M : List Rt} (h : Sorted M) (r : Rt) : Sorted (insM M r) := by
  have hd := sorted_del h (kof r)
  unfold insM Sorted
  have hsub : ((delM M (kof r)).takeWhile (fun x => ltK (kof x) (kof r)) ++ (delM M (kof r)).dropWhile (fun x => ltK (kof x) (kof r))).Pairwise fun x y => ltK (kof x) (kof y) = true := by
    rw [List.takeWhile_append_dropWhile]; exact hd
  obtain ⟨p1, p2, p3⟩ := List.pairwise_append.1 hsub
  refine List.pairwise_append.2 ⟨p1, List.pairwise_cons.2 ⟨fun y hy => ?_, p2⟩, fun x hx y hy => ?_⟩
  · have h1 := drop_ge hd hy
    have h2 : kof y ≠ kof r := (mem_del.1 (List.dropWhile_sublist _ |>.mem hy)).2
    rcases lt_total h2 with h3 | h3
    · rw [h1] at h3; cases h3
    · exact h3
  · rcases List.mem_cons.1 hy with rfl | hy
    · exact take_lt (p := fun x => ltK (kof x) (kof y)) hx
    · exact p3 x hx y hy
theorem good_del {M : List Rt} (h : Good M) (k : Nt) : Good (delM M k) := ⟨sorted_del h.1 k, fun r hr => h.2 r (mem_del.1 hr).1⟩
theorem good_ins {M : List Rt} (h : Good M) {r : Rt} (hr : ROk r) : Good (insM M r) :=
  ⟨sorted_ins h.1 r, fun x hx => by
    rcases mem_ins.1 hx with rfl | hx
    · exact hr
    · exact h.2 x hx.1⟩
theorem good_nil : Good [] := ⟨List.Pairwise.nil, by simp⟩
theorem good_set {M : List Rt} (h : Good M) {r : Rt} (hr : ROk r) : Good (setM M r) := by
  unfold setM; split
  · exact good_ins h hr
  · exact h
theorem del_none {M : List Rt} {k : Nt} (h : hasM M k = false) : delM M k = M := by
  unfold delM
  refine List.filter_eq_self.2 fun x hx => ?_
  simp only [hasM, List.any_eq_false, decide_eq_true_eq] at h
  simp [h x hx]
theorem len_del : ∀ {M : List Rt}, Sorted M → ∀ {k : Nt}, hasM M k = true → (delM M k).length + 1 = M.length
  | [], _, _, h => by simp [hasM] at h
  | a :: r, hs, k, h => by
    obtain ⟨h1, h2⟩ := List.pairwise_cons.1 hs
    by_cases ha : kof a = k
    · have hn : hasM r k = false := by
        simp only [hasM, List.any_eq_false, decide_eq_true_eq]
        intro x hx e
        exact lt_ne (h1 x hx) (by rw [ha, e])
      have := del_none hn
      unfold delM at this ⊢
      simp [ha, this]
    · have hr : hasM r k = true := by simpa [hasM, ha] using h
      have := len_del h2 hr
      unfold delM at this ⊢
      simp [ha, this]
theorem len_ins_del (M : List Rt) (r : Rt) : (insM M r).length = (delM M (kof r)).length + 1 := by
  have : (delM M (kof r)).length = ((delM M (kof r)).takeWhile (fun x => ltK (kof x) (kof r)) ++ (delM M (kof r)).dropWhile (fun x => ltK (kof x) (kof r))).length := by rw [List.takeWhile_append_dropWhile]
  rw [this]
  unfold insM
  simp only [List.length_append, List.length_cons]
  omega
theorem len_ins {M : List Rt} (hs : Sorted M) (r : Rt) : (insM M r).length = if hasM M (kof r) = true then M.length else M.length + 1 := by
  rw [len_ins_del]
  by_cases h : hasM M (kof r) = true
  · rw [if_pos h]; exact len_del hs h
  · rw [if_neg h, del_none (by simpa using h)]
theorem len_set {M : List Rt} (hs : Sorted M) (h : M.length ≤ 64) (r : Rt) : (setM M r).length ≤ 64 := by
  unfold setM
  split
  · rename_i ho
    rw [len_ins hs]
    unfold setOk at ho
    simp only [Bool.and_eq_true, Bool.or_eq_true, decide_eq_true_eq] at ho
    split
    · exact h
    · rename_i hn
      rcases ho.2 with h2 | h2
      · exact absurd h2 hn
      · omega
  · exact h
theorem len_set_le {M : List Rt} (hs : Sorted M) (r : Rt) : (setM M r).length ≤ M.length + 1 := by
  unfold setM
  split
  · rw [len_ins hs]; split <;> omega
  · omega
theorem len_del_le (M : List Rt) (k : Nt) : (delM M k).length ≤ M.length := List.length_filter_le _ _
theorem del_lt {M : List Rt} (hs : Sorted M) (k : Nt) : decide ((delM M k).length < M.length) = hasM M k := by
  cases h : hasM M k
  · rw [del_none h]; simp
  · have := len_del hs h
    exact decide_eq_true (by omega)
theorem has_ins {M : List Rt} {r : Rt} {k : Nt} : hasM (insM M r) k = (decide (k = kof r) || hasM M k) := by
  rw [Bool.eq_iff_iff, has_iff, Bool.or_eq_true, decide_eq_true_eq, has_iff]
  constructor
  · rintro ⟨x, hx, rfl⟩
    rcases mem_ins.1 hx with rfl | hx
    · exact .inl rfl
    · exact .inr ⟨x, hx.1, rfl⟩
  · rintro (rfl | ⟨x, hx, rfl⟩)
    · exact ⟨r, mem_ins.2 (.inl rfl), rfl⟩
    · by_cases h : kof x = kof r
      · exact ⟨r, mem_ins.2 (.inl rfl), h.symm⟩
      · exact ⟨x, mem_ins.2 (.inr ⟨hx, h⟩), rfl⟩
theorem has_del {M : List Rt} {j k : Nt} : hasM (delM M j) k = (hasM M k && !decide (k = j)) := by
  rw [Bool.eq_iff_iff, has_iff, Bool.and_eq_true, has_iff]
  simp only [Bool.not_eq_true', decide_eq_false_iff_not]
  constructor
  · rintro ⟨x, hx, rfl⟩
    have := mem_del.1 hx
    exact ⟨⟨x, this.1, rfl⟩, this.2⟩
  · rintro ⟨⟨x, hx, rfl⟩, h⟩
    exact ⟨x, mem_del.2 ⟨hx, h⟩, rfl⟩

/-! ### Find -/
def stepF (A : Nat) (o : Option Rt) (r : Rt) : Option Rt := if (inN A r.1 r.2.1 && (o.isNone || decide ((o.getD (0, 0, 0)).2.1 < r.2.1))) = true then some r else o
def findM (M : List Rt) (A : Nat) : Option Rt := M.foldl (stepF A) none
/-- Of those that an address is in, that of the most bits. -/
def Best (l : List Rt) (A : Nat) (o : Option Rt) : Prop :=
  (o = none → ∀ x ∈ l, inN A x.1 x.2.1 = false) ∧ ∀ r, o = some r → r ∈ l ∧ inN A r.1 r.2.1 = true ∧ ∀ x ∈ l, inN A x.1 x.2.1 = true → x.2.1 ≤ r.2.1
theorem best_nil (A : Nat) : Best [] A none := ⟨fun _ => by simp, fun r h => by cases h⟩
theorem best_step {l : List Rt} {A : Nat} {o : Option Rt} (h : Best l A o) (r : Rt) : Best (l ++ [r]) A (stepF A o r) := by
  unfold stepF
  by_cases hi : inN A r.1 r.2.1 = true
  · cases o with
    | none =>
      simp only [hi, Option.isNone_none, Bool.true_or, Bool.and_self, if_true]
      refine ⟨fun e => by (cases e), fun q e => ?_⟩
      obtain rfl := Option.some.inj e
      refine ⟨by simp, hi, fun x hx hxi => ?_⟩
      rcases List.mem_append.1 hx with hx | hx
      · have := h.1 rfl x hx; rw [hxi] at this; cases this
      · simp at hx; subst hx; exact Int.le_refl _
    | some q =>
      obtain ⟨hq, hqi, hm⟩ := h.2 q rfl
      by_cases hb : q.2.1 < r.2.1
      · simp only [hi, Option.getD_some, hb, decide_true, Bool.or_true, Bool.and_self, if_true]
        refine ⟨fun e => by (cases e), fun p e => ?_⟩
        obtain rfl := Option.some.inj e
        refine ⟨by simp, hi, fun x hx hxi => ?_⟩
        rcases List.mem_append.1 hx with hx | hx
        · have := hm x hx hxi; omega
        · simp at hx; subst hx; exact Int.le_refl _
      · simp only [hi, Option.isNone_some, Option.getD_some, hb, decide_false, Bool.or_false, Bool.and_false, Bool.false_eq_true, if_false]
        refine ⟨fun e => by (cases e), fun p e => ?_⟩
        obtain rfl := Option.some.inj e
        refine ⟨by simp [hq], hqi, fun x hx hxi => ?_⟩
        rcases List.mem_append.1 hx with hx | hx
        · exact hm x hx hxi
        · simp at hx; subst hx; omega
  · have hi' : inN A r.1 r.2.1 = false := by simpa using hi
    simp only [hi', Bool.false_and, Bool.false_eq_true, if_false]
    refine ⟨fun e x hx => ?_, fun q e => ?_⟩
    · rcases List.mem_append.1 hx with hx | hx
      · exact h.1 e x hx
      · simp at hx; subst hx; exact hi'
    · obtain ⟨hq, hqi, hm⟩ := h.2 q e
      refine ⟨by simp [hq], hqi, fun x hx hxi => ?_⟩
      rcases List.mem_append.1 hx with hx | hx
      · exact hm x hx hxi
      · simp at hx; subst hx; exact absurd hxi hi
theorem best_fold (A : Nat) : ∀ (l l0 : List Rt) (o : Option Rt), Best l0 A o → Best (l0 ++ l) A (l.foldl (stepF A) o)
  | [], l0, o, h => by simpa using h
  | r :: l, l0, o, h => by
    have := best_fold A l (l0 ++ [r]) _ (best_step h r)
    simpa using this
theorem best_find (M : List Rt) (A : Nat) : Best M A (findM M A) := by
  have := best_fold A M [] none (best_nil A)
  rw [List.nil_append] at this
  exact this
theorem best_mem {l m : List Rt} {A : Nat} {o : Option Rt} (h : Best l A o) (hm : ∀ x, x ∈ l ↔ x ∈ m) : Best m A o :=
  ⟨fun e x hx => h.1 e x ((hm x).2 hx), fun r e => ⟨(hm r).1 (h.2 r e).1, (h.2 r e).2.1, fun x hx => (h.2 r e).2.2 x ((hm x).2 hx)⟩⟩
theorem best_one {M : List Rt} {A : Nat} {o p : Option Rt} (hs : Sorted M) (h : Best M A o) (k : Best M A p) : o = p := by
  cases o with
  | none =>
    cases p with
    | none => rfl
    | some q =>
      obtain ⟨hq, hqi, _⟩ := k.2 q rfl
      have := h.1 rfl q hq
      rw [hqi] at this; cases this
  | some r =>
    obtain ⟨hr, hri, hrm⟩ := h.2 r rfl
    cases p with
    | none =>
      have := k.1 rfl r hr
      rw [hri] at this; cases this
    | some q =>
      obtain ⟨hq, hqi, hqm⟩ := k.2 q rfl
      have e : r.2.1 = q.2.1 := by have := hrm q hq hqi; have := hqm r hr hri; omega
      obtain ⟨i, hi, e1, c1⟩ := in_iff.1 hri
      obtain ⟨j, hj, e2, c2⟩ := in_iff.1 hqi
      have hij : i = j := by omega
      have : r = q := sorted_inj hs hr hq (by
        unfold kof
        rw [e, ← c1, ← c2, hij])
      rw [this]
theorem find_snoc (l : List Rt) (r : Rt) (A : Nat) : findM (l ++ [r]) A = stepF A (findM l A) r := by unfold findM; simp
end Go.Proofs.Ytdpigcfchjpofaa.Route
