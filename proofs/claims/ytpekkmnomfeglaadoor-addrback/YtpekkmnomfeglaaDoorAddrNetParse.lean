/-
  The network of a text, by its cases.
-/
import Derived.Test.YtpekkmnomfeglaaDoorAddrNetText
namespace Go.Proofs.YtpekkmnomfeglaaDoor.Addr
open Go.RowKit Go.Proofs.YtpekkmnomfeglaaDoor.Mem

theorem cut_any (l : List UInt8) (hl : l.length ≤ 1000) (w : World) (hF : Fact w) :
    Calls Tryd.prog 33 #[.string (bs l), .string ⟨#[47]⟩] w fun e w' => e = .returned (.tuple #[.string (bs (Lib.cut l [47]).1), .string (bs (Lib.cut l [47]).2.1), .bool (Lib.cut l [47]).2.2]) ∧ Below w.heap.size w w' := by
  obtain ⟨⟨m, hm⟩, -⟩ := hF
  exact (Tryd.strings_Cut (bs l) ⟨#[47]⟩ m w (by rw [bs_size]; omega) hm).mono fun e w' ⟨he, n, hw⟩ => ⟨he, hw ▸ bdrewN w n⟩
set_option maxRecDepth 100000 in
theorem pn_none (s x y : ByteArray) (w : World) (hF : Fact w)
    (hc : ∀ w, Fact w → Calls Tryd.prog 33 #[.string s, .string ⟨#[47]⟩] w fun e w' => e = .returned (.tuple #[.string x, .string y, .bool false]) ∧ Below w.heap.size w w') :
    Calls Tryd.prog 10 #[.string s] w fun e w' => e = .returned (.tuple #[.agg #[.int .u8 0, .int .u8 0, .int .u8 0, .int .u8 0, .int .i64 0], .int .i64 41]) ∧ Below w.heap.size w w' := by
  have d0 := bnew w (.cells #[.int .u8 0, .int .u8 0, .int .u8 0, .int .u8 0, .int .i64 0] 28)
  have f0 := hF.below d0
  have X0 := new5 w (.int .u8 0) (.int .u8 0) (.int .u8 0) (.int .u8 0) (.int .i64 0) 28
  clear hF
  go_enter Tryd.func10, Tryd.ntmps10
  go_wp2_with (first
    | (go_at_call 33; refine (hc _ f0).mono ?_; rintro e w1 ⟨rfl, hb1⟩; have B1 := X0.below hb1; have f1 := f0.below hb1; have d1 := bnext d0 hb1; clear hb1; obtain ⟨⟨k0, k1, k2, k3, e0, e1, e2, e3, hg⟩, k4, e4⟩ := id B1))
  try simp only [Exit.inBlock, Exit.then]
  refine bodyPost_ret (v := .tuple #[.agg #[.int .u8 0, .int .u8 0, .int .u8 0, .int .u8 0, .int .i64 0], .int .i64 41]) (by simp [results, Tryd.results10, go_sem, k0, k1, k2, k3, k4]) rfl ⟨rfl, ?_⟩
  repeat (first | with_reducible exact d1 | with_reducible apply Below.drew | with_reducible apply bal | with_reducible refine Below.setCell ?_ (by simp) _)
set_option maxRecDepth 100000 in
theorem pn_adr (s x y : ByteArray) (w : World) (hF : Fact w)
    (hc : ∀ w, Fact w → Calls Tryd.prog 33 #[.string s, .string ⟨#[47]⟩] w fun e w' => e = .returned (.tuple #[.string x, .string y, .bool true]) ∧ Below w.heap.size w w')
    (hp : ∀ w, Fact w → Calls Tryd.prog 9 #[.string x] w fun e w' => e = .returned (.tuple #[(.agg #[.int .u8 0, .int .u8 0, .int .u8 0, .int .u8 0]), .int .i64 41]) ∧ Below w.heap.size w w') :
    Calls Tryd.prog 10 #[.string s] w fun e w' => e = .returned (.tuple #[.agg #[.int .u8 0, .int .u8 0, .int .u8 0, .int .u8 0, .int .i64 0], .int .i64 41]) ∧ Below w.heap.size w w' := by
  have d0 := bnew w (.cells #[.int .u8 0, .int .u8 0, .int .u8 0, .int .u8 0, .int .i64 0] 28)
  have f0 := hF.below d0
  have X0 := new5 w (.int .u8 0) (.int .u8 0) (.int .u8 0) (.int .u8 0) (.int .i64 0) 28
  clear hF
  go_enter Tryd.func10, Tryd.ntmps10
  go_wp2_with (first
    | (go_at_call 33; refine (hc _ f0).mono ?_; rintro e w1 ⟨rfl, hb1⟩; have B1 := X0.below hb1; have f1 := f0.below hb1; have d1 := bnext d0 hb1; clear hb1; obtain ⟨⟨k0, k1, k2, k3, e0, e1, e2, e3, hg⟩, k4, e4⟩ := id B1)
    | (go_at_call 9; refine (hp _ f1).mono ?_; rintro e w2 ⟨rfl, hb2⟩; have B2 := B1.below hb2; have f2 := f1.below hb2; have d2 := bnext d1 hb2; clear hb2 k0 k1 k2 k3 e0 e1 e2 e3 hg k4 e4; obtain ⟨⟨k0, k1, k2, k3, e0, e1, e2, e3, hg⟩, k4, e4⟩ := id B2))
  try simp only [Exit.inBlock, Exit.then]
  refine bodyPost_ret (v := .tuple #[.agg #[.int .u8 0, .int .u8 0, .int .u8 0, .int .u8 0, .int .i64 0], .int .i64 41]) (by simp [results, Tryd.results10, go_sem, k0, k1, k2, k3, k4, hg]) rfl ⟨rfl, ?_⟩
  repeat (first | with_reducible exact d2 | with_reducible apply Below.drew | with_reducible apply bal | with_reducible refine Below.setCell ?_ (by simp) _)
set_option maxRecDepth 100000 in
theorem pn_num (s x y : ByteArray) (w : World) (hF : Fact w)
    (hc : ∀ w, Fact w → Calls Tryd.prog 33 #[.string s, .string ⟨#[47]⟩] w fun e w' => e = .returned (.tuple #[.string x, .string y, .bool true]) ∧ Below w.heap.size w w')
    (n0 n1 n2 n3 : Int) (hp : ∀ w, Fact w → Calls Tryd.prog 9 #[.string x] w fun e w' => e = .returned (.tuple #[(.agg #[.int .u8 n0, .int .u8 n1, .int .u8 n2, .int .u8 n3]), .int .i64 0]) ∧ Below w.heap.size w w')
    (hn : ∀ w, Fact w → Calls Tryd.prog 32 #[.string y, .int .i64 32] w fun e w' => e = .returned (.tuple #[.int .i64 0, .bool false]) ∧ Below w.heap.size w w') :
    Calls Tryd.prog 10 #[.string s] w fun e w' => e = .returned (.tuple #[.agg #[.int .u8 0, .int .u8 0, .int .u8 0, .int .u8 0, .int .i64 0], .int .i64 41]) ∧ Below w.heap.size w w' := by
  have d0 := bnew w (.cells #[.int .u8 0, .int .u8 0, .int .u8 0, .int .u8 0, .int .i64 0] 28)
  have f0 := hF.below d0
  have X0 := new5 w (.int .u8 0) (.int .u8 0) (.int .u8 0) (.int .u8 0) (.int .i64 0) 28
  clear hF
  go_enter Tryd.func10, Tryd.ntmps10
  go_wp2_with (first
    | (go_at_call 33; refine (hc _ f0).mono ?_; rintro e w1 ⟨rfl, hb1⟩; have B1 := X0.below hb1; have f1 := f0.below hb1; have d1 := bnext d0 hb1; clear hb1; obtain ⟨⟨k0, k1, k2, k3, e0, e1, e2, e3, hg⟩, k4, e4⟩ := id B1)
    | (go_at_call 9; refine (hp _ f1).mono ?_; rintro e w2 ⟨rfl, hb2⟩; have B2 := B1.below hb2; have f2 := f1.below hb2; have d2 := bnext d1 hb2; clear hb2 k0 k1 k2 k3 e0 e1 e2 e3 hg k4 e4; obtain ⟨⟨k0, k1, k2, k3, e0, e1, e2, e3, hg⟩, k4, e4⟩ := id B2)
    | (go_at_call 32; refine (hn _ (f2.below (bnew _ _))).mono ?_; rintro e w3 ⟨rfl, hb3⟩; have B3 := (B2.alloc _).below hb3; have A3 := (new4 w2 _ _ _ _ _).below hb3; have d3 := bnext (bal d2 _) hb3; clear hb3 k0 k1 k2 k3 e0 e1 e2 e3 hg k4 e4; obtain ⟨⟨k0, k1, k2, k3, e0, e1, e2, e3, hg⟩, k4, e4⟩ := id B3; obtain ⟨a0, a1, a2, a3, -, -, -, -, ha⟩ := A3))
  try simp only [Exit.inBlock, Exit.then]
  refine bodyPost_ret (v := .tuple #[.agg #[.int .u8 0, .int .u8 0, .int .u8 0, .int .u8 0, .int .i64 0], .int .i64 41]) (by simp [results, Tryd.results10, go_sem, k0, k1, k2, k3, k4, hg]) rfl ⟨rfl, ?_⟩
  repeat (first | with_reducible exact d3 | with_reducible apply Below.drew | with_reducible apply bal | with_reducible refine Below.setCell ?_ (by simp) _)
set_option maxRecDepth 100000 in
theorem pn_wrong (s x y : ByteArray) (w : World) (hF : Fact w)
    (hc : ∀ w, Fact w → Calls Tryd.prog 33 #[.string s, .string ⟨#[47]⟩] w fun e w' => e = .returned (.tuple #[.string x, .string y, .bool true]) ∧ Below w.heap.size w w')
    (n0 n1 n2 n3 : Int) (hp : ∀ w, Fact w → Calls Tryd.prog 9 #[.string x] w fun e w' => e = .returned (.tuple #[(.agg #[.int .u8 n0, .int .u8 n1, .int .u8 n2, .int .u8 n3]), .int .i64 0]) ∧ Below w.heap.size w w')
    (b : Int) (hn : ∀ w, Fact w → Calls Tryd.prog 32 #[.string y, .int .i64 32] w fun e w' => e = .returned (.tuple #[.int .i64 b, .bool true]) ∧ Below w.heap.size w w')
    (hr : ∀ w, Calls Tryd.prog 19 #[(.agg #[.int .u8 n0, .int .u8 n1, .int .u8 n2, .int .u8 n3, .int .i64 b])] w fun e w' => e = .returned (.bool false) ∧ Below w.heap.size w w') :
    Calls Tryd.prog 10 #[.string s] w fun e w' => e = .returned (.tuple #[.agg #[.int .u8 0, .int .u8 0, .int .u8 0, .int .u8 0, .int .i64 0], .int .i64 41]) ∧ Below w.heap.size w w' := by
  have d0 := bnew w (.cells #[.int .u8 0, .int .u8 0, .int .u8 0, .int .u8 0, .int .i64 0] 28)
  have f0 := hF.below d0
  have X0 := new5 w (.int .u8 0) (.int .u8 0) (.int .u8 0) (.int .u8 0) (.int .i64 0) 28
  clear hF
  go_enter Tryd.func10, Tryd.ntmps10
  go_wp2_with (first
    | (go_at_call 33; refine (hc _ f0).mono ?_; rintro e w1 ⟨rfl, hb1⟩; have B1 := X0.below hb1; have f1 := f0.below hb1; have d1 := bnext d0 hb1; clear hb1; obtain ⟨⟨k0, k1, k2, k3, e0, e1, e2, e3, hg⟩, k4, e4⟩ := id B1)
    | (go_at_call 9; refine (hp _ f1).mono ?_; rintro e w2 ⟨rfl, hb2⟩; have B2 := B1.below hb2; have f2 := f1.below hb2; have d2 := bnext d1 hb2; clear hb2 k0 k1 k2 k3 e0 e1 e2 e3 hg k4 e4; obtain ⟨⟨k0, k1, k2, k3, e0, e1, e2, e3, hg⟩, k4, e4⟩ := id B2)
    | (go_at_call 32; refine (hn _ (f2.below (bnew _ _))).mono ?_; rintro e w3 ⟨rfl, hb3⟩; have B3 := (B2.alloc _).below hb3; have A3 := (new4 w2 _ _ _ _ _).below hb3; have d3 := bnext (bal d2 _) hb3; clear hb3 k0 k1 k2 k3 e0 e1 e2 e3 hg k4 e4; obtain ⟨⟨k0, k1, k2, k3, e0, e1, e2, e3, hg⟩, k4, e4⟩ := id B3; obtain ⟨a0, a1, a2, a3, -, -, -, -, ha⟩ := A3)
    | (go_at_call 19; refine (hr _).mono ?_; rintro e w4 ⟨rfl, hb4⟩; have B4 := (B3.alloc _).below hb4; have A4 := (new5 w3 _ _ _ _ _ _).below hb4; have d4 := bnext (bal d3 _) hb4; clear hb4 k0 k1 k2 k3 e0 e1 e2 e3 hg k4 e4 a0 a1 a2 a3 ha; obtain ⟨⟨k0, k1, k2, k3, e0, e1, e2, e3, hg⟩, k4, e4⟩ := id B4; obtain ⟨⟨a0, a1, a2, a3, -, -, -, -, ha⟩, a4, -⟩ := A4))
  try simp only [Exit.inBlock, Exit.then]
  refine bodyPost_ret (v := .tuple #[.agg #[.int .u8 0, .int .u8 0, .int .u8 0, .int .u8 0, .int .i64 0], .int .i64 41]) (by simp [results, Tryd.results10, go_sem, k0, k1, k2, k3, k4]) rfl ⟨rfl, ?_⟩
  repeat (first | with_reducible exact d4 | with_reducible apply Below.drew | with_reducible apply bal | with_reducible refine Below.setCell ?_ (by simp) _)
set_option maxRecDepth 100000 in
theorem pn_right (s x y : ByteArray) (w : World) (hF : Fact w)
    (hc : ∀ w, Fact w → Calls Tryd.prog 33 #[.string s, .string ⟨#[47]⟩] w fun e w' => e = .returned (.tuple #[.string x, .string y, .bool true]) ∧ Below w.heap.size w w')
    (n0 n1 n2 n3 : Int) (hp : ∀ w, Fact w → Calls Tryd.prog 9 #[.string x] w fun e w' => e = .returned (.tuple #[(.agg #[.int .u8 n0, .int .u8 n1, .int .u8 n2, .int .u8 n3]), .int .i64 0]) ∧ Below w.heap.size w w')
    (b : Int) (hn : ∀ w, Fact w → Calls Tryd.prog 32 #[.string y, .int .i64 32] w fun e w' => e = .returned (.tuple #[.int .i64 b, .bool true]) ∧ Below w.heap.size w w')
    (hr : ∀ w, Calls Tryd.prog 19 #[(.agg #[.int .u8 n0, .int .u8 n1, .int .u8 n2, .int .u8 n3, .int .i64 b])] w fun e w' => e = .returned (.bool true) ∧ Below w.heap.size w w') :
    Calls Tryd.prog 10 #[.string s] w fun e w' => e = .returned (.tuple #[(.agg #[.int .u8 n0, .int .u8 n1, .int .u8 n2, .int .u8 n3, .int .i64 b]), .int .i64 0]) ∧ Below w.heap.size w w' := by
  have d0 := bnew w (.cells #[.int .u8 0, .int .u8 0, .int .u8 0, .int .u8 0, .int .i64 0] 28)
  have f0 := hF.below d0
  have X0 := new5 w (.int .u8 0) (.int .u8 0) (.int .u8 0) (.int .u8 0) (.int .i64 0) 28
  clear hF
  go_enter Tryd.func10, Tryd.ntmps10
  go_wp2_with (first
    | (go_at_call 33; refine (hc _ f0).mono ?_; rintro e w1 ⟨rfl, hb1⟩; have B1 := X0.below hb1; have f1 := f0.below hb1; have d1 := bnext d0 hb1; clear hb1; obtain ⟨⟨k0, k1, k2, k3, e0, e1, e2, e3, hg⟩, k4, e4⟩ := id B1)
    | (go_at_call 9; refine (hp _ f1).mono ?_; rintro e w2 ⟨rfl, hb2⟩; have B2 := B1.below hb2; have f2 := f1.below hb2; have d2 := bnext d1 hb2; clear hb2 k0 k1 k2 k3 e0 e1 e2 e3 hg k4 e4; obtain ⟨⟨k0, k1, k2, k3, e0, e1, e2, e3, hg⟩, k4, e4⟩ := id B2)
    | (go_at_call 32; refine (hn _ (f2.below (bnew _ _))).mono ?_; rintro e w3 ⟨rfl, hb3⟩; have B3 := (B2.alloc _).below hb3; have A3 := (new4 w2 _ _ _ _ _).below hb3; have d3 := bnext (bal d2 _) hb3; clear hb3 k0 k1 k2 k3 e0 e1 e2 e3 hg k4 e4; obtain ⟨⟨k0, k1, k2, k3, e0, e1, e2, e3, hg⟩, k4, e4⟩ := id B3; obtain ⟨a0, a1, a2, a3, -, -, -, -, ha⟩ := A3)
    | (go_at_call 19; refine (hr _).mono ?_; rintro e w4 ⟨rfl, hb4⟩; have B4 := (B3.alloc _).below hb4; have A4 := (new5 w3 _ _ _ _ _ _).below hb4; have d4 := bnext (bal d3 _) hb4; clear hb4 k0 k1 k2 k3 e0 e1 e2 e3 hg k4 e4 a0 a1 a2 a3 ha; obtain ⟨⟨k0, k1, k2, k3, e0, e1, e2, e3, hg⟩, k4, e4⟩ := id B4; obtain ⟨⟨a0, a1, a2, a3, -, -, -, -, ha⟩, a4, -⟩ := A4))
  try simp only [Exit.inBlock, Exit.then]
  refine bodyPost_ret (v := .tuple #[(.agg #[.int .u8 n0, .int .u8 n1, .int .u8 n2, .int .u8 n3, .int .i64 b]), .int .i64 0]) (by simp [results, Tryd.results10, go_sem, k0, k1, k2, k3, k4]) rfl ⟨rfl, ?_⟩
  repeat (first | with_reducible exact d4 | with_reducible apply Below.drew | with_reducible apply bal | with_reducible refine Below.setCell ?_ (by simp) _)
end Go.Proofs.YtpekkmnomfeglaaDoor.Addr
