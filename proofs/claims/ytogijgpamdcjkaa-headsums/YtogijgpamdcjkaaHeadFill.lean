/-
  Packets: head.fill. (Written by gen_fill.py.)
-/
import Derived.Test.YtogijgpamdcjkaaHeadMake
namespace Go.Proofs.Ytogijgpamdcjkaa.Head
open Go.RowKit Go.Proofs.Ytogijgpamdcjkaa.Mem

/-- A header's cells. -/
def hcs (h : Hd) (q : Option Addr) (m c : Nat) : List Value := [.int .i64 h.tos, .int .i64 h.id, .int .i64 h.fl, .int .i64 h.ttl, .int .i64 h.pr, .int .u8 h.s0, .int .u8 h.s1, .int .u8 h.s2, .int .u8 h.s3, .int .u8 h.d0, .int .u8 h.d1, .int .u8 h.d2, .int .u8 h.d3, .slice q m c]
theorem splice_bs (A R os : List Int) (n : Nat) (hA : A.length = n) : splice (bs (A ++ R)) n (bs os) = bs (A ++ (os ++ R.drop os.length)) := by
  subst hA
  unfold splice bs
  rw [List.map_append, List.map_append, List.length_map, List.drop_append, List.map_append]
  simp
set_option maxHeartbeats 2000000 in
set_option maxRecDepth 100000 in
theorem head_fill (h : Hd) (g n : Nat) (q : Option Addr) (m c : Nat) (os R : List Int) (lo : os.length = m) (hR : R.length = n - 20) (hr : rightB h m = true) (hn : 20 + m ≤ n) (hn2 : n ≤ 1500) (w : World)
    (hb : Blk w g 5 (bs ([0, 0, 0, 0, 0, 0, 0, 0, 0, 0, 0, 0, 0, 0, 0, 0, 0, 0, 0, 0] ++ R))) (ro : Reads .u8 w q c os) (hne : 0 < os.length → ∀ a, q = some a → a.block ≠ g) :
    Calls Try.prog 24 #[.slice (some ⟨g, 0, none⟩) n n, .agg #[.int .i64 h.tos, .int .i64 h.id, .int .i64 h.fl, .int .i64 h.ttl, .int .i64 h.pr, .int .u8 h.s0, .int .u8 h.s1, .int .u8 h.s2, .int .u8 h.s3, .int .u8 h.d0, .int .u8 h.d1, .int .u8 h.d2, .int .u8 h.d3, .slice q m c]] w fun e w' => e = .returned (.tuple #[]) ∧ Blk w' g 5 (bs (hdr h m n 0 ++ (os ++ R.drop m))) ∧ w.grownBy w' (some g) := by
  obtain ⟨⟨a0, a1⟩, ⟨b0, b1⟩, ⟨c0, c1⟩, ⟨d0, d1⟩, ⟨e0, e1⟩, hm40, hm4⟩ := right_iff.1 hr
  have hlt := hb.lt
  have hne0 : g ≠ w.heap.size := by omega
  have hne1 : some w.heap.size ≠ some g := by simpa using hne0.symm
  have z0 := hb.cell
  have f0 := hb.frozen
  simp only [bs, List.cons_append, List.nil_append, List.map_cons] at z0
  have P1 := fun W hB => head_put g n n 2 (n : Int) ([64 + (20 + (m : Int)) / 4, h.tos, 0, 0, 0, 0, 0, 0, 0, 0, 0, 0, 0, 0, 0, 0, 0, 0, 0, 0] ++ R) ([64 + (20 + (m : Int)) / 4, h.tos, (n : Int) / 256, (n : Int) % 256, 0, 0, 0, 0, 0, 0, 0, 0, 0, 0, 0, 0, 0, 0, 0, 0] ++ R) (by simp; omega) (by omega) (by omega) (by omega) (by omega) rfl W hB
  have P2 := fun W hB => head_put g n n 4 h.id ([64 + (20 + (m : Int)) / 4, h.tos, (n : Int) / 256, (n : Int) % 256, 0, 0, 0, 0, 0, 0, 0, 0, 0, 0, 0, 0, 0, 0, 0, 0] ++ R) ([64 + (20 + (m : Int)) / 4, h.tos, (n : Int) / 256, (n : Int) % 256, h.id / 256, h.id % 256, 0, 0, 0, 0, 0, 0, 0, 0, 0, 0, 0, 0, 0, 0] ++ R) (by simp; omega) (by omega) (by omega) (by omega) (by omega) rfl W hB
  have P3 := fun W hB => head_put g n n 6 h.fl ([64 + (20 + (m : Int)) / 4, h.tos, (n : Int) / 256, (n : Int) % 256, h.id / 256, h.id % 256, 0, 0, 0, 0, 0, 0, 0, 0, 0, 0, 0, 0, 0, 0] ++ R) ([64 + (20 + (m : Int)) / 4, h.tos, (n : Int) / 256, (n : Int) % 256, h.id / 256, h.id % 256, h.fl / 256, h.fl % 256, 0, 0, 0, 0, 0, 0, 0, 0, 0, 0, 0, 0] ++ R) (by simp; omega) (by omega) (by omega) (by omega) (by omega) rfl W hB
  have hc12 : ∀ w, (Instr.slice 24 (.slice (some ⟨g, 0, none⟩) n n) (some (.int .i64 12)) none none).run Try.prog w = .ok (.slice (some ⟨g, 12, none⟩) (n - 12) (n - 12)) w := fun w => by
    have := run_from w (some ⟨g, 0, none⟩) n n 12 (by omega)
    rw [show cutP (some ⟨g, 0, none⟩) n 12 = some ⟨g, 12, none⟩ by unfold cutP; rw [if_neg (by omega)]; simp [Addr.add]] at this
    exact this
  have hc16 : ∀ w, (Instr.slice 24 (.slice (some ⟨g, 0, none⟩) n n) (some (.int .i64 16)) none none).run Try.prog w = .ok (.slice (some ⟨g, 16, none⟩) (n - 16) (n - 16)) w := fun w => by
    have := run_from w (some ⟨g, 0, none⟩) n n 16 (by omega)
    rw [show cutP (some ⟨g, 0, none⟩) n 16 = some ⟨g, 16, none⟩ by unfold cutP; rw [if_neg (by omega)]; simp [Addr.add]] at this
    exact this
  have hc20 : ∀ w, (Instr.slice 24 (.slice (some ⟨g, 0, none⟩) n n) (some (.int .i64 20)) none none).run Try.prog w = .ok (.slice (cutP (some ⟨g, 0, none⟩) n 20) (n - 20) (n - 20)) w := fun w => run_from w (some ⟨g, 0, none⟩) n n 20 (by omega)
  go_enter Try.func24, Try.ntmps24
  go_wp2_with (go_at_call 25; refine (P1 _ ?hB).mono ?_)
  case hB => exact ((hb.put 0 _).put 1 _).alloc _
  rintro e w1 ⟨rfl, B1, N1⟩
  have Y1 := (Blk.new1 _ (by simp) #[.int .i64 h.tos, .int .i64 h.id, .int .i64 h.fl, .int .i64 h.ttl, .int .i64 h.pr, .int .u8 h.s0, .int .u8 h.s1, .int .u8 h.s2, .int .u8 h.s3, .int .u8 h.d0, .int .u8 h.d1, .int .u8 h.d2, .int .u8 h.d3, .slice q m c] 26).kept N1 hne1
  have M1 := (((only_put w ⟨g, 0, none⟩ _).trans (only_put _ ⟨g, 1, none⟩ _)).trans (World.grownBy_alloc _ _ _)).trans N1
  clear z0 f0 hb N1 P1
  have k1 := Y1.cell
  go_wp2_with (go_at_call 25; refine (P2 _ B1).mono ?_)
  rintro e w2 ⟨rfl, B2, N2⟩
  have Y2 := Y1.kept N2 hne1
  have M2 := M1.trans N2
  clear k1 B1 M1 N2 P2 Y1
  have k2 := Y2.cell
  go_wp2_with (go_at_call 25; refine (P3 _ B2).mono ?_)
  rintro e w3 ⟨rfl, B3, N3⟩
  have Y3 := Y2.kept N3 hne1
  have M3 := M2.trans N3
  clear k2 B2 M2 N3 P3 Y2
  have k3 := Y3.cell
  have z3 := B3.cell
  have f3 := B3.frozen
  simp only [bs, List.cons_append, List.nil_append, List.map_cons] at z3
  go_wp2
  have B4 : Blk _ g 5 (bs ([64 + (20 + (m : Int)) / 4, h.tos, (n : Int) / 256, (n : Int) % 256, h.id / 256, h.id % 256, h.fl / 256, h.fl % 256, h.ttl, h.pr, 0, 0, 0, 0, 0, 0, 0, 0, 0, 0] ++ R)) := (B3.put 8 (.int .u8 h.ttl)).put 9 (.int .u8 h.pr)
  have Y4 := (Y3.other (p := ⟨g, 8, none⟩) hne0.symm (.int .u8 h.ttl)).other (p := ⟨g, 9, none⟩) hne0.symm (.int .u8 h.pr)
  have M4 := M3.trans ((only_put w3 ⟨g, 8, none⟩ (.int .u8 h.ttl)).trans (only_put _ ⟨g, 9, none⟩ (.int .u8 h.pr)))
  clear z3 f3 k3 B3 Y3 M3
  obtain ⟨w4, hw4⟩ : ∃ w4, w4 = (w3.setCell ⟨g, 8, none⟩ (.int .u8 h.ttl)).setCell ⟨g, 9, none⟩ (.int .u8 h.pr) := ⟨_, rfl⟩
  rw [← hw4] at B4 Y4 M4 ⊢
  clear hw4
  go_region_law (refine step_copy_blk rfl (.tmp 41) (.tmp 43) 24 24 rfl 5 Try.underlying24 info_one (some ⟨g, 12, none⟩) (some ⟨w.heap.size, 5, none⟩) (n - 12) (n - 12) 4 4 (by simp [Act.eval, Act.put]) (by simp [Act.eval, Act.put]) g 12 _ 5 B4 (bs [h.s0, h.s1, h.s2, h.s3]) (by show 4 = min 4 (n - 12); omega) (fun _ => ⟨rfl, _, rfl, Y4.part 5 _ _ rfl⟩) (by simp [bs]) bs_one ?_; intro w5 B5 N5)
  replace B5 : Blk w5 g 5 (bs ([64 + (20 + (m : Int)) / 4, h.tos, (n : Int) / 256, (n : Int) % 256, h.id / 256, h.id % 256, h.fl / 256, h.fl % 256, h.ttl, h.pr, 0, 0, h.s0, h.s1, h.s2, h.s3, 0, 0, 0, 0] ++ R)) := B5
  have Y5 := Y4.drew.kept N5 hne1
  have M5 := (show w.grownBy w4.drew (some g) from ⟨M4.os, M4.tape, M4.output, M4.size, M4.block⟩).trans N5
  clear B4 Y4 M4 N5
  go_wp2
  go_region_law (refine step_copy_blk rfl (.tmp 46) (.tmp 48) 24 24 rfl 5 Try.underlying24 info_one (some ⟨g, 16, none⟩) (some ⟨w.heap.size, 9, none⟩) (n - 16) (n - 16) 4 4 (by simp [Act.eval, Act.put]) (by simp [Act.eval, Act.put]) g 16 _ 5 B5 (bs [h.d0, h.d1, h.d2, h.d3]) (by show 4 = min 4 (n - 16); omega) (fun _ => ⟨rfl, _, rfl, Y5.part 9 _ _ rfl⟩) (by simp [bs]) bs_one ?_; intro w6 B6 N6)
  replace B6 : Blk w6 g 5 (bs ([64 + (20 + (m : Int)) / 4, h.tos, (n : Int) / 256, (n : Int) % 256, h.id / 256, h.id % 256, h.fl / 256, h.fl % 256, h.ttl, h.pr, 0, 0, h.s0, h.s1, h.s2, h.s3, h.d0, h.d1, h.d2, h.d3] ++ R)) := B6
  have Y6 := Y5.drew.kept N6 hne1
  have M6 := (show w.grownBy w5.drew (some g) from ⟨M5.os, M5.tape, M5.output, M5.size, M5.block⟩).trans N6
  clear B5 Y5 M5 N6
  go_wp2
  have k6 := Y6.cell
  have ro6 : Reads .u8 w6.drew q c os := (ro.kept M6 hne).drew
  go_region_law (refine step_copy_blk rfl (.tmp 51) (.tmp 53) 24 24 rfl 5 Try.underlying24 info_one (cutP (some ⟨g, 0, none⟩) n 20) q (n - 20) (n - 20) m c (by simp [Act.eval]) (by simp [Act.eval]) g 20 _ 5 B6 (bs os) (by show _ = min m (n - 20); rw [bs_length]; omega) (fun hp => ⟨by unfold cutP; rw [bs_length] at hp; rw [if_neg (by omega)]; simp [Addr.add], reads_pos ro6 hp⟩) (by simp [bs]; omega) bs_one ?_; intro w7 B7 N7)
  rw [splice_bs _ _ _ 20 rfl, lo] at B7
  have M7 := (show w.grownBy w6.drew (some g) from ⟨M6.os, M6.tape, M6.output, M6.size, M6.block⟩).trans N7
  have e0 : 64 + (20 + (m : Int)) / 4 = 69 + (m : Int) / 4 := by omega
  rw [e0] at B7
  go_wp2
  go_end0
  exact ⟨rfl, B7, M7⟩
end Go.Proofs.Ytogijgpamdcjkaa.Head
