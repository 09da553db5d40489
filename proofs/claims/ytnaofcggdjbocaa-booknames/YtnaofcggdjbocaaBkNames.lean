/-
  The walk of BookNames. (Written by gen_bknames.py.)
-/
import Derived.Test.YtnaofcggdjbocaaBkAlive
import Derived.Test.YtnaofcggdjbocaaBkRead
namespace Go.Proofs.Ytnaofcggdjbocaa.Book
open Go.RowKit Go.Proofs.Ytnaofcggdjbocaa.Mem Go.Proofs.Ytnaofcggdjbocaa.Policy Go.Proofs.Ytnaofcggdjbocaa.Event Go.Proofs.Ytnaofcggdjbocaa.Addr
set_option maxRecDepth 100000

theorem ex_rd : rdE [] = 131 := by decide +kernel
set_option maxHeartbeats 4000000 in
theorem names_any (w : World) : Calls Try.prog 3 #[] w fun e w' => e = .returned (.bool true) ∧ Below w.heap.size w w' := by
  have ha := fun W => alive_any W
  have hA1 := fun W => book_Apply ⟨1, none, 0, 0⟩ b1 ⟨2, 4, none, 0, 0, none, 0, 0, 1, 0⟩ (leaseX 1) W (is_b1 W) (is_lease W 4 1) b1_ok.2 (by simp [leaseX]) (by decide) (by decide) (by decide)
  rw [ex_no.1] at hA1
  have hA2 := fun {W : World} {q : Option Addr} (r : Reads .i64 W q 1 [4]) => book_Apply ⟨1, none, 0, 0⟩ b1 ⟨1, 0, none, 0, 0, q, 1, 1, 0, 0⟩ dropX W (is_b1 W) (is_drop r) b1_ok.2 (by simp [dropX]) (by decide) (by simp) (by simp)
  rw [ex_no.2.1] at hA2
  have hA3 := fun W => book_Apply ⟨1, none, 0, 0⟩ b1 ⟨3, 0, none, 0, 0, none, 0, 0, 0, 3⟩ (rollX 3) W (is_b1 W) (is_roll W 3) b1_ok.2 (by simp [rollX]) (by decide) (by decide) (by decide)
  rw [ex_no.2.2.1] at hA3
  have hA4 := fun W => book_Apply ⟨1, none, 0, 0⟩ b1 ⟨3, 0, none, 0, 0, none, 0, 0, 0, 2⟩ (rollX 2) W (is_b1 W) (is_roll W 2) b1_ok.2 (by simp [rollX]) (by decide) (by decide) (by decide)
  rw [ex_no.2.2.2.1] at hA4
  have hRd := fun W => book_Read none 0 0 [] rfl (by simp) W (Reads.nil _ _)
  rw [ex_rd] at hRd
  have hRt := fun W => book_Right zeroH zeroB W (IsB.zero W) (by simp [zeroB]) (by decide)
  rw [ex_no.2.2.2.2] at hRt
  go_enter Try.func3, Try.ntmps3
  go_wp2_with (first
    | ((fail_if_success (have _ := hB1)); (refine at_build_bperiod _ 1 (by rfl) (by rfl) (by rfl) ?_))
    | ((fail_if_success (have _ := hB1)); (refine at_alloc_bk (by rfl) (by rfl) ?_); intro V1 hXb1 hB1 hz1)
    | ((fail_if_success (have _ := hB2)); (have _ := hB1); (refine at_store_bk _ _ _ _ _ (by rfl) (by rfl) (by rfl) hXb1 rfl (by rfl) ?_); intro V2 hXb2 hg2 hz2; have hB2 := hB1.grown hg2 hB1.size (by simp); have hC2 := hB2)
    | ((fail_if_success (have _ := hB3)); (have _ := hB2); (refine at_build_lease _ _ 4 1 (by rfl) (by rfl) (by rfl) (by rfl) ?_))
    | ((fail_if_success (have _ := hB3)); (have _ := hB2); (refine at_load_bk _ _ _ (by rfl) (by rfl) hXb2 (by rfl) ?_))
    | ((fail_if_success (have _ := hB3)); (have _ := hB2); (with_reducible refine (hA1 _).mono ?_); rintro e w3 ⟨hh3, rfl, -, -, hB3⟩; have hXb3 := hXb2.below hB3; have hC3 := bnext hC2 hB3)
    | ((fail_if_success (have _ := hB4)); (have _ := hB3); (refine at_alloc_bk (by rfl) (by rfl) ?_); intro V4 hXc4 hB4 hz4)
    | ((fail_if_success (have _ := hB5)); (have _ := hB4); (refine at_store_bk _ _ _ _ _ (by rfl) (by rfl) (by rfl) hXc4 rfl (by rfl) ?_); intro V5 hXc5 hg5 hz5; have hB5 := hB4.grown hg5 hB4.size (by simp); have hXb5 := hXb3.below hB5; have hC5 := bnext hC3 hB5)
    | ((fail_if_success (have _ := hB6)); (have _ := hB5); (refine at_load_bk _ _ _ (by rfl) (by rfl) hXb5 (by rfl) ?_))
    | ((fail_if_success (have _ := hB6)); (have _ := hB5); (refine at_load_bk _ _ _ (by rfl) (by rfl) hXc5 (by rfl) ?_))
    | ((fail_if_success (have _ := hB6)); (have _ := hB5); (refine at_liti (by rfl) (by rfl) ?_); intro V6 r6 hB6; have hXb6 := hXb5.below hB6; have hXc6 := hXc5.below hB6; have hC6 := bnext hC5 hB6; have hFp6 := r6)
    | ((fail_if_success (have _ := hB7)); (have _ := hB6); (refine at_build_drops _ _ _ _ (by rfl) (by rfl) (by rfl) ?_))
    | ((fail_if_success (have _ := hB7)); (have _ := hB6); (refine at_load_bk _ _ _ (by rfl) (by rfl) hXb6 (by rfl) ?_))
    | ((fail_if_success (have _ := hB7)); (have _ := hB6); (refine at_load_bk _ _ _ (by rfl) (by rfl) hXc6 (by rfl) ?_))
    | ((fail_if_success (have _ := hB7)); (have _ := hB6); (with_reducible refine (hA2 hFp6).mono ?_); rintro e w7 ⟨hh7, rfl, -, -, hB7⟩; have hXb7 := hXb6.below hB7; have hXc7 := hXc6.below hB7; have hFp7 := hFp6.below hB7; have hC7 := bnext hC6 hB7)
    | ((fail_if_success (have _ := hB8)); (have _ := hB7); (refine at_alloc_bk (by rfl) (by rfl) ?_); intro V8 hXd8 hB8 hz8)
    | ((fail_if_success (have _ := hB9)); (have _ := hB8); (refine at_store_bk _ _ _ _ _ (by rfl) (by rfl) (by rfl) hXd8 rfl (by rfl) ?_); intro V9 hXd9 hg9 hz9; have hB9 := hB8.grown hg9 hB8.size (by simp); have hXb9 := hXb7.below hB9; have hXc9 := hXc7.below hB9; have hFp9 := hFp7.below hB9; have hC9 := bnext hC7 hB9)
    | ((fail_if_success (have _ := hB10)); (have _ := hB9); (refine at_build_period _ 3 (by rfl) (by rfl) (by rfl) ?_))
    | ((fail_if_success (have _ := hB10)); (have _ := hB9); (refine at_load_bk _ _ _ (by rfl) (by rfl) hXb9 (by rfl) ?_))
    | ((fail_if_success (have _ := hB10)); (have _ := hB9); (refine at_load_bk _ _ _ (by rfl) (by rfl) hXc9 (by rfl) ?_))
    | ((fail_if_success (have _ := hB10)); (have _ := hB9); (refine at_load_bk _ _ _ (by rfl) (by rfl) hXd9 (by rfl) ?_))
    | ((fail_if_success (have _ := hB10)); (have _ := hB9); (with_reducible refine (hA3 _).mono ?_); rintro e w10 ⟨hh10, rfl, -, -, hB10⟩; have hXb10 := hXb9.below hB10; have hXc10 := hXc9.below hB10; have hXd10 := hXd9.below hB10; have hFp10 := hFp9.below hB10; have hC10 := bnext hC9 hB10)
    | ((fail_if_success (have _ := hB11)); (have _ := hB10); (refine at_alloc_bk (by rfl) (by rfl) ?_); intro V11 hXf11 hB11 hz11)
    | ((fail_if_success (have _ := hB12)); (have _ := hB11); (refine at_store_bk _ _ _ _ _ (by rfl) (by rfl) (by rfl) hXf11 rfl (by rfl) ?_); intro V12 hXf12 hg12 hz12; have hB12 := hB11.grown hg12 hB11.size (by simp); have hXb12 := hXb10.below hB12; have hXc12 := hXc10.below hB12; have hXd12 := hXd10.below hB12; have hFp12 := hFp10.below hB12; have hC12 := bnext hC10 hB12)
    | ((fail_if_success (have _ := hB13)); (have _ := hB12); (refine at_build_period _ 2 (by rfl) (by rfl) (by rfl) ?_))
    | ((fail_if_success (have _ := hB13)); (have _ := hB12); (refine at_load_bk _ _ _ (by rfl) (by rfl) hXb12 (by rfl) ?_))
    | ((fail_if_success (have _ := hB13)); (have _ := hB12); (refine at_load_bk _ _ _ (by rfl) (by rfl) hXc12 (by rfl) ?_))
    | ((fail_if_success (have _ := hB13)); (have _ := hB12); (refine at_load_bk _ _ _ (by rfl) (by rfl) hXd12 (by rfl) ?_))
    | ((fail_if_success (have _ := hB13)); (have _ := hB12); (refine at_load_bk _ _ _ (by rfl) (by rfl) hXf12 (by rfl) ?_))
    | ((fail_if_success (have _ := hB13)); (have _ := hB12); (with_reducible refine (hA4 _).mono ?_); rintro e w13 ⟨⟨t13, q13, n13, c13⟩, rfl, ⟨et13, -, -⟩, -, hB13⟩; have hXb13 := hXb12.below hB13; have hXc13 := hXc12.below hB13; have hXd13 := hXd12.below hB13; have hXf13 := hXf12.below hB13; have hFp13 := hFp12.below hB13; have hC13 := bnext hC12 hB13; rw [ex_roll] at et13; simp only at et13; subst et13)
    | ((fail_if_success (have _ := hB14)); (have _ := hB13); (refine at_alloc_bk (by rfl) (by rfl) ?_); intro V14 hXg14 hB14 hz14)
    | ((fail_if_success (have _ := hB15)); (have _ := hB14); (refine at_store_bk _ _ _ _ _ (by rfl) (by rfl) (by rfl) hXg14 rfl (by rfl) ?_); intro V15 hXg15 hg15 hz15; have hB15 := hB14.grown hg15 hB14.size (by simp); have hXb15 := hXb13.below hB15; have hXc15 := hXc13.below hB15; have hXd15 := hXd13.below hB15; have hXf15 := hXf13.below hB15; have hFp15 := hFp13.below hB15; have hC15 := bnext hC13 hB15)
    | ((fail_if_success (have _ := hB16)); (have _ := hB15); (refine at_load_bk _ _ _ (by rfl) (by rfl) hXb15 (by rfl) ?_))
    | ((fail_if_success (have _ := hB16)); (have _ := hB15); (refine at_load_bk _ _ _ (by rfl) (by rfl) hXc15 (by rfl) ?_))
    | ((fail_if_success (have _ := hB16)); (have _ := hB15); (refine at_load_bk _ _ _ (by rfl) (by rfl) hXd15 (by rfl) ?_))
    | ((fail_if_success (have _ := hB16)); (have _ := hB15); (refine at_load_bk _ _ _ (by rfl) (by rfl) hXf15 (by rfl) ?_))
    | ((fail_if_success (have _ := hB16)); (have _ := hB15); (refine at_load_bk _ _ _ (by rfl) (by rfl) hXg15 (by rfl) ?_))
    | ((fail_if_success (have _ := hB16)); (have _ := hB15); (with_reducible refine (hRd _).mono ?_); rintro e w16 ⟨hh16, rfl, -, -, hB16⟩; have hXb16 := hXb15.below hB16; have hXc16 := hXc15.below hB16; have hXd16 := hXd15.below hB16; have hXf16 := hXf15.below hB16; have hXg16 := hXg15.below hB16; have hFp16 := hFp15.below hB16; have hC16 := bnext hC15 hB16)
    | ((fail_if_success (have _ := hB17)); (have _ := hB16); (refine at_alloc_bk (by rfl) (by rfl) ?_); intro V17 hXi17 hB17 hz17)
    | ((fail_if_success (have _ := hB18)); (have _ := hB17); (refine at_store_bk _ _ _ _ _ (by rfl) (by rfl) (by rfl) hXi17 rfl (by rfl) ?_); intro V18 hXi18 hg18 hz18; have hB18 := hB17.grown hg18 hB17.size (by simp); have hXb18 := hXb16.below hB18; have hXc18 := hXc16.below hB18; have hXd18 := hXd16.below hB18; have hXf18 := hXf16.below hB18; have hXg18 := hXg16.below hB18; have hFp18 := hFp16.below hB18; have hC18 := bnext hC16 hB18)
    | ((fail_if_success (have _ := hB19)); (have _ := hB18); (refine at_load_bk _ _ _ (by rfl) (by rfl) hXb18 (by rfl) ?_))
    | ((fail_if_success (have _ := hB19)); (have _ := hB18); (refine at_load_bk _ _ _ (by rfl) (by rfl) hXc18 (by rfl) ?_))
    | ((fail_if_success (have _ := hB19)); (have _ := hB18); (refine at_load_bk _ _ _ (by rfl) (by rfl) hXd18 (by rfl) ?_))
    | ((fail_if_success (have _ := hB19)); (have _ := hB18); (refine at_load_bk _ _ _ (by rfl) (by rfl) hXf18 (by rfl) ?_))
    | ((fail_if_success (have _ := hB19)); (have _ := hB18); (refine at_load_bk _ _ _ (by rfl) (by rfl) hXg18 (by rfl) ?_))
    | ((fail_if_success (have _ := hB19)); (have _ := hB18); (refine at_load_bk _ _ _ (by rfl) (by rfl) hXi18 (by rfl) ?_))
    | ((fail_if_success (have _ := hB19)); (have _ := hB18); (with_reducible refine (ha _).mono ?_); rintro e w19 ⟨rfl, hB19⟩; have hXb19 := hXb18.below hB19; have hXc19 := hXc18.below hB19; have hXd19 := hXd18.below hB19; have hXf19 := hXf18.below hB19; have hXg19 := hXg18.below hB19; have hXi19 := hXi18.below hB19; have hFp19 := hFp18.below hB19; have hC19 := bnext hC18 hB19; have cg := cells_bk hXg19; simp only at cg)
    | ((fail_if_success (have _ := hB20)); (have _ := hB19); (refine at_build_bzero (by rfl) (by rfl) ?_))
    | ((fail_if_success (have _ := hB20)); (have _ := hB19); (refine at_load_bk _ _ _ (by rfl) (by rfl) hXb19 (by rfl) ?_))
    | ((fail_if_success (have _ := hB20)); (have _ := hB19); (refine at_load_bk _ _ _ (by rfl) (by rfl) hXc19 (by rfl) ?_))
    | ((fail_if_success (have _ := hB20)); (have _ := hB19); (refine at_load_bk _ _ _ (by rfl) (by rfl) hXd19 (by rfl) ?_))
    | ((fail_if_success (have _ := hB20)); (have _ := hB19); (refine at_load_bk _ _ _ (by rfl) (by rfl) hXf19 (by rfl) ?_))
    | ((fail_if_success (have _ := hB20)); (have _ := hB19); (refine at_load_bk _ _ _ (by rfl) (by rfl) hXg19 (by rfl) ?_))
    | ((fail_if_success (have _ := hB20)); (have _ := hB19); (refine at_load_bk _ _ _ (by rfl) (by rfl) hXi19 (by rfl) ?_))
    | ((fail_if_success (have _ := hB20)); (have _ := hB19); (with_reducible refine (hRt _).mono ?_); rintro e w20 ⟨rfl, hB20⟩; have hXb20 := hXb19.below hB20; have hXc20 := hXc19.below hB20; have hXd20 := hXd19.below hB20; have hXf20 := hXf19.below hB20; have hXg20 := hXg19.below hB20; have hXi20 := hXi19.below hB20; have hFp20 := hFp19.below hB20; have hC20 := bnext hC19 hB20)
    | ((fail_if_success (have _ := hB21)); (have _ := hB20); (refine at_load_bk _ _ _ (by rfl) (by rfl) hXb20 (by rfl) ?_))
    | ((fail_if_success (have _ := hB21)); (have _ := hB20); (refine at_load_bk _ _ _ (by rfl) (by rfl) hXc20 (by rfl) ?_))
    | ((fail_if_success (have _ := hB21)); (have _ := hB20); (refine at_load_bk _ _ _ (by rfl) (by rfl) hXd20 (by rfl) ?_))
    | ((fail_if_success (have _ := hB21)); (have _ := hB20); (refine at_load_bk _ _ _ (by rfl) (by rfl) hXf20 (by rfl) ?_))
    | ((fail_if_success (have _ := hB21)); (have _ := hB20); (refine at_load_bk _ _ _ (by rfl) (by rfl) hXg20 (by rfl) ?_))
    | ((fail_if_success (have _ := hB21)); (have _ := hB20); (refine at_load_bk _ _ _ (by rfl) (by rfl) hXi20 (by rfl) ?_)))
  go_ret
  exact ⟨rfl, hC20⟩
end Go.Proofs.Ytnaofcggdjbocaa.Book
