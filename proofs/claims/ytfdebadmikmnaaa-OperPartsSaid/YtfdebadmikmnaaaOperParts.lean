/- For any three numbers of sixteen bits: And and Or are spread over one another; what one of two adds to the other one is nothing new; Ite is told by And, Or and Not: the law returns true. No condition. -/
import Derived.Test.YtfdebadmikmnaaaOperTables
namespace Go.Proofs.Ytfdebadmikmnaaa
open Go.ChangeShapes Go.WideShapes Go.ChangeAt Go.RowKit Go.Maps

set_option maxHeartbeats 4000000 in
set_option maxRecDepth 100000 in
theorem parts_core (x y z : Int) (w : World) : Calls Try.prog 8 #[.agg #[.int .i64 x, .int .i64 y, .int .i64 z]] w fun e w' => e = .returned (.bool true) ∧ Below w.heap.size w w' := by
  obtain ⟨a, _, ea⟩ := low16 x
  obtain ⟨b, _, eb⟩ := low16 y
  obtain ⟨c, _, ec⟩ := low16 z
  have bw := (Below.refl w.heap.size w).alloc (Nat.le_refl _) (.cells #[.int .i64 x, .int .i64 y, .int .i64 z] 22)
  have hr := heap_alloc_new w (.cells #[.int .i64 x, .int .i64 y, .int .i64 z] 22)
  have BG := begun_any 2000 (by omega) (by omega) (w.alloc (.cells #[.int .i64 x, .int .i64 y, .int .i64 z] 22))
  change Calls _ _ #[.int .i64 2000] _ _ at BG
  have BG := Lib.hid BG
  have BW := Lib.hid bw
  have HR := Lib.hid hr
  clear bw hr
  go_enter Try.func8, Try.ntmps8
  go_wp2_with fail
  refine BG.out.mono ?_
  rintro e w1 ⟨m1, o, rfl, l1⟩
  have L1 := Lib.hid l1
  clear l1 BG
  unfold ptrV at *
  have x0 := cell_of_row _ _ 0 _ _ _ ((L1.out.below.block _ (row_lt HR.out)).trans HR.out)
  simp at x0
  have T := make_any L1.out.ost.st L1.out.V ((a : Int))
  unfold ptrV at T
  have T := Lib.hid T
  go_wp2_with fail
  refine T.out.mono ?_
  intro e w2 hout
  obtain ⟨nx, m2, h2, cs2, rfl, l2, ex, -, sN, aN, sN2⟩ := L1.out.make (by omega) hout
  clear hout T
  obtain ⟨fx, hfn⟩ : ∃ f : (Nat → Bool) → Bool, ∀ val, Says 4 cs2 val nx = f val := ⟨_, sN2⟩
  clear sN2
  have sN2 := hfn
  clear hfn
  have SX_nx_2 := Lib.hid sN2
  have AT_nx_2 := Lib.hid aN
  have S2 := Lib.hid sN
  have L2 := Lib.hid l2
  clear l2 ex sN aN sN2 L1
  clear x0
  have x1 := cell_of_row _ _ 1 _ _ _ ((L2.out.below.block _ (row_lt HR.out)).trans HR.out)
  simp at x1
  have T := make_any L2.out.ost.st L2.out.V ((b : Int))
  rw [S2.out] at T
  unfold ptrV at T
  have T := Lib.hid T
  go_wp2_with fail
  refine T.out.mono ?_
  intro e w3 hout
  obtain ⟨ny, m3, h3, cs3, rfl, l3, ex, -, sN, aN, sN2⟩ := L2.out.make (by omega) hout
  clear hout T
  obtain ⟨fy, hfn⟩ : ∃ f : (Nat → Bool) → Bool, ∀ val, Says 4 cs3 val ny = f val := ⟨_, sN2⟩
  clear sN2
  have sN2 := hfn
  clear hfn
  have SX_nx_3 := Lib.hid (Says_at AT_nx_2.out ex L2.out.good l3.good SX_nx_2.out)
  have AT_nx_3 := Lib.hid (AT_nx_2.out.ext ex)
  have SX_ny_3 := Lib.hid sN2
  have AT_ny_3 := Lib.hid aN
  have S3 := Lib.hid (sN.trans S2.out)
  have L3 := Lib.hid l3
  clear SX_nx_2 AT_nx_2 l3 ex sN aN sN2 S2 L2
  clear x1
  have x2 := cell_of_row _ _ 2 _ _ _ ((L3.out.below.block _ (row_lt HR.out)).trans HR.out)
  simp at x2
  have T := make_any L3.out.ost.st L3.out.V ((c : Int))
  rw [S3.out] at T
  unfold ptrV at T
  have T := Lib.hid T
  go_wp2_with fail
  refine T.out.mono ?_
  intro e w4 hout
  obtain ⟨nz, m4, h4, cs4, rfl, l4, ex, -, sN, aN, sN2⟩ := L3.out.make (by omega) hout
  clear hout T
  obtain ⟨fz, hfn⟩ : ∃ f : (Nat → Bool) → Bool, ∀ val, Says 4 cs4 val nz = f val := ⟨_, sN2⟩
  clear sN2
  have sN2 := hfn
  clear hfn
  have SX_nx_4 := Lib.hid (Says_at AT_nx_3.out ex L3.out.good l4.good SX_nx_3.out)
  have AT_nx_4 := Lib.hid (AT_nx_3.out.ext ex)
  have SX_ny_4 := Lib.hid (Says_at AT_ny_3.out ex L3.out.good l4.good SX_ny_3.out)
  have AT_ny_4 := Lib.hid (AT_ny_3.out.ext ex)
  have SX_nz_4 := Lib.hid sN2
  have AT_nz_4 := Lib.hid aN
  have S4 := Lib.hid (sN.trans S3.out)
  have L4 := Lib.hid l4
  clear SX_nx_3 AT_nx_3 SX_ny_3 AT_ny_3 l4 ex sN aN sN2 S3 L3
  clear x2
  have T := Lib.hid (or_good L4.out.ost L4.out.room AT_ny_4.out AT_nz_4.out)
  go_wp2_with fail
  refine T.out.mono ?_
  intro e w5 hout
  obtain ⟨nbc, m5, h5, cs5, mb5, rfl, l5, ex, -, sN, aN, sN2⟩ := L4.out.ask (by omega) hout
  clear hout T
  have sN2 : ∀ val, Says 4 cs5 val nbc = (fy val || fz val) := fun val => by
    rw [sN2]
    simp only [qsem, Says_one, SX_ny_4.out, SX_nz_4.out]
    cases fx val <;> cases fy val <;> cases fz val <;> rfl
  have SX_nx_5 := Lib.hid (Says_at AT_nx_4.out ex L4.out.good l5.good SX_nx_4.out)
  have AT_nx_5 := Lib.hid (AT_nx_4.out.ext ex)
  have SX_ny_5 := Lib.hid (Says_at AT_ny_4.out ex L4.out.good l5.good SX_ny_4.out)
  have AT_ny_5 := Lib.hid (AT_ny_4.out.ext ex)
  have SX_nz_5 := Lib.hid (Says_at AT_nz_4.out ex L4.out.good l5.good SX_nz_4.out)
  have AT_nz_5 := Lib.hid (AT_nz_4.out.ext ex)
  have SX_nbc_5 := Lib.hid sN2
  have AT_nbc_5 := Lib.hid aN
  have S5 := Lib.hid (sN.trans S4.out)
  have L5 := Lib.hid l5
  clear SX_nx_4 AT_nx_4 SX_ny_4 AT_ny_4 SX_nz_4 AT_nz_4 l5 ex sN aN sN2 S4 L4
  have T := Lib.hid (and_good L5.out.ost L5.out.room AT_nx_5.out AT_nbc_5.out)
  go_wp2_with fail
  refine T.out.mono ?_
  intro e w6 hout
  obtain ⟨n1, m6, h6, cs6, mb6, rfl, l6, ex, -, sN, aN, sN2⟩ := L5.out.ask (by omega) hout
  clear hout T
  have sN2 : ∀ val, Says 4 cs6 val n1 = (fx val && (fy val || fz val)) := fun val => by
    rw [sN2]
    simp only [qsem, Says_zero, SX_nx_5.out, SX_nbc_5.out]
    cases fx val <;> cases fy val <;> cases fz val <;> rfl
  have SX_nx_6 := Lib.hid (Says_at AT_nx_5.out ex L5.out.good l6.good SX_nx_5.out)
  have AT_nx_6 := Lib.hid (AT_nx_5.out.ext ex)
  have SX_ny_6 := Lib.hid (Says_at AT_ny_5.out ex L5.out.good l6.good SX_ny_5.out)
  have AT_ny_6 := Lib.hid (AT_ny_5.out.ext ex)
  have SX_nz_6 := Lib.hid (Says_at AT_nz_5.out ex L5.out.good l6.good SX_nz_5.out)
  have AT_nz_6 := Lib.hid (AT_nz_5.out.ext ex)
  have SX_nbc_6 := Lib.hid (Says_at AT_nbc_5.out ex L5.out.good l6.good SX_nbc_5.out)
  have AT_nbc_6 := Lib.hid (AT_nbc_5.out.ext ex)
  have SX_n1_6 := Lib.hid sN2
  have AT_n1_6 := Lib.hid aN
  have S6 := Lib.hid (sN.trans S5.out)
  have L6 := Lib.hid l6
  clear SX_nx_5 AT_nx_5 SX_ny_5 AT_ny_5 SX_nz_5 AT_nz_5 SX_nbc_5 AT_nbc_5 l6 ex sN aN sN2 S5 L5
  have T := Lib.hid (and_good L6.out.ost L6.out.room AT_nx_6.out AT_ny_6.out)
  go_wp2_with fail
  refine T.out.mono ?_
  intro e w7 hout
  obtain ⟨nab, m7, h7, cs7, mb7, rfl, l7, ex, -, sN, aN, sN2⟩ := L6.out.ask (by omega) hout
  clear hout T
  have sN2 : ∀ val, Says 4 cs7 val nab = (fx val && fy val) := fun val => by
    rw [sN2]
    simp only [qsem, Says_zero, SX_nx_6.out, SX_ny_6.out]
    cases fx val <;> cases fy val <;> cases fz val <;> rfl
  have SX_nx_7 := Lib.hid (Says_at AT_nx_6.out ex L6.out.good l7.good SX_nx_6.out)
  have AT_nx_7 := Lib.hid (AT_nx_6.out.ext ex)
  have SX_ny_7 := Lib.hid (Says_at AT_ny_6.out ex L6.out.good l7.good SX_ny_6.out)
  have AT_ny_7 := Lib.hid (AT_ny_6.out.ext ex)
  have SX_nz_7 := Lib.hid (Says_at AT_nz_6.out ex L6.out.good l7.good SX_nz_6.out)
  have AT_nz_7 := Lib.hid (AT_nz_6.out.ext ex)
  have SX_nbc_7 := Lib.hid (Says_at AT_nbc_6.out ex L6.out.good l7.good SX_nbc_6.out)
  have AT_nbc_7 := Lib.hid (AT_nbc_6.out.ext ex)
  have SX_n1_7 := Lib.hid (Says_at AT_n1_6.out ex L6.out.good l7.good SX_n1_6.out)
  have AT_n1_7 := Lib.hid (AT_n1_6.out.ext ex)
  have SX_nab_7 := Lib.hid sN2
  have AT_nab_7 := Lib.hid aN
  have S7 := Lib.hid (sN.trans S6.out)
  have L7 := Lib.hid l7
  clear SX_nx_6 AT_nx_6 SX_ny_6 AT_ny_6 SX_nz_6 AT_nz_6 SX_nbc_6 AT_nbc_6 SX_n1_6 AT_n1_6 l7 ex sN aN sN2 S6 L6
  have T := Lib.hid (and_good L7.out.ost L7.out.room AT_nx_7.out AT_nz_7.out)
  go_wp2_with fail
  refine T.out.mono ?_
  intro e w8 hout
  obtain ⟨nac, m8, h8, cs8, mb8, rfl, l8, ex, -, sN, aN, sN2⟩ := L7.out.ask (by omega) hout
  clear hout T
  have sN2 : ∀ val, Says 4 cs8 val nac = (fx val && fz val) := fun val => by
    rw [sN2]
    simp only [qsem, Says_zero, SX_nx_7.out, SX_nz_7.out]
    cases fx val <;> cases fy val <;> cases fz val <;> rfl
  have SX_nx_8 := Lib.hid (Says_at AT_nx_7.out ex L7.out.good l8.good SX_nx_7.out)
  have AT_nx_8 := Lib.hid (AT_nx_7.out.ext ex)
  have SX_ny_8 := Lib.hid (Says_at AT_ny_7.out ex L7.out.good l8.good SX_ny_7.out)
  have AT_ny_8 := Lib.hid (AT_ny_7.out.ext ex)
  have SX_nz_8 := Lib.hid (Says_at AT_nz_7.out ex L7.out.good l8.good SX_nz_7.out)
  have AT_nz_8 := Lib.hid (AT_nz_7.out.ext ex)
  have SX_nbc_8 := Lib.hid (Says_at AT_nbc_7.out ex L7.out.good l8.good SX_nbc_7.out)
  have AT_nbc_8 := Lib.hid (AT_nbc_7.out.ext ex)
  have SX_n1_8 := Lib.hid (Says_at AT_n1_7.out ex L7.out.good l8.good SX_n1_7.out)
  have AT_n1_8 := Lib.hid (AT_n1_7.out.ext ex)
  have SX_nab_8 := Lib.hid (Says_at AT_nab_7.out ex L7.out.good l8.good SX_nab_7.out)
  have AT_nab_8 := Lib.hid (AT_nab_7.out.ext ex)
  have SX_nac_8 := Lib.hid sN2
  have AT_nac_8 := Lib.hid aN
  have S8 := Lib.hid (sN.trans S7.out)
  have L8 := Lib.hid l8
  clear SX_nx_7 AT_nx_7 SX_ny_7 AT_ny_7 SX_nz_7 AT_nz_7 SX_nbc_7 AT_nbc_7 SX_n1_7 AT_n1_7 SX_nab_7 AT_nab_7 l8 ex sN aN sN2 S7 L7
  have T := Lib.hid (or_good L8.out.ost L8.out.room AT_nab_8.out AT_nac_8.out)
  go_wp2_with fail
  refine T.out.mono ?_
  intro e w9 hout
  obtain ⟨n2, m9, h9, cs9, mb9, rfl, l9, ex, -, sN, aN, sN2⟩ := L8.out.ask (by omega) hout
  clear hout T
  have sN2 : ∀ val, Says 4 cs9 val n2 = ((fx val && fy val) || (fx val && fz val)) := fun val => by
    rw [sN2]
    simp only [qsem, Says_one, SX_nab_8.out, SX_nac_8.out]
    cases fx val <;> cases fy val <;> cases fz val <;> rfl
  have SX_nx_9 := Lib.hid (Says_at AT_nx_8.out ex L8.out.good l9.good SX_nx_8.out)
  have AT_nx_9 := Lib.hid (AT_nx_8.out.ext ex)
  have SX_ny_9 := Lib.hid (Says_at AT_ny_8.out ex L8.out.good l9.good SX_ny_8.out)
  have AT_ny_9 := Lib.hid (AT_ny_8.out.ext ex)
  have SX_nz_9 := Lib.hid (Says_at AT_nz_8.out ex L8.out.good l9.good SX_nz_8.out)
  have AT_nz_9 := Lib.hid (AT_nz_8.out.ext ex)
  have SX_nbc_9 := Lib.hid (Says_at AT_nbc_8.out ex L8.out.good l9.good SX_nbc_8.out)
  have AT_nbc_9 := Lib.hid (AT_nbc_8.out.ext ex)
  have SX_n1_9 := Lib.hid (Says_at AT_n1_8.out ex L8.out.good l9.good SX_n1_8.out)
  have AT_n1_9 := Lib.hid (AT_n1_8.out.ext ex)
  have SX_nab_9 := Lib.hid (Says_at AT_nab_8.out ex L8.out.good l9.good SX_nab_8.out)
  have AT_nab_9 := Lib.hid (AT_nab_8.out.ext ex)
  have SX_nac_9 := Lib.hid (Says_at AT_nac_8.out ex L8.out.good l9.good SX_nac_8.out)
  have AT_nac_9 := Lib.hid (AT_nac_8.out.ext ex)
  have SX_n2_9 := Lib.hid sN2
  have AT_n2_9 := Lib.hid aN
  have S9 := Lib.hid (sN.trans S8.out)
  have L9 := Lib.hid l9
  clear SX_nx_8 AT_nx_8 SX_ny_8 AT_ny_8 SX_nz_8 AT_nz_8 SX_nbc_8 AT_nbc_8 SX_n1_8 AT_n1_8 SX_nab_8 AT_nab_8 SX_nac_8 AT_nac_8 l9 ex sN aN sN2 S8 L8
  have T := Lib.hid (or_good L9.out.ost L9.out.room AT_nx_9.out AT_nab_9.out)
  go_wp2_with fail
  refine T.out.mono ?_
  intro e w10 hout
  obtain ⟨nbk, m10, h10, cs10, mb10, rfl, l10, ex, -, sN, aN, sN2⟩ := L9.out.ask (by omega) hout
  clear hout T
  have sN2 : ∀ val, Says 4 cs10 val nbk = (fx val || (fx val && fy val)) := fun val => by
    rw [sN2]
    simp only [qsem, Says_one, SX_nx_9.out, SX_nab_9.out]
    cases fx val <;> cases fy val <;> cases fz val <;> rfl
  have SX_nx_10 := Lib.hid (Says_at AT_nx_9.out ex L9.out.good l10.good SX_nx_9.out)
  have AT_nx_10 := Lib.hid (AT_nx_9.out.ext ex)
  have SX_ny_10 := Lib.hid (Says_at AT_ny_9.out ex L9.out.good l10.good SX_ny_9.out)
  have AT_ny_10 := Lib.hid (AT_ny_9.out.ext ex)
  have SX_nz_10 := Lib.hid (Says_at AT_nz_9.out ex L9.out.good l10.good SX_nz_9.out)
  have AT_nz_10 := Lib.hid (AT_nz_9.out.ext ex)
  have SX_nbc_10 := Lib.hid (Says_at AT_nbc_9.out ex L9.out.good l10.good SX_nbc_9.out)
  have AT_nbc_10 := Lib.hid (AT_nbc_9.out.ext ex)
  have SX_n1_10 := Lib.hid (Says_at AT_n1_9.out ex L9.out.good l10.good SX_n1_9.out)
  have AT_n1_10 := Lib.hid (AT_n1_9.out.ext ex)
  have SX_nab_10 := Lib.hid (Says_at AT_nab_9.out ex L9.out.good l10.good SX_nab_9.out)
  have AT_nab_10 := Lib.hid (AT_nab_9.out.ext ex)
  have SX_nac_10 := Lib.hid (Says_at AT_nac_9.out ex L9.out.good l10.good SX_nac_9.out)
  have AT_nac_10 := Lib.hid (AT_nac_9.out.ext ex)
  have SX_n2_10 := Lib.hid (Says_at AT_n2_9.out ex L9.out.good l10.good SX_n2_9.out)
  have AT_n2_10 := Lib.hid (AT_n2_9.out.ext ex)
  have SX_nbk_10 := Lib.hid sN2
  have AT_nbk_10 := Lib.hid aN
  have S10 := Lib.hid (sN.trans S9.out)
  have L10 := Lib.hid l10
  clear SX_nx_9 AT_nx_9 SX_ny_9 AT_ny_9 SX_nz_9 AT_nz_9 SX_nbc_9 AT_nbc_9 SX_n1_9 AT_n1_9 SX_nab_9 AT_nab_9 SX_nac_9 AT_nac_9 SX_n2_9 AT_n2_9 l10 ex sN aN sN2 S9 L9
  have T := Lib.hid (not_good L10.out.ost L10.out.room AT_nx_10.out)
  go_wp2_with fail
  refine T.out.mono ?_
  intro e w11 hout
  obtain ⟨nnt, m11, h11, cs11, mb11, rfl, l11, ex, -, sN, aN, sN2⟩ := L10.out.ask (by omega) hout
  clear hout T
  have sN2 : ∀ val, Says 4 cs11 val nnt = (!fx val) := fun val => by
    rw [sN2]
    simp only [qsem, Says_one, Says_zero, SX_nx_10.out]
    cases fx val <;> cases fy val <;> cases fz val <;> rfl
  have SX_nx_11 := Lib.hid (Says_at AT_nx_10.out ex L10.out.good l11.good SX_nx_10.out)
  have AT_nx_11 := Lib.hid (AT_nx_10.out.ext ex)
  have SX_ny_11 := Lib.hid (Says_at AT_ny_10.out ex L10.out.good l11.good SX_ny_10.out)
  have AT_ny_11 := Lib.hid (AT_ny_10.out.ext ex)
  have SX_nz_11 := Lib.hid (Says_at AT_nz_10.out ex L10.out.good l11.good SX_nz_10.out)
  have AT_nz_11 := Lib.hid (AT_nz_10.out.ext ex)
  have SX_nbc_11 := Lib.hid (Says_at AT_nbc_10.out ex L10.out.good l11.good SX_nbc_10.out)
  have AT_nbc_11 := Lib.hid (AT_nbc_10.out.ext ex)
  have SX_n1_11 := Lib.hid (Says_at AT_n1_10.out ex L10.out.good l11.good SX_n1_10.out)
  have AT_n1_11 := Lib.hid (AT_n1_10.out.ext ex)
  have SX_nab_11 := Lib.hid (Says_at AT_nab_10.out ex L10.out.good l11.good SX_nab_10.out)
  have AT_nab_11 := Lib.hid (AT_nab_10.out.ext ex)
  have SX_nac_11 := Lib.hid (Says_at AT_nac_10.out ex L10.out.good l11.good SX_nac_10.out)
  have AT_nac_11 := Lib.hid (AT_nac_10.out.ext ex)
  have SX_n2_11 := Lib.hid (Says_at AT_n2_10.out ex L10.out.good l11.good SX_n2_10.out)
  have AT_n2_11 := Lib.hid (AT_n2_10.out.ext ex)
  have SX_nbk_11 := Lib.hid (Says_at AT_nbk_10.out ex L10.out.good l11.good SX_nbk_10.out)
  have AT_nbk_11 := Lib.hid (AT_nbk_10.out.ext ex)
  have SX_nnt_11 := Lib.hid sN2
  have AT_nnt_11 := Lib.hid aN
  have S11 := Lib.hid (sN.trans S10.out)
  have L11 := Lib.hid l11
  clear SX_nx_10 AT_nx_10 SX_ny_10 AT_ny_10 SX_nz_10 AT_nz_10 SX_nbc_10 AT_nbc_10 SX_n1_10 AT_n1_10 SX_nab_10 AT_nab_10 SX_nac_10 AT_nac_10 SX_n2_10 AT_n2_10 SX_nbk_10 AT_nbk_10 l11 ex sN aN sN2 S10 L10
  have T := Lib.hid (and_good L11.out.ost L11.out.room AT_nnt_11.out AT_nz_11.out)
  go_wp2_with fail
  refine T.out.mono ?_
  intro e w12 hout
  obtain ⟨nrs, m12, h12, cs12, mb12, rfl, l12, ex, -, sN, aN, sN2⟩ := L11.out.ask (by omega) hout
  clear hout T
  have sN2 : ∀ val, Says 4 cs12 val nrs = (!fx val && fz val) := fun val => by
    rw [sN2]
    simp only [qsem, Says_zero, SX_nnt_11.out, SX_nz_11.out]
    cases fx val <;> cases fy val <;> cases fz val <;> rfl
  have SX_nx_12 := Lib.hid (Says_at AT_nx_11.out ex L11.out.good l12.good SX_nx_11.out)
  have AT_nx_12 := Lib.hid (AT_nx_11.out.ext ex)
  have SX_ny_12 := Lib.hid (Says_at AT_ny_11.out ex L11.out.good l12.good SX_ny_11.out)
  have AT_ny_12 := Lib.hid (AT_ny_11.out.ext ex)
  have SX_nz_12 := Lib.hid (Says_at AT_nz_11.out ex L11.out.good l12.good SX_nz_11.out)
  have AT_nz_12 := Lib.hid (AT_nz_11.out.ext ex)
  have SX_nbc_12 := Lib.hid (Says_at AT_nbc_11.out ex L11.out.good l12.good SX_nbc_11.out)
  have AT_nbc_12 := Lib.hid (AT_nbc_11.out.ext ex)
  have SX_n1_12 := Lib.hid (Says_at AT_n1_11.out ex L11.out.good l12.good SX_n1_11.out)
  have AT_n1_12 := Lib.hid (AT_n1_11.out.ext ex)
  have SX_nab_12 := Lib.hid (Says_at AT_nab_11.out ex L11.out.good l12.good SX_nab_11.out)
  have AT_nab_12 := Lib.hid (AT_nab_11.out.ext ex)
  have SX_nac_12 := Lib.hid (Says_at AT_nac_11.out ex L11.out.good l12.good SX_nac_11.out)
  have AT_nac_12 := Lib.hid (AT_nac_11.out.ext ex)
  have SX_n2_12 := Lib.hid (Says_at AT_n2_11.out ex L11.out.good l12.good SX_n2_11.out)
  have AT_n2_12 := Lib.hid (AT_n2_11.out.ext ex)
  have SX_nbk_12 := Lib.hid (Says_at AT_nbk_11.out ex L11.out.good l12.good SX_nbk_11.out)
  have AT_nbk_12 := Lib.hid (AT_nbk_11.out.ext ex)
  have SX_nnt_12 := Lib.hid (Says_at AT_nnt_11.out ex L11.out.good l12.good SX_nnt_11.out)
  have AT_nnt_12 := Lib.hid (AT_nnt_11.out.ext ex)
  have SX_nrs_12 := Lib.hid sN2
  have AT_nrs_12 := Lib.hid aN
  have S12 := Lib.hid (sN.trans S11.out)
  have L12 := Lib.hid l12
  clear SX_nx_11 AT_nx_11 SX_ny_11 AT_ny_11 SX_nz_11 AT_nz_11 SX_nbc_11 AT_nbc_11 SX_n1_11 AT_n1_11 SX_nab_11 AT_nab_11 SX_nac_11 AT_nac_11 SX_n2_11 AT_n2_11 SX_nbk_11 AT_nbk_11 SX_nnt_11 AT_nnt_11 l12 ex sN aN sN2 S11 L11
  have T := Lib.hid (or_good L12.out.ost L12.out.room AT_nab_12.out AT_nrs_12.out)
  go_wp2_with fail
  refine T.out.mono ?_
  intro e w13 hout
  obtain ⟨ntd, m13, h13, cs13, mb13, rfl, l13, ex, -, sN, aN, sN2⟩ := L12.out.ask (by omega) hout
  clear hout T
  have sN2 : ∀ val, Says 4 cs13 val ntd = ((fx val && fy val) || (!fx val && fz val)) := fun val => by
    rw [sN2]
    simp only [qsem, Says_one, SX_nab_12.out, SX_nrs_12.out]
    cases fx val <;> cases fy val <;> cases fz val <;> rfl
  have SX_nx_13 := Lib.hid (Says_at AT_nx_12.out ex L12.out.good l13.good SX_nx_12.out)
  have AT_nx_13 := Lib.hid (AT_nx_12.out.ext ex)
  have SX_ny_13 := Lib.hid (Says_at AT_ny_12.out ex L12.out.good l13.good SX_ny_12.out)
  have AT_ny_13 := Lib.hid (AT_ny_12.out.ext ex)
  have SX_nz_13 := Lib.hid (Says_at AT_nz_12.out ex L12.out.good l13.good SX_nz_12.out)
  have AT_nz_13 := Lib.hid (AT_nz_12.out.ext ex)
  have SX_nbc_13 := Lib.hid (Says_at AT_nbc_12.out ex L12.out.good l13.good SX_nbc_12.out)
  have AT_nbc_13 := Lib.hid (AT_nbc_12.out.ext ex)
  have SX_n1_13 := Lib.hid (Says_at AT_n1_12.out ex L12.out.good l13.good SX_n1_12.out)
  have AT_n1_13 := Lib.hid (AT_n1_12.out.ext ex)
  have SX_nab_13 := Lib.hid (Says_at AT_nab_12.out ex L12.out.good l13.good SX_nab_12.out)
  have AT_nab_13 := Lib.hid (AT_nab_12.out.ext ex)
  have SX_nac_13 := Lib.hid (Says_at AT_nac_12.out ex L12.out.good l13.good SX_nac_12.out)
  have AT_nac_13 := Lib.hid (AT_nac_12.out.ext ex)
  have SX_n2_13 := Lib.hid (Says_at AT_n2_12.out ex L12.out.good l13.good SX_n2_12.out)
  have AT_n2_13 := Lib.hid (AT_n2_12.out.ext ex)
  have SX_nbk_13 := Lib.hid (Says_at AT_nbk_12.out ex L12.out.good l13.good SX_nbk_12.out)
  have AT_nbk_13 := Lib.hid (AT_nbk_12.out.ext ex)
  have SX_nnt_13 := Lib.hid (Says_at AT_nnt_12.out ex L12.out.good l13.good SX_nnt_12.out)
  have AT_nnt_13 := Lib.hid (AT_nnt_12.out.ext ex)
  have SX_nrs_13 := Lib.hid (Says_at AT_nrs_12.out ex L12.out.good l13.good SX_nrs_12.out)
  have AT_nrs_13 := Lib.hid (AT_nrs_12.out.ext ex)
  have SX_ntd_13 := Lib.hid sN2
  have AT_ntd_13 := Lib.hid aN
  have S13 := Lib.hid (sN.trans S12.out)
  have L13 := Lib.hid l13
  clear SX_nx_12 AT_nx_12 SX_ny_12 AT_ny_12 SX_nz_12 AT_nz_12 SX_nbc_12 AT_nbc_12 SX_n1_12 AT_n1_12 SX_nab_12 AT_nab_12 SX_nac_12 AT_nac_12 SX_n2_12 AT_n2_12 SX_nbk_12 AT_nbk_12 SX_nnt_12 AT_nnt_12 SX_nrs_12 AT_nrs_12 l13 ex sN aN sN2 S12 L12
  have T := Lib.hid (ite_good L13.out.ost L13.out.room AT_nx_13.out AT_ny_13.out AT_nz_13.out)
  go_wp2_with fail
  refine T.out.mono ?_
  intro e w14 hout
  obtain ⟨nit, m14, h14, cs14, mb14, rfl, l14, ex, -, sN, aN, sN2⟩ := L13.out.ask (by omega) hout
  clear hout T
  have sN2 : ∀ val, Says 4 cs14 val nit = ((fx val && fy val) || (!fx val && fz val)) := fun val => by
    rw [sN2]
    simp only [qsem, SX_nx_13.out, SX_ny_13.out, SX_nz_13.out]
    cases fx val <;> cases fy val <;> cases fz val <;> rfl
  have SX_nx_14 := Lib.hid (Says_at AT_nx_13.out ex L13.out.good l14.good SX_nx_13.out)
  have AT_nx_14 := Lib.hid (AT_nx_13.out.ext ex)
  have SX_ny_14 := Lib.hid (Says_at AT_ny_13.out ex L13.out.good l14.good SX_ny_13.out)
  have AT_ny_14 := Lib.hid (AT_ny_13.out.ext ex)
  have SX_nz_14 := Lib.hid (Says_at AT_nz_13.out ex L13.out.good l14.good SX_nz_13.out)
  have AT_nz_14 := Lib.hid (AT_nz_13.out.ext ex)
  have SX_nbc_14 := Lib.hid (Says_at AT_nbc_13.out ex L13.out.good l14.good SX_nbc_13.out)
  have AT_nbc_14 := Lib.hid (AT_nbc_13.out.ext ex)
  have SX_n1_14 := Lib.hid (Says_at AT_n1_13.out ex L13.out.good l14.good SX_n1_13.out)
  have AT_n1_14 := Lib.hid (AT_n1_13.out.ext ex)
  have SX_nab_14 := Lib.hid (Says_at AT_nab_13.out ex L13.out.good l14.good SX_nab_13.out)
  have AT_nab_14 := Lib.hid (AT_nab_13.out.ext ex)
  have SX_nac_14 := Lib.hid (Says_at AT_nac_13.out ex L13.out.good l14.good SX_nac_13.out)
  have AT_nac_14 := Lib.hid (AT_nac_13.out.ext ex)
  have SX_n2_14 := Lib.hid (Says_at AT_n2_13.out ex L13.out.good l14.good SX_n2_13.out)
  have AT_n2_14 := Lib.hid (AT_n2_13.out.ext ex)
  have SX_nbk_14 := Lib.hid (Says_at AT_nbk_13.out ex L13.out.good l14.good SX_nbk_13.out)
  have AT_nbk_14 := Lib.hid (AT_nbk_13.out.ext ex)
  have SX_nnt_14 := Lib.hid (Says_at AT_nnt_13.out ex L13.out.good l14.good SX_nnt_13.out)
  have AT_nnt_14 := Lib.hid (AT_nnt_13.out.ext ex)
  have SX_nrs_14 := Lib.hid (Says_at AT_nrs_13.out ex L13.out.good l14.good SX_nrs_13.out)
  have AT_nrs_14 := Lib.hid (AT_nrs_13.out.ext ex)
  have SX_ntd_14 := Lib.hid (Says_at AT_ntd_13.out ex L13.out.good l14.good SX_ntd_13.out)
  have AT_ntd_14 := Lib.hid (AT_ntd_13.out.ext ex)
  have SX_nit_14 := Lib.hid sN2
  have AT_nit_14 := Lib.hid aN
  have S14 := Lib.hid (sN.trans S13.out)
  have L14 := Lib.hid l14
  clear SX_nx_13 AT_nx_13 SX_ny_13 AT_ny_13 SX_nz_13 AT_nz_13 SX_nbc_13 AT_nbc_13 SX_n1_13 AT_n1_13 SX_nab_13 AT_nab_13 SX_nac_13 AT_nac_13 SX_n2_13 AT_n2_13 SX_nbk_13 AT_nbk_13 SX_nnt_13 AT_nnt_13 SX_nrs_13 AT_nrs_13 SX_ntd_13 AT_ntd_13 l14 ex sN aN sN2 S13 L13
  have e1 : ((n1 : Int) == (n2 : Int)) = true := by
    have := same_node L14.out.good AT_n1_14.out AT_n2_14.out fun val => by
      refine (SX_n1_14.out val).trans (Eq.trans ?_ (SX_n2_14.out val).symm)
      cases fx val <;> cases fy val <;> cases fz val <;> rfl
    rw [this]; simp
  have e2 : ((nbk : Int) == (nx : Int)) = true := by
    have := same_node L14.out.good AT_nbk_14.out AT_nx_14.out fun val => by
      refine (SX_nbk_14.out val).trans (Eq.trans ?_ (SX_nx_14.out val).symm)
      cases fx val <;> cases fy val <;> cases fz val <;> rfl
    rw [this]; simp
  have e3 : ((nit : Int) == (ntd : Int)) = true := by
    have := same_node L14.out.good AT_nit_14.out AT_ntd_14.out fun val => by
      refine (SX_nit_14.out val).trans (Eq.trans ?_ (SX_ntd_14.out val).symm)
      cases fx val <;> cases fy val <;> cases fz val <;> rfl
    rw [this]; simp
  have B8 := Lib.hid L14.out.below
  have AW := Lib.hid awake4
  go_wp2_with fail
  refine (AW.out _).mono ?_
  rintro e w9 ⟨rfl, hb9⟩
  have B9 := Lib.hid (B8.out.trans (hb9.mono B8.out.size))
  clear hb9 AW
  go_wp2_with fail
  go_ret
  exact ⟨rfl, BW.out.trans (B9.out.mono BW.out.size)⟩

theorem operParts_walk (v : Value) (w : World) (h : ∃ k : Key, v = .agg #[.int .i64 k.a, .int .i64 k.b, .int .i64 k.c]) :
    Calls Try.prog 8 #[v] w fun e w' => e = .returned (.bool true) ∧ Below w.heap.size w w' := by
  obtain ⟨k, rfl⟩ := h
  exact parts_core k.a k.b k.c w

namespace operParts
set_option linter.unusedVariables false
theorem own : ownKnob Try.prog.godebug = none := by kernel_rfl
theorem laidOut : laidOutB Try.prog = true := by kernel_rfl
set_option maxRecDepth 100000 in
theorem lifted (os : Os) (started : os.Started) (H : Type) (enc : TypeId × Value → H) :
    ReturnsInHanded {} Try.checked os 8 .any (Rows.operPartsSpec.pre6 enc Try.prog Try.f8 Rows.operPartsRow.domain false) (Rows.operPartsSpec.post enc Try.prog Try.f8 false true false false) := by
  refine returnsInHanded_of_change (C := Try.checked) own started (by kernel_rfl) Try.func8
    (ChangeSpec.witness6 (enc := enc) (C := Try.checked) false ⟨#[], #[.agg #[.int .i64 0, .int .i64 0, .int .i64 0]], []⟩ 8 (by kernel_rfl) (by kernel_rfl) (by kernel_rfl) (by kernel_rfl)) ?_
  intro W base args ds gs before hval0 hW hcnd hsz
  have hval : ∀ (j : Nat) t v, Try.f8.params[j]? = some t → args[j]? = some v → Value.okWide Try.prog W .any base t v := hval0
  have hW' := hW
  obtain ⟨p, q, hA0, hV, rfl, hfz, hnd⟩ := hW
  have hA : DataW.TrodAll enc Try.prog W 0 (fun _ => true) true Try.f8.params.toList args.toList ds p := hA0
  rw [Try.params8] at hA hval
  obtain ⟨v0, vs0, d0, ds0, p0, q0, hargs, rfl, rfl, h0, r0⟩ := trodAll_cons hA
  obtain ⟨rfl, rfl, rfl⟩ := trodAll_nil r0
  obtain rfl : args = #[v0] := by cases args; simp_all
  obtain ⟨rfl, rfl⟩ := trodVars_none hV
  have k0 := h0
  have lt0 : ∀ x ∈ p0, x.block < W.heap.size := by obtain ⟨m, hm⟩ := k0; exact DataW.trod_lt m _ _ _ hm
  clear hA0 hval0
  refine (operParts_walk v0 W (arg_key h0 (hval 0 22 v0 rfl rfl))).mono fun e W' ⟨he, bel⟩ => ?_
  subst he
  exact ⟨_, rfl, _, _, _, [], _, [], hW', trodAll_mk1 (shut_bool Try.underlying4 _), (trodAll_cons_mk (Below.trod laidOut (by kernel_rfl) (of_decide_eq_true (by kernel_rfl)) k0 bel lt0) trodAll_mk0), rfl, bel.frame _, fun h => by cases h⟩
theorem over : Rows.operPartsRow.holds Try.pinned (OpenSpec.ofChange Rows.operPartsSpec) :=
  OpenClaim.holds_of_wide 8 Try.f8 rfl rfl rfl rfl rfl rfl rfl ⟨rfl, rfl, rfl, rfl, rfl⟩ rfl rfl rfl rfl rfl (by kernel_rfl) Try.func8 (by kernel_rfl)
    (of_decide_eq_true (by kernel_rfl)) (by unfold Func.isWrapper; first | (rw [if_pos (by decide +kernel)]; kernel_rfl) | (rw [if_neg (by decide +kernel)]; exact ⟨rfl, rfl⟩))
    (fun os started H enc _ => lifted os started H enc)
/-- THE STATEMENT. -/
theorem proved : Rows.OperPartsSaid := over
end operParts
#print axioms operParts.proved
end Go.Proofs.Ytfdebadmikmnaaa
