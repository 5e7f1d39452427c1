/- For any two numbers of sixteen bits: And, Or and Xor do not hang on the order of what they are of; Not of Not is it; what is not both is not the one, or not the other one; Xor is one of them without the other one: the law returns true. No condition. -/
import Derived.Test.YtfdebadmikmnaaaOperTables
namespace Go.Proofs.Ytfdebadmikmnaaa
open Go.ChangeShapes Go.WideShapes Go.ChangeAt Go.RowKit Go.Maps

/-- Two nodes in a law's store, at a loop's head. -/
def TurnRel (W : World) (o s : Nat) (fx fy : (Nat → Bool) → Bool) (nx ny : Nat) (ix : Value) (wr : World) : Prop :=
  ∃ (i : Nat) (m : Mem) (h : Hd) (cs : List Nd) (mb : Option Nat) (c : Nat), 1 ≤ i ∧ i ≤ 4 ∧ ix = .int .i64 i ∧ c ≤ 32 + 30 * i ∧ m.s = s ∧ LSt W 1000 m h cs o mb c wr ∧ At cs 0 nx ∧ At cs 0 ny ∧ (∀ val, Says 4 cs val nx = fx val) ∧ (∀ val, Says 4 cs val ny = fy val)

theorem opB_turn {K : Nat} (h1 : 1 ≤ K) (h3 : K ≤ 3) (x y z : Bool) : opB K x y z = opB K y x z := by
  rcases (by omega : K = 1 ∨ K = 2 ∨ K = 3) with rfl | rfl | rfl <;> cases x <;> cases y <;> rfl

set_option maxHeartbeats 8000000 in
set_option maxRecDepth 100000 in
theorem turns_core (x y : Int) (w : World) : Calls Try.prog 4 #[.int .i64 x, .int .i64 y] w fun e w' => e = .returned (.bool true) ∧ Below w.heap.size w w' := by
  obtain ⟨a, _, ea⟩ := low16 x
  obtain ⟨b, _, eb⟩ := low16 y
  have BG := begun_any 1000 (by omega) (by omega) w
  change Calls _ _ #[.int .i64 1000] _ _ at BG
  have BG := Lib.hid BG
  go_enter Try.func4, Try.ntmps4
  go_wp2_with fail
  refine BG.out.mono ?_
  rintro e w1 ⟨m1, o, rfl, l1⟩
  have L1 := Lib.hid l1
  clear l1 BG
  unfold ptrV at *
  have T := make_any L1.out.ost.st L1.out.V ((a : Int))
  unfold ptrV at T
  have T := Lib.hid T
  go_wp2_with fail
  refine T.out.mono ?_
  intro e w2 hout
  obtain ⟨nx, m2, h2, cs2, rfl, l2, ex, -, sN, aN, sN2⟩ := L1.out.make (by omega) hout
  clear hout T
  obtain ⟨fx, hfn⟩ : ∃ f : (Nat → Bool) → Bool, ∀ val, Says 4 cs2 val nx = f val := ⟨_, sN2⟩
  clear sN2
  have sN2 := hfn
  clear hfn
  have SX_nx_2 := Lib.hid sN2
  have AT_nx_2 := Lib.hid aN
  have S2 := Lib.hid sN
  have L2 := Lib.hid l2
  clear l2 ex sN aN sN2 L1
  have T := make_any L2.out.ost.st L2.out.V ((b : Int))
  rw [S2.out] at T
  unfold ptrV at T
  have T := Lib.hid T
  go_wp2_with fail
  refine T.out.mono ?_
  intro e w3 hout
  obtain ⟨ny, m3, h3, cs3, rfl, l3, ex, -, sN, aN, sN2⟩ := L2.out.make (by omega) hout
  clear hout T
  obtain ⟨fy, hfn⟩ : ∃ f : (Nat → Bool) → Bool, ∀ val, Says 4 cs3 val ny = f val := ⟨_, sN2⟩
  clear sN2
  have sN2 := hfn
  clear hfn
  have SX_nx_3 := Lib.hid (Says_at AT_nx_2.out ex L2.out.good l3.good SX_nx_2.out)
  have AT_nx_3 := Lib.hid (AT_nx_2.out.ext ex)
  have SX_ny_3 := Lib.hid sN2
  have AT_ny_3 := Lib.hid aN
  have S3 := Lib.hid (sN.trans S2.out)
  have L3 := Lib.hid l3
  clear SX_nx_2 AT_nx_2 l3 ex sN aN sN2 S2 L2
  go_wp2_with fail
  clear ea eb
  have R0 : Hid (TurnRel w o m1.s fx fy nx ny (.int .i64 1) w3) := ⟨1, m3, h3, cs3, none, 2 + 15 + 15, by omega, by omega, rfl, by omega, S3.out, L3.out, AT_nx_3.out, AT_ny_3.out, SX_nx_3.out, SX_ny_3.out⟩
  clear L3 S3 AT_nx_3 AT_ny_3 SX_nx_3 SX_ny_3
  go_loopw [12] (TurnRel w o m1.s fx fy nx ny) (fun ix _ => 4 - (intOf ix).toNat)
  case atStart => exact R0.out
  case round =>
    clear R0
    obtain ⟨i, m, h, cs, mb, c, hi1, hi2, rfl, hc, hs, l, ax, ay, sx, sy⟩ := hrel
    by_cases hlt : i ≤ 3
    · have T := does_good l.ost l.room (K := i) (a := nx) (b := ny) (c := 0) (by omega) ax ay (l.good.at0 (by omega))
      change Calls _ _ #[_, _, _, _, .int .i64 0] _ _ at T
      have T := Lib.hid T
      have L := Lib.hid l
      have AX := Lib.hid ax
      have AY := Lib.hid ay
      have SX := Lib.hid sx
      have SY := Lib.hid sy
      have HS := Lib.hid hs
      have hlt' : (i : Int) ≤ 3 := by omega
      have HC := Lib.hid hc
      have HL := Lib.hid hlt
      have H1 := Lib.hid hi1
      clear l ax ay sx sy hs hc hi1 hlt hi2
      go_wp2_with fail
      refine T.out.mono ?_
      intro e w5 hout
      clear T
      obtain ⟨n1, m5, h5, cs5, mb5, rfl, l5, ex, -, s5, a5, b5⟩ := L.out.ask (by have := HC.out; have := HL.out; omega) hout
      clear hout
      have b5 : ∀ val, Says 4 cs5 val n1 = opB i (fx val) (fy val) false := fun val => by rw [b5, qsem_op, SX.out, SY.out, Says_zero]
      have T := does_good l5.ost l5.room (K := i) (a := ny) (b := nx) (c := 0) (by have := HL.out; omega) (AY.out.ext ex) (AX.out.ext ex) (l5.good.at0 (by omega))
      change Calls _ _ #[_, _, _, _, .int .i64 0] _ _ at T
      have T := Lib.hid T
      have SX5 := Lib.hid (Says_at AX.out ex L.out.good l5.good SX.out)
      have SY5 := Lib.hid (Says_at AY.out ex L.out.good l5.good SY.out)
      have AX5 := Lib.hid (AX.out.ext ex)
      have AY5 := Lib.hid (AY.out.ext ex)
      have S5 := Lib.hid (s5.trans HS.out)
      have A5 := Lib.hid a5
      have B5 := Lib.hid b5
      have L5 := Lib.hid l5
      clear l5 ex s5 a5 b5 L AX AY SX SY HS
      go_wp2_with fail
      refine T.out.mono ?_
      intro e w6 hout
      clear T
      obtain ⟨n2, m6, h6, cs6, mb6, rfl, l6, ex, -, s6, a6, b6⟩ := L5.out.ask (by have := HC.out; have := HL.out; omega) hout
      clear hout
      have b6 : ∀ val, Says 4 cs6 val n2 = opB i (fy val) (fx val) false := fun val => by rw [b6, qsem_op, SX5.out, SY5.out, Says_zero]
      have hnn : n1 = n2 := same_node l6.good (A5.out.ext ex) a6 fun val => by
        rw [Says_at A5.out ex L5.out.good l6.good B5.out val, b6, opB_turn H1.out HL.out]
      have R6 : Hid (TurnRel w o m1.s fx fy nx ny (.int .i64 ((i + 1 : Nat) : Int)) w6) :=
        ⟨i + 1, m6, h6, cs6, mb6, c + 15 + 15, by omega, by have := HL.out; omega, rfl, by have := HC.out; omega, s6.trans S5.out, l6, AX5.out.ext ex, AY5.out.ext ex, Says_at AX5.out ex L5.out.good l6.good SX5.out, Says_at AY5.out ex L5.out.good l6.good SY5.out⟩
      obtain rfl := hnn
      clear l6 ex s6 a6 b6 SX5 SY5 AX5 AY5 S5 A5 B5 L5
      go_wp2_with fail
      go_roundw
      case rel => exact R6.out
      case measure => simp [intOf]; have := HL.out; omega
    · obtain rfl : i = 4 := by omega
      clear hlt hi1 hi2
      have L1 := Lib.hid l
      have AT_nx_1 := Lib.hid ax
      have AT_ny_1 := Lib.hid ay
      have SX_nx_1 := Lib.hid sx
      have SX_ny_1 := Lib.hid sy
      have S1 := Lib.hid hs
      have HC : Hid (c ≤ 152) := by show c ≤ 152; omega
      clear l ax ay sx sy hs hc
      revert L1
      generalize wr = w1
      intro L1
      have T := Lib.hid (not_good L1.out.ost L1.out.room AT_nx_1.out)
      go_wp2_with fail
      refine T.out.mono ?_
      intro e w2 hout
      obtain ⟨nn, m2, h2, cs2, mb2, rfl, l2, ex, -, sN, aN, sN2⟩ := L1.out.ask (by have := HC.out; omega) hout
      clear hout T
      have sN2 : ∀ val, Says 4 cs2 val nn = (!fx val) := fun val => by
        rw [sN2]
        simp only [qsem, Says_one, Says_zero, SX_nx_1.out]
        cases fx val <;> cases fy val <;> rfl
      have SX_nx_2 := Lib.hid (Says_at AT_nx_1.out ex L1.out.good l2.good SX_nx_1.out)
      have AT_nx_2 := Lib.hid (AT_nx_1.out.ext ex)
      have SX_ny_2 := Lib.hid (Says_at AT_ny_1.out ex L1.out.good l2.good SX_ny_1.out)
      have AT_ny_2 := Lib.hid (AT_ny_1.out.ext ex)
      have SX_nn_2 := Lib.hid sN2
      have AT_nn_2 := Lib.hid aN
      have S2 := Lib.hid (sN.trans S1.out)
      have L2 := Lib.hid l2
      clear SX_nx_1 AT_nx_1 SX_ny_1 AT_ny_1 l2 ex sN aN sN2 S1 L1
      have T := Lib.hid (not_good L2.out.ost L2.out.room AT_ny_2.out)
      go_wp2_with fail
      refine T.out.mono ?_
      intro e w3 hout
      obtain ⟨nm, m3, h3, cs3, mb3, rfl, l3, ex, -, sN, aN, sN2⟩ := L2.out.ask (by have := HC.out; omega) hout
      clear hout T
      have sN2 : ∀ val, Says 4 cs3 val nm = (!fy val) := fun val => by
        rw [sN2]
        simp only [qsem, Says_one, Says_zero, SX_ny_2.out]
        cases fx val <;> cases fy val <;> rfl
      have SX_nx_3 := Lib.hid (Says_at AT_nx_2.out ex L2.out.good l3.good SX_nx_2.out)
      have AT_nx_3 := Lib.hid (AT_nx_2.out.ext ex)
      have SX_ny_3 := Lib.hid (Says_at AT_ny_2.out ex L2.out.good l3.good SX_ny_2.out)
      have AT_ny_3 := Lib.hid (AT_ny_2.out.ext ex)
      have SX_nn_3 := Lib.hid (Says_at AT_nn_2.out ex L2.out.good l3.good SX_nn_2.out)
      have AT_nn_3 := Lib.hid (AT_nn_2.out.ext ex)
      have SX_nm_3 := Lib.hid sN2
      have AT_nm_3 := Lib.hid aN
      have S3 := Lib.hid (sN.trans S2.out)
      have L3 := Lib.hid l3
      clear SX_nx_2 AT_nx_2 SX_ny_2 AT_ny_2 SX_nn_2 AT_nn_2 l3 ex sN aN sN2 S2 L2
      have T := Lib.hid (not_good L3.out.ost L3.out.room AT_nn_3.out)
      go_wp2_with fail
      refine T.out.mono ?_
      intro e w4 hout
      obtain ⟨nbk, m4, h4, cs4, mb4, rfl, l4, ex, -, sN, aN, sN2⟩ := L3.out.ask (by have := HC.out; omega) hout
      clear hout T
      have sN2 : ∀ val, Says 4 cs4 val nbk = (!!fx val) := fun val => by
        rw [sN2]
        simp only [qsem, Says_one, Says_zero, SX_nn_3.out]
        cases fx val <;> cases fy val <;> rfl
      have SX_nx_4 := Lib.hid (Says_at AT_nx_3.out ex L3.out.good l4.good SX_nx_3.out)
      have AT_nx_4 := Lib.hid (AT_nx_3.out.ext ex)
      have SX_ny_4 := Lib.hid (Says_at AT_ny_3.out ex L3.out.good l4.good SX_ny_3.out)
      have AT_ny_4 := Lib.hid (AT_ny_3.out.ext ex)
      have SX_nn_4 := Lib.hid (Says_at AT_nn_3.out ex L3.out.good l4.good SX_nn_3.out)
      have AT_nn_4 := Lib.hid (AT_nn_3.out.ext ex)
      have SX_nm_4 := Lib.hid (Says_at AT_nm_3.out ex L3.out.good l4.good SX_nm_3.out)
      have AT_nm_4 := Lib.hid (AT_nm_3.out.ext ex)
      have SX_nbk_4 := Lib.hid sN2
      have AT_nbk_4 := Lib.hid aN
      have S4 := Lib.hid (sN.trans S3.out)
      have L4 := Lib.hid l4
      clear SX_nx_3 AT_nx_3 SX_ny_3 AT_ny_3 SX_nn_3 AT_nn_3 SX_nm_3 AT_nm_3 l4 ex sN aN sN2 S3 L3
      have T := Lib.hid (and_good L4.out.ost L4.out.room AT_nx_4.out AT_ny_4.out)
      go_wp2_with fail
      refine T.out.mono ?_
      intro e w5 hout
      obtain ⟨nand, m5, h5, cs5, mb5, rfl, l5, ex, -, sN, aN, sN2⟩ := L4.out.ask (by have := HC.out; omega) hout
      clear hout T
      have sN2 : ∀ val, Says 4 cs5 val nand = (fx val && fy val) := fun val => by
        rw [sN2]
        simp only [qsem, Says_zero, SX_nx_4.out, SX_ny_4.out]
        cases fx val <;> cases fy val <;> rfl
      have SX_nx_5 := Lib.hid (Says_at AT_nx_4.out ex L4.out.good l5.good SX_nx_4.out)
      have AT_nx_5 := Lib.hid (AT_nx_4.out.ext ex)
      have SX_ny_5 := Lib.hid (Says_at AT_ny_4.out ex L4.out.good l5.good SX_ny_4.out)
      have AT_ny_5 := Lib.hid (AT_ny_4.out.ext ex)
      have SX_nn_5 := Lib.hid (Says_at AT_nn_4.out ex L4.out.good l5.good SX_nn_4.out)
      have AT_nn_5 := Lib.hid (AT_nn_4.out.ext ex)
      have SX_nm_5 := Lib.hid (Says_at AT_nm_4.out ex L4.out.good l5.good SX_nm_4.out)
      have AT_nm_5 := Lib.hid (AT_nm_4.out.ext ex)
      have SX_nbk_5 := Lib.hid (Says_at AT_nbk_4.out ex L4.out.good l5.good SX_nbk_4.out)
      have AT_nbk_5 := Lib.hid (AT_nbk_4.out.ext ex)
      have SX_nand_5 := Lib.hid sN2
      have AT_nand_5 := Lib.hid aN
      have S5 := Lib.hid (sN.trans S4.out)
      have L5 := Lib.hid l5
      clear SX_nx_4 AT_nx_4 SX_ny_4 AT_ny_4 SX_nn_4 AT_nn_4 SX_nm_4 AT_nm_4 SX_nbk_4 AT_nbk_4 l5 ex sN aN sN2 S4 L4
      have T := Lib.hid (not_good L5.out.ost L5.out.room AT_nand_5.out)
      go_wp2_with fail
      refine T.out.mono ?_
      intro e w6 hout
      obtain ⟨nnt, m6, h6, cs6, mb6, rfl, l6, ex, -, sN, aN, sN2⟩ := L5.out.ask (by have := HC.out; omega) hout
      clear hout T
      have sN2 : ∀ val, Says 4 cs6 val nnt = (!(fx val && fy val)) := fun val => by
        rw [sN2]
        simp only [qsem, Says_one, Says_zero, SX_nand_5.out]
        cases fx val <;> cases fy val <;> rfl
      have SX_nx_6 := Lib.hid (Says_at AT_nx_5.out ex L5.out.good l6.good SX_nx_5.out)
      have AT_nx_6 := Lib.hid (AT_nx_5.out.ext ex)
      have SX_ny_6 := Lib.hid (Says_at AT_ny_5.out ex L5.out.good l6.good SX_ny_5.out)
      have AT_ny_6 := Lib.hid (AT_ny_5.out.ext ex)
      have SX_nn_6 := Lib.hid (Says_at AT_nn_5.out ex L5.out.good l6.good SX_nn_5.out)
      have AT_nn_6 := Lib.hid (AT_nn_5.out.ext ex)
      have SX_nm_6 := Lib.hid (Says_at AT_nm_5.out ex L5.out.good l6.good SX_nm_5.out)
      have AT_nm_6 := Lib.hid (AT_nm_5.out.ext ex)
      have SX_nbk_6 := Lib.hid (Says_at AT_nbk_5.out ex L5.out.good l6.good SX_nbk_5.out)
      have AT_nbk_6 := Lib.hid (AT_nbk_5.out.ext ex)
      have SX_nand_6 := Lib.hid (Says_at AT_nand_5.out ex L5.out.good l6.good SX_nand_5.out)
      have AT_nand_6 := Lib.hid (AT_nand_5.out.ext ex)
      have SX_nnt_6 := Lib.hid sN2
      have AT_nnt_6 := Lib.hid aN
      have S6 := Lib.hid (sN.trans S5.out)
      have L6 := Lib.hid l6
      clear SX_nx_5 AT_nx_5 SX_ny_5 AT_ny_5 SX_nn_5 AT_nn_5 SX_nm_5 AT_nm_5 SX_nbk_5 AT_nbk_5 SX_nand_5 AT_nand_5 l6 ex sN aN sN2 S5 L5
      have T := Lib.hid (or_good L6.out.ost L6.out.room AT_nn_6.out AT_nm_6.out)
      go_wp2_with fail
      refine T.out.mono ?_
      intro e w7 hout
      obtain ⟨nor, m7, h7, cs7, mb7, rfl, l7, ex, -, sN, aN, sN2⟩ := L6.out.ask (by have := HC.out; omega) hout
      clear hout T
      have sN2 : ∀ val, Says 4 cs7 val nor = (!fx val || !fy val) := fun val => by
        rw [sN2]
        simp only [qsem, Says_one, SX_nn_6.out, SX_nm_6.out]
        cases fx val <;> cases fy val <;> rfl
      have SX_nx_7 := Lib.hid (Says_at AT_nx_6.out ex L6.out.good l7.good SX_nx_6.out)
      have AT_nx_7 := Lib.hid (AT_nx_6.out.ext ex)
      have SX_ny_7 := Lib.hid (Says_at AT_ny_6.out ex L6.out.good l7.good SX_ny_6.out)
      have AT_ny_7 := Lib.hid (AT_ny_6.out.ext ex)
      have SX_nn_7 := Lib.hid (Says_at AT_nn_6.out ex L6.out.good l7.good SX_nn_6.out)
      have AT_nn_7 := Lib.hid (AT_nn_6.out.ext ex)
      have SX_nm_7 := Lib.hid (Says_at AT_nm_6.out ex L6.out.good l7.good SX_nm_6.out)
      have AT_nm_7 := Lib.hid (AT_nm_6.out.ext ex)
      have SX_nbk_7 := Lib.hid (Says_at AT_nbk_6.out ex L6.out.good l7.good SX_nbk_6.out)
      have AT_nbk_7 := Lib.hid (AT_nbk_6.out.ext ex)
      have SX_nand_7 := Lib.hid (Says_at AT_nand_6.out ex L6.out.good l7.good SX_nand_6.out)
      have AT_nand_7 := Lib.hid (AT_nand_6.out.ext ex)
      have SX_nnt_7 := Lib.hid (Says_at AT_nnt_6.out ex L6.out.good l7.good SX_nnt_6.out)
      have AT_nnt_7 := Lib.hid (AT_nnt_6.out.ext ex)
      have SX_nor_7 := Lib.hid sN2
      have AT_nor_7 := Lib.hid aN
      have S7 := Lib.hid (sN.trans S6.out)
      have L7 := Lib.hid l7
      clear SX_nx_6 AT_nx_6 SX_ny_6 AT_ny_6 SX_nn_6 AT_nn_6 SX_nm_6 AT_nm_6 SX_nbk_6 AT_nbk_6 SX_nand_6 AT_nand_6 SX_nnt_6 AT_nnt_6 l7 ex sN aN sN2 S6 L6
      have T := Lib.hid (diff_good L7.out.ost L7.out.room AT_nx_7.out AT_ny_7.out)
      go_wp2_with fail
      refine T.out.mono ?_
      intro e w8 hout
      obtain ⟨none1, m8, h8, cs8, mb8, rfl, l8, ex, -, sN, aN, sN2⟩ := L7.out.ask (by have := HC.out; omega) hout
      clear hout T
      have sN2 : ∀ val, Says 4 cs8 val none1 = (fx val && !fy val) := fun val => by
        rw [sN2]
        simp only [qsem, Says_zero, SX_nx_7.out, SX_ny_7.out]
        cases fx val <;> cases fy val <;> rfl
      have SX_nx_8 := Lib.hid (Says_at AT_nx_7.out ex L7.out.good l8.good SX_nx_7.out)
      have AT_nx_8 := Lib.hid (AT_nx_7.out.ext ex)
      have SX_ny_8 := Lib.hid (Says_at AT_ny_7.out ex L7.out.good l8.good SX_ny_7.out)
      have AT_ny_8 := Lib.hid (AT_ny_7.out.ext ex)
      have SX_nn_8 := Lib.hid (Says_at AT_nn_7.out ex L7.out.good l8.good SX_nn_7.out)
      have AT_nn_8 := Lib.hid (AT_nn_7.out.ext ex)
      have SX_nm_8 := Lib.hid (Says_at AT_nm_7.out ex L7.out.good l8.good SX_nm_7.out)
      have AT_nm_8 := Lib.hid (AT_nm_7.out.ext ex)
      have SX_nbk_8 := Lib.hid (Says_at AT_nbk_7.out ex L7.out.good l8.good SX_nbk_7.out)
      have AT_nbk_8 := Lib.hid (AT_nbk_7.out.ext ex)
      have SX_nand_8 := Lib.hid (Says_at AT_nand_7.out ex L7.out.good l8.good SX_nand_7.out)
      have AT_nand_8 := Lib.hid (AT_nand_7.out.ext ex)
      have SX_nnt_8 := Lib.hid (Says_at AT_nnt_7.out ex L7.out.good l8.good SX_nnt_7.out)
      have AT_nnt_8 := Lib.hid (AT_nnt_7.out.ext ex)
      have SX_nor_8 := Lib.hid (Says_at AT_nor_7.out ex L7.out.good l8.good SX_nor_7.out)
      have AT_nor_8 := Lib.hid (AT_nor_7.out.ext ex)
      have SX_none1_8 := Lib.hid sN2
      have AT_none1_8 := Lib.hid aN
      have S8 := Lib.hid (sN.trans S7.out)
      have L8 := Lib.hid l8
      clear SX_nx_7 AT_nx_7 SX_ny_7 AT_ny_7 SX_nn_7 AT_nn_7 SX_nm_7 AT_nm_7 SX_nbk_7 AT_nbk_7 SX_nand_7 AT_nand_7 SX_nnt_7 AT_nnt_7 SX_nor_7 AT_nor_7 l8 ex sN aN sN2 S7 L7
      have T := Lib.hid (diff_good L8.out.ost L8.out.room AT_ny_8.out AT_nx_8.out)
      go_wp2_with fail
      refine T.out.mono ?_
      intro e w9 hout
      obtain ⟨ntwo, m9, h9, cs9, mb9, rfl, l9, ex, -, sN, aN, sN2⟩ := L8.out.ask (by have := HC.out; omega) hout
      clear hout T
      have sN2 : ∀ val, Says 4 cs9 val ntwo = (fy val && !fx val) := fun val => by
        rw [sN2]
        simp only [qsem, Says_zero, SX_ny_8.out, SX_nx_8.out]
        cases fx val <;> cases fy val <;> rfl
      have SX_nx_9 := Lib.hid (Says_at AT_nx_8.out ex L8.out.good l9.good SX_nx_8.out)
      have AT_nx_9 := Lib.hid (AT_nx_8.out.ext ex)
      have SX_ny_9 := Lib.hid (Says_at AT_ny_8.out ex L8.out.good l9.good SX_ny_8.out)
      have AT_ny_9 := Lib.hid (AT_ny_8.out.ext ex)
      have SX_nn_9 := Lib.hid (Says_at AT_nn_8.out ex L8.out.good l9.good SX_nn_8.out)
      have AT_nn_9 := Lib.hid (AT_nn_8.out.ext ex)
      have SX_nm_9 := Lib.hid (Says_at AT_nm_8.out ex L8.out.good l9.good SX_nm_8.out)
      have AT_nm_9 := Lib.hid (AT_nm_8.out.ext ex)
      have SX_nbk_9 := Lib.hid (Says_at AT_nbk_8.out ex L8.out.good l9.good SX_nbk_8.out)
      have AT_nbk_9 := Lib.hid (AT_nbk_8.out.ext ex)
      have SX_nand_9 := Lib.hid (Says_at AT_nand_8.out ex L8.out.good l9.good SX_nand_8.out)
      have AT_nand_9 := Lib.hid (AT_nand_8.out.ext ex)
      have SX_nnt_9 := Lib.hid (Says_at AT_nnt_8.out ex L8.out.good l9.good SX_nnt_8.out)
      have AT_nnt_9 := Lib.hid (AT_nnt_8.out.ext ex)
      have SX_nor_9 := Lib.hid (Says_at AT_nor_8.out ex L8.out.good l9.good SX_nor_8.out)
      have AT_nor_9 := Lib.hid (AT_nor_8.out.ext ex)
      have SX_none1_9 := Lib.hid (Says_at AT_none1_8.out ex L8.out.good l9.good SX_none1_8.out)
      have AT_none1_9 := Lib.hid (AT_none1_8.out.ext ex)
      have SX_ntwo_9 := Lib.hid sN2
      have AT_ntwo_9 := Lib.hid aN
      have S9 := Lib.hid (sN.trans S8.out)
      have L9 := Lib.hid l9
      clear SX_nx_8 AT_nx_8 SX_ny_8 AT_ny_8 SX_nn_8 AT_nn_8 SX_nm_8 AT_nm_8 SX_nbk_8 AT_nbk_8 SX_nand_8 AT_nand_8 SX_nnt_8 AT_nnt_8 SX_nor_8 AT_nor_8 SX_none1_8 AT_none1_8 l9 ex sN aN sN2 S8 L8
      have T := Lib.hid (xor_good L9.out.ost L9.out.room AT_nx_9.out AT_ny_9.out)
      go_wp2_with fail
      refine T.out.mono ?_
      intro e w10 hout
      obtain ⟨nxor, m10, h10, cs10, mb10, rfl, l10, ex, -, sN, aN, sN2⟩ := L9.out.ask (by have := HC.out; omega) hout
      clear hout T
      have sN2 : ∀ val, Says 4 cs10 val nxor = (fx val != fy val) := fun val => by
        rw [sN2]
        simp only [qsem, SX_nx_9.out, SX_ny_9.out]
        cases fx val <;> cases fy val <;> rfl
      have SX_nx_10 := Lib.hid (Says_at AT_nx_9.out ex L9.out.good l10.good SX_nx_9.out)
      have AT_nx_10 := Lib.hid (AT_nx_9.out.ext ex)
      have SX_ny_10 := Lib.hid (Says_at AT_ny_9.out ex L9.out.good l10.good SX_ny_9.out)
      have AT_ny_10 := Lib.hid (AT_ny_9.out.ext ex)
      have SX_nn_10 := Lib.hid (Says_at AT_nn_9.out ex L9.out.good l10.good SX_nn_9.out)
      have AT_nn_10 := Lib.hid (AT_nn_9.out.ext ex)
      have SX_nm_10 := Lib.hid (Says_at AT_nm_9.out ex L9.out.good l10.good SX_nm_9.out)
      have AT_nm_10 := Lib.hid (AT_nm_9.out.ext ex)
      have SX_nbk_10 := Lib.hid (Says_at AT_nbk_9.out ex L9.out.good l10.good SX_nbk_9.out)
      have AT_nbk_10 := Lib.hid (AT_nbk_9.out.ext ex)
      have SX_nand_10 := Lib.hid (Says_at AT_nand_9.out ex L9.out.good l10.good SX_nand_9.out)
      have AT_nand_10 := Lib.hid (AT_nand_9.out.ext ex)
      have SX_nnt_10 := Lib.hid (Says_at AT_nnt_9.out ex L9.out.good l10.good SX_nnt_9.out)
      have AT_nnt_10 := Lib.hid (AT_nnt_9.out.ext ex)
      have SX_nor_10 := Lib.hid (Says_at AT_nor_9.out ex L9.out.good l10.good SX_nor_9.out)
      have AT_nor_10 := Lib.hid (AT_nor_9.out.ext ex)
      have SX_none1_10 := Lib.hid (Says_at AT_none1_9.out ex L9.out.good l10.good SX_none1_9.out)
      have AT_none1_10 := Lib.hid (AT_none1_9.out.ext ex)
      have SX_ntwo_10 := Lib.hid (Says_at AT_ntwo_9.out ex L9.out.good l10.good SX_ntwo_9.out)
      have AT_ntwo_10 := Lib.hid (AT_ntwo_9.out.ext ex)
      have SX_nxor_10 := Lib.hid sN2
      have AT_nxor_10 := Lib.hid aN
      have S10 := Lib.hid (sN.trans S9.out)
      have L10 := Lib.hid l10
      clear SX_nx_9 AT_nx_9 SX_ny_9 AT_ny_9 SX_nn_9 AT_nn_9 SX_nm_9 AT_nm_9 SX_nbk_9 AT_nbk_9 SX_nand_9 AT_nand_9 SX_nnt_9 AT_nnt_9 SX_nor_9 AT_nor_9 SX_none1_9 AT_none1_9 SX_ntwo_9 AT_ntwo_9 l10 ex sN aN sN2 S9 L9
      have T := Lib.hid (or_good L10.out.ost L10.out.room AT_none1_10.out AT_ntwo_10.out)
      go_wp2_with fail
      refine T.out.mono ?_
      intro e w11 hout
      obtain ⟨nboth, m11, h11, cs11, mb11, rfl, l11, ex, -, sN, aN, sN2⟩ := L10.out.ask (by have := HC.out; omega) hout
      clear hout T
      have sN2 : ∀ val, Says 4 cs11 val nboth = ((fx val && !fy val) || (fy val && !fx val)) := fun val => by
        rw [sN2]
        simp only [qsem, Says_one, SX_none1_10.out, SX_ntwo_10.out]
        cases fx val <;> cases fy val <;> rfl
      have SX_nx_11 := Lib.hid (Says_at AT_nx_10.out ex L10.out.good l11.good SX_nx_10.out)
      have AT_nx_11 := Lib.hid (AT_nx_10.out.ext ex)
      have SX_ny_11 := Lib.hid (Says_at AT_ny_10.out ex L10.out.good l11.good SX_ny_10.out)
      have AT_ny_11 := Lib.hid (AT_ny_10.out.ext ex)
      have SX_nn_11 := Lib.hid (Says_at AT_nn_10.out ex L10.out.good l11.good SX_nn_10.out)
      have AT_nn_11 := Lib.hid (AT_nn_10.out.ext ex)
      have SX_nm_11 := Lib.hid (Says_at AT_nm_10.out ex L10.out.good l11.good SX_nm_10.out)
      have AT_nm_11 := Lib.hid (AT_nm_10.out.ext ex)
      have SX_nbk_11 := Lib.hid (Says_at AT_nbk_10.out ex L10.out.good l11.good SX_nbk_10.out)
      have AT_nbk_11 := Lib.hid (AT_nbk_10.out.ext ex)
      have SX_nand_11 := Lib.hid (Says_at AT_nand_10.out ex L10.out.good l11.good SX_nand_10.out)
      have AT_nand_11 := Lib.hid (AT_nand_10.out.ext ex)
      have SX_nnt_11 := Lib.hid (Says_at AT_nnt_10.out ex L10.out.good l11.good SX_nnt_10.out)
      have AT_nnt_11 := Lib.hid (AT_nnt_10.out.ext ex)
      have SX_nor_11 := Lib.hid (Says_at AT_nor_10.out ex L10.out.good l11.good SX_nor_10.out)
      have AT_nor_11 := Lib.hid (AT_nor_10.out.ext ex)
      have SX_none1_11 := Lib.hid (Says_at AT_none1_10.out ex L10.out.good l11.good SX_none1_10.out)
      have AT_none1_11 := Lib.hid (AT_none1_10.out.ext ex)
      have SX_ntwo_11 := Lib.hid (Says_at AT_ntwo_10.out ex L10.out.good l11.good SX_ntwo_10.out)
      have AT_ntwo_11 := Lib.hid (AT_ntwo_10.out.ext ex)
      have SX_nxor_11 := Lib.hid (Says_at AT_nxor_10.out ex L10.out.good l11.good SX_nxor_10.out)
      have AT_nxor_11 := Lib.hid (AT_nxor_10.out.ext ex)
      have SX_nboth_11 := Lib.hid sN2
      have AT_nboth_11 := Lib.hid aN
      have S11 := Lib.hid (sN.trans S10.out)
      have L11 := Lib.hid l11
      clear SX_nx_10 AT_nx_10 SX_ny_10 AT_ny_10 SX_nn_10 AT_nn_10 SX_nm_10 AT_nm_10 SX_nbk_10 AT_nbk_10 SX_nand_10 AT_nand_10 SX_nnt_10 AT_nnt_10 SX_nor_10 AT_nor_10 SX_none1_10 AT_none1_10 SX_ntwo_10 AT_ntwo_10 SX_nxor_10 AT_nxor_10 l11 ex sN aN sN2 S10 L10
      have e1 : ((nbk : Int) == (nx : Int)) = true := by
        have := same_node L11.out.good AT_nbk_11.out AT_nx_11.out fun val => by
          refine (SX_nbk_11.out val).trans (Eq.trans ?_ (SX_nx_11.out val).symm)
          cases fx val <;> cases fy val <;> rfl
        rw [this]; simp
      have e2 : ((nnt : Int) == (nor : Int)) = true := by
        have := same_node L11.out.good AT_nnt_11.out AT_nor_11.out fun val => by
          refine (SX_nnt_11.out val).trans (Eq.trans ?_ (SX_nor_11.out val).symm)
          cases fx val <;> cases fy val <;> rfl
        rw [this]; simp
      have e3 : ((nxor : Int) == (nboth : Int)) = true := by
        have := same_node L11.out.good AT_nxor_11.out AT_nboth_11.out fun val => by
          refine (SX_nxor_11.out val).trans (Eq.trans ?_ (SX_nboth_11.out val).symm)
          cases fx val <;> cases fy val <;> rfl
        rw [this]; simp
      have B8 := Lib.hid L11.out.below
      have AW := Lib.hid awake4
      go_wp2_with fail
      refine (AW.out _).mono ?_
      rintro e w9 ⟨rfl, hb9⟩
      have B9 := Lib.hid (B8.out.trans (hb9.mono B8.out.size))
      clear hb9 AW
      go_wp2_with fail
      go_ret
      exact ⟨rfl, B9.out⟩

theorem operTurns_walk (x y : Int) (w : World) (_hx : (Lit.int .i64 x).wf = true) (_hy : (Lit.int .i64 y).wf = true) :
    Calls Try.prog 4 #[.int .i64 x, .int .i64 y] w fun e w' => e = .returned (.bool true) ∧ Below w.heap.size w w' := turns_core x y w

namespace operTurns
set_option linter.unusedVariables false
theorem own : ownKnob Try.prog.godebug = none := by kernel_rfl
theorem laidOut : laidOutB Try.prog = true := by kernel_rfl
set_option maxRecDepth 100000 in
theorem lifted (os : Os) (started : os.Started) (H : Type) (enc : TypeId × Value → H) :
    ReturnsInHanded {} Try.checked os 4 .any (Rows.operTurnsSpec.pre6 enc Try.prog Try.f4 Rows.operTurnsRow.domain false) (Rows.operTurnsSpec.post enc Try.prog Try.f4 false true false false) := by
  refine returnsInHanded_of_change (C := Try.checked) own started (by kernel_rfl) Try.func4
    (ChangeSpec.witness6 (enc := enc) (C := Try.checked) false ⟨#[], #[.int .i64 0, .int .i64 0], []⟩ 8 (by kernel_rfl) (by kernel_rfl) (by kernel_rfl) (by kernel_rfl)) ?_
  intro W base args ds gs before hval0 hW hcnd hsz
  have hval : ∀ (j : Nat) t v, Try.f4.params[j]? = some t → args[j]? = some v → Value.okWide Try.prog W .any base t v := hval0
  have hW' := hW
  obtain ⟨p, q, hA0, hV, rfl, hfz, hnd⟩ := hW
  have hA : DataW.TrodAll enc Try.prog W 0 (fun _ => true) true Try.f4.params.toList args.toList ds p := hA0
  rw [Try.params4] at hA hval
  obtain ⟨v0, vs0, d0, ds0, p0, q0, hargs, rfl, rfl, h0, r0⟩ := trodAll_cons hA
  obtain ⟨v1, vs1, d1, ds1, p1, q1, rfl, rfl, rfl, h1, r1⟩ := trodAll_cons r0
  obtain ⟨rfl, rfl, rfl⟩ := trodAll_nil r1
  obtain rfl : args = #[v0, v1] := by cases args; simp_all
  obtain ⟨rfl, rfl⟩ := trodVars_none hV
  obtain ⟨a0, rfl, rfl, rfl, w0⟩ := open_int Try.underlying3 (hval 0 3 v0 rfl rfl) h0
  obtain ⟨a1, rfl, rfl, rfl, w1⟩ := open_int Try.underlying3 (hval 1 3 v1 rfl rfl) h1
  clear hA0 hval0
  refine (operTurns_walk a0 a1 W w0 w1).mono fun e W' ⟨he, bel⟩ => ?_
  subst he
  exact ⟨_, rfl, _, _, _, [], _, [], hW', trodAll_mk1 (shut_bool Try.underlying4 _), (trodAll_cons_mk (shut_int Try.underlying3 w0) (trodAll_cons_mk (shut_int Try.underlying3 w1) trodAll_mk0)), rfl, bel.frame _, fun h => by cases h⟩
theorem over : Rows.operTurnsRow.holds Try.pinned (OpenSpec.ofChange Rows.operTurnsSpec) :=
  OpenClaim.holds_of_wide 4 Try.f4 rfl rfl rfl rfl rfl rfl rfl ⟨rfl, rfl, rfl, rfl, rfl⟩ rfl rfl rfl rfl rfl (by kernel_rfl) Try.func4 (by kernel_rfl)
    (of_decide_eq_true (by kernel_rfl)) (by unfold Func.isWrapper; first | (rw [if_pos (by decide +kernel)]; kernel_rfl) | (rw [if_neg (by decide +kernel)]; exact ⟨rfl, rfl⟩))
    (fun os started H enc _ => lifted os started H enc)
/-- THE STATEMENT. -/
theorem proved : Rows.OperTurnsSaid := over
end operTurns
#print axioms operTurns.proved
end Go.Proofs.Ytfdebadmikmnaaa
