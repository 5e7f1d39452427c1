/- For any two times sixteen answers of four variables: for how many values one of two nodes, both, and neither say true: the law returns true. No condition. -/
import Derived.Test.YtlmofadodhpkiaaMU
import Derived.Test.YtlmofadodhpkiaaMG
namespace Go.Proofs.Ytlmofadodhpkiaa
open Go.ChangeShapes Go.WideShapes Go.ChangeAt Go.RowKit Go.Maps

set_option maxHeartbeats 4000000 in
set_option maxRecDepth 100000 in
theorem parts_core (a b : Int) (w : World) : Calls Try.prog 10 #[.int .i64 a, .int .i64 b] w fun e w' => e = .returned (.bool true) ∧ Below w.heap.size w w' := by
  obtain ⟨x, hx, ex, -⟩ := low16C a
  obtain ⟨y, hy, ey, -⟩ := low16C b
  have BG := Lib.hid (begun6 w)
  clear hx hy
  go_enter Try.func10, Try.ntmps10
  go_wp2_with fail
  refine BG.out.mono ?_
  rintro e w1 ⟨m1, rfl, s1⟩
  have NO := Lib.hid (newops_yes s1.st (Int.le_refl 0))
  have S1 := Lib.hid s1
  unfold ptrV at *
  clear s1 BG
  go_wp2_with fail
  refine NO.out.mono ?_
  rintro e w2 ⟨o, rfl, os, hb2, hol⟩
  have l2 : LSt w 1000 m1 ⟨4, 1000, 2, 2, 0, 0⟩ first6 o none 2 w2 := ⟨os, rfl, rfl, S1.out.cnt, S1.out.below.trans (hb2.mono S1.out.below.size), fun i hi => by
    rcases hi with hi | rfl | hi
    · exact S1.out.own i hi
    · exact Nat.le_trans S1.out.below.size hol
    · cases hi⟩
  have T := Lib.hid (make_any l2.ost.st l2.V (x : Int))
  have L2 := Lib.hid l2
  unfold ptrV at *
  clear os hb2 hol l2 NO S1
  go_wp2_with fail
  refine T.out.mono ?_
  intro e w3 hout
  obtain ⟨nx, m3, h3, cs3, rfl, l3, x3, -, p3, ax, -⟩ := L2.out.make (by omega) hout
  have T := make_any l3.ost.st l3.V (y : Int)
  rw [p3] at T
  unfold ptrV at T
  have T := Lib.hid T
  have L3 := Lib.hid l3
  have AX := Lib.hid ax
  have P3 := Lib.hid p3
  clear hout l3 x3 p3 ax L2
  go_wp2_with fail
  refine T.out.mono ?_
  intro e w4 hout
  obtain ⟨ny, m4, h4, cs4, rfl, l4, x4, -, p4, ay, -⟩ := L3.out.make (by omega) hout
  have ax := AX.out.ext x4
  have Q := Lib.hid (or_good l4.ost l4.room ax ay)
  have L4 := Lib.hid l4
  have AX4 := Lib.hid ax
  have AY := Lib.hid ay
  have P4 := Lib.hid (p4.trans P3.out)
  clear hout l4 x4 p4 ax ay T L3 AX P3
  go_wp2_with fail
  refine Q.out.mono ?_
  intro e w5 hout
  obtain ⟨no, m5, h5, cs5, mb5, rfl, l5, x5, -, p5, ao, so⟩ := L4.out.ask (by omega) hout
  have ax := AX4.out.ext x5
  have ay := AY.out.ext x5
  have Q := Lib.hid (and_good l5.ost l5.room ax ay)
  have kx := fun val => AX4.out.says x5 L4.out.good l5.good val
  have ky := fun val => AY.out.says x5 L4.out.good l5.good val
  have SO : Hid (∀ val, Says 4 cs5 val no = (Says 4 cs5 val nx || Says 4 cs5 val ny)) := fun val => by
    rw [so, kx, ky]
    simp only [qsem, Says_one]
    cases Says 4 cs4 val nx <;> rfl
  have L5 := Lib.hid l5
  have AX5 := Lib.hid ax
  have AY5 := Lib.hid ay
  have AO5 := Lib.hid ao
  have P5 := Lib.hid (p5.trans P4.out)
  clear hout l5 x5 p5 ax ay ao so kx ky L4 AX4 AY P4
  go_wp2_with fail
  refine Q.out.mono ?_
  intro e w6 hout
  obtain ⟨na, m6, h6, cs6, mb6, rfl, l6, x6, -, p6, aa, sa⟩ := L5.out.ask (by omega) hout
  have ax := AX5.out.ext x6
  have ay := AY5.out.ext x6
  have ao := AO5.out.ext x6
  have Q := Lib.hid (not_good l6.ost l6.room ax)
  have kx := fun val => AX5.out.says x6 L5.out.good l6.good val
  have ky := fun val => AY5.out.says x6 L5.out.good l6.good val
  have ko := fun val => AO5.out.says x6 L5.out.good l6.good val
  have SA : Hid (∀ val, Says 4 cs6 val na = (Says 4 cs6 val nx && Says 4 cs6 val ny)) := fun val => by
    rw [sa, kx, ky]
    simp only [qsem, Says_zero]
    cases Says 4 cs5 val nx <;> rfl
  have SO6 : Hid (∀ val, Says 4 cs6 val no = (Says 4 cs6 val nx || Says 4 cs6 val ny)) := fun val => by rw [kx, ky, ko]; exact SO.out val
  have L6 := Lib.hid l6
  have AX6 := Lib.hid ax
  have AY6 := Lib.hid ay
  have AO6 := Lib.hid ao
  have AA6 := Lib.hid aa
  have P6 := Lib.hid (p6.trans P5.out)
  clear hout l6 x6 p6 ax ay ao aa sa kx ky ko L5 AX5 AY5 AO5 P5 SO
  go_wp2_with fail
  refine Q.out.mono ?_
  intro e w7 hout
  obtain ⟨nn, m7, h7, cs7, mb7, rfl, l7, x7, -, p7, an, sn⟩ := L6.out.ask (by omega) hout
  have kx := fun val => AX6.out.says x7 L6.out.good l7.good val
  have ky := fun val => AY6.out.says x7 L6.out.good l7.good val
  have ko := fun val => AO6.out.says x7 L6.out.good l7.good val
  have ka := fun val => AA6.out.says x7 L6.out.good l7.good val
  have SN : ∀ val, Says 4 cs7 val nn = !Says 4 cs7 val nx := fun val => by
    rw [sn, kx]
    simp only [qsem, Says_zero, Says_one]
    cases Says 4 cs6 val nx <;> rfl
  have SA7 : ∀ val, Says 4 cs7 val na = (Says 4 cs7 val nx && Says 4 cs7 val ny) := fun val => by rw [kx, ky, ka]; exact SA.out val
  have SO7 : ∀ val, Says 4 cs7 val no = (Says 4 cs7 val nx || Says 4 cs7 val ny) := fun val => by rw [kx, ky, ko]; exact SO6.out val
  have E1 : n4 cs7 no + n4 cs7 na = n4 cs7 nx + n4 cs7 ny := by
    unfold n4
    rw [cntN_congr SO7, cntN_congr SA7]
    exact cntN_or_and _ _ _ _
  have E2 : n4 cs7 nx + n4 cs7 nn = 16 := by
    unfold n4
    rw [cntN_congr SN]
    exact cntN_not _ _ _
  obtain ⟨cx, ix, -⟩ := AX6.out.ext x7
  obtain ⟨cy, iy, -⟩ := AY6.out.ext x7
  obtain ⟨co, io, -⟩ := AO6.out.ext x7
  obtain ⟨ca, ia, -⟩ := AA6.out.ext x7
  obtain ⟨cn, inn, -⟩ := an
  have L7 := Lib.hid l7
  have P7 := Lib.hid (p7.trans P6.out)
  have F1 : ((n4 cs7 nx : Nat) : Int) + (n4 cs7 ny : Nat) = (n4 cs7 no : Nat) + (n4 cs7 na : Nat) := by omega
  have F2 : ((n4 cs7 nx : Nat) : Int) + (n4 cs7 nn : Nat) = 16 := by omega
  have b1 : n4 cs7 nx ≤ 16 := by omega
  have b2 : n4 cs7 ny ≤ 16 := cntN_le _ [0, 1, 2, 3] _
  have b3 : n4 cs7 no ≤ 16 := cntN_le _ [0, 1, 2, 3] _
  have b4 : n4 cs7 na ≤ 16 := cntN_le _ [0, 1, 2, 3] _
  have SA4 : ∀ (k : Nat) (c : Nd), Is cs7 k c → ∀ wr, LSt w 1000 m7 h7 cs7 o mb7 (2 + 15 + 15 + 15 + 15 + 15) wr → Calls Try.prog 18 #[.pointer (some ⟨m1.s, 0, none⟩), .int .i64 (k : Int), .slice (some ⟨wr.heap.size, 0, none⟩) 4 4] (wr.alloc (.cells fourC 3)) fun e w' => e = .returned (.tuple #[.int .i64 (n4 cs7 k : Int), .int .i64 0]) ∧ Below wr.heap.size wr w' := fun k c hk wr l => by
    have := sat4 l.ost.st l.V hk
    rw [P7.out] at this
    exact this
  unfold fourC at SA4
  have SA4 := Lib.hid SA4
  have IX := Lib.hid ix
  have IY := Lib.hid iy
  have IO := Lib.hid io
  have IA := Lib.hid ia
  have IN := Lib.hid inn
  clear hout l7 x7 p7 kx ky ko ka sn SN SA7 SO7 E1 E2 ix iy io ia inn Q L6 AX6 AY6 AO6 AA6 P6 SA SO6
  have FU := Lib.hid four_any
  go_wp2_with fail
  refine (FU.out _).mono ?_
  rintro e w' ⟨rfl, rfl⟩
  have Q1 := Lib.hid (SA4.out _ _ IX.out _ L7.out)
  go_wp2_with fail
  refine Q1.out.mono ?_
  rintro e v1 ⟨rfl, hb⟩
  have V1 := Lib.hid (L7.out.keep hb)
  clear hb Q1 L7
  go_wp2_with fail
  refine (FU.out _).mono ?_
  rintro e w' ⟨rfl, rfl⟩
  have Q2 := Lib.hid (SA4.out _ _ IY.out _ V1.out)
  go_wp2_with fail
  refine Q2.out.mono ?_
  rintro e v2 ⟨rfl, hb⟩
  have V2 := Lib.hid (V1.out.keep hb)
  clear hb Q2 V1
  go_wp2_with fail
  refine (FU.out _).mono ?_
  rintro e w' ⟨rfl, rfl⟩
  have Q3 := Lib.hid (SA4.out _ _ IO.out _ V2.out)
  go_wp2_with fail
  refine Q3.out.mono ?_
  rintro e v3 ⟨rfl, hb⟩
  have V3 := Lib.hid (V2.out.keep hb)
  clear hb Q3 V2
  go_wp2_with fail
  refine (FU.out _).mono ?_
  rintro e w' ⟨rfl, rfl⟩
  have Q4 := Lib.hid (SA4.out _ _ IA.out _ V3.out)
  go_wp2_with fail
  refine Q4.out.mono ?_
  rintro e v4 ⟨rfl, hb⟩
  have V4 := Lib.hid (V3.out.keep hb)
  clear hb Q4 V3
  go_wp2_with fail
  refine (FU.out _).mono ?_
  rintro e w' ⟨rfl, rfl⟩
  have Q5 := Lib.hid (SA4.out _ _ IN.out _ V4.out)
  go_wp2_with fail
  refine Q5.out.mono ?_
  rintro e v5 ⟨rfl, hb⟩
  have V5 := Lib.hid (V4.out.keep hb)
  clear hb Q5 V4
  have AW := Lib.hid (awake6 v5)
  clear SA4 FU IX IY IO IA IN
  generalize n4 cs7 nx = q1 at *
  generalize n4 cs7 ny = q2 at *
  generalize n4 cs7 no = q3 at *
  generalize n4 cs7 na = q4 at *
  generalize n4 cs7 nn = q5 at *
  have b5 : q5 ≤ 16 := by omega
  go_wp2_with fail
  refine AW.out.mono ?_
  rintro e w9 ⟨rfl, hb⟩
  have BL := Lib.hid (V5.out.below.trans (hb.mono V5.out.below.size))
  clear hb AW V5
  go_wp2_with fail
  go_ret
  exact ⟨rfl, BL.out⟩

theorem countParts_walk (a b : Int) (w : World) (_ha : (Lit.int .i64 a).wf = true) (_hb : (Lit.int .i64 b).wf = true) :
    Calls Try.prog 10 #[.int .i64 a, .int .i64 b] w fun e w' => e = .returned (.bool true) ∧ Below w.heap.size w w' := parts_core a b w

namespace countParts
set_option linter.unusedVariables false
theorem own : ownKnob Try.prog.godebug = none := by kernel_rfl
theorem laidOut : laidOutB Try.prog = true := by kernel_rfl
set_option maxRecDepth 100000 in
theorem lifted (os : Os) (started : os.Started) (H : Type) (enc : TypeId × Value → H) :
    ReturnsInHanded {} Try.checked os 10 .any (Rows.countPartsSpec.pre6 enc Try.prog Try.f10 Rows.countPartsRow.domain false) (Rows.countPartsSpec.post enc Try.prog Try.f10 false true false false) := by
  refine returnsInHanded_of_change (C := Try.checked) own started (by kernel_rfl) Try.func10
    (ChangeSpec.witness6 (enc := enc) (C := Try.checked) false ⟨#[], #[.int .i64 0, .int .i64 0], []⟩ 8 (by kernel_rfl) (by kernel_rfl) (by kernel_rfl) (by kernel_rfl)) ?_
  intro W base args ds gs before hval0 hW hcnd hsz
  have hval : ∀ (j : Nat) t v, Try.f10.params[j]? = some t → args[j]? = some v → Value.okWide Try.prog W .any base t v := hval0
  have hW' := hW
  obtain ⟨p, q, hA0, hV, rfl, hfz, hnd⟩ := hW
  have hA : DataW.TrodAll enc Try.prog W 0 (fun _ => true) true Try.f10.params.toList args.toList ds p := hA0
  rw [Try.params10] at hA hval
  obtain ⟨v0, vs0, d0, ds0, p0, q0, hargs, rfl, rfl, h0, r0⟩ := trodAll_cons hA
  obtain ⟨v1, vs1, d1, ds1, p1, q1, rfl, rfl, rfl, h1, r1⟩ := trodAll_cons r0
  obtain ⟨rfl, rfl, rfl⟩ := trodAll_nil r1
  obtain rfl : args = #[v0, v1] := by cases args; simp_all
  obtain ⟨rfl, rfl⟩ := trodVars_none hV
  obtain ⟨a0, rfl, rfl, rfl, w0⟩ := open_int Try.underlying3 (hval 0 3 v0 rfl rfl) h0
  obtain ⟨a1, rfl, rfl, rfl, w1⟩ := open_int Try.underlying3 (hval 1 3 v1 rfl rfl) h1
  clear hA0 hval0
  refine (countParts_walk a0 a1 W w0 w1).mono fun e W' ⟨he, bel⟩ => ?_
  subst he
  exact ⟨_, rfl, _, _, _, [], _, [], hW', trodAll_mk1 (shut_bool Try.underlying4 _), (trodAll_cons_mk (shut_int Try.underlying3 w0) (trodAll_cons_mk (shut_int Try.underlying3 w1) trodAll_mk0)), rfl, bel.frame _, fun h => by cases h⟩
theorem over : Rows.countPartsRow.holds Try.pinned (OpenSpec.ofChange Rows.countPartsSpec) :=
  OpenClaim.holds_of_wide 10 Try.f10 rfl rfl rfl rfl rfl rfl rfl ⟨rfl, rfl, rfl, rfl, rfl⟩ rfl rfl rfl rfl rfl (by kernel_rfl) Try.func10 (by kernel_rfl)
    (of_decide_eq_true (by kernel_rfl)) (by unfold Func.isWrapper; first | (rw [if_pos (by decide +kernel)]; kernel_rfl) | (rw [if_neg (by decide +kernel)]; exact ⟨rfl, rfl⟩))
    (fun os started H enc _ => lifted os started H enc)
/-- THE STATEMENT. -/
theorem proved : Rows.CountPartsSaid := over
end countParts
#print axioms countParts.proved
end Go.Proofs.Ytlmofadodhpkiaa
