/- For any two times sixteen answers and any set of four variables: Product is the node of what both say for some values, and Exists of And: the law returns true. No condition. -/
import Derived.Test.YtmbkkifopmbkaaaMN
namespace Go.Proofs.Ytmbkkifopmbkaaa
open Go.ChangeShapes Go.WideShapes Go.ChangeAt Go.RowKit Go.Maps

set_option maxHeartbeats 8000000 in
set_option maxRecDepth 100000 in
theorem qproduct_core (x y z : Int) (w : World) : Calls Try.prog 5 #[.int .i64 x, .int .i64 y, .int .i64 z] w fun e w' => e = .returned (.bool true) ∧ Below w.heap.size w w' := by
  obtain ⟨a, ha, ea⟩ := low16 x
  obtain ⟨b, hb, eb⟩ := low16 y
  obtain ⟨s, hs, es⟩ := low4 z
  have eab := and_both ea eb
  have hab : a &&& b < 65536 := Nat.lt_of_le_of_lt Nat.and_le_left ha
  have HAB := Lib.hid hab
  clear ha hb hs hab
  have BG := begun5 2000 (by omega) (by omega) w
  change Calls _ _ #[.int .i64 2000] _ _ at BG
  have BG := Lib.hid BG
  go_enter Try.func5, Try.ntmps5
  go_wp2_with fail
  refine BG.out.mono ?_
  rintro e w1 ⟨m1, o, q, rfl, s1⟩
  have S1 := Lib.hid s1
  unfold ptrV at *
  clear s1 BG
  have T := make_any S1.out.l.ost.st S1.out.l.V ((a : Int))
  unfold ptrV at T
  have T := Lib.hid T
  go_wp2_with fail
  refine T.out.mono ?_
  intro e w_2 hout
  obtain ⟨nx, a2, rfl, s2, ex, pN, aN, sN2⟩ := S1.out.make (by omega) hout
  clear hout T
  obtain ⟨fx, hfx⟩ : ∃ f : (Nat → Bool) → Bool, f = fun val => bitZ (a : Int) (tix val 4 0 0) := ⟨_, rfl⟩
  have sN2 : ∀ val, Says 4 a2.cs val nx = fx val := fun val => by rw [sN2, hfx]
  have FX := Lib.hid hfx
  clear hfx
  have SX_nx_2 := Lib.hid sN2
  have AT_nx_2 := Lib.hid aN
  have P2 := Lib.hid pN
  have S2 := Lib.hid s2
  clear  s2 ex pN aN sN2 S1
  have T := make_any S2.out.l.ost.st S2.out.l.V ((b : Int))
  rw [P2.out] at T
  unfold ptrV at T
  have T := Lib.hid T
  go_wp2_with fail
  refine T.out.mono ?_
  intro e w_3 hout
  obtain ⟨ny, a3, rfl, s3, ex, pN, aN, sN2⟩ := S2.out.make (by omega) hout
  clear hout T
  obtain ⟨fy, hfy⟩ : ∃ f : (Nat → Bool) → Bool, f = fun val => bitZ (b : Int) (tix val 4 0 0) := ⟨_, rfl⟩
  have sN2 : ∀ val, Says 4 a3.cs val ny = fy val := fun val => by rw [sN2, hfy]
  have FY := Lib.hid hfy
  clear hfy
  have SX_nx_3 := Lib.hid (Says_at AT_nx_2.out ex S2.out.good s3.good SX_nx_2.out)
  have AT_nx_3 := Lib.hid (AT_nx_2.out.ext ex)
  have SX_ny_3 := Lib.hid sN2
  have AT_ny_3 := Lib.hid aN
  have P3 := Lib.hid (pN.trans P2.out)
  have S3 := Lib.hid s3
  clear SX_nx_2 AT_nx_2 s3 ex pN aN sN2 S2 P2
  have T := Lib.hid (fun w => exists_any (s := s) HAB.out w)
  go_wp2_with fail
  refine (T.out _).mono ?_
  rintro e wx ⟨rfl, rfl⟩
  clear T
  have T := make_any S3.out.l.ost.st S3.out.l.V ((exN (a &&& b) s 4 : Nat))
  rw [P3.out] at T
  unfold ptrV at T
  have T := Lib.hid T
  go_wp2_with fail
  refine T.out.mono ?_
  intro e w_4 hout
  obtain ⟨want, a4, rfl, s4, ex, pN, aN, sN2⟩ := S3.out.make (by omega) hout
  clear hout T
  have sN2 : ∀ val, Says 4 a4.cs val want = fE s (fun val => fx val && fy val) 4 val := fun val => by
    rw [sN2, exN_says 4 (by omega), FX.out, FY.out]
    congr 1
    funext v
    exact bitZ_and a b _
  have SX_nx_4 := Lib.hid (Says_at AT_nx_3.out ex S3.out.good s4.good SX_nx_3.out)
  have AT_nx_4 := Lib.hid (AT_nx_3.out.ext ex)
  have SX_ny_4 := Lib.hid (Says_at AT_ny_3.out ex S3.out.good s4.good SX_ny_3.out)
  have AT_ny_4 := Lib.hid (AT_ny_3.out.ext ex)
  have SX_want_4 := Lib.hid sN2
  have AT_want_4 := Lib.hid aN
  have P4 := Lib.hid (pN.trans P3.out)
  have S4 := Lib.hid s4
  clear SX_nx_3 AT_nx_3 SX_ny_3 AT_ny_3 s4 ex pN aN sN2 S3 P3
  have T := Lib.hid (fun w => list_any (s := s) w)
  go_wp2_with fail
  refine (T.out _).mono ?_
  rintro e wl ⟨vl, rfl, hrow, hb⟩
  obtain ⟨Al, cl, rfl, hrd⟩ := hrow.rd
  have S4 := Lib.hid (S4.out.keep hb)
  have RD := Lib.hid hrd
  clear T hrow hrd hb
  have T := product_good S4.out.l.ost S4.out.quan S4.out.nq S4.out.l.V v4room AT_nx_4.out AT_ny_4.out (cap := cl) (by have := listN_len (s) 4; omega) (listN_has (s)).lt RD.out
  rw [show both 4 a4.cs ⟨nx, ny⟩ = (fun val => fx val && fy val) from funext fun val => by unfold both; rw [SX_nx_4.out, SX_ny_4.out]] at T
  have T := Lib.hid T
  clear RD
  go_wp2_with fail
  refine T.out.mono ?_
  intro e w_5 hout
  obtain ⟨n, a5, rfl, s5, ex, pN, aN, sN2⟩ := S4.out.op (by omega) hout
  clear hout T
  have sN2 : ∀ val, Says 4 a5.cs val n = fE (s) (fun val => fx val && fy val) 4 val := fun val => by rw [sN2, exF_set (listN_has (s))]
  have SX_nx_5 := Lib.hid (Says_at AT_nx_4.out ex S4.out.good s5.good SX_nx_4.out)
  have AT_nx_5 := Lib.hid (AT_nx_4.out.ext ex)
  have SX_ny_5 := Lib.hid (Says_at AT_ny_4.out ex S4.out.good s5.good SX_ny_4.out)
  have AT_ny_5 := Lib.hid (AT_ny_4.out.ext ex)
  have SX_want_5 := Lib.hid (Says_at AT_want_4.out ex S4.out.good s5.good SX_want_4.out)
  have AT_want_5 := Lib.hid (AT_want_4.out.ext ex)
  have SX_n_5 := Lib.hid sN2
  have AT_n_5 := Lib.hid aN
  have P5 := Lib.hid (pN.trans P4.out)
  have S5 := Lib.hid s5
  clear SX_nx_4 AT_nx_4 SX_ny_4 AT_ny_4 SX_want_4 AT_want_4 s5 ex pN aN sN2 S4 P4
  have T := Lib.hid (ops_q S5.out.quan)
  go_wp2_with fail
  refine T.out.mono ?_
  rintro e wx ⟨rfl, rfl⟩
  clear T
  have T := Lib.hid (and_good S5.out.l.ost S5.out.l.room AT_nx_5.out AT_ny_5.out)
  go_wp2_with fail
  refine T.out.mono ?_
  intro e w_6 hout
  obtain ⟨an, a6, rfl, s6, ex, pN, aN, sN2⟩ := S5.out.ask (by omega) hout
  clear hout T
  have sN2 : ∀ val, Says 4 a6.cs val an = (fx val && fy val) := fun val => by
    rw [sN2]
    simp only [qsem, Says_zero, SX_nx_5.out, SX_ny_5.out]
    cases fx val <;> cases fy val <;> rfl
  have SX_nx_6 := Lib.hid (Says_at AT_nx_5.out ex S5.out.good s6.good SX_nx_5.out)
  have AT_nx_6 := Lib.hid (AT_nx_5.out.ext ex)
  have SX_ny_6 := Lib.hid (Says_at AT_ny_5.out ex S5.out.good s6.good SX_ny_5.out)
  have AT_ny_6 := Lib.hid (AT_ny_5.out.ext ex)
  have SX_want_6 := Lib.hid (Says_at AT_want_5.out ex S5.out.good s6.good SX_want_5.out)
  have AT_want_6 := Lib.hid (AT_want_5.out.ext ex)
  have SX_n_6 := Lib.hid (Says_at AT_n_5.out ex S5.out.good s6.good SX_n_5.out)
  have AT_n_6 := Lib.hid (AT_n_5.out.ext ex)
  have SX_an_6 := Lib.hid sN2
  have AT_an_6 := Lib.hid aN
  have P6 := Lib.hid (pN.trans P5.out)
  have S6 := Lib.hid s6
  clear SX_nx_5 AT_nx_5 SX_ny_5 AT_ny_5 SX_want_5 AT_want_5 SX_n_5 AT_n_5 s6 ex pN aN sN2 S5 P5
  have T := Lib.hid (fun w => list_any (s := s) w)
  go_wp2_with fail
  refine (T.out _).mono ?_
  rintro e wl ⟨vl, rfl, hrow, hb⟩
  obtain ⟨Al, cl, rfl, hrd⟩ := hrow.rd
  have S6 := Lib.hid (S6.out.keep hb)
  have RD := Lib.hid hrd
  clear T hrow hrd hb
  have T := exists_good S6.out.l.ost S6.out.quan S6.out.nq S6.out.l.V v4room AT_an_6.out (cap := cl) (by have := listN_len (s) 4; omega) (listN_has (s)).lt RD.out
  rw [both_self, show (fun val => Says 4 a6.cs val an) = (fun val => fx val && fy val) from funext SX_an_6.out] at T
  have T := Lib.hid T
  clear RD
  go_wp2_with fail
  refine T.out.mono ?_
  intro e w_7 hout
  obtain ⟨m, a7, rfl, s7, ex, pN, aN, sN2⟩ := S6.out.op (by omega) hout
  clear hout T
  have sN2 : ∀ val, Says 4 a7.cs val m = fE (s) (fun val => fx val && fy val) 4 val := fun val => by rw [sN2, exF_set (listN_has (s))]
  have SX_nx_7 := Lib.hid (Says_at AT_nx_6.out ex S6.out.good s7.good SX_nx_6.out)
  have AT_nx_7 := Lib.hid (AT_nx_6.out.ext ex)
  have SX_ny_7 := Lib.hid (Says_at AT_ny_6.out ex S6.out.good s7.good SX_ny_6.out)
  have AT_ny_7 := Lib.hid (AT_ny_6.out.ext ex)
  have SX_want_7 := Lib.hid (Says_at AT_want_6.out ex S6.out.good s7.good SX_want_6.out)
  have AT_want_7 := Lib.hid (AT_want_6.out.ext ex)
  have SX_n_7 := Lib.hid (Says_at AT_n_6.out ex S6.out.good s7.good SX_n_6.out)
  have AT_n_7 := Lib.hid (AT_n_6.out.ext ex)
  have SX_an_7 := Lib.hid (Says_at AT_an_6.out ex S6.out.good s7.good SX_an_6.out)
  have AT_an_7 := Lib.hid (AT_an_6.out.ext ex)
  have SX_m_7 := Lib.hid sN2
  have AT_m_7 := Lib.hid aN
  have P7 := Lib.hid (pN.trans P6.out)
  have S7 := Lib.hid s7
  clear SX_nx_6 AT_nx_6 SX_ny_6 AT_ny_6 SX_want_6 AT_want_6 SX_n_6 AT_n_6 SX_an_6 AT_an_6 s7 ex pN aN sN2 S6 P6
  have E1 : Hid (n = want) := same_node S7.out.good AT_n_7.out AT_want_7.out fun val => by
    rw [SX_n_7.out, SX_want_7.out]

  have E2 : Hid (m = want) := same_node S7.out.good AT_m_7.out AT_want_7.out fun val => by
    rw [SX_m_7.out, SX_want_7.out]

  have AK := Lib.hid (fun w => awake5 w)
  have ee0 := E1.out
  have ee1 := E2.out
  clear SX_nx_7 AT_nx_7 SX_ny_7 AT_ny_7 SX_want_7 AT_want_7 SX_n_7 AT_n_7 SX_an_7 AT_an_7 SX_m_7 AT_m_7 E1 E2 P7
  subst ee0
  subst ee1
  go_wp2_with fail
  refine (AK.out _).mono ?_
  rintro e w_e ⟨rfl, hb⟩
  have BL := Lib.hid (S7.out.below.trans (hb.mono S7.out.below.size))
  clear hb AK S7
  go_wp2_with fail
  go_ret
  exact ⟨rfl, BL.out⟩

theorem quanProduct_walk (x y z : Int) (w : World) (_hx : (Lit.int .i64 x).wf = true) (_hy : (Lit.int .i64 y).wf = true) (_hz : (Lit.int .i64 z).wf = true) :
    Calls Try.prog 5 #[.int .i64 x, .int .i64 y, .int .i64 z] w fun e w' => e = .returned (.bool true) ∧ Below w.heap.size w w' := qproduct_core x y z w

namespace quanProduct
set_option linter.unusedVariables false
theorem own : ownKnob Try.prog.godebug = none := by kernel_rfl
theorem laidOut : laidOutB Try.prog = true := by kernel_rfl
set_option maxRecDepth 100000 in
theorem lifted (os : Os) (started : os.Started) (H : Type) (enc : TypeId × Value → H) :
    ReturnsInHanded {} Try.checked os 5 .any (Rows.quanProductSpec.pre6 enc Try.prog Try.f5 Rows.quanProductRow.domain false) (Rows.quanProductSpec.post enc Try.prog Try.f5 false true false false) := by
  refine returnsInHanded_of_change (C := Try.checked) own started (by kernel_rfl) Try.func5
    (ChangeSpec.witness6 (enc := enc) (C := Try.checked) false ⟨#[], #[.int .i64 0, .int .i64 0, .int .i64 0], []⟩ 8 (by kernel_rfl) (by kernel_rfl) (by kernel_rfl) (by kernel_rfl)) ?_
  intro W base args ds gs before hval0 hW hcnd hsz
  have hval : ∀ (j : Nat) t v, Try.f5.params[j]? = some t → args[j]? = some v → Value.okWide Try.prog W .any base t v := hval0
  have hW' := hW
  obtain ⟨p, q, hA0, hV, rfl, hfz, hnd⟩ := hW
  have hA : DataW.TrodAll enc Try.prog W 0 (fun _ => true) true Try.f5.params.toList args.toList ds p := hA0
  rw [Try.params5] at hA hval
  obtain ⟨v0, vs0, d0, ds0, p0, q0, hargs, rfl, rfl, h0, r0⟩ := trodAll_cons hA
  obtain ⟨v1, vs1, d1, ds1, p1, q1, rfl, rfl, rfl, h1, r1⟩ := trodAll_cons r0
  obtain ⟨v2, vs2, d2, ds2, p2, q2, rfl, rfl, rfl, h2, r2⟩ := trodAll_cons r1
  obtain ⟨rfl, rfl, rfl⟩ := trodAll_nil r2
  obtain rfl : args = #[v0, v1, v2] := by cases args; simp_all
  obtain ⟨rfl, rfl⟩ := trodVars_none hV
  obtain ⟨a0, rfl, rfl, rfl, w0⟩ := open_int Try.underlying3 (hval 0 3 v0 rfl rfl) h0
  obtain ⟨a1, rfl, rfl, rfl, w1⟩ := open_int Try.underlying3 (hval 1 3 v1 rfl rfl) h1
  obtain ⟨a2, rfl, rfl, rfl, w2⟩ := open_int Try.underlying3 (hval 2 3 v2 rfl rfl) h2
  clear hA0 hval0
  refine (quanProduct_walk a0 a1 a2 W w0 w1 w2).mono fun e W' ⟨he, bel⟩ => ?_
  subst he
  exact ⟨_, rfl, _, _, _, [], _, [], hW', trodAll_mk1 (shut_bool Try.underlying4 _), (trodAll_cons_mk (shut_int Try.underlying3 w0) (trodAll_cons_mk (shut_int Try.underlying3 w1) (trodAll_cons_mk (shut_int Try.underlying3 w2) trodAll_mk0))), rfl, bel.frame _, fun h => by cases h⟩
theorem over : Rows.quanProductRow.holds Try.pinned (OpenSpec.ofChange Rows.quanProductSpec) :=
  OpenClaim.holds_of_wide 5 Try.f5 rfl rfl rfl rfl rfl rfl rfl ⟨rfl, rfl, rfl, rfl, rfl⟩ rfl rfl rfl rfl rfl (by kernel_rfl) Try.func5 (by kernel_rfl)
    (of_decide_eq_true (by kernel_rfl)) (by unfold Func.isWrapper; first | (rw [if_pos (by decide +kernel)]; kernel_rfl) | (rw [if_neg (by decide +kernel)]; exact ⟨rfl, rfl⟩))
    (fun os started H enc _ => lifted os started H enc)
/-- THE STATEMENT. -/
theorem proved : Rows.QuanProductSaid := over
end quanProduct
#print axioms quanProduct.proved
end Go.Proofs.Ytmbkkifopmbkaaa
