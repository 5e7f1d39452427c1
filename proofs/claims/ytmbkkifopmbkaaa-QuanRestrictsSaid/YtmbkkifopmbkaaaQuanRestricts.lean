/- For any sixteen answers, any of four variables and either value: Restrict gives the node of the answers with that variable so: the law returns true. No condition. -/
import Derived.Test.YtmbkkifopmbkaaaML
namespace Go.Proofs.Ytmbkkifopmbkaaa
open Go.ChangeShapes Go.WideShapes Go.ChangeAt Go.RowKit Go.Maps

set_option maxHeartbeats 4000000 in
set_option maxRecDepth 100000 in
theorem restricts_core (n vv : Int) (b : Bool) (w : World) : Calls Try.prog 3 #[.int .i64 n, .int .i64 vv, .bool b] w fun e w' => e = .returned (.bool true) ∧ Below w.heap.size w w' := by
  obtain ⟨x, hx, ex⟩ := low16 n
  obtain ⟨v, hv, ev⟩ := low2 vv
  have BG := begun5 1000 (by omega) (by omega) w
  change Calls _ _ #[.int .i64 1000] _ _ at BG
  have BG := Lib.hid BG
  have HX := Lib.hid hx
  have HV := Lib.hid hv
  clear hx hv
  go_enter Try.func3, Try.ntmps3
  go_wp2_with fail
  refine BG.out.mono ?_
  rintro e w1 ⟨m1, o, q, rfl, s1⟩
  have T := Lib.hid (make_any s1.l.ost.st s1.l.V (x : Int))
  have S1 := Lib.hid s1
  unfold ptrV at *
  clear s1 BG
  go_wp2_with fail
  refine T.out.mono ?_
  intro e w2 hout
  obtain ⟨nx, a2, rfl, s2, x2, p2, ax, sx⟩ := S1.out.make (by omega) hout
  have RE := Lib.hid (fun w => rest_any b HX.out HV.out (x := x) (v := v) w)
  have S2 := Lib.hid s2
  have AX := Lib.hid ax
  have SX := Lib.hid sx
  have P2 := Lib.hid p2
  clear hout s2 x2 p2 ax sx T S1
  go_wp2_with fail
  refine (RE.out _).mono ?_
  rintro e w3 ⟨rfl, rfl⟩
  have T := make_any S2.out.l.ost.st S2.out.l.V ((restN x v b : Nat) : Int)
  rw [P2.out] at T
  unfold ptrV at T
  have T := Lib.hid T
  clear RE
  go_wp2_with fail
  refine T.out.mono ?_
  intro e w4 hout
  obtain ⟨want, a4, rfl, s4, x4, p4, aw, sw⟩ := S2.out.make (by omega) hout
  have sx4 := Says_at AX.out x4 S2.out.good s4.good SX.out
  have Q := Lib.hid (restrict_good s4.l.ost s4.quan s4.nq s4.l.V (by decide) b HV.out (AX.out.ext x4))
  have S4 := Lib.hid s4
  have AW := Lib.hid aw
  have SW := Lib.hid sw
  have SX4 := Lib.hid sx4
  clear hout s4 x4 p4 aw sw sx4 T S2 AX SX P2
  go_wp2_with fail
  refine Q.out.mono ?_
  intro e w5 hout
  obtain ⟨k, a5, rfl, s5, x5, p5, ak, sk⟩ := S4.out.op (by omega) hout
  have KW : Hid (k = want) := same_node s5.good ak (AW.out.ext x5) fun val => by
    rw [sk, SX4.out, Says_at AW.out x5 S4.out.good s5.good SW.out, rest_says HV.out]
  have S5 := Lib.hid s5
  have AK := Lib.hid (awake5 w5)
  have ek := KW.out
  subst ek
  clear hout s5 x5 p5 ak sk KW Q S4 AW SW SX4
  go_wp2_with fail
  refine AK.out.mono ?_
  rintro e w6 ⟨rfl, hb⟩
  have BL := Lib.hid (S5.out.below.trans (hb.mono S5.out.below.size))
  clear hb AK S5
  go_wp2_with fail
  go_ret
  exact ⟨rfl, BL.out⟩

theorem quanRestricts_walk (n vv : Int) (b : Bool) (w : World) (_hn : (Lit.int .i64 n).wf = true) (_hv : (Lit.int .i64 vv).wf = true) :
    Calls Try.prog 3 #[.int .i64 n, .int .i64 vv, .bool b] w fun e w' => e = .returned (.bool true) ∧ Below w.heap.size w w' := restricts_core n vv b w

namespace quanRestricts
set_option linter.unusedVariables false
theorem own : ownKnob Try.prog.godebug = none := by kernel_rfl
theorem laidOut : laidOutB Try.prog = true := by kernel_rfl
set_option maxRecDepth 100000 in
theorem lifted (os : Os) (started : os.Started) (H : Type) (enc : TypeId × Value → H) :
    ReturnsInHanded {} Try.checked os 3 .any (Rows.quanRestrictsSpec.pre6 enc Try.prog Try.f3 Rows.quanRestrictsRow.domain false) (Rows.quanRestrictsSpec.post enc Try.prog Try.f3 false true false false) := by
  refine returnsInHanded_of_change (C := Try.checked) own started (by kernel_rfl) Try.func3
    (ChangeSpec.witness6 (enc := enc) (C := Try.checked) false ⟨#[], #[.int .i64 0, .int .i64 0, .bool false], []⟩ 8 (by kernel_rfl) (by kernel_rfl) (by kernel_rfl) (by kernel_rfl)) ?_
  intro W base args ds gs before hval0 hW hcnd hsz
  have hval : ∀ (j : Nat) t v, Try.f3.params[j]? = some t → args[j]? = some v → Value.okWide Try.prog W .any base t v := hval0
  have hW' := hW
  obtain ⟨p, q, hA0, hV, rfl, hfz, hnd⟩ := hW
  have hA : DataW.TrodAll enc Try.prog W 0 (fun _ => true) true Try.f3.params.toList args.toList ds p := hA0
  rw [Try.params3] at hA hval
  obtain ⟨v0, vs0, d0, ds0, p0, q0, hargs, rfl, rfl, h0, r0⟩ := trodAll_cons hA
  obtain ⟨v1, vs1, d1, ds1, p1, q1, rfl, rfl, rfl, h1, r1⟩ := trodAll_cons r0
  obtain ⟨v2, vs2, d2, ds2, p2, q2, rfl, rfl, rfl, h2, r2⟩ := trodAll_cons r1
  obtain ⟨rfl, rfl, rfl⟩ := trodAll_nil r2
  obtain rfl : args = #[v0, v1, v2] := by cases args; simp_all
  obtain ⟨rfl, rfl⟩ := trodVars_none hV
  obtain ⟨a0, rfl, rfl, rfl, w0⟩ := open_int Try.underlying3 (hval 0 3 v0 rfl rfl) h0
  obtain ⟨a1, rfl, rfl, rfl, w1⟩ := open_int Try.underlying3 (hval 1 3 v1 rfl rfl) h1
  obtain ⟨a2, rfl, rfl, rfl⟩ := open_bool Try.underlying4 (hval 2 4 v2 rfl rfl) h2
  clear hA0 hval0
  refine (quanRestricts_walk a0 a1 a2 W w0 w1).mono fun e W' ⟨he, bel⟩ => ?_
  subst he
  exact ⟨_, rfl, _, _, _, [], _, [], hW', trodAll_mk1 (shut_bool Try.underlying4 _), (trodAll_cons_mk (shut_int Try.underlying3 w0) (trodAll_cons_mk (shut_int Try.underlying3 w1) (trodAll_cons_mk (shut_bool Try.underlying4 _) trodAll_mk0))), rfl, bel.frame _, fun h => by cases h⟩
theorem over : Rows.quanRestrictsRow.holds Try.pinned (OpenSpec.ofChange Rows.quanRestrictsSpec) :=
  OpenClaim.holds_of_wide 3 Try.f3 rfl rfl rfl rfl rfl rfl rfl ⟨rfl, rfl, rfl, rfl, rfl⟩ rfl rfl rfl rfl rfl (by kernel_rfl) Try.func3 (by kernel_rfl)
    (of_decide_eq_true (by kernel_rfl)) (by unfold Func.isWrapper; first | (rw [if_pos (by decide +kernel)]; kernel_rfl) | (rw [if_neg (by decide +kernel)]; exact ⟨rfl, rfl⟩))
    (fun os started H enc _ => lifted os started H enc)
/-- THE STATEMENT. -/
theorem proved : Rows.QuanRestrictsSaid := over
end quanRestricts
#print axioms quanRestricts.proved
end Go.Proofs.Ytmbkkifopmbkaaa
