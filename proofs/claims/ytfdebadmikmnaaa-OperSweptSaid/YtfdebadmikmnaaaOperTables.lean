/- For any three numbers of sixteen bits and each of the six operations: what an operation gives says what it must of all values of four variables, and is the node of these answers: the law returns true. No condition. -/
import Derived.Test.YtfdebadmikmnaaaOArg
namespace Go.Proofs.Ytfdebadmikmnaaa
open Go.ChangeShapes Go.WideShapes Go.ChangeAt Go.RowKit Go.Maps

theorem and_mask8 (z : Int) : bits BinOp.and IntKind.i64 z 255 = z % 256 := by
  show IntKind.i64.wrap ((BitVec.ofInt 64 z &&& BitVec.ofInt 64 ((255 : Nat) : Int)).toNat : Int) = _
  have h := Nat.and_two_pow_sub_one_eq_mod (BitVec.ofInt 64 z).toNat 8
  rw [BitVec.toNat_and, ofInt_i64 255 (by omega), show (255 : Nat) = 2 ^ 8 - 1 from rfl, h, IntKind.wrap_i64, BitVec.toNat_ofInt]
  omega

/-- The sixteen lowest bits of a number, and an operation's number. -/
theorem low16 (z : Int) : ∃ a : Nat, a < 65536 ∧ bits BinOp.and IntKind.i64 z 65535 = (a : Int) := ⟨(z % 65536).toNat, by omega, by rw [and_mask16]; omega⟩
theorem kind6 (z : Int) : ∃ j K : Nat, j < 256 ∧ K < 6 ∧ bits BinOp.and IntKind.i64 z 255 = (j : Int) ∧ Int.tmod (j : Int) 6 = (K : Int) ∧ K = j % 6 := ⟨(z % 256).toNat, (z % 256).toNat % 6, by omega, by omega, by rw [and_mask8]; omega, by rw [Int.tmod_eq_emod_of_nonneg (by omega)]; omega, rfl⟩

set_option maxHeartbeats 4000000 in
set_option maxRecDepth 100000 in
theorem tables_core (x y z kd : Int) (w : World) : Calls Try.prog 3 #[.agg #[.int .i64 x, .int .i64 y, .int .i64 z], .int .i64 kd] w fun e w' => e = .returned (.bool true) ∧ Below w.heap.size w w' := by
  obtain ⟨a, ha, ea⟩ := low16 x
  obtain ⟨b, hb, eb⟩ := low16 y
  obtain ⟨c, hc, ec⟩ := low16 z
  obtain ⟨j, K, hj, hK, ej, ek, hjk⟩ := kind6 kd
  have bw := (Below.refl w.heap.size w).alloc (Nat.le_refl _) (.cells #[.int .i64 x, .int .i64 y, .int .i64 z] 22)
  have hr := heap_alloc_new w (.cells #[.int .i64 x, .int .i64 y, .int .i64 z] 22)
  have BG := begun_any 1000 (by omega) (by omega) (w.alloc (.cells #[.int .i64 x, .int .i64 y, .int .i64 z] 22))
  change Calls _ _ #[.int .i64 1000] _ _ at BG
  have BG := Lib.hid BG
  have BW := Lib.hid bw
  have HR := Lib.hid hr
  have HA := Lib.hid ha
  have HB := Lib.hid hb
  have HC := Lib.hid hc
  have HK := Lib.hid hK
  clear bw hr ha hb hc hK hjk
  go_enter Try.func3, Try.ntmps3
  go_wp2_with fail
  refine BG.out.mono ?_
  rintro e w1 ⟨m1, o, rfl, l1⟩
  have r1 := (l1.below.block _ (row_lt HR.out)).trans HR.out
  have x0 := cell_of_row _ _ 0 _ _ _ r1
  have x1 := cell_of_row _ _ 1 _ _ _ r1
  have x2 := cell_of_row _ _ 2 _ _ _ r1
  have L2 := Lib.hid (l1.keep (below_drew w1))
  clear l1 r1 BG
  unfold ptrV at *
  simp at x0 x1 x2
  go_wp2_with fail
  go_region
  revert L2
  generalize w1.drew = w2
  intro L2
  clear x0 x1 x2
  have T := make_any L2.out.ost.st L2.out.V ((a : Int))
  unfold ptrV at T
  have T := Lib.hid T
  go_wp2_with fail
  refine T.out.mono ?_
  intro e w3 hout
  obtain ⟨nx, m3, h3, cs3, rfl, l3, ex, -, sN, aN, sN2⟩ := L2.out.make (by omega) hout
  clear hout T
  have SX_nx_3 := Lib.hid sN2
  have AT_nx_3 := Lib.hid aN
  have S3 := Lib.hid sN
  have L3 := Lib.hid l3
  clear l3 ex sN aN sN2 L2
  have T := make_any L3.out.ost.st L3.out.V ((b : Int))
  rw [S3.out] at T
  unfold ptrV at T
  have T := Lib.hid T
  go_wp2_with fail
  refine T.out.mono ?_
  intro e w4 hout
  obtain ⟨ny, m4, h4, cs4, rfl, l4, ex, -, sN, aN, sN2⟩ := L3.out.make (by omega) hout
  clear hout T
  have SX_nx_4 := Lib.hid (Says_at AT_nx_3.out ex L3.out.good l4.good SX_nx_3.out)
  have AT_nx_4 := Lib.hid (AT_nx_3.out.ext ex)
  have SX_ny_4 := Lib.hid sN2
  have AT_ny_4 := Lib.hid aN
  have S4 := Lib.hid (sN.trans S3.out)
  have L4 := Lib.hid l4
  clear SX_nx_3 AT_nx_3 l4 ex sN aN sN2 S3 L3
  have T := make_any L4.out.ost.st L4.out.V ((c : Int))
  rw [S4.out] at T
  unfold ptrV at T
  have T := Lib.hid T
  go_wp2_with fail
  refine T.out.mono ?_
  intro e w5 hout
  obtain ⟨nz, m5, h5, cs5, rfl, l5, ex, -, sN, aN, sN2⟩ := L4.out.make (by omega) hout
  clear hout T
  have SX_nx_5 := Lib.hid (Says_at AT_nx_4.out ex L4.out.good l5.good SX_nx_4.out)
  have AT_nx_5 := Lib.hid (AT_nx_4.out.ext ex)
  have SX_ny_5 := Lib.hid (Says_at AT_ny_4.out ex L4.out.good l5.good SX_ny_4.out)
  have AT_ny_5 := Lib.hid (AT_ny_4.out.ext ex)
  have SX_nz_5 := Lib.hid sN2
  have AT_nz_5 := Lib.hid aN
  have S5 := Lib.hid (sN.trans S4.out)
  have L5 := Lib.hid l5
  clear SX_nx_4 AT_nx_4 SX_ny_4 AT_ny_4 l5 ex sN aN sN2 S4 L4
  have MU := Lib.hid (fun w => must_any (w := w) HK.out HA.out HB.out HC.out)
  have ML := Lib.hid (mustN_lt (K := K) HA.out HB.out HC.out)
  have MS : Hid (∀ val, qsem 4 cs5 val (qOf K nx ny nz) = bitZ (mustN K a b c : Nat) (tix val 4 0 0)) := must_says SX_nx_5.out SX_ny_5.out SX_nz_5.out
  have MX := Lib.hid SX_nx_5.out
  have MY := Lib.hid SX_ny_5.out
  have MZ := Lib.hid SX_nz_5.out
  unfold MustOut at MU
  revert MU ML MS
  generalize mustN K a b c = M
  intro MU ML MS
  go_wp2_with fail
  refine (MU.out _).mono ?_
  rintro e w' ⟨rfl, rfl⟩
  clear MU
  have T := make_any L5.out.ost.st L5.out.V ((M : Int))
  rw [S5.out] at T
  unfold ptrV at T
  have T := Lib.hid T
  go_wp2_with fail
  refine T.out.mono ?_
  intro e w6 hout
  obtain ⟨nw, m6, h6, cs6, rfl, l6, ex, -, sN, aN, sN2⟩ := L5.out.make (by omega) hout
  clear hout T
  have SX_nx_6 := Lib.hid (Says_at AT_nx_5.out ex L5.out.good l6.good SX_nx_5.out)
  have AT_nx_6 := Lib.hid (AT_nx_5.out.ext ex)
  have SX_ny_6 := Lib.hid (Says_at AT_ny_5.out ex L5.out.good l6.good SX_ny_5.out)
  have AT_ny_6 := Lib.hid (AT_ny_5.out.ext ex)
  have SX_nz_6 := Lib.hid (Says_at AT_nz_5.out ex L5.out.good l6.good SX_nz_5.out)
  have AT_nz_6 := Lib.hid (AT_nz_5.out.ext ex)
  have SX_nw_6 := Lib.hid sN2
  have AT_nw_6 := Lib.hid aN
  have S6 := Lib.hid (sN.trans S5.out)
  have L6 := Lib.hid l6
  clear SX_nx_5 AT_nx_5 SX_ny_5 AT_ny_5 SX_nz_5 AT_nz_5 l6 ex sN aN sN2 S5 L5
  have T := Lib.hid (does_good L6.out.ost L6.out.room HK.out AT_nx_6.out AT_ny_6.out AT_nz_6.out)
  have MS2 : Hid (∀ val, qsem 4 cs6 val (qOf K nx ny nz) = bitZ (M : Int) (tix val 4 0 0)) := by
    show ∀ val, qsem 4 cs6 val (qOf K nx ny nz) = bitZ (M : Int) (tix val 4 0 0)
    intro val
    rw [← MS.out val, qsem_op, qsem_op, SX_nx_6.out, SX_ny_6.out, SX_nz_6.out, MX.out, MY.out, MZ.out]
  go_wp2_with fail
  refine T.out.mono ?_
  intro e w7 hout
  obtain ⟨nn, m7, h7, cs7, mb7, rfl, l7, ex, -, sN, aN, sN2⟩ := L6.out.ask (by omega) hout
  clear hout T
  have sN2 : ∀ val, Says 4 cs7 val nn = bitZ (M : Int) (tix val 4 0 0) := fun val => (sN2 val).trans (MS2.out val)
  have SX_nx_7 := Lib.hid (Says_at AT_nx_6.out ex L6.out.good l7.good SX_nx_6.out)
  have AT_nx_7 := Lib.hid (AT_nx_6.out.ext ex)
  have SX_ny_7 := Lib.hid (Says_at AT_ny_6.out ex L6.out.good l7.good SX_ny_6.out)
  have AT_ny_7 := Lib.hid (AT_ny_6.out.ext ex)
  have SX_nz_7 := Lib.hid (Says_at AT_nz_6.out ex L6.out.good l7.good SX_nz_6.out)
  have AT_nz_7 := Lib.hid (AT_nz_6.out.ext ex)
  have SX_nw_7 := Lib.hid (Says_at AT_nw_6.out ex L6.out.good l7.good SX_nw_6.out)
  have AT_nw_7 := Lib.hid (AT_nw_6.out.ext ex)
  have SX_nn_7 := Lib.hid sN2
  have AT_nn_7 := Lib.hid aN
  have S7 := Lib.hid (sN.trans S6.out)
  have L7 := Lib.hid l7
  clear SX_nx_6 AT_nx_6 SX_ny_6 AT_ny_6 SX_nz_6 AT_nz_6 SX_nw_6 AT_nw_6 l7 ex sN aN sN2 S6 L6
  have hnw : ((nn : Int) == (nw : Int)) = true := by
    have := same_node L7.out.good AT_nn_7.out AT_nw_7.out fun val => by rw [SX_nn_7.out, SX_nw_7.out]
    rw [this]; simp
  have SY := says_any L7.out.ost.st L7.out.V AT_nn_7.out
  unfold SaysOut at SY
  rw [ans_bits SX_nn_7.out ML.out, S7.out] at SY
  unfold ptrV at SY
  have SY := Lib.hid SY
  have AW := Lib.hid awake4
  go_wp2_with fail
  refine SY.out.mono ?_
  rintro e w8 ⟨rfl, hb8⟩
  have B8 := Lib.hid (L7.out.below.trans (hb8.mono L7.out.below.size))
  clear hb8 SY
  go_wp2_with fail
  refine (AW.out _).mono ?_
  rintro e w9 ⟨rfl, hb9⟩
  have B9 := Lib.hid (B8.out.trans (hb9.mono B8.out.size))
  clear hb9 AW
  go_wp2_with fail
  go_ret
  exact ⟨rfl, BW.out.trans (B9.out.mono BW.out.size)⟩

theorem operTables_walk (v : Value) (kd : Int) (w : World) (h : ∃ k : Key, v = .agg #[.int .i64 k.a, .int .i64 k.b, .int .i64 k.c]) (_hk : (Lit.int .i64 kd).wf = true) :
    Calls Try.prog 3 #[v, .int .i64 kd] w fun e w' => e = .returned (.bool true) ∧ Below w.heap.size w w' := by
  obtain ⟨k, rfl⟩ := h
  exact tables_core k.a k.b k.c kd w

namespace operTables
set_option linter.unusedVariables false
theorem own : ownKnob Try.prog.godebug = none := by kernel_rfl
theorem laidOut : laidOutB Try.prog = true := by kernel_rfl
set_option maxRecDepth 100000 in
theorem lifted (os : Os) (started : os.Started) (H : Type) (enc : TypeId × Value → H) :
    ReturnsInHanded {} Try.checked os 3 .any (Rows.operTablesSpec.pre6 enc Try.prog Try.f3 Rows.operTablesRow.domain false) (Rows.operTablesSpec.post enc Try.prog Try.f3 false true false false) := by
  refine returnsInHanded_of_change (C := Try.checked) own started (by kernel_rfl) Try.func3
    (ChangeSpec.witness6 (enc := enc) (C := Try.checked) false ⟨#[], #[.agg #[.int .i64 0, .int .i64 0, .int .i64 0], .int .i64 0], []⟩ 8 (by kernel_rfl) (by kernel_rfl) (by kernel_rfl) (by kernel_rfl)) ?_
  intro W base args ds gs before hval0 hW hcnd hsz
  have hval : ∀ (j : Nat) t v, Try.f3.params[j]? = some t → args[j]? = some v → Value.okWide Try.prog W .any base t v := hval0
  have hW' := hW
  obtain ⟨p, q, hA0, hV, rfl, hfz, hnd⟩ := hW
  have hA : DataW.TrodAll enc Try.prog W 0 (fun _ => true) true Try.f3.params.toList args.toList ds p := hA0
  rw [Try.params3] at hA hval
  obtain ⟨v0, vs0, d0, ds0, p0, q0, hargs, rfl, rfl, h0, r0⟩ := trodAll_cons hA
  obtain ⟨v1, vs1, d1, ds1, p1, q1, rfl, rfl, rfl, h1, r1⟩ := trodAll_cons r0
  obtain ⟨rfl, rfl, rfl⟩ := trodAll_nil r1
  obtain rfl : args = #[v0, v1] := by cases args; simp_all
  obtain ⟨rfl, rfl⟩ := trodVars_none hV
  have k0 := h0
  have lt0 : ∀ x ∈ p0, x.block < W.heap.size := by obtain ⟨m, hm⟩ := k0; exact DataW.trod_lt m _ _ _ hm
  obtain ⟨a1, rfl, rfl, rfl, w1⟩ := open_int Try.underlying3 (hval 1 3 v1 rfl rfl) h1
  clear hA0 hval0
  refine (operTables_walk v0 a1 W (arg_key h0 (hval 0 22 v0 rfl rfl)) w1).mono fun e W' ⟨he, bel⟩ => ?_
  subst he
  exact ⟨_, rfl, _, _, _, [], _, [], hW', trodAll_mk1 (shut_bool Try.underlying4 _), (trodAll_cons_mk (Below.trod laidOut (by kernel_rfl) (of_decide_eq_true (by kernel_rfl)) k0 bel lt0) (trodAll_cons_mk (shut_int Try.underlying3 w1) trodAll_mk0)), rfl, bel.frame _, fun h => by cases h⟩
theorem over : Rows.operTablesRow.holds Try.pinned (OpenSpec.ofChange Rows.operTablesSpec) :=
  OpenClaim.holds_of_wide 3 Try.f3 rfl rfl rfl rfl rfl rfl rfl ⟨rfl, rfl, rfl, rfl, rfl⟩ rfl rfl rfl rfl rfl (by kernel_rfl) Try.func3 (by kernel_rfl)
    (of_decide_eq_true (by kernel_rfl)) (by unfold Func.isWrapper; first | (rw [if_pos (by decide +kernel)]; kernel_rfl) | (rw [if_neg (by decide +kernel)]; exact ⟨rfl, rfl⟩))
    (fun os started H enc _ => lifted os started H enc)
/-- THE STATEMENT. -/
theorem proved : Rows.OperTablesSaid := over
end operTables
#print axioms operTables.proved
end Go.Proofs.Ytfdebadmikmnaaa
