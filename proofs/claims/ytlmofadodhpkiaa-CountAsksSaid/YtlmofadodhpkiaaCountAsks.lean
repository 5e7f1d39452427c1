/- For any sixteen answers of four variables: Asks gives the variables on which they hang, rising: the law returns true. No condition. -/
import Derived.Test.YtlmofadodhpkiaaMU
namespace Go.Proofs.Ytlmofadodhpkiaa
open Go.ChangeShapes Go.WideShapes Go.ChangeAt Go.RowKit Go.Maps

set_option maxHeartbeats 4000000 in
set_option maxRecDepth 100000 in
theorem asks_core (n : Int) (w : World) : Calls Try.prog 3 #[.int .i64 n] w fun e w' => e = .returned (.bool true) ∧ Below w.heap.size w w' := by
  obtain ⟨x, hx, ex, -⟩ := low16C n
  obtain ⟨i0, hi, hz0, hz1, hz2⟩ := info_parts info_intC
  have BG := Lib.hid (begun6 w)
  have HX := Lib.hid hx
  clear hx
  go_enter Try.func3, Try.ntmps3
  go_wp2_with fail
  refine BG.out.mono ?_
  rintro e w1 ⟨m1, rfl, s1⟩
  have T := Lib.hid (make_any s1.st s1.V (x : Int))
  have S1 := Lib.hid s1
  unfold ptrV at *
  clear s1 BG
  go_wp2_with fail
  refine T.out.mono ?_
  intro e w2 hout
  obtain ⟨nx, m2, h2, cs2, rfl, s2, x2, p2, ⟨c, ic, _⟩, sx⟩ := S1.out.make (by omega) hout
  have S2 := Lib.hid s2
  have IC := Lib.hid ic
  have SX := Lib.hid sx
  have P2 := Lib.hid p2
  clear hout s2 x2 p2 ic sx T S1
  go_wp2_with fail
  go_loopw [7, 8] (fun lv iv wr => ∃ j : Nat, j ≤ 4 ∧ iv = .int .i64 (j : Int) ∧ NRow wr w2.heap.size lv ((List.range j).filter (hangB (x : Int))) ∧ Below w2.heap.size w2 wr) (fun _ iv _ => 4 - (intOf iv).toNat)
  case atStart => exact ⟨0, Nat.zero_le _, rfl, NRow.nil _ _, Below.refl _ _⟩
  case round =>
    obtain ⟨j, hj, rfl, hown, hbel⟩ := hrel
    have hlf := filt_len (hangB (x : Int)) j
    by_cases hlt : j < 4
    · have hlt' : (j : Int) < 4 := by omega
      have HA := hangs_any (x := x) hlt wr
      cases hb : hangB (x : Int) j with
      | true =>
        rw [hb] at HA
        have HA := Lib.hid HA
        have LS : Hid ((List.range (j + 1)).filter (hangB (x : Int)) = (List.range j).filter (hangB (x : Int)) ++ [j]) := by show _ = _; rw [filt_succ, hb, if_pos rfl]
        have HOW := Lib.hid hown
        have HBL := Lib.hid hbel
        clear hb hown hbel
        go_wp2_with fail
        refine HA.out.mono ?_
        rintro e w3 ⟨rfl, q, hw3⟩
        have b3 : Below wr.heap.size wr w3 := by rw [hw3]; exact below_drewN0 _ _
        have hown := HOW.out.keep b3
        have hbel := HBL.out.trans (b3.mono HBL.out.size)
        have hsz := hbel.size
        clear hw3 b3 HA HOW HBL
        go_wp2_with (at_builtin; refine wpList_append_own _ rfl _ _ 27 rfl w2.heap.size 3 i0 (.int .i64 0) 1 8 Try.underlying27 hi hz0 hz1 hz2 rfl (by decide) _ _ _ rfl (hown.alloc _) ⟨w3.heap.size, 0, none⟩ 1 1 [.int .i64 (j : Int)] rfl rfl ?c1 ?c2 ?c3 ?c4 ?c5 ?_)
        case c1 =>
          intro i u hu
          match i, hu with
          | 0, hu => simp at hu; subst hu; simp [Addr.add]
        case c2 => intro u hu; simp at hu; subst hu; rfl
        case c3 => unfold maxLen; omega
        case c4 => omega
        case c5 => simp; omega
        intro v' w4 hown' hgrow _
        have HO : Hid (NRow w4 w2.heap.size v' ((List.range (j + 1)).filter (hangB (x : Int)))) := Lib.hid (by
          rw [LS.out]
          show w4.ownsRow _ _ _ v' ((List.range j).filter (hangB (x : Int)) ++ [j]).length (((List.range j).filter (hangB (x : Int)) ++ [j]).map fun (x : Nat) => Value.int .i64 (x : Int))
          simpa [nats] using hown')
        have hb1 : Below w2.heap.size w2 w4 := (hbel.alloc (by omega) _).grown hgrow (by simp; omega) (by
          intro g hg
          rcases hown.2 with ⟨rfl, _⟩ | ⟨g', cap, cur, rfl, hb, _⟩
          · simp [Value.ownBlock] at hg
          · simp [Value.ownBlock] at hg; omega)
        clear hown' hgrow hown hbel hlf
        go_wp2_with fail
        go_roundw
        case rel => exact ⟨j + 1, by omega, by go_num, HO.out, hb1⟩
        case measure => simp [intOf]; omega
      | false =>
        rw [hb] at HA
        have HA := Lib.hid HA
        have e : (List.range (j + 1)).filter (hangB (x : Int)) = (List.range j).filter (hangB (x : Int)) := by rw [filt_succ, hb, if_neg (by simp), List.append_nil]
        rw [← e] at hown
        have HOW := Lib.hid hown
        have HBL := Lib.hid hbel
        clear hb hown hlf e hbel
        go_wp2_with fail
        refine HA.out.mono ?_
        rintro e w3 ⟨rfl, q, hw3⟩
        have b3 : Hid (Below wr.heap.size wr w3) := by rw [hw3]; exact Lib.hid (below_drewN0 _ _)
        clear hw3 HA
        go_wp2_with fail
        go_roundw
        case rel => exact ⟨j + 1, by omega, by go_num, HOW.out.keep b3.out, HBL.out.trans (b3.out.mono HBL.out.size)⟩
        case measure => simp [intOf]; omega
    · obtain rfl : j = 4 := by omega
      have HO := Lib.hid hown
      have S3 := Lib.hid (S2.out.keep hbel)
      have AK := asks_any S3.out.st IC.out
      rw [P2.out] at AK
      unfold ptrV at AK
      have AK := Lib.hid AK
      clear hown hlf hbel
      go_wp2_with fail
      refine AK.out.mono ?_
      rintro e w4 ⟨u, p, rfl, hnr, hp, hb4⟩
      rw [S3.out.V] at hnr hp
      have hf : (List.range 4).filter p = (List.range 4).filter (hangB (x : Int)) := by
        refine List.filter_congr fun v hv => ?_
        have hv4 : v < 4 := List.mem_range.1 hv
        rw [Bool.eq_iff_iff, hp v hv4, asked_iff S3.out.good IC.out, hangB_iff, hang_iff hv4, idle_congr SX.out]
      rw [hf] at hnr
      obtain ⟨uA, uc, rfl, hrd, -⟩ := hnr.rd
      obtain ⟨lA, lc, rfl, hrd2, -⟩ := (HO.out.keep hb4).rd
      have S4 := Lib.hid (S3.out.keep hb4)
      rw [nats_cast] at hrd hrd2
      have SI := sameInts_any (c := uc) (d := lc) hrd hrd2 (by have := filt_len (hangB (x : Int)) 4; rw [castL_len]; omega)
      rw [castL_len, decide_eq_true rfl] at SI
      have SI := Lib.hid SI
      clear hnr hp hb4 hf hrd hrd2 AK HO
      go_wp2_with fail
      refine SI.out.mono ?_
      rintro e w5 ⟨rfl, q, hw5⟩
      have S5 : Hid (CSt w m2 h2 cs2 (2 + 15) w5) := by rw [hw5]; exact Lib.hid (S4.out.keep (below_drewN0 _ _))
      have AW := Lib.hid (awake6 w5)
      clear hw5 SI
      go_wp2_with fail
      refine AW.out.mono ?_
      rintro e w6 ⟨rfl, hb⟩
      have BL := Lib.hid (S5.out.below.trans (hb.mono S5.out.below.size))
      clear hb AW S5
      go_wp2_with fail
      go_ret
      exact ⟨rfl, BL.out⟩

theorem countAsks_walk (n : Int) (w : World) (_hn : (Lit.int .i64 n).wf = true) :
    Calls Try.prog 3 #[.int .i64 n] w fun e w' => e = .returned (.bool true) ∧ Below w.heap.size w w' := asks_core n w

namespace countAsks
set_option linter.unusedVariables false
theorem own : ownKnob Try.prog.godebug = none := by kernel_rfl
theorem laidOut : laidOutB Try.prog = true := by kernel_rfl
set_option maxRecDepth 100000 in
theorem lifted (os : Os) (started : os.Started) (H : Type) (enc : TypeId × Value → H) :
    ReturnsInHanded {} Try.checked os 3 .any (Rows.countAsksSpec.pre6 enc Try.prog Try.f3 Rows.countAsksRow.domain false) (Rows.countAsksSpec.post enc Try.prog Try.f3 false true false false) := by
  refine returnsInHanded_of_change (C := Try.checked) own started (by kernel_rfl) Try.func3
    (ChangeSpec.witness6 (enc := enc) (C := Try.checked) false ⟨#[], #[.int .i64 0], []⟩ 8 (by kernel_rfl) (by kernel_rfl) (by kernel_rfl) (by kernel_rfl)) ?_
  intro W base args ds gs before hval0 hW hcnd hsz
  have hval : ∀ (j : Nat) t v, Try.f3.params[j]? = some t → args[j]? = some v → Value.okWide Try.prog W .any base t v := hval0
  have hW' := hW
  obtain ⟨p, q, hA0, hV, rfl, hfz, hnd⟩ := hW
  have hA : DataW.TrodAll enc Try.prog W 0 (fun _ => true) true Try.f3.params.toList args.toList ds p := hA0
  rw [Try.params3] at hA hval
  obtain ⟨v0, vs0, d0, ds0, p0, q0, hargs, rfl, rfl, h0, r0⟩ := trodAll_cons hA
  obtain ⟨rfl, rfl, rfl⟩ := trodAll_nil r0
  obtain rfl : args = #[v0] := by cases args; simp_all
  obtain ⟨rfl, rfl⟩ := trodVars_none hV
  obtain ⟨a0, rfl, rfl, rfl, w0⟩ := open_int Try.underlying3 (hval 0 3 v0 rfl rfl) h0
  clear hA0 hval0
  refine (countAsks_walk a0 W w0).mono fun e W' ⟨he, bel⟩ => ?_
  subst he
  exact ⟨_, rfl, _, _, _, [], _, [], hW', trodAll_mk1 (shut_bool Try.underlying4 _), (trodAll_cons_mk (shut_int Try.underlying3 w0) trodAll_mk0), rfl, bel.frame _, fun h => by cases h⟩
theorem over : Rows.countAsksRow.holds Try.pinned (OpenSpec.ofChange Rows.countAsksSpec) :=
  OpenClaim.holds_of_wide 3 Try.f3 rfl rfl rfl rfl rfl rfl rfl ⟨rfl, rfl, rfl, rfl, rfl⟩ rfl rfl rfl rfl rfl (by kernel_rfl) Try.func3 (by kernel_rfl)
    (of_decide_eq_true (by kernel_rfl)) (by unfold Func.isWrapper; first | (rw [if_pos (by decide +kernel)]; kernel_rfl) | (rw [if_neg (by decide +kernel)]; exact ⟨rfl, rfl⟩))
    (fun os started H enc _ => lifted os started H enc)
/-- THE STATEMENT. -/
theorem proved : Rows.CountAsksSaid := over
end countAsks
#print axioms countAsks.proved
end Go.Proofs.Ytlmofadodhpkiaa
