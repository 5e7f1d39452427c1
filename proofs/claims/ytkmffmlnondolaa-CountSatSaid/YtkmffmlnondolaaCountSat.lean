/- For any sixteen answers of four variables: Sat says for how many values a node says true, Each for which ones; with one less than there are it is told: the law returns true. No condition. -/
import Derived.Test.YtkmffmlnondolaaMZ
namespace Go.Proofs.Ytkmffmlnondolaa
open Go.ChangeShapes Go.WideShapes Go.ChangeAt Go.RowKit Go.Maps

set_option maxHeartbeats 4000000 in
set_option maxRecDepth 100000 in
theorem sat_core (n : Int) (w : World) : Calls Try.prog 3 #[.int .i64 n] w fun e w' => e = .returned (.bool true) ∧ Below w.heap.size w w' := by
  obtain ⟨x, hx, ex, -⟩ := low16C n
  have BG := Lib.hid (begun6 w)
  have HX := Lib.hid hx
  clear hx
  go_enter Try.func3, Try.ntmps3
  go_wp2_with fail
  refine BG.out.mono ?_
  rintro e w1 ⟨m1, rfl, s1⟩
  have T := Lib.hid (make_any s1.st s1.V (x : Int))
  have S1 := Lib.hid s1
  unfold ptrV at *
  clear s1 BG
  go_wp2_with fail
  refine T.out.mono ?_
  intro e w2 hout
  obtain ⟨nx, m2, h2, cs2, rfl, s2, x2, p2, ⟨c, ic, _⟩, sx⟩ := S1.out.make (by omega) hout
  have TR := Lib.hid (trues_any (x := x) w2)
  have S2 := Lib.hid s2
  have IC := Lib.hid ic
  have SX := Lib.hid sx
  have P2 := Lib.hid p2
  clear hout s2 x2 p2 ic sx T S1
  go_wp2_with fail
  refine TR.out.mono ?_
  rintro e w3 ⟨tv, rfl, nr, hb3⟩
  have S3 := Lib.hid (S2.out.keep hb3)
  have N4 : n4 cs2 nx = (truesL (x : Int) 16).length := n4_trues SX.out
  have NT := Lib.hid (nums_trues SX.out)
  have TL := truesL_len (x : Int) 16
  obtain ⟨q, hq⟩ : ∃ q, q = (truesL (x : Int) 16).length := ⟨_, rfl⟩
  rw [← hq] at N4 TL
  have NR := Lib.hid nr
  obtain ⟨tA, tc, rfl, hrd, -⟩ := nr.rd
  rw [← hq]
  have HRD := Lib.hid hrd
  have HQ := Lib.hid hq
  have ST := sat4 S3.out.st S3.out.V IC.out
  rw [P2.out, N4] at ST
  unfold ptrV fourC at ST
  have ST := Lib.hid ST
  have N4 := Lib.hid N4
  have FU := Lib.hid four_any
  clear hb3 hrd hq TR nr
  go_wp2_with fail
  refine (FU.out _).mono ?_
  rintro e w' ⟨rfl, rfl⟩
  go_wp2_with fail
  refine ST.out.mono ?_
  rintro e w4 ⟨rfl, hb4⟩
  have S4 := Lib.hid (S3.out.keep hb4)
  have R4 := Lib.hid (HRD.out.keep hb4)
  have EA : ∀ most : Int, 0 ≤ most → most ≤ 16 → ∀ wr, CSt w m2 h2 cs2 (2 + 15) wr → Calls Try.prog 12 #[.pointer (some ⟨m1.s, 0, none⟩), .int .i64 (nx : Int), .slice (some ⟨wr.heap.size, 0, none⟩) 4 4, .int .i64 most] (wr.alloc (.cells #[.int .i64 0, .int .i64 1, .int .i64 2, .int .i64 3] 3)) (fun e w' => ∃ (v : Value) (y : Int), e = .returned (.tuple #[v, .int .i64 y]) ∧ Below wr.heap.size wr w' ∧
    ((most < q ∧ y = 2 ∧ v = .slice none 0 0) ∨ ((q : Int) ≤ most ∧ y = 0 ∧ NRow w' wr.heap.size v (truesL (x : Int) 16)))) := fun most h0 h1 wr l => by
    have hb : Below wr.heap.size wr (wr.alloc (.cells #[.int .i64 0, .int .i64 1, .int .i64 2, .int .i64 3] 3)) := (Below.refl _ _).alloc (Nat.le_refl _) _
    have := each4 (cap := 4) (l.st.keep hb) l.V IC.out (vs := [0, 1, 2, 3]) (List.Perm.refl _) (A := some ⟨wr.heap.size, 0, none⟩) (by have := ints_lit (heap_alloc_new wr (Obj.cells (intsC [0, 1, 2, 3]).toArray 3)); exact this) h0 (Int.le_trans h1 (by omega))
    rw [P2.out] at this
    refine this.mono ?_
    rintro e w' ⟨v, y, rfl, hb2, hout⟩
    rw [N4.out, NT.out] at hout
    refine ⟨v, y, rfl, hb.trans (hb2.mono hb.size), ?_⟩
    rcases hout with h | ⟨h, rfl, hn⟩
    · exact .inl h
    · exact .inr ⟨h, rfl, NRow.lower hn hb.size⟩
  have EA := Lib.hid EA
  have E1 := Lib.hid (EA.out (q : Int) (by omega) (by omega) w4 S4.out)
  clear hb4 ST
  go_wp2_with fail
  refine (FU.out _).mono ?_
  rintro e w' ⟨rfl, rfl⟩
  go_wp2_with fail
  refine E1.out.mono ?_
  rintro e w5 ⟨v, y, rfl, hb5, hout⟩
  obtain ⟨-, rfl, hnr⟩ := hout.resolve_left fun hh => by omega
  have S5 := Lib.hid (S4.out.keep hb5)
  have R5 := R4.out.keep hb5
  obtain ⟨vA, vc, rfl, vrd, -⟩ := hnr.rd
  rw [nats_cast] at R5 vrd
  have SI := sameInts_any (c := vc) (d := tc) vrd R5 (by rw [castL_len]; have := HQ.out; omega)
  rw [castL_len, ← HQ.out, decide_eq_true rfl] at SI
  have SI := Lib.hid SI
  rw [← HQ.out]
  clear hb5 hout hnr R5 vrd E1
  go_wp2_with fail
  refine SI.out.mono ?_
  rintro e w6 ⟨rfl, z, hw6⟩
  have S6 : Hid (CSt w m2 h2 cs2 (2 + 15) w6) := by rw [hw6]; exact Lib.hid (S5.out.keep (below_drewN0 _ _))
  clear hw6 SI
  by_cases h0 : q = 0
  · subst h0
    have AW := Lib.hid (awake6 w6)
    go_wp2_with fail
    refine AW.out.mono ?_
    rintro e w7 ⟨rfl, hb⟩
    have BL := Lib.hid (S6.out.below.trans (hb.mono S6.out.below.size))
    clear hb AW S6
    go_wp2_with fail
    go_ret
    exact ⟨rfl, BL.out⟩
  · have hq0 : ((q : Int) == 0) = false := by simp; omega
    have hq1 : (0 : Int) < q := by omega
    have E2 := Lib.hid (EA.out ((q : Int) - 1) (by omega) (by omega) w6 S6.out)
    go_wp2_with fail
    refine (FU.out _).mono ?_
    rintro e w' ⟨rfl, rfl⟩
    go_wp2_with fail
    refine E2.out.mono ?_
    rintro e w7 ⟨v, y, rfl, hb7, hout⟩
    obtain ⟨-, rfl, rfl⟩ := hout.resolve_right fun hh => by omega
    have S7 := Lib.hid (S6.out.keep hb7)
    have AW := Lib.hid (awake6 w7)
    clear hb7 hout E2
    go_wp2_with fail
    refine AW.out.mono ?_
    rintro e w8 ⟨rfl, hb⟩
    have BL := Lib.hid (S7.out.below.trans (hb.mono S7.out.below.size))
    clear hb AW S7
    go_wp2_with fail
    go_ret
    exact ⟨rfl, BL.out⟩

theorem countSat_walk (n : Int) (w : World) (_hn : (Lit.int .i64 n).wf = true) :
    Calls Try.prog 3 #[.int .i64 n] w fun e w' => e = .returned (.bool true) ∧ Below w.heap.size w w' := sat_core n w

namespace countSat
set_option linter.unusedVariables false
theorem own : ownKnob Try.prog.godebug = none := by kernel_rfl
theorem laidOut : laidOutB Try.prog = true := by kernel_rfl
set_option maxRecDepth 100000 in
theorem lifted (os : Os) (started : os.Started) (H : Type) (enc : TypeId × Value → H) :
    ReturnsInHanded {} Try.checked os 3 .any (Rows.countSatSpec.pre6 enc Try.prog Try.f3 Rows.countSatRow.domain false) (Rows.countSatSpec.post enc Try.prog Try.f3 false true false false) := by
  refine returnsInHanded_of_change (C := Try.checked) own started (by kernel_rfl) Try.func3
    (ChangeSpec.witness6 (enc := enc) (C := Try.checked) false ⟨#[], #[.int .i64 0], []⟩ 8 (by kernel_rfl) (by kernel_rfl) (by kernel_rfl) (by kernel_rfl)) ?_
  intro W base args ds gs before hval0 hW hcnd hsz
  have hval : ∀ (j : Nat) t v, Try.f3.params[j]? = some t → args[j]? = some v → Value.okWide Try.prog W .any base t v := hval0
  have hW' := hW
  obtain ⟨p, q, hA0, hV, rfl, hfz, hnd⟩ := hW
  have hA : DataW.TrodAll enc Try.prog W 0 (fun _ => true) true Try.f3.params.toList args.toList ds p := hA0
  rw [Try.params3] at hA hval
  obtain ⟨v0, vs0, d0, ds0, p0, q0, hargs, rfl, rfl, h0, r0⟩ := trodAll_cons hA
  obtain ⟨rfl, rfl, rfl⟩ := trodAll_nil r0
  obtain rfl : args = #[v0] := by cases args; simp_all
  obtain ⟨rfl, rfl⟩ := trodVars_none hV
  obtain ⟨a0, rfl, rfl, rfl, w0⟩ := open_int Try.underlying3 (hval 0 3 v0 rfl rfl) h0
  clear hA0 hval0
  refine (countSat_walk a0 W w0).mono fun e W' ⟨he, bel⟩ => ?_
  subst he
  exact ⟨_, rfl, _, _, _, [], _, [], hW', trodAll_mk1 (shut_bool Try.underlying4 _), (trodAll_cons_mk (shut_int Try.underlying3 w0) trodAll_mk0), rfl, bel.frame _, fun h => by cases h⟩
theorem over : Rows.countSatRow.holds Try.pinned (OpenSpec.ofChange Rows.countSatSpec) :=
  OpenClaim.holds_of_wide 3 Try.f3 rfl rfl rfl rfl rfl rfl rfl ⟨rfl, rfl, rfl, rfl, rfl⟩ rfl rfl rfl rfl rfl (by kernel_rfl) Try.func3 (by kernel_rfl)
    (of_decide_eq_true (by kernel_rfl)) (by unfold Func.isWrapper; first | (rw [if_pos (by decide +kernel)]; kernel_rfl) | (rw [if_neg (by decide +kernel)]; exact ⟨rfl, rfl⟩))
    (fun os started H enc _ => lifted os started H enc)
/-- THE STATEMENT. -/
theorem proved : Rows.CountSatSaid := over
end countSat
#print axioms countSat.proved
end Go.Proofs.Ytkmffmlnondolaa
