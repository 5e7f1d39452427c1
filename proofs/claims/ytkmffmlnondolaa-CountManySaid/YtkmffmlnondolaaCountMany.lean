/- A node that asks the last of so many variables (1 to 256) is true for half of all values, as a count not above the greatest; of that variable alone for one; without it in the list it is refused; Each comes for up to five variables: the law returns true. No condition. -/
import Derived.Test.YtkmffmlnondolaaMZ
import Derived.Test.YtkmffmlnondolaaMU
namespace Go.Proofs.Ytkmffmlnondolaa
open Go.ChangeShapes Go.WideShapes Go.ChangeAt Go.RowKit Go.Maps

theorem and_mask8C (z : Int) : bits BinOp.and IntKind.i64 z 255 = z % 256 := by
  show IntKind.i64.wrap ((BitVec.ofInt 64 z &&& BitVec.ofInt 64 ((255 : Nat) : Int)).toNat : Int) = _
  have h := Nat.and_two_pow_sub_one_eq_mod (BitVec.ofInt 64 z).toNat 8
  rw [BitVec.toNat_and, ofInt_i64 255 (by omega), show (255 : Nat) = 2 ^ 8 - 1 from rfl, h, IntKind.wrap_i64, BitVec.toNat_ofInt]
  omega

set_option maxHeartbeats 4000000 in
set_option maxRecDepth 100000 in
theorem many_core (z : Int) (w : World) : Calls Try.prog 5 #[.int .i64 z] w fun e w' => e = .returned (.bool true) ∧ Below w.heap.size w w' := by
  obtain ⟨r, hr, er⟩ : ∃ r : Nat, r < 256 ∧ bits BinOp.and IntKind.i64 z 255 = (r : Int) := ⟨(z % 256).toNat, by omega, by rw [and_mask8C]; omega⟩
  obtain ⟨n, hn⟩ : ∃ n : Nat, n = r + 1 := ⟨_, rfl⟩
  have e1 : (1 : Int) + (r : Int) = (n : Int) := by omega
  have e2 : (n : Int) - 1 = (r : Int) := by omega
  obtain ⟨i0, hi, hz0, hz1, hz2⟩ := info_parts info_intC
  have NS := newst_yes n 10 (by omega) (by omega) (by omega) w
  change Calls _ _ #[.int .i64 n, .int .i64 10] _ _ at NS
  have NS := Lib.hid NS
  have HN := Lib.hid hn
  have HRN : Hid (r < n) := Lib.hid (by omega)
  have H1N : Hid (0 < n ∧ n ≤ 256) := Lib.hid (by omega)
  clear hn
  go_enter Try.func5, Try.ntmps5
  go_wp2_with fail
  refine NS.out.mono ?_
  rintro e w1 ⟨m1, rfl, s1, hb1, own1⟩
  obtain ⟨c0, ic0, l0⟩ := s1.good.at0 (u := (r + 1 : Nat)) (by have := HN.out; show ((r + 1 : Nat) : Int) ≤ (n : Nat); omega)
  obtain ⟨c1, ic1, l1⟩ := s1.good.at1 (u := (r + 1 : Nat)) (by have := HN.out; show ((r + 1 : Nat) : Int) ≤ (n : Nat); omega)
  have MK := mk_roomS s1 (by rw [← (first_keys n).count]; show 2 < 10; omega) (v := r) HRN.out ic0 (by omega) ic1 (by omega)
  change Calls _ _ #[_, _, .int .i64 0, .int .i64 1] _ _ at MK
  unfold ptrV at *
  have MK := Lib.hid MK
  have G1 := Lib.hid s1.good
  have HB1 := Lib.hid hb1
  have OWN := Lib.hid own1
  clear s1 hb1 own1 ic0 ic1 l0 l1 NS
  go_wp2_with fail
  refine MK.out.mono ?_
  rintro e w2 ⟨k, m2, h2, cs2, d, rfl, s2, x2, i2, le, y, v', b', sw, cn, fr, n2⟩
  have hV : h2.V = n := v'
  have SX : Hid (∀ val, Says n cs2 val k = val r) := Lib.hid (fun val => by
    have := y val
    first | rw [Says_one, Says_zero] at this | skip
    rw [this]
    cases val r <;> simp)
  have B2 := Lib.hid (n2.to_below HB1.out OWN.out HB1.out.size).1
  have P2 : Hid (m2.s = m1.s) := Lib.hid n2.s
  have S2 := Lib.hid s2
  have HV := Lib.hid hV
  have IC := Lib.hid i2
  have LE := Lib.hid le
  clear s2 x2 i2 le y v' b' sw cn fr n2 MK hV
  go_wp2_with fail
  go_loopw [8, 9] (fun lv iv wr => ∃ j : Nat, j ≤ n ∧ iv = .int .i64 (j : Int) ∧ NRow wr w2.heap.size lv (List.range j) ∧ Below w2.heap.size w2 wr) (fun _ iv _ => n - (intOf iv).toNat)
  case atStart => exact ⟨0, Nat.zero_le _, rfl, NRow.nil _ _, Below.refl _ _⟩
  case round =>
    obtain ⟨j, hj, rfl, hown, hbel⟩ := hrel
    by_cases hlt : j < n
    · have hlt' : (j : Int) < n := by omega
      have LS : Hid (List.range (j + 1) = List.range j ++ [j]) := List.range_succ
      have hsz := hbel.size
      have hlr : (List.range j).length = j := List.length_range
      go_wp2_with (at_builtin; refine wpList_append_own _ rfl _ _ 27 rfl w2.heap.size 3 i0 (.int .i64 0) 1 8 Try.underlying27 hi hz0 hz1 hz2 rfl (by decide) _ _ _ rfl (hown.alloc _) ⟨wr.heap.size, 0, none⟩ 1 1 [.int .i64 (j : Int)] rfl rfl ?c1 ?c2 ?c3 ?c4 ?c5 ?_)
      case c1 =>
        intro i u hu
        match i, hu with
        | 0, hu => simp at hu; subst hu; simp [Addr.add]
      case c2 => intro u hu; simp at hu; subst hu; rfl
      case c3 => unfold maxLen; rw [hlr]; omega
      case c4 => rw [hlr]; omega
      case c5 => simp; omega
      intro v' w5 hown' hgrow _
      have HO : Hid (NRow w5 w2.heap.size v' (List.range (j + 1))) := Lib.hid (by
        rw [LS.out]
        show w5.ownsRow _ _ _ v' (List.range j ++ [j]).length ((List.range j ++ [j]).map fun (x : Nat) => Value.int .i64 (x : Int))
        simpa only [nats, List.length_append, List.length_range, List.length_cons, List.length_nil, List.map_append, List.map_cons, List.map_nil, Nat.zero_add] using hown')
      have hb1 : Below w2.heap.size w2 w5 := (hbel.alloc (by omega) _).grown hgrow (by simp; omega) (by
        intro g hg
        rcases hown.2 with ⟨rfl, _⟩ | ⟨g', cap, cur, rfl, hb, _⟩
        · simp [Value.ownBlock] at hg
        · simp [Value.ownBlock] at hg; omega)
      clear hown' hgrow hown hbel
      go_wp2_with fail
      go_roundw
      case rel => exact ⟨j + 1, by omega, by go_num, HO.out, hb1⟩
      case measure => simp [intOf]; omega
    · obtain rfl : j = n := by omega
      have S3 := Lib.hid (S2.out.keep hbel)
      have B3 := Lib.hid (B2.out.trans (hbel.mono B2.out.size))
      obtain ⟨A, c, rfl, hrd, -⟩ := hown.rd
      have GC : j ≤ c := by
        rcases hown.2 with ⟨e, h0⟩ | ⟨g', cap, cur, e, hb, hr, h1, h2, _⟩
        · rw [List.length_range] at h0; omega
        · injection e with e1 e2 e3; subst e3; rw [List.length_range] at h1; exact h1
      obtain ⟨g, gc, hform⟩ := row_form hown (by rw [List.length_range]; omega)
      injection hform with e3 e4 e5
      subst e3
      rw [List.length_range]
      have HRD := Lib.hid hrd
      have SA := sat_yes (cap := c) (L := castL (List.range j)) (ys := List.range j) S3.out IC.out (by rw [← nats_cast]; exact hrd) (by rw [castL_len, List.length_range]; omega) ⟨rfl, List.nodup_range, fun x hx => by rw [HV.out]; exact List.mem_range.1 hx⟩
      rw [castL_len, List.length_range, P2.out] at SA
      unfold ptrV at SA
      have SA := Lib.hid SA
      clear hown hbel hrd hlt e4 e5 hj
      go_wp2_with fail
      refine SA.out.mono ?_
      rintro e w4 ⟨q, x, rfl, hb4, hout⟩
      have g3 : NGood j cs2 := HV.out ▸ S3.out.good
      rw [HV.out] at hout
      obtain ⟨-, rfl, hq⟩ := hout.resolve_right fun hno => hno.1 (has_all g3)
      have CQ : q = manyW r := by rw [hq, HN.out]; exact cntC_last (HN.out ▸ SX.out)
      have S4 := Lib.hid (S3.out.keep hb4)
      have R4 := Lib.hid (HRD.out.keep hb4)
      have B4 := Lib.hid (B3.out.trans (hb4.mono B3.out.size))
      have HQ := Lib.hid CQ
      clear hout hq hb4 SA CQ
      have P4 := Lib.hid (P2.out)
      have T1 := sat_yes (w := w4.alloc (.cells #[.int .i64 (r : Int)] 3)) (cap := 1) (L := [(r : Int)]) (ys := [r]) (A := some ⟨w4.heap.size, 0, none⟩) (S4.out.keep ((Below.refl _ _).alloc (Nat.le_refl _) _)) IC.out (by have := ints_lit (heap_alloc_new w4 (Obj.cells (intsC [(r : Int)]).toArray 3)); exact this) (by simp) ⟨rfl, by simp, fun x hx => by rw [HV.out]; simp at hx; omega⟩
      rw [P2.out] at T1
      unfold ptrV at T1
      have G3 := Lib.hid g3
      rw [show ([(r : Int)] : List Int).length = 1 from rfl] at T1
      have T1 := Lib.hid T1
      clear g3
      by_cases h63 : j < 63
      · have wv : wrap64 ((2 : Int) ^ r) = q := by
          rw [HQ.out]
          have h1 := pow62 (r := r) (by have := HN.out; omega)
          have e2 : ((2 : Int) ^ r) = ((2 ^ r : Nat) : Int) := by rw [Int.natCast_pow]; rfl
          unfold manyW
          rw [if_pos (by have := HN.out; omega), e2]
          generalize 2 ^ r = p at h1 ⊢
          exact IntWalk.wrap64_in _ ⟨by omega, by omega⟩
        have h63' : (j : Int) < 63 := by omega
        have hsl : (r : Int) < 64 := by have := HN.out; omega
        have H63 := Lib.hid h63
        clear h63
        go_wp2_with fail
        refine T1.out.mono ?_
        rintro e w5 ⟨q1, x1, rfl, hb5, hout⟩
        have b40 : Below w4.heap.size w4 (w4.alloc (.cells #[.int .i64 (r : Int)] 3)) := (Below.refl _ _).alloc (Nat.le_refl _) _
        have hb5 := b40.trans (hb5.mono b40.size)
        rw [HV.out] at hout
        obtain ⟨-, rfl, hq1⟩ := hout.resolve_right fun hno => hno.1 (has_this G3.out IC.out HN.out LE.out)
        obtain rfl : q1 = 1 := hq1.trans (cntC_this SX.out)
        clear hq1
        have S5 := Lib.hid (S4.out.keep hb5)
        have R5 := Lib.hid (R4.out.keep hb5)
        have B5 := Lib.hid (B4.out.trans (hb5.mono B4.out.size))
        have T2 := sat_yes (cap := c) (L := castL (List.range r)) (ys := List.range r) S5.out IC.out (by rw [← nats_cast]; exact rd_less (HN.out ▸ R5.out)) (by rw [castL_len, List.length_range]; omega) ⟨rfl, List.nodup_range, fun x hx => by rw [HV.out]; have := List.mem_range.1 hx; have := HRN.out; omega⟩
        rw [castL_len, List.length_range, P2.out] at T2
        unfold ptrV at T2
        have T2 := Lib.hid T2
        have hrn : (r : Int) ≤ c := by have := HRN.out; omega
        have hrn0 : (0 : Int) ≤ (r : Int) := by omega
        clear hout hb5 b40 T1
        go_wp2_with fail
        refine T2.out.mono ?_
        rintro e w6 ⟨q2, x2, rfl, hb6, hout⟩
        rw [HV.out] at hout
        obtain ⟨-, rfl, -⟩ := hout.resolve_left fun hno => has_less G3.out IC.out SX.out hno.1
        have S6 := Lib.hid (S5.out.keep hb6)
        have R6 := Lib.hid (R5.out.keep hb6)
        have B6 := Lib.hid (B5.out.trans (hb6.mono B5.out.size))
        have T3 := each_any (c := c) (most := 16) (n := j) (vs := List.range j) S6.out List.length_range IC.out R6.out H1N.out.1 (by have := H1N.out.2; omega) List.nodup_range (fun v hv => by rw [HV.out]; exact List.mem_range.1 hv) (has_all G3.out) (by omega) (by omega)
        rw [HV.out, P2.out] at T3
        unfold ptrV at T3
        have T3 := Lib.hid T3
        clear hout hb6 T2
        go_wp2_with fail
        refine T3.out.mono ?_
        rintro e w7 ⟨v, y, rfl, hb7, hout⟩
        have B7 := Lib.hid (B6.out.trans (hb7.mono B6.out.size))
        have CE : Hid (cntC j cs2 (List.range j) k 0 = manyW r) := Lib.hid (by
          have e := HN.out
          have := SX.out
          subst e
          exact cntC_last this)
        have AW := Lib.hid (awake6 w7)
        by_cases h5 : (j : Int) ≤ 5
        · obtain rfl : y = 0 := by
            have := HN.out
            rcases hout with ⟨h, _⟩ | ⟨_, h, _⟩ | ⟨_, _, h, _⟩
            · omega
            · rw [CE.out] at h
              have := manyW_le.2 (show r < 5 by omega)
              omega
            · exact h
          clear hout hb7 T3
          go_wp2_with fail
          refine AW.out.mono ?_
          rintro e w8 ⟨rfl, hb⟩
          have BL := Lib.hid (B7.out.trans (hb.mono B7.out.size))
          clear hb AW
          go_wp2_with fail
          go_ret
          exact ⟨rfl, BL.out⟩
        · obtain ⟨y0, hy0⟩ : ∃ b : Bool, b = (y == 0) := ⟨_, rfl⟩
          have hy : (y == 0) = false := by
            have := HN.out
            rcases hout with ⟨_, rfl, _⟩ | ⟨_, _, rfl, _⟩ | ⟨_, h, _, _⟩
            · rfl
            · rfl
            · rw [CE.out] at h
              have := manyW_le.1 h
              omega
          clear hout hb7 T3 hy0 y0
          have h5' : decide ((j : Int) ≤ 5) = false := decide_eq_false h5
          go_wp2_with fail
          refine AW.out.mono ?_
          rintro e w8 ⟨rfl, hb⟩
          have BL := Lib.hid (B7.out.trans (hb.mono B7.out.size))
          clear hb AW
          go_wp2_with fail
          go_ret
          exact ⟨rfl, BL.out⟩
      · have h63' : ¬ (j : Int) < 63 := by omega
        obtain rfl : q = 4611686018427387903 := by
          rw [HQ.out]
          unfold manyW
          rw [if_neg (by have := HN.out; omega)]
        clear h63
        go_wp2_with fail
        refine T1.out.mono ?_
        rintro e w5 ⟨q1, x1, rfl, hb5, hout⟩
        have b40 : Below w4.heap.size w4 (w4.alloc (.cells #[.int .i64 (r : Int)] 3)) := (Below.refl _ _).alloc (Nat.le_refl _) _
        have hb5 := b40.trans (hb5.mono b40.size)
        rw [HV.out] at hout
        obtain ⟨-, rfl, hq1⟩ := hout.resolve_right fun hno => hno.1 (has_this G3.out IC.out HN.out LE.out)
        obtain rfl : q1 = 1 := hq1.trans (cntC_this SX.out)
        clear hq1
        have S5 := Lib.hid (S4.out.keep hb5)
        have R5 := Lib.hid (R4.out.keep hb5)
        have B5 := Lib.hid (B4.out.trans (hb5.mono B4.out.size))
        have T2 := sat_yes (cap := c) (L := castL (List.range r)) (ys := List.range r) S5.out IC.out (by rw [← nats_cast]; exact rd_less (HN.out ▸ R5.out)) (by rw [castL_len, List.length_range]; omega) ⟨rfl, List.nodup_range, fun x hx => by rw [HV.out]; have := List.mem_range.1 hx; have := HRN.out; omega⟩
        rw [castL_len, List.length_range, P2.out] at T2
        unfold ptrV at T2
        have T2 := Lib.hid T2
        have hrn : (r : Int) ≤ c := by have := HRN.out; omega
        have hrn0 : (0 : Int) ≤ (r : Int) := by omega
        clear hout hb5 b40 T1
        go_wp2_with fail
        refine T2.out.mono ?_
        rintro e w6 ⟨q2, x2, rfl, hb6, hout⟩
        rw [HV.out] at hout
        obtain ⟨-, rfl, -⟩ := hout.resolve_left fun hno => has_less G3.out IC.out SX.out hno.1
        have S6 := Lib.hid (S5.out.keep hb6)
        have R6 := Lib.hid (R5.out.keep hb6)
        have B6 := Lib.hid (B5.out.trans (hb6.mono B5.out.size))
        have T3 := each_any (c := c) (most := 16) (n := j) (vs := List.range j) S6.out List.length_range IC.out R6.out H1N.out.1 (by have := H1N.out.2; omega) List.nodup_range (fun v hv => by rw [HV.out]; exact List.mem_range.1 hv) (has_all G3.out) (by omega) (by omega)
        rw [HV.out, P2.out] at T3
        unfold ptrV at T3
        have T3 := Lib.hid T3
        clear hout hb6 T2
        go_wp2_with fail
        refine T3.out.mono ?_
        rintro e w7 ⟨v, y, rfl, hb7, hout⟩
        have B7 := Lib.hid (B6.out.trans (hb7.mono B6.out.size))
        have CE : Hid (cntC j cs2 (List.range j) k 0 = manyW r) := Lib.hid (by
          have e := HN.out
          have := SX.out
          subst e
          exact cntC_last this)
        have AW := Lib.hid (awake6 w7)
        by_cases h5 : (j : Int) ≤ 5
        · obtain rfl : y = 0 := by
            have := HN.out
            rcases hout with ⟨h, _⟩ | ⟨_, h, _⟩ | ⟨_, _, h, _⟩
            · omega
            · rw [CE.out] at h
              have := manyW_le.2 (show r < 5 by omega)
              omega
            · exact h
          clear hout hb7 T3
          go_wp2_with fail
          refine AW.out.mono ?_
          rintro e w8 ⟨rfl, hb⟩
          have BL := Lib.hid (B7.out.trans (hb.mono B7.out.size))
          clear hb AW
          go_wp2_with fail
          go_ret
          exact ⟨rfl, BL.out⟩
        · obtain ⟨y0, hy0⟩ : ∃ b : Bool, b = (y == 0) := ⟨_, rfl⟩
          have hy : (y == 0) = false := by
            have := HN.out
            rcases hout with ⟨_, rfl, _⟩ | ⟨_, _, rfl, _⟩ | ⟨_, h, _, _⟩
            · rfl
            · rfl
            · rw [CE.out] at h
              have := manyW_le.1 h
              omega
          clear hout hb7 T3 hy0 y0
          have h5' : decide ((j : Int) ≤ 5) = false := decide_eq_false h5
          go_wp2_with fail
          refine AW.out.mono ?_
          rintro e w8 ⟨rfl, hb⟩
          have BL := Lib.hid (B7.out.trans (hb.mono B7.out.size))
          clear hb AW
          go_wp2_with fail
          go_ret
          exact ⟨rfl, BL.out⟩

theorem countMany_walk (n : Int) (w : World) (_hn : (Lit.int .i64 n).wf = true) :
    Calls Try.prog 5 #[.int .i64 n] w fun e w' => e = .returned (.bool true) ∧ Below w.heap.size w w' := many_core n w

namespace countMany
set_option linter.unusedVariables false
theorem own : ownKnob Try.prog.godebug = none := by kernel_rfl
theorem laidOut : laidOutB Try.prog = true := by kernel_rfl
set_option maxRecDepth 100000 in
theorem lifted (os : Os) (started : os.Started) (H : Type) (enc : TypeId × Value → H) :
    ReturnsInHanded {} Try.checked os 5 .any (Rows.countManySpec.pre6 enc Try.prog Try.f5 Rows.countManyRow.domain false) (Rows.countManySpec.post enc Try.prog Try.f5 false true false false) := by
  refine returnsInHanded_of_change (C := Try.checked) own started (by kernel_rfl) Try.func5
    (ChangeSpec.witness6 (enc := enc) (C := Try.checked) false ⟨#[], #[.int .i64 0], []⟩ 8 (by kernel_rfl) (by kernel_rfl) (by kernel_rfl) (by kernel_rfl)) ?_
  intro W base args ds gs before hval0 hW hcnd hsz
  have hval : ∀ (j : Nat) t v, Try.f5.params[j]? = some t → args[j]? = some v → Value.okWide Try.prog W .any base t v := hval0
  have hW' := hW
  obtain ⟨p, q, hA0, hV, rfl, hfz, hnd⟩ := hW
  have hA : DataW.TrodAll enc Try.prog W 0 (fun _ => true) true Try.f5.params.toList args.toList ds p := hA0
  rw [Try.params5] at hA hval
  obtain ⟨v0, vs0, d0, ds0, p0, q0, hargs, rfl, rfl, h0, r0⟩ := trodAll_cons hA
  obtain ⟨rfl, rfl, rfl⟩ := trodAll_nil r0
  obtain rfl : args = #[v0] := by cases args; simp_all
  obtain ⟨rfl, rfl⟩ := trodVars_none hV
  obtain ⟨a0, rfl, rfl, rfl, w0⟩ := open_int Try.underlying3 (hval 0 3 v0 rfl rfl) h0
  clear hA0 hval0
  refine (countMany_walk a0 W w0).mono fun e W' ⟨he, bel⟩ => ?_
  subst he
  exact ⟨_, rfl, _, _, _, [], _, [], hW', trodAll_mk1 (shut_bool Try.underlying4 _), (trodAll_cons_mk (shut_int Try.underlying3 w0) trodAll_mk0), rfl, bel.frame _, fun h => by cases h⟩
theorem over : Rows.countManyRow.holds Try.pinned (OpenSpec.ofChange Rows.countManySpec) :=
  OpenClaim.holds_of_wide 5 Try.f5 rfl rfl rfl rfl rfl rfl rfl ⟨rfl, rfl, rfl, rfl, rfl⟩ rfl rfl rfl rfl rfl (by kernel_rfl) Try.func5 (by kernel_rfl)
    (of_decide_eq_true (by kernel_rfl)) (by unfold Func.isWrapper; first | (rw [if_pos (by decide +kernel)]; kernel_rfl) | (rw [if_neg (by decide +kernel)]; exact ⟨rfl, rfl⟩))
    (fun os started H enc _ => lifted os started H enc)
/-- THE STATEMENT. -/
theorem proved : Rows.CountManySaid := over
end countMany
#print axioms countMany.proved
end Go.Proofs.Ytkmffmlnondolaa
