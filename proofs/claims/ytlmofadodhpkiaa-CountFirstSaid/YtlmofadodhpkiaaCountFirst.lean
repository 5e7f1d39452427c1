/- For any sixteen answers of four variables: First gives the first values for which they are true, the first variable first: the law returns true. No condition. -/
import Derived.Test.YtlmofadodhpkiaaMV
namespace Go.Proofs.Ytlmofadodhpkiaa
open Go.ChangeShapes Go.WideShapes Go.ChangeAt Go.RowKit Go.Maps

theorem bit_and0 (r : Nat) : (bits BinOp.and IntKind.i64 (r : Int) 1 == 1) = r.testBit 0 := by
  have := bitZ_and (r : Int) 0
  rw [show ((r : Int) / 2 ^ 0) = r by simp] at this
  rw [this, Nat.testBit_zero]
  unfold bitZ
  rw [show ((r : Int) / 2 ^ 0) = r by simp]
  rcases (by omega : (r % 2 = 0 ∧ (r : Int) % 2 = 0) ∨ (r % 2 = 1 ∧ (r : Int) % 2 = 1)) with ⟨h, h2⟩ | ⟨h, h2⟩ <;> rw [h, h2] <;> rfl
theorem bit_andP {r : Nat} {d : Int} {p : Nat} (hd : (d : Int) = ((2 ^ p : Nat) : Int)) : (bits BinOp.and IntKind.i64 ((r : Int) / d) 1 == 1) = r.testBit p := by
  have e : ((r : Int) / d) = ((r / 2 ^ p : Nat) : Int) := by rw [hd]; rfl
  rw [e, bit_and0, Nat.testBit_zero, Nat.testBit_eq_decide_div_mod_eq]

set_option maxHeartbeats 4000000 in
set_option maxRecDepth 100000 in
theorem first_core (n : Int) (w : World) : Calls Try.prog 7 #[.int .i64 n] w fun e w' => e = .returned (.bool true) ∧ Below w.heap.size w w' := by
  obtain ⟨x, hx, ex, ez⟩ := low16C n
  have BG := Lib.hid (begun6 w)
  have HX := Lib.hid hx
  have EZ := Lib.hid ez
  clear hx ez
  go_enter Try.func7, Try.ntmps7
  go_wp2_with fail
  refine BG.out.mono ?_
  rintro e w1 ⟨m1, rfl, s1⟩
  have T := Lib.hid (make_any s1.st s1.V (x : Int))
  have S1 := Lib.hid s1
  unfold ptrV at *
  clear s1 BG
  go_wp2_with fail
  refine T.out.mono ?_
  intro e w2 hout
  obtain ⟨nx, m2, h2, cs2, rfl, s2, x2, p2, ⟨c, ic, _⟩, sx⟩ := S1.out.make (by omega) hout
  have S2 := Lib.hid s2
  have IC := Lib.hid ic
  have SX := Lib.hid sx
  have P2 := Lib.hid p2
  clear hout s2 x2 p2 ic sx T S1
  by_cases h0 : x = 0
  · have hn0 : nx = 0 := is_zero S2.out.good IC.out fun val => by rw [SX.out, h0]; unfold bitZ; simp
    subst hn0
    have FZ := first_zero S2.out.st
    rw [P2.out] at FZ
    unfold ptrV at FZ
    have FZ := Lib.hid FZ
    have ex0 : bits BinOp.and IntKind.i64 n 65535 = 0 := by rw [ex, h0]; rfl
    have e1 : ((0 : Nat) : Int) = 0 := rfl
    rw [e1]
    clear ex
    go_wp2_with fail
    refine FZ.out.mono ?_
    rintro e w3 ⟨rfl, hb3⟩
    have S3 := Lib.hid (S2.out.keep hb3)
    have AW := Lib.hid (awake6 w3)
    clear hb3 FZ
    go_wp2_with fail
    refine AW.out.mono ?_
    rintro e w6 ⟨rfl, hb⟩
    have BL := Lib.hid (S3.out.below.trans (hb.mono S3.out.below.size))
    clear hb AW S3
    go_wp2_with fail
    go_ret
    exact ⟨rfl, BL.out⟩
  · have hn0 : nx ≠ 0 := by
      rintro rfl
      refine h0 (zero_of_bits HX.out fun j hj => ?_)
      have := SX.out (fun i => j.testBit i)
      rw [Says_zero, tix_back hj] at this
      exact this.symm
    have FY := first_yes S2.out.st IC.out hn0
    rw [P2.out, S2.out.V] at FY
    unfold ptrV at FY
    have FY := Lib.hid FY
    have hx0 : ((x : Int) == 0) = false := by simp; omega
    clear hn0
    go_wp2_with fail
    refine FY.out.mono ?_
    rintro e w3 ⟨r, y, rfl, hrow, hb3, hyl, hys, hym⟩
    have S3 := Lib.hid (S2.out.keep hb3)
    have HROW := Lib.hid hrow
    have FR : Hid (∀ i, i < 16 → bitZ (x : Int) (rev4 i) = true → (∀ j, j < i → bitZ (x : Int) (rev4 j) = false) → y = row4 (rev4 i)) := fun i hi h1 h2 =>
      first_row hyl (by rw [← SX.out]; exact hys) (fun val hv => hym val (by rw [SX.out]; exact hv)) hi h1 h2
    clear hrow hb3 hyl hys hym FY
    go_wp2_with fail
    go_loopw [9, 10, 11] (fun iv _ _ wr => ∃ i : Nat, i ≤ 16 ∧ iv = .int .i64 (i : Int) ∧ wr = w3 ∧ ∀ j, j < i → bitZ (x : Int) (rev4 j) = false) (fun iv _ _ _ => 16 - (intOf iv).toNat)
    case atStart => exact ⟨0, by omega, rfl, rfl, fun j h => by omega⟩
    case round =>
      obtain ⟨i, hi, rfl, hw, hno⟩ := hrel
      obtain rfl : w3 = wr := hw.symm
      have HNO := Lib.hid hno
      clear hno
      by_cases hlt : i < 16
      · have hlt' : (i : Int) < 16 := by omega
        go_wp2_with fail
        go_loopw [10, 11] (fun nv vv w4 => ∃ v : Nat, v ≤ 4 ∧ vv = .int .i64 (v : Int) ∧ nv = .int .i64 (rvN i v : Nat) ∧ w4 = w3) (fun _ vv _ => 4 - (intOf vv).toNat)
        case atStart => exact ⟨0, by omega, rfl, rfl, rfl⟩
        case round =>
          obtain ⟨v, hv, rfl, rfl, hw⟩ := hrel
          obtain rfl : w3 = wr := hw.symm
          have hr16 := rvN_lt i hlt v (by omega)
          rcases (by omega : v = 0 ∨ v = 1 ∨ v = 2 ∨ v = 3 ∨ v = 4) with rfl | rfl | rfl | rfl | rfl
          · have e0 : ((0 : Nat) : Int) = 0 := rfl
            rw [e0]
            have a1 : bits BinOp.and IntKind.i64 ((i : Int) / 8) 1 = b2i (bitZ (i : Int) 3) := bitZ_and (i : Int) 3
            have a2 : bits BinOp.and IntKind.i64 ((i : Int) / 2 ^ 3) 1 = b2i (bitZ (i : Int) 3) := bitZ_and (i : Int) 3
            have hz : Hid (rvN i (0 + 1) = rvN i 0 ||| if bitZ (i : Int) (3 - 0) then 2 ^ 0 else 0) := rfl
            have o1 := or_small (m := 0) hr16 (by omega)
            have o2 := or_small (m := 1) hr16 (by omega)
            change bits _ _ _ 0 = _ at o1
            change bits _ _ _ 1 = _ at o2
            cases hb : bitZ (i : Int) 3 with
            | true =>
              rw [hb] at a1 a2
              dsimp only [b2i] at a1 a2
              have HZ : Hid (rvN i 0 ||| 1 = rvN i (0 + 1)) := by show _ = _; rw [hz.out, show 3 - 0 = 3 from rfl, hb, if_pos rfl]
              clear hb hz
              go_wp2_with fail
              go_roundw
              case rel => exact ⟨1, by omega, by go_num, by rw [HZ.out], by trivial⟩
              case measure => simp [intOf]
            | false =>
              rw [hb] at a1 a2
              dsimp only [b2i] at a1 a2
              have HZ : Hid (rvN i 0 ||| 0 = rvN i (0 + 1)) := by show _ = _; rw [hz.out, show 3 - 0 = 3 from rfl, hb, if_neg (by simp)]
              clear hb hz
              go_wp2_with fail
              go_roundw
              case rel => exact ⟨1, by omega, by go_num, by have hz0 := HZ.out; simp only [Nat.or_zero] at hz0; rw [hz0], by trivial⟩
              case measure => simp [intOf]
          · have e0 : ((1 : Nat) : Int) = 1 := rfl
            rw [e0]
            have a1 : bits BinOp.and IntKind.i64 ((i : Int) / 4) 1 = b2i (bitZ (i : Int) 2) := bitZ_and (i : Int) 2
            have a2 : bits BinOp.and IntKind.i64 ((i : Int) / 2 ^ 2) 1 = b2i (bitZ (i : Int) 2) := bitZ_and (i : Int) 2
            have hz : Hid (rvN i (1 + 1) = rvN i 1 ||| if bitZ (i : Int) (3 - 1) then 2 ^ 1 else 0) := rfl
            have o1 := or_small (m := 0) hr16 (by omega)
            have o2 := or_small (m := 2) hr16 (by omega)
            change bits _ _ _ 0 = _ at o1
            change bits _ _ _ 2 = _ at o2
            cases hb : bitZ (i : Int) 2 with
            | true =>
              rw [hb] at a1 a2
              dsimp only [b2i] at a1 a2
              have HZ : Hid (rvN i 1 ||| 2 = rvN i (1 + 1)) := by show _ = _; rw [hz.out, show 3 - 1 = 2 from rfl, hb, if_pos rfl]
              clear hb hz
              go_wp2_with fail
              go_roundw
              case rel => exact ⟨2, by omega, by go_num, by rw [HZ.out], by trivial⟩
              case measure => simp [intOf]
            | false =>
              rw [hb] at a1 a2
              dsimp only [b2i] at a1 a2
              have HZ : Hid (rvN i 1 ||| 0 = rvN i (1 + 1)) := by show _ = _; rw [hz.out, show 3 - 1 = 2 from rfl, hb, if_neg (by simp)]
              clear hb hz
              go_wp2_with fail
              go_roundw
              case rel => exact ⟨2, by omega, by go_num, by have hz0 := HZ.out; simp only [Nat.or_zero] at hz0; rw [hz0], by trivial⟩
              case measure => simp [intOf]
          · have e0 : ((2 : Nat) : Int) = 2 := rfl
            rw [e0]
            have a1 : bits BinOp.and IntKind.i64 ((i : Int) / 2) 1 = b2i (bitZ (i : Int) 1) := bitZ_and (i : Int) 1
            have a2 : bits BinOp.and IntKind.i64 ((i : Int) / 2 ^ 1) 1 = b2i (bitZ (i : Int) 1) := bitZ_and (i : Int) 1
            have hz : Hid (rvN i (2 + 1) = rvN i 2 ||| if bitZ (i : Int) (3 - 2) then 2 ^ 2 else 0) := rfl
            have o1 := or_small (m := 0) hr16 (by omega)
            have o2 := or_small (m := 4) hr16 (by omega)
            change bits _ _ _ 0 = _ at o1
            change bits _ _ _ 4 = _ at o2
            cases hb : bitZ (i : Int) 1 with
            | true =>
              rw [hb] at a1 a2
              dsimp only [b2i] at a1 a2
              have HZ : Hid (rvN i 2 ||| 4 = rvN i (2 + 1)) := by show _ = _; rw [hz.out, show 3 - 2 = 1 from rfl, hb, if_pos rfl]
              clear hb hz
              go_wp2_with fail
              go_roundw
              case rel => exact ⟨3, by omega, by go_num, by rw [HZ.out], by trivial⟩
              case measure => simp [intOf]
            | false =>
              rw [hb] at a1 a2
              dsimp only [b2i] at a1 a2
              have HZ : Hid (rvN i 2 ||| 0 = rvN i (2 + 1)) := by show _ = _; rw [hz.out, show 3 - 2 = 1 from rfl, hb, if_neg (by simp)]
              clear hb hz
              go_wp2_with fail
              go_roundw
              case rel => exact ⟨3, by omega, by go_num, by have hz0 := HZ.out; simp only [Nat.or_zero] at hz0; rw [hz0], by trivial⟩
              case measure => simp [intOf]
          · have e0 : ((3 : Nat) : Int) = 3 := rfl
            rw [e0]
            have a1 : bits BinOp.and IntKind.i64 (i : Int) 1 = b2i (bitZ (i : Int) 0) := by have := bitZ_and (i : Int) 0; rwa [show ((i : Int) / 2 ^ 0) = i by simp] at this
            have a2 : bits BinOp.and IntKind.i64 ((i : Int) / 2 ^ 0) 1 = b2i (bitZ (i : Int) 0) := bitZ_and (i : Int) 0
            have hz : Hid (rvN i (3 + 1) = rvN i 3 ||| if bitZ (i : Int) (3 - 3) then 2 ^ 3 else 0) := rfl
            have o1 := or_small (m := 0) hr16 (by omega)
            have o2 := or_small (m := 8) hr16 (by omega)
            change bits _ _ _ 0 = _ at o1
            change bits _ _ _ 8 = _ at o2
            cases hb : bitZ (i : Int) 0 with
            | true =>
              rw [hb] at a1 a2
              dsimp only [b2i] at a1 a2
              have HZ : Hid (rvN i 3 ||| 8 = rvN i (3 + 1)) := by show _ = _; rw [hz.out, show 3 - 3 = 0 from rfl, hb, if_pos rfl]
              clear hb hz
              go_wp2_with fail
              go_roundw
              case rel => exact ⟨4, by omega, by go_num, by rw [HZ.out], by trivial⟩
              case measure => simp [intOf]
            | false =>
              rw [hb] at a1 a2
              dsimp only [b2i] at a1 a2
              have HZ : Hid (rvN i 3 ||| 0 = rvN i (3 + 1)) := by show _ = _; rw [hz.out, show 3 - 3 = 0 from rfl, hb, if_neg (by simp)]
              clear hb hz
              go_wp2_with fail
              go_roundw
              case rel => exact ⟨4, by omega, by go_num, by have hz0 := HZ.out; simp only [Nat.or_zero] at hz0; rw [hz0], by trivial⟩
              case measure => simp [intOf]
          · -- the whole number
            have HR : Hid (rvN i 4 = rev4 i) := rvN_rev i hlt
            have hrl := rev4_lt i hlt
            rw [HR.out]
            have BZ := EZ.out (rev4 i) hrl
            have HI := Lib.hid hlt
            obtain ⟨r4, hr4⟩ : ∃ r4, r4 = rev4 i := ⟨_, rfl⟩
            rw [← hr4] at BZ hrl ⊢
            have HR4 := Lib.hid hr4
            have a1 := bitZ_and n r4
            rw [BZ] at a1
            have e4 : ((4 : Nat) : Int) = 4 := rfl
            rw [e4]
            have d0 := bit_and0 r4
            have d1 : (bits BinOp.and IntKind.i64 ((r4 : Int) / 2) 1 == 1) = r4.testBit 1 := bit_andP (p := 1) rfl
            have d2 : (bits BinOp.and IntKind.i64 ((r4 : Int) / 4) 1 == 1) = r4.testBit 2 := bit_andP (p := 2) rfl
            have d3 : (bits BinOp.and IntKind.i64 ((r4 : Int) / 8) 1 == 1) = r4.testBit 3 := bit_andP (p := 3) rfl
            have hr64 : (r4 : Int) < 64 := by omega
            clear hr16 hr4 BZ
            cases hb : bitZ (x : Int) r4 with
            | true =>
              rw [hb] at a1
              have YE : Hid (y = row4 r4) := by show _ = _; have := FR.out i HI.out (by rw [← HR4.out]; exact hb) HNO.out; rw [HR4.out]; exact this
              have RB : Rd (w3.alloc (.cells #[.bool (r4.testBit 0), .bool (r4.testBit 1), .bool (r4.testBit 2), .bool (r4.testBit 3)] 4)) (some ⟨w3.heap.size, 0, none⟩) ((row4 r4).map Value.bool) :=
                .inr ⟨w3.heap.size, 0, rfl, by simp, fun j u hu => by rw [Nat.zero_add, cell_of_row _ _ _ _ _ _ (heap_alloc_new w3 _)]; simpa [row4] using hu⟩
              have ba : Below w3.heap.size w3 (w3.alloc (.cells #[.bool (r4.testBit 0), .bool (r4.testBit 1), .bool (r4.testBit 2), .bool (r4.testBit 3)] 4)) := (Below.refl _ _).alloc (Nat.le_refl _) _
              have RA : Rd (w3.alloc (.cells #[.bool (r4.testBit 0), .bool (r4.testBit 1), .bool (r4.testBit 2), .bool (r4.testBit 3)] 4)) (some ⟨r, 0, none⟩) ((row4 r4).map Value.bool) := by
                have := at_oldC (.cells #[.bool (r4.testBit 0), .bool (r4.testBit 1), .bool (r4.testBit 2), .bool (r4.testBit 3)] 4) HROW.out
                rw [YE.out] at this
                exact .inr ⟨r, 0, rfl, row_lt this, fun j u hu => by rw [Nat.zero_add, cell_of_row _ _ _ _ _ _ this]; unfold boolRow; simpa using hu⟩
              have SB := sameBits_any (c := 4) (d := 4) RA RB (by simp [row4]) rfl
              change Calls _ _ #[.slice _ 4 4, .slice _ 4 4] _ _ at SB
              have SB := Lib.hid SB
              have BA := Lib.hid ba
              have S4 := Lib.hid (S3.out.keep ba)
              dsimp only [b2i] at a1
              clear hb RA RB ba HROW FR HNO
              generalize r4.testBit 0 = t0 at *
              generalize r4.testBit 1 = t1 at *
              generalize r4.testBit 2 = t2 at *
              generalize r4.testBit 3 = t3 at *
              go_wp2_with fail
              refine SB.out.mono ?_
              rintro e w5 ⟨rfl, q, hw5⟩
              have S5 : Hid (CSt w m2 h2 cs2 (2 + 15) w5) := by rw [hw5]; exact Lib.hid (S4.out.keep (below_drewN0 _ _))
              have AW := Lib.hid (awake6 w5)
              clear hw5 SB
              go_wp2_with fail
              refine AW.out.mono ?_
              rintro e w6 ⟨rfl, hb⟩
              have BL := Lib.hid (S5.out.below.trans (hb.mono S5.out.below.size))
              clear hb AW S5
              go_wp2_with fail
              go_ret
              exact ⟨rfl, BL.out⟩
            | false =>
              rw [hb] at a1
              have NO : Hid (∀ j, j < i + 1 → bitZ (x : Int) (rev4 j) = false) := fun j hj => by
                rcases (by omega : j < i ∨ j = i) with h1 | rfl
                · exact HNO.out j h1
                · rw [← HR4.out]; exact hb
              dsimp only [b2i] at a1
              clear hb d0 d1 d2 d3
              go_wp2_with fail
              go_roundw
              case rel => exact ⟨i + 1, by omega, by go_num, by trivial, NO.out⟩
              case measure => simp [intOf]; omega
      · exfalso
        obtain rfl : i = 16 := by omega
        refine h0 (zero_of_bits HX.out fun j hj => ?_)
        have := HNO.out (rev4 j) (rev4_lt j hj)
        rwa [rev4_rev4 j hj] at this

theorem countFirst_walk (n : Int) (w : World) (_hn : (Lit.int .i64 n).wf = true) :
    Calls Try.prog 7 #[.int .i64 n] w fun e w' => e = .returned (.bool true) ∧ Below w.heap.size w w' := first_core n w

namespace countFirst
set_option linter.unusedVariables false
theorem own : ownKnob Try.prog.godebug = none := by kernel_rfl
theorem laidOut : laidOutB Try.prog = true := by kernel_rfl
set_option maxRecDepth 100000 in
theorem lifted (os : Os) (started : os.Started) (H : Type) (enc : TypeId × Value → H) :
    ReturnsInHanded {} Try.checked os 7 .any (Rows.countFirstSpec.pre6 enc Try.prog Try.f7 Rows.countFirstRow.domain false) (Rows.countFirstSpec.post enc Try.prog Try.f7 false true false false) := by
  refine returnsInHanded_of_change (C := Try.checked) own started (by kernel_rfl) Try.func7
    (ChangeSpec.witness6 (enc := enc) (C := Try.checked) false ⟨#[], #[.int .i64 0], []⟩ 8 (by kernel_rfl) (by kernel_rfl) (by kernel_rfl) (by kernel_rfl)) ?_
  intro W base args ds gs before hval0 hW hcnd hsz
  have hval : ∀ (j : Nat) t v, Try.f7.params[j]? = some t → args[j]? = some v → Value.okWide Try.prog W .any base t v := hval0
  have hW' := hW
  obtain ⟨p, q, hA0, hV, rfl, hfz, hnd⟩ := hW
  have hA : DataW.TrodAll enc Try.prog W 0 (fun _ => true) true Try.f7.params.toList args.toList ds p := hA0
  rw [Try.params7] at hA hval
  obtain ⟨v0, vs0, d0, ds0, p0, q0, hargs, rfl, rfl, h0, r0⟩ := trodAll_cons hA
  obtain ⟨rfl, rfl, rfl⟩ := trodAll_nil r0
  obtain rfl : args = #[v0] := by cases args; simp_all
  obtain ⟨rfl, rfl⟩ := trodVars_none hV
  obtain ⟨a0, rfl, rfl, rfl, w0⟩ := open_int Try.underlying3 (hval 0 3 v0 rfl rfl) h0
  clear hA0 hval0
  refine (countFirst_walk a0 W w0).mono fun e W' ⟨he, bel⟩ => ?_
  subst he
  exact ⟨_, rfl, _, _, _, [], _, [], hW', trodAll_mk1 (shut_bool Try.underlying4 _), (trodAll_cons_mk (shut_int Try.underlying3 w0) trodAll_mk0), rfl, bel.frame _, fun h => by cases h⟩
theorem over : Rows.countFirstRow.holds Try.pinned (OpenSpec.ofChange Rows.countFirstSpec) :=
  OpenClaim.holds_of_wide 7 Try.f7 rfl rfl rfl rfl rfl rfl rfl ⟨rfl, rfl, rfl, rfl, rfl⟩ rfl rfl rfl rfl rfl (by kernel_rfl) Try.func7 (by kernel_rfl)
    (of_decide_eq_true (by kernel_rfl)) (by unfold Func.isWrapper; first | (rw [if_pos (by decide +kernel)]; kernel_rfl) | (rw [if_neg (by decide +kernel)]; exact ⟨rfl, rfl⟩))
    (fun os started H enc _ => lifted os started H enc)
/-- THE STATEMENT. -/
theorem proved : Rows.CountFirstSaid := over
end countFirst
#print axioms countFirst.proved
end Go.Proofs.Ytlmofadodhpkiaa
