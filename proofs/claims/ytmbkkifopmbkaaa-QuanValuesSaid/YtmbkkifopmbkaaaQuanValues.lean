/- For any sixteen answers, any values and any of the orders that a number tells: a node of which each of four variables is given a value is what the node says of these: the law returns true. No condition. -/
import Derived.Test.YtmbkkifopmbkaaaMN
namespace Go.Proofs.Ytmbkkifopmbkaaa
open Go.ChangeShapes Go.WideShapes Go.ChangeAt Go.RowKit Go.Maps

/-- Which variable is next. -/
def vOf (p r i : Nat) : Nat := (i * (1 + 2 * p) + r) % 4

/-- The values given till then, as a function; and as a number. -/
def gave (p r : Nat) (g : Nat → Bool) : Nat → (Nat → Bool) → Nat → Bool
  | 0, val => val
  | i + 1, val => gave p r g i (upd val (vOf p r i) (g (vOf p r i)))
def gaveN (p r : Nat) (g : Nat → Bool) : Nat → Nat
  | 0 => 0
  | i + 1 => gaveN p r g i ||| (if g (vOf p r i) then 2 ^ vOf p r i else 0)

theorem vOf_lt (p r i : Nat) : vOf p r i < 4 := Nat.mod_lt _ (by omega)

def gB (a b c d : Bool) (i : Nat) : Bool := match i with | 0 => a | 1 => b | 2 => c | _ => d
theorem gB_eq (g : Nat → Bool) {v : Nat} (hv : v < 4) : g v = gB (g 0) (g 1) (g 2) (g 3) v := by
  rcases (by omega : v = 0 ∨ v = 1 ∨ v = 2 ∨ v = 3) with rfl | rfl | rfl | rfl <;> rfl
theorem gaveN_gB (p r : Nat) (g : Nat → Bool) : ∀ i, gaveN p r g i = gaveN p r (gB (g 0) (g 1) (g 2) (g 3)) i
  | 0 => rfl
  | i + 1 => by
    unfold gaveN
    rw [gaveN_gB p r g i, gB_eq g (vOf_lt p r i)]
theorem gaveN_d16 : ∀ p, p < 2 → ∀ r, r < 4 → ∀ a b c d, ∀ i, i < 5 → gaveN p r (gB a b c d) i < 16 := by decide
theorem gaveN_d4 : ∀ p, p < 2 → ∀ r, r < 4 → ∀ a b c d, gaveN p r (gB a b c d) 4 = t4 a b c d := by decide
theorem gaveN_lt {p r : Nat} (g : Nat → Bool) (hp : p < 2) (hr : r < 4) {i : Nat} (hi : i < 5) : gaveN p r g i < 16 := by
  rw [gaveN_gB]; exact gaveN_d16 p hp r hr _ _ _ _ i hi
theorem gaveN_4 {p r : Nat} (g : Nat → Bool) (hp : p < 2) (hr : r < 4) : gaveN p r g 4 = t4 (g 0) (g 1) (g 2) (g 3) := by
  rw [gaveN_gB]; exact gaveN_d4 p hp r hr _ _ _ _
theorem gave_4 {p r : Nat} (g : Nat → Bool) (hp : p < 2) (hr : r < 4) (val : Nat → Bool) : tix (gave p r g 4 val) 4 0 0 = t4 (g 0) (g 1) (g 2) (g 3) := by
  rw [tix_t4]
  rcases (by omega : p = 0 ∨ p = 1) with rfl | rfl <;> rcases (by omega : r = 0 ∨ r = 1 ∨ r = 2 ∨ r = 3) with rfl | rfl | rfl | rfl <;> simp [gave, vOf, upd]

theorem bitZ_same {x : Int} {a n : Nat} (h : x % 65536 = (a : Int)) (hn : n < 16) : bitZ x n = bitZ (a : Int) n := by
  have h2 := same_bits (a := x) (b := (a : Int)) (by omega)
  have h3 := congrArg (fun l : List Bool => l[n]?) h2
  simp only [bitsL, List.getElem?_map, List.getElem?_range hn] at h3
  injection h3

theorem or_pow {n v : Nat} (hn : n < 16) (hv : v < 4) : bits BinOp.or IntKind.i64 (n : Int) (wrap64 (2 ^ v)) = ((n ||| 2 ^ v : Nat) : Int) := by
  have h1 : 2 ^ v < 16 := Nat.pow_lt_pow_right (by omega) (m := v) (n := 4) hv
  rw [wrap_pow (by omega), show ((2 : Int) ^ v) = ((2 ^ v : Nat) : Int) by simp]
  exact b_or (by omega) (by omega)

def VRel (W : World) (o q s0 p r : Nat) (f : (Nat → Bool) → Bool) (g : Nat → Bool) (kv nv iv : Value) (wr : World) : Prop :=
  ∃ (i k : Nat) (a : OS) (c : Nat), i ≤ 4 ∧ iv = .int .i64 i ∧ nv = .int .i64 (gaveN p r g i : Nat) ∧ kv = .int .i64 k ∧ QS W 2000 o q a c wr ∧ c ≤ 17 + 15 * i ∧ a.m.s = s0 ∧ At a.cs 0 k ∧ ∀ val, Says 4 a.cs val k = f (gave p r g i val)

set_option maxHeartbeats 8000000 in
set_option maxRecDepth 100000 in
theorem qvalues_core (x y z : Int) (w : World) : Calls Try.prog 9 #[.int .i64 x, .int .i64 y, .int .i64 z] w fun e w' => e = .returned (.bool true) ∧ Below w.heap.size w w' := by
  obtain ⟨a, ha, ea⟩ := low16 x
  obtain ⟨r, hr, er⟩ := low2 (z / 2)
  obtain ⟨p, hp, ep⟩ : ∃ p : Nat, p < 2 ∧ bits BinOp.and IntKind.i64 z 1 = (p : Int) := ⟨(z % 2).toNat, by omega, by rw [and_one]; omega⟩
  have XA := Lib.hid ((and_mask16 x).symm.trans ea)
  obtain ⟨g, hg⟩ : ∃ g : Nat → Bool, g = bitZ y := ⟨_, rfl⟩
  have EG : Hid (∀ v, bits BinOp.and IntKind.i64 (y / 2 ^ v) 1 = if g v then 1 else 0) := by
    show ∀ v, _
    intro v
    rw [and_one, hg]
    unfold bitZ
    rcases Int.emod_two_eq (y / 2 ^ v) with h | h <;> rw [h] <;> rfl
  have HP := Lib.hid hp
  have HR := Lib.hid hr
  clear ha hg
  have BG := begun5 2000 (by omega) (by omega) w
  change Calls _ _ #[.int .i64 2000] _ _ at BG
  have BG := Lib.hid BG
  go_enter Try.func9, Try.ntmps9
  go_wp2_with fail
  refine BG.out.mono ?_
  rintro e w1 ⟨m1, o, q, rfl, s1⟩
  have T := Lib.hid (make_any s1.l.ost.st s1.l.V (a : Int))
  have S1 := Lib.hid s1
  unfold ptrV at *
  clear s1 BG
  go_wp2_with fail
  refine T.out.mono ?_
  intro e w2 hout
  obtain ⟨nx, a2, rfl, s2, x2, p2, ax, sx⟩ := S1.out.make (by omega) hout
  obtain ⟨f, hf⟩ : ∃ f : (Nat → Bool) → Bool, f = fun val => bitZ (a : Int) (tix val 4 0 0) := ⟨_, rfl⟩
  have sx : ∀ val, Says 4 a2.cs val nx = f val := fun val => by rw [sx, hf]
  have FF := Lib.hid hf
  have START : Hid (VRel w o q m1.s p r f g (.int .i64 nx) (.int .i64 0) (.int .i64 0) w2) := ⟨0, nx, a2, _, by omega, rfl, rfl, rfl, s2, by omega, p2, ax, sx⟩
  clear hout s2 x2 p2 ax sx T S1 hf
  go_wp2_with fail
  go_loopw [10, 12, 13] (fun kv nv iv wr => VRel w o q m1.s p r f g kv nv iv wr) (fun _ _ iv _ => 4 - (intOf iv).toNat)
  case atStart => exact START.out
  case round =>
    clear START
    obtain ⟨i, k, a3, c, hi, rfl, rfl, rfl, s3, hc, p3, ak, sk⟩ := hrel
    have S3 := Lib.hid s3
    have HC := Lib.hid hc
    have P3 := Lib.hid p3
    have AK := Lib.hid ak
    have SK := Lib.hid sk
    clear s3 hc p3 ak sk
    by_cases hlt : i < 4
    · have hlt' : (i : Int) < 4 := by omega
      have hr' : (r : Int) < 4 := by have := HR.out; omega
      have VV : Hid (vOf p r i < 4) := vOf_lt p r i
      have GN := Lib.hid (gaveN_lt (p := p) (r := r) g HP.out HR.out (i := i) (by omega))
      have GS : Hid (gaveN p r g (i + 1) = gaveN p r g i ||| (if g (vOf p r i) then 2 ^ vOf p r i else 0)) := rfl
      have GV : Hid (∀ val, gave p r g (i + 1) val = gave p r g i (upd val (vOf p r i) (g (vOf p r i)))) := fun _ => rfl
      rcases (by have := HP.out; omega : p = 0 ∨ p = 1) with rfl | rfl
      · have ev : bits BinOp.and IntKind.i64 ((i : Int) + (r : Int)) 3 = (vOf 0 r i : Nat) := by
          rw [and_mask2]
          unfold vOf
          simp; try omega
        have ey := EG.out (vOf 0 r i)
        have hv' : ((vOf 0 r i : Nat) : Int) < 4 := by have := VV.out; omega
        have EO := Lib.hid (or_pow (n := gaveN 0 r g i) (v := vOf 0 r i) GN.out VV.out)
        have EZ := Lib.hid (or_zero (x := gaveN 0 r g i) (by have := GN.out; omega))
        revert ev ey hv' VV GS GV EO EZ
        generalize vOf 0 r i = v
        intro VV GS GV ev ey hv' EO EZ
        cases hb : g v with
        | true =>
          rw [hb] at ey GS GV
          have GS : Hid (gaveN 0 r g (i + 1) = gaveN 0 r g i ||| 2 ^ v) := GS
          replace ey : bits BinOp.and IntKind.i64 (y / 2 ^ v) 1 = 1 := ey
          have RE := Lib.hid (restrict_good S3.out.l.ost S3.out.quan S3.out.nq S3.out.l.V (by decide) (v := v) true VV.out AK.out)
          have eo := EO.out
          clear hb
          go_wp2_with fail
          refine RE.out.mono ?_
          intro e w4 hout
          obtain ⟨k4, a4, rfl, s4, x4, p4, ak4, sk4⟩ := S3.out.op (by have := HC.out; omega) hout
          have KK : Hid (VRel w o q m1.s 0 r f g (.int .i64 k4) (.int .i64 (gaveN 0 r g (i + 1) : Nat)) (.int .i64 (i + 1 : Nat)) w4) :=
            ⟨i + 1, k4, a4, _, by omega, rfl, rfl, rfl, s4, by have := HC.out; omega, p4.trans P3.out, ak4, fun val => by rw [sk4, SK.out, GV.out]⟩
          clear hout s4 x4 p4 ak4 sk4 RE S3 HC P3 AK SK
          rw [GS.out] at KK
          
          go_wp2_with fail
          go_roundw
          case rel =>
            exact KK.out
          case measure => simp [intOf]; omega
        | false =>
          rw [hb] at ey GS GV
          have GS : Hid (gaveN 0 r g (i + 1) = gaveN 0 r g i ||| 0) := GS
          replace ey : bits BinOp.and IntKind.i64 (y / 2 ^ v) 1 = 0 := ey
          have RE := Lib.hid (restrict_good S3.out.l.ost S3.out.quan S3.out.nq S3.out.l.V (by decide) (v := v) false VV.out AK.out)
          have eo := EZ.out
          clear hb
          go_wp2_with fail
          refine RE.out.mono ?_
          intro e w4 hout
          obtain ⟨k4, a4, rfl, s4, x4, p4, ak4, sk4⟩ := S3.out.op (by have := HC.out; omega) hout
          have KK : Hid (VRel w o q m1.s 0 r f g (.int .i64 k4) (.int .i64 (gaveN 0 r g (i + 1) : Nat)) (.int .i64 (i + 1 : Nat)) w4) :=
            ⟨i + 1, k4, a4, _, by omega, rfl, rfl, rfl, s4, by have := HC.out; omega, p4.trans P3.out, ak4, fun val => by rw [sk4, SK.out, GV.out]⟩
          clear hout s4 x4 p4 ak4 sk4 RE S3 HC P3 AK SK
          rw [GS.out] at KK
          rw [Nat.or_zero] at KK
          go_wp2_with fail
          go_roundw
          case rel =>
            exact KK.out
          case measure => simp [intOf]; omega
      · have ev : bits BinOp.and IntKind.i64 ((i : Int) * 3 + (r : Int)) 3 = (vOf 1 r i : Nat) := by
          rw [and_mask2]
          unfold vOf
          simp; try omega
        have ey := EG.out (vOf 1 r i)
        have hv' : ((vOf 1 r i : Nat) : Int) < 4 := by have := VV.out; omega
        have EO := Lib.hid (or_pow (n := gaveN 1 r g i) (v := vOf 1 r i) GN.out VV.out)
        have EZ := Lib.hid (or_zero (x := gaveN 1 r g i) (by have := GN.out; omega))
        revert ev ey hv' VV GS GV EO EZ
        generalize vOf 1 r i = v
        intro VV GS GV ev ey hv' EO EZ
        cases hb : g v with
        | true =>
          rw [hb] at ey GS GV
          have GS : Hid (gaveN 1 r g (i + 1) = gaveN 1 r g i ||| 2 ^ v) := GS
          replace ey : bits BinOp.and IntKind.i64 (y / 2 ^ v) 1 = 1 := ey
          have RE := Lib.hid (restrict_good S3.out.l.ost S3.out.quan S3.out.nq S3.out.l.V (by decide) (v := v) true VV.out AK.out)
          have eo := EO.out
          clear hb
          go_wp2_with fail
          refine RE.out.mono ?_
          intro e w4 hout
          obtain ⟨k4, a4, rfl, s4, x4, p4, ak4, sk4⟩ := S3.out.op (by have := HC.out; omega) hout
          have KK : Hid (VRel w o q m1.s 1 r f g (.int .i64 k4) (.int .i64 (gaveN 1 r g (i + 1) : Nat)) (.int .i64 (i + 1 : Nat)) w4) :=
            ⟨i + 1, k4, a4, _, by omega, rfl, rfl, rfl, s4, by have := HC.out; omega, p4.trans P3.out, ak4, fun val => by rw [sk4, SK.out, GV.out]⟩
          clear hout s4 x4 p4 ak4 sk4 RE S3 HC P3 AK SK
          rw [GS.out] at KK
          
          go_wp2_with fail
          go_roundw
          case rel =>
            exact KK.out
          case measure => simp [intOf]; omega
        | false =>
          rw [hb] at ey GS GV
          have GS : Hid (gaveN 1 r g (i + 1) = gaveN 1 r g i ||| 0) := GS
          replace ey : bits BinOp.and IntKind.i64 (y / 2 ^ v) 1 = 0 := ey
          have RE := Lib.hid (restrict_good S3.out.l.ost S3.out.quan S3.out.nq S3.out.l.V (by decide) (v := v) false VV.out AK.out)
          have eo := EZ.out
          clear hb
          go_wp2_with fail
          refine RE.out.mono ?_
          intro e w4 hout
          obtain ⟨k4, a4, rfl, s4, x4, p4, ak4, sk4⟩ := S3.out.op (by have := HC.out; omega) hout
          have KK : Hid (VRel w o q m1.s 1 r f g (.int .i64 k4) (.int .i64 (gaveN 1 r g (i + 1) : Nat)) (.int .i64 (i + 1 : Nat)) w4) :=
            ⟨i + 1, k4, a4, _, by omega, rfl, rfl, rfl, s4, by have := HC.out; omega, p4.trans P3.out, ak4, fun val => by rw [sk4, SK.out, GV.out]⟩
          clear hout s4 x4 p4 ak4 sk4 RE S3 HC P3 AK SK
          rw [GS.out] at KK
          rw [Nat.or_zero] at KK
          go_wp2_with fail
          go_roundw
          case rel =>
            exact KK.out
          case measure => simp [intOf]; omega
    · obtain rfl : i = 4 := by omega
      have hN := gaveN_lt (p := p) (r := r) g HP.out HR.out (i := 4) (by omega)
      have KS : Hid (∀ val, Says 4 a3.cs val k = bitZ (a : Int) (gaveN p r g 4)) := by
        show ∀ val, _
        intro val
        rw [SK.out, FF.out]
        show bitZ (a : Int) (tix (gave p r g 4 val) 4 0 0) = _
        rw [gave_4 g HP.out HR.out, gaveN_4 g HP.out HR.out]
      have BX : Hid (bitZ x (gaveN p r g 4) = bitZ (a : Int) (gaveN p r g 4)) := bitZ_same XA.out hN
      clear EG HP HR FF
      revert KS BX hN
      generalize gaveN p r g 4 = N
      intro hN KS BX
      have hN' : (N : Int) < 16 := by omega
      cases hb : bitZ (a : Int) N with
      | true =>
        have KE : Hid (k = 1) := same_node S3.out.good AK.out (S3.out.good.at1 (u := 0) (by omega)) fun val => by rw [KS.out, hb, Says_one]
        have en : bits BinOp.and IntKind.i64 (x / 2 ^ N) 1 = 1 := by
          rw [and_one]
          have h := BX.out
          rw [hb] at h
          unfold bitZ at h
          simpa using h
        have AW := Lib.hid (fun w => awake5 w)
        have ke := KE.out
        subst ke
        clear hb KE AK SK KS BX HC P3
        go_wp2_with fail
        refine (AW.out _).mono ?_
        rintro e w5 ⟨rfl, hb⟩
        have BL := Lib.hid (S3.out.below.trans (hb.mono S3.out.below.size))
        clear hb AW S3
        go_wp2_with fail
        go_ret
        exact ⟨rfl, BL.out⟩
      | false =>
        have KE : Hid (k = 0) := same_node S3.out.good AK.out (S3.out.good.at0 (u := 0) (by omega)) fun val => by rw [KS.out, hb, Says_zero]
        have en : bits BinOp.and IntKind.i64 (x / 2 ^ N) 1 = 0 := by
          rw [and_one]
          have h := BX.out
          rw [hb] at h
          unfold bitZ at h
          have := Int.emod_two_eq (x / 2 ^ N); simp at h; omega
        have AW := Lib.hid (fun w => awake5 w)
        have ke := KE.out
        subst ke
        clear hb KE AK SK KS BX HC P3
        go_wp2_with fail
        refine (AW.out _).mono ?_
        rintro e w5 ⟨rfl, hb⟩
        have BL := Lib.hid (S3.out.below.trans (hb.mono S3.out.below.size))
        clear hb AW S3
        go_wp2_with fail
        go_ret
        exact ⟨rfl, BL.out⟩

theorem quanValues_walk (x y z : Int) (w : World) (_hx : (Lit.int .i64 x).wf = true) (_hy : (Lit.int .i64 y).wf = true) (_hz : (Lit.int .i64 z).wf = true) :
    Calls Try.prog 9 #[.int .i64 x, .int .i64 y, .int .i64 z] w fun e w' => e = .returned (.bool true) ∧ Below w.heap.size w w' := qvalues_core x y z w

namespace quanValues
set_option linter.unusedVariables false
theorem own : ownKnob Try.prog.godebug = none := by kernel_rfl
theorem laidOut : laidOutB Try.prog = true := by kernel_rfl
set_option maxRecDepth 100000 in
theorem lifted (os : Os) (started : os.Started) (H : Type) (enc : TypeId × Value → H) :
    ReturnsInHanded {} Try.checked os 9 .any (Rows.quanValuesSpec.pre6 enc Try.prog Try.f9 Rows.quanValuesRow.domain false) (Rows.quanValuesSpec.post enc Try.prog Try.f9 false true false false) := by
  refine returnsInHanded_of_change (C := Try.checked) own started (by kernel_rfl) Try.func9
    (ChangeSpec.witness6 (enc := enc) (C := Try.checked) false ⟨#[], #[.int .i64 0, .int .i64 0, .int .i64 0], []⟩ 8 (by kernel_rfl) (by kernel_rfl) (by kernel_rfl) (by kernel_rfl)) ?_
  intro W base args ds gs before hval0 hW hcnd hsz
  have hval : ∀ (j : Nat) t v, Try.f9.params[j]? = some t → args[j]? = some v → Value.okWide Try.prog W .any base t v := hval0
  have hW' := hW
  obtain ⟨p, q, hA0, hV, rfl, hfz, hnd⟩ := hW
  have hA : DataW.TrodAll enc Try.prog W 0 (fun _ => true) true Try.f9.params.toList args.toList ds p := hA0
  rw [Try.params9] at hA hval
  obtain ⟨v0, vs0, d0, ds0, p0, q0, hargs, rfl, rfl, h0, r0⟩ := trodAll_cons hA
  obtain ⟨v1, vs1, d1, ds1, p1, q1, rfl, rfl, rfl, h1, r1⟩ := trodAll_cons r0
  obtain ⟨v2, vs2, d2, ds2, p2, q2, rfl, rfl, rfl, h2, r2⟩ := trodAll_cons r1
  obtain ⟨rfl, rfl, rfl⟩ := trodAll_nil r2
  obtain rfl : args = #[v0, v1, v2] := by cases args; simp_all
  obtain ⟨rfl, rfl⟩ := trodVars_none hV
  obtain ⟨a0, rfl, rfl, rfl, w0⟩ := open_int Try.underlying3 (hval 0 3 v0 rfl rfl) h0
  obtain ⟨a1, rfl, rfl, rfl, w1⟩ := open_int Try.underlying3 (hval 1 3 v1 rfl rfl) h1
  obtain ⟨a2, rfl, rfl, rfl, w2⟩ := open_int Try.underlying3 (hval 2 3 v2 rfl rfl) h2
  clear hA0 hval0
  refine (quanValues_walk a0 a1 a2 W w0 w1 w2).mono fun e W' ⟨he, bel⟩ => ?_
  subst he
  exact ⟨_, rfl, _, _, _, [], _, [], hW', trodAll_mk1 (shut_bool Try.underlying4 _), (trodAll_cons_mk (shut_int Try.underlying3 w0) (trodAll_cons_mk (shut_int Try.underlying3 w1) (trodAll_cons_mk (shut_int Try.underlying3 w2) trodAll_mk0))), rfl, bel.frame _, fun h => by cases h⟩
theorem over : Rows.quanValuesRow.holds Try.pinned (OpenSpec.ofChange Rows.quanValuesSpec) :=
  OpenClaim.holds_of_wide 9 Try.f9 rfl rfl rfl rfl rfl rfl rfl ⟨rfl, rfl, rfl, rfl, rfl⟩ rfl rfl rfl rfl rfl (by kernel_rfl) Try.func9 (by kernel_rfl)
    (of_decide_eq_true (by kernel_rfl)) (by unfold Func.isWrapper; first | (rw [if_pos (by decide +kernel)]; kernel_rfl) | (rw [if_neg (by decide +kernel)]; exact ⟨rfl, rfl⟩))
    (fun os started H enc _ => lifted os started H enc)
/-- THE STATEMENT. -/
theorem proved : Rows.QuanValuesSaid := over
end quanValues
#print axioms quanValues.proved
end Go.Proofs.Ytmbkkifopmbkaaa
