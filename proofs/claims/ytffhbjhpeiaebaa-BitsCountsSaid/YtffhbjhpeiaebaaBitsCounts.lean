/- For any two numbers: the program's sum and product of their counts, and its power of two, are the document's: the law returns true. No condition. -/
import Derived.Test.YtffhbjhpeiaebaaBitsTurns
namespace Go.Proofs.Ytffhbjhpeiaebaa
open Go.ChangeShapes Go.WideShapes Go.ChangeAt Go.RowKit

theorem rcount_any (n : Int) (w : World) :
    Calls Try.prog 26 #[.int .i64 n] w fun e w' => e = .returned (.int .i64 (cnt n)) ∧ w = w' := by
  by_cases h : n < 0
  · go_enter Try.func26, Try.ntmps26
    go_wp2
    all_goals
      go_ret
      exact ⟨ret_int (by unfold cnt cap; rw [if_pos h]), rfl⟩
  · by_cases h2 : 4611686018427387903 < n
    · go_enter Try.func26, Try.ntmps26
      go_wp2
      all_goals
        go_ret
        exact ⟨ret_int (by unfold cnt cap; rw [if_neg (by omega), if_pos h2]), rfl⟩
    · go_enter Try.func26, Try.ntmps26
      go_wp2
      all_goals
        go_ret
        exact ⟨ret_int (by unfold cnt cap; rw [if_neg (by omega), if_neg (by omega)]), rfl⟩

theorem radd_any (a b : Int) (w : World) :
    Calls Try.prog 19 #[.int .i64 a, .int .i64 b] w fun e w' => e = .returned (.int .i64 (sadd a b)) ∧ w = w' := by
  have a1 := cnt_lo a
  have a2 := cnt_hi a
  have b1 := cnt_lo b
  have b2 := cnt_hi b
  by_cases h : 4611686018427387903 - cnt b < cnt a
  · have HM := Lib.hid (cnt_big (n := cnt a + cnt b) (by omega))
    go_enter Try.func19, Try.ntmps19
    go_wp2_with (go_at_call 26; refine (rcount_any _ _).mono ?_; rintro e w' ⟨rfl, rfl⟩)
    go_ret
    exact ⟨ret_int HM.out.symm, rfl⟩
  · have HM := Lib.hid (cnt_of (n := cnt a + cnt b) (by omega) (by omega))
    go_enter Try.func19, Try.ntmps19
    go_wp2_with (go_at_call 26; refine (rcount_any _ _).mono ?_; rintro e w' ⟨rfl, rfl⟩)
    go_ret
    exact ⟨ret_int HM.out.symm, rfl⟩

theorem rmul_any (a b : Int) (w : World) :
    Calls Try.prog 21 #[.int .i64 a, .int .i64 b] w fun e w' => e = .returned (.int .i64 (smul a b)) ∧ w = w' := by
  have a1 := cnt_lo a
  have a2 := cnt_hi a
  have b1 := cnt_lo b
  have b2 := cnt_hi b
  have hm := smul_eq (cnt a) (cnt b) a1 b1
  by_cases h : 0 < cnt b ∧ (4611686018427387903 : Int) / cnt b < cnt a
  · rw [if_pos h] at hm
    have HM := Lib.hid hm
    clear hm
    obtain ⟨h1, h2⟩ := h
    go_enter Try.func21, Try.ntmps21
    go_wp2_with (go_at_call 26; refine (rcount_any _ _).mono ?_; rintro e w' ⟨rfl, rfl⟩)
    go_ret
    exact ⟨ret_int HM.out, rfl⟩
  · rw [if_neg h] at hm
    have hq : cnt a * cnt b ≤ 4611686018427387903 := by rw [hm]; exact cnt_hi _
    have hq0 : 0 ≤ cnt a * cnt b := Int.mul_nonneg a1 b1
    have HM := Lib.hid hm
    clear hm
    by_cases h0 : 0 < cnt b
    · have h1 : ¬ (4611686018427387903 : Int) / cnt b < cnt a := fun x => h ⟨h0, x⟩
      clear h
      go_enter Try.func21, Try.ntmps21
      go_wp2_with (go_at_call 26; refine (rcount_any _ _).mono ?_; rintro e w' ⟨rfl, rfl⟩)
      go_ret
      exact ⟨ret_int HM.out, rfl⟩
    · clear h
      go_enter Try.func21, Try.ntmps21
      go_wp2_with (go_at_call 26; refine (rcount_any _ _).mono ?_; rintro e w' ⟨rfl, rfl⟩)
      go_ret
      exact ⟨ret_int HM.out, rfl⟩

theorem rpow_any (n : Int) (w : World) :
    Calls Try.prog 23 #[.int .i64 n] w fun e w' => e = .returned (.int .i64 (spow n)) ∧ w = w' := by
  by_cases h2 : 61 < n
  · go_enter Try.func23, Try.ntmps23
    go_wp2
    go_ret
    exact ⟨ret_int (by unfold spow cap; rw [if_neg (by omega), if_pos (by omega)]), rfl⟩
  · by_cases h : 0 ≤ n
    · have hp1 := pow_bd n (by omega)
      have hp0 : (0 : Int) ≤ 2 ^ n.toNat := Int.pow_nonneg (by omega)
      have HW := Lib.hid (IntWalk.wrap64_in (2 ^ n.toNat) ⟨by omega, by omega⟩)
      clear hp1 hp0
      go_enter Try.func23, Try.ntmps23
      go_wp2
      all_goals
        go_ret
        exact ⟨ret_int (by rw [HW.out]; unfold spow; rw [if_neg (by omega), if_neg (by omega)]), rfl⟩
    · go_enter Try.func23, Try.ntmps23
      go_wp2
      all_goals
        go_ret
        exact ⟨ret_int (by unfold spow; rw [if_pos (by omega)]), rfl⟩

theorem bitsCounts_walk (a b : Int) (w : World) (_ : (Lit.int .i64 a).wf = true) (_ : (Lit.int .i64 b).wf = true) :
    Calls Try.prog 8 #[.int .i64 a, .int .i64 b] w fun e w' => e = .returned (.bool true) ∧ Below w.heap.size w w' := by
  have e1 : (sadd a b == sadd a b) = true := by simp
  have e2 : (smul a b == smul a b) = true := by simp
  have e3 : (spow a == spow a) = true := by simp
  go_enter Try.func8, Try.ntmps8
  go_wp2_with (first | (go_at_call 18; refine (add_any _ _ _).mono ?_; rintro e w' ⟨rfl, rfl⟩) | (go_at_call 20; refine (mul_any _ _ _).mono ?_; rintro e w' ⟨rfl, rfl⟩) | (go_at_call 22; refine (pow_any _ _).mono ?_; rintro e w' ⟨rfl, rfl⟩) | (go_at_call 19; refine (radd_any _ _ _).mono ?_; rintro e w' ⟨rfl, rfl⟩) | (go_at_call 21; refine (rmul_any _ _ _).mono ?_; rintro e w' ⟨rfl, rfl⟩) | (go_at_call 23; refine (rpow_any _ _).mono ?_; rintro e w' ⟨rfl, rfl⟩) | (go_at_call 24; refine (counts_any _).mono ?_; rintro e w' ⟨rfl, rfl⟩))
  go_ret
  exact ⟨rfl, Below.refl _ _⟩

namespace bitsCounts
set_option linter.unusedVariables false
theorem own : ownKnob Try.prog.godebug = none := by kernel_rfl
theorem laidOut : laidOutB Try.prog = true := by kernel_rfl
set_option maxRecDepth 100000 in
theorem lifted (os : Os) (started : os.Started) (H : Type) (enc : TypeId × Value → H) :
    ReturnsInHanded {} Try.checked os 8 .any (Rows.bitsCountsSpec.pre6 enc Try.prog Try.f8 Rows.bitsCountsRow.domain false) (Rows.bitsCountsSpec.post enc Try.prog Try.f8 false true false false) := by
  refine returnsInHanded_of_change (C := Try.checked) own started (by kernel_rfl) Try.func8
    (ChangeSpec.witness6 (enc := enc) (C := Try.checked) false ⟨#[], #[.int .i64 0, .int .i64 0], []⟩ 8 (by kernel_rfl) (by kernel_rfl) (by kernel_rfl) (by kernel_rfl)) ?_
  intro W base args ds gs before hval0 hW hcnd hsz
  have hval : ∀ (j : Nat) t v, Try.f8.params[j]? = some t → args[j]? = some v → Value.okWide Try.prog W .any base t v := hval0
  have hW' := hW
  obtain ⟨p, q, hA0, hV, rfl, hfz, hnd⟩ := hW
  have hA : DataW.TrodAll enc Try.prog W 0 (fun _ => true) true Try.f8.params.toList args.toList ds p := hA0
  rw [Try.params8] at hA hval
  obtain ⟨v0, vs0, d0, ds0, p0, q0, hargs, rfl, rfl, h0, r0⟩ := trodAll_cons hA
  obtain ⟨v1, vs1, d1, ds1, p1, q1, rfl, rfl, rfl, h1, r1⟩ := trodAll_cons r0
  obtain ⟨rfl, rfl, rfl⟩ := trodAll_nil r1
  obtain rfl : args = #[v0, v1] := by cases args; simp_all
  obtain ⟨rfl, rfl⟩ := trodVars_none hV
  obtain ⟨a0, rfl, rfl, rfl, w0⟩ := open_int Try.underlying3 (hval 0 3 v0 rfl rfl) h0
  obtain ⟨a1, rfl, rfl, rfl, w1⟩ := open_int Try.underlying3 (hval 1 3 v1 rfl rfl) h1
  clear hA0 hval0
  refine (bitsCounts_walk a0 a1 W w0 w1).mono fun e W' ⟨he, bel⟩ => ?_
  subst he
  exact ⟨_, rfl, _, _, _, [], _, [], hW', trodAll_mk1 (shut_bool Try.underlying4 _), (trodAll_cons_mk (shut_int Try.underlying3 w0) (trodAll_cons_mk (shut_int Try.underlying3 w1) trodAll_mk0)), rfl, bel.frame _, fun h => by cases h⟩
theorem over : Rows.bitsCountsRow.holds Try.pinned (OpenSpec.ofChange Rows.bitsCountsSpec) :=
  OpenClaim.holds_of_wide 8 Try.f8 rfl rfl rfl rfl rfl rfl rfl ⟨rfl, rfl, rfl, rfl, rfl⟩ rfl rfl rfl rfl rfl (by kernel_rfl) Try.func8 (by kernel_rfl)
    (of_decide_eq_true (by kernel_rfl)) (by unfold Func.isWrapper; first | (rw [if_pos (by decide +kernel)]; kernel_rfl) | (rw [if_neg (by decide +kernel)]; exact ⟨rfl, rfl⟩))
    (fun os started H enc _ => lifted os started H enc)
/-- THE STATEMENT. -/
theorem proved : Rows.BitsCountsSaid := over
end bitsCounts
#print axioms bitsCounts.proved
end Go.Proofs.Ytffhbjhpeiaebaa
