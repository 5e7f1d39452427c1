/- For any number and any width: the program's Put is the document's, bits and error: the law returns true. No condition. -/
import Derived.Test.YtffhbjhpeiaebaaBitsOf
namespace Go.Proofs.Ytffhbjhpeiaebaa
open Go.ChangeShapes Go.WideShapes Go.ChangeAt Go.RowKit

theorem pred_pow (k : Nat) (h : k ≤ 62) : wrap64 (wrap64 ((2 : Int) ^ k) - 1) = ((2 ^ k : Nat) : Int) - 1 := by
  have h1 := pow_le62 k h
  have h2 : 0 < 2 ^ k := Nat.two_pow_pos k
  rw [wrap_pow_le k h]
  generalize 2 ^ k = p at h1 h2
  exact IntWalk.wrap64_in _ ⟨by omega, by omega⟩

theorem bitsPuts_bad (n v : Int) (w : World) (h1 : ∀ w, Calls Try.prog 12 #[.int .i64 n, .int .i64 v] w fun e w' => e = .returned (.tuple #[.slice none 0 0, .int .i64 1]) ∧ w = w')
    (h2 : ∀ w, Calls Try.prog 13 #[.int .i64 n, .int .i64 v] w fun e w' => e = .returned (.tuple #[.slice none 0 0, .int .i64 1]) ∧ w = w') :
    Calls Try.prog 4 #[.int .i64 n, .int .i64 v] w fun e w' => e = .returned (.bool true) ∧ Below w.heap.size w w' := by
  have H1 := Lib.hid h1
  have H2 := Lib.hid h2
  clear h1 h2
  go_enter Try.func4, Try.ntmps4
  go_wp2_with fail
  refine (H1.out _).mono ?_
  rintro e w' ⟨rfl, rfl⟩
  go_wp2_with fail
  refine (H2.out _).mono ?_
  rintro e w' ⟨rfl, rfl⟩
  go_wp2_with fail
  refine (same_none _ _ _ _ _).mono ?_
  rintro e w' ⟨rfl, rfl⟩
  go_wp2_with fail
  refine (bitsOf_any _).mono ?_
  rintro e w' ⟨rfl, hbel⟩
  go_wp2_with fail
  go_ret
  exact ⟨rfl, hbel⟩

theorem bitsPuts_good (n v : Int) (l : List Bool) (w : World) (hl : l.length ≤ 62) (h1 : ∀ w, Calls Try.prog 12 #[.int .i64 n, .int .i64 v] w (PutOut l w))
    (h2 : ∀ w, Calls Try.prog 13 #[.int .i64 n, .int .i64 v] w (PutOut l w)) :
    Calls Try.prog 4 #[.int .i64 n, .int .i64 v] w fun e w' => e = .returned (.bool true) ∧ Below w.heap.size w w' := by
  have H1 := Lib.hid h1
  have H2 := Lib.hid h2
  clear h1 h2
  go_enter Try.func4, Try.ntmps4
  go_wp2_with fail
  refine (H1.out _).mono ?_
  rintro e w1 ⟨A, c, rfl, hr1, hb1⟩
  go_wp2_with fail
  refine (H2.out _).mono ?_
  rintro e w2 ⟨B, d, rfl, hr2, hb2⟩
  go_wp2_with fail
  refine (same_self A B l c d _ (by omega) (hr1.keep hb2) hr2).mono ?_
  rintro e w3 ⟨rfl, n, rfl⟩
  go_wp2_with fail
  refine (bitsOf_any _).mono ?_
  rintro e w4 ⟨rfl, hb4⟩
  go_wp2_with fail
  go_ret
  have hs1 := hb1.size
  have hs2 := hb2.size
  exact ⟨rfl, (below_drewN (hb1.trans (hb2.mono hs1)) n).trans (hb4.mono (by show w.heap.size ≤ w2.heap.size; omega))⟩

theorem bitsPuts_walk (n v : Int) (w : World) (_ : (Lit.int .i64 n).wf = true) (_ : (Lit.int .i64 v).wf = true) :
    Calls Try.prog 4 #[.int .i64 n, .int .i64 v] w fun e w' => e = .returned (.bool true) ∧ Below w.heap.size w w' := by
  by_cases hv : v < 0
  · exact bitsPuts_bad n v w (fun w => put_bad n v w (.inl hv)) (fun w => rput_bad n v w (.inl hv))
  by_cases hv2 : 62 < v
  · exact bitsPuts_bad n v w (fun w => put_bad n v w (.inr (.inl hv2))) (fun w => rput_bad n v w (.inr (.inl hv2)))
  by_cases hn : n < 0
  · exact bitsPuts_bad n v w (fun w => put_bad n v w (.inr (.inr ⟨by omega, by omega, .inl hn⟩))) (fun w => rput_bad n v w (.inr (.inr ⟨by omega, by omega, .inl hn⟩)))
  have hw := wrap_pow_le v.toNat (by omega)
  have hp := pred_pow v.toNat (by omega)
  by_cases hb : wrap64 (2 ^ v.toNat) ≤ n
  · have hb2 : wrap64 (wrap64 (2 ^ v.toNat) - 1) < n := by rw [hp]; rw [hw] at hb; omega
    exact bitsPuts_bad n v w (fun w => put_bad n v w (.inr (.inr ⟨by omega, by omega, .inr ⟨by omega, hb⟩⟩))) (fun w => rput_bad n v w (.inr (.inr ⟨by omega, by omega, .inr ⟨by omega, hb2⟩⟩)))
  · have hb2 : n ≤ wrap64 (wrap64 (2 ^ v.toNat) - 1) := by rw [hp]; rw [hw] at hb; omega
    exact bitsPuts_good n v (putN n.toNat v.toNat) w (by rw [putN_length]; omega) (fun w => put_goodI n v w (by omega) (by omega) (by omega) (by omega)) (fun w => rput_goodI n v w (by omega) (by omega) (by omega) hb2)

namespace bitsPuts
set_option linter.unusedVariables false
theorem own : ownKnob Try.prog.godebug = none := by kernel_rfl
theorem laidOut : laidOutB Try.prog = true := by kernel_rfl
set_option maxRecDepth 100000 in
theorem lifted (os : Os) (started : os.Started) (H : Type) (enc : TypeId × Value → H) :
    ReturnsInHanded {} Try.checked os 4 .any (Rows.bitsPutsSpec.pre6 enc Try.prog Try.f4 Rows.bitsPutsRow.domain false) (Rows.bitsPutsSpec.post enc Try.prog Try.f4 false true false false) := by
  refine returnsInHanded_of_change (C := Try.checked) own started (by kernel_rfl) Try.func4
    (ChangeSpec.witness6 (enc := enc) (C := Try.checked) false ⟨#[], #[.int .i64 0, .int .i64 0], []⟩ 8 (by kernel_rfl) (by kernel_rfl) (by kernel_rfl) (by kernel_rfl)) ?_
  intro W base args ds gs before hval0 hW hcnd hsz
  have hval : ∀ (j : Nat) t v, Try.f4.params[j]? = some t → args[j]? = some v → Value.okWide Try.prog W .any base t v := hval0
  have hW' := hW
  obtain ⟨p, q, hA0, hV, rfl, hfz, hnd⟩ := hW
  have hA : DataW.TrodAll enc Try.prog W 0 (fun _ => true) true Try.f4.params.toList args.toList ds p := hA0
  rw [Try.params4] at hA hval
  obtain ⟨v0, vs0, d0, ds0, p0, q0, hargs, rfl, rfl, h0, r0⟩ := trodAll_cons hA
  obtain ⟨v1, vs1, d1, ds1, p1, q1, rfl, rfl, rfl, h1, r1⟩ := trodAll_cons r0
  obtain ⟨rfl, rfl, rfl⟩ := trodAll_nil r1
  obtain rfl : args = #[v0, v1] := by cases args; simp_all
  obtain ⟨rfl, rfl⟩ := trodVars_none hV
  obtain ⟨a0, rfl, rfl, rfl, w0⟩ := open_int Try.underlying3 (hval 0 3 v0 rfl rfl) h0
  obtain ⟨a1, rfl, rfl, rfl, w1⟩ := open_int Try.underlying3 (hval 1 3 v1 rfl rfl) h1
  clear hA0 hval0
  refine (bitsPuts_walk a0 a1 W w0 w1).mono fun e W' ⟨he, bel⟩ => ?_
  subst he
  exact ⟨_, rfl, _, _, _, [], _, [], hW', trodAll_mk1 (shut_bool Try.underlying4 _), (trodAll_cons_mk (shut_int Try.underlying3 w0) (trodAll_cons_mk (shut_int Try.underlying3 w1) trodAll_mk0)), rfl, bel.frame _, fun h => by cases h⟩
theorem over : Rows.bitsPutsRow.holds Try.pinned (OpenSpec.ofChange Rows.bitsPutsSpec) :=
  OpenClaim.holds_of_wide 4 Try.f4 rfl rfl rfl rfl rfl rfl rfl ⟨rfl, rfl, rfl, rfl, rfl⟩ rfl rfl rfl rfl rfl (by kernel_rfl) Try.func4 (by kernel_rfl)
    (of_decide_eq_true (by kernel_rfl)) (by unfold Func.isWrapper; first | (rw [if_pos (by decide +kernel)]; kernel_rfl) | (rw [if_neg (by decide +kernel)]; exact ⟨rfl, rfl⟩))
    (fun os started H enc _ => lifted os started H enc)
/-- THE STATEMENT. -/
theorem proved : Rows.BitsPutsSaid := over
end bitsPuts
#print axioms bitsPuts.proved
end Go.Proofs.Ytffhbjhpeiaebaa
