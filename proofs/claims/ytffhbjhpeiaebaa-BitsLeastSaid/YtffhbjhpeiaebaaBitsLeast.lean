/- For any number n: the program's Width(n) is the least width with which n-1 can be put, or n is refused and is not 1 to the greatest count: the law returns true. No condition. -/
import Derived.Test.YtffhbjhpeiaebaaBitsOf
namespace Go.Proofs.Ytffhbjhpeiaebaa
open Go.ChangeShapes Go.WideShapes Go.ChangeAt Go.RowKit

theorem below2_up (n : Int) (k : Nat) (h : ∀ j, j < k → (2 : Int) ^ j < n) : below2 n k = k := by
  induction k with
  | zero => rfl
  | succ k ih =>
    show below2 n k + (if (2 : Int) ^ k < n then 1 else 0) = _
    rw [ih (fun j hj => h j (by omega)), if_pos (h k (by omega))]

/-- The width is where the powers of two reach the number. -/
theorem below2_spec (n : Int) (m : Nat) : (∀ j, j < below2 n m → (2 : Int) ^ j < n) ∧ (below2 n m = m ∨ ¬ (2 : Int) ^ (below2 n m) < n) := by
  induction m with
  | zero => exact ⟨fun j hj => by simp [below2] at hj, .inl rfl⟩
  | succ m ih =>
    by_cases hp : (2 : Int) ^ m < n
    · have hall : ∀ j, j < m + 1 → (2 : Int) ^ j < n := by
        intro j hj
        have := pow_mono2 (i := j) (j := m) (by omega)
        omega
      rw [below2_up n (m + 1) hall]
      exact ⟨hall, .inl rfl⟩
    · have e : below2 n (m + 1) = below2 n m := by
        show below2 n m + (if (2 : Int) ^ m < n then 1 else 0) = _
        rw [if_neg hp]; rfl
      rw [e]
      refine ⟨ih.1, .inr ?_⟩
      rcases ih.2 with h | h
      · rw [h]; exact hp
      · exact h

theorem bitsLeast_walk (n : Int) (w : World) (_ : (Lit.int .i64 n).wf = true) :
    Calls Try.prog 7 #[.int .i64 n] w fun e w' => e = .returned (.bool true) ∧ Below w.heap.size w w' := by
  by_cases hb : n < 1 ∨ 4611686018427387903 < n
  · rcases hb with hb | hb <;>
    · go_enter Try.func7, Try.ntmps7
      go_wp2_with (first | (go_at_call 10; refine (width_bad _ _ (by omega)).mono ?_; rintro e w' ⟨rfl, rfl⟩) | (go_at_call 15; refine (bitsOf_any _).mono ?_; rintro e w' ⟨rfl, hbel⟩))
      go_ret
      exact ⟨rfl, hbel⟩
  · have h1 : 1 ≤ n := by omega
    have h2 : n ≤ 4611686018427387903 := by omega
    clear hb
    have hs := below2_spec n 62
    have hle := below2_le n 62
    obtain ⟨m, hm⟩ : ∃ m, below2 n 62 = m := ⟨_, rfl⟩
    rw [hm] at hs hle
    have HW : ∀ w : World, Calls Try.prog 10 #[.int .i64 n] w fun e w' => e = .returned (.tuple #[.int .i64 m, .int .i64 0]) ∧ w = w' := by
      intro w; rw [← hm]; exact width_good n w h1 h2
    clear hm
    have hput : n - 1 < wrap64 (2 ^ m) := by
      rw [wrap_pow_le m hle, pow_cast]
      rcases hs.2 with h | h
      · subst h
        have : (2 : Int) ^ 62 = 4611686018427387904 := by decide
        omega
      · omega
    have HW := Lib.hid HW
    have HP := Lib.hid hput
    have hlo := hs.1
    clear hs hput
    by_cases h0 : m = 0
    · subst h0
      clear hlo
      have hq : n - 1 < wrap64 (2 ^ (((0 : Nat) : Int)).toNat) := HP.out
      have HQ := Lib.hid hq
      clear hq
      go_enter Try.func7, Try.ntmps7
      go_wp2_with fail
      refine (HW.out _).mono ?_
      rintro e w' ⟨rfl, rfl⟩
      go_wp2_with fail
      refine (put_goodI _ _ _ (by omega) (by omega) (by omega) HQ.out).mono ?_
      rintro e w1 ⟨A, c, rfl, hrd, hb1⟩
      go_wp2_with fail
      refine (put_bad _ _ _ (.inl (by omega))).mono ?_
      rintro e w2 ⟨rfl, rfl⟩
      go_wp2_with fail
      refine (bitsOf_any _).mono ?_
      rintro e w3 ⟨rfl, hb3⟩
      go_wp2_with fail
      go_ret
      exact ⟨rfl, hb1.trans (hb3.mono hb1.size)⟩
    · have hp1 : wrap64 (2 ^ ((m : Int) - 1).toNat) ≤ n - 1 := by
        rw [show ((m : Int) - 1).toNat = m - 1 by omega, wrap_pow_le (m - 1) (by omega), pow_cast]
        have := hlo (m - 1) (by omega)
        omega
      have HQ := Lib.hid hp1
      have hm1 : 1 ≤ m := by omega
      clear hp1 hlo h0
      go_enter Try.func7, Try.ntmps7
      go_wp2_with fail
      refine (HW.out _).mono ?_
      rintro e w' ⟨rfl, rfl⟩
      go_wp2_with fail
      refine (put_goodI _ _ _ (by omega) (by omega) (by omega) HP.out).mono ?_
      rintro e w1 ⟨A, c, rfl, hrd, hb1⟩
      go_wp2_with fail
      refine (put_bad _ _ _ (.inr (.inr ⟨by omega, by omega, .inr ⟨by omega, HQ.out⟩⟩))).mono ?_
      rintro e w2 ⟨rfl, rfl⟩
      go_wp2_with fail
      refine (bitsOf_any _).mono ?_
      rintro e w3 ⟨rfl, hb3⟩
      go_wp2_with fail
      go_ret
      exact ⟨rfl, hb1.trans (hb3.mono hb1.size)⟩

namespace bitsLeast
set_option linter.unusedVariables false
theorem own : ownKnob Try.prog.godebug = none := by kernel_rfl
theorem laidOut : laidOutB Try.prog = true := by kernel_rfl
set_option maxRecDepth 100000 in
theorem lifted (os : Os) (started : os.Started) (H : Type) (enc : TypeId × Value → H) :
    ReturnsInHanded {} Try.checked os 7 .any (Rows.bitsLeastSpec.pre6 enc Try.prog Try.f7 Rows.bitsLeastRow.domain false) (Rows.bitsLeastSpec.post enc Try.prog Try.f7 false true false false) := by
  refine returnsInHanded_of_change (C := Try.checked) own started (by kernel_rfl) Try.func7
    (ChangeSpec.witness6 (enc := enc) (C := Try.checked) false ⟨#[], #[.int .i64 0], []⟩ 8 (by kernel_rfl) (by kernel_rfl) (by kernel_rfl) (by kernel_rfl)) ?_
  intro W base args ds gs before hval0 hW hcnd hsz
  have hval : ∀ (j : Nat) t v, Try.f7.params[j]? = some t → args[j]? = some v → Value.okWide Try.prog W .any base t v := hval0
  have hW' := hW
  obtain ⟨p, q, hA0, hV, rfl, hfz, hnd⟩ := hW
  have hA : DataW.TrodAll enc Try.prog W 0 (fun _ => true) true Try.f7.params.toList args.toList ds p := hA0
  rw [Try.params7] at hA hval
  obtain ⟨v0, vs0, d0, ds0, p0, q0, hargs, rfl, rfl, h0, r0⟩ := trodAll_cons hA
  obtain ⟨rfl, rfl, rfl⟩ := trodAll_nil r0
  obtain rfl : args = #[v0] := by cases args; simp_all
  obtain ⟨rfl, rfl⟩ := trodVars_none hV
  obtain ⟨a0, rfl, rfl, rfl, w0⟩ := open_int Try.underlying3 (hval 0 3 v0 rfl rfl) h0
  clear hA0 hval0
  refine (bitsLeast_walk a0 W w0).mono fun e W' ⟨he, bel⟩ => ?_
  subst he
  exact ⟨_, rfl, _, _, _, [], _, [], hW', trodAll_mk1 (shut_bool Try.underlying4 _), (trodAll_cons_mk (shut_int Try.underlying3 w0) trodAll_mk0), rfl, bel.frame _, fun h => by cases h⟩
theorem over : Rows.bitsLeastRow.holds Try.pinned (OpenSpec.ofChange Rows.bitsLeastSpec) :=
  OpenClaim.holds_of_wide 7 Try.f7 rfl rfl rfl rfl rfl rfl rfl ⟨rfl, rfl, rfl, rfl, rfl⟩ rfl rfl rfl rfl rfl (by kernel_rfl) Try.func7 (by kernel_rfl)
    (of_decide_eq_true (by kernel_rfl)) (by unfold Func.isWrapper; first | (rw [if_pos (by decide +kernel)]; kernel_rfl) | (rw [if_neg (by decide +kernel)]; exact ⟨rfl, rfl⟩))
    (fun os started H enc _ => lifted os started H enc)
/-- THE STATEMENT. -/
theorem proved : Rows.BitsLeastSaid := over
end bitsLeast
#print axioms bitsLeast.proved
end Go.Proofs.Ytffhbjhpeiaebaa
