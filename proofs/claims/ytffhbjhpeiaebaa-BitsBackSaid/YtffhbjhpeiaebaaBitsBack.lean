/- For any number, any width and any list of bools: what Put gives, Get gives back, and what Get gives of at most 62 bits, Put gives back: the law returns true. No condition. -/
import Derived.Test.YtffhbjhpeiaebaaBitsPuts
namespace Go.Proofs.Ytffhbjhpeiaebaa
open Go.ChangeShapes Go.WideShapes Go.ChangeAt Go.RowKit

/-- What Get gives of at most 62 bits, Put puts back. -/
theorem put_back (l : List Bool) (w : World) (hm : l.length ≤ 62) :
    Calls Try.prog 12 #[.int .i64 (getN l), .int .i64 l.length] w (PutOut l w) := by
  have h1 := getN_lt l
  have h := put_good (getN l) l.length w hm (by rw [wrap_pow_le l.length hm]; omega)
  rw [putN_getN] at h
  exact h

section
variable (n v : Int) (A : Option Addr) (l : List Bool) (c : Nat) (w : World)

/-- The number is refused; the list is too long. -/
theorem back_bb (hp : ∀ w, Calls Try.prog 12 #[.int .i64 n, .int .i64 v] w fun e w' => e = .returned (.tuple #[.slice none 0 0, .int .i64 1]) ∧ w = w')
    (hm : l.length ≤ 9223372036854775807) (hb : 62 < l.length) :
    Calls Try.prog 6 #[.int .i64 n, .int .i64 v, .slice A l.length c] w fun e w' => e = .returned (.bool true) ∧ Below w.heap.size w w' := by
  have H1 := Lib.hid hp
  have H2 := Lib.hid (fun w => get_bad A l.length c w hb hm)
  obtain ⟨k, hk⟩ : ∃ k, l.length = k := ⟨_, rfl⟩
  rw [hk] at H2 hb hm ⊢
  clear hp hk
  go_enter Try.func6, Try.ntmps6
  go_wp2_with fail
  refine (H1.out _).mono ?_
  rintro e w' ⟨rfl, rfl⟩
  go_wp2_with fail
  refine (H2.out _).mono ?_
  rintro e w' ⟨rfl, rfl⟩
  go_wp2_with fail
  refine (bitsOf_any _).mono ?_
  rintro e w' ⟨rfl, hbel⟩
  go_wp2_with fail
  go_ret
  exact ⟨rfl, hbel⟩

/-- The number is refused; the list is got. -/
theorem back_bg (hp : ∀ w, Calls Try.prog 12 #[.int .i64 n, .int .i64 v] w fun e w' => e = .returned (.tuple #[.slice none 0 0, .int .i64 1]) ∧ w = w')
    (hm : l.length ≤ 62) (hr : Rd w A (l.map Value.bool)) :
    Calls Try.prog 6 #[.int .i64 n, .int .i64 v, .slice A l.length c] w fun e w' => e = .returned (.bool true) ∧ Below w.heap.size w w' := by
  have H1 := Lib.hid hp
  have H2 := Lib.hid (get_good A l c w hm hr)
  have H3 := Lib.hid (fun w => put_back l w hm)
  clear hp
  go_enter Try.func6, Try.ntmps6
  go_wp2_with fail
  refine (H1.out _).mono ?_
  rintro e w' ⟨rfl, rfl⟩
  go_wp2_with fail
  refine H2.out.mono ?_
  rintro e w' ⟨rfl, rfl⟩
  go_wp2_with fail
  refine (H3.out _).mono ?_
  rintro e w1 ⟨B, d, rfl, hr1, hb1⟩
  go_wp2_with fail
  refine (same_self B A l d c _ (by omega) hr1 (hr.keep hb1)).mono ?_
  rintro e w2 ⟨rfl, q, rfl⟩
  go_wp2_with fail
  refine (bitsOf_any _).mono ?_
  rintro e w3 ⟨rfl, hb3⟩
  go_wp2_with fail
  go_ret
  exact ⟨rfl, (below_drewN hb1 q).trans (hb3.mono hb1.size)⟩

/-- The number is put and got back; the list is too long. -/
theorem back_gb (z : List Bool) (hz : z.length ≤ 62) (hzv : ((z.length : Int) != v) = false) (hzn : ((getN z : Nat) : Int) = n)
    (hp : Calls Try.prog 12 #[.int .i64 n, .int .i64 v] w (PutOut z w))
    (hm : l.length ≤ 9223372036854775807) (hb : 62 < l.length) :
    Calls Try.prog 6 #[.int .i64 n, .int .i64 v, .slice A l.length c] w fun e w' => e = .returned (.bool true) ∧ Below w.heap.size w w' := by
  have H1 := Lib.hid hp
  have H2 := Lib.hid (fun w => get_bad A l.length c w hb hm)
  have H4 := Lib.hid (fun A c w h => get_good A z c w hz h)
  rw [hzn] at H4
  have hnn : (n != n) = false := by simp
  obtain ⟨k, hk⟩ : ∃ k, l.length = k := ⟨_, rfl⟩
  rw [hk] at H2 hb hm ⊢
  clear hp hk hzn
  go_enter Try.func6, Try.ntmps6
  go_wp2_with fail
  refine H1.out.mono ?_
  rintro e w1 ⟨B, d, rfl, hr1, hb1⟩
  go_wp2_with fail
  refine (H4.out _ _ _ hr1).mono ?_
  rintro e w2 ⟨rfl, rfl⟩
  go_wp2_with fail
  refine (H2.out _).mono ?_
  rintro e w' ⟨rfl, rfl⟩
  go_wp2_with fail
  refine (bitsOf_any _).mono ?_
  rintro e w3 ⟨rfl, hb3⟩
  go_wp2_with fail
  go_ret
  exact ⟨rfl, hb1.trans (hb3.mono hb1.size)⟩

/-- The number is put and got back; so is the list. -/
theorem back_gg (z : List Bool) (hz : z.length ≤ 62) (hzv : ((z.length : Int) != v) = false) (hzn : ((getN z : Nat) : Int) = n)
    (hp : Calls Try.prog 12 #[.int .i64 n, .int .i64 v] w (PutOut z w))
    (hm : l.length ≤ 62) (hr : Rd w A (l.map Value.bool)) :
    Calls Try.prog 6 #[.int .i64 n, .int .i64 v, .slice A l.length c] w fun e w' => e = .returned (.bool true) ∧ Below w.heap.size w w' := by
  have H1 := Lib.hid hp
  have H2 := Lib.hid (fun w h => get_good A l c w hm h)
  have H3 := Lib.hid (fun w => put_back l w hm)
  have H4 := Lib.hid (fun A c w h => get_good A z c w hz h)
  rw [hzn] at H4
  have hnn : (n != n) = false := by simp
  clear hp hzn
  go_enter Try.func6, Try.ntmps6
  go_wp2_with fail
  refine H1.out.mono ?_
  rintro e w0 ⟨C, b, rfl, hr0, hb0⟩
  go_wp2_with fail
  refine (H4.out _ _ _ hr0).mono ?_
  rintro e w2 ⟨rfl, rfl⟩
  go_wp2_with fail
  refine (H2.out _ (hr.keep hb0)).mono ?_
  rintro e w' ⟨rfl, rfl⟩
  go_wp2_with fail
  refine (H3.out _).mono ?_
  rintro e w1 ⟨B, d, rfl, hr1, hb1⟩
  go_wp2_with fail
  refine (same_self B A l d c _ (by omega) hr1 ((hr.keep hb0).keep hb1)).mono ?_
  rintro e w2 ⟨rfl, q, rfl⟩
  go_wp2_with fail
  refine (bitsOf_any _).mono ?_
  rintro e w3 ⟨rfl, hb3⟩
  go_wp2_with fail
  go_ret
  have hs0 := hb0.size
  have hs1 := hb1.size
  exact ⟨rfl, (below_drewN (hb0.trans (hb1.mono hs0)) q).trans (hb3.mono (by show w.heap.size ≤ w1.heap.size; omega))⟩
end

theorem bitsBack_walk (n v : Int) (A : Option Addr) (l : List Bool) (c : Nat) (w : World) (_ : (Lit.int .i64 n).wf = true) (_ : (Lit.int .i64 v).wf = true) (hm : l.length ≤ 9223372036854775807) (hr : Rd w A (l.map Value.bool)) :
    Calls Try.prog 6 #[.int .i64 n, .int .i64 v, .slice A l.length c] w fun e w' => e = .returned (.bool true) ∧ Below w.heap.size w w' := by
  have bad : (∀ w, Calls Try.prog 12 #[.int .i64 n, .int .i64 v] w fun e w' => e = .returned (.tuple #[.slice none 0 0, .int .i64 1]) ∧ w = w') →
      Calls Try.prog 6 #[.int .i64 n, .int .i64 v, .slice A l.length c] w fun e w' => e = .returned (.bool true) ∧ Below w.heap.size w w' := by
    intro hp
    by_cases hb : 62 < l.length
    · exact back_bb n v A l c w hp hm hb
    · exact back_bg n v A l c w hp (by omega) hr
  by_cases hv : v < 0
  · exact bad (fun w => put_bad n v w (.inl hv))
  by_cases hv2 : 62 < v
  · exact bad (fun w => put_bad n v w (.inr (.inl hv2)))
  by_cases hn : n < 0
  · exact bad (fun w => put_bad n v w (.inr (.inr ⟨by omega, by omega, .inl hn⟩)))
  by_cases hb : wrap64 (2 ^ v.toNat) ≤ n
  · exact bad (fun w => put_bad n v w (.inr (.inr ⟨by omega, by omega, .inr ⟨by omega, hb⟩⟩)))
  · have hp := put_goodI n v w (by omega) (by omega) (by omega) (by omega)
    have hl := putN_length n.toNat v.toNat
    have hg : ((getN (putN n.toNat v.toNat) : Nat) : Int) = n := by
      rw [getN_putN v.toNat n.toNat (by rw [wrap_pow_le v.toNat (by omega)] at hb; omega)]; omega
    have hlv : (((putN n.toNat v.toNat).length : Int) != v) = false := by rw [hl, bne_eq_false_iff_eq]; omega
    by_cases hlong : 62 < l.length
    · exact back_gb n v A l c w _ (by omega) hlv hg hp hm hlong
    · exact back_gg n v A l c w _ (by omega) hlv hg hp (by omega) hr

namespace bitsBack
set_option linter.unusedVariables false
theorem own : ownKnob Try.prog.godebug = none := by kernel_rfl
theorem laidOut : laidOutB Try.prog = true := by kernel_rfl
set_option maxRecDepth 100000 in
theorem lifted (os : Os) (started : os.Started) (H : Type) (enc : TypeId × Value → H) :
    ReturnsInHanded {} Try.checked os 6 .any (Rows.bitsBackSpec.pre6 enc Try.prog Try.f6 Rows.bitsBackRow.domain false) (Rows.bitsBackSpec.post enc Try.prog Try.f6 false true false false) := by
  refine returnsInHanded_of_change (C := Try.checked) own started (by kernel_rfl) Try.func6
    (ChangeSpec.witness6 (enc := enc) (C := Try.checked) false ⟨#[], #[.int .i64 0, .int .i64 0, .slice none 0 0], []⟩ 8 (by kernel_rfl) (by kernel_rfl) (by kernel_rfl) (by kernel_rfl)) ?_
  intro W base args ds gs before hval0 hW hcnd hsz
  have hval : ∀ (j : Nat) t v, Try.f6.params[j]? = some t → args[j]? = some v → Value.okWide Try.prog W .any base t v := hval0
  have hW' := hW
  obtain ⟨p, q, hA0, hV, rfl, hfz, hnd⟩ := hW
  have hA : DataW.TrodAll enc Try.prog W 0 (fun _ => true) true Try.f6.params.toList args.toList ds p := hA0
  rw [Try.params6] at hA hval
  obtain ⟨v0, vs0, d0, ds0, p0, q0, hargs, rfl, rfl, h0, r0⟩ := trodAll_cons hA
  obtain ⟨v1, vs1, d1, ds1, p1, q1, rfl, rfl, rfl, h1, r1⟩ := trodAll_cons r0
  obtain ⟨v2, vs2, d2, ds2, p2, q2, rfl, rfl, rfl, h2, r2⟩ := trodAll_cons r1
  obtain ⟨rfl, rfl, rfl⟩ := trodAll_nil r2
  obtain rfl : args = #[v0, v1, v2] := by cases args; simp_all
  obtain ⟨rfl, rfl⟩ := trodVars_none hV
  obtain ⟨a0, rfl, rfl, rfl, w0⟩ := open_int Try.underlying3 (hval 0 3 v0 rfl rfl) h0
  obtain ⟨a1, rfl, rfl, rfl, w1⟩ := open_int Try.underlying3 (hval 1 3 v1 rfl rfl) h1
  have k2 := h2
  have lt2 : ∀ x ∈ p2, x.block < W.heap.size := by obtain ⟨m, hm⟩ := k2; exact DataW.trod_lt m _ _ _ hm
  obtain ⟨a2, len2, cap2, rfl⟩ := okWide_slice Try.underlying26 (hval 2 26 v2 rfl rfl)
  obtain ⟨z2, rfl, m2, w2⟩ := rd_bools Try.underlying26 Try.underlying4 (by kernel_rfl) h2
  clear hA0 hval0
  refine (bitsBack_walk a0 a1 a2 z2 cap2 W w0 w1 m2 w2).mono fun e W' ⟨he, bel⟩ => ?_
  subst he
  exact ⟨_, rfl, _, _, _, [], _, [], hW', trodAll_mk1 (shut_bool Try.underlying4 _), (trodAll_cons_mk (shut_int Try.underlying3 w0) (trodAll_cons_mk (shut_int Try.underlying3 w1) (trodAll_cons_mk (Below.trod laidOut (by kernel_rfl) (of_decide_eq_true (by kernel_rfl)) k2 bel lt2) trodAll_mk0))), rfl, bel.frame _, fun h => by cases h⟩
theorem over : Rows.bitsBackRow.holds Try.pinned (OpenSpec.ofChange Rows.bitsBackSpec) :=
  OpenClaim.holds_of_wide 6 Try.f6 rfl rfl rfl rfl rfl rfl rfl ⟨rfl, rfl, rfl, rfl, rfl⟩ rfl rfl rfl rfl rfl (by kernel_rfl) Try.func6 (by kernel_rfl)
    (of_decide_eq_true (by kernel_rfl)) (by unfold Func.isWrapper; first | (rw [if_pos (by decide +kernel)]; kernel_rfl) | (rw [if_neg (by decide +kernel)]; exact ⟨rfl, rfl⟩))
    (fun os started H enc _ => lifted os started H enc)
/-- THE STATEMENT. -/
theorem proved : Rows.BitsBackSaid := over
end bitsBack
#print axioms bitsBack.proved
end Go.Proofs.Ytffhbjhpeiaebaa
