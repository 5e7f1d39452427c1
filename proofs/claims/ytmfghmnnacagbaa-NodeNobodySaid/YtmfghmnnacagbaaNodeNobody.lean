/- For any number and any bools: a store that nobody made refuses every call, and nothing fails: the law returns true. No condition. -/
import Derived.Test.YtmfghmnnacagbaaNNob
namespace Go.Proofs.Ytmfghmnnacagbaa
open Go.ChangeShapes Go.WideShapes Go.ChangeAt Go.RowKit

def Nob3 (gf gl : Nat) (w : World) : Prop :=
  w.cell? ⟨gl, 0, none⟩ = some (.pointer none) ∧ w.cell? ⟨gl, 1, none⟩ = some (.pointer (some ⟨gf, 0, none⟩)) ∧ w.cell? ⟨gf, 0, none⟩ = some (.pointer none)

set_option maxHeartbeats 8000000 in
set_option maxRecDepth 100000 in
theorem nodeNobody_walk (k : Int) (a1 : Option Addr) (z1 : List Bool) (cap1 : Nat) (W : World) (_ : (Lit.int .i64 k).wf = true) (_ : z1.length ≤ 9223372036854775807) (_ : Rd W a1 (z1.map Value.bool)) :
    Calls Try.prog 7 #[.int .i64 k, .slice a1 z1.length cap1] W fun e w' => e = .returned (.bool true) ∧ Below W.heap.size W w' := by
  obtain ⟨sl, hsl⟩ : ∃ sl, Value.slice a1 z1.length cap1 = sl := ⟨_, rfl⟩
  rw [hsl]
  clear hsl
  go_enter Try.func7, Try.ntmps7
  go_wp2_with fail
  obtain ⟨gf, hgf⟩ : ∃ gf, W.heap.size = gf := ⟨_, rfl⟩
  have hn : Nob3 gf (gf + 1) ((W.alloc (.cells #[.pointer none, .int .i64 0, .int .i64 0, .slice none 0 0, .pointer none, .int .i64 0, .int .i64 0, .int .i64 0, .int .i64 0] 59)).alloc (.cells #[.pointer none, .pointer (some ⟨W.heap.size, 0, none⟩)] 23)) := by
    rw [← hgf]; unfold Nob3; go_simp
  have hb : Below W.heap.size W ((W.alloc (.cells #[.pointer none, .int .i64 0, .int .i64 0, .slice none 0 0, .pointer none, .int .i64 0, .int .i64 0, .int .i64 0, .int .i64 0] 59)).alloc (.cells #[.pointer none, .pointer (some ⟨W.heap.size, 0, none⟩)] 23)) :=
    (((Below.refl _ _).alloc (Nat.le_refl _) _).alloc (by simp) _)
  rw [hgf] at hn ⊢
  obtain ⟨gl, hgl⟩ : ∃ gl, gf + 1 = gl := ⟨_, rfl⟩
  rw [hgl] at hn ⊢
  have hb := Lib.hid hb
  rw [hgf] at hb
  revert hn hb
  generalize ((W.alloc (.cells #[.pointer none, .int .i64 0, .int .i64 0, .slice none 0 0, .pointer none, .int .i64 0, .int .i64 0, .int .i64 0, .int .i64 0] 59)).alloc (.cells #[.pointer none, .pointer (some ⟨gf, 0, none⟩)] 23)) = w1
  intro hn hb
  have hgf := Lib.hid hgf
  clear hgl
  obtain ⟨s0, s1, s2⟩ := hn
  go_loop [6] (fun iv => ∃ i : Nat, i ≤ 2 ∧ iv = .int .i64 i) (fun iv => 2 - (intOf iv).toNat)
  case atStart => exact ⟨0, by omega, rfl⟩
  case round =>
    obtain ⟨i, hi, rfl⟩ := hrel
    match i, hi with
    | 0, _ =>
      have HNB : Hid (NBs w1 (.pointer none)) := .inl rfl
      go_wp2_with (first
          | (go_at_call 26; refine (mk_nbs HNB.out _ _ _).mono ?_; rintro e w' ⟨rfl, rfl⟩)
          | (go_at_call 27; refine (node_nbs HNB.out _).mono ?_; rintro e w' ⟨rfl, rfl⟩)
          | (go_at_call 20; refine (eval_nbs HNB.out _ _).mono ?_; rintro e w' ⟨rfl, rfl⟩)
          | (go_at_call 23; refine (size_nbs HNB.out _).mono ?_; rintro e w' ⟨rfl, rfl⟩)
          | (go_at_call 22; refine (pin_nbs HNB.out _).mono ?_; rintro e w' ⟨rfl, rfl⟩)
          | (go_at_call 25; refine (unpin_nbs HNB.out _).mono ?_; rintro e w' ⟨rfl, rfl⟩)
          | (go_at_call 24; refine (sweep_nbs HNB.out).mono ?_; rintro e w' ⟨rfl, rfl⟩)
          | (go_at_call 13; refine (len_nbs HNB.out).mono ?_; rintro e w' ⟨rfl, rfl⟩)
          | (go_at_call 15; refine (made_nbs HNB.out).mono ?_; rintro e w' ⟨rfl, rfl⟩)
          | (go_at_call 16; refine (sweeps_nbs HNB.out).mono ?_; rintro e w' ⟨rfl, rfl⟩)
          | (go_at_call 17; refine (vars_nbs HNB.out).mono ?_; rintro e w' ⟨rfl, rfl⟩))
      go_round
      case rel => exact ⟨1, by omega, rfl⟩
      case measure => simp [intOf]
    | 1, _ =>
      have HNB : Hid (NBs w1 (.pointer (some ⟨gf, 0, none⟩))) := .inr ⟨gf, rfl, s2⟩
      go_wp2_with (first
          | (go_at_call 26; refine (mk_nbs HNB.out _ _ _).mono ?_; rintro e w' ⟨rfl, rfl⟩)
          | (go_at_call 27; refine (node_nbs HNB.out _).mono ?_; rintro e w' ⟨rfl, rfl⟩)
          | (go_at_call 20; refine (eval_nbs HNB.out _ _).mono ?_; rintro e w' ⟨rfl, rfl⟩)
          | (go_at_call 23; refine (size_nbs HNB.out _).mono ?_; rintro e w' ⟨rfl, rfl⟩)
          | (go_at_call 22; refine (pin_nbs HNB.out _).mono ?_; rintro e w' ⟨rfl, rfl⟩)
          | (go_at_call 25; refine (unpin_nbs HNB.out _).mono ?_; rintro e w' ⟨rfl, rfl⟩)
          | (go_at_call 24; refine (sweep_nbs HNB.out).mono ?_; rintro e w' ⟨rfl, rfl⟩)
          | (go_at_call 13; refine (len_nbs HNB.out).mono ?_; rintro e w' ⟨rfl, rfl⟩)
          | (go_at_call 15; refine (made_nbs HNB.out).mono ?_; rintro e w' ⟨rfl, rfl⟩)
          | (go_at_call 16; refine (sweeps_nbs HNB.out).mono ?_; rintro e w' ⟨rfl, rfl⟩)
          | (go_at_call 17; refine (vars_nbs HNB.out).mono ?_; rintro e w' ⟨rfl, rfl⟩))
      go_round
      case rel => exact ⟨2, by omega, rfl⟩
      case measure => simp [intOf]
    | 2, _ =>
      go_wp2_with fail
      refine (awake3 _).mono ?_
      rintro e w2 ⟨rfl, hb2⟩
      go_wp2_with fail
      go_ret
      exact ⟨rfl, by have := hb.out; rw [← hgf.out] at this; exact this.trans (hb2.mono this.size)⟩
namespace nodeNobody
set_option linter.unusedVariables false
theorem own : ownKnob Try.prog.godebug = none := by kernel_rfl
theorem laidOut : laidOutB Try.prog = true := by kernel_rfl
set_option maxRecDepth 100000 in
theorem lifted (os : Os) (started : os.Started) (H : Type) (enc : TypeId × Value → H) :
    ReturnsInHanded {} Try.checked os 7 .any (Rows.nodeNobodySpec.pre6 enc Try.prog Try.f7 Rows.nodeNobodyRow.domain false) (Rows.nodeNobodySpec.post enc Try.prog Try.f7 false true false false) := by
  refine returnsInHanded_of_change (C := Try.checked) own started (by kernel_rfl) Try.func7
    (ChangeSpec.witness6 (enc := enc) (C := Try.checked) false ⟨#[], #[.int .i64 0, .slice none 0 0], []⟩ 8 (by kernel_rfl) (by kernel_rfl) (by kernel_rfl) (by kernel_rfl)) ?_
  intro W base args ds gs before hval0 hW hcnd hsz
  have hval : ∀ (j : Nat) t v, Try.f7.params[j]? = some t → args[j]? = some v → Value.okWide Try.prog W .any base t v := hval0
  have hW' := hW
  obtain ⟨p, q, hA0, hV, rfl, hfz, hnd⟩ := hW
  have hA : DataW.TrodAll enc Try.prog W 0 (fun _ => true) true Try.f7.params.toList args.toList ds p := hA0
  rw [Try.params7] at hA hval
  obtain ⟨v0, vs0, d0, ds0, p0, q0, hargs, rfl, rfl, h0, r0⟩ := trodAll_cons hA
  obtain ⟨v1, vs1, d1, ds1, p1, q1, rfl, rfl, rfl, h1, r1⟩ := trodAll_cons r0
  obtain ⟨rfl, rfl, rfl⟩ := trodAll_nil r1
  obtain rfl : args = #[v0, v1] := by cases args; simp_all
  obtain ⟨rfl, rfl⟩ := trodVars_none hV
  obtain ⟨a0, rfl, rfl, rfl, w0⟩ := open_int Try.underlying3 (hval 0 3 v0 rfl rfl) h0
  have k1 := h1
  have lt1 : ∀ x ∈ p1, x.block < W.heap.size := by obtain ⟨m, hm⟩ := k1; exact DataW.trod_lt m _ _ _ hm
  obtain ⟨a1, len1, cap1, rfl⟩ := okWide_slice Try.underlying35 (hval 1 35 v1 rfl rfl)
  obtain ⟨z1, rfl, m1, w1⟩ := rd_bools Try.underlying35 Try.underlying4 (by kernel_rfl) h1
  clear hA0 hval0
  refine (nodeNobody_walk a0 a1 z1 cap1 W w0 m1 w1).mono fun e W' ⟨he, bel⟩ => ?_
  subst he
  exact ⟨_, rfl, _, _, _, [], _, [], hW', trodAll_mk1 (shut_bool Try.underlying4 _), (trodAll_cons_mk (shut_int Try.underlying3 w0) (trodAll_cons_mk (Below.trod laidOut (by kernel_rfl) (of_decide_eq_true (by kernel_rfl)) k1 bel lt1) trodAll_mk0)), rfl, bel.frame _, fun h => by cases h⟩
theorem over : Rows.nodeNobodyRow.holds Try.pinned (OpenSpec.ofChange Rows.nodeNobodySpec) :=
  OpenClaim.holds_of_wide 7 Try.f7 rfl rfl rfl rfl rfl rfl rfl ⟨rfl, rfl, rfl, rfl, rfl⟩ rfl rfl rfl rfl rfl (by kernel_rfl) Try.func7 (by kernel_rfl)
    (of_decide_eq_true (by kernel_rfl)) (by unfold Func.isWrapper; first | (rw [if_pos (by decide +kernel)]; kernel_rfl) | (rw [if_neg (by decide +kernel)]; exact ⟨rfl, rfl⟩))
    (fun os started H enc _ => lifted os started H enc)
/-- THE STATEMENT. -/
theorem proved : Rows.NodeNobodySaid := over
end nodeNobody
#print axioms nodeNobody.proved
end Go.Proofs.Ytmfghmnnacagbaa
