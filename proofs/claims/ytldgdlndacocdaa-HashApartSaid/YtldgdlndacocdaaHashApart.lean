/- For any two keys and any two values: each key has what was put last, whatever is done with the other one: the law returns true. No condition. -/
import Derived.Test.YtldgdlndacocdaaHArgs
namespace Go.Proofs.Ytldgdlndacocdaa
open Go.ChangeShapes Go.WideShapes Go.ChangeAt Go.RowKit

def keys2V (a b : Key) : Value := .agg #[.int .i64 a.a, .int .i64 a.b, .int .i64 a.c, .int .i64 b.a, .int .i64 b.b, .int .i64 b.c]
theorem cells_keys2 : Try.prog.cellsOf 47 = 6 := by kernel_rfl
theorem cells_ints2 : Try.prog.cellsOf 48 = 2 := by kernel_rfl

section
variable {H : Type} {enc : TypeId × Value → H} {w : World} {base : Nat} {spare : Nat → Bool} {held : Bool}
theorem arg_keys2 {r : Reach} {b0 : Nat} {v : Value} {d : DataW H} {p : List MemPlace} (h : DataW.Trod enc Try.prog w base spare held 47 v d p) (hv : Value.okWide Try.prog w r b0 47 v) : ∃ a b : Key, v = keys2V a b := by
  obtain ⟨cs, rfl, _⟩ := okWide_array Try.underlying47 hv
  obtain ⟨fuel, hf⟩ := h
  simp only [Value.cells] at hf
  obtain ⟨xs, m, _, _, hl, hx, hi⟩ := DataW.trod_array Try.underlying47 hf
  rw [cells_keys2] at hl
  have h0 := hi 0 (by omega)
  have h1 := hi 1 (by omega)
  rw [cells_key, List.getElem?_eq_getElem (by omega)] at h0 h1
  obtain ⟨a, e0⟩ := trod_key h0
  obtain ⟨b, e1⟩ := trod_key h1
  obtain ⟨l⟩ := cs
  match l, hl with
  | [c0, c1, c2, c3, c4, c5], _ =>
    simp [keyC] at e0 e1
    refine ⟨a, b, ?_⟩
    obtain ⟨e00, e01, e02⟩ := e0
    obtain ⟨e10, e11, e12⟩ := e1
    rw [e00, e01, e02, e10, e11, e12]; rfl
theorem arg_ints2 {r : Reach} {b0 : Nat} {v : Value} {d : DataW H} {p : List MemPlace} (h : DataW.Trod enc Try.prog w base spare held 48 v d p) (hv : Value.okWide Try.prog w r b0 48 v) : ∃ a b : Int, v = .agg #[.int .i64 a, .int .i64 b] := by
  obtain ⟨cs, rfl, _⟩ := okWide_array Try.underlying48 hv
  obtain ⟨fuel, hf⟩ := h
  simp only [Value.cells] at hf
  obtain ⟨xs, m, _, _, hl, hx, hi⟩ := DataW.trod_array Try.underlying48 hf
  rw [cells_ints2] at hl
  have h0 := hi 0 (by omega)
  have h1 := hi 1 (by omega)
  rw [cells_int, List.getElem?_eq_getElem (by omega)] at h0 h1
  obtain ⟨a, e0, _⟩ := DataW.trod_int Try.underlying3 h0
  obtain ⟨b, e1, _⟩ := DataW.trod_int Try.underlying3 h1
  obtain ⟨l⟩ := cs
  match l, hl with
  | [c0, c1], _ =>
    simp at e0 e1
    exact ⟨a, b, by rw [e0, e1]⟩
end

def AP (B : Nat) (a b : Key) (x y : Int) (w : World) : Prop :=
  (w.cell? ⟨B, 0, none⟩ = some (.int .i64 a.a) ∧ w.cell? ⟨B, 1, none⟩ = some (.int .i64 a.b) ∧ w.cell? ⟨B, 2, none⟩ = some (.int .i64 a.c)) ∧
  (w.cell? ⟨B, 3, none⟩ = some (.int .i64 b.a) ∧ w.cell? ⟨B, 4, none⟩ = some (.int .i64 b.b) ∧ w.cell? ⟨B, 5, none⟩ = some (.int .i64 b.c)) ∧
  w.cell? ⟨B + 1, 0, none⟩ = some (.int .i64 x) ∧ w.cell? ⟨B + 1, 1, none⟩ = some (.int .i64 y)

theorem AP.keep {B : Nat} {a b : Key} {x y : Int} {w w' : World} (h : AP B a b x y w) (hb : Below (B + 2) w w') : AP B a b x y w' := by
  obtain ⟨⟨h0, h1, h2⟩, ⟨h3, h4, h5⟩, h6, h7⟩ := h
  have c : ∀ (g o : Nat) (v : Value), g < B + 2 → w.cell? ⟨g, o, none⟩ = some v → w'.cell? ⟨g, o, none⟩ = some v := fun g o v hg hv => (hb.cell (p := ⟨g, o, none⟩) hg).trans hv
  exact ⟨⟨c _ _ _ (by omega) h0, c _ _ _ (by omega) h1, c _ _ _ (by omega) h2⟩, ⟨c _ _ _ (by omega) h3, c _ _ _ (by omega) h4, c _ _ _ (by omega) h5⟩, c _ _ _ (by omega) h6, c _ _ _ (by omega) h7⟩

theorem apart_boxes (B : Nat) (a b : Key) (x y : Int) (W : World) (hB : W.heap.size = B) :
    AP B a b x y ((W.alloc (.cells #[.int .i64 a.a, .int .i64 a.b, .int .i64 a.c, .int .i64 b.a, .int .i64 b.b, .int .i64 b.c] 47)).alloc (.cells #[.int .i64 x, .int .i64 y] 48)) ∧
    Below B W ((W.alloc (.cells #[.int .i64 a.a, .int .i64 a.b, .int .i64 a.c, .int .i64 b.a, .int .i64 b.b, .int .i64 b.c] 47)).alloc (.cells #[.int .i64 x, .int .i64 y] 48)) ∧
    B + 2 ≤ ((W.alloc (.cells #[.int .i64 a.a, .int .i64 a.b, .int .i64 a.c, .int .i64 b.a, .int .i64 b.b, .int .i64 b.c] 47)).alloc (.cells #[.int .i64 x, .int .i64 y] 48)).heap.size := by
  subst hB
  refine ⟨?_, ((Below.refl _ _).alloc (Nat.le_refl _) _).alloc (by simp) _, by simp⟩
  unfold AP
  go_simp

set_option maxHeartbeats 2000000 in
theorem apart_same (a : Key) (x y : Int) (W : World) (B : Nat) (hB : W.heap.size = B) :
    Calls Try.prog 5 #[keys2V a a, .agg #[.int .i64 x, .int .i64 y]] W fun e w' => e = .returned (.bool true) ∧ Below W.heap.size W w' := by
  obtain ⟨hap, hbel, hsz⟩ := apart_boxes B a a x y W hB
  have he : ∀ w, (Op.equalIn 10000 29 (.agg #[.int .i64 a.a, .int .i64 a.b, .int .i64 a.c]) (.agg #[.int .i64 a.a, .int .i64 a.b, .int .i64 a.c])).run Try.prog w = .ok true w := fun w => by rw [eqKey, decide_eq_true rfl]
  have H1 := Lib.hid hap
  have H2 := Lib.hid hbel
  have H3 := Lib.hid hsz
  have HB := Lib.hid hB
  clear hap hbel hsz
  unfold keys2V
  go_enter Try.func5, Try.ntmps5
  go_wp2_with fail
  have hap := H1.out
  have hbel := H2.out
  have hsz := H3.out
  revert hap hbel hsz
  generalize (W.alloc (.cells #[.int .i64 a.a, .int .i64 a.b, .int .i64 a.c, .int .i64 a.a, .int .i64 a.b, .int .i64 a.c] 47)).alloc (.cells #[.int .i64 x, .int .i64 y] 48) = w0
  intro hap hbel hsz
  clear hB H1 H2 H3
  refine (new_tab _).mono ?_
  rintro e w1 ⟨t, b1, rfl, h1, hb1, ht, hb⟩
  have hb1 := hb1.mono hsz
  have ht := Nat.le_trans hsz ht
  have hb := Nat.le_trans hsz hb
  have s1 := Nat.le_trans hsz hb1.size
  obtain ⟨⟨c0, c1, c2⟩, ⟨c3, c4, c5⟩, c6, c7⟩ := hap.keep hb1
  go_wp2_with fail
  refine (put_new h1 a x rfl (by omega)).mono ?_
  rintro e w2 hp
  obtain ⟨rfl, b2, h2, hB2, hb2⟩ := hp.below hb1 ht hb s1
  clear hp c0 c1 c2 c3 c4 c5 c6 c7 s1
  have s2 := Nat.le_trans hsz hb2.size
  obtain ⟨⟨c0, c1, c2⟩, ⟨c3, c4, c5⟩, c6, c7⟩ := hap.keep hb2
  go_wp2_with fail
  refine (put_old h2 a x y (by simp [fset])).mono ?_
  rintro e w3 hp
  obtain ⟨rfl, b3, h3, hB3, hb3⟩ := hp.below hb2 ht hB2 s2
  clear hp c0 c1 c2 c3 c4 c5 c6 c7 s2
  have s3 := Nat.le_trans hsz hb3.size
  obtain ⟨⟨c0, c1, c2⟩, ⟨c3, c4, c5⟩, c6, c7⟩ := hap.keep hb3
  go_wp2_with fail
  refine (get_some h3 a y (by simp [fset])).mono ?_
  rintro e w4 ⟨rfl, hb4⟩
  have h4 := h3.keep hb4
  have hb4 := hb3.trans (hb4.mono s3)
  clear c0 c1 c2 c3 c4 c5 c6 c7
  obtain ⟨⟨c0, c1, c2⟩, ⟨c3, c4, c5⟩, c6, c7⟩ := hap.keep hb4
  go_wp2_with fail
  refine (get_some h4 a y (by simp [fset])).mono ?_
  rintro e w5 ⟨rfl, hb5⟩
  have h5 := h4.keep hb5
  have hb5 := hb4.trans (hb5.mono (Nat.le_trans hsz hb4.size))
  clear c0 c1 c2 c3 c4 c5 c6 c7
  obtain ⟨⟨c0, c1, c2⟩, ⟨c3, c4, c5⟩, c6, c7⟩ := hap.keep hb5
  go_wp2_with fail
  refine (len_any h5).mono ?_
  rintro e w6 ⟨rfl, rfl⟩
  go_wp2_with fail
  refine (awake_any _).mono ?_
  rintro e w6 ⟨rfl, hb6⟩
  go_wp2_with fail
  go_ret
  have hb6 := hb5.trans (hb6.mono (Nat.le_trans hsz hb5.size))
  exact ⟨rfl, by rw [HB.out]; exact hbel.trans (hb6.mono (by omega))⟩

set_option maxHeartbeats 2000000 in
theorem apart_other (a b : Key) (hab : a ≠ b) (x y : Int) (W : World) (B : Nat) (hB : W.heap.size = B) :
    Calls Try.prog 5 #[keys2V a b, .agg #[.int .i64 x, .int .i64 y]] W fun e w' => e = .returned (.bool true) ∧ Below W.heap.size W w' := by
  obtain ⟨hap, hbel, hsz⟩ := apart_boxes B a b x y W hB
  have he : ∀ w, (Op.equalIn 10000 29 (.agg #[.int .i64 a.a, .int .i64 a.b, .int .i64 a.c]) (.agg #[.int .i64 b.a, .int .i64 b.b, .int .i64 b.c])).run Try.prog w = .ok false w := fun w => by rw [eqKey, decide_eq_false hab]
  have H1 := Lib.hid hap
  have H2 := Lib.hid hbel
  have H3 := Lib.hid hsz
  have HB := Lib.hid hB
  have HA := Lib.hid hab
  clear hap hbel hsz hab
  unfold keys2V
  go_enter Try.func5, Try.ntmps5
  go_wp2_with fail
  have hap := H1.out
  have hbel := H2.out
  have hsz := H3.out
  revert hap hbel hsz
  generalize (W.alloc (.cells #[.int .i64 a.a, .int .i64 a.b, .int .i64 a.c, .int .i64 b.a, .int .i64 b.b, .int .i64 b.c] 47)).alloc (.cells #[.int .i64 x, .int .i64 y] 48) = w0
  intro hap hbel hsz
  clear hB H1 H2 H3
  refine (new_tab _).mono ?_
  rintro e w1 ⟨t, b1, rfl, h1, hb1, ht, hb⟩
  have hb1 := hb1.mono hsz
  have ht := Nat.le_trans hsz ht
  have hb := Nat.le_trans hsz hb
  have s1 := Nat.le_trans hsz hb1.size
  obtain ⟨⟨c0, c1, c2⟩, ⟨c3, c4, c5⟩, c6, c7⟩ := hap.keep hb1
  go_wp2_with fail
  refine (put_new h1 a x rfl (by omega)).mono ?_
  rintro e w2 hp
  obtain ⟨rfl, b2, h2, hB2, hb2⟩ := hp.below hb1 ht hb s1
  clear hp c0 c1 c2 c3 c4 c5 c6 c7 s1
  have s2 := Nat.le_trans hsz hb2.size
  obtain ⟨⟨c0, c1, c2⟩, ⟨c3, c4, c5⟩, c6, c7⟩ := hap.keep hb2
  go_wp2_with fail
  refine (put_new h2 b y (by unfold fset; rw [if_neg (fun e => HA.out e.symm)]) (by omega)).mono ?_
  rintro e w3 hp
  obtain ⟨rfl, b3, h3, hB3, hb3⟩ := hp.below hb2 ht hB2 s2
  clear hp c0 c1 c2 c3 c4 c5 c6 c7 s2
  have s3 := Nat.le_trans hsz hb3.size
  obtain ⟨⟨c0, c1, c2⟩, ⟨c3, c4, c5⟩, c6, c7⟩ := hap.keep hb3
  go_wp2_with fail
  refine (get_some h3 a x (by unfold fset; rw [if_neg HA.out, if_pos rfl])).mono ?_
  rintro e w4 ⟨rfl, hb4⟩
  have h4 := h3.keep hb4
  have hb4 := hb3.trans (hb4.mono s3)
  clear c0 c1 c2 c3 c4 c5 c6 c7
  obtain ⟨⟨c0, c1, c2⟩, ⟨c3, c4, c5⟩, c6, c7⟩ := hap.keep hb4
  go_wp2_with fail
  refine (get_some h4 b y (by unfold fset; rw [if_pos rfl])).mono ?_
  rintro e w5 ⟨rfl, hb5⟩
  have h5 := h4.keep hb5
  have hb5 := hb4.trans (hb5.mono (Nat.le_trans hsz hb4.size))
  clear c0 c1 c2 c3 c4 c5 c6 c7
  obtain ⟨⟨c0, c1, c2⟩, ⟨c3, c4, c5⟩, c6, c7⟩ := hap.keep hb5
  go_wp2_with fail
  refine (len_any h5).mono ?_
  rintro e w6 ⟨rfl, rfl⟩
  go_wp2_with fail
  refine (drop_some h5 b y (by unfold fset; rw [if_pos rfl])).mono ?_
  rintro e w6 ⟨rfl, h6, hm6⟩
  have hb6 := Mut.to_below hb5 hm6 ht hB3 (Nat.le_trans hsz hb5.size)
  have s6 := Nat.le_trans hsz hb6.size
  clear c0 c1 c2 c3 c4 c5 c6 c7
  obtain ⟨⟨c0, c1, c2⟩, ⟨c3, c4, c5⟩, c6, c7⟩ := hap.keep hb6
  go_wp2_with fail
  refine (drop_none h6 b (by unfold fset; rw [if_pos rfl])).mono ?_
  rintro e w7 ⟨rfl, hb7⟩
  have h7 := h6.keep hb7
  have hb7 := hb6.trans (hb7.mono s6)
  clear c0 c1 c2 c3 c4 c5 c6 c7
  obtain ⟨⟨c0, c1, c2⟩, ⟨c3, c4, c5⟩, c6, c7⟩ := hap.keep hb7
  go_wp2_with fail
  refine (get_some h7 a x (by unfold fset; rw [if_neg HA.out, if_neg HA.out, if_pos rfl])).mono ?_
  rintro e w8 ⟨rfl, hb8⟩
  have h8 := h7.keep hb8
  have hb8 := hb7.trans (hb8.mono (Nat.le_trans hsz hb7.size))
  clear c0 c1 c2 c3 c4 c5 c6 c7
  obtain ⟨⟨c0, c1, c2⟩, ⟨c3, c4, c5⟩, c6, c7⟩ := hap.keep hb8
  go_wp2_with fail
  refine (get_none h8 b (by unfold fset; rw [if_pos rfl])).mono ?_
  rintro e w9 ⟨rfl, hb9⟩
  have h9 := h8.keep hb9
  have hb9 := hb8.trans (hb9.mono (Nat.le_trans hsz hb8.size))
  clear c0 c1 c2 c3 c4 c5 c6 c7
  obtain ⟨⟨c0, c1, c2⟩, ⟨c3, c4, c5⟩, c6, c7⟩ := hap.keep hb9
  go_wp2_with fail
  refine (len_any h9).mono ?_
  rintro e w10 ⟨rfl, rfl⟩
  go_wp2_with fail
  refine (awake_any _).mono ?_
  rintro e w10 ⟨rfl, hb10⟩
  go_wp2_with fail
  go_ret
  have hb10 := hb9.trans (hb10.mono (Nat.le_trans hsz hb9.size))
  exact ⟨rfl, by rw [HB.out]; exact hbel.trans (hb10.mono (by omega))⟩

theorem hashApart_walk (v0 v1 : Value) (W : World) (h0 : ∃ a b : Key, v0 = keys2V a b) (h1 : ∃ a b : Int, v1 = .agg #[.int .i64 a, .int .i64 b]) :
    Calls Try.prog 5 #[v0, v1] W fun e w' => e = .returned (.bool true) ∧ Below W.heap.size W w' := by
  obtain ⟨a, b, rfl⟩ := h0
  obtain ⟨x, y, rfl⟩ := h1
  by_cases h : a = b
  · subst h; exact apart_same a x y W _ rfl
  · exact apart_other a b h x y W _ rfl

namespace hashApart
set_option linter.unusedVariables false
theorem own : ownKnob Try.prog.godebug = none := by kernel_rfl
theorem laidOut : laidOutB Try.prog = true := by kernel_rfl
set_option maxRecDepth 100000 in
theorem lifted (os : Os) (started : os.Started) (H : Type) (enc : TypeId × Value → H) :
    ReturnsInHanded {} Try.checked os 5 .any (Rows.hashApartSpec.pre6 enc Try.prog Try.f5 Rows.hashApartRow.domain false) (Rows.hashApartSpec.post enc Try.prog Try.f5 false true false false) := by
  refine returnsInHanded_of_change (C := Try.checked) own started (by kernel_rfl) Try.func5
    (ChangeSpec.witness6 (enc := enc) (C := Try.checked) false ⟨#[], #[.agg #[.int .i64 0, .int .i64 0, .int .i64 0, .int .i64 0, .int .i64 0, .int .i64 0], .agg #[.int .i64 0, .int .i64 0]], []⟩ 8 (by kernel_rfl) (by kernel_rfl) (by kernel_rfl) (by kernel_rfl)) ?_
  intro W base args ds gs before hval0 hW hcnd hsz
  have hval : ∀ (j : Nat) t v, Try.f5.params[j]? = some t → args[j]? = some v → Value.okWide Try.prog W .any base t v := hval0
  have hW' := hW
  obtain ⟨p, q, hA0, hV, rfl, hfz, hnd⟩ := hW
  have hA : DataW.TrodAll enc Try.prog W 0 (fun _ => true) true Try.f5.params.toList args.toList ds p := hA0
  rw [Try.params5] at hA hval
  obtain ⟨v0, vs0, d0, ds0, p0, q0, hargs, rfl, rfl, h0, r0⟩ := trodAll_cons hA
  obtain ⟨v1, vs1, d1, ds1, p1, q1, rfl, rfl, rfl, h1, r1⟩ := trodAll_cons r0
  obtain ⟨rfl, rfl, rfl⟩ := trodAll_nil r1
  obtain rfl : args = #[v0, v1] := by cases args; simp_all
  obtain ⟨rfl, rfl⟩ := trodVars_none hV
  have k0 := h0
  have lt0 : ∀ x ∈ p0, x.block < W.heap.size := by obtain ⟨m, hm⟩ := k0; exact DataW.trod_lt m _ _ _ hm
  have k1 := h1
  have lt1 : ∀ x ∈ p1, x.block < W.heap.size := by obtain ⟨m, hm⟩ := k1; exact DataW.trod_lt m _ _ _ hm
  clear hA0 hval0
  refine (hashApart_walk v0 v1 W (arg_keys2 h0 (hval 0 47 v0 rfl rfl)) (arg_ints2 h1 (hval 1 48 v1 rfl rfl))).mono fun e W' ⟨he, bel⟩ => ?_
  subst he
  exact ⟨_, rfl, _, _, _, [], _, [], hW', trodAll_mk1 (shut_bool Try.underlying4 _), (trodAll_cons_mk (Below.trod laidOut (by kernel_rfl) (of_decide_eq_true (by kernel_rfl)) k0 bel lt0) (trodAll_cons_mk (Below.trod laidOut (by kernel_rfl) (of_decide_eq_true (by kernel_rfl)) k1 bel lt1) trodAll_mk0)), rfl, bel.frame _, fun h => by cases h⟩
theorem over : Rows.hashApartRow.holds Try.pinned (OpenSpec.ofChange Rows.hashApartSpec) :=
  OpenClaim.holds_of_wide 5 Try.f5 rfl rfl rfl rfl rfl rfl rfl ⟨rfl, rfl, rfl, rfl, rfl⟩ rfl rfl rfl rfl rfl (by kernel_rfl) Try.func5 (by kernel_rfl)
    (of_decide_eq_true (by kernel_rfl)) (by unfold Func.isWrapper; first | (rw [if_pos (by decide +kernel)]; kernel_rfl) | (rw [if_neg (by decide +kernel)]; exact ⟨rfl, rfl⟩))
    (fun os started H enc _ => lifted os started H enc)
/-- THE STATEMENT. -/
theorem proved : Rows.HashApartSaid := over
end hashApart
#print axioms hashApart.proved
end Go.Proofs.Ytldgdlndacocdaa
