/- For any key and any number: a table that nobody made refuses every call, and nothing fails: the law returns true. No condition. -/
import Derived.Test.YtldgdlndacocdaaHArgs
import Derived.Deep.RegionWith
namespace Go.Proofs.Ytldgdlndacocdaa
open Go.ChangeShapes Go.WideShapes Go.ChangeAt Go.RowKit

def NS (gk gf gl : Nat) (k : Key) (w : World) : Prop :=
  w.cell? ⟨gl, 0, none⟩ = some (.pointer none) ∧ w.cell? ⟨gl, 1, none⟩ = some (.pointer (some ⟨gf, 0, none⟩)) ∧ w.cell? ⟨gf, 0, none⟩ = some (.pointer none) ∧
  w.cell? ⟨gk, 0, none⟩ = some (.int .i64 k.a) ∧ w.cell? ⟨gk, 1, none⟩ = some (.int .i64 k.b) ∧ w.cell? ⟨gk, 2, none⟩ = some (.int .i64 k.c)

theorem NS.keep {gk gf gl : Nat} {k : Key} {w w' : World} (h : NS gk gf gl k w) (hb : Below w.heap.size w w') : NS gk gf gl k w' := by
  obtain ⟨h0, h1, h2, h3, h4, h5⟩ := h
  have c : ∀ (g o : Nat) (v : Value), w.cell? ⟨g, o, none⟩ = some v → w'.cell? ⟨g, o, none⟩ = some v := fun g o v hv => (hb.cell (p := ⟨g, o, none⟩) (block_lt_of_cell hv)).trans hv
  exact ⟨c _ _ _ h0, c _ _ _ h1, c _ _ _ h2, c _ _ _ h3, c _ _ _ h4, c _ _ _ h5⟩

theorem keepC {w w' : World} {p : Addr} {v : Value} (hb : Below w.heap.size w w') (h : w.cell? p = some v) : w'.cell? p = some v := (hb.cell (block_lt_of_cell h)).trans h

/-- All that is known of the world. -/
structure NW (B gf gl : Nat) (k : Key) (W w : World) : Prop where
  ns : NS B gf gl k w
  bel : Below B W w
  sz : B ≤ w.heap.size
theorem NW.keep {B gf gl : Nat} {k : Key} {W w w' : World} (h : NW B gf gl k W w) (hb : Below w.heap.size w w') : NW B gf gl k W w' :=
  ⟨h.ns.keep hb, h.bel.trans (hb.mono h.sz), Nat.le_trans h.sz hb.size⟩
theorem NW.drew {B gf gl : Nat} {k : Key} {W w : World} (h : NW B gf gl k W w) : NW B gf gl k W w.drew := ⟨h.ns, h.bel.drew, h.sz⟩

def NobRel (B gf gl : Nat) (k : Key) (W : World) (ix : Value) (wr : World) : Prop := ∃ i : Nat, i ≤ 2 ∧ ix = .int .i64 i ∧ NW B gf gl k W wr

set_option maxHeartbeats 8000000 in
theorem hashNobody_walk (v0 : Value) (n : Int) (W : World) (hk : ∃ k : Key, v0 = keyV k) (_ : (Lit.int .i64 n).wf = true) :
    Calls Try.prog 7 #[v0, .int .i64 n] W fun e w' => e = .returned (.bool true) ∧ Below W.heap.size W w' := by
  obtain ⟨k, rfl⟩ := hk
  unfold keyV
  go_enter Try.func7, Try.ntmps7
  go_wp2_with fail
  obtain ⟨B, hB⟩ : ∃ B, W.heap.size = B := ⟨_, rfl⟩
  have hbel : Below B W (((W.alloc (.cells #[.int .i64 k.a, .int .i64 k.b, .int .i64 k.c] 29)).alloc (.cells #[.pointer none, .slice none 0 0, .int .i64 0, .int .i64 0] 53)).alloc (.cells #[.pointer none, .pointer (some ⟨W.heap.size + 1, 0, none⟩)] 23)) := by
    rw [← hB]
    exact (((Below.refl _ _).alloc (Nat.le_refl _) _).alloc (by simp) _).alloc (by simp; omega) _
  have hns : NS B (B + 1) (B + 1 + 1) k (((W.alloc (.cells #[.int .i64 k.a, .int .i64 k.b, .int .i64 k.c] 29)).alloc (.cells #[.pointer none, .slice none 0 0, .int .i64 0, .int .i64 0] 53)).alloc (.cells #[.pointer none, .pointer (some ⟨W.heap.size + 1, 0, none⟩)] 23)) := by
    rw [← hB]
    unfold NS
    go_simp
  have hs : B ≤ (((W.alloc (.cells #[.int .i64 k.a, .int .i64 k.b, .int .i64 k.c] 29)).alloc (.cells #[.pointer none, .slice none 0 0, .int .i64 0, .int .i64 0] 53)).alloc (.cells #[.pointer none, .pointer (some ⟨W.heap.size + 1, 0, none⟩)] 23)).heap.size := by
    rw [← hB]; simp; omega
  have HB := Lib.hid hB
  rw [hB] at hbel hns hs ⊢
  clear hB
  obtain ⟨gf, hgf⟩ : ∃ gf, B + 1 = gf := ⟨_, rfl⟩
  rw [hgf] at hbel hns hs ⊢
  obtain ⟨gl, hgl⟩ : ∃ gl, gf + 1 = gl := ⟨_, rfl⟩
  rw [hgl] at hns ⊢
  clear hgf hgl
  go_loopw [6] (NobRel B gf gl k W) (fun ix _ => 2 - (intOf ix).toNat)
  case atStart => exact ⟨0, by omega, rfl, hns, hbel, hs⟩
  case round =>
    clear hns hbel hs
    obtain ⟨i, hi, rfl, hnw⟩ := hrel
    match i, hi with
    | 0, _ =>
      obtain ⟨s0, s1, s2, s3, s4, s5⟩ := hnw.ns
      go_wp2_with fail
      go_region_held3 (fun w' => w'.cell? ⟨gl, 0, none⟩ = some (.pointer none) ∧ w'.cell? ⟨B, 0, none⟩ = some (.int .i64 k.a) ∧ w'.cell? ⟨B, 1, none⟩ = some (.int .i64 k.b) ∧ w'.cell? ⟨B, 2, none⟩ = some (.int .i64 k.c))
        (first | exact ⟨s0, s3, s4, s5⟩ | exact ⟨by assumption, by assumption, by assumption, by assumption⟩ | go_keep)
        (first | (go_at_call 12; refine (get_nb k (.inl rfl)).mono ?_; rintro e w2 ⟨rfl, hb2⟩; have hn2 := hnw.drew.keep hb2; obtain ⟨t0, t1, t2, t3, t4, t5⟩ := hn2.ns))
      go_wp2_with fail
      clear s0 s1 s2 s3 s4 s5
      go_region_held3 (fun w' => w'.cell? ⟨gl, 0, none⟩ = some (.pointer none) ∧ w'.cell? ⟨B, 0, none⟩ = some (.int .i64 k.a) ∧ w'.cell? ⟨B, 1, none⟩ = some (.int .i64 k.b) ∧ w'.cell? ⟨B, 2, none⟩ = some (.int .i64 k.c))
        (first | exact ⟨t0, t3, t4, t5⟩ | exact ⟨by assumption, by assumption, by assumption, by assumption⟩ | go_keep)
        (first
          | (go_at_call 11; refine (put_nb k n (.inl rfl)).mono ?_; rintro e w3 ⟨rfl, hb3⟩; have hn3 := hn2.drew.keep hb3; obtain ⟨x0, x1, x2, x3, x4, x5⟩ := hn3.ns)
          | (go_at_call 15; refine (drop_nb k (.inl rfl)).mono ?_; rintro e w4 ⟨rfl, hb4⟩; have hn4 := hn3.keep hb4; obtain ⟨y0, y1, y2, y3, y4, y5⟩ := hn4.ns)
          | (go_at_call 17; refine (len_nb (.inl rfl)).mono ?_; rintro e w5 ⟨rfl, rfl⟩)
          | (go_at_call 16; refine (clear_nb (.inl rfl)).mono ?_; rintro e w5 ⟨rfl, rfl⟩))
      go_wp2_with fail
      go_roundw
      case rel => exact ⟨1, by omega, rfl, hn4⟩
      case measure => simp [intOf]
    | 1, _ =>
      obtain ⟨s0, s1, s2, s3, s4, s5⟩ := hnw.ns
      go_wp2_with fail
      go_region_held3 (fun w' => w'.cell? ⟨gl, 1, none⟩ = some (.pointer (some ⟨gf, 0, none⟩)) ∧ w'.cell? ⟨B, 0, none⟩ = some (.int .i64 k.a) ∧ w'.cell? ⟨B, 1, none⟩ = some (.int .i64 k.b) ∧ w'.cell? ⟨B, 2, none⟩ = some (.int .i64 k.c))
        (first | exact ⟨s1, s3, s4, s5⟩ | exact ⟨by assumption, by assumption, by assumption, by assumption⟩ | go_keep)
        (first | (go_at_call 12; refine (get_nb (w := wr.drew) k (.inr ⟨gf, rfl, s2⟩)).mono ?_; rintro e w2 ⟨rfl, hb2⟩; have hn2 := hnw.drew.keep hb2; obtain ⟨t0, t1, t2, t3, t4, t5⟩ := hn2.ns))
      go_wp2_with fail
      clear s0 s1 s2 s3 s4 s5
      go_region_held3 (fun w' => w'.cell? ⟨gl, 1, none⟩ = some (.pointer (some ⟨gf, 0, none⟩)) ∧ w'.cell? ⟨B, 0, none⟩ = some (.int .i64 k.a) ∧ w'.cell? ⟨B, 1, none⟩ = some (.int .i64 k.b) ∧ w'.cell? ⟨B, 2, none⟩ = some (.int .i64 k.c))
        (first | exact ⟨t1, t3, t4, t5⟩ | exact ⟨by assumption, by assumption, by assumption, by assumption⟩ | go_keep)
        (first
          | (go_at_call 11; refine (put_nb (w := w2.drew) k n (.inr ⟨gf, rfl, t2⟩)).mono ?_; rintro e w3 ⟨rfl, hb3⟩; have hn3 := hn2.drew.keep hb3; obtain ⟨x0, x1, x2, x3, x4, x5⟩ := hn3.ns)
          | (go_at_call 15; refine (drop_nb k (.inr ⟨gf, rfl, x2⟩)).mono ?_; rintro e w4 ⟨rfl, hb4⟩; have hn4 := hn3.keep hb4; obtain ⟨y0, y1, y2, y3, y4, y5⟩ := hn4.ns)
          | (go_at_call 17; refine (len_nb (.inr ⟨gf, rfl, y2⟩)).mono ?_; rintro e w5 ⟨rfl, rfl⟩)
          | (go_at_call 16; refine (clear_nb (.inr ⟨gf, rfl, y2⟩)).mono ?_; rintro e w5 ⟨rfl, rfl⟩))
      go_wp2_with fail
      go_roundw
      case rel => exact ⟨2, by omega, rfl, hn4⟩
      case measure => simp [intOf]
    | 2, _ =>
      go_wp2_with fail
      refine (awake_any _).mono ?_
      rintro e w2 ⟨rfl, hb2⟩
      go_wp2_with fail
      go_ret
      exact ⟨rfl, by rw [HB.out]; exact hnw.bel.trans (hb2.mono hnw.sz)⟩
namespace hashNobody
set_option linter.unusedVariables false
theorem own : ownKnob Try.prog.godebug = none := by kernel_rfl
theorem laidOut : laidOutB Try.prog = true := by kernel_rfl
set_option maxRecDepth 100000 in
theorem lifted (os : Os) (started : os.Started) (H : Type) (enc : TypeId × Value → H) :
    ReturnsInHanded {} Try.checked os 7 .any (Rows.hashNobodySpec.pre6 enc Try.prog Try.f7 Rows.hashNobodyRow.domain false) (Rows.hashNobodySpec.post enc Try.prog Try.f7 false true false false) := by
  refine returnsInHanded_of_change (C := Try.checked) own started (by kernel_rfl) Try.func7
    (ChangeSpec.witness6 (enc := enc) (C := Try.checked) false ⟨#[], #[.agg #[.int .i64 0, .int .i64 0, .int .i64 0], .int .i64 0], []⟩ 8 (by kernel_rfl) (by kernel_rfl) (by kernel_rfl) (by kernel_rfl)) ?_
  intro W base args ds gs before hval0 hW hcnd hsz
  have hval : ∀ (j : Nat) t v, Try.f7.params[j]? = some t → args[j]? = some v → Value.okWide Try.prog W .any base t v := hval0
  have hW' := hW
  obtain ⟨p, q, hA0, hV, rfl, hfz, hnd⟩ := hW
  have hA : DataW.TrodAll enc Try.prog W 0 (fun _ => true) true Try.f7.params.toList args.toList ds p := hA0
  rw [Try.params7] at hA hval
  obtain ⟨v0, vs0, d0, ds0, p0, q0, hargs, rfl, rfl, h0, r0⟩ := trodAll_cons hA
  obtain ⟨v1, vs1, d1, ds1, p1, q1, rfl, rfl, rfl, h1, r1⟩ := trodAll_cons r0
  obtain ⟨rfl, rfl, rfl⟩ := trodAll_nil r1
  obtain rfl : args = #[v0, v1] := by cases args; simp_all
  obtain ⟨rfl, rfl⟩ := trodVars_none hV
  have k0 := h0
  have lt0 : ∀ x ∈ p0, x.block < W.heap.size := by obtain ⟨m, hm⟩ := k0; exact DataW.trod_lt m _ _ _ hm
  obtain ⟨a1, rfl, rfl, rfl, w1⟩ := open_int Try.underlying3 (hval 1 3 v1 rfl rfl) h1
  clear hA0 hval0
  refine (hashNobody_walk v0 a1 W (arg_key h0 (hval 0 29 v0 rfl rfl)) w1).mono fun e W' ⟨he, bel⟩ => ?_
  subst he
  exact ⟨_, rfl, _, _, _, [], _, [], hW', trodAll_mk1 (shut_bool Try.underlying4 _), (trodAll_cons_mk (Below.trod laidOut (by kernel_rfl) (of_decide_eq_true (by kernel_rfl)) k0 bel lt0) (trodAll_cons_mk (shut_int Try.underlying3 w1) trodAll_mk0)), rfl, bel.frame _, fun h => by cases h⟩
theorem over : Rows.hashNobodyRow.holds Try.pinned (OpenSpec.ofChange Rows.hashNobodySpec) :=
  OpenClaim.holds_of_wide 7 Try.f7 rfl rfl rfl rfl rfl rfl rfl ⟨rfl, rfl, rfl, rfl, rfl⟩ rfl rfl rfl rfl rfl (by kernel_rfl) Try.func7 (by kernel_rfl)
    (of_decide_eq_true (by kernel_rfl)) (by unfold Func.isWrapper; first | (rw [if_pos (by decide +kernel)]; kernel_rfl) | (rw [if_neg (by decide +kernel)]; exact ⟨rfl, rfl⟩))
    (fun os started H enc _ => lifted os started H enc)
/-- THE STATEMENT. -/
theorem proved : Rows.HashNobodySaid := over
end hashNobody
#print axioms hashNobody.proved
end Go.Proofs.Ytldgdlndacocdaa
