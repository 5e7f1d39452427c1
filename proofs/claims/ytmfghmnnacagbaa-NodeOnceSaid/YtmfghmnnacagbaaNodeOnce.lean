/- For any two numbers: nodes of their sixteen bits, as answers of four variables, are one just if these bits are the same; each says them: the law returns true. No condition. -/
import Derived.Test.YtmfghmnnacagbaaNBits
namespace Go.Proofs.Ytmfghmnnacagbaa
open Go.ChangeShapes Go.WideShapes Go.ChangeAt Go.RowKit

/-- What is known of the world in NodeOnce. -/
structure OnceW (m : Mem) (h : Hd) (cs : List Nd) (gx gy : Nat) (x y : Int) (W w : World) : Prop where
  st : St w m h cs
  V : h.V = 4
  rx : Rd w (some ⟨gx, 0, none⟩) ((bitsL x 16).map Value.bool)
  ry : Rd w (some ⟨gy, 0, none⟩) ((bitsL y 16).map Value.bool)
  below : Below W.heap.size W w

theorem OnceW.keep {m : Mem} {h : Hd} {cs : List Nd} {gx gy : Nat} {x y : Int} {W w w' : World} (o : OnceW m h cs gx gy x y W w) (hb : Below w.heap.size w w') : OnceW m h cs gx gy x y W w' :=
  ⟨o.st.keep hb, o.V, o.rx.keep hb, o.ry.keep hb, o.below.trans (hb.mono o.below.size)⟩

set_option maxHeartbeats 4000000 in
set_option maxRecDepth 100000 in
theorem nodeOnce_walk (x y : Int) (W : World) (_ : (Lit.int .i64 x).wf = true) (_ : (Lit.int .i64 y).wf = true) :
    Calls Try.prog 4 #[.int .i64 x, .int .i64 y] W fun e w' => e = .returned (.bool true) ∧ Below W.heap.size W w' := by
  go_enter Try.func4, Try.ntmps4
  go_wp2_with fail
  refine (newst_yes 4 200 (by omega) (by omega) (by omega) _).mono ?_
  rintro e w1 ⟨m, rfl, s1, hb1, ho1⟩
  have S1 := Lib.hid s1
  have B1 := Lib.hid hb1
  have O1 := Lib.hid ho1
  clear s1 hb1 ho1
  unfold ptrV
  go_wp2_with fail
  refine (bits_any x _).mono ?_
  rintro e w2 ⟨gx, capx, rfl, rx, hgx, hgx2, hb2⟩
  have S2 := Lib.hid (S1.out.keep hb2)
  have B2 := Lib.hid (B1.out.trans (hb2.mono B1.out.size))
  have RX := Lib.hid rx
  have HGX := Lib.hid hgx2
  have OX : Hid (¬ m.own gx) := fun h => by have := S1.out.own_lt gx h; omega
  clear rx hgx hgx2 hb2
  go_wp2_with fail
  refine (bits_any y _).mono ?_
  rintro e w3 ⟨gy, capy, rfl, ry, hgy, hgy2, hb3⟩
  have S3 := Lib.hid (S2.out.keep hb3)
  have B3 := Lib.hid (B2.out.trans (hb3.mono B2.out.size))
  have RY := Lib.hid ry
  have HGY := Lib.hid hgy2
  have OY : Hid (¬ m.own gy) := fun h => by have := S2.out.own_lt gy h; omega
  have RX := Lib.hid (RX.out.keep hb3)
  have HGX : Hid (gx < w3.heap.size) := Nat.lt_of_lt_of_le HGX.out hb3.size
  have T1 := Lib.hid (table_any (cap := capx) S3.out rfl (by rw [first_cnt]; show 2 + 16 ≤ 200 + 1; omega) (bitsL_length x 16) RX.out HGX.out OX.out)
  unfold ptrV at T1
  clear ry hgy hgy2 hb3
  go_wp2_with fail
  refine T1.out.mono ?_
  rintro e w4 ⟨k, m4, h4, cs4, ck, rfl, s4, x4, ik, _, sk, v4, b4, c4, _, n4⟩
  rw [first_cnt] at c4
  have c4 : cnt cs4 + 1 ≤ 2 + 16 := c4
  have b4 : h4.B = 200 := b4
  have T2 := table_any (cap := capy) s4 v4 (by omega) (bitsL_length y 16) (RY.out.next n4 HGY.out OY.out) (Nat.lt_of_lt_of_le HGY.out n4.turn.size) (n4.not_own HGY.out OY.out)
  rw [n4.s] at T2
  have T2 := Lib.hid T2
  unfold ptrV at T2
  have B4 := n4.to_below B3.out O1.out B3.out.size
  have RX4 := Lib.hid (RX.out.next n4 HGX.out OX.out)
  have RY4 := Lib.hid (RY.out.next n4 HGY.out OY.out)
  have HGX4 : Hid (gx < w4.heap.size) := Nat.lt_of_lt_of_le HGX.out n4.turn.size
  have HGY4 : Hid (gy < w4.heap.size) := Nat.lt_of_lt_of_le HGY.out n4.turn.size
  have OX4 := Lib.hid (n4.not_own HGX.out OX.out)
  have OY4 := Lib.hid (n4.not_own HGY.out OY.out)
  have SK : Hid (SaysBits cs4 x k) := ⟨ck, ik, sk⟩
  have S4 := Lib.hid s4
  have V4 : Hid (h4.V = 4) := v4
  have N4S := Lib.hid n4.s
  have B4 := Lib.hid B4
  clear s4 x4 ik sk v4 b4 c4 n4
  go_wp2_with fail
  refine T2.out.mono ?_
  rintro e w5 ⟨j, m5, h5, cs5, cj, rfl, s5, x5, ij, _, sj, v5, _, _, _, n5⟩
  have g4 := S4.out.good
  have g5 := s5.good
  rw [V4.out] at g4
  rw [v5, V4.out] at g5
  have SJ : Hid (SaysBits cs5 y j) := ⟨cj, ij, sj⟩
  have SK5 := Lib.hid (SK.out.ext x5 g4 g5)
  have G5 := Lib.hid g5
  have OW : Hid (OnceW m5 h5 cs5 gx gy x y W w5) := ⟨s5, v5.trans V4.out, RX4.out.next n5 HGX4.out OX4.out, RY4.out.next n5 HGY4.out OY4.out, (n5.to_below B4.out.1 B4.out.2 B4.out.1.size).1⟩
  have MS : Hid (m5.s = m.s) := n5.s.trans N4S.out
  clear s5 x5 ij sj v5 n5 g4 g5
  go_wp2_with fail
  go_loopw [13] (fun iv wr => ∃ n : Nat, n ≤ 16 ∧ iv = .int .i64 n ∧ OnceW m5 h5 cs5 gx gy x y W wr) (fun iv _ => 16 - (intOf iv).toNat)
  case atStart => exact ⟨0, by omega, rfl, OW.out⟩
  case round =>
    obtain ⟨n, hn, rfl, how⟩ := hrel
    have HW := Lib.hid how
    by_cases hlt : n < 16
    · clear how
      go_wp2_with fail
      refine (vals_any (n : Int) _).mono ?_
      rintro e w6 ⟨g6, rfl, hg6, _, hb6⟩
      have W6 := Lib.hid (HW.out.keep hb6)
      have E6 := eval_vals W6.out.st W6.out.V SK5.out hlt (vals_rd hg6)
      rw [MS.out] at E6
      have E6 := Lib.hid E6
      unfold ptrV at E6
      clear hg6 hb6
      go_wp2_with fail
      refine E6.out.mono ?_
      rintro e w7 ⟨rfl, rfl⟩
      go_wp2_with fail
      refine (vals_any (n : Int) _).mono ?_
      rintro e w8 ⟨g8, rfl, hg8, _, hb8⟩
      have W8 := Lib.hid (W6.out.keep hb8)
      have E8 := eval_vals W8.out.st W8.out.V SJ.out hlt (vals_rd hg8)
      rw [MS.out] at E8
      have E8 := Lib.hid E8
      unfold ptrV at E8
      have cx := rd_at W8.out.rx hlt
      have cy := rd_at W8.out.ry hlt
      clear hg8 hb8
      go_wp2_with fail
      refine E8.out.mono ?_
      rintro e w9 ⟨rfl, rfl⟩
      go_wp2_with fail
      go_roundw
      case rel => exact ⟨n + 1, by omega, by go_num, W8.out⟩
      case measure => simp [intOf]; omega
    · clear how
      have IFF := once_same G5.out SK5.out SJ.out
      by_cases he : x % 65536 = y % 65536
      · have e1 : ((k : Int) == (j : Int)) = true := by have := IFF.2 he; subst this; simp
        have e2 : (bits BinOp.and IntKind.i64 x 65535 == bits BinOp.and IntKind.i64 y 65535) = true := by rw [and_mask16, and_mask16, he]; simp
        clear IFF he
        go_wp2_with fail
        refine (awake3 _).mono ?_
        rintro e w6 ⟨rfl, hb6⟩
        go_wp2_with fail
        go_ret
        exact ⟨rfl, (HW.out.keep hb6).below⟩
      · have e1 : ((k : Int) == (j : Int)) = false := by
          have : k ≠ j := fun h => he (IFF.1 h)
          simp; omega
        have e2 : (bits BinOp.and IntKind.i64 x 65535 == bits BinOp.and IntKind.i64 y 65535) = false := by rw [and_mask16, and_mask16]; simpa using he
        clear IFF he
        go_wp2_with fail
        refine (awake3 _).mono ?_
        rintro e w6 ⟨rfl, hb6⟩
        go_wp2_with fail
        go_ret
        exact ⟨rfl, (HW.out.keep hb6).below⟩
namespace nodeOnce
set_option linter.unusedVariables false
theorem own : ownKnob Try.prog.godebug = none := by kernel_rfl
theorem laidOut : laidOutB Try.prog = true := by kernel_rfl
set_option maxRecDepth 100000 in
theorem lifted (os : Os) (started : os.Started) (H : Type) (enc : TypeId × Value → H) :
    ReturnsInHanded {} Try.checked os 4 .any (Rows.nodeOnceSpec.pre6 enc Try.prog Try.f4 Rows.nodeOnceRow.domain false) (Rows.nodeOnceSpec.post enc Try.prog Try.f4 false true false false) := by
  refine returnsInHanded_of_change (C := Try.checked) own started (by kernel_rfl) Try.func4
    (ChangeSpec.witness6 (enc := enc) (C := Try.checked) false ⟨#[], #[.int .i64 0, .int .i64 0], []⟩ 8 (by kernel_rfl) (by kernel_rfl) (by kernel_rfl) (by kernel_rfl)) ?_
  intro W base args ds gs before hval0 hW hcnd hsz
  have hval : ∀ (j : Nat) t v, Try.f4.params[j]? = some t → args[j]? = some v → Value.okWide Try.prog W .any base t v := hval0
  have hW' := hW
  obtain ⟨p, q, hA0, hV, rfl, hfz, hnd⟩ := hW
  have hA : DataW.TrodAll enc Try.prog W 0 (fun _ => true) true Try.f4.params.toList args.toList ds p := hA0
  rw [Try.params4] at hA hval
  obtain ⟨v0, vs0, d0, ds0, p0, q0, hargs, rfl, rfl, h0, r0⟩ := trodAll_cons hA
  obtain ⟨v1, vs1, d1, ds1, p1, q1, rfl, rfl, rfl, h1, r1⟩ := trodAll_cons r0
  obtain ⟨rfl, rfl, rfl⟩ := trodAll_nil r1
  obtain rfl : args = #[v0, v1] := by cases args; simp_all
  obtain ⟨rfl, rfl⟩ := trodVars_none hV
  obtain ⟨a0, rfl, rfl, rfl, w0⟩ := open_int Try.underlying3 (hval 0 3 v0 rfl rfl) h0
  obtain ⟨a1, rfl, rfl, rfl, w1⟩ := open_int Try.underlying3 (hval 1 3 v1 rfl rfl) h1
  clear hA0 hval0
  refine (nodeOnce_walk a0 a1 W w0 w1).mono fun e W' ⟨he, bel⟩ => ?_
  subst he
  exact ⟨_, rfl, _, _, _, [], _, [], hW', trodAll_mk1 (shut_bool Try.underlying4 _), (trodAll_cons_mk (shut_int Try.underlying3 w0) (trodAll_cons_mk (shut_int Try.underlying3 w1) trodAll_mk0)), rfl, bel.frame _, fun h => by cases h⟩
theorem over : Rows.nodeOnceRow.holds Try.pinned (OpenSpec.ofChange Rows.nodeOnceSpec) :=
  OpenClaim.holds_of_wide 4 Try.f4 rfl rfl rfl rfl rfl rfl rfl ⟨rfl, rfl, rfl, rfl, rfl⟩ rfl rfl rfl rfl rfl (by kernel_rfl) Try.func4 (by kernel_rfl)
    (of_decide_eq_true (by kernel_rfl)) (by unfold Func.isWrapper; first | (rw [if_pos (by decide +kernel)]; kernel_rfl) | (rw [if_neg (by decide +kernel)]; exact ⟨rfl, rfl⟩))
    (fun os started H enc _ => lifted os started H enc)
/-- THE STATEMENT. -/
theorem proved : Rows.NodeOnceSaid := over
end nodeOnce
#print axioms nodeOnce.proved
end Go.Proofs.Ytmfghmnnacagbaa
