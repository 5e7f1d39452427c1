/- For any sixteen answers and any set of four variables: Exists says what it must; variables twice in the list, and in whatever order, change nothing: the law returns true. No condition. -/
import Derived.Test.YtmbkkifopmbkaaaMN
namespace Go.Proofs.Ytmbkkifopmbkaaa
open Go.ChangeShapes Go.WideShapes Go.ChangeAt Go.RowKit Go.Maps

def ListZ (w : World) (e : Ending) (w' : World) : Prop := e = .returned (.slice none 0 0) ∧ w = w'

set_option maxRecDepth 100000 in
theorem list_zero (w : World) : Calls Try.prog 15 #[.int .i64 0] w (ListZ w) := by
  go_enter Try.func15, Try.ntmps15
  go_wp2_with fail
  go_loopw [3, 4] (fun v iv wr => ∃ j : Nat, j ≤ 4 ∧ iv = .int .i64 j ∧ v = .slice none 0 0 ∧ w = wr) (fun _ iv _ => 4 - (intOf iv).toNat)
  case atStart => exact ⟨0, Nat.zero_le _, rfl, rfl, rfl⟩
  case round =>
    obtain ⟨j, hj, rfl, rfl, rfl⟩ := hrel
    by_cases hlt : j < 4
    · have e3 : bits BinOp.and IntKind.i64 ((0 : Int) / 2 ^ j) 1 = 0 := by rw [and_one]; simp
      have e4 : (0 : Int) / 2 ^ j = 0 := by simp
      have e5 : bits BinOp.and IntKind.i64 0 1 = 0 := by rw [and_one]; rfl
      have hlt' : (j : Int) < 4 := by omega
      go_wp2_with fail
      go_roundw
      case rel => exact ⟨j + 1, by omega, by go_num, rfl, trivial⟩
      case measure => simp [intOf]; omega
    · obtain rfl : j = 4 := by omega
      go_wp2_with fail
      go_ret
      exact ⟨rfl, rfl⟩

theorem IRow.rd2 {w : World} {B : Nat} {v : Value} {l : List Nat} (h : IRow w B v l) : ∃ A c, v = .slice A l.length c ∧ Rd w A (ints (vInts l)) ∧ ∀ b off, A = some ⟨b, off, none⟩ → B ≤ b := by
  obtain ⟨A, c, rfl, hr⟩ := h.rd
  refine ⟨A, c, rfl, hr, fun b off e => ?_⟩
  subst e
  rcases h.2 with ⟨h1, _⟩ | ⟨g, cap, cur, h1, hg, _⟩
  · cases h1
  · injection h1 with h1
    injection h1 with h1
    injection h1 with h1
    omega

theorem listN_ne {s : Nat} (hs : s < 16) (h0 : s ≠ 0) : 0 < (listN s 4).length := by
  have : ∀ s, s < 16 → s ≠ 0 → 0 < (listN s 4).length := by decide
  exact this s hs h0

theorem Has.back {l : List Nat} {s : Nat} (h : Has l s) : Has (l.reverse ++ l) s := fun j => by
  rw [List.mem_append, List.mem_reverse, or_self]; exact h j

theorem drop_rev {l : List Nat} {j x : Nat} (h : l[j]? = some x) : (l.drop j).reverse = (l.drop (j + 1)).reverse ++ [x] := by
  have hj := (List.getElem?_eq_some_iff.1 h).1
  have hx : l[j] = x := by have := List.getElem?_eq_getElem hj; rw [this] at h; injection h
  rw [List.drop_eq_getElem_cons hj, List.reverse_cons, hx]

set_option maxHeartbeats 8000000 in
set_option maxRecDepth 100000 in
theorem qexists_none (x z : Int) (es0 : bits BinOp.and IntKind.i64 z 15 = 0) (w : World) : Calls Try.prog 4 #[.int .i64 x, .int .i64 z] w fun e w' => e = .returned (.bool true) ∧ Below w.heap.size w w' := by
  have es : bits BinOp.and IntKind.i64 z 15 = 0 := es0
  obtain ⟨a, ha, ea⟩ := low16 x
  have HA := Lib.hid ha
  clear ha
  have BG := begun5 1000 (by omega) (by omega) w
  change Calls _ _ #[.int .i64 1000] _ _ at BG
  have BG := Lib.hid BG
  go_enter Try.func4, Try.ntmps4
  go_wp2_with fail
  refine BG.out.mono ?_
  rintro e w1 ⟨m1, o, q, rfl, s1⟩
  have S1 := Lib.hid s1
  unfold ptrV at *
  clear s1 BG
  have T := make_any S1.out.l.ost.st S1.out.l.V ((a : Int))
  unfold ptrV at T
  have T := Lib.hid T
  go_wp2_with fail
  refine T.out.mono ?_
  intro e w_2 hout
  obtain ⟨nx, a2, rfl, s2, ex, pN, aN, sN2⟩ := S1.out.make (by omega) hout
  clear hout T
  obtain ⟨fx, hfx⟩ : ∃ f : (Nat → Bool) → Bool, f = fun val => bitZ (a : Int) (tix val 4 0 0) := ⟨_, rfl⟩
  have sN2 : ∀ val, Says 4 a2.cs val nx = fx val := fun val => by rw [sN2, hfx]
  have FX := Lib.hid hfx
  clear hfx
  have SX_nx_2 := Lib.hid sN2
  have AT_nx_2 := Lib.hid aN
  have P2 := Lib.hid pN
  have S2 := Lib.hid s2
  clear  s2 ex pN aN sN2 S1
  have T := Lib.hid (fun w => list_zero w)
  go_wp2_with fail
  refine (T.out _).mono ?_
  rintro e wx ⟨rfl, rfl⟩
  clear T
  go_wp2_with fail
  go_loopw [11, 12] (fun v iv wr => v = .slice none 0 0 ∧ iv = .int .i64 (-1) ∧ w_2 = wr) (fun _ _ _ => 0)
  case atStart => exact ⟨rfl, rfl, rfl⟩
  case round =>
    obtain ⟨rfl, rfl, rfl⟩ := hrel
    have T := Lib.hid (fun w => exists_any (s := 0) HA.out w)
    change Hid (∀ w, Calls _ _ #[_, .int .i64 0] _ _) at T
    go_wp2_with fail
    refine (T.out _).mono ?_
    rintro e wx ⟨rfl, rfl⟩
    clear T
    have T := make_any S2.out.l.ost.st S2.out.l.V ((exN a 0 4 : Nat))
    rw [P2.out] at T
    unfold ptrV at T
    have T := Lib.hid T
    go_wp2_with fail
    refine T.out.mono ?_
    intro e w_3 hout
    obtain ⟨want, a3, rfl, s3, ex, pN, aN, sN2⟩ := S2.out.make (by omega) hout
    clear hout T
    have sN2 : ∀ val, Says 4 a3.cs val want = fE 0 fx 4 val := fun val => by
      rw [sN2, exN_says 4 (by omega), FX.out]
    have SX_nx_3 := Lib.hid (Says_at AT_nx_2.out ex S2.out.good s3.good SX_nx_2.out)
    have AT_nx_3 := Lib.hid (AT_nx_2.out.ext ex)
    have SX_want_3 := Lib.hid sN2
    have AT_want_3 := Lib.hid aN
    have P3 := Lib.hid (pN.trans P2.out)
    have S3 := Lib.hid s3
    clear SX_nx_2 AT_nx_2 s3 ex pN aN sN2 S2 P2
    have T := exists_good S3.out.l.ost S3.out.quan S3.out.nq S3.out.l.V v4room AT_nx_3.out (A := none) (cap := 0) (xs := listN 0 4) (by decide) (listN_has 0).lt (.inl rfl)
    change Calls _ _ #[_, _, .slice none 0 0] _ _ at T
    rw [both_self, show (fun val => Says 4 a3.cs val nx) = fx from funext SX_nx_3.out] at T
    have T := Lib.hid T
    go_wp2_with fail
    refine T.out.mono ?_
    intro e w_4 hout
    obtain ⟨n, a4, rfl, s4, ex, pN, aN, sN2⟩ := S3.out.op (by omega) hout
    clear hout T
    have sN2 : ∀ val, Says 4 a4.cs val n = fE 0 fx 4 val := fun val => by rw [sN2, exF_set (listN_has 0)]
    have SX_nx_4 := Lib.hid (Says_at AT_nx_3.out ex S3.out.good s4.good SX_nx_3.out)
    have AT_nx_4 := Lib.hid (AT_nx_3.out.ext ex)
    have SX_want_4 := Lib.hid (Says_at AT_want_3.out ex S3.out.good s4.good SX_want_3.out)
    have AT_want_4 := Lib.hid (AT_want_3.out.ext ex)
    have SX_n_4 := Lib.hid sN2
    have AT_n_4 := Lib.hid aN
    have P4 := Lib.hid (pN.trans P3.out)
    have S4 := Lib.hid s4
    clear SX_nx_3 AT_nx_3 SX_want_3 AT_want_3 s4 ex pN aN sN2 S3 P3
    have T := exists_good S4.out.l.ost S4.out.quan S4.out.nq S4.out.l.V v4room AT_nx_4.out (A := none) (cap := 0) (xs := listN 0 4) (by decide) (listN_has 0).lt (.inl rfl)
    change Calls _ _ #[_, _, .slice none 0 0] _ _ at T
    rw [both_self, show (fun val => Says 4 a4.cs val nx) = fx from funext SX_nx_4.out] at T
    have T := Lib.hid T
    go_wp2_with fail
    refine T.out.mono ?_
    intro e w_5 hout
    obtain ⟨m, a5, rfl, s5, ex, pN, aN, sN2⟩ := S4.out.op (by omega) hout
    clear hout T
    have sN2 : ∀ val, Says 4 a5.cs val m = fE 0 fx 4 val := fun val => by rw [sN2, exF_set (listN_has 0)]
    have SX_nx_5 := Lib.hid (Says_at AT_nx_4.out ex S4.out.good s5.good SX_nx_4.out)
    have AT_nx_5 := Lib.hid (AT_nx_4.out.ext ex)
    have SX_want_5 := Lib.hid (Says_at AT_want_4.out ex S4.out.good s5.good SX_want_4.out)
    have AT_want_5 := Lib.hid (AT_want_4.out.ext ex)
    have SX_n_5 := Lib.hid (Says_at AT_n_4.out ex S4.out.good s5.good SX_n_4.out)
    have AT_n_5 := Lib.hid (AT_n_4.out.ext ex)
    have SX_m_5 := Lib.hid sN2
    have AT_m_5 := Lib.hid aN
    have P5 := Lib.hid (pN.trans P4.out)
    have S5 := Lib.hid s5
    clear SX_nx_4 AT_nx_4 SX_want_4 AT_want_4 SX_n_4 AT_n_4 s5 ex pN aN sN2 S4 P4
    have E1 : Hid (n = want) := same_node S5.out.good AT_n_5.out AT_want_5.out fun val => by
      rw [SX_n_5.out, SX_want_5.out]

    have E2 : Hid (m = want) := same_node S5.out.good AT_m_5.out AT_want_5.out fun val => by
      rw [SX_m_5.out, SX_want_5.out]

    have AK := Lib.hid (fun w => awake5 w)
    have ee0 := E1.out
    have ee1 := E2.out
    clear SX_nx_5 AT_nx_5 SX_want_5 AT_want_5 SX_n_5 AT_n_5 SX_m_5 AT_m_5 E1 E2 P5
    subst ee0
    subst ee1
    go_wp2_with fail
    refine (AK.out _).mono ?_
    rintro e w_e ⟨rfl, hb⟩
    have BL := Lib.hid (S5.out.below.trans (hb.mono S5.out.below.size))
    clear hb AK S5
    go_wp2_with fail
    go_ret
    exact ⟨rfl, BL.out⟩

set_option maxHeartbeats 8000000 in
set_option maxRecDepth 100000 in
theorem qexists_some (x z : Int) {s : Nat} (es : bits BinOp.and IntKind.i64 z 15 = (s : Int)) (hn0 : 0 < (listN s 4).length) (w : World) : Calls Try.prog 4 #[.int .i64 x, .int .i64 z] w fun e w' => e = .returned (.bool true) ∧ Below w.heap.size w w' := by
  obtain ⟨i0, hi, hz0, hz1, hz2⟩ := info_parts info_intQ
  obtain ⟨a, ha, ea⟩ := low16 x
  have HA := Lib.hid ha
  clear ha
  have BG := begun5 1000 (by omega) (by omega) w
  change Calls _ _ #[.int .i64 1000] _ _ at BG
  have BG := Lib.hid BG
  go_enter Try.func4, Try.ntmps4
  go_wp2_with fail
  refine BG.out.mono ?_
  rintro e w1 ⟨m1, o, q, rfl, s1⟩
  have S1 := Lib.hid s1
  unfold ptrV at *
  clear s1 BG
  have T := make_any S1.out.l.ost.st S1.out.l.V ((a : Int))
  unfold ptrV at T
  have T := Lib.hid T
  go_wp2_with fail
  refine T.out.mono ?_
  intro e w_2 hout
  obtain ⟨nx, a2, rfl, s2, ex, pN, aN, sN2⟩ := S1.out.make (by omega) hout
  clear hout T
  obtain ⟨fx, hfx⟩ : ∃ f : (Nat → Bool) → Bool, f = fun val => bitZ (a : Int) (tix val 4 0 0) := ⟨_, rfl⟩
  have sN2 : ∀ val, Says 4 a2.cs val nx = fx val := fun val => by rw [sN2, hfx]
  have FX := Lib.hid hfx
  clear hfx
  have SX_nx_2 := Lib.hid sN2
  have AT_nx_2 := Lib.hid aN
  have P2 := Lib.hid pN
  have S2 := Lib.hid s2
  clear  s2 ex pN aN sN2 S1
  have T := Lib.hid (fun w => list_any (s := s) w)
  go_wp2_with fail
  refine (T.out _).mono ?_
  rintro e wl ⟨vl, rfl, hrow, hb⟩
  obtain ⟨Al, cl, rfl, hrd, hfar⟩ := hrow.rd2
  have OL2 := Lib.hid S2.out.l.ost.own_lt
  have QL2 := Lib.hid S2.out.quan.lt
  have Z2 := Lib.hid hb.size
  have S2 := Lib.hid (S2.out.keep hb)
  clear T hb
  have hll := listN_len s 4
  obtain ⟨l, hl⟩ : ∃ l, listN s 4 = l := ⟨_, rfl⟩
  have FAR := Lib.hid hfar
  clear hfar
  have HH := listN_has s
  rw [hl] at hrd hrow HH hn0 hll
  rw [hl]
  have HH := Lib.hid HH
  clear hl hrow
  rcases hrd with hnil | ⟨b, off, rfl, hbl, hcell⟩
  · exfalso
    have : l = [] := by simpa using hnil
    subst this
    simp at hn0
  have HC : Hid (∀ j x : Nat, l[j]? = some x → wl.cell? ⟨b, off + j, none⟩ = some (.int .i64 (x : Int))) := by
    show ∀ j x : Nat, _
    intro j x hj
    exact hcell j _ (by rw [List.getElem?_map, List.getElem?_map, hj]; rfl)
  have BL := Lib.hid hbl
  have FB : Hid (w_2.heap.size ≤ b) := FAR.out b off rfl
  clear hcell hbl FAR
  go_wp2_with fail
  go_loopw [11, 12] (fun v iv wr => ∃ j : Nat, j ≤ l.length ∧ iv = .int .i64 ((j : Int) - 1) ∧ IRow wr wl.heap.size v ((l.drop j).reverse) ∧ Below wl.heap.size wl wr) (fun _ iv _ => (intOf iv + 1).toNat)
  case atStart => exact ⟨l.length, Nat.le_refl _, rfl, by rw [List.drop_length]; exact IRow.nil _ _, Below.refl _ _⟩
  case round =>
    obtain ⟨j, hj, rfl, hown, hbel⟩ := hrel
    have hsz := hbel.size
    rcases Nat.eq_zero_or_pos j with rfl | hpos
    · rw [List.drop_zero] at hown
      have hlr : (l.reverse).length = l.length := by simp
      have hc1 := fun (i : Nat) (u : Value) (hu : (ints (vInts l))[i]? = some u) => show wr.cell? ⟨b, off + i, none⟩ = some u from by
        rw [List.getElem?_map, List.getElem?_map] at hu
        cases hx : l[i]? with
        | none => rw [hx] at hu; cases hu
        | some x =>
          rw [hx] at hu
          injection hu with hu
          rw [← hu]
          exact (hbel.cell (p := ⟨b, off + i, none⟩) BL.out).trans (HC.out i x hx)
      have HC1 := Lib.hid hc1
      clear hc1
      rw [show (((0 : Nat) : Int) - 1) = (-1 : Int) from rfl]
      go_wp2_with (at_builtin; refine wpList_append_own _ rfl _ _ 34 rfl wl.heap.size 3 i0 (.int .i64 0) 1 8 Try.underlying34 hi hz0 hz1 hz2 rfl (by decide) _ _ _ rfl hown ⟨b, off, none⟩ l.length cl (ints (vInts l)) rfl (by simp) ?c1 ?c2 ?c3 ?c4 ?c5 ?_)
      case c1 =>
        intro i u hu
        have := HC1.out i u hu
        by_cases hi0 : i = 0
        · subst hi0; simpa [Addr.add] using this
        · simpa [Addr.add, hi0] using this
      case c2 => intro u hu; rw [List.mem_map] at hu; obtain ⟨y, _, rfl⟩ := hu; rfl
      case c3 => rw [hlr]; unfold maxLen; omega
      case c4 => rw [hlr]; omega
      case c5 => omega
      intro v' w1 hown' hgrow _
      have HO : Hid (IRow w1 wl.heap.size v' (l.reverse ++ l)) := Lib.hid (by
        show w1.ownsRow _ _ _ v' (l.reverse ++ l).length (((l.reverse ++ l).map fun (x : Nat) => (x : Int)).map (Value.int .i64))
        simpa using hown')
      have hb1 : Below wl.heap.size wl w1 := hbel.grown hgrow (by omega) (by
        intro g hg
        rcases hown.2 with ⟨rfl, _⟩ | ⟨g', cap, cur, rfl, hb, _⟩
        · simp [Value.ownBlock] at hg
        · simp [Value.ownBlock] at hg; omega)
      have NEL : Hid (l ≠ []) := by show _ ≠ _; rintro rfl; simp at hn0
      have NEM : Hid (l.reverse ++ l ≠ []) := by show _ ≠ _; intro h; rw [List.append_eq_nil_iff] at h; exact NEL.out h.2
      have HML := Lib.hid HH.out.back
      have LML : Hid ((l.reverse ++ l).length ≤ 8) := by show _ ≤ _; rw [List.length_append, hlr]; omega
      clear hown'
      revert HO NEM HML LML
      generalize l.reverse ++ l = ml
      intro HO NEM HML LML
      obtain ⟨Am, cm, rfl, hrm, hfm⟩ := HO.out.rd2
      have RM : Hid (RdF o q a2 w1 Am ml) := ⟨hrm, fun b' off' e => ⟨fun h => by have := hfm b' off' e; have := OL2.out _ h; have := Z2.out; omega, by have := hfm b' off' e; have := QL2.out; have := Z2.out; omega⟩⟩
      have RL : Hid (RdF o q a2 w1 (some ⟨b, off, none⟩) l) := ⟨.inr ⟨b, off, rfl, Nat.lt_of_lt_of_le BL.out hb1.size, fun i u hu => by
        rw [List.getElem?_map, List.getElem?_map] at hu
        cases hx : l[i]? with
        | none => rw [hx] at hu; cases hu
        | some x =>
          rw [hx] at hu
          injection hu with hu
          rw [← hu]
          exact (hb1.cell (p := ⟨b, off + i, none⟩) BL.out).trans (HC.out i x hx)⟩, fun b' off' e => by
        injection e with e
        injection e with e1 e2
        subst e1
        exact ⟨fun h => by have := OL2.out _ h; have := FB.out; omega, by have := QL2.out; have := FB.out; omega⟩⟩
      have S2 := Lib.hid (S2.out.keep hb1)
      clear hgrow hown hbel hb1 hrm hfm HC HC1 HO BL FB hlr
      have T := Lib.hid (fun w => exists_any (s := s) HA.out w)
      go_wp2_with fail
      refine (T.out _).mono ?_
      rintro e wx ⟨rfl, rfl⟩
      clear T
      have T := make_any S2.out.l.ost.st S2.out.l.V ((exN a s 4 : Nat))
      rw [P2.out] at T
      unfold ptrV at T
      have T := Lib.hid T
      go_wp2_with fail
      refine T.out.mono ?_
      intro e w_3 hout
      obtain ⟨want, a3, rfl, s3, ex, pN, aN, sN2, fr⟩ := S2.out.make2 (by omega) hout
      have RL' := Lib.hid (RL.out.fr fr NEL.out)
      clear RL
      have RL := RL'
      clear RL'
      have RM' := Lib.hid (RM.out.fr fr NEM.out)
      clear RM
      have RM := RM'
      clear RM'
      clear fr
      clear hout T
      have sN2 : ∀ val, Says 4 a3.cs val want = fE s fx 4 val := fun val => by
        rw [sN2, exN_says 4 (by omega), FX.out]
      have SX_nx_3 := Lib.hid (Says_at AT_nx_2.out ex S2.out.good s3.good SX_nx_2.out)
      have AT_nx_3 := Lib.hid (AT_nx_2.out.ext ex)
      have SX_want_3 := Lib.hid sN2
      have AT_want_3 := Lib.hid aN
      have P3 := Lib.hid (pN.trans P2.out)
      have S3 := Lib.hid s3
      clear SX_nx_2 AT_nx_2 s3 ex pN aN sN2 S2 P2
      have T := exists_good S3.out.l.ost S3.out.quan S3.out.nq S3.out.l.V v4room AT_nx_3.out (A := (some ⟨b, off, none⟩)) (cap := cl) (xs := l) (by omega) HH.out.lt RL.out.rd
      rw [both_self, show (fun val => Says 4 a3.cs val nx) = fx from funext SX_nx_3.out] at T
      have T := Lib.hid T
      go_wp2_with fail
      refine T.out.mono ?_
      intro e w_4 hout
      obtain ⟨n, a4, rfl, s4, ex, pN, aN, sN2, fr⟩ := S3.out.op2 (by omega) hout
      have RL' := Lib.hid (RL.out.fr fr NEL.out)
      clear RL
      have RL := RL'
      clear RL'
      have RM' := Lib.hid (RM.out.fr fr NEM.out)
      clear RM
      have RM := RM'
      clear RM'
      clear fr
      clear hout T
      have sN2 : ∀ val, Says 4 a4.cs val n = fE s fx 4 val := fun val => by rw [sN2, exF_set (HH.out)]
      have SX_nx_4 := Lib.hid (Says_at AT_nx_3.out ex S3.out.good s4.good SX_nx_3.out)
      have AT_nx_4 := Lib.hid (AT_nx_3.out.ext ex)
      have SX_want_4 := Lib.hid (Says_at AT_want_3.out ex S3.out.good s4.good SX_want_3.out)
      have AT_want_4 := Lib.hid (AT_want_3.out.ext ex)
      have SX_n_4 := Lib.hid sN2
      have AT_n_4 := Lib.hid aN
      have P4 := Lib.hid (pN.trans P3.out)
      have S4 := Lib.hid s4
      clear SX_nx_3 AT_nx_3 SX_want_3 AT_want_3 s4 ex pN aN sN2 S3 P3
      have T := exists_good S4.out.l.ost S4.out.quan S4.out.nq S4.out.l.V v4room AT_nx_4.out (A := Am) (cap := cm) (xs := ml) (by have := LML.out; omega) HML.out.lt RM.out.rd
      rw [both_self, show (fun val => Says 4 a4.cs val nx) = fx from funext SX_nx_4.out] at T
      have T := Lib.hid T
      go_wp2_with fail
      refine T.out.mono ?_
      intro e w_5 hout
      obtain ⟨m, a5, rfl, s5, ex, pN, aN, sN2, fr⟩ := S4.out.op2 (by omega) hout
      have RL' := Lib.hid (RL.out.fr fr NEL.out)
      clear RL
      have RL := RL'
      clear RL'
      have RM' := Lib.hid (RM.out.fr fr NEM.out)
      clear RM
      have RM := RM'
      clear RM'
      clear fr
      clear hout T
      have sN2 : ∀ val, Says 4 a5.cs val m = fE s fx 4 val := fun val => by rw [sN2, exF_set (HML.out)]
      have SX_nx_5 := Lib.hid (Says_at AT_nx_4.out ex S4.out.good s5.good SX_nx_4.out)
      have AT_nx_5 := Lib.hid (AT_nx_4.out.ext ex)
      have SX_want_5 := Lib.hid (Says_at AT_want_4.out ex S4.out.good s5.good SX_want_4.out)
      have AT_want_5 := Lib.hid (AT_want_4.out.ext ex)
      have SX_n_5 := Lib.hid (Says_at AT_n_4.out ex S4.out.good s5.good SX_n_4.out)
      have AT_n_5 := Lib.hid (AT_n_4.out.ext ex)
      have SX_m_5 := Lib.hid sN2
      have AT_m_5 := Lib.hid aN
      have P5 := Lib.hid (pN.trans P4.out)
      have S5 := Lib.hid s5
      clear SX_nx_4 AT_nx_4 SX_want_4 AT_want_4 SX_n_4 AT_n_4 s5 ex pN aN sN2 S4 P4
      have E1 : Hid (n = want) := same_node S5.out.good AT_n_5.out AT_want_5.out fun val => by
        rw [SX_n_5.out, SX_want_5.out]

      have E2 : Hid (m = want) := same_node S5.out.good AT_m_5.out AT_want_5.out fun val => by
        rw [SX_m_5.out, SX_want_5.out]

      have AK := Lib.hid (fun w => awake5 w)
      have ee0 := E1.out
      have ee1 := E2.out
      clear SX_nx_5 AT_nx_5 SX_want_5 AT_want_5 SX_n_5 AT_n_5 SX_m_5 AT_m_5 E1 E2 P5 RL RM NEL NEM HML LML
      subst ee0
      subst ee1
      go_wp2_with fail
      refine (AK.out _).mono ?_
      rintro e w_e ⟨rfl, hb⟩
      have BL := Lib.hid (S5.out.below.trans (hb.mono S5.out.below.size))
      clear hb AK S5
      go_wp2_with fail
      go_ret
      exact ⟨rfl, BL.out⟩
    · obtain ⟨x', hx⟩ : ∃ x', l[j - 1]? = some x' := ⟨_, List.getElem?_eq_getElem (by omega)⟩
      have cx := (hbel.cell (p := ⟨b, off + (j - 1), none⟩) BL.out).trans (HC.out (j - 1) x' hx)
      have DR := Lib.hid (drop_rev hx)
      obtain ⟨j', rfl⟩ : ∃ j', j = j' + 1 := ⟨j - 1, by omega⟩
      rw [show j' + 1 - 1 = j' by omega] at cx DR
      rw [show (((j' + 1 : Nat) : Int) - 1) = (j' : Int) by omega]
      have hle : ((l.drop (j' + 1)).reverse).length ≤ 4 := by simp; omega
      have hj4 : (j' : Int) < 4 := by omega
      have hjl : (j' : Int) < l.length := by omega
      go_wp2_with (at_builtin; refine wpList_append_own _ rfl _ _ 34 rfl wl.heap.size 3 i0 (.int .i64 0) 1 8 Try.underlying34 hi hz0 hz1 hz2 rfl (by decide) _ _ _ rfl (hown.alloc _) ⟨wr.heap.size, 0, none⟩ 1 1 [.int .i64 (x' : Int)] rfl rfl ?d1 ?d2 ?d3 ?d4 ?d5 ?_)
      case d1 =>
        intro i u hu
        match i, hu with
        | 0, hu => simp at hu; subst hu; simp [Addr.add]
      case d2 => intro u hu; simp at hu; subst hu; rfl
      case d3 => unfold maxLen; omega
      case d4 => omega
      case d5 => simp; omega
      intro v' w1 hown' hgrow _
      have HO : Hid (IRow w1 wl.heap.size v' ((l.drop j').reverse)) := Lib.hid (by
        rw [DR.out]
        show w1.ownsRow _ _ _ v' ((l.drop (j' + 1)).reverse ++ [x']).length ((((l.drop (j' + 1)).reverse ++ [x']).map fun (x : Nat) => (x : Int)).map (Value.int .i64))
        simpa using hown')
      have hb1 : Below wl.heap.size wl w1 := (hbel.alloc (by omega) _).grown hgrow (by simp; omega) (by
        intro g hg
        rcases hown.2 with ⟨rfl, _⟩ | ⟨g', cap, cur, rfl, hb, _⟩
        · simp [Value.ownBlock] at hg
        · simp [Value.ownBlock] at hg; omega)
      clear hown' hgrow hown hbel cx hle
      go_wp2_with fail
      go_roundw
      case rel => exact ⟨j', by omega, by go_num, HO.out, hb1⟩
      case measure => simp [intOf]; try omega

theorem quanExists_walk (x z : Int) (w : World) (_hx : (Lit.int .i64 x).wf = true) (_hz : (Lit.int .i64 z).wf = true) :
    Calls Try.prog 4 #[.int .i64 x, .int .i64 z] w fun e w' => e = .returned (.bool true) ∧ Below w.heap.size w w' := by
  obtain ⟨s, hs, es⟩ := low4 z
  by_cases h0 : s = 0
  · subst h0; exact qexists_none x z es w
  · exact qexists_some x z es (listN_ne hs h0) w

namespace quanExists
set_option linter.unusedVariables false
theorem own : ownKnob Try.prog.godebug = none := by kernel_rfl
theorem laidOut : laidOutB Try.prog = true := by kernel_rfl
set_option maxRecDepth 100000 in
theorem lifted (os : Os) (started : os.Started) (H : Type) (enc : TypeId × Value → H) :
    ReturnsInHanded {} Try.checked os 4 .any (Rows.quanExistsSpec.pre6 enc Try.prog Try.f4 Rows.quanExistsRow.domain false) (Rows.quanExistsSpec.post enc Try.prog Try.f4 false true false false) := by
  refine returnsInHanded_of_change (C := Try.checked) own started (by kernel_rfl) Try.func4
    (ChangeSpec.witness6 (enc := enc) (C := Try.checked) false ⟨#[], #[.int .i64 0, .int .i64 0], []⟩ 8 (by kernel_rfl) (by kernel_rfl) (by kernel_rfl) (by kernel_rfl)) ?_
  intro W base args ds gs before hval0 hW hcnd hsz
  have hval : ∀ (j : Nat) t v, Try.f4.params[j]? = some t → args[j]? = some v → Value.okWide Try.prog W .any base t v := hval0
  have hW' := hW
  obtain ⟨p, q, hA0, hV, rfl, hfz, hnd⟩ := hW
  have hA : DataW.TrodAll enc Try.prog W 0 (fun _ => true) true Try.f4.params.toList args.toList ds p := hA0
  rw [Try.params4] at hA hval
  obtain ⟨v0, vs0, d0, ds0, p0, q0, hargs, rfl, rfl, h0, r0⟩ := trodAll_cons hA
  obtain ⟨v1, vs1, d1, ds1, p1, q1, rfl, rfl, rfl, h1, r1⟩ := trodAll_cons r0
  obtain ⟨rfl, rfl, rfl⟩ := trodAll_nil r1
  obtain rfl : args = #[v0, v1] := by cases args; simp_all
  obtain ⟨rfl, rfl⟩ := trodVars_none hV
  obtain ⟨a0, rfl, rfl, rfl, w0⟩ := open_int Try.underlying3 (hval 0 3 v0 rfl rfl) h0
  obtain ⟨a1, rfl, rfl, rfl, w1⟩ := open_int Try.underlying3 (hval 1 3 v1 rfl rfl) h1
  clear hA0 hval0
  refine (quanExists_walk a0 a1 W w0 w1).mono fun e W' ⟨he, bel⟩ => ?_
  subst he
  exact ⟨_, rfl, _, _, _, [], _, [], hW', trodAll_mk1 (shut_bool Try.underlying4 _), (trodAll_cons_mk (shut_int Try.underlying3 w0) (trodAll_cons_mk (shut_int Try.underlying3 w1) trodAll_mk0)), rfl, bel.frame _, fun h => by cases h⟩
theorem over : Rows.quanExistsRow.holds Try.pinned (OpenSpec.ofChange Rows.quanExistsSpec) :=
  OpenClaim.holds_of_wide 4 Try.f4 rfl rfl rfl rfl rfl rfl rfl ⟨rfl, rfl, rfl, rfl, rfl⟩ rfl rfl rfl rfl rfl (by kernel_rfl) Try.func4 (by kernel_rfl)
    (of_decide_eq_true (by kernel_rfl)) (by unfold Func.isWrapper; first | (rw [if_pos (by decide +kernel)]; kernel_rfl) | (rw [if_neg (by decide +kernel)]; exact ⟨rfl, rfl⟩))
    (fun os started H enc _ => lifted os started H enc)
/-- THE STATEMENT. -/
theorem proved : Rows.QuanExistsSaid := over
end quanExists
#print axioms quanExists.proved
end Go.Proofs.Ytmbkkifopmbkaaa
