/- What may not be is refused, for any numbers and any list of variables; a store that nobody made answers nothing: the law returns true. No condition. -/
import Derived.Test.YtlmofadodhpkiaaMW
namespace Go.Proofs.Ytlmofadodhpkiaa
open Go.ChangeShapes Go.WideShapes Go.ChangeAt Go.RowKit Go.Maps

def goneC (k : Int) : Bool := decide (k < 0) || decide (1 < k)
theorem goneC_lt {k : Int} (h : k < 0) : goneC k = true := by unfold goneC; rw [decide_eq_true h]; rfl
theorem goneC_gt {k : Int} (h : 1 < k) : goneC k = true := by unfold goneC; rw [decide_eq_true h, Bool.or_true]
theorem goneC_no {k : Int} (h1 : ¬ k < 0) (h2 : ¬ 1 < k) : goneC k = false := by unfold goneC; rw [decide_eq_false h1, decide_eq_false h2]; rfl
def badC (m : Int) : Bool := decide (m < 0) || decide (16384 < m)

theorem there6 (k : Int) : thereB first6 k = !goneC k := by
  unfold thereB goneC first6
  by_cases h0 : k < 0
  · rw [decide_eq_true h0, decide_eq_false (by omega)]; rfl
  · by_cases h1 : 1 < k
    · rw [decide_eq_false h0, decide_eq_true h1, List.getElem?_eq_none (by simp; omega)]
      simp
    · rcases (by omega : k = 0 ∨ k = 1) with rfl | rfl <;> decide

theorem is6 {k : Int} (h : goneC k = false) : ∃ (n : Nat) (c : Nd), k = n ∧ Is first6 n c ∧ n < 2 := by
  have := there6 k
  rw [h] at this
  obtain ⟨n, c, e, hc⟩ := thereB_true this
  refine ⟨n, c, e, hc, ?_⟩
  have := hc.lt
  simpa [first6] using this

section
variable {w wr : World} {m : Mem}
abbrev hd6 : Hd := ⟨4, 1000, 2, 2, 0, 0⟩

theorem sat_code (s : CSt w m hd6 first6 2 wr) (k : Int) {A : Option Addr} {L : List Int} {c : Nat} (hr : Rd wr A (intsC L)) (hl : L.length ≤ 1000) :
    Calls Try.prog 18 #[ptrV m.s, .int .i64 k, .slice A L.length c] wr fun e w' => ∃ n x : Int, e = .returned (.tuple #[.int .i64 n, .int .i64 x]) ∧ Below wr.heap.size wr w' ∧ (x == 1) = !okUp (fun i => L.getD i 0) L.length ∧ (okUp (fun i => L.getD i 0) L.length = true → (x == 3) = goneC k) := by
  by_cases hL : ∃ ys, Lists 4 L ys
  · have ok := okUp_lists.2 hL
    obtain ⟨ys, hy⟩ := hL
    cases hg : goneC k with
    | true =>
      refine (sat_none s.st (by rw [there6, hg]; rfl) hr hl hy).mono ?_
      rintro e w' ⟨rfl, hb⟩
      exact ⟨0, 3, rfl, hb, by rw [ok]; rfl, fun _ => rfl⟩
    | false =>
      obtain ⟨j, d, rfl, hd, hj⟩ := is6 hg
      refine (sat_yes s.st hd hr hl hy).mono ?_
      rintro e w' ⟨n, x, rfl, hb, hout⟩
      have hh : Has first6 j ys := by
        intro i d' p h2
        exfalso
        have : i = j := by
          cases p with
          | self => rfl
          | low h => omega
          | high h => omega
        omega
      obtain ⟨-, rfl, -⟩ := hout.resolve_right fun h => h.1 hh
      exact ⟨n, 0, rfl, hb, by rw [ok]; rfl, fun _ => rfl⟩
  · have ok : okUp (fun i => L.getD i 0) L.length = false := by
      cases h : okUp (fun i => L.getD i 0) L.length with
      | false => rfl
      | true => exact absurd (okUp_lists.1 h) hL
    refine (sat_bad (V := 4) (by omega) (fun w' hb => vars_yes (s.st.keep hb)) k hr hl hL).mono ?_
    rintro e w' ⟨rfl, hb⟩
    exact ⟨0, 1, rfl, hb, by rw [ok]; rfl, fun h => by rw [ok] at h; cases h⟩

theorem asks_code (s : CSt w m hd6 first6 2 wr) (k : Int) :
    Calls Try.prog 14 #[ptrV m.s, .int .i64 k] wr fun e w' => ∃ (v : Value) (x : Int), e = .returned (.tuple #[v, .int .i64 x]) ∧ Below wr.heap.size wr w' ∧ (x == 3) = goneC k := by
  cases hg : goneC k with
  | true =>
    refine (asks_no s.st (by rw [there6, hg]; rfl)).mono ?_
    rintro e w' ⟨rfl, hb⟩
    exact ⟨_, 3, rfl, hb, rfl⟩
  | false =>
    obtain ⟨j, d, rfl, hd, hj⟩ := is6 hg
    refine (asks_any s.st hd).mono ?_
    rintro e w' ⟨v, p, rfl, -, -, hb⟩
    exact ⟨v, 0, rfl, hb, rfl⟩

theorem cubes_code (s : CSt w m hd6 first6 2 wr) (k most : Int) :
    Calls Try.prog 22 #[ptrV m.s, .int .i64 k, .int .i64 most] wr fun e w' => ∃ (v : Value) (x : Int), e = .returned (.tuple #[v, .int .i64 x]) ∧ Below wr.heap.size wr w' ∧ (x == 1) = badC most := by
  by_cases hM : 0 ≤ most ∧ most ≤ 16384
  · have hb0 : badC most = false := by unfold badC; rw [decide_eq_false (by omega), decide_eq_false (by omega)]; rfl
    cases hg : goneC k with
    | true =>
      refine (cubes_ref (x := 3) hM (by omega) (fun w' hb => cref_no (s.st.keep hb).lay k (by rw [there6, hg]; rfl))).mono ?_
      rintro e w' ⟨rfl, hb⟩
      exact ⟨_, 3, rfl, hb, by rw [hb0]; rfl⟩
    | false =>
      obtain ⟨j, d, rfl, hd, hj⟩ := is6 hg
      obtain ⟨mo, rfl⟩ : ∃ mo : Nat, most = mo := ⟨most.toNat, by omega⟩
      refine (cubes_yes s.st rfl hd (by omega)).mono ?_
      rintro e w' ⟨v, x, W, rfl, -, hb, hout⟩
      refine ⟨v, x, rfl, hb, ?_⟩
      rcases hout with ⟨_, rfl, _⟩ | ⟨_, rfl, _⟩ <;> rw [hb0] <;> rfl
  · have hb1 : badC most = true := by
      unfold badC
      by_cases h : most < 0
      · rw [decide_eq_true h]; rfl
      · rw [decide_eq_false h, decide_eq_true (by omega)]; rfl
    refine (cubes_most hM).mono ?_
    rintro e w' ⟨rfl, hb⟩
    exact ⟨_, 1, rfl, hb, by rw [hb1]; rfl⟩
end

def zeroSt : Array Value := #[.pointer none, .int .i64 0, .int .i64 0, .slice none 0 0, .pointer none, .int .i64 0, .int .i64 0, .int .i64 0, .int .i64 0]

set_option maxHeartbeats 80000000 in
set_option maxRecDepth 100000 in
theorem cnob_core (k most : Int) (w : World) {A : Option Addr} {c_ : Nat} {L : List Int} (hr : Rd w A (intsC L)) : Calls Try.prog 9 #[.int .i64 k, .int .i64 most, .slice A L.length c_] w fun e w' => e = .returned (.bool true) ∧ Below w.heap.size w w' := by
  have BG := Lib.hid (begun6 w)
  have AW := Lib.hid (fun w => awake6 w)
  have RD0 := Lib.hid hr
  clear hr
  go_enter Try.func9, Try.ntmps9
  go_wp2_with fail
  refine BG.out.mono ?_
  rintro e w1 ⟨m1, rfl, s1⟩
  have S1 := Lib.hid s1
  unfold ptrV
  clear s1 BG
  by_cases hl : 100 < L.length
  · have hd : decide ((100 : Int) < (L.length : Int)) = true := by simp; omega
    clear RD0
    go_wp2_with fail
    refine (AW.out _).mono ?_
    rintro e w9 ⟨rfl, hb9⟩
    have B9 := Lib.hid (S1.out.below.trans (hb9.mono S1.out.below.size))
    clear hb9
    go_wp2_with fail
    go_ret
    exact ⟨rfl, B9.out⟩
  have hd : decide ((100 : Int) < (L.length : Int)) = false := by simp; omega
  have LL : Hid (L.length ≤ 100) := by show _ ≤ _; omega
  have hl' : (L.length : Int) ≤ 100 := by omega
  clear hl
  go_upto_region 4 with fail
  go_cut [9] from 46 to 51 (fun v9 wx => v9 = .bool (goneC k) ∧ w1 = wx)
  case first =>
    by_cases h1 : k < 0
    · have d1 : decide (k < 0) = true := decide_eq_true h1
      have HB := Lib.hid (goneC_lt h1)
      clear h1
      go_wp2_with fail
      go_meet
      exact ⟨by rw [HB.out], rfl⟩
    · by_cases h2 : 1 < k
      · have d1 : decide (k < 0) = false := decide_eq_false h1
        have d2 : decide (1 < k) = true := decide_eq_true h2
        have HB := Lib.hid (goneC_gt h2)
        clear h1 h2
        go_wp2_with fail
        go_meet
        exact ⟨by rw [HB.out], rfl⟩
      · have d1 : decide (k < 0) = false := decide_eq_false h1
        have d2 : decide (1 < k) = false := decide_eq_false h2
        have HB := Lib.hid (goneC_no h1 h2)
        clear h1 h2
        go_wp2_with fail
        go_meet
        exact ⟨by rw [HB.out], rfl⟩
  case rest =>
    obtain ⟨rfl, hw⟩ := hcut
    subst hw
    have SC := Lib.hid (fun (wr : World) (s : CSt w m1 hd6 first6 2 wr) => sat_code s k (c := c_) (RD0.out.keep s.below) (by have := LL.out; omega))
    have AC := Lib.hid (fun (wr : World) (s : CSt w m1 hd6 first6 2 wr) => asks_code s k)
    have CC := Lib.hid (fun (wr : World) (s : CSt w m1 hd6 first6 2 wr) => cubes_code s k most)
    generalize goneC k = gone at *
    have RDW : Hid (Rd w1 A (intsC L)) := Lib.hid (RD0.out.keep S1.out.below)
    go_wp2_with fail
    go_loopw [10, 11, 12] (fun ov iv _ wr => ∃ i : Nat, i ≤ L.length ∧ iv = .int .i64 (i : Int) ∧ ov = .bool (!okUp (fun i => L.getD i 0) i) ∧ ∃ q, wr = w1.drewN q) (fun _ iv _ _ => L.length - (intOf iv).toNat)
    case atStart => exact ⟨0, Nat.zero_le _, rfl, rfl, 0, rfl⟩
    case round =>
      obtain ⟨i, hi, rfl, rfl, q0, hq0⟩ := hrel
      obtain ⟨wa, rfl⟩ : ∃ q, q = wr := ⟨wr, rfl⟩
      have HQ0 := Lib.hid hq0
      have BA : Hid (Below w1.heap.size w1 wa) := by rw [hq0]; exact Lib.hid (below_drewN0 _ _)
      clear hq0
      by_cases hlt : i < L.length
      · have hlt' : (i : Int) < L.length := by omega
        obtain ⟨b, off, rfl, hb, hc⟩ : ∃ b off, A = some ⟨b, off, none⟩ ∧ b < w1.heap.size ∧ ∀ j u, (intsC L)[j]? = some u → w1.cell? ⟨b, off + j, none⟩ = some u := by
          rcases RDW.out with hnil | h
          · exfalso
            have : L = [] := by simpa [intsC] using hnil
            rw [this] at hlt
            simp at hlt
          · exact h
        have EL : Hid (∀ j, j < L.length → wa.cell? ⟨b, off + j, none⟩ = some (.int .i64 (L.getD j 0))) := fun j hj => by
          rw [BA.out.cell (by exact hb)]
          refine hc j _ ?_
          unfold intsC
          rw [List.getElem?_map, List.getD_eq_getElem?_getD, List.getElem?_eq_getElem hj]
          rfl
        have ci := EL.out i hlt
        have BI : Hid (∀ v, okIn (fun i => L.getD i 0) v i 0 = (v && (decide (0 ≤ L.getD i 0) && decide (L.getD i 0 ≤ 3)))) := fun v => rfl
        have NI : Hid (∀ v j, okIn (fun i => L.getD i 0) v i (j + 1) = (okIn (fun i => L.getD i 0) v i j && !decide (L.getD i 0 = L.getD j 0))) := fun v j => rfl
        have UP : Hid (okUp (fun i => L.getD i 0) (i + 1) = okIn (fun i => L.getD i 0) (okUp (fun i => L.getD i 0) i) i i) := rfl
        clear hc RDW BA
        obtain ⟨xi, hxi⟩ : ∃ xi, xi = L.getD i 0 := ⟨_, rfl⟩
        rw [← hxi] at ci BI NI
        have HXI := Lib.hid hxi
        clear hxi
        go_upto_region 9 with fail
        go_cut [10] from 52 to 89 (fun v10 wx => v10 = .bool (!okIn (fun i => L.getD i 0) (okUp (fun i => L.getD i 0) i) i 0) ∧ wa = wx)
        case first =>
          cases hob : okUp (fun i => L.getD i 0) i with
          | false =>
            have ST0 := Lib.hid (BI.out false)
            have HOB := Lib.hid hob
            clear hob
            go_wp2_with fail
            go_meet
            exact ⟨by rw [HOB.out, ST0.out]; rfl, rfl⟩
          | true =>
            have HOB := Lib.hid hob
            clear hob
            by_cases h1 : xi < 0
            · have d1 : decide (xi < 0) = true := decide_eq_true h1
              have ST0 : Hid (okIn (fun i => L.getD i 0) true i 0 = false) := by show _ = _; rw [BI.out, decide_eq_false (by omega : ¬ 0 ≤ xi)]; rfl
              clear h1
              go_wp2_with fail
              go_meet
              exact ⟨by rw [HOB.out, ST0.out]; rfl, rfl⟩
            · by_cases h2 : 3 < xi
              · have d1 : decide (xi < 0) = false := decide_eq_false h1
                have d2 : decide (3 < xi) = true := decide_eq_true h2
                have ST0 : Hid (okIn (fun i => L.getD i 0) true i 0 = false) := by show _ = _; rw [BI.out, decide_eq_false (by omega : ¬ xi ≤ 3), Bool.and_false]; rfl
                clear h1 h2
                go_wp2_with fail
                go_meet
                exact ⟨by rw [HOB.out, ST0.out]; rfl, rfl⟩
              · have d1 : decide (xi < 0) = false := decide_eq_false h1
                have d2 : decide (3 < xi) = false := decide_eq_false h2
                have ST0 : Hid (okIn (fun i => L.getD i 0) true i 0 = true) := by show _ = _; rw [BI.out, decide_eq_true (by omega : 0 ≤ xi), decide_eq_true (by omega : xi ≤ 3)]; rfl
                clear h1 h2
                go_wp2_with fail
                go_meet
                exact ⟨by rw [HOB.out, ST0.out]; rfl, rfl⟩
        case rest =>
          obtain ⟨rfl, hw⟩ := hcut
          subst hw
          clear BI
          go_wp2_with fail
          go_loopw [10, 12] (fun ov jv wr => ∃ j : Nat, j ≤ i ∧ jv = .int .i64 (j : Int) ∧ ov = .bool (!okIn (fun i => L.getD i 0) (okUp (fun i => L.getD i 0) i) i j) ∧ ∃ q, wr = wa.drewN q) (fun _ jv _ => i - (intOf jv).toNat)
          case atStart => exact ⟨0, Nat.zero_le _, rfl, rfl, 0, rfl⟩
          case round =>
            obtain ⟨j, hj, rfl, rfl, q1, rfl⟩ := hrel
            by_cases hji : j < i
            · have hji' : (j : Int) < i := by omega
              have hjl : (j : Int) < L.length := by omega
              have cj := EL.out j (by omega)
              have NJ := Lib.hid (NI.out (okUp (fun i => L.getD i 0) i) j)
              obtain ⟨xj, hxj⟩ : ∃ xj, xj = L.getD j 0 := ⟨_, rfl⟩
              rw [← hxj] at cj NJ
              clear hxj
              cases hin : okIn (fun i => L.getD i 0) (okUp (fun i => L.getD i 0) i) i j with
              | false =>
                rw [hin] at NJ
                have FX : Hid (okIn (fun i => L.getD i 0) (okUp (fun i => L.getD i 0) i) i (j + 1) = false) := NJ.out
                clear hin NJ cj
                rw [Bool.not_false]
                go_wp2_with fail
                go_quiet (fail)
                go_wp2_with fail
                go_roundw
                case rel => exact ⟨j + 1, by omega, by go_num, by rw [FX.out]; rfl, _, rfl⟩
                case measure => simp [intOf]; omega
              | true =>
                rw [hin] at NJ
                by_cases hx : xi = xj
                · have FX : Hid (okIn (fun i => L.getD i 0) (okUp (fun i => L.getD i 0) i) i (j + 1) = false) := by show _ = _; rw [NJ.out, decide_eq_true hx]; rfl
                  subst hx
                  clear hin NJ
                  rw [Bool.not_true]
                  go_wp2_with fail
                  go_quiet (fail)
                  go_wp2_with fail
                  go_roundw
                  case rel => exact ⟨j + 1, by omega, by go_num, by rw [FX.out]; simp, _, rfl⟩
                  case measure => simp [intOf]; omega
                · have FX : Hid (okIn (fun i => L.getD i 0) (okUp (fun i => L.getD i 0) i) i (j + 1) = true) := by show _ = _; rw [NJ.out, decide_eq_false hx]; rfl
                  have hxb : (xi == xj) = false := by simpa using hx
                  clear hin NJ hx
                  rw [Bool.not_true]
                  go_wp2_with fail
                  go_quiet (fail)
                  go_wp2_with fail
                  go_roundw
                  case rel => exact ⟨j + 1, by omega, by go_num, by rw [FX.out]; simp, _, rfl⟩
                  case measure => simp [intOf]; omega
            · obtain rfl : j = i := by omega
              rw [← UP.out]
              go_wp2_with fail
              go_roundw
              case rel => exact ⟨j + 1, by omega, by go_num, rfl, q0 + q1, by rw [HQ0.out, World.drewN_drewN]⟩
              case measure => simp [intOf]; omega
      · obtain rfl : i = L.length := by omega
        have S2 := Lib.hid (S1.out.keep BA.out)
        have T := Lib.hid (SC.out _ S2.out)
        clear S1 BA RDW SC
        generalize okUp (fun i => L.getD i 0) L.length = ok at *
        unfold ptrV at T
        go_wp2_with fail
        refine T.out.mono ?_
        rintro e w2 ⟨n2, x2, rfl, hb2, hz2, hg2⟩
        have S3 := Lib.hid (S2.out.keep hb2)
        have T := Lib.hid (AC.out _ S3.out)
        clear S2 hb2 AC
        unfold ptrV at T
        go_wp2_with fail
        refine T.out.mono ?_
        rintro e w3 ⟨v3, x3, rfl, hb3, hz3⟩
        have S4 := Lib.hid (S3.out.keep hb3)
        have T := Lib.hid (CC.out _ S4.out)
        clear S3 hb3 CC
        unfold ptrV at T
        go_wp2_with fail
        refine T.out.mono ?_
        rintro e w4 ⟨v4, x4, rfl, hb4, hz4⟩
        have B4 := Lib.hid ((S4.out.keep hb4).below)
        have HZ2 := Lib.hid hz2
        have HG2 := Lib.hid hg2
        have HZ3 := Lib.hid hz3
        have HZ4 := Lib.hid hz4
        clear S4 hb4 T hz2 hg2 hz3 hz4
        go_upto_region 17 with fail
        go_cut [140] from 110 to 140 (fun v140 wx => v140 = .bool false ∧ w4 = wx)
        case first =>
          by_cases h1 : most < 0
          · have d1 : decide (most < 0) = true := decide_eq_true h1
            have e4 : (x4 == 1) = true := by rw [HZ4.out]; unfold badC; rw [d1]; rfl
            clear h1 HZ4
            cases ok with
            | false =>
              have e2 : (x2 == 1) = true := HZ2.out
              clear HG2 HZ2
              cases gone with
              | true =>
                have e3 : (x3 == 3) = true := HZ3.out
                clear HZ3
                go_wp2_with fail
                go_meet
                exact ⟨rfl, rfl⟩
              | false =>
                have e3 : (x3 == 3) = false := HZ3.out
                clear HZ3
                go_wp2_with fail
                go_meet
                exact ⟨rfl, rfl⟩
            | true =>
              have e2 : (x2 == 1) = false := HZ2.out
              cases gone with
              | true =>
                have e3 : (x3 == 3) = true := HZ3.out
                have e5 : (x2 == 3) = true := HG2.out rfl
                clear HZ3 HG2 HZ2
                go_wp2_with fail
                go_meet
                exact ⟨rfl, rfl⟩
              | false =>
                have e3 : (x3 == 3) = false := HZ3.out
                have e5 : (x2 == 3) = false := HG2.out rfl
                clear HZ3 HG2 HZ2
                go_wp2_with fail
                go_meet
                exact ⟨rfl, rfl⟩
          · by_cases h2 : 16384 < most
            · have d1 : decide (most < 0) = false := decide_eq_false h1
              have d2 : decide (16384 < most) = true := decide_eq_true h2
              have e4 : (x4 == 1) = true := by rw [HZ4.out]; unfold badC; rw [d1, d2]; rfl
              clear h1 h2 HZ4
              cases ok with
              | false =>
                have e2 : (x2 == 1) = true := HZ2.out
                clear HG2 HZ2
                cases gone with
                | true =>
                  have e3 : (x3 == 3) = true := HZ3.out
                  clear HZ3
                  go_wp2_with fail
                  go_meet
                  exact ⟨rfl, rfl⟩
                | false =>
                  have e3 : (x3 == 3) = false := HZ3.out
                  clear HZ3
                  go_wp2_with fail
                  go_meet
                  exact ⟨rfl, rfl⟩
              | true =>
                have e2 : (x2 == 1) = false := HZ2.out
                cases gone with
                | true =>
                  have e3 : (x3 == 3) = true := HZ3.out
                  have e5 : (x2 == 3) = true := HG2.out rfl
                  clear HZ3 HG2 HZ2
                  go_wp2_with fail
                  go_meet
                  exact ⟨rfl, rfl⟩
                | false =>
                  have e3 : (x3 == 3) = false := HZ3.out
                  have e5 : (x2 == 3) = false := HG2.out rfl
                  clear HZ3 HG2 HZ2
                  go_wp2_with fail
                  go_meet
                  exact ⟨rfl, rfl⟩
            · have d1 : decide (most < 0) = false := decide_eq_false h1
              have d2 : decide (16384 < most) = false := decide_eq_false h2
              have e4 : (x4 == 1) = false := by rw [HZ4.out]; unfold badC; rw [d1, d2]; rfl
              clear h1 h2 HZ4
              cases ok with
              | false =>
                have e2 : (x2 == 1) = true := HZ2.out
                clear HG2 HZ2
                cases gone with
                | true =>
                  have e3 : (x3 == 3) = true := HZ3.out
                  clear HZ3
                  go_wp2_with fail
                  go_meet
                  exact ⟨rfl, rfl⟩
                | false =>
                  have e3 : (x3 == 3) = false := HZ3.out
                  clear HZ3
                  go_wp2_with fail
                  go_meet
                  exact ⟨rfl, rfl⟩
              | true =>
                have e2 : (x2 == 1) = false := HZ2.out
                cases gone with
                | true =>
                  have e3 : (x3 == 3) = true := HZ3.out
                  have e5 : (x2 == 3) = true := HG2.out rfl
                  clear HZ3 HG2 HZ2
                  go_wp2_with fail
                  go_meet
                  exact ⟨rfl, rfl⟩
                | false =>
                  have e3 : (x3 == 3) = false := HZ3.out
                  have e5 : (x2 == 3) = false := HG2.out rfl
                  clear HZ3 HG2 HZ2
                  go_wp2_with fail
                  go_meet
                  exact ⟨rfl, rfl⟩
        case rest =>
          obtain ⟨rfl, hw⟩ := hcut
          subst hw
          clear HZ2 HG2 HZ3 HZ4
          have g2 := at_oldC (.cells #[.pointer none, .pointer (some ⟨w4.heap.size, 0, none⟩)] 22) (heap_alloc_new w4 (.cells zeroSt 60))
          have g3 := at_newC (n := w4.heap.size + 1) (w := w4.alloc (.cells zeroSt 60)) (.cells #[.pointer none, .pointer (some ⟨w4.heap.size, 0, none⟩)] 22) (by simp)
          have b5 := ((Below.refl w4.heap.size w4).alloc (Nat.le_refl _) (.cells zeroSt 60)).alloc (by simp) (.cells #[.pointer none, .pointer (some ⟨w4.heap.size, 0, none⟩)] 22)
          have G2 := Lib.hid g2
          have G3 := Lib.hid g3
          have B5 := Lib.hid (B4.out.trans (b5.mono B4.out.size))
          clear b5 g2 g3 B4
          unfold zeroSt at G2 G3 B5
          go_wp2_with fail
          revert G2 G3 B5
          generalize ((w4.alloc (.cells #[.pointer none, .int .i64 0, .int .i64 0, .slice none 0 0, .pointer none, .int .i64 0, .int .i64 0, .int .i64 0, .int .i64 0] 60)).alloc (.cells #[.pointer none, .pointer (some ⟨w4.heap.size, 0, none⟩)] 22)) = w5
          generalize w4.heap.size + 1 = gl
          generalize w4.heap.size = gz
          intro G2 G3 B5
          go_loopw [20] (fun ix wr => ∃ i : Nat, i ≤ 2 ∧ ix = .int .i64 (i : Int) ∧ Below w5.heap.size w5 wr) (fun ix _ => 2 - (intOf ix).toNat)
          case atStart => exact ⟨0, by omega, rfl, Below.refl _ _⟩
          case round =>
            obtain ⟨i, hi, rfl, hb⟩ := hrel
            have HB := Lib.hid hb
            have CE := Lib.hid (fun (u : World) (j : Nat) (x : Value) (hu : Below w5.heap.size w5 u) (hx : w5.cell? ⟨gl, j, none⟩ = some x) => (hu.cell (p := ⟨gl, j, none⟩) (row_lt G3.out)).trans hx)
            have C0 : Hid (w5.cell? ⟨gl, 0, none⟩ = some (.pointer none)) := cell_of_row _ _ 0 _ _ _ G3.out
            have C1 : Hid (w5.cell? ⟨gl, 1, none⟩ = some (.pointer (some ⟨gz, 0, none⟩))) := cell_of_row _ _ 1 _ _ _ G3.out
            have NZ := Lib.hid (fun (u : World) (hu : Below w5.heap.size w5 u) => (.inr ⟨gz, rfl, cell_of_row _ _ 0 _ _ _ ((hu.block _ (row_lt G2.out)).trans G2.out)⟩ : NBs u (.pointer (some ⟨gz, 0, none⟩))))
            have NN : Hid (∀ u : World, Below w5.heap.size w5 u → NBs u (.pointer none)) := fun _ _ => .inl rfl
            have RDU := Lib.hid (fun (u : World) (hu : Below w5.heap.size w5 u) => RD0.out.keep (B5.out.trans (hu.mono B5.out.size)))
            clear hb
            rcases (by omega : i = 0 ∨ i = 1 ∨ i = 2) with rfl | rfl | rfl
            · have c := CE.out _ 0 _ HB.out C0.out
              have T := Lib.hid (asks_nbs (fun w' hb => NN.out w' (HB.out.trans (hb.mono HB.out.size))) k)
              go_wp2_with fail
              refine T.out.mono ?_
              rintro e v0 ⟨rfl, hb⟩
              have H0 := Lib.hid (HB.out.trans (hb.mono HB.out.size))
              clear hb T c
              have c := CE.out _ 0 _ H0.out C0.out
              have T := Lib.hid (sat_nob (cap := c_) (NN.out _ H0.out) k (RDU.out _ H0.out) (by have := LL.out; omega))
              go_wp2_with fail
              refine T.out.mono ?_
              rintro e v1 ⟨rfl, hb⟩
              have H1 := Lib.hid (H0.out.trans (hb.mono H0.out.size))
              clear hb T c
              have c := CE.out _ 0 _ H1.out C0.out
              have T := Lib.hid (cubes_nob (k := k) (most := most) (fun w' hb => NN.out w' (H1.out.trans (hb.mono H1.out.size))))
              go_wp2_with fail
              refine T.out.mono ?_
              rintro e v2 ⟨rfl, hb⟩
              have H2 := Lib.hid (H1.out.trans (hb.mono H1.out.size))
              clear hb T c
              have c := CE.out _ 0 _ H2.out C0.out
              have T := Lib.hid (each_nob (cap := c_) (NN.out _ H2.out) k most (RDU.out _ H2.out) (by have := LL.out; omega))
              go_wp2_with fail
              refine T.out.mono ?_
              rintro e v3 ⟨rfl, hb⟩
              have H3 := Lib.hid (H2.out.trans (hb.mono H2.out.size))
              clear hb T c
              have c := CE.out _ 0 _ H3.out C0.out
              have T := Lib.hid (first_nbs (NN.out _ H3.out) k)
              go_wp2_with fail
              refine T.out.mono ?_
              rintro e v9 ⟨rfl, rfl⟩
              clear T c
              go_wp2_with fail
              go_roundw
              case rel => exact ⟨1, by omega, rfl, H3.out⟩
              case measure => simp [intOf]
            · have c := CE.out _ 1 _ HB.out C1.out
              have T := Lib.hid (asks_nbs (fun w' hb => NZ.out w' (HB.out.trans (hb.mono HB.out.size))) k)
              go_wp2_with fail
              refine T.out.mono ?_
              rintro e v0 ⟨rfl, hb⟩
              have H0 := Lib.hid (HB.out.trans (hb.mono HB.out.size))
              clear hb T c
              have c := CE.out _ 1 _ H0.out C1.out
              have T := Lib.hid (sat_nob (cap := c_) (NZ.out _ H0.out) k (RDU.out _ H0.out) (by have := LL.out; omega))
              go_wp2_with fail
              refine T.out.mono ?_
              rintro e v1 ⟨rfl, hb⟩
              have H1 := Lib.hid (H0.out.trans (hb.mono H0.out.size))
              clear hb T c
              have c := CE.out _ 1 _ H1.out C1.out
              have T := Lib.hid (cubes_nob (k := k) (most := most) (fun w' hb => NZ.out w' (H1.out.trans (hb.mono H1.out.size))))
              go_wp2_with fail
              refine T.out.mono ?_
              rintro e v2 ⟨rfl, hb⟩
              have H2 := Lib.hid (H1.out.trans (hb.mono H1.out.size))
              clear hb T c
              have c := CE.out _ 1 _ H2.out C1.out
              have T := Lib.hid (each_nob (cap := c_) (NZ.out _ H2.out) k most (RDU.out _ H2.out) (by have := LL.out; omega))
              go_wp2_with fail
              refine T.out.mono ?_
              rintro e v3 ⟨rfl, hb⟩
              have H3 := Lib.hid (H2.out.trans (hb.mono H2.out.size))
              clear hb T c
              have c := CE.out _ 1 _ H3.out C1.out
              have T := Lib.hid (first_nbs (NZ.out _ H3.out) k)
              go_wp2_with fail
              refine T.out.mono ?_
              rintro e v9 ⟨rfl, rfl⟩
              clear T c
              go_wp2_with fail
              go_roundw
              case rel => exact ⟨2, by omega, rfl, H3.out⟩
              case measure => simp [intOf]
            · clear NZ CE C0 C1
              go_wp2_with fail
              refine (AW.out _).mono ?_
              rintro e w9 ⟨rfl, hb9⟩
              have B8 := B5.out.trans (HB.out.mono B5.out.size)
              have B9 := Lib.hid (B8.trans (hb9.mono B8.size))
              clear hb9 B8
              go_wp2_with fail
              go_ret
              exact ⟨rfl, B9.out⟩

set_option maxRecDepth 100000 in
/-- A slice of ints that came in reads as a list. -/
theorem arg_intsC {H : Type} {enc : TypeId × Value → H} {w : World} {r : Go.Reach} {base : Nat} {v : Value} {d : DataW H} {ps : List MemPlace}
    (h : DataW.Trod enc Try.prog w 0 (fun _ => true) true 27 v d ps) (hv : Value.okWide Try.prog w r base 27 v) : ∃ (A : Option Addr) (c : Nat) (l : List Int), v = .slice A l.length c ∧ Rd w A (intsC l) := by
  have cells : Try.prog.cellsOf 3 = 1 := by kernel_rfl
  obtain ⟨A, n, c, rfl⟩ := okWide_slice Try.underlying27 hv
  obtain ⟨fuel, hf⟩ := h
  rcases Go.ChangeShapes.open_ints Try.underlying27 Try.underlying3 cells hf with ⟨hcs, _⟩ | ⟨a, len, c', zs, hcs, _, hl, hm, hz, _, hcell, _⟩
  · simp [Value.cells] at hcs
    obtain ⟨rfl, rfl, rfl⟩ := hcs
    exact ⟨none, 0, [], rfl, .inl rfl⟩
  · simp [Value.cells] at hcs
    obtain ⟨rfl, rfl, rfl⟩ := hcs
    simp only [if_true] at hz
    refine ⟨_, c, zs.take n, by rw [List.length_take, Nat.min_eq_left (by omega)], ?_⟩
    by_cases h0 : n = 0
    · subst h0; exact .inl (by simp [intsC])
    · obtain ⟨b, off, sp⟩ := a
      have h1 := hcell 0 (by omega)
      have hsp : sp = none := by simpa [Addr.add] using World.cell?_spot h1
      subst hsp
      have h2 : ∀ i, i < zs.length → w.cell? ⟨b, off + i, none⟩ = some (.int .i64 (zs.getD i 0)) := by
        intro i hi
        have h3 := hcell i hi
        by_cases hz : i = 0
        · subst hz; simpa [Addr.add] using h3
        · simpa [Addr.add, hz] using h3
      refine .inr ⟨b, off, rfl, lt_of_cell (h2 0 (by omega)), fun j u hu => ?_⟩
      unfold intsC at hu
      rw [List.getElem?_map] at hu
      cases hx : (zs.take n)[j]? with
      | none => rw [hx] at hu; cases hu
      | some x =>
        rw [hx] at hu
        injection hu with hu
        rw [← hu]
        have hj := (List.getElem?_eq_some_iff.1 hx).1
        rw [List.length_take] at hj
        rw [List.getElem?_take, if_pos (by omega)] at hx
        rw [h2 j (by omega), List.getD_eq_getElem?_getD, hx]
        rfl

theorem countNobody_walk (k most : Int) (s : Value) (w : World) (_hk : (Lit.int .i64 k).wf = true) (_hv : (Lit.int .i64 most).wf = true) (h : ∃ (A : Option Addr) (c : Nat) (l : List Int), s = .slice A l.length c ∧ Rd w A (intsC l)) :
    Calls Try.prog 9 #[.int .i64 k, .int .i64 most, s] w fun e w' => e = .returned (.bool true) ∧ Below w.heap.size w w' := by
  obtain ⟨A, c, l, rfl, hr⟩ := h
  exact cnob_core k most w hr

namespace countNobody
set_option linter.unusedVariables false
theorem own : ownKnob Try.prog.godebug = none := by kernel_rfl
theorem laidOut : laidOutB Try.prog = true := by kernel_rfl
set_option maxRecDepth 100000 in
theorem lifted (os : Os) (started : os.Started) (H : Type) (enc : TypeId × Value → H) :
    ReturnsInHanded {} Try.checked os 9 .any (Rows.countNobodySpec.pre6 enc Try.prog Try.f9 Rows.countNobodyRow.domain false) (Rows.countNobodySpec.post enc Try.prog Try.f9 false true false false) := by
  refine returnsInHanded_of_change (C := Try.checked) own started (by kernel_rfl) Try.func9
    (ChangeSpec.witness6 (enc := enc) (C := Try.checked) false ⟨#[], #[.int .i64 0, .int .i64 0, .slice none 0 0], []⟩ 8 (by kernel_rfl) (by kernel_rfl) (by kernel_rfl) (by kernel_rfl)) ?_
  intro W base args ds gs before hval0 hW hcnd hsz
  have hval : ∀ (j : Nat) t v, Try.f9.params[j]? = some t → args[j]? = some v → Value.okWide Try.prog W .any base t v := hval0
  have hW' := hW
  obtain ⟨p, q, hA0, hV, rfl, hfz, hnd⟩ := hW
  have hA : DataW.TrodAll enc Try.prog W 0 (fun _ => true) true Try.f9.params.toList args.toList ds p := hA0
  rw [Try.params9] at hA hval
  obtain ⟨v0, vs0, d0, ds0, p0, q0, hargs, rfl, rfl, h0, r0⟩ := trodAll_cons hA
  obtain ⟨v1, vs1, d1, ds1, p1, q1, rfl, rfl, rfl, h1, r1⟩ := trodAll_cons r0
  obtain ⟨v2, vs2, d2, ds2, p2, q2, rfl, rfl, rfl, h2, r2⟩ := trodAll_cons r1
  obtain ⟨rfl, rfl, rfl⟩ := trodAll_nil r2
  obtain rfl : args = #[v0, v1, v2] := by cases args; simp_all
  obtain ⟨rfl, rfl⟩ := trodVars_none hV
  obtain ⟨a0, rfl, rfl, rfl, w0⟩ := open_int Try.underlying3 (hval 0 3 v0 rfl rfl) h0
  obtain ⟨a1, rfl, rfl, rfl, w1⟩ := open_int Try.underlying3 (hval 1 3 v1 rfl rfl) h1
  have k2 := h2
  have lt2 : ∀ x ∈ p2, x.block < W.heap.size := by obtain ⟨m, hm⟩ := k2; exact DataW.trod_lt m _ _ _ hm
  clear hA0 hval0
  refine (countNobody_walk a0 a1 v2 W w0 w1 (arg_intsC h2 (hval 2 27 v2 rfl rfl))).mono fun e W' ⟨he, bel⟩ => ?_
  subst he
  exact ⟨_, rfl, _, _, _, [], _, [], hW', trodAll_mk1 (shut_bool Try.underlying4 _), (trodAll_cons_mk (shut_int Try.underlying3 w0) (trodAll_cons_mk (shut_int Try.underlying3 w1) (trodAll_cons_mk (Below.trod laidOut (by kernel_rfl) (of_decide_eq_true (by kernel_rfl)) k2 bel lt2) trodAll_mk0))), rfl, bel.frame _, fun h => by cases h⟩
theorem over : Rows.countNobodyRow.holds Try.pinned (OpenSpec.ofChange Rows.countNobodySpec) :=
  OpenClaim.holds_of_wide 9 Try.f9 rfl rfl rfl rfl rfl rfl rfl ⟨rfl, rfl, rfl, rfl, rfl⟩ rfl rfl rfl rfl rfl (by kernel_rfl) Try.func9 (by kernel_rfl)
    (of_decide_eq_true (by kernel_rfl)) (by unfold Func.isWrapper; first | (rw [if_pos (by decide +kernel)]; kernel_rfl) | (rw [if_neg (by decide +kernel)]; exact ⟨rfl, rfl⟩))
    (fun os started H enc _ => lifted os started H enc)
/-- THE STATEMENT. -/
theorem proved : Rows.CountNobodySaid := over
end countNobody
#print axioms countNobody.proved
end Go.Proofs.Ytlmofadodhpkiaa
