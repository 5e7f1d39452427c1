/- For any two numbers and any list of numbers: what may not be is refused; what nobody made answers nothing, and does not fail: the law returns true. No condition. -/
import Derived.Test.YtmbkkifopmbkaaaMO
namespace Go.Proofs.Ytmbkkifopmbkaaa
open Go.ChangeShapes Go.WideShapes Go.ChangeAt Go.RowKit Go.Maps

def badB (v : Int) : Bool := !varB 4 v
def goneB (k : Int) : Bool := decide (k < 0) || decide (1 < k)
def codeR (bad gone : Bool) : Int := if bad then 1 else if gone then 3 else 0

theorem first4_none {k : Int} (h : goneB k = true) : thereB first4 k = false := by
  unfold goneB at h
  rw [Bool.or_eq_true] at h
  have h : k < 0 ∨ 1 < k := h.imp of_decide_eq_true of_decide_eq_true
  unfold thereB first4
  rcases h with h | h
  · rw [decide_eq_false (by omega)]; rfl
  · rw [List.getElem?_eq_none (by simp; omega)]
    simp
theorem not_gone {k : Int} (h : goneB k = false) : k = 0 ∨ k = 1 := by
  unfold goneB at h
  rw [Bool.or_eq_false_iff] at h
  have h1 := of_decide_eq_false h.1
  have h2 := of_decide_eq_false h.2
  omega

def RCode (W : World) (o q : Nat) (a : OS) (k : Int) (z : Int) (e : Ending) (w' : World) : Prop :=
  ∃ (n : Int) (a' : OS), e = .returned (.tuple #[.int .i64 n, .int .i64 z]) ∧ (z ≠ 0 → n = 0) ∧ QS W 100 o q a' 17 w' ∧ (goneB k = true → a' = a)

theorem QS.more {W : World} {B o q c c' : Nat} {a : OS} {w : World} (s : QS W B o q a c w) (h : c ≤ c') : QS W B o q a c' w := ⟨⟨s.l.ost, s.l.V, s.l.B, Nat.le_trans s.l.cnt h, s.l.below, s.l.own⟩, s.quan, s.nq, s.qW⟩

theorem at_not_gone {V : Nat} {cs : List Nd} (g : NGood V cs) {k : Int} (h : goneB k = false) : ∃ j : Nat, k = j ∧ At cs 0 j := by
  rcases not_gone h with rfl | rfl
  · exact ⟨0, rfl, g.at0 (by omega)⟩
  · exact ⟨1, rfl, g.at1 (by omega)⟩

theorem restrict_code {W : World} {o q : Nat} {a : OS} {w : World} (s : QS W 100 o q a 2 w) (h4 : a.cs = first4) (k v : Int) :
    Calls Try.prog 13 #[.pointer (some ⟨q, 0, none⟩), .int .i64 k, .int .i64 v, .bool true] w (RCode W o q a k (codeR (badB v) (goneB k))) := by
  have hV := s.l.V
  have bad : ∀ z, refQ a.h.V a.cs [v] [k] = z → z ≠ 0 → Calls Try.prog 13 #[.pointer (some ⟨q, 0, none⟩), .int .i64 k, .int .i64 v, .bool true] w (RCode W o q a k z) := by
    rintro z rfl hz
    refine (restrict_bad s.l.ost s.quan k v true hz).mono ?_
    rintro e w' ⟨rfl, hb⟩
    exact ⟨0, a, rfl, fun _ => rfl, (s.keep hb).more (by omega), fun _ => rfl⟩
  cases hb : badB v with
  | true =>
    have h1 : listB a.h.V [v] = false := by rw [hV]; unfold badB at hb; unfold listB; simp at hb; simp [hb]
    exact bad 1 (refQ_bad h1) (by omega)
  | false =>
    have hv : varB 4 v = true := by unfold badB at hb; simpa using hb
    have h1 : listB a.h.V [v] = true := by rw [hV]; unfold listB; simp [hv]
    cases hg : goneB k with
    | true => exact bad 3 (refQ_none h1 (by rw [h4]; simp [first4_none hg])) (by omega)
    | false =>
      obtain ⟨j, rfl, hj⟩ := at_not_gone s.good hg
      obtain ⟨vn, rfl⟩ : ∃ vn : Nat, v = vn := ⟨v.toNat, by simp [varB] at hv; omega⟩
      have hv4 : vn < 4 := by simp [varB] at hv; omega
      refine (restrict_good s.l.ost s.quan s.nq hV (by decide) true hv4 hj).mono ?_
      intro e w' hout
      obtain ⟨n, a', rfl, s', _⟩ := s.op (by omega) hout
      exact ⟨n, a', rfl, fun h => absurd rfl h, s', fun h => by rw [hg] at h; cases h⟩

def ECode (W : World) (z : Int) (e : Ending) (w' : World) : Prop := ∃ n : Int, e = .returned (.tuple #[.int .i64 n, .int .i64 z]) ∧ (z ≠ 0 → n = 0) ∧ Below W.heap.size W w'

theorem exists_code {W : World} {o q : Nat} {a : OS} {w : World} (s : QS W 100 o q a 17 w) {k : Int} (h4 : goneB k = true → a.cs = first4) {A : Option Addr} {c : Nat} {l : List Int} (hr : Rd w A (ints l)) (hl : l.length ≤ 1000) :
    Calls Try.prog 17 #[.pointer (some ⟨q, 0, none⟩), .int .i64 k, .slice A l.length c] w (ECode W (codeR (!listB 4 l) (goneB k))) := by
  have hV := s.l.V
  have bad : ∀ z, refQ a.h.V a.cs l [k, k] = z → z ≠ 0 → Calls Try.prog 17 #[.pointer (some ⟨q, 0, none⟩), .int .i64 k, .slice A l.length c] w (ECode W z) := by
    rintro z rfl hz
    refine (exists_bad s.l.ost s.quan k (cap := c) hr hl hz).mono ?_
    rintro e w' ⟨rfl, hb⟩
    exact ⟨0, rfl, fun _ => rfl, s.below.trans (hb.mono s.below.size)⟩
  cases hb : listB 4 l with
  | false => exact bad 1 (refQ_bad (by rw [hV]; exact hb)) (by omega)
  | true =>
    cases hg : goneB k with
    | true => exact bad 3 (refQ_none (by rw [hV]; exact hb) (by rw [h4 hg]; simp [first4_none hg])) (by omega)
    | false =>
      obtain ⟨j, rfl, hj⟩ := at_not_gone s.good hg
      obtain ⟨xs, rfl, h1, h2⟩ := listB_nats hb
      rw [show (vInts xs).length = xs.length by simp]
      refine (exists_good s.l.ost s.quan s.nq hV v4room hj (cap := c) h1 h2 hr).mono ?_
      intro e w' hout
      obtain ⟨n, a', rfl, s', _⟩ := s.op (by omega) hout
      exact ⟨n, rfl, fun h => absurd rfl h, s'.below⟩

theorem badB_lt {v : Int} (h : v < 0) : badB v = true := by simp [badB, varB]; omega
theorem badB_gt {v : Int} (h : 3 < v) : badB v = true := by simp [badB, varB]; omega
theorem badB_no {v : Int} (h1 : ¬ v < 0) (h2 : ¬ 3 < v) : badB v = false := by simp [badB, varB]; omega
theorem goneB_lt {k : Int} (h : k < 0) : goneB k = true := by unfold goneB; rw [decide_eq_true h]; rfl
theorem goneB_gt {k : Int} (h : 1 < k) : goneB k = true := by unfold goneB; rw [decide_eq_true h, Bool.or_true]
theorem goneB_no {k : Int} (h1 : ¬ k < 0) (h2 : ¬ 1 < k) : goneB k = false := by unfold goneB; rw [decide_eq_false h1, decide_eq_false h2]; rfl
theorem varB_eq {x : Int} : (!varB 4 x) = (decide (x < 0) || decide (3 < x)) := by
  by_cases h1 : x < 0
  · rw [decide_eq_true h1]; exact badB_lt h1
  · by_cases h2 : 3 < x
    · rw [decide_eq_true h2, Bool.or_true]; exact badB_gt h2
    · rw [decide_eq_false h1, decide_eq_false h2]; exact badB_no h1 h2


set_option maxHeartbeats 8000000 in
set_option maxRecDepth 100000 in
theorem qnob_core (k v : Int) {A : Option Addr} {c_ : Nat} {l : List Int} (w : World) (hrd : Rd w A (ints l)) : Calls Try.prog 8 #[.int .i64 k, .int .i64 v, .slice A l.length c_] w fun e w' => e = .returned (.bool true) ∧ Below w.heap.size w w' := by
  have RD0 := Lib.hid hrd
  clear hrd
  have BG := begun5 100 (by omega) (by omega) w
  change Calls _ _ #[.int .i64 100] _ _ at BG
  have BG := Lib.hid BG
  go_enter Try.func8, Try.ntmps8
  go_wp2_with fail
  refine BG.out.mono ?_
  rintro e w1 ⟨m1, o, q, rfl, s1⟩
  have S1 := Lib.hid s1
  unfold ptrV at *
  clear s1 BG
  have AW := Lib.hid (fun w => awake5 w)
  by_cases hl : 300 < l.length
  · have hd : decide ((300 : Int) < (l.length : Int)) = true := by simp; omega
    clear RD0
    go_wp2_with fail
    refine (AW.out _).mono ?_
    rintro e w9 ⟨rfl, hb9⟩
    have B9 := Lib.hid (S1.out.below.trans (hb9.mono S1.out.below.size))
    clear hb9
    go_wp2_with fail
    go_ret
    exact ⟨rfl, B9.out⟩
  have hd : decide ((300 : Int) < (l.length : Int)) = false := by simp; omega
  have LL : Hid (l.length ≤ 300) := by show _ ≤ _; omega
  clear hl
  go_upto_region 4 with fail
  go_cut [10] from 48 to 53 (fun v10 wx => v10 = .bool (badB v) ∧ w1 = wx)
  case first =>
    by_cases h1 : v < 0
    · have d1 : decide (v < 0) = true := decide_eq_true h1
      have HB := Lib.hid (badB_lt h1)
      clear h1
      go_wp2_with fail
      go_meet
      exact ⟨by rw [HB.out], rfl⟩
    · by_cases h2 : 3 < v
      · have d1 : decide (v < 0) = false := decide_eq_false h1
        have d2 : decide (3 < v) = true := decide_eq_true h2
        have HB := Lib.hid (badB_gt h2)
        clear h1 h2
        go_wp2_with fail
        go_meet
        exact ⟨by rw [HB.out], rfl⟩
      · have d1 : decide (v < 0) = false := decide_eq_false h1
        have d2 : decide (3 < v) = false := decide_eq_false h2
        have HB := Lib.hid (badB_no h1 h2)
        clear h1 h2
        go_wp2_with fail
        go_meet
        exact ⟨by rw [HB.out], rfl⟩
  case rest =>
    obtain ⟨rfl, hw⟩ := hcut
    subst hw
    have T := Lib.hid (restrict_code S1.out rfl k v)
    generalize badB v = bad at *
    go_wp2_with fail
    refine T.out.mono ?_
    rintro e w2 ⟨n2, a2, rfl, hz2, s2, hg2⟩
    have S2 := Lib.hid s2
    have HZ2 := Lib.hid hz2
    have HG2 := Lib.hid hg2
    clear s2 hz2 hg2 T S1
    go_upto_region 6 with fail
    go_cut [13] from 61 to 66 (fun v13 wx => v13 = .bool (goneB k) ∧ w2 = wx)
    case first =>
      by_cases h1 : k < 0
      · have d1 : decide (k < 0) = true := decide_eq_true h1
        have HB := Lib.hid (goneB_lt h1)
        clear h1
        go_wp2_with fail
        go_meet
        exact ⟨by rw [HB.out], rfl⟩
      · by_cases h2 : 1 < k
        · have d1 : decide (k < 0) = false := decide_eq_false h1
          have d2 : decide (1 < k) = true := decide_eq_true h2
          have HB := Lib.hid (goneB_gt h2)
          clear h1 h2
          go_wp2_with fail
          go_meet
          exact ⟨by rw [HB.out], rfl⟩
        · have d1 : decide (k < 0) = false := decide_eq_false h1
          have d2 : decide (1 < k) = false := decide_eq_false h2
          have HB := Lib.hid (goneB_no h1 h2)
          clear h1 h2
          go_wp2_with fail
          go_meet
          exact ⟨by rw [HB.out], rfl⟩
    case rest =>
      obtain ⟨rfl, hw⟩ := hcut
      subst hw
      have EC := Lib.hid (fun (wr : World) (s : QS w 100 o q a2 17 wr) => exists_code s (k := k) (c := c_) (fun h => congrArg OS.cs (HG2.out h)) (RD0.out.keep s.below) (by have := LL.out; omega))
      generalize goneB k = gone at *
      clear HG2
      go_upto_region 7 with fail
      go_cut [102] from 67 to 102 (fun v102 wx => v102 = .bool false ∧ w2 = wx)
      case first =>
        cases bad with
        | true =>
          have hn : n2 = 0 := HZ2.out (by simp [codeR])
          subst hn
          simp only [codeR, if_true]
          go_wp2_with fail
          go_meet
          exact ⟨rfl, rfl⟩
        | false =>
          cases gone with
          | true =>
            have hn : n2 = 0 := HZ2.out (by simp [codeR])
            subst hn
            simp only [codeR, if_true, Bool.false_eq_true, if_false]
            go_wp2_with fail
            go_meet
            exact ⟨rfl, rfl⟩
          | false =>
            simp only [codeR, Bool.false_eq_true, if_false]
            go_wp2_with fail
            go_meet
            exact ⟨rfl, rfl⟩
      case rest =>
        obtain ⟨rfl, hw⟩ := hcut
        subst hw
        clear HZ2
        generalize codeR bad gone = z2 at *
        go_wp2_with fail
        go_loopw [14, 15] (fun ov iv wr => ∃ i : Nat, i ≤ l.length ∧ iv = .int .i64 i ∧ ov = .bool (oddN l i) ∧ w2 = wr) (fun _ iv _ => l.length - (intOf iv).toNat)
        case atStart => exact ⟨0, Nat.zero_le _, rfl, by simp [oddN]; omega, rfl⟩
        case round =>
          obtain ⟨i, hi, rfl, rfl, rfl⟩ := hrel
          have hll := LL.out
          by_cases hlt : i < l.length
          · obtain ⟨x, hxi⟩ : ∃ x, l[i]? = some x := ⟨_, List.getElem?_eq_getElem hlt⟩
            have OS := Lib.hid (oddN_step hxi)
            rcases RD0.out.keep S2.out.below with hn | ⟨b, off, rfl, hbl, hcell⟩
            · exfalso
              have : l = [] := by simpa using hn
              subst this
              simp at hlt
            · have cx : w2.cell? ⟨b, off + i, none⟩ = some (.int .i64 x) := hcell i _ (by rw [List.getElem?_map, hxi]; rfl)
              have hlt' : (i : Int) < l.length := by omega
              clear hcell hbl hxi
              cases ho : oddN l i with
              | true =>
                have ON : Hid (oddN l (i + 1) = true) := by show _ = _; rw [OS.out, ho]; rfl
                clear ho
                go_wp2_with fail
                go_roundw
                case rel => exact ⟨i + 1, by omega, by go_num, by rw [ON.out], trivial⟩
                case measure => simp [intOf]; omega
              | false =>
                by_cases h1 : x < 0
                · have d1 : decide (x < 0) = true := decide_eq_true h1
                  have ON : Hid (oddN l (i + 1) = true) := by show _ = _; rw [OS.out, ho, varB_eq, d1]; rfl
                  clear ho h1
                  go_wp2_with fail
                  go_roundw
                  case rel => exact ⟨i + 1, by omega, by go_num, by rw [ON.out], trivial⟩
                  case measure => simp [intOf]; omega
                · have d1 : decide (x < 0) = false := decide_eq_false h1
                  by_cases h2 : 3 < x
                  · have d2 : decide (3 < x) = true := decide_eq_true h2
                    have ON : Hid (oddN l (i + 1) = true) := by show _ = _; rw [OS.out, ho, varB_eq, d1, d2]; rfl
                    clear ho h1 h2
                    go_wp2_with fail
                    go_roundw
                    case rel => exact ⟨i + 1, by omega, by go_num, by rw [ON.out], trivial⟩
                    case measure => simp [intOf]; omega
                  · have d2 : decide (3 < x) = false := decide_eq_false h2
                    have ON : Hid (oddN l (i + 1) = false) := by show _ = _; rw [OS.out, ho, varB_eq, d1, d2]; rfl
                    clear ho h1 h2
                    go_wp2_with fail
                    go_roundw
                    case rel => exact ⟨i + 1, by omega, by go_num, by rw [ON.out], trivial⟩
                    case measure => simp [intOf]; omega
          · obtain rfl : i = l.length := by omega
            rw [oddN_end]
            have T := EC.out w2 S2.out
            revert T
            generalize (!listB 4 l) = odd
            intro T
            have T := Lib.hid T
            have BW := Lib.hid S2.out.below
            clear EC S2
            go_wp2_with fail
            refine T.out.mono ?_
            rintro e w3 ⟨n3, rfl, hz3, hb3⟩
            have HZ3 := Lib.hid hz3
            have B3 := Lib.hid hb3
            clear hz3 hb3 T BW
            go_upto_region 15 with fail
            go_cut [169] from 134 to 169 (fun v169 wx => v169 = .bool false ∧ w3 = wx)
            case first =>
              cases odd with
              | true =>
                have hn : n3 = 0 := HZ3.out (by simp [codeR])
                subst hn
                simp only [codeR, if_true]
                go_wp2_with fail
                go_meet
                exact ⟨rfl, rfl⟩
              | false =>
                cases gone with
                | true =>
                  have hn : n3 = 0 := HZ3.out (by simp [codeR])
                  subst hn
                  simp only [codeR, if_true, Bool.false_eq_true, if_false]
                  go_wp2_with fail
                  go_meet
                  exact ⟨rfl, rfl⟩
                | false =>
                  simp only [codeR, Bool.false_eq_true, if_false]
                  go_wp2_with fail
                  go_meet
                  exact ⟨rfl, rfl⟩
            case rest =>
              obtain ⟨rfl, hw⟩ := hcut
              subst hw
              clear HZ3
              have N1 := Lib.hid (newq_nob (w := w3) (.inl rfl))
              have b0 := (Below.refl w3.heap.size w3).alloc (Nat.le_refl _) (.cells #[.pointer none, .pointer none, .int .u32 0, .int .i32 0, .int .u32 0, .map none, .int .i64 0] 62)
              have h0 := cell_of_row _ _ 0 _ _ _ (heap_alloc_new w3 (.cells #[.pointer none, .pointer none, .int .u32 0, .int .i32 0, .int .u32 0, .map none, .int .i64 0] 62))
              have N2 := Lib.hid (newq_nob (w := w3.alloc (.cells #[.pointer none, .pointer none, .int .u32 0, .int .i32 0, .int .u32 0, .map none, .int .i64 0] 62)) (.inr ⟨w3.heap.size, rfl, h0⟩))
              have b3 := (b0.alloc (by simp) (.cells #[.pointer none, .pointer none] 64)).alloc (by simp; omega) (.cells #[.pointer none, .pointer (some ⟨w3.heap.size + 1, 0, none⟩)] 23)
              have g2 := at_old (.cells #[.pointer none, .pointer (some ⟨w3.heap.size + 1, 0, none⟩)] 23) (at_new (n := w3.heap.size + 1) (w := w3.alloc (.cells #[.pointer none, .pointer none, .int .u32 0, .int .i32 0, .int .u32 0, .map none, .int .i64 0] 62)) (.cells #[.pointer none, .pointer none] 64) (by simp))
              have g3 := at_new (n := w3.heap.size + 1 + 1) (w := (w3.alloc (.cells #[.pointer none, .pointer none, .int .u32 0, .int .i32 0, .int .u32 0, .map none, .int .i64 0] 62)).alloc (.cells #[.pointer none, .pointer none] 64)) (.cells #[.pointer none, .pointer (some ⟨w3.heap.size + 1, 0, none⟩)] 23) (by simp)
              have G2 := Lib.hid g2
              have G3 := Lib.hid g3
              have B4 := Lib.hid (B3.out.trans (b3.mono B3.out.size))
              clear b0 h0 b3 g2 g3 B3
              go_wp2_with fail
              refine N1.out.mono ?_
              rintro e w' ⟨rfl, rfl⟩
              go_wp2_with fail
              refine N2.out.mono ?_
              rintro e w' ⟨rfl, rfl⟩
              go_wp2_with fail
              clear N1 N2
              revert G2 G3 B4
              generalize (((w3.alloc (.cells #[.pointer none, .pointer none, .int .u32 0, .int .i32 0, .int .u32 0, .map none, .int .i64 0] 62)).alloc (.cells #[.pointer none, .pointer none] 64)).alloc (.cells #[.pointer none, .pointer (some ⟨w3.heap.size + 1, 0, none⟩)] 23)) = w4
              generalize w3.heap.size + 1 + 1 = gl
              generalize w3.heap.size + 1 = gz
              intro G2 G3 B4
              go_loopw [23] (fun ix wr => ∃ i : Nat, i ≤ 2 ∧ ix = .int .i64 i ∧ Below w4.heap.size w4 wr) (fun ix _ => 2 - (intOf ix).toNat)
              case atStart => exact ⟨0, by omega, rfl, Below.refl _ _⟩
              case round =>
                obtain ⟨i, hi, rfl, hb⟩ := hrel
                have HB := Lib.hid hb
                have CE := Lib.hid (fun (u : World) (j : Nat) (x : Value) (hu : Below w4.heap.size w4 u) (hx : w4.cell? ⟨gl, j, none⟩ = some x) => (hu.cell (p := ⟨gl, j, none⟩) (row_lt G3.out)).trans hx)
                have C0 : Hid (w4.cell? ⟨gl, 0, none⟩ = some (.pointer none)) := cell_of_row _ _ 0 _ _ _ G3.out
                have C1 : Hid (w4.cell? ⟨gl, 1, none⟩ = some (.pointer (some ⟨gz, 0, none⟩))) := cell_of_row _ _ 1 _ _ _ G3.out
                have NZ := Lib.hid (fun (u : World) (hu : Below w4.heap.size w4 u) => (.inr ⟨gz, rfl, cell_of_row _ _ 0 _ _ _ ((hu.block _ (row_lt G2.out)).trans G2.out)⟩ : NBs u (.pointer (some ⟨gz, 0, none⟩))))
                clear hb
                rcases (by omega : i = 0 ∨ i = 1 ∨ i = 2) with rfl | rfl | rfl
                · have c := CE.out _ 0 _ HB.out C0.out
                  have T := Lib.hid (exists_qnob (.inl rfl : NBs wr (.pointer none)) k A l.length c_)
                  go_wp2_with fail
                  refine T.out.mono ?_
                  rintro e w5 ⟨rfl, hb⟩
                  have H5 := Lib.hid (HB.out.trans (hb.mono HB.out.size))
                  clear hb T c
                  have c := CE.out _ 0 _ H5.out C0.out
                  have T := Lib.hid (restrict_nob (.inl rfl : NBs w5 (.pointer none)) k v true)
                  go_wp2_with fail
                  refine T.out.mono ?_
                  rintro e w6 ⟨rfl, hb⟩
                  have H6 := Lib.hid (H5.out.trans (hb.mono H5.out.size))
                  clear hb T c
                  have c := CE.out _ 0 _ H6.out C0.out
                  have T := Lib.hid (product_qnob (.inl rfl : NBs w6 (.pointer none)) k k A l.length c_)
                  go_wp2_with fail
                  refine T.out.mono ?_
                  rintro e w7 ⟨rfl, hb⟩
                  have H7 := Lib.hid (H6.out.trans (hb.mono H6.out.size))
                  clear hb T c
                  have c := CE.out _ 0 _ H7.out C0.out
                  have T := Lib.hid (rename_qnob (.inl rfl : NBs w7 (.pointer none)) k A A l.length c_ l.length c_)
                  go_wp2_with fail
                  refine T.out.mono ?_
                  rintro e w8 ⟨rfl, hb⟩
                  have H8 := Lib.hid (H7.out.trans (hb.mono H7.out.size))
                  clear hb T c
                  have c := CE.out _ 0 _ H8.out C0.out
                  have T := Lib.hid (ops_qnob (.inl rfl : NBs w8 (.pointer none)))
                  go_wp2_with fail
                  refine T.out.mono ?_
                  rintro e w9 ⟨rfl, rfl⟩
                  clear T c
                  go_wp2_with fail
                  go_roundw
                  case rel => exact ⟨1, by omega, rfl, H8.out⟩
                  case measure => simp [intOf]
                · have c := CE.out _ 1 _ HB.out C1.out
                  have T := Lib.hid (exists_qnob (NZ.out _ HB.out) k A l.length c_)
                  go_wp2_with fail
                  refine T.out.mono ?_
                  rintro e w5 ⟨rfl, hb⟩
                  have H5 := Lib.hid (HB.out.trans (hb.mono HB.out.size))
                  clear hb T c
                  have c := CE.out _ 1 _ H5.out C1.out
                  have T := Lib.hid (restrict_nob (NZ.out _ H5.out) k v true)
                  go_wp2_with fail
                  refine T.out.mono ?_
                  rintro e w6 ⟨rfl, hb⟩
                  have H6 := Lib.hid (H5.out.trans (hb.mono H5.out.size))
                  clear hb T c
                  have c := CE.out _ 1 _ H6.out C1.out
                  have T := Lib.hid (product_qnob (NZ.out _ H6.out) k k A l.length c_)
                  go_wp2_with fail
                  refine T.out.mono ?_
                  rintro e w7 ⟨rfl, hb⟩
                  have H7 := Lib.hid (H6.out.trans (hb.mono H6.out.size))
                  clear hb T c
                  have c := CE.out _ 1 _ H7.out C1.out
                  have T := Lib.hid (rename_qnob (NZ.out _ H7.out) k A A l.length c_ l.length c_)
                  go_wp2_with fail
                  refine T.out.mono ?_
                  rintro e w8 ⟨rfl, hb⟩
                  have H8 := Lib.hid (H7.out.trans (hb.mono H7.out.size))
                  clear hb T c
                  have c := CE.out _ 1 _ H8.out C1.out
                  have T := Lib.hid (ops_qnob (NZ.out _ H8.out))
                  go_wp2_with fail
                  refine T.out.mono ?_
                  rintro e w9 ⟨rfl, rfl⟩
                  clear T c
                  go_wp2_with fail
                  go_roundw
                  case rel => exact ⟨2, by omega, rfl, H8.out⟩
                  case measure => simp [intOf]
                · clear NZ CE C0 C1
                  go_wp2_with fail
                  refine (AW.out _).mono ?_
                  rintro e w9 ⟨rfl, hb9⟩
                  have B8 := B4.out.trans (HB.out.mono B4.out.size)
                  have B9 := Lib.hid (B8.trans (hb9.mono B8.size))
                  clear hb9 B8
                  go_wp2_with fail
                  go_ret
                  exact ⟨rfl, B9.out⟩

theorem quanNobody_walk (k v : Int) (s : Value) (w : World) (_hk : (Lit.int .i64 k).wf = true) (_hv : (Lit.int .i64 v).wf = true) (h : ∃ (A : Option Addr) (c : Nat) (l : List Int), s = .slice A l.length c ∧ Rd w A (ints l)) :
    Calls Try.prog 8 #[.int .i64 k, .int .i64 v, s] w fun e w' => e = .returned (.bool true) ∧ Below w.heap.size w w' := by
  obtain ⟨A, c, l, rfl, hr⟩ := h
  exact qnob_core k v w hr

namespace quanNobody
set_option linter.unusedVariables false
theorem own : ownKnob Try.prog.godebug = none := by kernel_rfl
theorem laidOut : laidOutB Try.prog = true := by kernel_rfl
set_option maxRecDepth 100000 in
theorem lifted (os : Os) (started : os.Started) (H : Type) (enc : TypeId × Value → H) :
    ReturnsInHanded {} Try.checked os 8 .any (Rows.quanNobodySpec.pre6 enc Try.prog Try.f8 Rows.quanNobodyRow.domain false) (Rows.quanNobodySpec.post enc Try.prog Try.f8 false true false false) := by
  refine returnsInHanded_of_change (C := Try.checked) own started (by kernel_rfl) Try.func8
    (ChangeSpec.witness6 (enc := enc) (C := Try.checked) false ⟨#[], #[.int .i64 0, .int .i64 0, .slice none 0 0], []⟩ 8 (by kernel_rfl) (by kernel_rfl) (by kernel_rfl) (by kernel_rfl)) ?_
  intro W base args ds gs before hval0 hW hcnd hsz
  have hval : ∀ (j : Nat) t v, Try.f8.params[j]? = some t → args[j]? = some v → Value.okWide Try.prog W .any base t v := hval0
  have hW' := hW
  obtain ⟨p, q, hA0, hV, rfl, hfz, hnd⟩ := hW
  have hA : DataW.TrodAll enc Try.prog W 0 (fun _ => true) true Try.f8.params.toList args.toList ds p := hA0
  rw [Try.params8] at hA hval
  obtain ⟨v0, vs0, d0, ds0, p0, q0, hargs, rfl, rfl, h0, r0⟩ := trodAll_cons hA
  obtain ⟨v1, vs1, d1, ds1, p1, q1, rfl, rfl, rfl, h1, r1⟩ := trodAll_cons r0
  obtain ⟨v2, vs2, d2, ds2, p2, q2, rfl, rfl, rfl, h2, r2⟩ := trodAll_cons r1
  obtain ⟨rfl, rfl, rfl⟩ := trodAll_nil r2
  obtain rfl : args = #[v0, v1, v2] := by cases args; simp_all
  obtain ⟨rfl, rfl⟩ := trodVars_none hV
  obtain ⟨a0, rfl, rfl, rfl, w0⟩ := open_int Try.underlying3 (hval 0 3 v0 rfl rfl) h0
  obtain ⟨a1, rfl, rfl, rfl, w1⟩ := open_int Try.underlying3 (hval 1 3 v1 rfl rfl) h1
  have k2 := h2
  have lt2 : ∀ x ∈ p2, x.block < W.heap.size := by obtain ⟨m, hm⟩ := k2; exact DataW.trod_lt m _ _ _ hm
  clear hA0 hval0
  refine (quanNobody_walk a0 a1 v2 W w0 w1 (arg_ints h2 (hval 2 34 v2 rfl rfl))).mono fun e W' ⟨he, bel⟩ => ?_
  subst he
  exact ⟨_, rfl, _, _, _, [], _, [], hW', trodAll_mk1 (shut_bool Try.underlying4 _), (trodAll_cons_mk (shut_int Try.underlying3 w0) (trodAll_cons_mk (shut_int Try.underlying3 w1) (trodAll_cons_mk (Below.trod laidOut (by kernel_rfl) (of_decide_eq_true (by kernel_rfl)) k2 bel lt2) trodAll_mk0))), rfl, bel.frame _, fun h => by cases h⟩
theorem over : Rows.quanNobodyRow.holds Try.pinned (OpenSpec.ofChange Rows.quanNobodySpec) :=
  OpenClaim.holds_of_wide 8 Try.f8 rfl rfl rfl rfl rfl rfl rfl ⟨rfl, rfl, rfl, rfl, rfl⟩ rfl rfl rfl rfl rfl (by kernel_rfl) Try.func8 (by kernel_rfl)
    (of_decide_eq_true (by kernel_rfl)) (by unfold Func.isWrapper; first | (rw [if_pos (by decide +kernel)]; kernel_rfl) | (rw [if_neg (by decide +kernel)]; exact ⟨rfl, rfl⟩))
    (fun os started H enc _ => lifted os started H enc)
/-- THE STATEMENT. -/
theorem proved : Rows.QuanNobodySaid := over
end quanNobody
#print axioms quanNobody.proved
end Go.Proofs.Ytmbkkifopmbkaaa
