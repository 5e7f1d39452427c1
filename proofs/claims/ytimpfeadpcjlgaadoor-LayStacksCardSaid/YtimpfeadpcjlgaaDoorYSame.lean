/- Layer 7's laws: rows of numbers held against one another; Stacked, Woven, Bits. -/
import Derived.Test.YtimpfeadpcjlgaaDoorYJoin
namespace Go.Proofs.YtimpfeadpcjlgaaDoor
open Go.ChangeShapes Go.WideShapes Go.ChangeAt Go.RowKit Go.Maps

def castL (ys : List Nat) : List Int := ys.map fun (x : Nat) => (x : Int)
def intsC (L : List Int) : List Value := L.map (Value.int .i64)
theorem castL_len (l : List Nat) : (castL l).length = l.length := by simp [castL]
/-- Rows that a slice of slices reads as. -/
def RowsRd (w : World) (v : Value) (R : List (List Int)) : Prop :=
  ∃ A c vs, v = .slice A R.length c ∧ Rd w A vs ∧ vs.length = R.length ∧ ∀ (i : Nat) (r : List Int), R[i]? = some r → ∃ b cap, vs[i]? = some (.slice (some ⟨b, 0, none⟩) r.length cap) ∧ Rd w (some ⟨b, 0, none⟩) (intsC r)

theorem nats_cast (l : List Nat) : nats l = intsC (castL l) := by simp [nats, intsC, castL]

set_option maxRecDepth 100000 in
set_option maxHeartbeats 4000000 in
theorem sameInts_any {w : World} {A B : Option Addr} {xs ys : List Int} {c d : Nat} (ha : Rd w A (intsC xs)) (hb : Rd w B (intsC ys)) (hl : xs.length ≤ 1000) :
    Calls Tryd.prog 14 #[.slice A xs.length c, .slice B ys.length d] w fun e w' => e = .returned (.bool (decide (xs = ys))) ∧ ∃ q, w' = w.drewN q := by
  by_cases hne : xs.length = ys.length
  · rw [← hne]
    have HA := Lib.hid ha
    have HB := Lib.hid hb
    have HN := Lib.hid hne
    clear ha hb hne
    go_enter Tryd.func14, Tryd.ntmps14
    go_wp2_with fail
    go_loopw [5] (fun iv wr => ∃ i : Nat, i ≤ xs.length ∧ iv = .int .i64 (i : Int) ∧ xs.take i = ys.take i ∧ ∃ q, wr = w.drewN q) (fun iv _ => xs.length - (intOf iv).toNat)
    case atStart => exact ⟨0, Nat.zero_le _, rfl, by simp, 0, rfl⟩
    case round =>
      obtain ⟨i, hi, rfl, htk, q, rfl⟩ := hrel
      have HT := Lib.hid htk
      clear htk
      by_cases hlt : i < xs.length
      · have hlt' : (i : Int) < xs.length := by omega
        obtain ⟨x, hx⟩ : ∃ x, xs[i]? = some x := ⟨_, List.getElem?_eq_getElem hlt⟩
        obtain ⟨y, hy⟩ : ∃ y, ys[i]? = some y := ⟨_, List.getElem?_eq_getElem (by have := HN.out; omega)⟩
        rcases HA.out with hnil | ⟨b1, o1, rfl, hb1, hc1⟩
        · exfalso
          have : xs = [] := by simpa [intsC] using hnil
          rw [this] at hlt
          simp at hlt
        rcases HB.out with hnil | ⟨b2, o2, rfl, hb2, hc2⟩
        · exfalso
          have : ys = [] := by simpa [intsC] using hnil
          rw [this] at hy
          simp at hy
        have c1 : w.cell? ⟨b1, o1 + i, none⟩ = some (.int .i64 x) := hc1 i _ (by simp [intsC, hx])
        have c2 : w.cell? ⟨b2, o2 + i, none⟩ = some (.int .i64 y) := hc2 i _ (by simp [intsC, hy])
        have HX := Lib.hid hx
        have HY := Lib.hid hy
        clear hx hy hb1 hb2 hc1 hc2 HA HB
        by_cases hxy : x = y
        · subst hxy
          go_wp2_with fail
          go_quiet (fail)
          go_wp2_with fail
          go_roundw
          case rel => exact ⟨i + 1, by omega, by go_num, by rw [List.take_add_one, List.take_add_one, HX.out, HY.out, HT.out], _, rfl⟩
          case measure => simp [intOf]; omega
        · have NE : Hid (¬ xs = ys) := fun e => hxy (by have h1 := HX.out; rw [e, HY.out] at h1; injection h1 with h1; exact h1.symm)
          have hq : (x != y) = true := by simpa using hxy
          clear hxy
          go_wp2_with fail
          go_quiet (fail)
          go_wp2_with fail
          go_ret
          exact ⟨congrArg (fun b => Ending.returned (.bool b)) (decide_eq_false NE.out).symm, _, World.drewN_drewN _ _ _⟩
      · obtain rfl : i = xs.length := by omega
        have EQ : Hid (xs = ys) := by
          show _ = _
          have := HT.out
          rw [List.take_length, HN.out, List.take_length] at this
          exact this
        clear HA HB
        go_wp2_with fail
        go_ret
        exact ⟨congrArg (fun b => Ending.returned (.bool b)) (decide_eq_true EQ.out).symm, q, rfl⟩
  · have NE : Hid (¬ xs = ys) := fun e => hne (by rw [e])
    have hni : (xs.length : Int) ≠ ys.length := by omega
    clear ha hb hne
    go_enter Tryd.func14, Tryd.ntmps14
    go_wp2_with fail
    go_ret
    exact ⟨congrArg (fun b => Ending.returned (.bool b)) (decide_eq_false NE.out).symm, 0, rfl⟩

theorem RowsRd.keep {w w' : World} {v : Value} {R : List (List Int)} (h : RowsRd w v R) (hb : Below w.heap.size w w') : RowsRd w' v R := by
  obtain ⟨A, c, vs, e, h1, h2, h3⟩ := h
  refine ⟨A, c, vs, e, h1.keep hb, h2, fun i r hr => ?_⟩
  obtain ⟨b, cap, d1, d2⟩ := h3 i r hr
  exact ⟨b, cap, d1, d2.keep hb⟩

set_option maxRecDepth 100000 in
set_option maxHeartbeats 4000000 in
theorem sameRows_any {w : World} {va vb : Value} {R Q : List (List Int)} (ha : RowsRd w va R) (hb : RowsRd w vb Q) (hl : R.length ≤ 1000) (hr : ∀ r ∈ R, r.length ≤ 1000) :
    Calls Tryd.prog 18 #[va, vb] w fun e w' => e = .returned (.bool (decide (R = Q))) ∧ ∃ q, w' = w.drewN q := by
  obtain ⟨A, c, vs, rfl, ra, la, wa⟩ := ha
  obtain ⟨B, d, us, rfl, rb, lb, wb⟩ := hb
  by_cases hne : R.length = Q.length
  · rw [← hne]
    have RA := Lib.hid ra
    have RB := Lib.hid rb
    have WA := Lib.hid wa
    have WB := Lib.hid wb
    have LA := Lib.hid la
    have LB := Lib.hid lb
    have HN := Lib.hid hne
    have HR := Lib.hid hr
    clear ra rb wa wb la lb hne hr
    go_enter Tryd.func18, Tryd.ntmps18
    go_wp2_with fail
    go_loopw [5] (fun iv wr => ∃ i : Nat, i ≤ R.length ∧ iv = .int .i64 (i : Int) ∧ R.take i = Q.take i ∧ ∃ q, wr = w.drewN q) (fun iv _ => R.length - (intOf iv).toNat)
    case atStart => exact ⟨0, Nat.zero_le _, rfl, by simp, 0, rfl⟩
    case round =>
      obtain ⟨i, hi, rfl, htk, q, hq⟩ := hrel
      have BQ : Hid (Below w.heap.size w wr) := by rw [hq]; exact Lib.hid (below_drewN0 w q)
      have HQ := Lib.hid hq
      clear hq
      have HT := Lib.hid htk
      clear htk
      by_cases hlt : i < R.length
      · have hlt' : (i : Int) < R.length := by omega
        obtain ⟨x, hx⟩ : ∃ x, R[i]? = some x := ⟨_, List.getElem?_eq_getElem hlt⟩
        obtain ⟨y, hy⟩ : ∃ y, Q[i]? = some y := ⟨_, List.getElem?_eq_getElem (by have := HN.out; omega)⟩
        obtain ⟨bx, cx, ex, rx⟩ := WA.out i x hx
        obtain ⟨by', cy, ey, ry⟩ := WB.out i y hy
        rcases RA.out with hnil | ⟨b1, o1, rfl, hb1, hc1⟩
        · exfalso
          rw [hnil] at ex
          simp at ex
        rcases RB.out with hnil | ⟨b2, o2, rfl, hb2, hc2⟩
        · exfalso
          rw [hnil] at ey
          simp at ey
        have c1 : wr.cell? ⟨b1, o1 + i, none⟩ = some (.slice (some ⟨bx, 0, none⟩) x.length cx) := (BQ.out.cell (by exact hb1)).trans (hc1 i _ ex)
        have c2 : wr.cell? ⟨b2, o2 + i, none⟩ = some (.slice (some ⟨by', 0, none⟩) y.length cy) := (BQ.out.cell (by exact hb2)).trans (hc2 i _ ey)
        have hx1 : x.length ≤ 1000 := HR.out x (List.mem_of_getElem? hx)
        have SI := fun q => sameInts_any (c := cx) (d := cy) ((rx.keep BQ.out).keep (below_drewN0 wr q)) ((ry.keep BQ.out).keep (below_drewN0 wr q)) hx1
        have SI := Lib.hid SI
        have HX := Lib.hid hx
        have HY := Lib.hid hy
        clear hx hy hb1 hb2 hc1 hc2 RA RB ex ey rx ry hx1
        by_cases hxy : x = y
        · have DX : Hid (decide (x = y) = true) := decide_eq_true hxy
          have NX : Hid (R.take (i + 1) = Q.take (i + 1)) := by show _ = _; rw [List.take_add_one, List.take_add_one, HX.out, HY.out, HT.out, hxy]
          clear hxy
          rw [DX.out] at SI
          go_wp2_with fail
          go_quiet ((go_at_call 14; exact Calls.quiet_of (SI.out _)))
          go_wp2_with fail
          go_roundw
          case rel => exact ⟨i + 1, by omega, by go_num, NX.out, _, by rw [HQ.out, World.drewN_drewN]⟩
          case measure => simp [intOf]; omega
        · have NE : Hid (¬ R = Q) := fun e => hxy (by have h1 := HX.out; rw [e, HY.out] at h1; injection h1 with h1; exact h1.symm)
          have DX : Hid (decide (x = y) = false) := decide_eq_false hxy
          clear hxy
          rw [DX.out] at SI
          go_wp2_with fail
          go_quiet ((go_at_call 14; exact Calls.quiet_of (SI.out _)))
          go_wp2_with fail
          go_ret
          exact ⟨congrArg (fun b => Ending.returned (.bool b)) (decide_eq_false NE.out).symm, _, by rw [HQ.out, World.drewN_drewN]⟩
      · obtain rfl : i = R.length := by omega
        have EQ : Hid (R = Q) := by
          show _ = _
          have := HT.out
          rw [List.take_length, HN.out, List.take_length] at this
          exact this
        clear RA RB WA WB LA LB
        go_wp2_with fail
        go_ret
        exact ⟨congrArg (fun b => Ending.returned (.bool b)) (decide_eq_true EQ.out).symm, q, HQ.out⟩
  · have NE : Hid (¬ R = Q) := fun e => hne (by rw [e])
    have hni : (R.length : Int) ≠ Q.length := by omega
    clear ra rb wa wb la lb hne hr
    go_enter Tryd.func18, Tryd.ntmps18
    go_wp2_with fail
    go_ret
    exact ⟨congrArg (fun b => Ending.returned (.bool b)) (decide_eq_false NE.out).symm, 0, rfl⟩


set_option maxRecDepth 100000 in
theorem stacked_any {w : World} {A : Option Addr} {l : Doms} {c : Nat} (hr : DRd w A l) (hl : l.length ≤ 1000) : Calls Tryd.prog 12 #[.slice A l.length c] w (JoinOut l 95 w) := by
  have J := Lib.hid (joined_any (c := c) hr hl 95)
  clear hr
  go_enter Tryd.func12, Tryd.ntmps12
  go_wp2_with fail
  refine J.out.mono ?_
  rintro e w' ⟨hb, (⟨h1, rfl⟩ | ⟨h1, rfl⟩)⟩
  · go_wp2_with fail
    go_ret
    exact ⟨hb, .inl ⟨h1, rfl⟩⟩
  · go_wp2_with fail
    go_ret
    exact ⟨hb, .inr ⟨h1, rfl⟩⟩
set_option maxRecDepth 100000 in
theorem woven_any {w : World} {A : Option Addr} {l : Doms} {c : Nat} (hr : DRd w A l) (hl : l.length ≤ 1000) : Calls Tryd.prog 13 #[.slice A l.length c] w (JoinOut l 42 w) := by
  have J := Lib.hid (joined_any (c := c) hr hl 42)
  clear hr
  go_enter Tryd.func13, Tryd.ntmps13
  go_wp2_with fail
  refine J.out.mono ?_
  rintro e w' ⟨hb, (⟨h1, rfl⟩ | ⟨h1, rfl⟩)⟩
  · go_wp2_with fail
    go_ret
    exact ⟨hb, .inl ⟨h1, rfl⟩⟩
  · go_wp2_with fail
    go_ret
    exact ⟨hb, .inr ⟨h1, rfl⟩⟩
set_option maxRecDepth 100000 in
theorem bits_yes {w : World} {A : Option Addr} {l : Doms} {c : Nat} (hr : DRd w A l) (hck : Chk l) : Calls Tryd.prog 10 #[.slice A l.length c] w fun e w' => e = .returned (.int .i64 (sumW l : Nat)) ∧ Below w.heap.size w w' := by
  have CK := Lib.hid (check_any (c := c) hr (by have := hck.len; omega))
  have HR := Lib.hid hr
  have HCK := Lib.hid hck
  clear hr hck
  go_enter Tryd.func10, Tryd.ntmps10
  go_wp2_with fail
  refine CK.out.mono ?_
  rintro e w1 ⟨x, rfl, hx, hb1⟩
  obtain ⟨rfl, -⟩ := hx.resolve_right fun h => h.2 HCK.out
  have HB1 := Lib.hid hb1
  have TG := Lib.hid (tog_any (c := c) (HR.out.keep hb1) (by have := HCK.out.len; omega) (fun d hd => (HCK.out.each d hd).2))
  clear CK hb1 hx
  go_wp2_with fail
  refine TG.out.mono ?_
  rintro e w2 ⟨rfl, hb2⟩
  have HB2 := Lib.hid (HB1.out.trans (hb2.mono HB1.out.size))
  clear TG hb2
  go_wp2_with fail
  go_ret
  exact ⟨rfl, HB2.out⟩
end Go.Proofs.YtimpfeadpcjlgaaDoor
