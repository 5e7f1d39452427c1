/- Merged: CLaw, CAwake, CHang, CTrue, CFour. -/
import Derived.Test.YtkmffmlnondolaaMT
import Derived.Test.YtkmffmlnondolaaMR
import Derived.Test.YtkmffmlnondolaaMG
import Derived.Test.YtkmffmlnondolaaMQ

/- Layer 6's laws: begun, four; what a store is there. -/
namespace Go.Proofs.Ytkmffmlnondolaa
open Go.ChangeShapes Go.WideShapes Go.ChangeAt Go.RowKit Go.Maps

/-- What is known in a law: a store of four variables, with so many nodes at the most. -/
structure CSt (W : World) (m : Mem) (h : Hd) (cs : List Nd) (c : Nat) (w : World) : Prop where
  st : St w m h cs
  V : h.V = 4
  B : h.B = 1000
  cnt : cnt cs ≤ c
  below : Below W.heap.size W w
  own : ∀ i, m.own i → W.heap.size ≤ i

def first6 : List Nd := [⟨(4 : Nat), 0, 0, 0⟩, ⟨(4 : Nat), 1, 1, 0⟩]
theorem first6_cnt : cnt first6 = 2 := by decide

def Begun6 (w : World) (e : Ending) (w' : World) : Prop :=
  ∃ m, e = .returned (.tuple #[ptrV m.s, .bool true]) ∧ CSt w m ⟨4, 1000, 2, 2, 0, 0⟩ first6 2 w'

theorem begun6 (w : World) : Calls Try.prog 7 #[] w (Begun6 w) := by
  have NS := newst_yes 4 1000 (by omega) (by omega) (by omega) w
  change Calls _ _ #[.int .i64 4, .int .i64 1000] _ _ at NS
  have NS := Lib.hid NS
  go_enter Try.func7, Try.ntmps7
  go_wp2_with fail
  refine NS.out.mono ?_
  rintro e w1 ⟨m, rfl, s1, hb1, ho1⟩
  have FIN : Hid (CSt w m ⟨4, 1000, 2, 2, 0, 0⟩ first6 2 w1) := Lib.hid ⟨s1, rfl, rfl, by rw [first6_cnt]; omega, hb1, ho1⟩
  clear s1 hb1 ho1 NS
  unfold ptrV
  go_wp2_with fail
  exact bodyPost_ret (v := .tuple #[ptrV m.s, .bool true]) (by simp [results, Try.results7, go_sem, ptrV]) rfl ⟨m, rfl, FIN.out⟩

theorem four_any (w : World) : Calls Try.prog 11 #[] w fun e w' => e = .returned (.slice (some ⟨w.heap.size, 0, none⟩) 4 4) ∧ w' = w.alloc (.cells #[.int .i64 0, .int .i64 1, .int .i64 2, .int .i64 3] 3) := by
  go_enter Try.func11, Try.ntmps11
  go_wp2
  go_ret
  exact ⟨rfl, rfl⟩

section
variable {W : World} {m : Mem} {h : Hd} {cs : List Nd} {c : Nat} {w w' : World}
theorem CSt.good (l : CSt W m h cs c w) : NGood 4 cs := l.V ▸ l.st.good
theorem CSt.keep (l : CSt W m h cs c w) (hb : Below w.heap.size w w') : CSt W m h cs c w' := ⟨l.st.keep hb, l.V, l.B, l.cnt, l.below.trans (hb.mono l.below.size), l.own⟩
theorem CSt.next (l : CSt W m h cs c w) {m' : Mem} {h' : Hd} {cs' : List Nd} {c' : Nat} (s' : St w' m' h' cs') (hV : h'.V = h.V) (hB : h'.B = h.B) (hc : _root_.Go.Proofs.Ytkmffmlnondolaa.cnt cs' ≤ c') (hn : Next m m' w w') : CSt W m' h' cs' c' w' := by
  obtain ⟨b1, o1⟩ := hn.to_below l.below l.own l.below.size
  exact ⟨s', hV.trans l.V, hB.trans l.B, hc, b1, o1⟩

/-- Make gives a node. -/
theorem CSt.make (l : CSt W m h cs c w) (hr : c + 15 ≤ 1000) {n : Int} {e : Ending} (a : MakeOut4 m h cs n w e w') :
    ∃ (k : Nat) (m' : Mem) (h' : Hd) (cs' : List Nd), e = .returned (.tuple #[.int .i64 (k : Int), .bool true]) ∧ CSt W m' h' cs' (c + 15) w' ∧ Ext cs cs' ∧ m'.s = m.s ∧ At cs' 0 k ∧ ∀ val, Says 4 cs' val k = bitZ n (tix val 4 0 0) := by
  obtain ⟨k, t, m', h', cs', rfl, st, ex, fr, v, b, s, cn, on, hout⟩ := a
  have hB := l.B
  have hc := l.cnt
  have cn : _root_.Go.Proofs.Ytkmffmlnondolaa.cnt cs' + 1 ≤ _root_.Go.Proofs.Ytkmffmlnondolaa.cnt cs + 16 := cn
  rcases hout with ⟨rfl, hat, hs⟩ | ⟨_, _, hb⟩
  · exact ⟨k, m', h', cs', rfl, l.next st v b (by omega) on, ex, on.s, hat, hs⟩
  · have hb : h.B + 2 ≤ _root_.Go.Proofs.Ytkmffmlnondolaa.cnt cs + 16 := hb
    omega

def CMkOut (W : World) (m : Mem) (cs : List Nd) (c v a b : Nat) (e : Ending) (w' : World) : Prop :=
  ∃ (k : Nat) (m' : Mem) (h' : Hd) (cs' : List Nd), e = .returned (.tuple #[.int .i64 (k : Int), .int .i64 0]) ∧ CSt W m' h' cs' (c + 1) w' ∧ Ext cs cs' ∧ m'.s = m.s ∧ At cs' v k ∧ ∀ val, Says 4 cs' val k = if val v then Says 4 cs val b else Says 4 cs val a

theorem CSt.mkn (l : CSt W m h cs c w) (hr : c + 1 ≤ 1000) {v a b : Nat} (hv : v < 4) (ha : At cs (v + 1 : Nat) a) (hb : At cs (v + 1 : Nat) b) :
    Calls Try.prog 17 #[ptrV m.s, .int .i64 (v : Int), .int .i64 a, .int .i64 b] w (CMkOut W m cs c v a b) := by
  obtain ⟨ca, ia, la⟩ := ha
  obtain ⟨cb, ib, lb⟩ := hb
  have hc := l.cnt
  have hB := l.B
  refine (mk_roomS l.st (by omega) (by have := l.V; omega) ia (by omega) ib (by omega)).mono ?_
  rintro e w' ⟨k, m', h', cs', d, rfl, s', x, i, le, y, v', b', sw, cn, fr, n⟩
  rw [l.V] at y
  exact ⟨k, m', h', cs', rfl, l.next s' v' b' (by omega) n, x, n.s, ⟨d, i, le⟩, y⟩
end
theorem Says_atC {cs cs' : List Nd} {u : Int} {k : Nat} (a : At cs u k) (x : Ext cs cs') (g : NGood 4 cs) (g' : NGood 4 cs') {f : (Nat → Bool) → Bool} (hs : ∀ val, Says 4 cs val k = f val) : ∀ val, Says 4 cs' val k = f val := fun val => (a.says x g g' val).trans (hs val)

theorem nats_cast (l : List Nat) : nats l = intsC (castL l) := by simp [nats, intsC, castL]

set_option maxRecDepth 100000 in
set_option maxHeartbeats 4000000 in
theorem sameInts_any {w : World} {A B : Option Addr} {xs ys : List Int} {c d : Nat} (ha : Rd w A (intsC xs)) (hb : Rd w B (intsC ys)) (hl : xs.length ≤ 1000) :
    Calls Try.prog 13 #[.slice A xs.length c, .slice B ys.length d] w fun e w' => e = .returned (.bool (decide (xs = ys))) ∧ ∃ q, w' = w.drewN q := by
  by_cases hne : xs.length = ys.length
  · rw [← hne]
    have HA := Lib.hid ha
    have HB := Lib.hid hb
    have HN := Lib.hid hne
    clear ha hb hne
    go_enter Try.func13, Try.ntmps13
    go_wp2_with fail
    go_loopw [5] (fun iv wr => ∃ i : Nat, i ≤ xs.length ∧ iv = .int .i64 (i : Int) ∧ xs.take i = ys.take i ∧ ∃ q, wr = w.drewN q) (fun iv _ => xs.length - (intOf iv).toNat)
    case atStart => exact ⟨0, Nat.zero_le _, rfl, by simp, 0, rfl⟩
    case round =>
      obtain ⟨i, hi, rfl, htk, q, rfl⟩ := hrel
      have HT := Lib.hid htk
      clear htk
      by_cases hlt : i < xs.length
      · have hlt' : (i : Int) < xs.length := by omega
        obtain ⟨x, hx⟩ : ∃ x, xs[i]? = some x := ⟨_, List.getElem?_eq_getElem hlt⟩
        obtain ⟨y, hy⟩ : ∃ y, ys[i]? = some y := ⟨_, List.getElem?_eq_getElem (by have := HN.out; omega)⟩
        rcases HA.out with hnil | ⟨b1, o1, rfl, hb1, hc1⟩
        · exfalso
          have : xs = [] := by simpa [intsC] using hnil
          rw [this] at hlt
          simp at hlt
        rcases HB.out with hnil | ⟨b2, o2, rfl, hb2, hc2⟩
        · exfalso
          have : ys = [] := by simpa [intsC] using hnil
          rw [this] at hy
          simp at hy
        have c1 : w.cell? ⟨b1, o1 + i, none⟩ = some (.int .i64 x) := hc1 i _ (by simp [intsC, hx])
        have c2 : w.cell? ⟨b2, o2 + i, none⟩ = some (.int .i64 y) := hc2 i _ (by simp [intsC, hy])
        have HX := Lib.hid hx
        have HY := Lib.hid hy
        clear hx hy hb1 hb2 hc1 hc2 HA HB
        by_cases hxy : x = y
        · subst hxy
          go_wp2_with fail
          go_quiet (fail)
          go_wp2_with fail
          go_roundw
          case rel => exact ⟨i + 1, by omega, by go_num, by rw [List.take_add_one, List.take_add_one, HX.out, HY.out, HT.out], _, rfl⟩
          case measure => simp [intOf]; omega
        · have NE : Hid (¬ xs = ys) := fun e => hxy (by have h1 := HX.out; rw [e, HY.out] at h1; injection h1 with h1; exact h1.symm)
          have hq : (x != y) = true := by simpa using hxy
          clear hxy
          go_wp2_with fail
          go_quiet (fail)
          go_wp2_with fail
          go_ret
          exact ⟨congrArg (fun b => Ending.returned (.bool b)) (decide_eq_false NE.out).symm, _, World.drewN_drewN _ _ _⟩
      · obtain rfl : i = xs.length := by omega
        have EQ : Hid (xs = ys) := by
          show _ = _
          have := HT.out
          rw [List.take_length, HN.out, List.take_length] at this
          exact this
        clear HA HB
        go_wp2_with fail
        go_ret
        exact ⟨congrArg (fun b => Ending.returned (.bool b)) (decide_eq_true EQ.out).symm, q, rfl⟩
  · have NE : Hid (¬ xs = ys) := fun e => hne (by rw [e])
    have hni : (xs.length : Int) ≠ ys.length := by omega
    clear ha hb hne
    go_enter Try.func13, Try.ntmps13
    go_wp2_with fail
    go_ret
    exact ⟨congrArg (fun b => Ending.returned (.bool b)) (decide_eq_false NE.out).symm, 0, rfl⟩

theorem RowsRd.keep {w w' : World} {v : Value} {R : List (List Int)} (h : RowsRd w v R) (hb : Below w.heap.size w w') : RowsRd w' v R := by
  obtain ⟨A, c, vs, e, h1, h2, h3⟩ := h
  refine ⟨A, c, vs, e, h1.keep hb, h2, fun i r hr => ?_⟩
  obtain ⟨b, cap, d1, d2⟩ := h3 i r hr
  exact ⟨b, cap, d1, d2.keep hb⟩

set_option maxRecDepth 100000 in
set_option maxHeartbeats 4000000 in
theorem sameRows_any {w : World} {va vb : Value} {R Q : List (List Int)} (ha : RowsRd w va R) (hb : RowsRd w vb Q) (hl : R.length ≤ 1000) (hr : ∀ r ∈ R, r.length ≤ 1000) :
    Calls Try.prog 33 #[va, vb] w fun e w' => e = .returned (.bool (decide (R = Q))) ∧ ∃ q, w' = w.drewN q := by
  obtain ⟨A, c, vs, rfl, ra, la, wa⟩ := ha
  obtain ⟨B, d, us, rfl, rb, lb, wb⟩ := hb
  by_cases hne : R.length = Q.length
  · rw [← hne]
    have RA := Lib.hid ra
    have RB := Lib.hid rb
    have WA := Lib.hid wa
    have WB := Lib.hid wb
    have LA := Lib.hid la
    have LB := Lib.hid lb
    have HN := Lib.hid hne
    have HR := Lib.hid hr
    clear ra rb wa wb la lb hne hr
    go_enter Try.func33, Try.ntmps33
    go_wp2_with fail
    go_loopw [5] (fun iv wr => ∃ i : Nat, i ≤ R.length ∧ iv = .int .i64 (i : Int) ∧ R.take i = Q.take i ∧ ∃ q, wr = w.drewN q) (fun iv _ => R.length - (intOf iv).toNat)
    case atStart => exact ⟨0, Nat.zero_le _, rfl, by simp, 0, rfl⟩
    case round =>
      obtain ⟨i, hi, rfl, htk, q, hq⟩ := hrel
      have BQ : Hid (Below w.heap.size w wr) := by rw [hq]; exact Lib.hid (below_drewN0 w q)
      have HQ := Lib.hid hq
      clear hq
      have HT := Lib.hid htk
      clear htk
      by_cases hlt : i < R.length
      · have hlt' : (i : Int) < R.length := by omega
        obtain ⟨x, hx⟩ : ∃ x, R[i]? = some x := ⟨_, List.getElem?_eq_getElem hlt⟩
        obtain ⟨y, hy⟩ : ∃ y, Q[i]? = some y := ⟨_, List.getElem?_eq_getElem (by have := HN.out; omega)⟩
        obtain ⟨bx, cx, ex, rx⟩ := WA.out i x hx
        obtain ⟨by', cy, ey, ry⟩ := WB.out i y hy
        rcases RA.out with hnil | ⟨b1, o1, rfl, hb1, hc1⟩
        · exfalso
          rw [hnil] at ex
          simp at ex
        rcases RB.out with hnil | ⟨b2, o2, rfl, hb2, hc2⟩
        · exfalso
          rw [hnil] at ey
          simp at ey
        have c1 : wr.cell? ⟨b1, o1 + i, none⟩ = some (.slice (some ⟨bx, 0, none⟩) x.length cx) := (BQ.out.cell (by exact hb1)).trans (hc1 i _ ex)
        have c2 : wr.cell? ⟨b2, o2 + i, none⟩ = some (.slice (some ⟨by', 0, none⟩) y.length cy) := (BQ.out.cell (by exact hb2)).trans (hc2 i _ ey)
        have hx1 : x.length ≤ 1000 := HR.out x (List.mem_of_getElem? hx)
        have SI := fun q => sameInts_any (c := cx) (d := cy) ((rx.keep BQ.out).keep (below_drewN0 wr q)) ((ry.keep BQ.out).keep (below_drewN0 wr q)) hx1
        have SI := Lib.hid SI
        have HX := Lib.hid hx
        have HY := Lib.hid hy
        clear hx hy hb1 hb2 hc1 hc2 RA RB ex ey rx ry hx1
        by_cases hxy : x = y
        · have DX : Hid (decide (x = y) = true) := decide_eq_true hxy
          have NX : Hid (R.take (i + 1) = Q.take (i + 1)) := by show _ = _; rw [List.take_add_one, List.take_add_one, HX.out, HY.out, HT.out, hxy]
          clear hxy
          rw [DX.out] at SI
          go_wp2_with fail
          go_quiet ((go_at_call 13; exact Calls.quiet_of (SI.out _)))
          go_wp2_with fail
          go_roundw
          case rel => exact ⟨i + 1, by omega, by go_num, NX.out, _, by rw [HQ.out, World.drewN_drewN]⟩
          case measure => simp [intOf]; omega
        · have NE : Hid (¬ R = Q) := fun e => hxy (by have h1 := HX.out; rw [e, HY.out] at h1; injection h1 with h1; exact h1.symm)
          have DX : Hid (decide (x = y) = false) := decide_eq_false hxy
          clear hxy
          rw [DX.out] at SI
          go_wp2_with fail
          go_quiet ((go_at_call 13; exact Calls.quiet_of (SI.out _)))
          go_wp2_with fail
          go_ret
          exact ⟨congrArg (fun b => Ending.returned (.bool b)) (decide_eq_false NE.out).symm, _, by rw [HQ.out, World.drewN_drewN]⟩
      · obtain rfl : i = R.length := by omega
        have EQ : Hid (R = Q) := by
          show _ = _
          have := HT.out
          rw [List.take_length, HN.out, List.take_length] at this
          exact this
        clear RA RB WA WB LA LB
        go_wp2_with fail
        go_ret
        exact ⟨congrArg (fun b => Ending.returned (.bool b)) (decide_eq_true EQ.out).symm, q, HQ.out⟩
  · have NE : Hid (¬ R = Q) := fun e => hne (by rw [e])
    have hni : (R.length : Int) ≠ Q.length := by omega
    clear ra rb wa wb la lb hne hr
    go_enter Try.func33, Try.ntmps33
    go_wp2_with fail
    go_ret
    exact ⟨congrArg (fun b => Ending.returned (.bool b)) (decide_eq_false NE.out).symm, 0, rfl⟩
end Go.Proofs.Ytkmffmlnondolaa

/- Layer 6's laws: what must come, whatever the arguments are (awake). -/
namespace Go.Proofs.Ytkmffmlnondolaa
open Go.ChangeShapes Go.WideShapes Go.ChangeAt Go.RowKit Go.Maps

section
variable {V : Nat} {cs : List Nd}
/-- A node asks the first variable on which its answers hang. -/
theorem node_at (g : NGood V cs) {k v : Nat} {c : Nd} (hc : Is cs k c) (hi : ∀ i, i < v → Idle (fun val => Says V cs val k) i) (hh : ¬ Idle (fun val => Says V cs val k) v) : 2 ≤ k ∧ c.asks = v := by
  have h2 : 2 ≤ k := by
    rcases (by omega : k = 0 ∨ k = 1 ∨ 2 ≤ k) with rfl | rfl | h
    · exact absurd (fun val b => by show Says _ _ _ _ = Says _ _ _ _; rw [Says_zero, Says_zero]) hh
    · exact absurd (fun val b => by show Says _ _ _ _ = Says _ _ _ _; rw [Says_one, Says_one]) hh
    · exact h
  obtain ⟨j, d, p, hj, hd, e⟩ := (asked_iff g hc).2 hh
  obtain ⟨d', hd', hle⟩ := p.is g hc
  obtain rfl := hd.same hd'
  have ho := g.ok k c h2 hc
  refine ⟨h2, ?_⟩
  rcases Nat.lt_or_ge c.asks.toNat v with h | h
  · exact absurd (hi _ h) ((Part.self k).hangs g hc h2 hc).not_idle
  · omega

theorem is_zero (g : NGood V cs) {k : Nat} {c : Nd} (hc : Is cs k c) (h : ∀ val, Says V cs val k = false) : k = 0 := by
  obtain ⟨p, i0⟩ := g.is0
  exact canon g hc i0 fun val => by rw [h, Says_zero]
theorem is_one (g : NGood V cs) {k : Nat} {c : Nd} (hc : Is cs k c) (h : ∀ val, Says V cs val k = true) : k = 1 := by
  obtain ⟨p, i1⟩ := g.is1
  exact canon g hc i1 fun val => by rw [h, Says_one]
end

def f02 (val : Nat → Bool) : Bool := val 0 && val 2
theorem f02_idle {i : Nat} (h0 : i ≠ 0) (h2 : i ≠ 2) : Idle f02 i := fun val b => by
  show (upd val i b 0 && upd val i b 2) = (val 0 && val 2)
  unfold upd
  rw [if_neg (by omega), if_neg (by omega)]
theorem f02_hang {i : Nat} (h : i = 0 ∨ i = 2) : ¬ Idle f02 i := fun hi => by
  have h1 := hi (fun _ => true) false
  have e : f02 (upd (fun _ => true) i false) = false := by
    rcases h with rfl | rfl <;> rfl
  rw [e] at h1
  cases h1
theorem idle_congr {f g : (Nat → Bool) → Bool} (h : ∀ val, f val = g val) {i : Nat} : Idle f i ↔ Idle g i := by
  rw [show f = g from funext h]

section
variable {cs : List Nd} {k : Nat} {c : Nd}
theorem aw_has (g : NGood 4 cs) (hc : Is cs k c) (hs : ∀ val, Says 4 cs val k = f02 val) : Has cs k [0, 1, 2] := by
  intro j d p hj hd
  have ho := g.ok j d hj hd
  have hn := (p.hangs g hc hj hd).not_idle
  rw [idle_congr hs] at hn
  have h3 : d.asks.toNat ≠ 3 := fun e => hn (f02_idle (by omega) (by omega))
  have : d.asks.toNat < 4 := by omega
  rcases (by omega : d.asks.toNat = 0 ∨ d.asks.toNat = 1 ∨ d.asks.toNat = 2) with e | e | e <;> rw [e] <;> simp

theorem aw_cnt (hs : ∀ val, Says 4 cs val k = f02 val) : cntC 4 cs [0, 1, 2] k 0 = 2 := by
  unfold cntC
  rw [above_zero, cntN_congr hs]
  rfl

theorem aw_ways (g : NGood 4 cs) (hc : Is cs k c) (hs : ∀ val, Says 4 cs val k = f02 val) {W : List (List Int)} (hW : Ways 4 cs k W) : W = [[1, 2, 1, 2]] := by
  obtain ⟨h2, ha⟩ := node_at g hc (v := 0) (fun i h => by omega) (by rw [idle_congr hs]; exact f02_hang (.inl rfl))
  obtain ⟨a, il, _⟩ := g.lo k c h2 hc
  obtain ⟨b, ih, _⟩ := g.hi k c h2 hc
  have hlo : c.low = 0 := is_zero g il fun val => by rw [Says_low g h2 hc, hs]; rw [ha]; rfl
  have sh : ∀ val, Says 4 cs val c.high = val 2 := fun val => by rw [Says_high g h2 hc, hs, ha]; rfl
  have ihd : ∀ i, i ≠ 2 → Idle (fun val => Says 4 cs val c.high) i := fun i hi => by
    rw [idle_congr sh]
    intro val b
    show upd val i b 2 = val 2
    unfold upd
    rw [if_neg (by omega)]
  obtain ⟨h3, hb⟩ := node_at g ih (v := 2) (fun i h => ihd i (by omega)) (by
    rw [idle_congr sh]
    intro hi
    have := hi (fun _ => true) false
    cases this)
  obtain ⟨a2, il2, _⟩ := g.lo _ _ h3 ih
  obtain ⟨b2, ih2, _⟩ := g.hi _ _ h3 ih
  have hlo2 : b.low = 0 := is_zero g il2 fun val => by rw [Says_low g h3 ih, sh, hb]; rfl
  have hhi2 : b.high = 1 := is_one g ih2 fun val => by rw [Says_high g h3 ih, sh, hb]; rfl
  have z1 : Ways 4 cs c.low [] := by rw [hlo]; exact .zero
  have z2 : Ways 4 cs b.low [] := by rw [hlo2]; exact .zero
  have o2 : Ways 4 cs b.high [List.replicate 4 2] := by rw [hhi2]; exact .one
  have w1 := Ways.node h2 hc z1 (Ways.node h3 ih z2 o2)
  rw [hW.same w1, ha, hb]
  rfl

theorem aw_asks (g : NGood 4 cs) (hc : Is cs k c) (hs : ∀ val, Says 4 cs val k = f02 val) {p : Nat → Bool} (hp : ∀ u, u < 4 → (p u = true ↔ ∃ j d, Part cs k j ∧ 2 ≤ j ∧ Is cs j d ∧ d.asks = u)) : (List.range 4).filter p = [0, 2] := by
  have hq : ∀ u, u < 4 → (p u = true ↔ ¬ Idle f02 u) := fun u hu => by rw [hp u hu, asked_iff g hc, idle_congr hs]
  have p0 : p 0 = true := (hq 0 (by omega)).2 (f02_hang (.inl rfl))
  have p2 : p 2 = true := (hq 2 (by omega)).2 (f02_hang (.inr rfl))
  have p1 : p 1 = false := by
    cases h : p 1 with
    | false => rfl
    | true => exact absurd (f02_idle (by omega) (by omega)) ((hq 1 (by omega)).1 h)
  have p3 : p 3 = false := by
    cases h : p 3 with
    | false => rfl
    | true => exact absurd (f02_idle (by omega) (by omega)) ((hq 3 (by omega)).1 h)
  have e : List.range 4 = [0, 1, 2, 3] := rfl
  rw [e]
  simp [p0, p1, p2, p3]
end

theorem rows_lit {w : World} {b : Nat} {r : List Int} {g : Nat} (h1 : w.heap[b]? = some (.cells (intsC r).toArray 3)) (h2 : w.heap[g]? = some (.cells #[.slice (some ⟨b, 0, none⟩) r.length r.length] 27)) : RowsRd w (.slice (some ⟨g, 0, none⟩) 1 1) [r] := by
  refine ⟨_, _, [.slice (some ⟨b, 0, none⟩) r.length r.length], rfl, .inr ⟨g, 0, rfl, row_lt h2, fun j u hu => ?_⟩, rfl, fun i s hs => ?_⟩
  · rw [Nat.zero_add, cell_of_row _ _ _ _ _ _ h2]
    match j, hu with
    | 0, hu => simpa using hu
  · match i, hs with
    | 0, hs =>
      simp at hs
      subst hs
      refine ⟨b, r.length, rfl, .inr ⟨b, 0, rfl, row_lt h1, fun j u hu => ?_⟩⟩
      rw [Nat.zero_add, cell_of_row _ _ _ _ _ _ h1]
      simpa using hu
theorem ints_lit {w : World} {b : Nat} {r : List Int} (h1 : w.heap[b]? = some (.cells (intsC r).toArray 3)) : Rd w (some ⟨b, 0, none⟩) (intsC r) :=
  .inr ⟨b, 0, rfl, row_lt h1, fun j u hu => by rw [Nat.zero_add, cell_of_row _ _ _ _ _ _ h1]; simpa using hu⟩

set_option maxHeartbeats 4000000 in
set_option maxRecDepth 100000 in
theorem awake6 (w : World) : Calls Try.prog 14 #[] w fun e w' => e = .returned (.bool true) ∧ Below w.heap.size w w' := by
  have BG := Lib.hid (begun6 w)
  go_enter Try.func14, Try.ntmps14
  go_wp2_with fail
  refine BG.out.mono ?_
  rintro e w1 ⟨m1, rfl, l1⟩
  have M1 := l1.mkn (v := 2) (a := 0) (b := 1) (by omega) (by omega) (l1.good.at0 (by omega)) (l1.good.at1 (by omega))
  change Calls _ _ #[_, .int .i64 2, .int .i64 0, .int .i64 1] _ _ at M1
  unfold ptrV at *
  have M1 := Lib.hid M1
  have L1 := Lib.hid l1
  clear l1 BG
  go_wp2_with fail
  refine M1.out.mono ?_
  rintro e w2 ⟨z, m2, h2, cs2, rfl, l2, x2, s2, az, sz⟩
  have sz : ∀ val, Says 4 cs2 val z = val 2 := fun val => by rw [sz, Says_one, Says_zero]; cases val 2 <;> rfl
  have M2 := l2.mkn (v := 0) (a := 0) (b := z) (by omega) (by omega) (l2.good.at0 (by omega)) (az.mono (by omega))
  change Calls _ _ #[_, .int .i64 0, .int .i64 0, _] _ _ at M2
  rw [s2] at M2
  unfold ptrV at M2
  have M2 := Lib.hid M2
  have SZ := Lib.hid sz
  have S2 := Lib.hid s2
  clear l2 x2 s2 az sz M1
  go_wp2_with fail
  refine M2.out.mono ?_
  rintro e w3 ⟨x, m3, h3, cs3, rfl, l3, x3, s3, ⟨cx, ix, _⟩, sx⟩
  have sx : ∀ val, Says 4 cs3 val x = f02 val := fun val => by rw [sx, SZ.out, Says_zero]; unfold f02; cases val 0 <;> rfl
  have hb4 : Below w3.heap.size w3 (w3.alloc (.cells #[.int .i64 0, .int .i64 1, .int .i64 2] 3)) := (Below.refl _ _).alloc (Nat.le_refl _) _
  have l4 := l3.keep hb4
  have ST := sat_yes (cap := 3) (L := [0, 1, 2]) (ys := [0, 1, 2]) l4.st ix (A := some ⟨w3.heap.size, 0, none⟩) (ints_lit (heap_alloc_new w3 _)) (by simp) ⟨rfl, by decide, fun x hx => by have := l4.V; simp at hx; omega⟩
  change Calls _ _ #[_, _, .slice _ 3 _] _ _ at ST
  rw [s3, S2.out] at ST
  unfold ptrV at ST
  have ST := Lib.hid ST
  have L4 := Lib.hid l4
  have IX := Lib.hid ix
  have SX := Lib.hid sx
  have S3 := Lib.hid (s3.trans S2.out)
  have B4 := Lib.hid hb4
  clear l3 x3 s3 ix sx hb4 l4 M2 SZ S2
  go_wp2_with fail
  refine ST.out.mono ?_
  rintro e w5 ⟨n, en, rfl, hb5, hout⟩
  rw [L4.out.V] at hout
  obtain ⟨-, rfl, rfl⟩ := hout.resolve_right fun h => h.1 (aw_has L4.out.good IX.out SX.out)
  have AC : Hid (cntC 4 cs3 [0, 1, 2] x 0 = 2) := aw_cnt SX.out
  rw [AC.out]
  have l5 := L4.out.keep hb5
  have CU := cubes_yes l5.st l5.V IX.out (most := 9) (by omega)
  change Calls _ _ #[_, _, .int .i64 9] _ _ at CU
  rw [S3.out] at CU
  unfold ptrV at CU
  have CU := Lib.hid CU
  have L5 := Lib.hid l5
  clear hb5 hout l5 ST AC
  go_wp2_with fail
  refine CU.out.mono ?_
  rintro e w6 ⟨v, ex, W, rfl, hW, hb6, hout⟩
  rw [L5.out.V] at hW
  obtain rfl := aw_ways L5.out.good IX.out SX.out hW
  obtain ⟨-, rfl, hrows⟩ := hout.resolve_right fun h => by have := h.1; simp at this
  have l6 := L5.out.keep hb6
  have AK := asks_any l6.st IX.out
  rw [S3.out] at AK
  unfold ptrV at AK
  have AK := Lib.hid AK
  have L6 := Lib.hid l6
  have HR := Lib.hid hrows
  clear hW hb6 hout hrows l6 CU
  go_wp2_with fail
  refine AK.out.mono ?_
  rintro e w7 ⟨u, p, rfl, hnr, hp, hb7⟩
  rw [L6.out.V] at hnr hp
  rw [aw_asks L6.out.good IX.out SX.out hp] at hnr
  obtain ⟨uA, uc, rfl, hrd, -⟩ := hnr.rd
  have L7 := Lib.hid (L6.out.keep hb7)
  have HR7 := Lib.hid (HR.out.keep hb7)
  rw [nats_cast] at hrd
  have RD := Lib.hid hrd
  clear hnr hp hb7 hrd AK HR
  have bA : Below w7.heap.size w7 ((w7.alloc (.cells #[.int .i64 1, .int .i64 2, .int .i64 1, .int .i64 2] 3)).alloc (.cells #[.slice (some ⟨w7.heap.size, 0, none⟩) 4 4] 27)) := ((Below.refl _ _).alloc (Nat.le_refl _) _).alloc (by simp) _
  have SR := sameRows_any (HR7.out.keep bA) (rows_lit (r := [1, 2, 1, 2]) (at_oldC _ (heap_alloc_new w7 _)) (at_newC (n := w7.heap.size + 1) _ (by simp))) (by simp) (by simp)
  rw [decide_eq_true (rfl : ([[1, 2, 1, 2]] : List (List Int)) = [[1, 2, 1, 2]])] at SR
  have SR := Lib.hid SR
  have BA := Lib.hid bA
  clear bA HR7
  go_wp2_with fail
  refine SR.out.mono ?_
  rintro e w8 ⟨rfl, q8, hw8⟩
  have B8 : Hid (Below w7.heap.size w7 w8) := by rw [hw8]; exact Lib.hid (BA.out.trans ((below_drewN0 _ _).mono (BA.out.size)))
  have b9 : Below w7.heap.size w7 (w8.alloc (.cells #[.int .i64 0, .int .i64 2] 3)) := B8.out.alloc B8.out.size _
  have SI := sameInts_any (c := uc) (d := 2) (xs := [0, 2]) (ys := [0, 2]) (RD.out.keep b9) (ints_lit (heap_alloc_new w8 _)) (by simp)
  change Calls _ _ #[.slice _ 2 _, .slice _ 2 _] _ _ at SI
  rw [decide_eq_true (rfl : ([0, 2] : List Int) = [0, 2])] at SI
  have SI := Lib.hid SI
  have B9 := Lib.hid b9
  clear hw8 b9 SR
  go_wp2_with fail
  refine SI.out.mono ?_
  rintro e w9 ⟨rfl, q9, hw9⟩
  have FIN : Hid (Below w.heap.size w w9) := by
    have h1 := L7.out.below
    have h2 := h1.trans (B9.out.mono h1.size)
    rw [hw9]
    exact Lib.hid (h2.trans ((below_drewN0 _ _).mono h2.size))
  clear hw9 SI
  go_wp2_with fail
  go_ret
  exact ⟨rfl, FIN.out⟩
end Go.Proofs.Ytkmffmlnondolaa

/- On which of four variables sixteen answers hang. Plain: no walk. -/
namespace Go.Proofs.Ytkmffmlnondolaa

def tC (a b c d : Bool) : Nat := tix (fun i => match i with | 0 => a | 1 => b | 2 => c | _ => d) 4 0 0
theorem tix_tC (val : Nat → Bool) : tix val 4 0 0 = tC (val 0) (val 1) (val 2) (val 3) := rfl
theorem tC_lt : ∀ a b c d, tC a b c d < 16 := by decide
theorem tix_lt16 (val : Nat → Bool) : tix val 4 0 0 < 16 := by rw [tix_tC]; exact tC_lt _ _ _ _
theorem tC_back : ∀ n, n < 16 → tC (n.testBit 0) (n.testBit 1) (n.testBit 2) (n.testBit 3) = n := by decide
theorem tix_back {n : Nat} (h : n < 16) : tix (fun i => n.testBit i) 4 0 0 = n := tC_back n h
theorem tC_flip0 : ∀ a b c d, tC (!a) b c d = tC a b c d ^^^ 1 := by decide
theorem tC_flip1 : ∀ a b c d, tC a (!b) c d = tC a b c d ^^^ 2 := by decide
theorem tC_flip2 : ∀ a b c d, tC a b (!c) d = tC a b c d ^^^ 4 := by decide
theorem tC_flip3 : ∀ a b c d, tC a b c (!d) = tC a b c d ^^^ 8 := by decide
theorem tix_flip (val : Nat → Bool) {v : Nat} (hv : v < 4) : tix (upd val v (!val v)) 4 0 0 = tix val 4 0 0 ^^^ 2 ^ v := by
  rw [tix_tC, tix_tC]
  rcases (by omega : v = 0 ∨ v = 1 ∨ v = 2 ∨ v = 3) with rfl | rfl | rfl | rfl
  · exact tC_flip0 _ _ _ _
  · exact tC_flip1 _ _ _ _
  · exact tC_flip2 _ _ _ _
  · exact tC_flip3 _ _ _ _

/-- Some answer turns with the variable. -/
def hangN (G : Nat → Bool) (v n : Nat) : Bool := G n != G (n ^^^ 2 ^ v)
theorem hang_iff {G : Nat → Bool} {v : Nat} (hv : v < 4) : (∃ n, n < 16 ∧ hangN G v n = true) ↔ ¬ Idle (fun val => G (tix val 4 0 0)) v := by
  constructor
  · rintro ⟨n, hn, h⟩ i
    have h1 := i (fun i => n.testBit i) (!n.testBit v)
    have h2 := tix_flip (fun i => n.testBit i) hv
    have h3 : G (tix (upd (fun i => n.testBit i) v (!n.testBit v)) 4 0 0) = G (tix (fun i => n.testBit i) 4 0 0) := h1
    have h4 : tix (upd (fun i => n.testBit i) v (!n.testBit v)) 4 0 0 = n ^^^ 2 ^ v := by
      have := h2
      rw [tix_back hn] at this
      exact this
    rw [h4, tix_back hn] at h3
    unfold hangN at h
    rw [h3] at h
    simp at h
  · intro hn
    refine Classical.byContradiction fun he => hn fun val b => ?_
    show G (tix (upd val v b) 4 0 0) = G (tix val 4 0 0)
    by_cases e : b = val v
    · have : upd val v b = val := by
        funext i
        unfold upd
        by_cases hi : i = v
        · rw [if_pos hi, e, hi]
        · rw [if_neg hi]
      rw [this]
    · have e2 : b = !val v := by revert e; cases b <;> cases val v <;> simp
      rw [e2, tix_flip val hv]
      refine Classical.byContradiction fun hne => he ⟨tix val 4 0 0, tix_lt16 val, ?_⟩
      unfold hangN
      simp only [bne_iff_ne]
      exact fun h => hne h.symm
end Go.Proofs.Ytkmffmlnondolaa

/- Layer 6's laws: on what sixteen answers hang; the numbers for which they are true. -/
namespace Go.Proofs.Ytkmffmlnondolaa
open Go.ChangeShapes Go.WideShapes Go.ChangeAt Go.RowKit Go.Maps

theorem low16C (z : Int) : ∃ a : Nat, a < 65536 ∧ bits BinOp.and IntKind.i64 z 65535 = (a : Int) ∧ ∀ n, n < 16 → bitZ z n = bitZ (a : Int) n := by
  refine ⟨(z % 65536).toNat, by omega, by rw [and_mask16]; omega, fun n hn => ?_⟩
  have e : (((z % 65536).toNat : Nat) : Int) = z % 65536 := by omega
  unfold bitZ
  rw [e]
  rcases (by omega : n = 0 ∨ n = 1 ∨ n = 2 ∨ n = 3 ∨ n = 4 ∨ n = 5 ∨ n = 6 ∨ n = 7 ∨ n = 8 ∨ n = 9 ∨ n = 10 ∨ n = 11 ∨ n = 12 ∨ n = 13 ∨ n = 14 ∨ n = 15) with rfl | rfl | rfl | rfl | rfl | rfl | rfl | rfl | rfl | rfl | rfl | rfl | rfl | rfl | rfl | rfl
  all_goals
    rw [Bool.eq_iff_iff, beq_iff_eq, beq_iff_eq]
    omega

def b2i : Bool → Int
  | true => 1
  | false => 0
theorem bitZ_and (z : Int) (n : Nat) : bits BinOp.and IntKind.i64 (z / 2 ^ n) 1 = b2i (bitZ z n) := by
  rw [and_one]
  unfold bitZ
  rcases (by omega : z / 2 ^ n % 2 = 0 ∨ z / 2 ^ n % 2 = 1) with h | h <;> rw [h] <;> rfl

theorem xor_small {n m : Nat} (hn : n < 16) (hm : m < 16) : bits BinOp.xor IntKind.i64 (n : Int) (m : Int) = ((n ^^^ m : Nat) : Int) := by
  have h : n ^^^ m < 16 := Nat.xor_lt_two_pow (n := 4) hn hm
  show IntKind.i64.wrap ((BitVec.ofInt 64 n ^^^ BitVec.ofInt 64 m).toNat : Int) = _
  rw [BitVec.toNat_xor, BitVec.toNat_ofInt, BitVec.toNat_ofInt, IntKind.wrap_i64]
  have e1 : ((n : Int) % (2 ^ 64 : Nat)).toNat = n := by omega
  have e2 : ((m : Int) % (2 ^ 64 : Nat)).toNat = m := by omega
  rw [e1, e2]
  omega

theorem hang_next {G : Nat → Bool} {v i : Nat} {b : Bool} (h : ∀ j, j < i → hangN G v j = false) (hb : b = hangN G v i) (e : b = false := by rfl) : ∀ j, j < i + 1 → hangN G v j = false := fun j hj => by
  rcases (by omega : j < i ∨ j = i) with h1 | rfl
  · exact h j h1
  · rw [← hb, e]

def hangB (x : Int) (v : Nat) : Bool := (List.range 16).any (hangN (bitZ x) v)
theorem hangB_iff {x : Int} {v : Nat} : hangB x v = true ↔ ∃ n, n < 16 ∧ hangN (bitZ x) v n = true := by
  unfold hangB
  rw [List.any_eq_true]
  constructor
  · rintro ⟨n, hn, h⟩; exact ⟨n, List.mem_range.1 hn, h⟩
  · rintro ⟨n, hn, h⟩; exact ⟨n, List.mem_range.2 hn, h⟩


def TruesOut (x : Int) (w : World) (e : Ending) (w' : World) : Prop := ∃ v, e = .returned v ∧ NRow w' w.heap.size v (truesL x 16) ∧ Below w.heap.size w w'

set_option maxRecDepth 100000 in
set_option maxHeartbeats 4000000 in
theorem trues_any {x : Nat} (w : World) : Calls Try.prog 9 #[.int .i64 (x : Int)] w (TruesOut (x : Int) w) := by
  obtain ⟨i0, hi, hz0, hz1, hz2⟩ := info_parts info_intC
  go_enter Try.func9, Try.ntmps9
  go_wp2_with fail
  go_loopw [3, 4] (fun v iv wr => ∃ j : Nat, j ≤ 16 ∧ iv = .int .i64 (j : Int) ∧ NRow wr w.heap.size v (truesL (x : Int) j) ∧ Below w.heap.size w wr) (fun _ iv _ => 16 - (intOf iv).toNat)
  case atStart => exact ⟨0, Nat.zero_le _, rfl, NRow.nil _ _, Below.refl _ _⟩
  case round =>
    obtain ⟨j, hj, rfl, hown, hbel⟩ := hrel
    have hl4 := truesL_len (x : Int) j
    by_cases hlt : j < 16
    · have e3 := bitZ_and (x : Int) j
      have hlt' : (j : Int) < 16 := by omega
      cases hb : bitZ (x : Int) j with
      | true =>
        rw [hb] at e3
        dsimp only [b2i] at e3
        have LS : Hid (truesL (x : Int) (j + 1) = truesL (x : Int) j ++ [j]) := by show _ = _; rw [truesL_succ, hb, if_pos rfl]
        have hsz := hbel.size
        clear hb
        go_wp2_with (at_builtin; refine wpList_append_own _ rfl _ _ 27 rfl w.heap.size 3 i0 (.int .i64 0) 1 8 Try.underlying27 hi hz0 hz1 hz2 rfl (by decide) _ _ _ rfl (hown.alloc _) ⟨wr.heap.size, 0, none⟩ 1 1 [.int .i64 (j : Int)] rfl rfl ?c1 ?c2 ?c3 ?c4 ?c5 ?_)
        case c1 =>
          intro i u hu
          match i, hu with
          | 0, hu => simp at hu; subst hu; simp [Addr.add]
        case c2 => intro u hu; simp at hu; subst hu; rfl
        case c3 => unfold maxLen; omega
        case c4 => omega
        case c5 => simp; omega
        intro v' w1 hown' hgrow _
        have HO : Hid (NRow w1 w.heap.size v' (truesL (x : Int) (j + 1))) := Lib.hid (by
          rw [LS.out]
          show w1.ownsRow _ _ _ v' (truesL (x : Int) j ++ [j]).length ((truesL (x : Int) j ++ [j]).map fun (x : Nat) => Value.int .i64 (x : Int))
          simpa [nats] using hown')
        have hb1 : Below w.heap.size w w1 := (hbel.alloc (by omega) _).grown hgrow (by simp; omega) (by
          intro g hg
          rcases hown.2 with ⟨rfl, _⟩ | ⟨g', cap, cur, rfl, hb, _⟩
          · simp [Value.ownBlock] at hg
          · simp [Value.ownBlock] at hg; omega)
        clear hown' hgrow hown hbel hl4
        go_wp2_with fail
        go_roundw
        case rel => exact ⟨j + 1, by omega, by go_num, HO.out, hb1⟩
        case measure => simp [intOf]; omega
      | false =>
        rw [hb] at e3
        dsimp only [b2i] at e3
        have e : truesL (x : Int) (j + 1) = truesL (x : Int) j := by rw [truesL_succ, hb, if_neg (by simp), List.append_nil]
        rw [← e] at hown
        have HO := Lib.hid hown
        clear hb hown hl4 e
        go_wp2_with fail
        go_roundw
        case rel => exact ⟨j + 1, by omega, by go_num, HO.out, hbel⟩
        case measure => simp [intOf]; omega
    · obtain rfl : j = 16 := by omega
      have HO := Lib.hid hown
      clear hown hl4
      go_wp2_with fail
      go_ret
      exact ⟨_, rfl, HO.out, hbel⟩
end Go.Proofs.Ytkmffmlnondolaa

/- Layer 6's laws: Sat of all four variables. -/
namespace Go.Proofs.Ytkmffmlnondolaa
open Go.ChangeShapes Go.WideShapes Go.ChangeAt Go.RowKit Go.Maps

def n4 (cs : List Nd) (k : Nat) : Nat := cntN (fun val => Says 4 cs val k) [0, 1, 2, 3] (fun _ => false)

theorem has4 {cs : List Nd} {k : Nat} (g : NGood 4 cs) : Has cs k [0, 1, 2, 3] := by
  intro j d p hj hd
  have ho := g.ok j d hj hd
  have : d.asks.toNat < 4 := by omega
  rcases (by omega : d.asks.toNat = 0 ∨ d.asks.toNat = 1 ∨ d.asks.toNat = 2 ∨ d.asks.toNat = 3) with e | e | e | e <;> rw [e] <;> simp

def fourC : Array Value := #[.int .i64 0, .int .i64 1, .int .i64 2, .int .i64 3]
theorem n4_le (cs : List Nd) (k : Nat) : n4 cs k ≤ 16 := cntN_le _ [0, 1, 2, 3] _
theorem cntC_four (cs : List Nd) (k : Nat) : cntC 4 cs [0, 1, 2, 3] k 0 = (n4 cs k : Int) := by
  have h16 := n4_le cs k
  unfold cntC
  rw [above_zero]
  have : ((n4 cs k : Nat) : Int) ≤ 16 := by omega
  unfold n4 at this
  exact clip_of (Int.natCast_nonneg _) (by omega)

/-- Sat of all four variables. -/
theorem sat4 {w : World} {m : Mem} {h : Hd} {cs : List Nd} (s : St w m h cs) (hV : h.V = 4) {k : Nat} {c : Nd} (hk : Is cs k c) :
    Calls Try.prog 10 #[ptrV m.s, .int .i64 (k : Int), .slice (some ⟨w.heap.size, 0, none⟩) 4 4] (w.alloc (.cells fourC 3)) fun e w' => e = .returned (.tuple #[.int .i64 (n4 cs k : Int), .int .i64 0]) ∧ Below w.heap.size w w' := by
  have hb : Below w.heap.size w (w.alloc (.cells fourC 3)) := (Below.refl _ _).alloc (Nat.le_refl _) _
  have s2 := s.keep hb
  have ST := sat_yes (cap := 4) (L := [0, 1, 2, 3]) (ys := [0, 1, 2, 3]) s2 hk (A := some ⟨w.heap.size, 0, none⟩) (ints_lit (heap_alloc_new w _)) (by simp) ⟨rfl, by decide, fun x hx => by simp at hx; omega⟩
  refine ST.mono ?_
  rintro e w' ⟨n, x, rfl, hb2, hout⟩
  rw [hV] at hout
  have g : NGood 4 cs := hV ▸ s.good
  obtain ⟨-, rfl, rfl⟩ := hout.resolve_right fun h => h.1 (has4 g)
  exact ⟨by rw [cntC_four], hb.trans (hb2.mono hb.size)⟩
end Go.Proofs.Ytkmffmlnondolaa
