/- Merged: OTab, OSays, OBegun. -/
import Derived.Test.YtkmffmlnondolaaMF
import Derived.Test.YtkmffmlnondolaaMD

/- Layer 4's laws: the node of sixteen answers (osiertables.Make). -/
namespace Go.Proofs.Ytkmffmlnondolaa
open Go.ChangeShapes Go.WideShapes Go.ChangeAt Go.RowKit Go.Maps

def BelOut (m : Mem) (h : Hd) (cs : List Nd) (n : Int) (d v f : Nat) (w : World) (e : Ending) (w' : World) : Prop :=
  ∃ (k : Nat) (t : Bool) (m' : Mem) (h' : Hd) (cs' : List Nd), e = .returned (.tuple #[.int .i64 (k : Int), .bool t]) ∧ St w' m' h' cs' ∧ Ext cs cs' ∧ Fresh cs cs' ∧ h'.V = h.V ∧ h'.B = h.B ∧ h'.sweeps = h.sweeps ∧ cnt cs' + 1 ≤ cnt cs + 2 ^ d ∧ Next m m' w w' ∧
    ((t = true ∧ At cs' v k ∧ ∀ val, Says 4 cs' val k = bitZ n (tix val d v f)) ∨ (t = false ∧ k = 0 ∧ h.B + 2 ≤ cnt cs + 2 ^ d))

def BelAt (n : Int) (d v : Nat) : Prop := ∀ (f : Nat) (m : Mem) (h : Hd) (cs : List Nd) (w : World), f < 2 ^ v → St w m h cs → h.V = 4 →
  Calls Try.prog 22 #[ptrV m.s, .int .i64 (v : Int), .int .i64 (f : Int), .int .i64 n] w (BelOut m h cs n d v f w)

theorem bel_leaf (n : Int) : BelAt n 0 4 := by
  intro f m h cs w hf s hV
  have hf : f < 16 := hf
  have hx : bits BinOp.and IntKind.i64 (f : Int) 15 = (f : Int) := by rw [and_mask4]; omega
  have S := Lib.hid s
  have A0 := Lib.hid (s.good.at0 (u := (4 : Nat)) (by omega))
  have A1 := Lib.hid (s.good.at1 (u := (4 : Nat)) (by omega))
  clear s hV
  have h0 : (0 : Int) ≤ (f : Int) := by omega
  cases hb : bitZ n f with
  | true =>
    have hy : bits BinOp.and IntKind.i64 (n / 2 ^ f) 1 = 1 := by rw [and_one]; unfold bitZ at hb; simpa using hb
    have HB := Lib.hid hb
    clear hb
    change Calls Try.prog 22 #[_, .int .i64 4, _, _] w _
    unfold ptrV
    go_enter Try.func22, Try.ntmps22
    go_wp2
    go_ret2
    exact ⟨1, true, m, h, cs, rfl, S.out, Ext.refl _, Fresh.refl _, rfl, rfl, rfl, Nat.le_refl _, Next.refl _ _, .inl ⟨rfl, A1.out, fun val => by rw [Says_one]; exact HB.out.symm⟩⟩
  | false =>
    have hy : bits BinOp.and IntKind.i64 (n / 2 ^ f) 1 = 0 := by rw [and_one]; unfold bitZ at hb; have := Int.emod_two_eq (n / 2 ^ f); simp at hb; omega
    have HB := Lib.hid hb
    clear hb
    change Calls Try.prog 22 #[_, .int .i64 4, _, _] w _
    unfold ptrV
    go_enter Try.func22, Try.ntmps22
    go_wp2
    go_ret2
    exact ⟨0, true, m, h, cs, rfl, S.out, Ext.refl _, Fresh.refl _, rfl, rfl, rfl, Nat.le_refl _, Next.refl _ _, .inl ⟨rfl, A0.out, fun val => by rw [Says_zero]; exact HB.out.symm⟩⟩

theorem bel_says {n : Int} {d v f a b k : Nat} {cs1 cs2 cs3 : List Nd} {u : Int} (x2 : Ext cs1 cs2) (g1 : NGood 4 cs1) (g2 : NGood 4 cs2) (ia : At cs1 u a) (sa : ∀ val, Says 4 cs1 val a = bitZ n (tix val d (v + 1) f)) (sb : ∀ val, Says 4 cs2 val b = bitZ n (tix val d (v + 1) (f + 2 ^ v)))
    (sk : ∀ val, Says 4 cs3 val k = if val v then Says 4 cs2 val b else Says 4 cs2 val a) : ∀ val, Says 4 cs3 val k = bitZ n (tix val (d + 1) v f) := by
  intro val
  rw [sk val]
  show _ = bitZ n (tix val d (v + 1) (if val v then f + 2 ^ v else f))
  by_cases hv : val v
  · rw [if_pos hv, if_pos hv, sb]
  · rw [if_neg hv, if_neg hv, ia.says x2 g1 g2, sa]

set_option maxHeartbeats 2000000 in
set_option maxRecDepth 100000 in
theorem bel_step3 {n : Int} (ih : BelAt n 0 4) : BelAt n 1 3 := by
  intro f m h cs w hf s hV
  have hf : f < 8 := hf
  have T1 := ih f m h cs w (by show f < 16; omega) s hV
  have IH := Lib.hid ih
  have S := Lib.hid s
  have HF := Lib.hid hf
  have HV := Lib.hid hV
  have T1 := Lib.hid T1
  have P2 : Hid (2 ^ (0 + 1) = 2 ^ 0 + 2 ^ 0) := by show _ = _; decide
  have hf8 : (f : Int) < 8 := by omega
  clear ih s hf hV
  unfold ptrV at *
  change Calls Try.prog 22 #[_, .int .i64 3, _, _] w _
  go_enter Try.func22, Try.ntmps22
  go_wp2_with fail
  refine T1.out.mono ?_
  rintro e w1 ⟨a, t1, m1, h1, cs1, rfl, s1, x1, q1, v1, b1, ws1, c1, n1, o1⟩
  have T2 := IH.out (f + 8) m1 h1 cs1 w1 (by have := HF.out; show f + 8 < 16; omega) s1 (v1.trans HV.out)
  rw [n1.s, show ((f + 8 : Nat) : Int) = (f : Int) + 8 by omega] at T2
  have T2 := Lib.hid T2
  unfold ptrV at T2
  have S1 := Lib.hid s1
  have X1 := Lib.hid x1
  have Q1 := Lib.hid q1
  have V1 := Lib.hid v1
  have B1 := Lib.hid b1
  have W1 := Lib.hid ws1
  have C1 := Lib.hid c1
  have N1 := Lib.hid n1
  have O1 := Lib.hid o1
  clear s1 x1 q1 v1 b1 ws1 c1 n1 o1
  go_wp2_with fail
  refine T2.out.mono ?_
  rintro e w2 ⟨b, t2, m2, h2, cs2, rfl, s2, x2, q2, v2, b2, ws2, c2, n2, o2⟩
  have S2 := Lib.hid s2
  have X2 := Lib.hid (X1.out.trans x2)
  have Y2 := Lib.hid x2
  have Q2 := Lib.hid (Q1.out.trans q2)
  have V2 := Lib.hid (v2.trans V1.out)
  have B2 := Lib.hid (b2.trans B1.out)
  have BB := Lib.hid b2
  have W2 := Lib.hid (ws2.trans W1.out)
  have C2 := Lib.hid c2
  have N2 := Lib.hid (N1.out.trans n2)
  have O2 := Lib.hid o2
  clear s2 x2 q2 v2 b2 ws2 c2 n2 o2
  have P2' := P2.out
  have C1' := C1.out
  have C2' := C2.out
  have B1' := B1.out
  have c12 : Hid (cnt cs2 + 2 ≤ cnt cs + 2 ^ (0 + 1)) := by show cnt cs2 + 2 ≤ cnt cs + 2 ^ (0 + 1); omega
  clear P2' C1' C2' B1'
  cases t1 with
  | false =>
    have hz : Hid (h.B + 2 ≤ cnt cs + 2 ^ (0 + 1)) := by
      rcases O1.out with ⟨h0, _⟩ | ⟨_, _, h0⟩
      · cases h0
      · have := P2.out; show _ ≤ _; omega
    go_wp2_with fail
    go_ret2
    exact ⟨0, false, m2, h2, cs2, rfl, S2.out, X2.out, Q2.out, V2.out, B2.out, W2.out, by have := c12.out; omega, N2.out, .inr ⟨rfl, rfl, hz.out⟩⟩
  | true =>
    cases t2 with
    | false =>
      have hz : Hid (h.B + 2 ≤ cnt cs + 2 ^ (0 + 1)) := by
        rcases O2.out with ⟨h0, _⟩ | ⟨_, _, h0⟩
        · cases h0
        · have := P2.out; have := C1.out; have := B1.out; show _ ≤ _; omega
      go_wp2_with fail
      go_ret2
      exact ⟨0, false, m2, h2, cs2, rfl, S2.out, X2.out, Q2.out, V2.out, B2.out, W2.out, by have := c12.out; omega, N2.out, .inr ⟨rfl, rfl, hz.out⟩⟩
    | true =>
      obtain ⟨ia, sa⟩ : At cs1 (3 + 1 : Nat) a ∧ ∀ val, Says 4 cs1 val a = bitZ n (tix val 0 (3 + 1) f) := by
        rcases O1.out with ⟨_, h0⟩ | ⟨h0, _⟩
        · exact h0
        · cases h0
      obtain ⟨ib, sb⟩ : At cs2 (3 + 1 : Nat) b ∧ ∀ val, Says 4 cs2 val b = bitZ n (tix val 0 (3 + 1) (f + 2 ^ 3)) := by
        rcases O2.out with ⟨_, h0⟩ | ⟨h0, _⟩
        · exact h0
        · cases h0
      obtain ⟨ca, ja, la⟩ := ia.ext Y2.out
      obtain ⟨cb, jb, lb⟩ := ib
      have MK := mk_semS (v := 3) S2.out (by have := V2.out; have := HV.out; omega) ja (by show (3 : Int) < ca.asks; omega) jb (by show (3 : Int) < cb.asks; omega)
      rw [N2.out.s] at MK
      have MK := Lib.hid MK
      unfold ptrV at MK
      have IA := Lib.hid ia
      have SA := Lib.hid sa
      have SB := Lib.hid sb
      clear ia sa sb ja la jb lb
      go_wp2_with fail
      refine MK.out.mono ?_
      intro e w3 hout
      clear MK
      rcases hout with ⟨k, m3, h3, cs3, c, rfl, s3, x3, i3, l3, y3, v3, b3, ws3, c3, q3, n3⟩ | ⟨rfl, hbel, hfull⟩
      · have e2 : h2.V = 4 := V2.out.trans HV.out
        have g1 : NGood 4 cs1 := (V1.out.trans HV.out) ▸ S1.out.good
        have g2 : NGood 4 cs2 := e2 ▸ S2.out.good
        rw [e2] at y3
        have y3 : ∀ val, Says 4 cs3 val k = if val 3 then Says 4 cs2 val b else Says 4 cs2 val a := y3
        have FIN : BelOut m h cs n (0 + 1) 3 f w (.returned (.tuple #[.int .i64 (k : Int), .bool true])) w3 :=
          ⟨k, true, m3, h3, cs3, rfl, s3, X2.out.trans x3, Q2.out.trans q3, v3.trans V2.out, b3.trans B2.out, ws3.trans W2.out, by have := c12.out; omega, N2.out.trans n3, .inl ⟨rfl, ⟨c, i3, l3⟩, bel_says Y2.out g1 g2 IA.out SA.out SB.out y3⟩⟩
        have FIN := Lib.hid FIN
        clear s3 x3 i3 l3 y3 v3 b3 ws3 c3 q3 n3 e2 g1 g2
        go_wp2_with fail
        go_ret2
        exact FIN.out
      · have FIN : BelOut m h cs n (0 + 1) 3 f w (.returned (.tuple #[.int .i64 ((0 : Nat) : Int), .bool false])) w3 :=
          ⟨0, false, m2, h2, cs2, rfl, S2.out.keep hbel, X2.out, Q2.out, V2.out, B2.out, W2.out, by have := c12.out; omega, N2.out.trans (Next.below hbel), .inr ⟨rfl, rfl, by have := c12.out; have := B2.out; omega⟩⟩
        have FIN := Lib.hid FIN
        clear hbel hfull
        go_wp2_with fail
        go_ret2
        exact FIN.out

set_option maxHeartbeats 2000000 in
set_option maxRecDepth 100000 in
theorem bel_step2 {n : Int} (ih : BelAt n 1 3) : BelAt n 2 2 := by
  intro f m h cs w hf s hV
  have hf : f < 4 := hf
  have T1 := ih f m h cs w (by show f < 8; omega) s hV
  have IH := Lib.hid ih
  have S := Lib.hid s
  have HF := Lib.hid hf
  have HV := Lib.hid hV
  have T1 := Lib.hid T1
  have P2 : Hid (2 ^ (1 + 1) = 2 ^ 1 + 2 ^ 1) := by show _ = _; decide
  have hf8 : (f : Int) < 4 := by omega
  clear ih s hf hV
  unfold ptrV at *
  change Calls Try.prog 22 #[_, .int .i64 2, _, _] w _
  go_enter Try.func22, Try.ntmps22
  go_wp2_with fail
  refine T1.out.mono ?_
  rintro e w1 ⟨a, t1, m1, h1, cs1, rfl, s1, x1, q1, v1, b1, ws1, c1, n1, o1⟩
  have T2 := IH.out (f + 4) m1 h1 cs1 w1 (by have := HF.out; show f + 4 < 8; omega) s1 (v1.trans HV.out)
  rw [n1.s, show ((f + 4 : Nat) : Int) = (f : Int) + 4 by omega] at T2
  have T2 := Lib.hid T2
  unfold ptrV at T2
  have S1 := Lib.hid s1
  have X1 := Lib.hid x1
  have Q1 := Lib.hid q1
  have V1 := Lib.hid v1
  have B1 := Lib.hid b1
  have W1 := Lib.hid ws1
  have C1 := Lib.hid c1
  have N1 := Lib.hid n1
  have O1 := Lib.hid o1
  clear s1 x1 q1 v1 b1 ws1 c1 n1 o1
  go_wp2_with fail
  refine T2.out.mono ?_
  rintro e w2 ⟨b, t2, m2, h2, cs2, rfl, s2, x2, q2, v2, b2, ws2, c2, n2, o2⟩
  have S2 := Lib.hid s2
  have X2 := Lib.hid (X1.out.trans x2)
  have Y2 := Lib.hid x2
  have Q2 := Lib.hid (Q1.out.trans q2)
  have V2 := Lib.hid (v2.trans V1.out)
  have B2 := Lib.hid (b2.trans B1.out)
  have BB := Lib.hid b2
  have W2 := Lib.hid (ws2.trans W1.out)
  have C2 := Lib.hid c2
  have N2 := Lib.hid (N1.out.trans n2)
  have O2 := Lib.hid o2
  clear s2 x2 q2 v2 b2 ws2 c2 n2 o2
  have P2' := P2.out
  have C1' := C1.out
  have C2' := C2.out
  have B1' := B1.out
  have c12 : Hid (cnt cs2 + 2 ≤ cnt cs + 2 ^ (1 + 1)) := by show cnt cs2 + 2 ≤ cnt cs + 2 ^ (1 + 1); omega
  clear P2' C1' C2' B1'
  cases t1 with
  | false =>
    have hz : Hid (h.B + 2 ≤ cnt cs + 2 ^ (1 + 1)) := by
      rcases O1.out with ⟨h0, _⟩ | ⟨_, _, h0⟩
      · cases h0
      · have := P2.out; show _ ≤ _; omega
    go_wp2_with fail
    go_ret2
    exact ⟨0, false, m2, h2, cs2, rfl, S2.out, X2.out, Q2.out, V2.out, B2.out, W2.out, by have := c12.out; omega, N2.out, .inr ⟨rfl, rfl, hz.out⟩⟩
  | true =>
    cases t2 with
    | false =>
      have hz : Hid (h.B + 2 ≤ cnt cs + 2 ^ (1 + 1)) := by
        rcases O2.out with ⟨h0, _⟩ | ⟨_, _, h0⟩
        · cases h0
        · have := P2.out; have := C1.out; have := B1.out; show _ ≤ _; omega
      go_wp2_with fail
      go_ret2
      exact ⟨0, false, m2, h2, cs2, rfl, S2.out, X2.out, Q2.out, V2.out, B2.out, W2.out, by have := c12.out; omega, N2.out, .inr ⟨rfl, rfl, hz.out⟩⟩
    | true =>
      obtain ⟨ia, sa⟩ : At cs1 (2 + 1 : Nat) a ∧ ∀ val, Says 4 cs1 val a = bitZ n (tix val 1 (2 + 1) f) := by
        rcases O1.out with ⟨_, h0⟩ | ⟨h0, _⟩
        · exact h0
        · cases h0
      obtain ⟨ib, sb⟩ : At cs2 (2 + 1 : Nat) b ∧ ∀ val, Says 4 cs2 val b = bitZ n (tix val 1 (2 + 1) (f + 2 ^ 2)) := by
        rcases O2.out with ⟨_, h0⟩ | ⟨h0, _⟩
        · exact h0
        · cases h0
      obtain ⟨ca, ja, la⟩ := ia.ext Y2.out
      obtain ⟨cb, jb, lb⟩ := ib
      have MK := mk_semS (v := 2) S2.out (by have := V2.out; have := HV.out; omega) ja (by show (2 : Int) < ca.asks; omega) jb (by show (2 : Int) < cb.asks; omega)
      rw [N2.out.s] at MK
      have MK := Lib.hid MK
      unfold ptrV at MK
      have IA := Lib.hid ia
      have SA := Lib.hid sa
      have SB := Lib.hid sb
      clear ia sa sb ja la jb lb
      go_wp2_with fail
      refine MK.out.mono ?_
      intro e w3 hout
      clear MK
      rcases hout with ⟨k, m3, h3, cs3, c, rfl, s3, x3, i3, l3, y3, v3, b3, ws3, c3, q3, n3⟩ | ⟨rfl, hbel, hfull⟩
      · have e2 : h2.V = 4 := V2.out.trans HV.out
        have g1 : NGood 4 cs1 := (V1.out.trans HV.out) ▸ S1.out.good
        have g2 : NGood 4 cs2 := e2 ▸ S2.out.good
        rw [e2] at y3
        have y3 : ∀ val, Says 4 cs3 val k = if val 2 then Says 4 cs2 val b else Says 4 cs2 val a := y3
        have FIN : BelOut m h cs n (1 + 1) 2 f w (.returned (.tuple #[.int .i64 (k : Int), .bool true])) w3 :=
          ⟨k, true, m3, h3, cs3, rfl, s3, X2.out.trans x3, Q2.out.trans q3, v3.trans V2.out, b3.trans B2.out, ws3.trans W2.out, by have := c12.out; omega, N2.out.trans n3, .inl ⟨rfl, ⟨c, i3, l3⟩, bel_says Y2.out g1 g2 IA.out SA.out SB.out y3⟩⟩
        have FIN := Lib.hid FIN
        clear s3 x3 i3 l3 y3 v3 b3 ws3 c3 q3 n3 e2 g1 g2
        go_wp2_with fail
        go_ret2
        exact FIN.out
      · have FIN : BelOut m h cs n (1 + 1) 2 f w (.returned (.tuple #[.int .i64 ((0 : Nat) : Int), .bool false])) w3 :=
          ⟨0, false, m2, h2, cs2, rfl, S2.out.keep hbel, X2.out, Q2.out, V2.out, B2.out, W2.out, by have := c12.out; omega, N2.out.trans (Next.below hbel), .inr ⟨rfl, rfl, by have := c12.out; have := B2.out; omega⟩⟩
        have FIN := Lib.hid FIN
        clear hbel hfull
        go_wp2_with fail
        go_ret2
        exact FIN.out

set_option maxHeartbeats 2000000 in
set_option maxRecDepth 100000 in
theorem bel_step1 {n : Int} (ih : BelAt n 2 2) : BelAt n 3 1 := by
  intro f m h cs w hf s hV
  have hf : f < 2 := hf
  have T1 := ih f m h cs w (by show f < 4; omega) s hV
  have IH := Lib.hid ih
  have S := Lib.hid s
  have HF := Lib.hid hf
  have HV := Lib.hid hV
  have T1 := Lib.hid T1
  have P2 : Hid (2 ^ (2 + 1) = 2 ^ 2 + 2 ^ 2) := by show _ = _; decide
  have hf8 : (f : Int) < 2 := by omega
  clear ih s hf hV
  unfold ptrV at *
  change Calls Try.prog 22 #[_, .int .i64 1, _, _] w _
  go_enter Try.func22, Try.ntmps22
  go_wp2_with fail
  refine T1.out.mono ?_
  rintro e w1 ⟨a, t1, m1, h1, cs1, rfl, s1, x1, q1, v1, b1, ws1, c1, n1, o1⟩
  have T2 := IH.out (f + 2) m1 h1 cs1 w1 (by have := HF.out; show f + 2 < 4; omega) s1 (v1.trans HV.out)
  rw [n1.s, show ((f + 2 : Nat) : Int) = (f : Int) + 2 by omega] at T2
  have T2 := Lib.hid T2
  unfold ptrV at T2
  have S1 := Lib.hid s1
  have X1 := Lib.hid x1
  have Q1 := Lib.hid q1
  have V1 := Lib.hid v1
  have B1 := Lib.hid b1
  have W1 := Lib.hid ws1
  have C1 := Lib.hid c1
  have N1 := Lib.hid n1
  have O1 := Lib.hid o1
  clear s1 x1 q1 v1 b1 ws1 c1 n1 o1
  go_wp2_with fail
  refine T2.out.mono ?_
  rintro e w2 ⟨b, t2, m2, h2, cs2, rfl, s2, x2, q2, v2, b2, ws2, c2, n2, o2⟩
  have S2 := Lib.hid s2
  have X2 := Lib.hid (X1.out.trans x2)
  have Y2 := Lib.hid x2
  have Q2 := Lib.hid (Q1.out.trans q2)
  have V2 := Lib.hid (v2.trans V1.out)
  have B2 := Lib.hid (b2.trans B1.out)
  have BB := Lib.hid b2
  have W2 := Lib.hid (ws2.trans W1.out)
  have C2 := Lib.hid c2
  have N2 := Lib.hid (N1.out.trans n2)
  have O2 := Lib.hid o2
  clear s2 x2 q2 v2 b2 ws2 c2 n2 o2
  have P2' := P2.out
  have C1' := C1.out
  have C2' := C2.out
  have B1' := B1.out
  have c12 : Hid (cnt cs2 + 2 ≤ cnt cs + 2 ^ (2 + 1)) := by show cnt cs2 + 2 ≤ cnt cs + 2 ^ (2 + 1); omega
  clear P2' C1' C2' B1'
  cases t1 with
  | false =>
    have hz : Hid (h.B + 2 ≤ cnt cs + 2 ^ (2 + 1)) := by
      rcases O1.out with ⟨h0, _⟩ | ⟨_, _, h0⟩
      · cases h0
      · have := P2.out; show _ ≤ _; omega
    go_wp2_with fail
    go_ret2
    exact ⟨0, false, m2, h2, cs2, rfl, S2.out, X2.out, Q2.out, V2.out, B2.out, W2.out, by have := c12.out; omega, N2.out, .inr ⟨rfl, rfl, hz.out⟩⟩
  | true =>
    cases t2 with
    | false =>
      have hz : Hid (h.B + 2 ≤ cnt cs + 2 ^ (2 + 1)) := by
        rcases O2.out with ⟨h0, _⟩ | ⟨_, _, h0⟩
        · cases h0
        · have := P2.out; have := C1.out; have := B1.out; show _ ≤ _; omega
      go_wp2_with fail
      go_ret2
      exact ⟨0, false, m2, h2, cs2, rfl, S2.out, X2.out, Q2.out, V2.out, B2.out, W2.out, by have := c12.out; omega, N2.out, .inr ⟨rfl, rfl, hz.out⟩⟩
    | true =>
      obtain ⟨ia, sa⟩ : At cs1 (1 + 1 : Nat) a ∧ ∀ val, Says 4 cs1 val a = bitZ n (tix val 2 (1 + 1) f) := by
        rcases O1.out with ⟨_, h0⟩ | ⟨h0, _⟩
        · exact h0
        · cases h0
      obtain ⟨ib, sb⟩ : At cs2 (1 + 1 : Nat) b ∧ ∀ val, Says 4 cs2 val b = bitZ n (tix val 2 (1 + 1) (f + 2 ^ 1)) := by
        rcases O2.out with ⟨_, h0⟩ | ⟨h0, _⟩
        · exact h0
        · cases h0
      obtain ⟨ca, ja, la⟩ := ia.ext Y2.out
      obtain ⟨cb, jb, lb⟩ := ib
      have MK := mk_semS (v := 1) S2.out (by have := V2.out; have := HV.out; omega) ja (by show (1 : Int) < ca.asks; omega) jb (by show (1 : Int) < cb.asks; omega)
      rw [N2.out.s] at MK
      have MK := Lib.hid MK
      unfold ptrV at MK
      have IA := Lib.hid ia
      have SA := Lib.hid sa
      have SB := Lib.hid sb
      clear ia sa sb ja la jb lb
      go_wp2_with fail
      refine MK.out.mono ?_
      intro e w3 hout
      clear MK
      rcases hout with ⟨k, m3, h3, cs3, c, rfl, s3, x3, i3, l3, y3, v3, b3, ws3, c3, q3, n3⟩ | ⟨rfl, hbel, hfull⟩
      · have e2 : h2.V = 4 := V2.out.trans HV.out
        have g1 : NGood 4 cs1 := (V1.out.trans HV.out) ▸ S1.out.good
        have g2 : NGood 4 cs2 := e2 ▸ S2.out.good
        rw [e2] at y3
        have y3 : ∀ val, Says 4 cs3 val k = if val 1 then Says 4 cs2 val b else Says 4 cs2 val a := y3
        have FIN : BelOut m h cs n (2 + 1) 1 f w (.returned (.tuple #[.int .i64 (k : Int), .bool true])) w3 :=
          ⟨k, true, m3, h3, cs3, rfl, s3, X2.out.trans x3, Q2.out.trans q3, v3.trans V2.out, b3.trans B2.out, ws3.trans W2.out, by have := c12.out; omega, N2.out.trans n3, .inl ⟨rfl, ⟨c, i3, l3⟩, bel_says Y2.out g1 g2 IA.out SA.out SB.out y3⟩⟩
        have FIN := Lib.hid FIN
        clear s3 x3 i3 l3 y3 v3 b3 ws3 c3 q3 n3 e2 g1 g2
        go_wp2_with fail
        go_ret2
        exact FIN.out
      · have FIN : BelOut m h cs n (2 + 1) 1 f w (.returned (.tuple #[.int .i64 ((0 : Nat) : Int), .bool false])) w3 :=
          ⟨0, false, m2, h2, cs2, rfl, S2.out.keep hbel, X2.out, Q2.out, V2.out, B2.out, W2.out, by have := c12.out; omega, N2.out.trans (Next.below hbel), .inr ⟨rfl, rfl, by have := c12.out; have := B2.out; omega⟩⟩
        have FIN := Lib.hid FIN
        clear hbel hfull
        go_wp2_with fail
        go_ret2
        exact FIN.out

set_option maxHeartbeats 2000000 in
set_option maxRecDepth 100000 in
theorem bel_step0 {n : Int} (ih : BelAt n 3 1) : BelAt n 4 0 := by
  intro f m h cs w hf s hV
  have hf : f < 1 := hf
  have T1 := ih f m h cs w (by show f < 2; omega) s hV
  have IH := Lib.hid ih
  have S := Lib.hid s
  have HF := Lib.hid hf
  have HV := Lib.hid hV
  have T1 := Lib.hid T1
  have P2 : Hid (2 ^ (3 + 1) = 2 ^ 3 + 2 ^ 3) := by show _ = _; decide
  have hf8 : (f : Int) < 1 := by omega
  clear ih s hf hV
  unfold ptrV at *
  change Calls Try.prog 22 #[_, .int .i64 0, _, _] w _
  go_enter Try.func22, Try.ntmps22
  go_wp2_with fail
  refine T1.out.mono ?_
  rintro e w1 ⟨a, t1, m1, h1, cs1, rfl, s1, x1, q1, v1, b1, ws1, c1, n1, o1⟩
  have T2 := IH.out (f + 1) m1 h1 cs1 w1 (by have := HF.out; show f + 1 < 2; omega) s1 (v1.trans HV.out)
  rw [n1.s, show ((f + 1 : Nat) : Int) = (f : Int) + 1 by omega] at T2
  have T2 := Lib.hid T2
  unfold ptrV at T2
  have S1 := Lib.hid s1
  have X1 := Lib.hid x1
  have Q1 := Lib.hid q1
  have V1 := Lib.hid v1
  have B1 := Lib.hid b1
  have W1 := Lib.hid ws1
  have C1 := Lib.hid c1
  have N1 := Lib.hid n1
  have O1 := Lib.hid o1
  clear s1 x1 q1 v1 b1 ws1 c1 n1 o1
  go_wp2_with fail
  refine T2.out.mono ?_
  rintro e w2 ⟨b, t2, m2, h2, cs2, rfl, s2, x2, q2, v2, b2, ws2, c2, n2, o2⟩
  have S2 := Lib.hid s2
  have X2 := Lib.hid (X1.out.trans x2)
  have Y2 := Lib.hid x2
  have Q2 := Lib.hid (Q1.out.trans q2)
  have V2 := Lib.hid (v2.trans V1.out)
  have B2 := Lib.hid (b2.trans B1.out)
  have BB := Lib.hid b2
  have W2 := Lib.hid (ws2.trans W1.out)
  have C2 := Lib.hid c2
  have N2 := Lib.hid (N1.out.trans n2)
  have O2 := Lib.hid o2
  clear s2 x2 q2 v2 b2 ws2 c2 n2 o2
  have P2' := P2.out
  have C1' := C1.out
  have C2' := C2.out
  have B1' := B1.out
  have c12 : Hid (cnt cs2 + 2 ≤ cnt cs + 2 ^ (3 + 1)) := by show cnt cs2 + 2 ≤ cnt cs + 2 ^ (3 + 1); omega
  clear P2' C1' C2' B1'
  cases t1 with
  | false =>
    have hz : Hid (h.B + 2 ≤ cnt cs + 2 ^ (3 + 1)) := by
      rcases O1.out with ⟨h0, _⟩ | ⟨_, _, h0⟩
      · cases h0
      · have := P2.out; show _ ≤ _; omega
    go_wp2_with fail
    go_ret2
    exact ⟨0, false, m2, h2, cs2, rfl, S2.out, X2.out, Q2.out, V2.out, B2.out, W2.out, by have := c12.out; omega, N2.out, .inr ⟨rfl, rfl, hz.out⟩⟩
  | true =>
    cases t2 with
    | false =>
      have hz : Hid (h.B + 2 ≤ cnt cs + 2 ^ (3 + 1)) := by
        rcases O2.out with ⟨h0, _⟩ | ⟨_, _, h0⟩
        · cases h0
        · have := P2.out; have := C1.out; have := B1.out; show _ ≤ _; omega
      go_wp2_with fail
      go_ret2
      exact ⟨0, false, m2, h2, cs2, rfl, S2.out, X2.out, Q2.out, V2.out, B2.out, W2.out, by have := c12.out; omega, N2.out, .inr ⟨rfl, rfl, hz.out⟩⟩
    | true =>
      obtain ⟨ia, sa⟩ : At cs1 (0 + 1 : Nat) a ∧ ∀ val, Says 4 cs1 val a = bitZ n (tix val 3 (0 + 1) f) := by
        rcases O1.out with ⟨_, h0⟩ | ⟨h0, _⟩
        · exact h0
        · cases h0
      obtain ⟨ib, sb⟩ : At cs2 (0 + 1 : Nat) b ∧ ∀ val, Says 4 cs2 val b = bitZ n (tix val 3 (0 + 1) (f + 2 ^ 0)) := by
        rcases O2.out with ⟨_, h0⟩ | ⟨h0, _⟩
        · exact h0
        · cases h0
      obtain ⟨ca, ja, la⟩ := ia.ext Y2.out
      obtain ⟨cb, jb, lb⟩ := ib
      have MK := mk_semS (v := 0) S2.out (by have := V2.out; have := HV.out; omega) ja (by show (0 : Int) < ca.asks; omega) jb (by show (0 : Int) < cb.asks; omega)
      rw [N2.out.s] at MK
      have MK := Lib.hid MK
      unfold ptrV at MK
      have IA := Lib.hid ia
      have SA := Lib.hid sa
      have SB := Lib.hid sb
      clear ia sa sb ja la jb lb
      go_wp2_with fail
      refine MK.out.mono ?_
      intro e w3 hout
      clear MK
      rcases hout with ⟨k, m3, h3, cs3, c, rfl, s3, x3, i3, l3, y3, v3, b3, ws3, c3, q3, n3⟩ | ⟨rfl, hbel, hfull⟩
      · have e2 : h2.V = 4 := V2.out.trans HV.out
        have g1 : NGood 4 cs1 := (V1.out.trans HV.out) ▸ S1.out.good
        have g2 : NGood 4 cs2 := e2 ▸ S2.out.good
        rw [e2] at y3
        have y3 : ∀ val, Says 4 cs3 val k = if val 0 then Says 4 cs2 val b else Says 4 cs2 val a := y3
        have FIN : BelOut m h cs n (3 + 1) 0 f w (.returned (.tuple #[.int .i64 (k : Int), .bool true])) w3 :=
          ⟨k, true, m3, h3, cs3, rfl, s3, X2.out.trans x3, Q2.out.trans q3, v3.trans V2.out, b3.trans B2.out, ws3.trans W2.out, by have := c12.out; omega, N2.out.trans n3, .inl ⟨rfl, ⟨c, i3, l3⟩, bel_says Y2.out g1 g2 IA.out SA.out SB.out y3⟩⟩
        have FIN := Lib.hid FIN
        clear s3 x3 i3 l3 y3 v3 b3 ws3 c3 q3 n3 e2 g1 g2
        go_wp2_with fail
        go_ret2
        exact FIN.out
      · have FIN : BelOut m h cs n (3 + 1) 0 f w (.returned (.tuple #[.int .i64 ((0 : Nat) : Int), .bool false])) w3 :=
          ⟨0, false, m2, h2, cs2, rfl, S2.out.keep hbel, X2.out, Q2.out, V2.out, B2.out, W2.out, by have := c12.out; omega, N2.out.trans (Next.below hbel), .inr ⟨rfl, rfl, by have := c12.out; have := B2.out; omega⟩⟩
        have FIN := Lib.hid FIN
        clear hbel hfull
        go_wp2_with fail
        go_ret2
        exact FIN.out

theorem bel_all (n : Int) : BelAt n 4 0 := bel_step0 (bel_step1 (bel_step2 (bel_step3 (bel_leaf n))))

def MakeOut4 (m : Mem) (h : Hd) (cs : List Nd) (n : Int) (w : World) (e : Ending) (w' : World) : Prop := BelOut m h cs n 4 0 0 w e w'

theorem make_any {w : World} {m : Mem} {h : Hd} {cs : List Nd} (s : St w m h cs) (hV : h.V = 4) (n : Int) : Calls Try.prog 8 #[ptrV m.s, .int .i64 n] w (MakeOut4 m h cs n w) := by
  have T := bel_all n 0 m h cs w (by decide) s hV
  change Calls Try.prog 22 #[_, .int .i64 0, .int .i64 0, _] w _ at T
  have T := Lib.hid T
  clear s hV
  unfold ptrV at *
  go_enter Try.func8, Try.ntmps8
  go_wp2_with fail
  refine T.out.mono ?_
  intro e w1 hout
  have HO := Lib.hid hout
  obtain ⟨k, t, m', h', cs', rfl, -⟩ := hout
  clear T
  go_wp2_with fail
  go_ret2
  exact HO.out
end Go.Proofs.Ytkmffmlnondolaa

/- Layer 4's laws: the sixteen answers of a node (osiertables.Says). -/
namespace Go.Proofs.Ytkmffmlnondolaa
open Go.ChangeShapes Go.WideShapes Go.ChangeAt Go.RowKit Go.Maps

/-- The number of so many answers. -/
def sumTo (f : Nat → Bool) : Nat → Int
  | 0 => 0
  | i + 1 => sumTo f i + if f i then 2 ^ i else 0
def ansAt (cs : List Nd) (k n : Nat) : Bool := Says 4 cs (valOf (valsZ (n : Int))) k
def saysZ (cs : List Nd) (k : Nat) : Int := sumTo (ansAt cs k) 16

theorem sumTo_range (f : Nat → Bool) : ∀ i, 0 ≤ sumTo f i ∧ sumTo f i < 2 ^ i
  | 0 => by simp [sumTo]
  | i + 1 => by
    have := sumTo_range f i
    have h1 : (2 : Int) ^ (i + 1) = 2 ^ i + 2 ^ i := by rw [Int.pow_succ]; omega
    rw [h1]
    unfold sumTo
    generalize (2 : Int) ^ i = p at *
    split <;> omega

theorem sumTo_nat (x : Nat) : ∀ i, sumTo (bitZ (x : Int)) i = ((x % 2 ^ i : Nat) : Int)
  | 0 => by simp [sumTo, Nat.mod_one]
  | i + 1 => by
    unfold sumTo
    rw [sumTo_nat x i, Nat.pow_succ, Nat.mod_mul]
    have hb : bitZ (x : Int) i = decide (x / 2 ^ i % 2 = 1) := by
      unfold bitZ
      rw [show ((x : Int) / 2 ^ i % 2) = ((x / 2 ^ i % 2 : Nat) : Int) by simp]
      rcases Nat.mod_two_eq_zero_or_one (x / 2 ^ i) with h | h <;> rw [h] <;> rfl
    rw [hb]
    rcases Nat.mod_two_eq_zero_or_one (x / 2 ^ i) with h | h <;> rw [h] <;> simp

theorem sumTo_congr {f g : Nat → Bool} : ∀ i, (∀ j, j < i → f j = g j) → sumTo f i = sumTo g i
  | 0, _ => rfl
  | i + 1, h => by
    unfold sumTo
    rw [sumTo_congr i (fun j hj => h j (by omega)), h i (by omega)]

theorem saysZ_bits {cs : List Nd} {k x : Nat} (hx : x < 65536) (h : ∀ n, n < 16 → ansAt cs k n = bitZ (x : Int) n) : saysZ cs k = x := by
  unfold saysZ
  rw [sumTo_congr 16 h, sumTo_nat, show (2 : Nat) ^ 16 = 65536 from rfl, Nat.mod_eq_of_lt hx]

def SaysOut (cs : List Nd) (k : Nat) (w : World) (e : Ending) (w' : World) : Prop := e = .returned (.int .i64 (saysZ cs k)) ∧ Below w.heap.size w w'

end Go.Proofs.Ytkmffmlnondolaa

/- Layer 4's laws: operations begun; one of six done. -/
namespace Go.Proofs.Ytkmffmlnondolaa
open Go.ChangeShapes Go.WideShapes Go.ChangeAt Go.RowKit Go.Maps

def NewOpsOut (m : Mem) (h : Hd) (cs : List Nd) (w : World) (e : Ending) (w' : World) : Prop :=
  ∃ o, e = .returned (.tuple #[.pointer (some ⟨o, 0, none⟩), .int .i64 0]) ∧ OSt w' m h cs o none ∧ Below w.heap.size w w' ∧ w.heap.size ≤ o

theorem newops_yes {w : World} {m : Mem} {h : Hd} {cs : List Nd} (s : St w m h cs) (h0 : 0 ≤ h.sweeps) : Calls Try.prog 18 #[ptrV m.s] w (NewOpsOut m h cs w) := by
  obtain ⟨p, hz⟩ := s.good.is0
  have NY := node_yes s.lay hz
  change Calls _ _ #[_, .int .i64 0] _ _ at NY
  have NY := Lib.hid NY
  have S := Lib.hid s
  have H0 := Lib.hid h0
  clear s hz h0
  unfold ptrV at *
  go_enter Try.func18, Try.ntmps18
  go_wp2_with fail
  refine NY.out.mono ?_
  rintro e w1 ⟨rfl, dn, rfl⟩
  have B1 := Lib.hid (below_drewN0 w dn)
  have S1 := Lib.hid (S.out.keep (below_drewN0 w dn))
  have Z1 : Hid ((w.drewN dn).heap.size = w.heap.size) := rfl
  revert B1 S1 Z1
  generalize w.drewN dn = w1
  intro B1 S1 Z1
  go_wp2_with fail
  go_ret2
  have HA : OpsAt (w1.alloc (.cells (opsC w1.heap.size m.s 0 0 none 0) 91)) w1.heap.size m.s 0 0 none 0 := heap_alloc_new w1 _
  have BA := (Below.refl w1.heap.size w1).alloc (Nat.le_refl _) (.cells (opsC w1.heap.size m.s 0 0 none 0) 91)
  have Z1' := Z1.out
  exact ⟨w1.heap.size, rfl, ⟨S1.out.keep BA, fun q => by have := S1.out.own_lt _ q; omega, .inl ⟨rfl, HA, H0.out⟩⟩, B1.out.trans (BA.mono B1.out.size), by omega⟩

theorem newops_nob {w : World} {pv : Value} (h : NBs w pv) : Calls Try.prog 18 #[pv] w fun e w' => e = .returned (.tuple #[.pointer none, .int .i64 1]) ∧ w = w' := by
  have NY := Lib.hid (node_nbs h 0)
  clear h
  go_enter Try.func18, Try.ntmps18
  go_wp2_with fail
  refine NY.out.mono ?_
  rintro e w1 ⟨rfl, rfl⟩
  go_wp2_with fail
  go_ret2
  exact ⟨rfl, rfl⟩

def first4 : List Nd := [⟨(4 : Nat), 0, 0, 0⟩, ⟨(4 : Nat), 1, 1, 0⟩]
theorem first4_cnt : cnt first4 = 2 := by decide

/-- What is known in a law: the operations of a store of four variables, with so many nodes at the most. -/
structure LSt (W : World) (B : Nat) (m : Mem) (h : Hd) (cs : List Nd) (o : Nat) (mb : Option Nat) (c : Nat) (w : World) : Prop where
  ost : OSt w m h cs o mb
  V : h.V = 4
  B : h.B = B
  cnt : cnt cs ≤ c
  below : Below W.heap.size W w
  own : ∀ i, oown o m mb i → W.heap.size ≤ i


section
variable {W : World} {B : Nat} {m : Mem} {h : Hd} {cs : List Nd} {o : Nat} {mb : Option Nat} {c : Nat} {w : World}

theorem LSt.good (l : LSt W B m h cs o mb c w) : NGood 4 cs := l.V ▸ l.ost.st.good
theorem LSt.room (l : LSt W B m h cs o mb c w) : 2 ^ h.V ≤ 900000 := by rw [l.V]; decide
theorem LSt.keep (l : LSt W B m h cs o mb c w) {w' : World} (hb : Below w.heap.size w w') : LSt W B m h cs o mb c w' :=
  ⟨l.ost.keep hb, l.V, l.B, l.cnt, l.below.trans (hb.mono l.below.size), l.own⟩

theorem LSt.ask (l : LSt W B m h cs o mb c w) (hr : c + 15 ≤ B) {q : Qu} {e : Ending} {w' : World} (a : AskOut m h cs o mb q w e w') :
    ∃ (k : Nat) (m' : Mem) (h' : Hd) (cs' : List Nd) (mb' : Option Nat), e = .returned (.tuple #[.int .i64 (k : Int), .int .i64 0]) ∧ LSt W B m' h' cs' o mb' (c + 15) w' ∧ Ext cs cs' ∧ Fresh cs cs' ∧ m'.s = m.s ∧ At cs' 0 k ∧ ∀ val, Says 4 cs' val k = qsem 4 cs val q := by
  obtain ⟨k, x, m', h', cs', mb', rfl, os, ex, fr, v, b, s, cn, on, hout⟩ := a
  have hV := l.V
  have hB := l.B
  have hc := l.cnt
  rw [hV] at cn
  rcases hout with ⟨rfl, hat, hs⟩ | ⟨_, _, hb⟩
  · obtain ⟨b1, o1⟩ := on.to_below l.below l.own l.below.size
    rw [hV] at hs
    exact ⟨k, m', h', cs', mb', rfl, ⟨os, v.trans hV, b.trans hB, by omega, b1, o1⟩, ex, fr, on.s, hat, hs⟩
  · rw [hV] at hb
    omega

theorem LSt.next (l : LSt W B m h cs o mb c w) {w' : World} {m' : Mem} {h' : Hd} {cs' : List Nd} {c' : Nat} (s' : St w' m' h' cs') (hx : Ext cs cs') (hV : h'.V = h.V) (hB : h'.B = h.B) (hs : h'.sweeps = h.sweeps) (hc : _root_.Go.Proofs.Ytkmffmlnondolaa.cnt cs' ≤ c') (hn : Next m m' w w') : LSt W B m' h' cs' o mb c' w' := by
  have on : ONext o m mb m' mb w w' := Next.onext hn
  obtain ⟨b1, o1⟩ := on.to_below l.below l.own l.below.size
  refine ⟨⟨s', hn.not_own (l.ost.own_lt o (.inr (.inl rfl))) l.ost.no, ?_⟩, hV.trans l.V, hB.trans l.B, hc, b1, o1⟩
  have g' : NGood h.V cs' := hV ▸ s'.good
  rcases l.ost.cache with ⟨a, b, d⟩ | ⟨b, n, D, sw, c1, c2, c3, c4, c5, c6⟩
  · refine .inl ⟨a, ?_, by rw [hs]; exact d⟩
    rw [hn.s]
    exact b.of (hn.turn.block o b.lt l.ost.no)
  · refine .inr ⟨b, n, D, sw, c1, ?_, c3.of (hn.turn.block b c3.lt c4), hn.not_own c3.lt c4, by rw [hs]; exact c5, fun e => ?_⟩
    · rw [hn.s]
      exact c2.of (hn.turn.block o c2.lt l.ost.no)
    · rw [hV]
      rw [hs] at e
      exact (c6 e).ext hx l.ost.st.good g'

theorem LSt.make (l : LSt W B m h cs o mb c w) (hr : c + 15 ≤ B) {n : Int} {e : Ending} {w' : World} (a : MakeOut4 m h cs n w e w') :
    ∃ (k : Nat) (m' : Mem) (h' : Hd) (cs' : List Nd), e = .returned (.tuple #[.int .i64 (k : Int), .bool true]) ∧ LSt W B m' h' cs' o mb (c + 15) w' ∧ Ext cs cs' ∧ Fresh cs cs' ∧ m'.s = m.s ∧ At cs' 0 k ∧ ∀ val, Says 4 cs' val k = bitZ n (tix val 4 0 0) := by
  obtain ⟨k, t, m', h', cs', rfl, st, ex, fr, v, b, s, cn, on, hout⟩ := a
  have hB := l.B
  have hc := l.cnt
  have cn : _root_.Go.Proofs.Ytkmffmlnondolaa.cnt cs' + 1 ≤ _root_.Go.Proofs.Ytkmffmlnondolaa.cnt cs + 16 := cn
  rcases hout with ⟨rfl, hat, hs⟩ | ⟨_, _, hb⟩
  · exact ⟨k, m', h', cs', rfl, l.next st ex v b s (by omega) on, ex, fr, on.s, hat, hs⟩
  · have hb : h.B + 2 ≤ _root_.Go.Proofs.Ytkmffmlnondolaa.cnt cs + 16 := hb
    omega
end

/-- The question of an operation, by its number. -/
def qOf (K a b c : Nat) : Qu := match K with | 0 => ⟨0, a, 0, 1⟩ | 1 => ⟨0, a, b, 0⟩ | 2 => ⟨0, a, 1, b⟩ | 3 => ⟨1, a, b, 0⟩ | 4 => ⟨0, b, 0, a⟩ | _ => ⟨0, a, b, c⟩
/-- The numbers that an operation asks. -/
def numsOf (K : Nat) (a b c : Int) : List Int := match K with | 0 => [a, 0, 1] | 1 => [a, b, 0] | 2 => [a, 1, b] | 3 => [a, b] | 4 => [b, 0, a] | _ => [a, b, c]

end Go.Proofs.Ytkmffmlnondolaa
