/- For any two numbers: behind a sweep a pinned node has its number, and says what it said; what is made again is what it was; as many stay as it is of: the law returns true. No condition. -/
import Derived.Test.YtmfghmnnacagbaaNPins
namespace Go.Proofs.Ytmfghmnnacagbaa
open Go.ChangeShapes Go.WideShapes Go.ChangeAt Go.RowKit

/-- What is known of the world: the store, and the bits of x in a block of their own. -/
structure BitW (m : Mem) (h : Hd) (cs : List Nd) (s gx : Nat) (x : Int) (W w : World) : Prop where
  st : St w m h cs
  V : h.V = 4
  B : h.B = 200
  rx : Rd w (some ⟨gx, 0, none⟩) ((bitsL x 16).map Value.bool)
  lx : gx < w.heap.size
  ox : ¬ m.own gx
  below : Below W.heap.size W w
  own : ∀ i, m.own i → W.heap.size ≤ i
  s : m.s = s

theorem BitW.keep {m : Mem} {h : Hd} {cs : List Nd} {s gx : Nat} {x : Int} {W w w' : World} (o : BitW m h cs s gx x W w) (hb : Below w.heap.size w w') : BitW m h cs s gx x W w' :=
  ⟨o.st.keep hb, o.V, o.B, o.rx.keep hb, Nat.lt_of_lt_of_le o.lx hb.size, o.ox, o.below.trans (hb.mono o.below.size), o.own, o.s⟩

theorem BitW.next {m m' : Mem} {h h' : Hd} {cs cs' : List Nd} {s gx : Nat} {x : Int} {W w w' : World} (o : BitW m h cs s gx x W w) (hn : Next m m' w w') (st : St w' m' h' cs') (hV : h'.V = h.V) (hB : h'.B = h.B) : BitW m' h' cs' s gx x W w' :=
  ⟨st, hV.trans o.V, hB.trans o.B, o.rx.next hn o.lx o.ox, Nat.lt_of_lt_of_le o.lx hn.turn.size, hn.not_own o.lx o.ox, (hn.to_below o.below o.own o.below.size).1, (hn.to_below o.below o.own o.below.size).2, hn.s.trans o.s⟩

theorem Next.of_turn {m : Mem} {w w' : World} (h : Turn m.own w w') : Next m m w w' := ⟨h, rfl, fun _ hi => .inl hi⟩

theorem BitW.table {m : Mem} {h : Hd} {cs : List Nd} {s gx : Nat} {x : Int} {W w : World} (o : BitW m h cs s gx x W w) (hroom : cnt cs ≤ 180) {y : Int} {gy cap : Nat} (ry : Rd w (some ⟨gy, 0, none⟩) ((bitsL y 16).map Value.bool)) (ly : gy < w.heap.size) (oy : ¬ m.own gy) :
    Calls Try.prog 19 #[.pointer (some ⟨s, 0, none⟩), .int .i64 0, .int .i64 0, .slice (some ⟨gy, 0, none⟩) 16 cap] w (TabOut m h cs (bitsL y 16) 4 0 0 w) := by
  have := table_any (cap := cap) o.st o.V (by rw [o.B]; omega) (bitsL_length y 16) ry ly oy
  rw [o.s] at this
  exact this

def StayTail (k s gx : Nat) (x : Int) (W : World) (wr : World) : Prop :=
  ∃ m h cs c, BitW m h cs s gx x W wr ∧ Is cs k c ∧ OnePin cs k 1 ∧ SaysBits cs x k

def StayRel (k s gx : Nat) (x : Int) (W : World) (iv : Value) (wr : World) : Prop := ∃ n : Nat, n ≤ 16 ∧ iv = .int .i64 n ∧ StayTail k s gx x W wr

set_option maxHeartbeats 8000000 in
set_option maxRecDepth 100000 in
theorem nodeStays_walk (x y : Int) (W : World) (_ : (Lit.int .i64 x).wf = true) (_ : (Lit.int .i64 y).wf = true) :
    Calls Try.prog 5 #[.int .i64 x, .int .i64 y] W fun e w' => e = .returned (.bool true) ∧ Below W.heap.size W w' := by
  go_enter Try.func5, Try.ntmps5
  go_wp2_with fail
  refine (newst_yes 4 200 (by omega) (by omega) (by omega) _).mono ?_
  rintro e w1 ⟨m, rfl, s1, hb1, ho1⟩
  have S1 := Lib.hid s1
  have B1 := Lib.hid hb1
  have O1 := Lib.hid ho1
  obtain ⟨s, hs⟩ : ∃ s, m.s = s := ⟨_, rfl⟩
  have HS := Lib.hid hs
  clear s1 hb1 ho1
  unfold ptrV
  rw [hs]
  clear hs
  go_wp2_with fail
  refine (bits_any x _).mono ?_
  rintro e w2 ⟨gx, capx, rfl, rx, hgx, hgx2, hb2⟩
  have A2 : Hid (BitW m _ _ s gx x W w2) := ⟨S1.out.keep hb2, rfl, rfl, rx, hgx2, fun h => by have := S1.out.own_lt gx h; omega, B1.out.trans (hb2.mono B1.out.size), O1.out, HS.out⟩
  have T2 := Lib.hid (A2.out.table (cap := capx) (by rw [first_cnt]; omega) A2.out.rx A2.out.lx A2.out.ox)
  clear rx hgx hgx2 hb2
  go_wp2_with fail
  refine T2.out.mono ?_
  rintro e w3 ⟨k, m3, h3, cs3, ck, rfl, s3, x3, ik, _, sk, v3, b3, c3, q3, n3⟩
  rw [first_cnt] at c3
  have C3 : Hid (cnt cs3 ≤ 17) := by have : cnt cs3 + 1 ≤ 2 + 16 := c3; show cnt cs3 ≤ 17; omega
  have A3 := Lib.hid (A2.out.next n3 s3 v3 b3)
  have SK3 : Hid (SaysBits cs3 x k) := ⟨ck, ik, sk⟩
  have P3 := Lib.hid ((first_nopins _).fresh q3)
  have I3 := Lib.hid ik
  clear s3 x3 ik sk v3 b3 c3 q3 n3
  go_wp2_with fail
  refine (bits_any y _).mono ?_
  rintro e w4 ⟨gy, capy, rfl, ry, hgy, hgy2, hb4⟩
  have A4 := Lib.hid (A3.out.keep hb4)
  have T4 := Lib.hid (A4.out.table (cap := capy) (by have := C3.out; omega) ry hgy2 (fun h => by have := A3.out.st.own_lt gy h; omega))
  clear ry hgy hgy2 hb4
  go_wp2_with fail
  refine T4.out.mono ?_
  rintro e w5 ⟨j0, m5, h5, cs5, _, rfl, s5, x5, _, _, _, v5, b5, c5, q5, n5⟩
  have C5 : Hid (cnt cs5 ≤ 32) := by have := C3.out; have : cnt cs5 + 1 ≤ cnt cs3 + 16 := c5; show cnt cs5 ≤ 32; omega
  have A5 := Lib.hid (A4.out.next n5 s5 v5 b5)
  have g3 := A3.out.st.good
  have g5 := A5.out.st.good
  rw [A3.out.V] at g3
  rw [A5.out.V] at g5
  have SK5 := Lib.hid (SK3.out.ext x5 g3 g5)
  have P5 := Lib.hid (P3.out.fresh q5)
  have I5 := Lib.hid (x5 k ck I3.out)
  have PN := pin_yes A5.out.st I5.out (by have := P5.out k ck I5.out; omega)
  unfold ptrV at PN
  rw [A5.out.s, P5.out k ck I5.out] at PN
  have PN := Lib.hid PN
  have G5 := Lib.hid g5
  clear s5 x5 v5 b5 c5 q5 n5 g3 g5
  go_wp2_with fail
  refine PN.out.mono ?_
  rintro e w6 ⟨rfl, s6, t6⟩
  have A6 := Lib.hid (A5.out.next (Next.of_turn t6) s6 rfl rfl)
  have P6 : Hid (OnePin (cs5.set k ⟨ck.asks, ck.low, ck.high, 0 + 1⟩) k 1) := P5.out.pin I5.out 1
  have I6 : Hid (Is (cs5.set k ⟨ck.asks, ck.low, ck.high, 0 + 1⟩) k ⟨ck.asks, ck.low, ck.high, 0 + 1⟩) := ⟨by rw [nget_set _ _ _ _ I5.out.lt, if_pos rfl], I5.out.2⟩
  have C6 : Hid (cnt (cs5.set k ⟨ck.asks, ck.low, ck.high, 0 + 1⟩) ≤ 32) := by show cnt _ ≤ 32; rw [cnt_pin I5.out]; exact C5.out
  have g6 := A6.out.st.good
  rw [A6.out.V] at g6
  have SK6 : Hid (SaysBits (cs5.set k ⟨ck.asks, ck.low, ck.high, 0 + 1⟩) x k) := by
    obtain ⟨c, hc, hs⟩ := SK5.out
    exact ⟨_, I6.out, fun val => by rw [(Grow.pin I5.out _).says G5.out g6 val I5.out, hs]⟩
  clear s6 t6 g6
  revert A6 P6 I6 C6 SK6
  generalize cs5.set k ⟨ck.asks, ck.low, ck.high, 0 + 1⟩ = cs6
  generalize (⟨ck.asks, ck.low, ck.high, 0 + 1⟩ : Nd) = c6
  intro A6 P6 I6 C6 SK6
  have SZ := size_yes A6.out.st I6.out
  unfold ptrV at SZ
  rw [A6.out.s, A6.out.V] at SZ
  have SZ := Lib.hid SZ
  go_wp2_with fail
  refine SZ.out.mono ?_
  rintro e w7 ⟨rfl, hb7⟩
  have A7 := Lib.hid (A6.out.keep hb7)
  clear hb7
  have L7 := len_store A7.out.st.lay
  unfold ptrV at L7
  rw [A7.out.s, A7.out.st.nodes] at L7
  have L7 := Lib.hid L7
  have SW := sweep_any A7.out.st
  unfold ptrV at SW
  rw [A7.out.s] at SW
  have SW := Lib.hid SW
  obtain ⟨z, hz⟩ : ∃ z : Int, ((allOf 4 cs6 k).length : Int) = z := ⟨_, rfl⟩
  obtain ⟨hd, hhd⟩ : ∃ z : Int, (cnt cs6 : Int) = z := ⟨_, rfl⟩
  rw [hz]
  rw [hhd] at L7
  have HZ := Lib.hid hz
  have HH := Lib.hid hhd
  clear hz hhd
  go_wp2_with fail
  refine L7.out.mono ?_
  rintro e w' ⟨rfl, rfl⟩
  go_wp2_with fail
  refine SW.out.mono ?_
  rintro e w8 ⟨rfl, s8, t8⟩
  have A8 := Lib.hid (A7.out.next (Next.of_turn t8) s8 rfl rfl)
  have CN := onepin_cnt A7.out.st.good P6.out (by omega) I6.out
  have ST := onepin_stays A7.out.st.good P6.out (by omega) I6.out
  have CS := cnt_swept (roots h5.V cs6 cs6.length) cs6
  rw [A7.out.V] at CN ST
  rw [A7.out.V] at A8 CS
  have g8 := A8.out.st.good
  have g6 := A7.out.st.good
  rw [A7.out.V] at g6
  have SK8 : Hid (SaysBits (swept (roots 4 cs6 cs6.length) cs6) x k) := by
    obtain ⟨c, hc, hs⟩ := SK6.out
    exact ⟨c6, ST.1, fun val => by rw [ST.2.2 val, hs]⟩
  have G8 : Hid (NGood 4 (swept (roots 4 cs6 cs6.length) cs6)) := g8
  have I8 := Lib.hid ST.1
  have P8 := Lib.hid ST.2.1
  have C8 : Hid (cnt (swept (roots 4 cs6 cs6.length) cs6) ≤ 180) := by have := C6.out; show cnt _ ≤ 180; omega
  have T8 := A8.out.table (cap := capx) C8.out A8.out.rx A8.out.lx A8.out.ox
  have T8 := Lib.hid T8
  have L8 := len_store A8.out.st.lay
  unfold ptrV at L8
  rw [A8.out.s, A8.out.st.nodes] at L8
  rw [A7.out.V]
  obtain ⟨c8, hc8⟩ : ∃ z : Int, (cnt (swept (roots 4 cs6 cs6.length) cs6) : Int) = z := ⟨_, rfl⟩
  obtain ⟨gi, hgi⟩ : ∃ z : Int, (goneTo (roots 4 cs6 cs6.length) cs6 cs6.length : Int) = z := ⟨_, rfl⟩
  rw [hc8] at L8
  rw [hgi]
  have L8 := Lib.hid L8
  have q1 : (c8 != hd - gi) = false := by have := HH.out; simp; omega
  have q2 : 0 ≤ gi ∧ gi ≤ 32 := by have := C6.out; omega
  have q3 : 0 ≤ hd ∧ hd ≤ 32 := by have := HH.out; have := C6.out; omega
  obtain ⟨q4, q5⟩ := q2
  obtain ⟨q6, q7⟩ := q3
  have hab : (z = 1 ∧ c8 = 2) ∨ (3 ≤ z ∧ c8 = z) := by
    have := HZ.out
    rcases CN with ⟨_, h1, h2⟩ | ⟨h1, h2⟩
    · left; omega
    · right; omega
  clear s8 t8 CN ST CS g8 g6 hc8 hgi
  rcases hab with ⟨rfl, rfl⟩ | ⟨hz3, rfl⟩
  · go_wp2_with fail
    refine L8.out.mono ?_
    rintro e w' ⟨rfl, rfl⟩
    go_wp2_with fail
    refine L8.out.mono ?_
    rintro e w' ⟨rfl, rfl⟩
    go_wp2_with fail
    refine T8.out.mono ?_
    rintro e w9 ⟨j, m9, h9, cs9, cj, rfl, s9, x9, ij, _, sj, v9, b9, c9, q9, n9⟩
    have A9 := A8.out.next n9 s9 v9 b9
    have g9 := A9.st.good
    rw [A9.V] at g9
    have SK9 := SK8.out.ext x9 G8.out g9
    have hjk : j = k := by
      obtain ⟨c, hc, hs⟩ := SK9
      exact canon g9 ij hc fun val => by rw [sj, hs]
    subst hjk
    have R0 : Hid (StayTail j s gx x W w9) := ⟨m9, h9, cs9, c6, A9, x9 _ _ I8.out, P8.out.fresh I8.out q9 x9, SK9⟩
    clear s9 x9 ij sj v9 b9 c9 q9 n9 A9 g9 SK9
    go_wp2_with fail
    go_loopw [18] (fun iv wr => StayRel j s gx x W iv wr) (fun iv _ => 16 - (intOf iv).toNat)
    case atStart => exact ⟨0, by omega, rfl, R0.out⟩
    case round =>
      clear R0
      obtain ⟨n, hn, rfl, m1, h1, cs1, c1, A1, I1, P1, SK1⟩ := hrel
      have A1 := Lib.hid A1
      have I1 := Lib.hid I1
      have P1 := Lib.hid P1
      have SK1 := Lib.hid SK1
      by_cases hlt : n < 16
      · go_wp2_with fail
        refine (vals_any (n : Int) _).mono ?_
        rintro e wa ⟨ga, rfl, hga, _, hba⟩
        have A2 := Lib.hid (A1.out.keep hba)
        have E2 := eval_vals A2.out.st A2.out.V SK1.out hlt (vals_rd hga)
        rw [A2.out.s] at E2
        have E2 := Lib.hid E2
        unfold ptrV at E2
        have cx := rd_at A2.out.rx hlt
        clear hga hba
        go_wp2_with fail
        refine E2.out.mono ?_
        rintro e wb ⟨rfl, rfl⟩
        go_wp2_with fail
        go_roundw
        case rel => exact ⟨n + 1, by omega, by go_num, m1, h1, cs1, c1, A2.out, I1.out, P1.out, SK1.out⟩
        case measure => simp [intOf]; omega
      · have p1 : c1.pins = 0 + 1 := by have := P1.out j c1 I1.out; rwa [if_pos rfl] at this
        have U1 := unpin_yes A1.out.st I1.out p1
        unfold ptrV at U1
        rw [A1.out.s] at U1
        have U1 := Lib.hid U1
        clear p1
        go_wp2_with fail
        refine U1.out.mono ?_
        rintro e wa ⟨rfl, sa, ta⟩
        have A2 := Lib.hid (A1.out.next (Next.of_turn ta) sa rfl rfl)
        have P2 := Lib.hid (P1.out.unpin I1.out)
        have I2 : Hid (Is (cs1.set j ⟨c1.asks, c1.low, c1.high, 0⟩) j ⟨c1.asks, c1.low, c1.high, 0⟩) := ⟨by rw [nget_set _ _ _ _ I1.out.lt, if_pos rfl], I1.out.2⟩
        have U2 := unpin_none A2.out.st.lay I2.out rfl
        unfold ptrV at U2
        rw [A2.out.s] at U2
        have U2 := Lib.hid U2
        clear sa ta
        go_wp2_with fail
        refine U2.out.mono ?_
        rintro e wb ⟨rfl, rfl⟩
        have SW2 := sweep_any A2.out.st
        unfold ptrV at SW2
        rw [A2.out.s] at SW2
        have SW2 := Lib.hid SW2
        go_wp2_with fail
        refine SW2.out.mono ?_
        rintro e wc ⟨rfl, sc, tc⟩
        have A3 := Lib.hid (A2.out.next (Next.of_turn tc) sc rfl rfl)
        have L3 := len_store A3.out.st.lay
        unfold ptrV at L3
        rw [A3.out.s, A3.out.st.nodes, nopins_cnt A2.out.st.good P2.out] at L3
        have L3 : Calls Try.prog 13 #[.pointer (some ⟨s, 0, none⟩)] wc fun e w' => e = .returned (.int .i64 2) ∧ wc = w' := L3
        have L3 := Lib.hid L3
        clear sc tc
        go_wp2_with fail
        refine L3.out.mono ?_
        rintro e wd ⟨rfl, rfl⟩
        go_wp2_with fail
        refine (awake3 _).mono ?_
        rintro e we ⟨rfl, hbe⟩
        go_wp2_with fail
        go_ret
        exact ⟨rfl, (A3.out.keep hbe).below⟩
  · go_wp2_with fail
    refine L8.out.mono ?_
    rintro e w' ⟨rfl, rfl⟩
    go_wp2_with fail
    refine L8.out.mono ?_
    rintro e w' ⟨rfl, rfl⟩
    go_wp2_with fail
    refine T8.out.mono ?_
    rintro e w9 ⟨j, m9, h9, cs9, cj, rfl, s9, x9, ij, _, sj, v9, b9, c9, q9, n9⟩
    have A9 := A8.out.next n9 s9 v9 b9
    have g9 := A9.st.good
    rw [A9.V] at g9
    have SK9 := SK8.out.ext x9 G8.out g9
    have hjk : j = k := by
      obtain ⟨c, hc, hs⟩ := SK9
      exact canon g9 ij hc fun val => by rw [sj, hs]
    subst hjk
    have R0 : Hid (StayTail j s gx x W w9) := ⟨m9, h9, cs9, c6, A9, x9 _ _ I8.out, P8.out.fresh I8.out q9 x9, SK9⟩
    clear s9 x9 ij sj v9 b9 c9 q9 n9 A9 g9 SK9
    go_wp2_with fail
    go_loopw [18] (fun iv wr => StayRel j s gx x W iv wr) (fun iv _ => 16 - (intOf iv).toNat)
    case atStart => exact ⟨0, by omega, rfl, R0.out⟩
    case round =>
      clear R0
      obtain ⟨n, hn, rfl, m1, h1, cs1, c1, A1, I1, P1, SK1⟩ := hrel
      have A1 := Lib.hid A1
      have I1 := Lib.hid I1
      have P1 := Lib.hid P1
      have SK1 := Lib.hid SK1
      by_cases hlt : n < 16
      · go_wp2_with fail
        refine (vals_any (n : Int) _).mono ?_
        rintro e wa ⟨ga, rfl, hga, _, hba⟩
        have A2 := Lib.hid (A1.out.keep hba)
        have E2 := eval_vals A2.out.st A2.out.V SK1.out hlt (vals_rd hga)
        rw [A2.out.s] at E2
        have E2 := Lib.hid E2
        unfold ptrV at E2
        have cx := rd_at A2.out.rx hlt
        clear hga hba
        go_wp2_with fail
        refine E2.out.mono ?_
        rintro e wb ⟨rfl, rfl⟩
        go_wp2_with fail
        go_roundw
        case rel => exact ⟨n + 1, by omega, by go_num, m1, h1, cs1, c1, A2.out, I1.out, P1.out, SK1.out⟩
        case measure => simp [intOf]; omega
      · have p1 : c1.pins = 0 + 1 := by have := P1.out j c1 I1.out; rwa [if_pos rfl] at this
        have U1 := unpin_yes A1.out.st I1.out p1
        unfold ptrV at U1
        rw [A1.out.s] at U1
        have U1 := Lib.hid U1
        clear p1
        go_wp2_with fail
        refine U1.out.mono ?_
        rintro e wa ⟨rfl, sa, ta⟩
        have A2 := Lib.hid (A1.out.next (Next.of_turn ta) sa rfl rfl)
        have P2 := Lib.hid (P1.out.unpin I1.out)
        have I2 : Hid (Is (cs1.set j ⟨c1.asks, c1.low, c1.high, 0⟩) j ⟨c1.asks, c1.low, c1.high, 0⟩) := ⟨by rw [nget_set _ _ _ _ I1.out.lt, if_pos rfl], I1.out.2⟩
        have U2 := unpin_none A2.out.st.lay I2.out rfl
        unfold ptrV at U2
        rw [A2.out.s] at U2
        have U2 := Lib.hid U2
        clear sa ta
        go_wp2_with fail
        refine U2.out.mono ?_
        rintro e wb ⟨rfl, rfl⟩
        have SW2 := sweep_any A2.out.st
        unfold ptrV at SW2
        rw [A2.out.s] at SW2
        have SW2 := Lib.hid SW2
        go_wp2_with fail
        refine SW2.out.mono ?_
        rintro e wc ⟨rfl, sc, tc⟩
        have A3 := Lib.hid (A2.out.next (Next.of_turn tc) sc rfl rfl)
        have L3 := len_store A3.out.st.lay
        unfold ptrV at L3
        rw [A3.out.s, A3.out.st.nodes, nopins_cnt A2.out.st.good P2.out] at L3
        have L3 : Calls Try.prog 13 #[.pointer (some ⟨s, 0, none⟩)] wc fun e w' => e = .returned (.int .i64 2) ∧ wc = w' := L3
        have L3 := Lib.hid L3
        clear sc tc
        go_wp2_with fail
        refine L3.out.mono ?_
        rintro e wd ⟨rfl, rfl⟩
        go_wp2_with fail
        refine (awake3 _).mono ?_
        rintro e we ⟨rfl, hbe⟩
        go_wp2_with fail
        go_ret
        exact ⟨rfl, (A3.out.keep hbe).below⟩
namespace nodeStays
set_option linter.unusedVariables false
theorem own : ownKnob Try.prog.godebug = none := by kernel_rfl
theorem laidOut : laidOutB Try.prog = true := by kernel_rfl
set_option maxRecDepth 100000 in
theorem lifted (os : Os) (started : os.Started) (H : Type) (enc : TypeId × Value → H) :
    ReturnsInHanded {} Try.checked os 5 .any (Rows.nodeStaysSpec.pre6 enc Try.prog Try.f5 Rows.nodeStaysRow.domain false) (Rows.nodeStaysSpec.post enc Try.prog Try.f5 false true false false) := by
  refine returnsInHanded_of_change (C := Try.checked) own started (by kernel_rfl) Try.func5
    (ChangeSpec.witness6 (enc := enc) (C := Try.checked) false ⟨#[], #[.int .i64 0, .int .i64 0], []⟩ 8 (by kernel_rfl) (by kernel_rfl) (by kernel_rfl) (by kernel_rfl)) ?_
  intro W base args ds gs before hval0 hW hcnd hsz
  have hval : ∀ (j : Nat) t v, Try.f5.params[j]? = some t → args[j]? = some v → Value.okWide Try.prog W .any base t v := hval0
  have hW' := hW
  obtain ⟨p, q, hA0, hV, rfl, hfz, hnd⟩ := hW
  have hA : DataW.TrodAll enc Try.prog W 0 (fun _ => true) true Try.f5.params.toList args.toList ds p := hA0
  rw [Try.params5] at hA hval
  obtain ⟨v0, vs0, d0, ds0, p0, q0, hargs, rfl, rfl, h0, r0⟩ := trodAll_cons hA
  obtain ⟨v1, vs1, d1, ds1, p1, q1, rfl, rfl, rfl, h1, r1⟩ := trodAll_cons r0
  obtain ⟨rfl, rfl, rfl⟩ := trodAll_nil r1
  obtain rfl : args = #[v0, v1] := by cases args; simp_all
  obtain ⟨rfl, rfl⟩ := trodVars_none hV
  obtain ⟨a0, rfl, rfl, rfl, w0⟩ := open_int Try.underlying3 (hval 0 3 v0 rfl rfl) h0
  obtain ⟨a1, rfl, rfl, rfl, w1⟩ := open_int Try.underlying3 (hval 1 3 v1 rfl rfl) h1
  clear hA0 hval0
  refine (nodeStays_walk a0 a1 W w0 w1).mono fun e W' ⟨he, bel⟩ => ?_
  subst he
  exact ⟨_, rfl, _, _, _, [], _, [], hW', trodAll_mk1 (shut_bool Try.underlying4 _), (trodAll_cons_mk (shut_int Try.underlying3 w0) (trodAll_cons_mk (shut_int Try.underlying3 w1) trodAll_mk0)), rfl, bel.frame _, fun h => by cases h⟩
theorem over : Rows.nodeStaysRow.holds Try.pinned (OpenSpec.ofChange Rows.nodeStaysSpec) :=
  OpenClaim.holds_of_wide 5 Try.f5 rfl rfl rfl rfl rfl rfl rfl ⟨rfl, rfl, rfl, rfl, rfl⟩ rfl rfl rfl rfl rfl (by kernel_rfl) Try.func5 (by kernel_rfl)
    (of_decide_eq_true (by kernel_rfl)) (by unfold Func.isWrapper; first | (rw [if_pos (by decide +kernel)]; kernel_rfl) | (rw [if_neg (by decide +kernel)]; exact ⟨rfl, rfl⟩))
    (fun os started H enc _ => lifted os started H enc)
/-- THE STATEMENT. -/
theorem proved : Rows.NodeStaysSaid := over
end nodeStays
#print axioms nodeStays.proved
end Go.Proofs.Ytmfghmnnacagbaa
