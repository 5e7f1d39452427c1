/- For any three numbers of sixteen bits, each operation, and however often it is swept between: an operation on nodes with pins gives what it gave, or a node that says the same: the law returns true. No condition. -/
import Derived.Test.YtfdebadmikmnaaaOPins
namespace Go.Proofs.Ytfdebadmikmnaaa
open Go.ChangeShapes Go.WideShapes Go.ChangeAt Go.RowKit Go.Maps

/-- The law's variable l. -/
def lvar (k0 k1 k2 : Nat) : Obj := .cells #[.int .i64 k0, .int .i64 k1, .int .i64 k2] 22

/-- At the first loop's head. -/
def SwR1 (W : World) (o s lb a b c : Nat) (ix : Value) (wr : World) : Prop :=
  ∃ (i : Nat) (m : Mem) (h : Hd) (cs : List Nd) (mb : Option Nat) (cc k0 k1 k2 : Nat), i ≤ 3 ∧ ix = .int .i64 i ∧ cc ≤ 2 + 15 * i ∧ m.s = s ∧ PSt W m h cs o mb cc 0 i lb (lvar k0 k1 k2) wr ∧ (0 < i → PSay cs k0 a) ∧ (1 < i → PSay cs k1 b) ∧ (2 < i → PSay cs k2 c)

/-- At the second loop's head. -/
def SwR2 (W : World) (o s lb a b c k0 k1 k2 t : Nat) (ix : Value) (wr : World) : Prop :=
  ∃ (i : Nat) (m : Mem) (h : Hd) (cs : List Nd) (mb : Option Nat) (cc : Nat), i ≤ t ∧ ix = .int .i64 i ∧ cc ≤ 62 + 15 * i ∧ m.s = s ∧ PSt W m h cs o mb cc i 3 lb (lvar k0 k1 k2) wr ∧ PSay cs k0 a ∧ PSay cs k1 b ∧ PSay cs k2 c

theorem low2 (z : Int) : ∃ t : Nat, t < 4 ∧ bits BinOp.and IntKind.i64 z 3 = (t : Int) := by
  refine ⟨(z % 4).toNat, by omega, ?_⟩
  show IntKind.i64.wrap ((BitVec.ofInt 64 z &&& BitVec.ofInt 64 ((3 : Nat) : Int)).toNat : Int) = _
  have h := Nat.and_two_pow_sub_one_eq_mod (BitVec.ofInt 64 z).toNat 2
  rw [BitVec.toNat_and, ofInt_i64 3 (by omega), show (3 : Nat) = 2 ^ 2 - 1 from rfl, h, IntKind.wrap_i64, BitVec.toNat_ofInt]
  omega

set_option maxHeartbeats 8000000 in
set_option maxRecDepth 100000 in
theorem swept_core (x y z kd sv : Int) (w : World) : Calls Try.prog 5 #[.agg #[.int .i64 x, .int .i64 y, .int .i64 z], .int .i64 kd, .int .i64 sv] w fun e w' => e = .returned (.bool true) ∧ Below w.heap.size w w' := by
  obtain ⟨a, ha, ea⟩ := low16 x
  obtain ⟨b, hb, eb⟩ := low16 y
  obtain ⟨c, hc, ec⟩ := low16 z
  obtain ⟨a8, -, ea8⟩ := low16 (x / 8)
  obtain ⟨b8, -, eb8⟩ := low16 (y / 8)
  obtain ⟨c8, -, ec8⟩ := low16 (z / 8)
  obtain ⟨t, ht4, et⟩ := low2 sv
  obtain ⟨j, K, -, hK, ej, ek, -⟩ := kind6 kd
  have bw := (Below.refl w.heap.size w).alloc (Nat.le_refl _) (.cells #[.int .i64 x, .int .i64 y, .int .i64 z] 22)
  have hr := heap_alloc_new w (.cells #[.int .i64 x, .int .i64 y, .int .i64 z] 22)
  have BG := begun_any 1000 (by omega) (by omega) (w.alloc (.cells #[.int .i64 x, .int .i64 y, .int .i64 z] 22))
  change Calls _ _ #[.int .i64 1000] _ _ at BG
  have BG := Lib.hid BG
  have BW := Lib.hid bw
  have HR := Lib.hid hr
  have HA := Lib.hid ha
  have HB := Lib.hid hb
  have HC := Lib.hid hc
  have HK := Lib.hid hK
  have HT := Lib.hid ht4
  have AW := Lib.hid awake4
  clear bw hr ha hb hc hK ht4
  go_enter Try.func5, Try.ntmps5
  go_wp2_with fail
  refine BG.out.mono ?_
  rintro e w1 ⟨m1, o, rfl, l1⟩
  clear BG
  have ba := (Below.refl w1.heap.size w1).alloc (Nat.le_refl _) (.cells #[.int .i64 0, .int .i64 0, .int .i64 0] 22)
  have hl := heap_alloc_new w1 (.cells #[.int .i64 0, .int .i64 0, .int .i64 0] 22)
  have R0 : Hid (SwR1 (w.alloc (.cells #[.int .i64 x, .int .i64 y, .int .i64 z] 22)) o m1.s w1.heap.size a b c (.int .i64 0) (w1.alloc (.cells #[.int .i64 0, .int .i64 0, .int .i64 0] 22))) :=
    ⟨0, m1, _, first4, none, 2, 0, 0, 0, by omega, rfl, by omega, rfl, ⟨l1.keep ba, hl, fun q => by have := l1.ost.own_lt _ q; omega, rfl, fun i d hd => by
      have hlt := hd.lt
      have h1 := hd.1
      rcases (by have : first4.length = 2 := rfl; omega : i = 0 ∨ i = 1) with rfl | rfl
      · injection h1 with h1; rw [← h1]; exact Nat.le_refl _
      · injection h1 with h1; rw [← h1]; exact Nat.le_refl _⟩, fun h => by omega, fun h => by omega, fun h => by omega⟩
  have LB : Hid ((w.alloc (.cells #[.int .i64 x, .int .i64 y, .int .i64 z] 22)).heap.size ≤ w1.heap.size) := l1.below.size
  clear l1 ba hl
  unfold ptrV at *
  go_wp2_with fail
  revert R0 LB
  generalize w1.alloc (.cells #[.int .i64 0, .int .i64 0, .int .i64 0] 22) = w2
  generalize w1.heap.size = lb
  generalize m1.s = s
  intro R0 LB
  go_loopw [11] (SwR1 (w.alloc (.cells #[.int .i64 x, .int .i64 y, .int .i64 z] 22)) o s lb a b c) (fun ix _ => 3 - (intOf ix).toNat)
  case atStart => exact R0.out
  case round =>
    clear R0
    obtain ⟨i, m, h, cs, mb, cc, k0, k1, k2, hi, rfl, hcc, rfl, P, y0, y1, y2⟩ := hrel
    have rx := (P.l.below.block _ (row_lt HR.out)).trans HR.out
    have x0 := cell_of_row _ _ 0 _ _ _ rx
    have x1 := cell_of_row _ _ 1 _ _ _ rx
    have x2 := cell_of_row _ _ 2 _ _ _ rx
    simp at x0 x1 x2
    clear rx
    have PP := Lib.hid P
    have Y0 := Lib.hid y0
    have Y1 := Lib.hid y1
    have Y2 := Lib.hid y2
    have CC := Lib.hid hcc
    clear P y0 y1 y2 hcc
    rcases (by omega : i = 0 ∨ i = 1 ∨ i = 2 ∨ i = 3) with rfl | rfl | rfl | rfl
    · have T := make_any PP.out.l.ost.st PP.out.l.V (a : Int)
      unfold ptrV at T
      have T := Lib.hid T
      go_wp2_with fail
      refine T.out.mono ?_
      intro e w5 hout
      obtain ⟨k, m5, h5, cs5, rfl, p5, ex, s5, a5, b5⟩ := PP.out.make (by have := CC.out; omega) hout
      clear hout T x0 x1 x2
      have PL := p5.pin (by omega) a5
      rw [s5] at PL
      unfold ptrV at PL
      have PL := Lib.hid PL
      have Y0' := Lib.hid fun q => (Y0.out q).ext ex PP.out.l.good p5.l.good
      have Y1' := Lib.hid fun q => (Y1.out q).ext ex PP.out.l.good p5.l.good
      have Y2' := Lib.hid fun q => (Y2.out q).ext ex PP.out.l.good p5.l.good
      have G5 := Lib.hid p5.l.good
      have S5 := Lib.hid s5
      have A5 := Lib.hid a5
      have B5 := Lib.hid b5
      clear p5 ex s5 a5 b5 PP Y0 Y1 Y2
      go_wp2_with fail
      refine PL.out.mono ?_
      rintro e w6 ⟨rfl, cs6, p6, hp, hkeep, hgrow⟩
      clear PL
      have c0 := cell_of_row _ _ 0 _ _ _ p6.row
      have c1 := frozen_of_row _ lb 0 _ _ p6.row
      simp at c0
      have TT := (Turn.refl (fun i => i = lb) w6).setCell (p := ⟨lb, 0, none⟩) (.inl rfl) (.int .i64 (k : Int))
      have RW := heap_setCell_same _ _ 0 _ _ (.int .i64 (k : Int)) p6.row
      have P7 := Lib.hid (p6.store LB.out TT (y := lvar k k1 k2) RW)
      have PK : Hid (PSay cs6 k a) := by
        obtain ⟨d, hd, h1⟩ := hp
        exact ⟨d, hd, h1, fun val => (A5.out.gsays hgrow G5.out p6.l.good val).trans (B5.out val)⟩
      have KE := Lib.hid hkeep
      clear p6 hp hkeep hgrow TT RW
      go_wp2_with fail
      go_roundw
      case rel => exact ⟨1, m5, h5, cs6, mb, cc + 15, k, k1, k2, by omega, rfl, by have := CC.out; omega, S5.out, P7.out, fun q => PK.out, fun q => by omega, fun q => by omega⟩
      case measure => simp [intOf]
    · have T := make_any PP.out.l.ost.st PP.out.l.V (b : Int)
      unfold ptrV at T
      have T := Lib.hid T
      go_wp2_with fail
      refine T.out.mono ?_
      intro e w5 hout
      obtain ⟨k, m5, h5, cs5, rfl, p5, ex, s5, a5, b5⟩ := PP.out.make (by have := CC.out; omega) hout
      clear hout T x0 x1 x2
      have PL := p5.pin (by omega) a5
      rw [s5] at PL
      unfold ptrV at PL
      have PL := Lib.hid PL
      have Y0' := Lib.hid fun q => (Y0.out q).ext ex PP.out.l.good p5.l.good
      have Y1' := Lib.hid fun q => (Y1.out q).ext ex PP.out.l.good p5.l.good
      have Y2' := Lib.hid fun q => (Y2.out q).ext ex PP.out.l.good p5.l.good
      have G5 := Lib.hid p5.l.good
      have S5 := Lib.hid s5
      have A5 := Lib.hid a5
      have B5 := Lib.hid b5
      clear p5 ex s5 a5 b5 PP Y0 Y1 Y2
      go_wp2_with fail
      refine PL.out.mono ?_
      rintro e w6 ⟨rfl, cs6, p6, hp, hkeep, hgrow⟩
      clear PL
      have c0 := cell_of_row _ _ 1 _ _ _ p6.row
      have c1 := frozen_of_row _ lb 1 _ _ p6.row
      simp at c0
      have TT := (Turn.refl (fun i => i = lb) w6).setCell (p := ⟨lb, 1, none⟩) (.inl rfl) (.int .i64 (k : Int))
      have RW := heap_setCell_same _ _ 1 _ _ (.int .i64 (k : Int)) p6.row
      have P7 := Lib.hid (p6.store LB.out TT (y := lvar k0 k k2) RW)
      have PK : Hid (PSay cs6 k b) := by
        obtain ⟨d, hd, h1⟩ := hp
        exact ⟨d, hd, h1, fun val => (A5.out.gsays hgrow G5.out p6.l.good val).trans (B5.out val)⟩
      have KE := Lib.hid hkeep
      clear p6 hp hkeep hgrow TT RW
      go_wp2_with fail
      go_roundw
      case rel => exact ⟨2, m5, h5, cs6, mb, cc + 15, k0, k, k2, by omega, rfl, by have := CC.out; omega, S5.out, P7.out, fun q => KE.out _ _ (Y0'.out (by omega)), fun q => PK.out, fun q => by omega⟩
      case measure => simp [intOf]
    · have T := make_any PP.out.l.ost.st PP.out.l.V (c : Int)
      unfold ptrV at T
      have T := Lib.hid T
      go_wp2_with fail
      refine T.out.mono ?_
      intro e w5 hout
      obtain ⟨k, m5, h5, cs5, rfl, p5, ex, s5, a5, b5⟩ := PP.out.make (by have := CC.out; omega) hout
      clear hout T x0 x1 x2
      have PL := p5.pin (by omega) a5
      rw [s5] at PL
      unfold ptrV at PL
      have PL := Lib.hid PL
      have Y0' := Lib.hid fun q => (Y0.out q).ext ex PP.out.l.good p5.l.good
      have Y1' := Lib.hid fun q => (Y1.out q).ext ex PP.out.l.good p5.l.good
      have Y2' := Lib.hid fun q => (Y2.out q).ext ex PP.out.l.good p5.l.good
      have G5 := Lib.hid p5.l.good
      have S5 := Lib.hid s5
      have A5 := Lib.hid a5
      have B5 := Lib.hid b5
      clear p5 ex s5 a5 b5 PP Y0 Y1 Y2
      go_wp2_with fail
      refine PL.out.mono ?_
      rintro e w6 ⟨rfl, cs6, p6, hp, hkeep, hgrow⟩
      clear PL
      have c0 := cell_of_row _ _ 2 _ _ _ p6.row
      have c1 := frozen_of_row _ lb 2 _ _ p6.row
      simp at c0
      have TT := (Turn.refl (fun i => i = lb) w6).setCell (p := ⟨lb, 2, none⟩) (.inl rfl) (.int .i64 (k : Int))
      have RW := heap_setCell_same _ _ 2 _ _ (.int .i64 (k : Int)) p6.row
      have P7 := Lib.hid (p6.store LB.out TT (y := lvar k0 k1 k) RW)
      have PK : Hid (PSay cs6 k c) := by
        obtain ⟨d, hd, h1⟩ := hp
        exact ⟨d, hd, h1, fun val => (A5.out.gsays hgrow G5.out p6.l.good val).trans (B5.out val)⟩
      have KE := Lib.hid hkeep
      clear p6 hp hkeep hgrow TT RW
      go_wp2_with fail
      go_roundw
      case rel => exact ⟨3, m5, h5, cs6, mb, cc + 15, k0, k1, k, by omega, rfl, by have := CC.out; omega, S5.out, P7.out, fun q => KE.out _ _ (Y0'.out (by omega)), fun q => KE.out _ _ (Y1'.out (by omega)), fun q => PK.out⟩
      case measure => simp [intOf]
    · have z0 := Y0.out (by omega)
      have z1 := Y1.out (by omega)
      have z2 := Y2.out (by omega)
      have T := Lib.hid (does_good PP.out.l.ost PP.out.l.room HK.out (z0.at PP.out.l.good) (z1.at PP.out.l.good) (z2.at PP.out.l.good))
      have MS : Hid (∀ val, qsem 4 cs val (qOf K k0 k1 k2) = bitZ (mustN K a b c : Nat) (tix val 4 0 0)) := must_says z0.says z1.says z2.says
      have ML := Lib.hid (mustN_lt (K := K) HA.out HB.out HC.out)
      have MU := Lib.hid (fun w => must_any (w := w) HK.out HA.out HB.out HC.out)
      have MA : Hid (∀ cs' : List Nd, PSay cs' k0 a → PSay cs' k1 b → PSay cs' k2 c → ∀ val, qsem 4 cs' val (qOf K k0 k1 k2) = bitZ (mustN K a b c : Nat) (tix val 4 0 0)) := fun cs' z0 z1 z2 => must_says z0.says z1.says z2.says
      unfold MustOut at MU
      revert MA MU ML MS
      generalize mustN K a b c = M
      intro MS ML MU MA
      have c0 := cell_of_row _ _ 0 _ _ _ PP.out.row
      have c1 := cell_of_row _ _ 1 _ _ _ PP.out.row
      have c2 := cell_of_row _ _ 2 _ _ _ PP.out.row
      simp at c0 c1 c2
      have Z0 := Lib.hid z0
      have Z1 := Lib.hid z1
      have Z2 := Lib.hid z2
      clear z0 z1 z2 Y0 Y1 Y2 x0 x1 x2 hi
      go_wp2_with fail
      refine T.out.mono ?_
      intro e w5 hout
      obtain ⟨n, m5, h5, cs5, mb5, rfl, p5, ex, s5, a5, b5⟩ := PP.out.ask (by have := CC.out; omega) hout
      clear hout T c0 c1 c2
      have b5 : ∀ val, Says 4 cs5 val n = bitZ (M : Int) (tix val 4 0 0) := fun val => (b5 val).trans (MS.out val)
      have SA := says_any p5.l.ost.st p5.l.V a5
      unfold SaysOut at SA
      rw [ans_bits b5 ML.out, s5] at SA
      unfold ptrV at SA
      have SA := Lib.hid SA
      have P5 := Lib.hid p5
      have S5 := Lib.hid s5
      have Z0' := Lib.hid (Z0.out.ext ex PP.out.l.good p5.l.good)
      have Z1' := Lib.hid (Z1.out.ext ex PP.out.l.good p5.l.good)
      have Z2' := Lib.hid (Z2.out.ext ex PP.out.l.good p5.l.good)
      clear p5 ex s5 a5 b5 PP Z0 Z1 Z2 MS
      go_wp2_with fail
      refine SA.out.mono ?_
      rintro e w6 ⟨rfl, hb6⟩
      have R0 : Hid (SwR2 (w.alloc (.cells #[.int .i64 x, .int .i64 y, .int .i64 z] 22)) o m.s lb a b c k0 k1 k2 t (.int .i64 0) w6) := ⟨0, m5, h5, cs5, mb5, cc + 15, Nat.zero_le _, rfl, by have := CC.out; omega, S5.out, P5.out.keep hb6, Z0'.out, Z1'.out, Z2'.out⟩
      clear hb6 SA P5 S5 Z0' Z1' Z2' CC
      go_wp2_with fail
      revert R0
      generalize m.s = s
      intro R0
      go_loopw [18] (SwR2 (w.alloc (.cells #[.int .i64 x, .int .i64 y, .int .i64 z] 22)) o s lb a b c k0 k1 k2 t) (fun ix _ => t - (intOf ix).toNat)
      case atStart => exact R0.out
      case round =>
        clear R0
        obtain ⟨i, m, h, cs, mb, cc, hi, rfl, hcc, rfl, P, y0, y1, y2⟩ := hrel
        have PP := Lib.hid P
        have Y0 := Lib.hid y0
        have Y1 := Lib.hid y1
        have Y2 := Lib.hid y2
        have CC := Lib.hid hcc
        clear P y0 y1 y2 hcc
        by_cases hlt : i < t
        · have SWP := PP.out.sweep (by have := HT.out; omega)
          unfold ptrV at SWP
          have SWP := Lib.hid SWP
          have hlt' : (i : Int) < (t : Int) := by omega
          go_wp2_with fail
          refine SWP.out.mono ?_
          rintro e w7 ⟨r, h7, cs7, rfl, p7, hkeep⟩
          clear SWP
          have rx := (p7.l.below.block _ (row_lt HR.out)).trans HR.out
          have x0 := cell_of_row _ _ 0 _ _ _ rx
          have x1 := cell_of_row _ _ 1 _ _ _ rx
          have x2 := cell_of_row _ _ 2 _ _ _ rx
          simp at x0 x1 x2
          have MK := Lib.hid fun (d : Nat) => make_any p7.l.ost.st p7.l.V (d : Int)
          unfold ptrV at MK
          have P7 := Lib.hid p7
          have KE := Lib.hid hkeep
          clear rx p7 hkeep
          rcases (by have := HT.out; omega : i = 0 ∨ i = 1 ∨ i = 2) with rfl | rfl | rfl
          · have hm : Int.tmod (0 : Int) 3 = 0 := by decide
            go_wp2_with fail
            refine (MK.out a8).mono ?_
            intro e w8 hout
            obtain ⟨k, m8, h8, cs8, rfl, p8, ex, s8, a8', b8'⟩ := P7.out.make (by have := CC.out; omega) hout
            have R8 : Hid (SwR2 (w.alloc (.cells #[.int .i64 x, .int .i64 y, .int .i64 z] 22)) o m.s lb a b c k0 k1 k2 t (.int .i64 ((1 : Nat) : Int)) w8) :=
              ⟨1, m8, h8, cs8, mb, cc + 15, by omega, rfl, by have := CC.out; omega, s8, p8, (KE.out _ _ Y0.out).ext ex P7.out.l.good p8.l.good, (KE.out _ _ Y1.out).ext ex P7.out.l.good p8.l.good, (KE.out _ _ Y2.out).ext ex P7.out.l.good p8.l.good⟩
            clear hout p8 ex s8 a8' b8' MK P7 KE x0 x1 x2
            go_wp2_with fail
            go_roundw
            case rel => exact R8.out
            case measure => simp [intOf]; omega
          · have hm : Int.tmod (1 : Int) 3 = 1 := by decide
            go_wp2_with fail
            refine (MK.out b8).mono ?_
            intro e w8 hout
            obtain ⟨k, m8, h8, cs8, rfl, p8, ex, s8, a8', b8'⟩ := P7.out.make (by have := CC.out; omega) hout
            have R8 : Hid (SwR2 (w.alloc (.cells #[.int .i64 x, .int .i64 y, .int .i64 z] 22)) o m.s lb a b c k0 k1 k2 t (.int .i64 ((2 : Nat) : Int)) w8) :=
              ⟨2, m8, h8, cs8, mb, cc + 15, by omega, rfl, by have := CC.out; omega, s8, p8, (KE.out _ _ Y0.out).ext ex P7.out.l.good p8.l.good, (KE.out _ _ Y1.out).ext ex P7.out.l.good p8.l.good, (KE.out _ _ Y2.out).ext ex P7.out.l.good p8.l.good⟩
            clear hout p8 ex s8 a8' b8' MK P7 KE x0 x1 x2
            go_wp2_with fail
            go_roundw
            case rel => exact R8.out
            case measure => simp [intOf]; omega
          · have hm : Int.tmod (2 : Int) 3 = 2 := by decide
            go_wp2_with fail
            refine (MK.out c8).mono ?_
            intro e w8 hout
            obtain ⟨k, m8, h8, cs8, rfl, p8, ex, s8, a8', b8'⟩ := P7.out.make (by have := CC.out; omega) hout
            have R8 : Hid (SwR2 (w.alloc (.cells #[.int .i64 x, .int .i64 y, .int .i64 z] 22)) o m.s lb a b c k0 k1 k2 t (.int .i64 ((3 : Nat) : Int)) w8) :=
              ⟨3, m8, h8, cs8, mb, cc + 15, by omega, rfl, by have := CC.out; omega, s8, p8, (KE.out _ _ Y0.out).ext ex P7.out.l.good p8.l.good, (KE.out _ _ Y1.out).ext ex P7.out.l.good p8.l.good, (KE.out _ _ Y2.out).ext ex P7.out.l.good p8.l.good⟩
            clear hout p8 ex s8 a8' b8' MK P7 KE x0 x1 x2
            go_wp2_with fail
            go_roundw
            case rel => exact R8.out
            case measure => simp [intOf]; omega
        · obtain rfl : i = t := by omega
          have T := Lib.hid (does_good PP.out.l.ost PP.out.l.room HK.out (Y0.out.at PP.out.l.good) (Y1.out.at PP.out.l.good) (Y2.out.at PP.out.l.good))
          have c0 := cell_of_row _ _ 0 _ _ _ PP.out.row
          have c1 := cell_of_row _ _ 1 _ _ _ PP.out.row
          have c2 := cell_of_row _ _ 2 _ _ _ PP.out.row
          simp at c0 c1 c2
          clear hlt hi
          go_wp2_with fail
          refine T.out.mono ?_
          intro e w8 hout
          obtain ⟨n2, m8, h8, cs8, mb8, rfl, p8, ex, s8, a8', b8'⟩ := PP.out.ask (by have := CC.out; have := HT.out; omega) hout
          clear hout T c0 c1 c2
          have b8' : ∀ val, Says 4 cs8 val n2 = bitZ (M : Int) (tix val 4 0 0) := fun val => (b8' val).trans (MA.out cs Y0.out Y1.out Y2.out val)
          have SA := says_any p8.l.ost.st p8.l.V a8'
          unfold SaysOut at SA
          rw [ans_bits b8' ML.out, s8] at SA
          unfold ptrV at SA
          have SA := Lib.hid SA
          have P8 := Lib.hid p8
          clear p8 ex s8 a8' b8' PP Y0 Y1 Y2
          go_wp2_with fail
          refine SA.out.mono ?_
          rintro e w9 ⟨rfl, hb9⟩
          have B9 := Lib.hid (P8.out.l.below.trans (hb9.mono P8.out.l.below.size))
          have rx := (B9.out.block _ (row_lt HR.out)).trans HR.out
          have x0 := cell_of_row _ _ 0 _ _ _ rx
          have x1 := cell_of_row _ _ 1 _ _ _ rx
          have x2 := cell_of_row _ _ 2 _ _ _ rx
          simp at x0 x1 x2
          clear rx hb9 SA P8
          go_wp2_with fail
          refine (MU.out _).mono ?_
          rintro e w' ⟨rfl, rfl⟩
          go_wp2_with fail
          refine (AW.out _).mono ?_
          rintro e w10 ⟨rfl, hb10⟩
          have B10 := Lib.hid (B9.out.trans (hb10.mono B9.out.size))
          clear hb10
          go_wp2_with fail
          go_ret
          exact ⟨rfl, BW.out.trans (B10.out.mono BW.out.size)⟩

theorem operSwept_walk (v : Value) (kd sv : Int) (w : World) (h : ∃ k : Key, v = .agg #[.int .i64 k.a, .int .i64 k.b, .int .i64 k.c]) (_hk : (Lit.int .i64 kd).wf = true) (_hs : (Lit.int .i64 sv).wf = true) :
    Calls Try.prog 5 #[v, .int .i64 kd, .int .i64 sv] w fun e w' => e = .returned (.bool true) ∧ Below w.heap.size w w' := by
  obtain ⟨k, rfl⟩ := h
  exact swept_core k.a k.b k.c kd sv w

namespace operSwept
set_option linter.unusedVariables false
theorem own : ownKnob Try.prog.godebug = none := by kernel_rfl
theorem laidOut : laidOutB Try.prog = true := by kernel_rfl
set_option maxRecDepth 100000 in
theorem lifted (os : Os) (started : os.Started) (H : Type) (enc : TypeId × Value → H) :
    ReturnsInHanded {} Try.checked os 5 .any (Rows.operSweptSpec.pre6 enc Try.prog Try.f5 Rows.operSweptRow.domain false) (Rows.operSweptSpec.post enc Try.prog Try.f5 false true false false) := by
  refine returnsInHanded_of_change (C := Try.checked) own started (by kernel_rfl) Try.func5
    (ChangeSpec.witness6 (enc := enc) (C := Try.checked) false ⟨#[], #[.agg #[.int .i64 0, .int .i64 0, .int .i64 0], .int .i64 0, .int .i64 0], []⟩ 8 (by kernel_rfl) (by kernel_rfl) (by kernel_rfl) (by kernel_rfl)) ?_
  intro W base args ds gs before hval0 hW hcnd hsz
  have hval : ∀ (j : Nat) t v, Try.f5.params[j]? = some t → args[j]? = some v → Value.okWide Try.prog W .any base t v := hval0
  have hW' := hW
  obtain ⟨p, q, hA0, hV, rfl, hfz, hnd⟩ := hW
  have hA : DataW.TrodAll enc Try.prog W 0 (fun _ => true) true Try.f5.params.toList args.toList ds p := hA0
  rw [Try.params5] at hA hval
  obtain ⟨v0, vs0, d0, ds0, p0, q0, hargs, rfl, rfl, h0, r0⟩ := trodAll_cons hA
  obtain ⟨v1, vs1, d1, ds1, p1, q1, rfl, rfl, rfl, h1, r1⟩ := trodAll_cons r0
  obtain ⟨v2, vs2, d2, ds2, p2, q2, rfl, rfl, rfl, h2, r2⟩ := trodAll_cons r1
  obtain ⟨rfl, rfl, rfl⟩ := trodAll_nil r2
  obtain rfl : args = #[v0, v1, v2] := by cases args; simp_all
  obtain ⟨rfl, rfl⟩ := trodVars_none hV
  have k0 := h0
  have lt0 : ∀ x ∈ p0, x.block < W.heap.size := by obtain ⟨m, hm⟩ := k0; exact DataW.trod_lt m _ _ _ hm
  obtain ⟨a1, rfl, rfl, rfl, w1⟩ := open_int Try.underlying3 (hval 1 3 v1 rfl rfl) h1
  obtain ⟨a2, rfl, rfl, rfl, w2⟩ := open_int Try.underlying3 (hval 2 3 v2 rfl rfl) h2
  clear hA0 hval0
  refine (operSwept_walk v0 a1 a2 W (arg_key h0 (hval 0 22 v0 rfl rfl)) w1 w2).mono fun e W' ⟨he, bel⟩ => ?_
  subst he
  exact ⟨_, rfl, _, _, _, [], _, [], hW', trodAll_mk1 (shut_bool Try.underlying4 _), (trodAll_cons_mk (Below.trod laidOut (by kernel_rfl) (of_decide_eq_true (by kernel_rfl)) k0 bel lt0) (trodAll_cons_mk (shut_int Try.underlying3 w1) (trodAll_cons_mk (shut_int Try.underlying3 w2) trodAll_mk0))), rfl, bel.frame _, fun h => by cases h⟩
theorem over : Rows.operSweptRow.holds Try.pinned (OpenSpec.ofChange Rows.operSweptSpec) :=
  OpenClaim.holds_of_wide 5 Try.f5 rfl rfl rfl rfl rfl rfl rfl ⟨rfl, rfl, rfl, rfl, rfl⟩ rfl rfl rfl rfl rfl (by kernel_rfl) Try.func5 (by kernel_rfl)
    (of_decide_eq_true (by kernel_rfl)) (by unfold Func.isWrapper; first | (rw [if_pos (by decide +kernel)]; kernel_rfl) | (rw [if_neg (by decide +kernel)]; exact ⟨rfl, rfl⟩))
    (fun os started H enc _ => lifted os started H enc)
/-- THE STATEMENT. -/
theorem proved : Rows.OperSweptSaid := over
end operSwept
#print axioms operSwept.proved
end Go.Proofs.Ytfdebadmikmnaaa
