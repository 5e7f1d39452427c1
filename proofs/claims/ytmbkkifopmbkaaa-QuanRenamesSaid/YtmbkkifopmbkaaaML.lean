/- Merged: QTab, QRestricted. -/
import Derived.Test.YtmbkkifopmbkaaaMK

/- Layer 5's laws: sixteen answers as a number: restricted, exists. -/
namespace Go.Proofs.Ytmbkkifopmbkaaa
open Go.ChangeShapes Go.WideShapes Go.ChangeAt Go.RowKit Go.Maps

theorem low16 (z : Int) : ∃ a : Nat, a < 65536 ∧ bits BinOp.and IntKind.i64 z 65535 = (a : Int) := ⟨(z % 65536).toNat, by omega, by rw [and_mask16]; omega⟩
theorem and_mask2 (z : Int) : bits BinOp.and IntKind.i64 z 3 = z % 4 := by
  show IntKind.i64.wrap ((BitVec.ofInt 64 z &&& BitVec.ofInt 64 ((3 : Nat) : Int)).toNat : Int) = _
  have h := Nat.and_two_pow_sub_one_eq_mod (BitVec.ofInt 64 z).toNat 2
  rw [BitVec.toNat_and, ofInt_i64 3 (by omega), show (3 : Nat) = 2 ^ 2 - 1 from rfl, h, IntKind.wrap_i64, BitVec.toNat_ofInt]
  omega
theorem low2 (z : Int) : ∃ v : Nat, v < 4 ∧ bits BinOp.and IntKind.i64 z 3 = (v : Int) := ⟨(z % 4).toNat, by omega, by rw [and_mask2]; omega⟩
theorem low4 (z : Int) : ∃ v : Nat, v < 16 ∧ bits BinOp.and IntKind.i64 z 15 = (v : Int) := ⟨(z % 16).toNat, by omega, by rw [and_mask4]; omega⟩

/-- The number of so many answers. -/
def natOf (f : Nat → Bool) : Nat → Nat
  | 0 => 0
  | i + 1 => natOf f i + if f i then 2 ^ i else 0

theorem natOf_lt (f : Nat → Bool) : ∀ i, natOf f i < 2 ^ i
  | 0 => by simp [natOf]
  | i + 1 => by
    have := natOf_lt f i
    unfold natOf
    rw [Nat.pow_succ]
    split <;> omega

theorem natOf_bit (f : Nat → Bool) : ∀ k i, (natOf f k).testBit i = (decide (i < k) && f i)
  | 0, i => by simp [natOf]
  | k + 1, i => by
    have hl := natOf_lt f k
    have ih := natOf_bit f k i
    unfold natOf
    cases hf : f k with
    | false =>
      rw [if_neg (by simp), Nat.add_zero, ih]
      by_cases e : i = k
      · subst e; simp [hf]
      · by_cases h : i < k
        · simp [h, Nat.lt_succ_of_lt h]
        · have h2 : ¬ i < k + 1 := by omega
          simp [h, h2]
    | true =>
      rw [if_pos rfl, Nat.add_comm]
      by_cases e : i = k
      · subst e
        rw [Nat.testBit_two_pow_add_eq, ih]
        simp [hf]
      · by_cases h : i < k
        · rw [Nat.testBit_two_pow_add_gt h, ih]
          simp [h, Nat.lt_succ_of_lt h]
        · have h2 : ¬ i < k + 1 := by omega
          have h3 : 2 ^ k + natOf f k < 2 ^ i := by
            have : 2 ^ (k + 1) ≤ 2 ^ i := Nat.pow_le_pow_right (by omega) (by omega)
            rw [Nat.pow_succ] at this
            omega
          rw [Nat.testBit_lt_two_pow h3]
          simp [h2]

/-- Bit v of a number, as it is told. -/
def setb (n v : Nat) (x : Bool) : Nat := if x then andN n (2 ^ v) ||| 2 ^ v else andN n (2 ^ v)
def restN (x v : Nat) (b : Bool) : Nat := natOf (fun n => x.testBit (setb n v b)) 16

theorem restN_lt (x v : Nat) (b : Bool) : restN x v b < 65536 := natOf_lt _ 16
theorem restN_bit {x v i : Nat} {b : Bool} (hi : i < 16) : (restN x v b).testBit i = x.testBit (setb i v b) := by
  unfold restN
  rw [natOf_bit]
  simp [hi]

def t4 (a b c d : Bool) : Nat := tix (fun i => match i with | 0 => a | 1 => b | 2 => c | _ => d) 4 0 0
theorem tix_t4 (val : Nat → Bool) : tix val 4 0 0 = t4 (val 0) (val 1) (val 2) (val 3) := rfl
theorem set_t0 : ∀ a b c d x, setb (t4 a b c d) 0 x = t4 x b c d := by decide
theorem set_t1 : ∀ a b c d x, setb (t4 a b c d) 1 x = t4 a x c d := by decide
theorem set_t2 : ∀ a b c d x, setb (t4 a b c d) 2 x = t4 a b x d := by decide
theorem set_t3 : ∀ a b c d x, setb (t4 a b c d) 3 x = t4 a b c x := by decide

theorem tix_upd (val : Nat → Bool) (x : Bool) : ∀ v, v < 4 → setb (tix val 4 0 0) v x = tix (upd val v x) 4 0 0 := by
  intro v hv
  rw [tix_t4, tix_t4]
  rcases (by omega : v = 0 ∨ v = 1 ∨ v = 2 ∨ v = 3) with rfl | rfl | rfl | rfl
  · exact set_t0 _ _ _ _ _
  · exact set_t1 _ _ _ _ _
  · exact set_t2 _ _ _ _ _
  · exact set_t3 _ _ _ _ _

/-- What a restricted number says. -/
theorem rest_says {x v : Nat} (hv : v < 4) (b : Bool) (val : Nat → Bool) : bitZ (restN x v b : Nat) (tix val 4 0 0) = bitZ (x : Nat) (tix (upd val v b) 4 0 0) := by
  rw [bitZ_nat, bitZ_nat, restN_bit (tix16 val), tix_upd val b v hv]

theorem bit_and (x p : Nat) : bits BinOp.and IntKind.i64 ((x : Int) / 2 ^ p) 1 = if x.testBit p then 1 else 0 := by
  rw [and_one, ← bitZ_nat]
  unfold bitZ
  have := Int.emod_two_eq ((x : Int) / 2 ^ p)
  rcases this with h | h <;> rw [h] <;> rfl

theorem or_top {f : Nat → Bool} {i : Nat} (hi : i < 16) : bits BinOp.or IntKind.i64 (natOf f i : Int) (2 ^ i) = ((natOf f i + 2 ^ i : Nat) : Int) := by
  have hl := natOf_lt f i
  have hp : 2 ^ i < 2 ^ 16 := Nat.pow_lt_pow_right (by omega) hi
  have h := b_or (a := natOf f i) (b := 2 ^ i) (by omega) (by omega)
  rw [show ((2 : Int) ^ i) = ((2 ^ i : Nat) : Int) by simp, h]
  congr 1
  have h2 := Nat.two_pow_add_eq_or_of_lt hl 1
  rw [Nat.mul_one] at h2
  rw [Nat.or_comm, Nat.add_comm, h2]
theorem or_zero {x : Nat} (hx : x < 65536) : bits BinOp.or IntKind.i64 (x : Int) 0 = (x : Int) := by
  have h := b_or (a := x) (b := 0) hx (by omega)
  rw [Nat.or_zero] at h
  exact h

def RestOut (x v : Nat) (b : Bool) (w : World) (e : Ending) (w' : World) : Prop := e = .returned (.int .i64 (restN x v b : Nat)) ∧ w = w'
end Go.Proofs.Ytmbkkifopmbkaaa

/- Layer 5's laws: restricted: sixteen answers, if a variable has a value. -/
namespace Go.Proofs.Ytmbkkifopmbkaaa
open Go.ChangeShapes Go.WideShapes Go.ChangeAt Go.RowKit Go.Maps

theorem andN_lt16 {n c : Nat} (hn : n < 16) : andN n c < 16 := by
  have h : andN n c ≤ n := by
    unfold andN
    have h1 := BitVec.toNat_and (BitVec.ofNat 64 n) (~~~ BitVec.ofNat 64 c)
    rw [h1]
    refine Nat.le_trans Nat.and_le_left ?_
    rw [BitVec.toNat_ofNat]
    exact Nat.mod_le _ _
  omega

theorem wrap_pow {i : Nat} (hi : i < 16) : wrap64 (2 ^ i) = 2 ^ i := by
  have h1 : 2 ^ i ≤ 2 ^ 16 := Nat.pow_le_pow_right (by omega) (by omega)
  have h2 : (2 : Int) ^ i = ((2 ^ i : Nat) : Int) := by simp
  have h3 : (0 : Int) ≤ 2 ^ i := by rw [h2]; exact Int.natCast_nonneg _
  have h4 : (2 : Int) ^ i ≤ 65536 := by rw [h2]; omega
  generalize (2 : Int) ^ i = p at *
  unfold wrap64
  omega

set_option maxRecDepth 100000 in
set_option maxHeartbeats 2000000 in
theorem rest_0false {x : Nat} (hx : x < 65536) (w : World) : Calls Try.prog 12 #[.int .i64 (x : Int), .int .i64 0, .bool false] w (RestOut x 0 false w) := by
  have HX := Lib.hid hx
  go_enter Try.func12, Try.ntmps12
  go_wp2_with fail
  go_loopw [7, 8] (fun ov iv wr => ∃ i : Nat, i ≤ 16 ∧ iv = .int .i64 i ∧ ov = .int .i64 (natOf (fun n => x.testBit (setb n 0 false)) i : Nat) ∧ w = wr) (fun _ iv _ => 16 - (intOf iv).toNat)
  case atStart => exact ⟨0, by omega, rfl, rfl, rfl⟩
  case round =>
    obtain ⟨i, hi, rfl, rfl, rfl⟩ := hrel
    by_cases hlt : i < 16
    · have e1 : bits BinOp.andNot IntKind.i64 (i : Int) 1 = ((andN i 1 : Nat) : Int) := b_andN (b := 1) (by omega)
      have hm : setb i 0 false = andN i 1 := rfl
      have hm16 : andN i 1 < 16 := andN_lt16 hlt
      revert e1 hm hm16
      generalize andN i 1 = m
      intro e1 hm hm16
      have e3 := bit_and x m
      have e4 := or_top (f := fun n => x.testBit (setb n 0 false)) hlt
      have e5 := or_zero (x := natOf (fun n => x.testBit (setb n 0 false)) i) (by have := natOf_lt (fun n => x.testBit (setb n 0 false)) i; have : 2 ^ i ≤ 2 ^ 16 := Nat.pow_le_pow_right (by omega) hi; omega)
      have SS : Hid (natOf (fun n => x.testBit (setb n 0 false)) (i + 1) = natOf (fun n => x.testBit (setb n 0 false)) i + if x.testBit m then 2 ^ i else 0) := by show _ = _; rw [← hm]; rfl
      have hp : (2 : Int) ^ i ≤ 65536 := by
        have h1 : 2 ^ i ≤ 2 ^ 16 := Nat.pow_le_pow_right (by omega) (by omega)
        have h2 : (2 : Int) ^ i = ((2 ^ i : Nat) : Int) := by simp
        rw [h2]
        omega
      have hlt' : (i : Int) < 16 := by omega
      have hm' : (m : Int) < 16 := by omega
      clear hm
      revert e4 e5 SS
      generalize natOf (fun n => x.testBit (setb n 0 false)) i = y
      intro e4 e5 SS
      cases hb : x.testBit m with
      | true =>
        rw [hb, if_pos rfl] at e3
        rw [hb, if_pos rfl] at SS
        clear hb e5
        go_wp2_with fail
        go_roundw
        case rel => exact ⟨i + 1, by omega, by go_num, by rw [SS.out, wrap_pow hlt, e4], trivial⟩
        case measure => simp [intOf]; omega
      | false =>
        rw [hb, if_neg (by simp)] at e3
        rw [hb, if_neg (by simp)] at SS
        clear hb e4
        go_wp2_with fail
        go_roundw
        case rel => exact ⟨i + 1, by omega, by go_num, by rw [SS.out]; rfl, trivial⟩
        case measure => simp [intOf]; omega
    · obtain rfl : i = 16 := by omega
      go_wp2_with fail
      go_ret
      exact ⟨rfl, rfl⟩

set_option maxRecDepth 100000 in
set_option maxHeartbeats 2000000 in
theorem rest_0true {x : Nat} (hx : x < 65536) (w : World) : Calls Try.prog 12 #[.int .i64 (x : Int), .int .i64 0, .bool true] w (RestOut x 0 true w) := by
  have HX := Lib.hid hx
  go_enter Try.func12, Try.ntmps12
  go_wp2_with fail
  go_loopw [7, 8] (fun ov iv wr => ∃ i : Nat, i ≤ 16 ∧ iv = .int .i64 i ∧ ov = .int .i64 (natOf (fun n => x.testBit (setb n 0 true)) i : Nat) ∧ w = wr) (fun _ iv _ => 16 - (intOf iv).toNat)
  case atStart => exact ⟨0, by omega, rfl, rfl, rfl⟩
  case round =>
    obtain ⟨i, hi, rfl, rfl, rfl⟩ := hrel
    by_cases hlt : i < 16
    · have e1 : bits BinOp.andNot IntKind.i64 (i : Int) 1 = ((andN i 1 : Nat) : Int) := b_andN (b := 1) (by omega)
      have e2 : bits BinOp.or IntKind.i64 ((andN i 1 : Nat) : Int) 1 = ((andN i 1 ||| 1 : Nat) : Int) := b_or (b := 1) (by have := andN_lt16 (c := 1) hlt; omega) (by omega)
      have hm : setb i 0 true = andN i 1 ||| 1 := rfl
      have hm16 : andN i 1 ||| 1 < 16 := Nat.or_lt_two_pow (n := 4) (andN_lt16 hlt) (by decide)
      revert e1 e2 hm hm16
      generalize andN i 1 ||| 1 = m
      generalize andN i 1 = m0
      intro e1 e2 hm hm16
      have e3 := bit_and x m
      have e4 := or_top (f := fun n => x.testBit (setb n 0 true)) hlt
      have e5 := or_zero (x := natOf (fun n => x.testBit (setb n 0 true)) i) (by have := natOf_lt (fun n => x.testBit (setb n 0 true)) i; have : 2 ^ i ≤ 2 ^ 16 := Nat.pow_le_pow_right (by omega) hi; omega)
      have SS : Hid (natOf (fun n => x.testBit (setb n 0 true)) (i + 1) = natOf (fun n => x.testBit (setb n 0 true)) i + if x.testBit m then 2 ^ i else 0) := by show _ = _; rw [← hm]; rfl
      have hp : (2 : Int) ^ i ≤ 65536 := by
        have h1 : 2 ^ i ≤ 2 ^ 16 := Nat.pow_le_pow_right (by omega) (by omega)
        have h2 : (2 : Int) ^ i = ((2 ^ i : Nat) : Int) := by simp
        rw [h2]
        omega
      have hlt' : (i : Int) < 16 := by omega
      have hm' : (m : Int) < 16 := by omega
      clear hm
      revert e4 e5 SS
      generalize natOf (fun n => x.testBit (setb n 0 true)) i = y
      intro e4 e5 SS
      cases hb : x.testBit m with
      | true =>
        rw [hb, if_pos rfl] at e3
        rw [hb, if_pos rfl] at SS
        clear hb e5
        go_wp2_with fail
        go_roundw
        case rel => exact ⟨i + 1, by omega, by go_num, by rw [SS.out, wrap_pow hlt, e4], trivial⟩
        case measure => simp [intOf]; omega
      | false =>
        rw [hb, if_neg (by simp)] at e3
        rw [hb, if_neg (by simp)] at SS
        clear hb e4
        go_wp2_with fail
        go_roundw
        case rel => exact ⟨i + 1, by omega, by go_num, by rw [SS.out]; rfl, trivial⟩
        case measure => simp [intOf]; omega
    · obtain rfl : i = 16 := by omega
      go_wp2_with fail
      go_ret
      exact ⟨rfl, rfl⟩

set_option maxRecDepth 100000 in
set_option maxHeartbeats 2000000 in
theorem rest_1false {x : Nat} (hx : x < 65536) (w : World) : Calls Try.prog 12 #[.int .i64 (x : Int), .int .i64 1, .bool false] w (RestOut x 1 false w) := by
  have HX := Lib.hid hx
  go_enter Try.func12, Try.ntmps12
  go_wp2_with fail
  go_loopw [7, 8] (fun ov iv wr => ∃ i : Nat, i ≤ 16 ∧ iv = .int .i64 i ∧ ov = .int .i64 (natOf (fun n => x.testBit (setb n 1 false)) i : Nat) ∧ w = wr) (fun _ iv _ => 16 - (intOf iv).toNat)
  case atStart => exact ⟨0, by omega, rfl, rfl, rfl⟩
  case round =>
    obtain ⟨i, hi, rfl, rfl, rfl⟩ := hrel
    by_cases hlt : i < 16
    · have e1 : bits BinOp.andNot IntKind.i64 (i : Int) 2 = ((andN i 2 : Nat) : Int) := b_andN (b := 2) (by omega)
      have hm : setb i 1 false = andN i 2 := rfl
      have hm16 : andN i 2 < 16 := andN_lt16 hlt
      revert e1 hm hm16
      generalize andN i 2 = m
      intro e1 hm hm16
      have e3 := bit_and x m
      have e4 := or_top (f := fun n => x.testBit (setb n 1 false)) hlt
      have e5 := or_zero (x := natOf (fun n => x.testBit (setb n 1 false)) i) (by have := natOf_lt (fun n => x.testBit (setb n 1 false)) i; have : 2 ^ i ≤ 2 ^ 16 := Nat.pow_le_pow_right (by omega) hi; omega)
      have SS : Hid (natOf (fun n => x.testBit (setb n 1 false)) (i + 1) = natOf (fun n => x.testBit (setb n 1 false)) i + if x.testBit m then 2 ^ i else 0) := by show _ = _; rw [← hm]; rfl
      have hp : (2 : Int) ^ i ≤ 65536 := by
        have h1 : 2 ^ i ≤ 2 ^ 16 := Nat.pow_le_pow_right (by omega) (by omega)
        have h2 : (2 : Int) ^ i = ((2 ^ i : Nat) : Int) := by simp
        rw [h2]
        omega
      have hlt' : (i : Int) < 16 := by omega
      have hm' : (m : Int) < 16 := by omega
      clear hm
      revert e4 e5 SS
      generalize natOf (fun n => x.testBit (setb n 1 false)) i = y
      intro e4 e5 SS
      cases hb : x.testBit m with
      | true =>
        rw [hb, if_pos rfl] at e3
        rw [hb, if_pos rfl] at SS
        clear hb e5
        go_wp2_with fail
        go_roundw
        case rel => exact ⟨i + 1, by omega, by go_num, by rw [SS.out, wrap_pow hlt, e4], trivial⟩
        case measure => simp [intOf]; omega
      | false =>
        rw [hb, if_neg (by simp)] at e3
        rw [hb, if_neg (by simp)] at SS
        clear hb e4
        go_wp2_with fail
        go_roundw
        case rel => exact ⟨i + 1, by omega, by go_num, by rw [SS.out]; rfl, trivial⟩
        case measure => simp [intOf]; omega
    · obtain rfl : i = 16 := by omega
      go_wp2_with fail
      go_ret
      exact ⟨rfl, rfl⟩

set_option maxRecDepth 100000 in
set_option maxHeartbeats 2000000 in
theorem rest_1true {x : Nat} (hx : x < 65536) (w : World) : Calls Try.prog 12 #[.int .i64 (x : Int), .int .i64 1, .bool true] w (RestOut x 1 true w) := by
  have HX := Lib.hid hx
  go_enter Try.func12, Try.ntmps12
  go_wp2_with fail
  go_loopw [7, 8] (fun ov iv wr => ∃ i : Nat, i ≤ 16 ∧ iv = .int .i64 i ∧ ov = .int .i64 (natOf (fun n => x.testBit (setb n 1 true)) i : Nat) ∧ w = wr) (fun _ iv _ => 16 - (intOf iv).toNat)
  case atStart => exact ⟨0, by omega, rfl, rfl, rfl⟩
  case round =>
    obtain ⟨i, hi, rfl, rfl, rfl⟩ := hrel
    by_cases hlt : i < 16
    · have e1 : bits BinOp.andNot IntKind.i64 (i : Int) 2 = ((andN i 2 : Nat) : Int) := b_andN (b := 2) (by omega)
      have e2 : bits BinOp.or IntKind.i64 ((andN i 2 : Nat) : Int) 2 = ((andN i 2 ||| 2 : Nat) : Int) := b_or (b := 2) (by have := andN_lt16 (c := 2) hlt; omega) (by omega)
      have hm : setb i 1 true = andN i 2 ||| 2 := rfl
      have hm16 : andN i 2 ||| 2 < 16 := Nat.or_lt_two_pow (n := 4) (andN_lt16 hlt) (by decide)
      revert e1 e2 hm hm16
      generalize andN i 2 ||| 2 = m
      generalize andN i 2 = m0
      intro e1 e2 hm hm16
      have e3 := bit_and x m
      have e4 := or_top (f := fun n => x.testBit (setb n 1 true)) hlt
      have e5 := or_zero (x := natOf (fun n => x.testBit (setb n 1 true)) i) (by have := natOf_lt (fun n => x.testBit (setb n 1 true)) i; have : 2 ^ i ≤ 2 ^ 16 := Nat.pow_le_pow_right (by omega) hi; omega)
      have SS : Hid (natOf (fun n => x.testBit (setb n 1 true)) (i + 1) = natOf (fun n => x.testBit (setb n 1 true)) i + if x.testBit m then 2 ^ i else 0) := by show _ = _; rw [← hm]; rfl
      have hp : (2 : Int) ^ i ≤ 65536 := by
        have h1 : 2 ^ i ≤ 2 ^ 16 := Nat.pow_le_pow_right (by omega) (by omega)
        have h2 : (2 : Int) ^ i = ((2 ^ i : Nat) : Int) := by simp
        rw [h2]
        omega
      have hlt' : (i : Int) < 16 := by omega
      have hm' : (m : Int) < 16 := by omega
      clear hm
      revert e4 e5 SS
      generalize natOf (fun n => x.testBit (setb n 1 true)) i = y
      intro e4 e5 SS
      cases hb : x.testBit m with
      | true =>
        rw [hb, if_pos rfl] at e3
        rw [hb, if_pos rfl] at SS
        clear hb e5
        go_wp2_with fail
        go_roundw
        case rel => exact ⟨i + 1, by omega, by go_num, by rw [SS.out, wrap_pow hlt, e4], trivial⟩
        case measure => simp [intOf]; omega
      | false =>
        rw [hb, if_neg (by simp)] at e3
        rw [hb, if_neg (by simp)] at SS
        clear hb e4
        go_wp2_with fail
        go_roundw
        case rel => exact ⟨i + 1, by omega, by go_num, by rw [SS.out]; rfl, trivial⟩
        case measure => simp [intOf]; omega
    · obtain rfl : i = 16 := by omega
      go_wp2_with fail
      go_ret
      exact ⟨rfl, rfl⟩

set_option maxRecDepth 100000 in
set_option maxHeartbeats 2000000 in
theorem rest_2false {x : Nat} (hx : x < 65536) (w : World) : Calls Try.prog 12 #[.int .i64 (x : Int), .int .i64 2, .bool false] w (RestOut x 2 false w) := by
  have HX := Lib.hid hx
  go_enter Try.func12, Try.ntmps12
  go_wp2_with fail
  go_loopw [7, 8] (fun ov iv wr => ∃ i : Nat, i ≤ 16 ∧ iv = .int .i64 i ∧ ov = .int .i64 (natOf (fun n => x.testBit (setb n 2 false)) i : Nat) ∧ w = wr) (fun _ iv _ => 16 - (intOf iv).toNat)
  case atStart => exact ⟨0, by omega, rfl, rfl, rfl⟩
  case round =>
    obtain ⟨i, hi, rfl, rfl, rfl⟩ := hrel
    by_cases hlt : i < 16
    · have e1 : bits BinOp.andNot IntKind.i64 (i : Int) 4 = ((andN i 4 : Nat) : Int) := b_andN (b := 4) (by omega)
      have hm : setb i 2 false = andN i 4 := rfl
      have hm16 : andN i 4 < 16 := andN_lt16 hlt
      revert e1 hm hm16
      generalize andN i 4 = m
      intro e1 hm hm16
      have e3 := bit_and x m
      have e4 := or_top (f := fun n => x.testBit (setb n 2 false)) hlt
      have e5 := or_zero (x := natOf (fun n => x.testBit (setb n 2 false)) i) (by have := natOf_lt (fun n => x.testBit (setb n 2 false)) i; have : 2 ^ i ≤ 2 ^ 16 := Nat.pow_le_pow_right (by omega) hi; omega)
      have SS : Hid (natOf (fun n => x.testBit (setb n 2 false)) (i + 1) = natOf (fun n => x.testBit (setb n 2 false)) i + if x.testBit m then 2 ^ i else 0) := by show _ = _; rw [← hm]; rfl
      have hp : (2 : Int) ^ i ≤ 65536 := by
        have h1 : 2 ^ i ≤ 2 ^ 16 := Nat.pow_le_pow_right (by omega) (by omega)
        have h2 : (2 : Int) ^ i = ((2 ^ i : Nat) : Int) := by simp
        rw [h2]
        omega
      have hlt' : (i : Int) < 16 := by omega
      have hm' : (m : Int) < 16 := by omega
      clear hm
      revert e4 e5 SS
      generalize natOf (fun n => x.testBit (setb n 2 false)) i = y
      intro e4 e5 SS
      cases hb : x.testBit m with
      | true =>
        rw [hb, if_pos rfl] at e3
        rw [hb, if_pos rfl] at SS
        clear hb e5
        go_wp2_with fail
        go_roundw
        case rel => exact ⟨i + 1, by omega, by go_num, by rw [SS.out, wrap_pow hlt, e4], trivial⟩
        case measure => simp [intOf]; omega
      | false =>
        rw [hb, if_neg (by simp)] at e3
        rw [hb, if_neg (by simp)] at SS
        clear hb e4
        go_wp2_with fail
        go_roundw
        case rel => exact ⟨i + 1, by omega, by go_num, by rw [SS.out]; rfl, trivial⟩
        case measure => simp [intOf]; omega
    · obtain rfl : i = 16 := by omega
      go_wp2_with fail
      go_ret
      exact ⟨rfl, rfl⟩

set_option maxRecDepth 100000 in
set_option maxHeartbeats 2000000 in
theorem rest_2true {x : Nat} (hx : x < 65536) (w : World) : Calls Try.prog 12 #[.int .i64 (x : Int), .int .i64 2, .bool true] w (RestOut x 2 true w) := by
  have HX := Lib.hid hx
  go_enter Try.func12, Try.ntmps12
  go_wp2_with fail
  go_loopw [7, 8] (fun ov iv wr => ∃ i : Nat, i ≤ 16 ∧ iv = .int .i64 i ∧ ov = .int .i64 (natOf (fun n => x.testBit (setb n 2 true)) i : Nat) ∧ w = wr) (fun _ iv _ => 16 - (intOf iv).toNat)
  case atStart => exact ⟨0, by omega, rfl, rfl, rfl⟩
  case round =>
    obtain ⟨i, hi, rfl, rfl, rfl⟩ := hrel
    by_cases hlt : i < 16
    · have e1 : bits BinOp.andNot IntKind.i64 (i : Int) 4 = ((andN i 4 : Nat) : Int) := b_andN (b := 4) (by omega)
      have e2 : bits BinOp.or IntKind.i64 ((andN i 4 : Nat) : Int) 4 = ((andN i 4 ||| 4 : Nat) : Int) := b_or (b := 4) (by have := andN_lt16 (c := 4) hlt; omega) (by omega)
      have hm : setb i 2 true = andN i 4 ||| 4 := rfl
      have hm16 : andN i 4 ||| 4 < 16 := Nat.or_lt_two_pow (n := 4) (andN_lt16 hlt) (by decide)
      revert e1 e2 hm hm16
      generalize andN i 4 ||| 4 = m
      generalize andN i 4 = m0
      intro e1 e2 hm hm16
      have e3 := bit_and x m
      have e4 := or_top (f := fun n => x.testBit (setb n 2 true)) hlt
      have e5 := or_zero (x := natOf (fun n => x.testBit (setb n 2 true)) i) (by have := natOf_lt (fun n => x.testBit (setb n 2 true)) i; have : 2 ^ i ≤ 2 ^ 16 := Nat.pow_le_pow_right (by omega) hi; omega)
      have SS : Hid (natOf (fun n => x.testBit (setb n 2 true)) (i + 1) = natOf (fun n => x.testBit (setb n 2 true)) i + if x.testBit m then 2 ^ i else 0) := by show _ = _; rw [← hm]; rfl
      have hp : (2 : Int) ^ i ≤ 65536 := by
        have h1 : 2 ^ i ≤ 2 ^ 16 := Nat.pow_le_pow_right (by omega) (by omega)
        have h2 : (2 : Int) ^ i = ((2 ^ i : Nat) : Int) := by simp
        rw [h2]
        omega
      have hlt' : (i : Int) < 16 := by omega
      have hm' : (m : Int) < 16 := by omega
      clear hm
      revert e4 e5 SS
      generalize natOf (fun n => x.testBit (setb n 2 true)) i = y
      intro e4 e5 SS
      cases hb : x.testBit m with
      | true =>
        rw [hb, if_pos rfl] at e3
        rw [hb, if_pos rfl] at SS
        clear hb e5
        go_wp2_with fail
        go_roundw
        case rel => exact ⟨i + 1, by omega, by go_num, by rw [SS.out, wrap_pow hlt, e4], trivial⟩
        case measure => simp [intOf]; omega
      | false =>
        rw [hb, if_neg (by simp)] at e3
        rw [hb, if_neg (by simp)] at SS
        clear hb e4
        go_wp2_with fail
        go_roundw
        case rel => exact ⟨i + 1, by omega, by go_num, by rw [SS.out]; rfl, trivial⟩
        case measure => simp [intOf]; omega
    · obtain rfl : i = 16 := by omega
      go_wp2_with fail
      go_ret
      exact ⟨rfl, rfl⟩

set_option maxRecDepth 100000 in
set_option maxHeartbeats 2000000 in
theorem rest_3false {x : Nat} (hx : x < 65536) (w : World) : Calls Try.prog 12 #[.int .i64 (x : Int), .int .i64 3, .bool false] w (RestOut x 3 false w) := by
  have HX := Lib.hid hx
  go_enter Try.func12, Try.ntmps12
  go_wp2_with fail
  go_loopw [7, 8] (fun ov iv wr => ∃ i : Nat, i ≤ 16 ∧ iv = .int .i64 i ∧ ov = .int .i64 (natOf (fun n => x.testBit (setb n 3 false)) i : Nat) ∧ w = wr) (fun _ iv _ => 16 - (intOf iv).toNat)
  case atStart => exact ⟨0, by omega, rfl, rfl, rfl⟩
  case round =>
    obtain ⟨i, hi, rfl, rfl, rfl⟩ := hrel
    by_cases hlt : i < 16
    · have e1 : bits BinOp.andNot IntKind.i64 (i : Int) 8 = ((andN i 8 : Nat) : Int) := b_andN (b := 8) (by omega)
      have hm : setb i 3 false = andN i 8 := rfl
      have hm16 : andN i 8 < 16 := andN_lt16 hlt
      revert e1 hm hm16
      generalize andN i 8 = m
      intro e1 hm hm16
      have e3 := bit_and x m
      have e4 := or_top (f := fun n => x.testBit (setb n 3 false)) hlt
      have e5 := or_zero (x := natOf (fun n => x.testBit (setb n 3 false)) i) (by have := natOf_lt (fun n => x.testBit (setb n 3 false)) i; have : 2 ^ i ≤ 2 ^ 16 := Nat.pow_le_pow_right (by omega) hi; omega)
      have SS : Hid (natOf (fun n => x.testBit (setb n 3 false)) (i + 1) = natOf (fun n => x.testBit (setb n 3 false)) i + if x.testBit m then 2 ^ i else 0) := by show _ = _; rw [← hm]; rfl
      have hp : (2 : Int) ^ i ≤ 65536 := by
        have h1 : 2 ^ i ≤ 2 ^ 16 := Nat.pow_le_pow_right (by omega) (by omega)
        have h2 : (2 : Int) ^ i = ((2 ^ i : Nat) : Int) := by simp
        rw [h2]
        omega
      have hlt' : (i : Int) < 16 := by omega
      have hm' : (m : Int) < 16 := by omega
      clear hm
      revert e4 e5 SS
      generalize natOf (fun n => x.testBit (setb n 3 false)) i = y
      intro e4 e5 SS
      cases hb : x.testBit m with
      | true =>
        rw [hb, if_pos rfl] at e3
        rw [hb, if_pos rfl] at SS
        clear hb e5
        go_wp2_with fail
        go_roundw
        case rel => exact ⟨i + 1, by omega, by go_num, by rw [SS.out, wrap_pow hlt, e4], trivial⟩
        case measure => simp [intOf]; omega
      | false =>
        rw [hb, if_neg (by simp)] at e3
        rw [hb, if_neg (by simp)] at SS
        clear hb e4
        go_wp2_with fail
        go_roundw
        case rel => exact ⟨i + 1, by omega, by go_num, by rw [SS.out]; rfl, trivial⟩
        case measure => simp [intOf]; omega
    · obtain rfl : i = 16 := by omega
      go_wp2_with fail
      go_ret
      exact ⟨rfl, rfl⟩

set_option maxRecDepth 100000 in
set_option maxHeartbeats 2000000 in
theorem rest_3true {x : Nat} (hx : x < 65536) (w : World) : Calls Try.prog 12 #[.int .i64 (x : Int), .int .i64 3, .bool true] w (RestOut x 3 true w) := by
  have HX := Lib.hid hx
  go_enter Try.func12, Try.ntmps12
  go_wp2_with fail
  go_loopw [7, 8] (fun ov iv wr => ∃ i : Nat, i ≤ 16 ∧ iv = .int .i64 i ∧ ov = .int .i64 (natOf (fun n => x.testBit (setb n 3 true)) i : Nat) ∧ w = wr) (fun _ iv _ => 16 - (intOf iv).toNat)
  case atStart => exact ⟨0, by omega, rfl, rfl, rfl⟩
  case round =>
    obtain ⟨i, hi, rfl, rfl, rfl⟩ := hrel
    by_cases hlt : i < 16
    · have e1 : bits BinOp.andNot IntKind.i64 (i : Int) 8 = ((andN i 8 : Nat) : Int) := b_andN (b := 8) (by omega)
      have e2 : bits BinOp.or IntKind.i64 ((andN i 8 : Nat) : Int) 8 = ((andN i 8 ||| 8 : Nat) : Int) := b_or (b := 8) (by have := andN_lt16 (c := 8) hlt; omega) (by omega)
      have hm : setb i 3 true = andN i 8 ||| 8 := rfl
      have hm16 : andN i 8 ||| 8 < 16 := Nat.or_lt_two_pow (n := 4) (andN_lt16 hlt) (by decide)
      revert e1 e2 hm hm16
      generalize andN i 8 ||| 8 = m
      generalize andN i 8 = m0
      intro e1 e2 hm hm16
      have e3 := bit_and x m
      have e4 := or_top (f := fun n => x.testBit (setb n 3 true)) hlt
      have e5 := or_zero (x := natOf (fun n => x.testBit (setb n 3 true)) i) (by have := natOf_lt (fun n => x.testBit (setb n 3 true)) i; have : 2 ^ i ≤ 2 ^ 16 := Nat.pow_le_pow_right (by omega) hi; omega)
      have SS : Hid (natOf (fun n => x.testBit (setb n 3 true)) (i + 1) = natOf (fun n => x.testBit (setb n 3 true)) i + if x.testBit m then 2 ^ i else 0) := by show _ = _; rw [← hm]; rfl
      have hp : (2 : Int) ^ i ≤ 65536 := by
        have h1 : 2 ^ i ≤ 2 ^ 16 := Nat.pow_le_pow_right (by omega) (by omega)
        have h2 : (2 : Int) ^ i = ((2 ^ i : Nat) : Int) := by simp
        rw [h2]
        omega
      have hlt' : (i : Int) < 16 := by omega
      have hm' : (m : Int) < 16 := by omega
      clear hm
      revert e4 e5 SS
      generalize natOf (fun n => x.testBit (setb n 3 true)) i = y
      intro e4 e5 SS
      cases hb : x.testBit m with
      | true =>
        rw [hb, if_pos rfl] at e3
        rw [hb, if_pos rfl] at SS
        clear hb e5
        go_wp2_with fail
        go_roundw
        case rel => exact ⟨i + 1, by omega, by go_num, by rw [SS.out, wrap_pow hlt, e4], trivial⟩
        case measure => simp [intOf]; omega
      | false =>
        rw [hb, if_neg (by simp)] at e3
        rw [hb, if_neg (by simp)] at SS
        clear hb e4
        go_wp2_with fail
        go_roundw
        case rel => exact ⟨i + 1, by omega, by go_num, by rw [SS.out]; rfl, trivial⟩
        case measure => simp [intOf]; omega
    · obtain rfl : i = 16 := by omega
      go_wp2_with fail
      go_ret
      exact ⟨rfl, rfl⟩

theorem rest_any {x v : Nat} (b : Bool) (hx : x < 65536) (hv : v < 4) (w : World) : Calls Try.prog 12 #[.int .i64 (x : Int), .int .i64 (v : Int), .bool b] w (RestOut x v b w) := by
  rcases (by omega : v = 0 ∨ v = 1 ∨ v = 2 ∨ v = 3) with rfl | rfl | rfl | rfl <;> cases b
  · exact rest_0false hx w
  · exact rest_0true hx w
  · exact rest_1false hx w
  · exact rest_1true hx w
  · exact rest_2false hx w
  · exact rest_2true hx w
  · exact rest_3false hx w
  · exact rest_3true hx w
end Go.Proofs.Ytmbkkifopmbkaaa
