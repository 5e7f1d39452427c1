/- Layer 4's laws: what an operation must say (must). -/
import Derived.Test.YtfdebadmikmnaaaOAwake
namespace Go.Proofs.Ytfdebadmikmnaaa
open Go.ChangeShapes Go.WideShapes Go.ChangeAt Go.RowKit Go.Maps

def andN (a b : Nat) : Nat := (BitVec.ofNat 64 a &&& ~~~ BitVec.ofNat 64 b).toNat
def mustN (K a b c : Nat) : Nat := match K with | 0 => andN 65535 a | 1 => a &&& b | 2 => a ||| b | 3 => a ^^^ b | 4 => andN a b | _ => (a &&& b) ||| andN c a
def opB (K : Nat) (x y z : Bool) : Bool := match K with | 0 => !x | 1 => x && y | 2 => x || y | 3 => x != y | 4 => x && !y | _ => (x && y) || (z && !x)

theorem andN_bit {a b i : Nat} (hi : i < 64) : (andN a b).testBit i = (a.testBit i && !b.testBit i) := by
  unfold andN
  rw [BitVec.testBit_toNat]
  rw [BitVec.getLsbD_and, BitVec.getLsbD_not, BitVec.getLsbD_ofNat, BitVec.getLsbD_ofNat]
  simp [hi]

theorem lt16_of_bits {x : Nat} (h : ∀ i, 16 ≤ i → x.testBit i = false) : x < 65536 := by
  have := Nat.lt_pow_two_of_testBit (n := 16) x (fun i hi => h i hi)
  simpa using this

theorem bit_high {a i : Nat} (ha : a < 65536) (hi : 16 ≤ i) : a.testBit i = false := Nat.testBit_lt_two_pow (Nat.lt_of_lt_of_le ha (by
  have : 2 ^ 16 ≤ 2 ^ i := Nat.pow_le_pow_right (by omega) hi
  simpa using this))

theorem andN_lt {a b : Nat} (ha : a < 65536) : andN a b < 65536 := by
  apply lt16_of_bits
  intro i hi
  by_cases h : i < 64
  · rw [andN_bit h, bit_high ha hi]; rfl
  · unfold andN
    rw [BitVec.testBit_toNat]
    exact BitVec.getLsbD_of_ge _ _ (by omega)

theorem mustN_lt {K a b c : Nat} (ha : a < 65536) (hb : b < 65536) (hc : c < 65536) : mustN K a b c < 65536 := by
  unfold mustN
  split
  · exact andN_lt (by omega)
  · exact lt16_of_bits fun i hi => by rw [Nat.testBit_and, bit_high ha hi]; rfl
  · exact lt16_of_bits fun i hi => by rw [Nat.testBit_or, bit_high ha hi, bit_high hb hi]; rfl
  · exact lt16_of_bits fun i hi => by rw [Nat.testBit_xor, bit_high ha hi, bit_high hb hi]; rfl
  · exact andN_lt ha
  · exact lt16_of_bits fun i hi => by rw [Nat.testBit_or, Nat.testBit_and, bit_high ha hi, bit_high (andN_lt (b := a) hc) hi]; rfl

theorem mustN_bit {K a b c i : Nat} (hi : i < 16) : (mustN K a b c).testBit i = opB K (a.testBit i) (b.testBit i) (c.testBit i) := by
  unfold mustN opB
  split
  · rw [andN_bit (by omega)]
    have : (65535 : Nat).testBit i = true := by
      have := Nat.testBit_two_pow_sub_one 16 i
      rw [show (2 : Nat) ^ 16 - 1 = 65535 from rfl] at this
      rw [this]
      simpa using hi
    rw [this]; rfl
  · exact Nat.testBit_and ..
  · exact Nat.testBit_or ..
  · rw [Nat.testBit_xor]
  · exact andN_bit (by omega)
  · rw [Nat.testBit_or, Nat.testBit_and, andN_bit (by omega)]

theorem bitZ_nat (x i : Nat) : bitZ (x : Int) i = x.testBit i := by
  unfold bitZ
  rw [Nat.testBit_eq_decide_div_mod_eq, show ((x : Int) / 2 ^ i % 2) = ((x / 2 ^ i % 2 : Nat) : Int) by simp]
  rcases Nat.mod_two_eq_zero_or_one (x / 2 ^ i) with h | h <;> rw [h] <;> rfl

theorem ofInt_nat (a : Nat) : BitVec.ofInt 64 (a : Int) = BitVec.ofNat 64 a := by simp

theorem wrap_small {x : Nat} (h : x < 65536) : IntKind.i64.wrap (x : Int) = (x : Int) := by
  rw [IntKind.wrap_i64]
  omega

theorem b_and {a b : Nat} (ha : a < 65536) (hb : b < 65536) : bits BinOp.and IntKind.i64 (a : Int) (b : Int) = ((a &&& b : Nat) : Int) := by
  show IntKind.i64.wrap ((BitVec.ofInt 64 (a : Int) &&& BitVec.ofInt 64 (b : Int)).toNat : Int) = _
  rw [ofInt_nat, ofInt_nat, BitVec.toNat_and, BitVec.toNat_ofNat, BitVec.toNat_ofNat, Nat.mod_eq_of_lt (by omega), Nat.mod_eq_of_lt (by omega)]
  exact wrap_small (mustN_lt (K := 1) (c := 0) ha hb (by omega))
theorem b_or {a b : Nat} (ha : a < 65536) (hb : b < 65536) : bits BinOp.or IntKind.i64 (a : Int) (b : Int) = ((a ||| b : Nat) : Int) := by
  show IntKind.i64.wrap ((BitVec.ofInt 64 (a : Int) ||| BitVec.ofInt 64 (b : Int)).toNat : Int) = _
  rw [ofInt_nat, ofInt_nat, BitVec.toNat_or, BitVec.toNat_ofNat, BitVec.toNat_ofNat, Nat.mod_eq_of_lt (by omega), Nat.mod_eq_of_lt (by omega)]
  exact wrap_small (mustN_lt (K := 2) (c := 0) ha hb (by omega))
theorem b_xor {a b : Nat} (ha : a < 65536) (hb : b < 65536) : bits BinOp.xor IntKind.i64 (a : Int) (b : Int) = ((a ^^^ b : Nat) : Int) := by
  show IntKind.i64.wrap ((BitVec.ofInt 64 (a : Int) ^^^ BitVec.ofInt 64 (b : Int)).toNat : Int) = _
  rw [ofInt_nat, ofInt_nat, BitVec.toNat_xor, BitVec.toNat_ofNat, BitVec.toNat_ofNat, Nat.mod_eq_of_lt (by omega), Nat.mod_eq_of_lt (by omega)]
  exact wrap_small (mustN_lt (K := 3) (c := 0) ha hb (by omega))
theorem b_andN {a b : Nat} (ha : a < 65536) : bits BinOp.andNot IntKind.i64 (a : Int) (b : Int) = ((andN a b : Nat) : Int) := by
  show IntKind.i64.wrap ((BitVec.ofInt 64 (a : Int) &&& ~~~ BitVec.ofInt 64 (b : Int)).toNat : Int) = _
  rw [ofInt_nat, ofInt_nat]
  exact wrap_small (andN_lt ha)

def MustOut (K a b c : Nat) (w : World) (e : Ending) (w' : World) : Prop := e = .returned (.int .i64 (mustN K a b c : Nat)) ∧ w = w'

theorem must_any {K a b c : Nat} (hK : K < 6) (ha : a < 65536) (hb : b < 65536) (hc : c < 65536) (w : World) :
    Calls Try.prog 11 #[.int .i64 K, .int .i64 a, .int .i64 b, .int .i64 c] w (MustOut K a b c w) := by
  have e0 : bits BinOp.andNot IntKind.i64 65535 (a : Int) = ((andN 65535 a : Nat) : Int) := b_andN (a := 65535) (by omega)
  have e1 := b_and ha hb
  have e2 := b_or ha hb
  have e3 := b_xor ha hb
  have e4 := b_andN (b := b) ha
  have e5 := b_andN (b := a) hc
  have e6 : bits BinOp.or IntKind.i64 ((a &&& b : Nat) : Int) ((andN c a : Nat) : Int) = (((a &&& b) ||| andN c a : Nat) : Int) := b_or (mustN_lt (K := 1) (c := 0) ha hb (by omega)) (andN_lt hc)
  unfold MustOut mustN
  clear ha hb hc
  generalize andN 65535 a = n0 at *
  generalize (a &&& b) ||| andN c a = n6 at *
  generalize a &&& b = n1 at *
  generalize a ||| b = n2 at *
  generalize a ^^^ b = n3 at *
  generalize andN a b = n4 at *
  generalize andN c a = n5 at *
  match K, hK with
  | 0, _ =>
    change Calls Try.prog 11 #[.int .i64 0, _, _, _] w _
    go_enter Try.func11, Try.ntmps11
    go_wp2
    go_ret
    exact ⟨rfl, rfl⟩
  | 1, _ =>
    change Calls Try.prog 11 #[.int .i64 1, _, _, _] w _
    go_enter Try.func11, Try.ntmps11
    go_wp2
    go_ret
    exact ⟨rfl, rfl⟩
  | 2, _ =>
    change Calls Try.prog 11 #[.int .i64 2, _, _, _] w _
    go_enter Try.func11, Try.ntmps11
    go_wp2
    go_ret
    exact ⟨rfl, rfl⟩
  | 3, _ =>
    change Calls Try.prog 11 #[.int .i64 3, _, _, _] w _
    go_enter Try.func11, Try.ntmps11
    go_wp2
    go_ret
    exact ⟨rfl, rfl⟩
  | 4, _ =>
    change Calls Try.prog 11 #[.int .i64 4, _, _, _] w _
    go_enter Try.func11, Try.ntmps11
    go_wp2
    go_ret
    exact ⟨rfl, rfl⟩
  | 5, _ =>
    change Calls Try.prog 11 #[.int .i64 5, _, _, _] w _
    go_enter Try.func11, Try.ntmps11
    go_wp2
    go_ret
    exact ⟨rfl, rfl⟩

/-- What an operation says, by what its nodes say. -/
theorem qsem_op {cs : List Nd} {val : Nat → Bool} {K x y z : Nat} : qsem 4 cs val (qOf K x y z) = opB K (Says 4 cs val x) (Says 4 cs val y) (Says 4 cs val z) := by
  have z0 := Says_zero (V := 4) (cs := cs) val
  have z1 := Says_one (V := 4) (cs := cs) val
  unfold qOf opB
  split <;> simp only [qsem, z0, z1]
  · cases Says 4 cs val x <;> rfl
  · cases Says 4 cs val x <;> cases Says 4 cs val y <;> rfl
  · cases Says 4 cs val x <;> cases Says 4 cs val y <;> rfl
  · cases Says 4 cs val x <;> cases Says 4 cs val y <;> rfl
  · cases Says 4 cs val x <;> cases Says 4 cs val y <;> rfl
  · cases Says 4 cs val x <;> cases Says 4 cs val y <;> cases Says 4 cs val z <;> rfl

theorem tix16 (val : Nat → Bool) : tix val 4 0 0 < 16 := tix_lt val 4 0 0 (by decide)

theorem must_says {cs : List Nd} {K a b c x y z : Nat} (hx : ∀ val, Says 4 cs val x = bitZ (a : Int) (tix val 4 0 0)) (hy : ∀ val, Says 4 cs val y = bitZ (b : Int) (tix val 4 0 0)) (hz : ∀ val, Says 4 cs val z = bitZ (c : Int) (tix val 4 0 0)) (val : Nat → Bool) :
    qsem 4 cs val (qOf K x y z) = bitZ (mustN K a b c : Nat) (tix val 4 0 0) := by
  rw [qsem_op, hx, hy, hz, bitZ_nat, bitZ_nat, bitZ_nat, bitZ_nat, mustN_bit (tix16 val)]

theorem ans_bits {cs : List Nd} {k x : Nat} (hs : ∀ val, Says 4 cs val k = bitZ (x : Int) (tix val 4 0 0)) (hx : x < 65536) : saysZ cs k = x :=
  saysZ_bits hx fun n hn => by unfold ansAt; rw [hs, tix_vals n hn]
end Go.Proofs.Ytfdebadmikmnaaa
