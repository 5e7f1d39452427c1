/- Layer 3's laws: bits of a number, values of four variables, the node that says what bits say. -/
import Derived.Test.YtfdebadmikmnaaaNSem
namespace Go.Proofs.Ytfdebadmikmnaaa
open Go.ChangeShapes Go.WideShapes Go.ChangeAt Go.RowKit

theorem and_one (z : Int) : bits BinOp.and IntKind.i64 z 1 = z % 2 := by
  show IntKind.i64.wrap ((BitVec.ofInt 64 z &&& BitVec.ofInt 64 ((1 : Nat) : Int)).toNat : Int) = _
  rw [BitVec.toNat_and, ofInt_i64 1 (by omega), Nat.and_one_is_mod, IntKind.wrap_i64, BitVec.toNat_ofInt]
  omega
theorem and_mask16 (z : Int) : bits BinOp.and IntKind.i64 z 65535 = z % 65536 := by
  show IntKind.i64.wrap ((BitVec.ofInt 64 z &&& BitVec.ofInt 64 ((65535 : Nat) : Int)).toNat : Int) = _
  have h := Nat.and_two_pow_sub_one_eq_mod (BitVec.ofInt 64 z).toNat 16
  rw [BitVec.toNat_and, ofInt_i64 65535 (by omega), show (65535 : Nat) = 2 ^ 16 - 1 from rfl, h, IntKind.wrap_i64, BitVec.toNat_ofInt]
  omega
theorem and_mask4 (z : Int) : bits BinOp.and IntKind.i64 z 15 = z % 16 := by
  show IntKind.i64.wrap ((BitVec.ofInt 64 z &&& BitVec.ofInt 64 ((15 : Nat) : Int)).toNat : Int) = _
  have h := Nat.and_two_pow_sub_one_eq_mod (BitVec.ofInt 64 z).toNat 4
  rw [BitVec.toNat_and, ofInt_i64 15 (by omega), show (15 : Nat) = 2 ^ 4 - 1 from rfl, h, IntKind.wrap_i64, BitVec.toNat_ofInt]
  omega

/-- Bit i of a number. -/
def bitZ (n : Int) (i : Nat) : Bool := n / 2 ^ i % 2 == 1
def bitsL (n : Int) (j : Nat) : List Bool := (List.range j).map (bitZ n)
theorem bitsL_length (n : Int) (j : Nat) : (bitsL n j).length = j := by simp [bitsL]
theorem bitsL_snoc (n : Int) (j : Nat) : bitsL n (j + 1) = bitsL n j ++ [bitZ n j] := by simp [bitsL, List.range_succ]
theorem bitsL_get (n : Int) (j i : Nat) (h : i < j) : (bitsL n j)[i]? = some (bitZ n i) := by simp [bitsL, h]


def valsZ (n : Int) : List Bool := [n % 2 == 1, n / 2 % 2 == 1, n / 4 % 2 == 1, n / 8 % 2 == 1]


/-- Which bit a node's answer is, that asks v and later variables. -/
def tix (val : Nat → Bool) : Nat → Nat → Nat → Nat
  | 0, _, from' => from'
  | d + 1, v, from' => tix val d (v + 1) (if val v then from' + 2 ^ v else from')

theorem tix_lt (val : Nat → Bool) : ∀ d v f, f < 2 ^ v → tix val d v f < 2 ^ (v + d) := by
  intro d
  induction d with
  | zero => intro v f h; exact h
  | succ d ih =>
    intro v f h
    unfold tix
    have := ih (v + 1) (if val v then f + 2 ^ v else f) (by split <;> (rw [Nat.pow_succ]; omega))
    rwa [show v + 1 + d = v + (d + 1) by omega] at this

/-- The store behind table. -/
def TabOut (m : Mem) (h : Hd) (cs : List Nd) (bs : List Bool) (d v f : Nat) (w : World) (e : Ending) (w' : World) : Prop :=
  ∃ (k : Nat) (m' : Mem) (h' : Hd) (cs' : List Nd) (c : Nd), e = .returned (.tuple #[.int .i64 (k : Int), .bool true]) ∧ St w' m' h' cs' ∧ Ext cs cs' ∧ Is cs' k c ∧ (v : Int) ≤ c.asks ∧
    (∀ val, Says 4 cs' val k = (bs[tix val d v f]?).getD false) ∧ h'.V = h.V ∧ h'.B = h.B ∧ cnt cs' + 1 ≤ cnt cs + 2 ^ d ∧ Fresh cs cs' ∧ Next m m' w w'

theorem Rd.next {w w' : World} {m m' : Mem} {g : Nat} {xs : List Value} (h : Rd w (some ⟨g, 0, none⟩) xs) (hn : Next m m' w w') (hg : g < w.heap.size) (ho : ¬ m.own g) : Rd w' (some ⟨g, 0, none⟩) xs := by
  rcases h with h | ⟨b, off, e, _, hc⟩
  · exact .inl h
  · simp only [Option.some.injEq, Addr.mk.injEq, and_true] at e
    obtain ⟨rfl, rfl⟩ := e
    exact .inr ⟨g, 0, rfl, Nat.lt_of_lt_of_le hg hn.turn.size, fun j u hu => hn.cell (hc j u hu) ho⟩

end Go.Proofs.Ytfdebadmikmnaaa
