/- Layer 4's laws: the sixteen answers of a node (osiertables.Says). -/
import Derived.Test.YtfdebadmikmnaaaOTab
namespace Go.Proofs.Ytfdebadmikmnaaa
open Go.ChangeShapes Go.WideShapes Go.ChangeAt Go.RowKit Go.Maps

/-- The number of so many answers. -/
def sumTo (f : Nat → Bool) : Nat → Int
  | 0 => 0
  | i + 1 => sumTo f i + if f i then 2 ^ i else 0
def ansAt (cs : List Nd) (k n : Nat) : Bool := Says 4 cs (valOf (valsZ (n : Int))) k
def saysZ (cs : List Nd) (k : Nat) : Int := sumTo (ansAt cs k) 16

theorem sumTo_range (f : Nat → Bool) : ∀ i, 0 ≤ sumTo f i ∧ sumTo f i < 2 ^ i
  | 0 => by simp [sumTo]
  | i + 1 => by
    have := sumTo_range f i
    have h1 : (2 : Int) ^ (i + 1) = 2 ^ i + 2 ^ i := by rw [Int.pow_succ]; omega
    rw [h1]
    unfold sumTo
    generalize (2 : Int) ^ i = p at *
    split <;> omega

theorem sumTo_nat (x : Nat) : ∀ i, sumTo (bitZ (x : Int)) i = ((x % 2 ^ i : Nat) : Int)
  | 0 => by simp [sumTo, Nat.mod_one]
  | i + 1 => by
    unfold sumTo
    rw [sumTo_nat x i, Nat.pow_succ, Nat.mod_mul]
    have hb : bitZ (x : Int) i = decide (x / 2 ^ i % 2 = 1) := by
      unfold bitZ
      rw [show ((x : Int) / 2 ^ i % 2) = ((x / 2 ^ i % 2 : Nat) : Int) by simp]
      rcases Nat.mod_two_eq_zero_or_one (x / 2 ^ i) with h | h <;> rw [h] <;> rfl
    rw [hb]
    rcases Nat.mod_two_eq_zero_or_one (x / 2 ^ i) with h | h <;> rw [h] <;> simp

theorem sumTo_congr {f g : Nat → Bool} : ∀ i, (∀ j, j < i → f j = g j) → sumTo f i = sumTo g i
  | 0, _ => rfl
  | i + 1, h => by
    unfold sumTo
    rw [sumTo_congr i (fun j hj => h j (by omega)), h i (by omega)]

theorem saysZ_bits {cs : List Nd} {k x : Nat} (hx : x < 65536) (h : ∀ n, n < 16 → ansAt cs k n = bitZ (x : Int) n) : saysZ cs k = x := by
  unfold saysZ
  rw [sumTo_congr 16 h, sumTo_nat, show (2 : Nat) ^ 16 = 65536 from rfl, Nat.mod_eq_of_lt hx]

def SaysOut (cs : List Nd) (k : Nat) (w : World) (e : Ending) (w' : World) : Prop := e = .returned (.int .i64 (saysZ cs k)) ∧ Below w.heap.size w w'

set_option maxRecDepth 100000 in
set_option maxHeartbeats 2000000 in
theorem says_any {w : World} {m : Mem} {h : Hd} {cs : List Nd} (s : St w m h cs) (hV : h.V = 4) {k : Nat} {u : Int} (hk : At cs u k) :
    Calls Try.prog 13 #[ptrV m.s, .int .i64 k] w (SaysOut cs k w) := by
  obtain ⟨c, hc, _⟩ := hk
  have EV : ∀ (n : Nat) (u : World), Below w.heap.size w u → Calls Try.prog 28 #[ptrV m.s, .int .i64 (k : Int), .slice (some ⟨u.heap.size, 0, none⟩) 4 4] (u.alloc (.cells #[.bool ((n : Int) % 2 == 1), .bool ((n : Int) / 2 % 2 == 1), .bool ((n : Int) / 4 % 2 == 1), .bool ((n : Int) / 8 % 2 == 1)] 4)) fun e w' => e = .returned (.tuple #[.bool (ansAt cs k n), .int .i64 0]) ∧ (u.alloc (.cells #[.bool ((n : Int) % 2 == 1), .bool ((n : Int) / 2 % 2 == 1), .bool ((n : Int) / 4 % 2 == 1), .bool ((n : Int) / 8 % 2 == 1)] 4)) = w' := by
    intro n u hu
    have hb := (Below.refl u.heap.size u).alloc (Nat.le_refl _) (.cells #[.bool ((n : Int) % 2 == 1), .bool ((n : Int) / 2 % 2 == 1), .bool ((n : Int) / 4 % 2 == 1), .bool ((n : Int) / 8 % 2 == 1)] 4)
    have := eval_yes ((s.keep hu).keep hb) hc (cap := 4) (vals_rd (n := (n : Int)) (heap_alloc_new u _)) (by simp [valsZ])
    rw [hV] at this
    exact this
  have EV := Lib.hid EV
  clear s hV hc
  unfold ptrV at *
  go_enter Try.func13, Try.ntmps13
  go_wp2_with fail
  go_loopw [5, 6] (fun ov iv wr => ∃ i : Nat, i ≤ 16 ∧ iv = .int .i64 i ∧ ov = .int .i64 (sumTo (ansAt cs k) i) ∧ Below w.heap.size w wr) (fun _ iv _ => 16 - (intOf iv).toNat)
  case atStart => exact ⟨0, by omega, rfl, rfl, Below.refl _ _⟩
  case round =>
    obtain ⟨i, hi, rfl, rfl, hb⟩ := hrel
    have HB := Lib.hid hb
    have E1 := EV.out i _ hb
    by_cases hlt : i < 16
    · have a0 : (bits BinOp.and IntKind.i64 (i : Int) 1 == 1) = ((i : Int) % 2 == 1) := by rw [and_one]
      have a1 : (bits BinOp.and IntKind.i64 ((i : Int) / 2) 1 == 1) = ((i : Int) / 2 % 2 == 1) := by rw [and_one]
      have a2 : (bits BinOp.and IntKind.i64 ((i : Int) / 4) 1 == 1) = ((i : Int) / 4 % 2 == 1) := by rw [and_one]
      have a3 : (bits BinOp.and IntKind.i64 ((i : Int) / 8) 1 == 1) = ((i : Int) / 8 % 2 == 1) := by rw [and_one]
      clear hb
      have BA := Lib.hid (HB.out.trans (((Below.refl wr.heap.size wr).alloc (Nat.le_refl _) (.cells #[.bool ((i : Int) % 2 == 1), .bool ((i : Int) / 2 % 2 == 1), .bool ((i : Int) / 4 % 2 == 1), .bool ((i : Int) / 8 % 2 == 1)] 4)).mono HB.out.size))
      revert a0 a1 a2 a3 E1 BA
      generalize ((i : Int) % 2 == 1) = x0
      generalize ((i : Int) / 2 % 2 == 1) = x1
      generalize ((i : Int) / 4 % 2 == 1) = x2
      generalize ((i : Int) / 8 % 2 == 1) = x3
      intro E1 a0 a1 a2 a3 BA
      have E1 := Lib.hid E1
      have hlt' : (i : Int) < 16 := by omega
      go_wp2_with fail
      refine E1.out.mono ?_
      rintro e w1 ⟨rfl, rfl⟩
      have SR := sumTo_range (ansAt cs k) i
      have hp : (2 : Int) ^ i ≤ 65536 := by
        have h1 : 2 ^ i ≤ 2 ^ 16 := Nat.pow_le_pow_right (by omega) (by omega)
        have h2 : (2 : Int) ^ i = ((2 ^ i : Nat) : Int) := by simp
        rw [h2]
        omega
      have SS : Hid (sumTo (ansAt cs k) (i + 1) = sumTo (ansAt cs k) i + if ansAt cs k i then 2 ^ i else 0) := rfl
      clear a0 a1 a2 a3 E1
      cases hans : ansAt cs k i with
      | true =>
        have HA := Lib.hid hans
        clear hans
        go_wp2_with fail
        go_roundw
        case rel => exact ⟨i + 1, by omega, by go_num, by rw [SS.out, HA.out]; simp, BA.out⟩
        case measure => simp [intOf]; omega
      | false =>
        have HA := Lib.hid hans
        clear hans
        go_wp2_with fail
        go_roundw
        case rel => exact ⟨i + 1, by omega, by go_num, by rw [SS.out, HA.out]; simp, BA.out⟩
        case measure => simp [intOf]; omega
    · obtain rfl : i = 16 := by omega
      clear E1 hb
      go_wp2_with fail
      go_ret
      exact ⟨rfl, HB.out⟩
end Go.Proofs.Ytfdebadmikmnaaa
