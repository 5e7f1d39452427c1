/- Layer 7 (lay): how many bits a domain's values need. -/
import Derived.Test.YtimpfeadpcjlgaaDoorYNamed
namespace Go.Proofs.YtimpfeadpcjlgaaDoor
open Go.ChangeShapes Go.WideShapes Go.ChangeAt Go.RowKit Go.Maps

theorem pow_bd (n : Int) (h : n < 62) : (2 : Int) ^ n.toNat ≤ 2305843009213693952 := by
  have h1 : (2 : Nat) ^ n.toNat ≤ 2 ^ 61 := Nat.pow_le_pow_right (by omega) (by omega)
  have h2 : ((2 ^ n.toNat : Nat) : Int) ≤ ((2 ^ 61 : Nat) : Int) := Int.ofNat_le.2 h1
  rw [Int.natCast_pow] at h2
  exact h2

/-- How many of the first k powers of two are below n. -/
def below2 (n : Int) : Nat → Nat
  | 0 => 0
  | k + 1 => below2 n k + if (2 : Int) ^ k < n then 1 else 0

theorem ret_int_errno {a b c d : Int} (h : a = b) (h2 : c = d) : Ending.returned (.tuple #[.int .i64 a, .int .i64 c]) = .returned (.tuple #[.int .i64 b, .int .i64 d]) := by rw [h, h2]

theorem below2_le (n : Int) (k : Nat) : below2 n k ≤ k := by
  induction k with
  | zero => exact Nat.le_refl _
  | succ k ih => unfold below2; split <;> omega

theorem pow_mono2 {i j : Nat} (h : i ≤ j) : (2 : Int) ^ i ≤ 2 ^ j := by
  have h1 : (2 : Nat) ^ i ≤ 2 ^ j := Nat.pow_le_pow_right (by omega) h
  have h2 : ((2 ^ i : Nat) : Int) ≤ ((2 ^ j : Nat) : Int) := Int.ofNat_le.2 h1
  rw [Int.natCast_pow, Int.natCast_pow] at h2
  exact h2

theorem below2_stop (n : Int) (k : Nat) (h : ¬ (2 : Int) ^ k < n) (d : Nat) : below2 n (k + d) = below2 n k := by
  induction d with
  | zero => rfl
  | succ d ih =>
    have h2 : ¬ (2 : Int) ^ (k + d) < n := by have := pow_mono2 (i := k) (j := k + d) (by omega); omega
    show below2 n (k + d) + (if (2 : Int) ^ (k + d) < n then 1 else 0) = _
    rw [ih, if_neg h2]; rfl

theorem width_good (n : Int) (w : World) (h : 1 ≤ n) (h2 : n ≤ 4611686018427387903) :
    Calls Tryd.prog 26 #[.int .i64 n] w fun e w' => e = .returned (.tuple #[.int .i64 (below2 n 62), .int .i64 0]) ∧ w = w' := by
  go_enter Tryd.func26, Tryd.ntmps26
  go_wp2
  go_loop [4, 12] (fun r i => ∃ k : Nat, k ≤ 62 ∧ i = .int .i64 k ∧ r = .int .i64 (below2 n k)) (fun _ i => 62 - (intOf i).toNat)
  case atStart => exact ⟨0, Nat.zero_le _, rfl, rfl⟩
  case round =>
    obtain ⟨k, hk, rfl, rfl⟩ := hrel
    have hb := below2_le n k
    by_cases hlt : k < 62
    · have hp1 := pow_bd k (by omega)
      have hp0 : (0 : Int) ≤ 2 ^ k := Int.pow_nonneg (by omega)
      rw [Int.toNat_natCast] at hp1
      have HW := Lib.hid (IntWalk.wrap64_in (2 ^ k) ⟨by omega, by omega⟩)
      clear hp1 hp0
      by_cases hp : wrap64 ((2 : Int) ^ k) < n
      · have HB : Hid (below2 n (k + 1) = below2 n k + 1) := Lib.hid (by rw [HW.out] at hp; show below2 n k + _ = _; rw [if_pos hp])
        go_wp2
        go_round
        case rel => exact ⟨k + 1, by omega, by go_num, by rw [HB.out]; go_num⟩
        case measure => simp [intOf]; omega
      · have HB : Hid (below2 n (k + 1) = below2 n k) := Lib.hid (by rw [HW.out] at hp; show below2 n k + _ = _; rw [if_neg hp]; rfl)
        go_wp2
        go_round
        case rel => exact ⟨k + 1, by omega, by go_num, by rw [HB.out]⟩
        case measure => simp [intOf]; omega
    · go_wp2
      go_ret2
      exact ⟨ret_int_errno (by rw [show k = 62 by omega]) rfl, rfl⟩


/-- A domain's width. -/
def wid (n : Int) : Nat := below2 n 62
theorem wid_le {n : Int} (h : n ≤ 1073741824) : wid n ≤ 30 := by
  have := below2_stop n 30 (by have : (2 : Int) ^ 30 = 1073741824 := by decide
                               omega) 32
  unfold wid
  rw [this]
  exact below2_le n 30

set_option maxRecDepth 100000 in
theorem width_any {s : ByteArray} {n : Int} (h : 1 ≤ n) (h2 : n ≤ 1073741824) (w : World) : Calls Tryd.prog 20 #[.agg #[.string s, .int .i64 n]] w fun e w' => e = .returned (.int .i64 (wid n : Nat)) ∧ w' = w.alloc (.cells #[.string s, .int .i64 n] 28) := by
  have W := Lib.hid (width_good n · h (by omega))
  go_enter Tryd.func20, Tryd.ntmps20
  go_wp2_with fail
  refine (W.out _).mono ?_
  rintro e w' ⟨rfl, rfl⟩
  go_wp2_with fail
  go_ret
  exact ⟨rfl, rfl⟩
end Go.Proofs.YtimpfeadpcjlgaaDoor
