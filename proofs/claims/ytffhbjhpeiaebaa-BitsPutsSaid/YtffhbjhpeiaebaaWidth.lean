/- Contracts of Width: how many powers of two are below a number. -/
import Derived.Test.YtffhbjhpeiaebaaCounts
import Derived.Below
import Derived.LoopTactic
namespace Go.Proofs.Ytffhbjhpeiaebaa
open Go.ChangeShapes Go.WideShapes Go.ChangeAt Go.RowKit

/-- How many of the first k powers of two are below n. -/
def below2 (n : Int) : Nat → Nat
  | 0 => 0
  | k + 1 => below2 n k + if (2 : Int) ^ k < n then 1 else 0

theorem ret_int_errno {a b c d : Int} (h : a = b) (h2 : c = d) : Ending.returned (.tuple #[.int .i64 a, .int .i64 c]) = .returned (.tuple #[.int .i64 b, .int .i64 d]) := by rw [h, h2]

theorem below2_le (n : Int) (k : Nat) : below2 n k ≤ k := by
  induction k with
  | zero => exact Nat.le_refl _
  | succ k ih => unfold below2; split <;> omega

theorem pow_mono2 {i j : Nat} (h : i ≤ j) : (2 : Int) ^ i ≤ 2 ^ j := by
  have h1 : (2 : Nat) ^ i ≤ 2 ^ j := Nat.pow_le_pow_right (by omega) h
  have h2 : ((2 ^ i : Nat) : Int) ≤ ((2 ^ j : Nat) : Int) := Int.ofNat_le.2 h1
  rw [Int.natCast_pow, Int.natCast_pow] at h2
  exact h2

theorem below2_stop (n : Int) (k : Nat) (h : ¬ (2 : Int) ^ k < n) (d : Nat) : below2 n (k + d) = below2 n k := by
  induction d with
  | zero => rfl
  | succ d ih =>
    have h2 : ¬ (2 : Int) ^ (k + d) < n := by have := pow_mono2 (i := k) (j := k + d) (by omega); omega
    show below2 n (k + d) + (if (2 : Int) ^ (k + d) < n then 1 else 0) = _
    rw [ih, if_neg h2]; rfl

theorem width_bad (n : Int) (w : World) (h : n < 1 ∨ 4611686018427387903 < n) :
    Calls Try.prog 10 #[.int .i64 n] w fun e w' => e = .returned (.tuple #[.int .i64 0, .int .i64 1]) ∧ w = w' := by
  rcases h with h | h
  · go_enter Try.func10, Try.ntmps10
    go_wp2
    go_ret2
    exact ⟨rfl, rfl⟩
  · go_enter Try.func10, Try.ntmps10
    go_wp2
    go_ret2
    exact ⟨rfl, rfl⟩

theorem width_good (n : Int) (w : World) (h : 1 ≤ n) (h2 : n ≤ 4611686018427387903) :
    Calls Try.prog 10 #[.int .i64 n] w fun e w' => e = .returned (.tuple #[.int .i64 (below2 n 62), .int .i64 0]) ∧ w = w' := by
  go_enter Try.func10, Try.ntmps10
  go_wp2
  go_loop [4, 12] (fun r i => ∃ k : Nat, k ≤ 62 ∧ i = .int .i64 k ∧ r = .int .i64 (below2 n k)) (fun _ i => 62 - (intOf i).toNat)
  case atStart => exact ⟨0, Nat.zero_le _, rfl, rfl⟩
  case round =>
    obtain ⟨k, hk, rfl, rfl⟩ := hrel
    have hb := below2_le n k
    by_cases hlt : k < 62
    · have hp1 := pow_bd k (by omega)
      have hp0 : (0 : Int) ≤ 2 ^ k := Int.pow_nonneg (by omega)
      rw [Int.toNat_natCast] at hp1
      have HW := Lib.hid (IntWalk.wrap64_in (2 ^ k) ⟨by omega, by omega⟩)
      clear hp1 hp0
      by_cases hp : wrap64 ((2 : Int) ^ k) < n
      · have HB : Hid (below2 n (k + 1) = below2 n k + 1) := Lib.hid (by rw [HW.out] at hp; show below2 n k + _ = _; rw [if_pos hp])
        go_wp2
        go_round
        case rel => exact ⟨k + 1, by omega, by go_num, by rw [HB.out]; go_num⟩
        case measure => simp [intOf]; omega
      · have HB : Hid (below2 n (k + 1) = below2 n k) := Lib.hid (by rw [HW.out] at hp; show below2 n k + _ = _; rw [if_neg hp]; rfl)
        go_wp2
        go_round
        case rel => exact ⟨k + 1, by omega, by go_num, by rw [HB.out]⟩
        case measure => simp [intOf]; omega
    · go_wp2
      go_ret2
      exact ⟨ret_int_errno (by rw [show k = 62 by omega]) rfl, rfl⟩

end Go.Proofs.Ytffhbjhpeiaebaa
