/- Contracts of the counts of layer 1 (bits): count, Add, Mul, Pow; and the law BitsTurns, BitsCounts. -/
import Derived.Test.YtffhbjhpeiaebaaRows
import Derived.Test.YtffhbjhpeiaebaaPlain
import Derived.WalkKit
import Derived.ProofKit
import Derived.OpenShut
import Derived.Lib.Hide
namespace Go.Proofs.Ytffhbjhpeiaebaa
open Go.ChangeShapes Go.WideShapes Go.ChangeAt Go.RowKit

theorem ret_int {k : IntKind} {a b : Int} (h : a = b) : Ending.returned (.int k a) = .returned (.int k b) := by rw [h]

theorem count_any (n : Int) (w : World) :
    Calls Try.prog 25 #[.int .i64 n] w fun e w' => e = .returned (.int .i64 (cnt n)) ∧ w = w' := by
  by_cases h : n < 0
  · go_enter Try.func25, Try.ntmps25
    go_wp2
    all_goals
      go_ret
      exact ⟨ret_int (by unfold cnt cap; rw [if_pos h]), rfl⟩
  · by_cases h2 : 4611686018427387903 < n
    · go_enter Try.func25, Try.ntmps25
      go_wp2
      all_goals
        go_ret
        exact ⟨ret_int (by unfold cnt cap; rw [if_neg (by omega), if_pos h2]), rfl⟩
    · go_enter Try.func25, Try.ntmps25
      go_wp2
      all_goals
        go_ret
        exact ⟨ret_int (by unfold cnt cap; rw [if_neg (by omega), if_neg (by omega)]), rfl⟩

theorem add_any (a b : Int) (w : World) :
    Calls Try.prog 18 #[.int .i64 a, .int .i64 b] w fun e w' => e = .returned (.int .i64 (sadd a b)) ∧ w = w' := by
  have a1 := cnt_lo a
  have a2 := cnt_hi a
  have b1 := cnt_lo b
  have b2 := cnt_hi b
  go_enter Try.func18, Try.ntmps18
  go_wp2_with (go_at_call 25; refine (count_any _ _).mono ?_; rintro e w' ⟨rfl, rfl⟩)
  go_ret
  exact ⟨rfl, rfl⟩

theorem mul_any (a b : Int) (w : World) :
    Calls Try.prog 20 #[.int .i64 a, .int .i64 b] w fun e w' => e = .returned (.int .i64 (smul a b)) ∧ w = w' := by
  have a1 := cnt_lo a
  have a2 := cnt_hi a
  have b1 := cnt_lo b
  have b2 := cnt_hi b
  have hm := smul_eq (cnt a) (cnt b) a1 b1
  by_cases h : 0 < cnt b ∧ (4611686018427387903 : Int) / cnt b < cnt a
  · rw [if_pos h] at hm
    have HM := Lib.hid hm
    clear hm
    obtain ⟨h1, h2⟩ := h
    go_enter Try.func20, Try.ntmps20
    go_wp2_with (go_at_call 25; refine (count_any _ _).mono ?_; rintro e w' ⟨rfl, rfl⟩)
    go_ret
    exact ⟨ret_int HM.out, rfl⟩
  · rw [if_neg h] at hm
    have hq : cnt a * cnt b ≤ 4611686018427387903 := by rw [hm]; exact cnt_hi _
    have hq0 : 0 ≤ cnt a * cnt b := Int.mul_nonneg a1 b1
    have HM := Lib.hid hm
    clear hm
    by_cases h0 : 0 < cnt b
    · have h1 : ¬ (4611686018427387903 : Int) / cnt b < cnt a := fun x => h ⟨h0, x⟩
      clear h
      go_enter Try.func20, Try.ntmps20
      go_wp2_with (go_at_call 25; refine (count_any _ _).mono ?_; rintro e w' ⟨rfl, rfl⟩)
      go_ret
      exact ⟨ret_int HM.out, rfl⟩
    · clear h
      go_enter Try.func20, Try.ntmps20
      go_wp2_with (go_at_call 25; refine (count_any _ _).mono ?_; rintro e w' ⟨rfl, rfl⟩)
      go_ret
      exact ⟨ret_int HM.out, rfl⟩

theorem pow_bd (n : Int) (h : n < 62) : (2 : Int) ^ n.toNat ≤ 2305843009213693952 := by
  have h1 : (2 : Nat) ^ n.toNat ≤ 2 ^ 61 := Nat.pow_le_pow_right (by omega) (by omega)
  have h2 : ((2 ^ n.toNat : Nat) : Int) ≤ ((2 ^ 61 : Nat) : Int) := Int.ofNat_le.2 h1
  rw [Int.natCast_pow] at h2
  exact h2

theorem pow_any (n : Int) (w : World) :
    Calls Try.prog 22 #[.int .i64 n] w fun e w' => e = .returned (.int .i64 (spow n)) ∧ w = w' := by
  by_cases h : n < 0
  · go_enter Try.func22, Try.ntmps22
    go_wp2
    go_ret
    exact ⟨ret_int (by unfold spow; rw [if_pos h]), rfl⟩
  · have hp := pow_bd n
    by_cases h2 : 62 ≤ n
    · clear hp
      go_enter Try.func22, Try.ntmps22
      go_wp2
      go_ret
      exact ⟨ret_int (by unfold spow cap; rw [if_neg (by omega), if_pos h2]), rfl⟩
    · have hp1 := hp (by omega)
      have hp0 : (0 : Int) ≤ 2 ^ n.toNat := Int.pow_nonneg (by omega)
      have HW := Lib.hid (IntWalk.wrap64_in (2 ^ n.toNat) ⟨by omega, by omega⟩)
      clear hp hp1 hp0
      go_enter Try.func22, Try.ntmps22
      go_wp2
      go_ret
      exact ⟨ret_int (by rw [HW.out]; unfold spow; rw [if_neg (by omega), if_neg (by omega)]), rfl⟩

end Go.Proofs.Ytffhbjhpeiaebaa
