/- Contracts of the document's answers for layer 1: Width, Get, SameBits. -/
import Derived.Test.YtffhbjhpeiaebaaGet
import Derived.BigQuiet
import Derived.Deep.QuietTactic
namespace Go.Proofs.Ytffhbjhpeiaebaa
open Go.ChangeShapes Go.WideShapes Go.ChangeAt Go.RowKit

theorem rwidth_bad (n : Int) (w : World) (h : n < 1 ∨ 4611686018427387903 < n) :
    Calls Try.prog 11 #[.int .i64 n] w fun e w' => e = .returned (.tuple #[.int .i64 0, .int .i64 1]) ∧ w = w' := by
  rcases h with h | h
  · go_enter Try.func11, Try.ntmps11
    go_wp2
    go_ret2
    exact ⟨rfl, rfl⟩
  · go_enter Try.func11, Try.ntmps11
    go_wp2
    go_ret2
    exact ⟨rfl, rfl⟩

theorem rwidth_good (n : Int) (w : World) (h : 1 ≤ n) (h2 : n ≤ 4611686018427387903) :
    Calls Try.prog 11 #[.int .i64 n] w fun e w' => e = .returned (.tuple #[.int .i64 (below2 n 62), .int .i64 0]) ∧ w = w' := by
  go_enter Try.func11, Try.ntmps11
  go_wp2
  go_loop [4] (fun r => ∃ k : Nat, k ≤ 62 ∧ below2 n k = k ∧ r = .int .i64 k) (fun i => 62 - (intOf i).toNat)
  case atStart => exact ⟨0, Nat.zero_le _, rfl, rfl⟩
  case round =>
    obtain ⟨k, hk, hb, rfl⟩ := hrel
    have HK := Lib.hid hb
    clear hb
    by_cases hlt : k < 62
    · have HW : Hid (wrap64 ((2 : Int) ^ k) = (2 : Int) ^ k) := Lib.hid (by rw [wrap_pow k hlt, pow_cast])
      by_cases hp : wrap64 ((2 : Int) ^ k) < n
      · have HB : Hid (below2 n (k + 1) = k + 1) := Lib.hid (by rw [HW.out] at hp; show below2 n k + _ = _; rw [if_pos hp, HK.out])
        go_wp2
        go_round
        case rel => exact ⟨k + 1, by omega, HB.out, by go_num⟩
        case measure => simp [intOf]; omega
      · have HB : Hid (below2 n 62 = k) := Lib.hid (by
          rw [HW.out] at hp
          have := below2_stop n k hp (62 - k)
          rw [show k + (62 - k) = 62 by omega] at this
          rw [this, HK.out])
        go_wp2
        go_ret2
        exact ⟨ret_int_errno (by rw [HB.out]) rfl, rfl⟩
    · have HB : Hid (below2 n 62 = k) := Lib.hid (by
        rw [show (62 : Nat) = k by omega]
        exact HK.out)
      go_wp2
      go_ret2
      exact ⟨ret_int_errno (by rw [HB.out]) rfl, rfl⟩

theorem rget_bad (A : Option Addr) (n c : Nat) (w : World) (hn : 62 < n) (hm : n ≤ 9223372036854775807) :
    Calls Try.prog 17 #[.slice A n c] w fun e w' => e = .returned (.tuple #[.int .i64 0, .int .i64 1]) ∧ w = w' := by
  go_enter Try.func17, Try.ntmps17
  go_wp2
  go_ret2
  exact ⟨rfl, rfl⟩

theorem rget_good (A : Option Addr) (l : List Bool) (c : Nat) (w : World) (hl : l.length ≤ 62) (hr : Rd w A (l.map Value.bool)) :
    Calls Try.prog 17 #[.slice A l.length c] w fun e w' => e = .returned (.tuple #[.int .i64 (getN l), .int .i64 0]) ∧ w = w' := by
  rcases hr with hr | ⟨b, off, rfl, hlt, hc⟩
  · have : l = [] := by simpa using hr
    subst this
    go_enter Try.func17, Try.ntmps17
    go_wp2
    go_loop [4, 5] (fun r i => i = .int .i64 0 ∧ r = .int .i64 0) (fun _ _ => 0)
    case atStart => exact ⟨rfl, rfl⟩
    case round =>
      obtain ⟨rfl, rfl⟩ := hrel
      go_wp2
      go_ret2
      exact ⟨rfl, rfl⟩
  · obtain ⟨n, hn⟩ : ∃ n, l.length = n := ⟨_, rfl⟩
    have hc' : ∀ k, (h : k < l.length) → w.cell? ⟨b, off + k, none⟩ = some (.bool l[k]) := fun k h => hc k _ (by simp [h])
    clear hc hlt
    rw [hn] at hl ⊢
    have HN := Lib.hid hn
    clear hn
    have HC := Lib.hid hc'
    clear hc'
    go_enter Try.func17, Try.ntmps17
    go_wp2
    go_loop [4, 5] (fun r i => ∃ k : Nat, k ≤ n ∧ i = .int .i64 k ∧ r = .int .i64 (getN (l.take k))) (fun _ i => n - (intOf i).toNat)
    case atStart => exact ⟨0, Nat.zero_le _, rfl, rfl⟩
    case round =>
      obtain ⟨k, hk, rfl, rfl⟩ := hrel
      by_cases hlt : k < n
      · have hkl : k < l.length := by rw [HN.out]; exact hlt
        have hcell := HC.out k hkl
        have hs := getN_step l k hkl
        obtain ⟨b0, hb0⟩ : ∃ b0, l[k] = b0 := ⟨_, rfl⟩
        rw [hb0] at hs hcell
        have HS := Lib.hid hs
        have HT := Lib.hid (add_step (getN (l.take k)) k (getN_take_lt l k (by omega)) (by omega))
        clear hs hb0
        cases b0
        · go_wp2
          go_round
          case rel => exact ⟨k + 1, by omega, by go_num, by rw [HS.out]; rfl⟩
          case measure => simp [intOf]; omega
        · go_wp2
          go_round
          case rel => exact ⟨k + 1, by omega, by go_num, by rw [HS.out]; exact int_eq HT.out⟩
          case measure => simp [intOf]; omega
      · go_wp2
        go_ret2
        exact ⟨ret_int_errno (by rw [show k = n by omega, ← HN.out, List.take_length]) rfl, rfl⟩

end Go.Proofs.Ytffhbjhpeiaebaa
