/- Contracts of Get: the number of bits. -/
import Derived.Test.YtffhbjhpeiaebaaLib
import Derived.Test.YtffhbjhpeiaebaaWidth
import Derived.LoopTactic
namespace Go.Proofs.Ytffhbjhpeiaebaa
open Go.ChangeShapes Go.WideShapes Go.ChangeAt Go.RowKit

theorem get_bad (A : Option Addr) (n c : Nat) (w : World) (hn : 62 < n) (hm : n ≤ 9223372036854775807) :
    Calls Try.prog 16 #[.slice A n c] w fun e w' => e = .returned (.tuple #[.int .i64 0, .int .i64 1]) ∧ w = w' := by
  go_enter Try.func16, Try.ntmps16
  go_wp2
  go_ret2
  exact ⟨rfl, rfl⟩

theorem get_good (A : Option Addr) (l : List Bool) (c : Nat) (w : World) (hl : l.length ≤ 62) (hr : Rd w A (l.map Value.bool)) :
    Calls Try.prog 16 #[.slice A l.length c] w fun e w' => e = .returned (.tuple #[.int .i64 (getN l), .int .i64 0]) ∧ w = w' := by
  rcases hr with hr | ⟨b, off, rfl, hlt, hc⟩
  · have : l = [] := by simpa using hr
    subst this
    go_enter Try.func16, Try.ntmps16
    go_wp2
    go_loop [4, 11] (fun r i => i = .int .i64 0 ∧ r = .int .i64 0) (fun _ _ => 0)
    case atStart => exact ⟨rfl, rfl⟩
    case round =>
      obtain ⟨rfl, rfl⟩ := hrel
      go_wp2
      go_ret2
      exact ⟨rfl, rfl⟩
  · obtain ⟨n, hn⟩ : ∃ n, l.length = n := ⟨_, rfl⟩
    have hc' : ∀ k, (h : k < l.length) → w.cell? ⟨b, off + k, none⟩ = some (.bool l[k]) := fun k h => hc k _ (by simp [h])
    clear hc hlt
    rw [hn] at hl ⊢
    have HN := Lib.hid hn
    clear hn
    have HC := Lib.hid hc'
    clear hc'
    go_enter Try.func16, Try.ntmps16
    go_wp2
    go_loop [4, 11] (fun r i => ∃ k : Nat, k ≤ n ∧ i = .int .i64 k ∧ r = .int .i64 (getN (l.take k))) (fun _ i => n - (intOf i).toNat)
    case atStart => exact ⟨0, Nat.zero_le _, rfl, rfl⟩
    case round =>
      obtain ⟨k, hk, rfl, rfl⟩ := hrel
      by_cases hlt : k < n
      · have hkl : k < l.length := by rw [HN.out]; exact hlt
        have hcell := HC.out k hkl
        have hs := getN_step l k hkl
        obtain ⟨b0, hb0⟩ : ∃ b0, l[k] = b0 := ⟨_, rfl⟩
        rw [hb0] at hs hcell
        have HS := Lib.hid hs
        have HT := Lib.hid (or_step (getN (l.take k)) k (getN_take_lt l k (by omega)) (by omega))
        clear hs hb0
        cases b0
        · go_wp2
          go_round
          case rel => exact ⟨k + 1, by omega, by go_num, by rw [HS.out]; rfl⟩
          case measure => simp [intOf]; omega
        · go_wp2
          go_round
          case rel => exact ⟨k + 1, by omega, by go_num, by rw [HS.out]; exact int_eq HT.out⟩
          case measure => simp [intOf]; omega
      · go_wp2
        go_ret2
        exact ⟨ret_int_errno (by rw [show k = n by omega, ← HN.out, List.take_length]) rfl, rfl⟩

end Go.Proofs.Ytffhbjhpeiaebaa
