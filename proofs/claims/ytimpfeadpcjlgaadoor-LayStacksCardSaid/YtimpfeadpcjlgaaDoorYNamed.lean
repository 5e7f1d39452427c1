/- Layer 7 (lay): whether a domain may have a name. -/
import Derived.Test.YtimpfeadpcjlgaaDoorYBase
namespace Go.Proofs.YtimpfeadpcjlgaaDoor
open Go.ChangeShapes Go.WideShapes Go.ChangeAt Go.RowKit Go.Maps

def okB (c : Int) : Bool := (decide (97 ≤ c) && decide (c ≤ 122)) || (decide (65 ≤ c) && decide (c ≤ 90)) || (decide (48 ≤ c) && decide (c ≤ 57))
def byteI (s : ByteArray) (i : Nat) : Int := if h : i < s.size then (s[i].toNat : Int) else 0
def namedB (s : ByteArray) : Bool := decide (1 ≤ s.size) && decide (s.size ≤ 16) && (List.range s.size).all fun i => okB (byteI s i)

theorem byteI_at {s : ByteArray} {i : Nat} (h : i < s.size) : byteI s i = (s[i].toNat : Int) := by unfold byteI; rw [dif_pos h]
theorem named_no {s : ByteArray} {i : Nat} (h : i < s.size) (ho : okB (byteI s i) = false) : namedB s = false := by
  unfold namedB
  have : ((List.range s.size).all fun i => okB (byteI s i)) = false := by
    rw [List.all_eq_false]
    exact ⟨i, List.mem_range.2 h, by rw [ho]; simp⟩
  rw [this, Bool.and_false]
theorem named_yes {s : ByteArray} (h1 : 1 ≤ s.size) (h2 : s.size ≤ 16) (ho : ∀ i, i < s.size → okB (byteI s i) = true) : namedB s = true := by
  unfold namedB
  rw [decide_eq_true h1, decide_eq_true h2, Bool.and_self, Bool.true_and, List.all_eq_true]
  exact fun i hi => ho i (List.mem_range.1 hi)

set_option maxRecDepth 100000 in
set_option maxHeartbeats 1000000 in
theorem named_any (s : ByteArray) (w : World) : Calls Tryd.prog 15 #[.string s] w fun e w' => e = .returned (.bool (namedB s)) ∧ w = w' := by
  by_cases h1 : 1 ≤ s.size
  · by_cases h2 : s.size ≤ 16
    · have h1' : (1 : Int) ≤ s.size := by omega
      have h2' : (s.size : Int) ≤ 16 := by omega
      go_enter Tryd.func15, Tryd.ntmps15
      go_wp2_with fail
      go_loop [3, 4, 15] (fun _ _ iv => ∃ i : Nat, i ≤ s.size ∧ iv = .int .i64 (i : Int) ∧ ∀ j, j < i → okB (byteI s j) = true) (fun _ _ iv => s.size - (intOf iv).toNat)
      case atStart => exact ⟨0, by omega, rfl, fun j h => by omega⟩
      case round =>
        obtain ⟨i, hi, rfl, hno⟩ := hrel
        by_cases hlt : i < s.size
        · have hlt' : (i : Int) < s.size := by omega
          have HB := Lib.hid (byteI_at hlt)
          have NO := Lib.hid hno
          clear hno
          by_cases hok : okB (byteI s i) = true
          · have NX : Hid (∀ j, j < i + 1 → okB (byteI s j) = true) := Lib.hid (fun j hj => by
              rcases (by omega : j < i ∨ j = i) with h | rfl
              · exact NO.out j h
              · exact hok)
            rw [HB.out] at hok
            unfold okB at hok
            simp only [Bool.or_eq_true, Bool.and_eq_true, decide_eq_true_eq] at hok
            have OK := Lib.hid hok
            clear hok
            go_wp2_with fail
            all_goals first
              | exact ⟨⟨i + 1, by omega, by go_num, NX.out⟩, by simp [intOf]; omega⟩
              | (exfalso; have := OK.out; first | omega | grind)
          · have NN : Hid (namedB s = false) := Lib.hid (named_no hlt (by simpa using hok))
            rw [HB.out] at hok
            unfold okB at hok
            simp only [Bool.or_eq_true, Bool.and_eq_true, decide_eq_true_eq] at hok
            have OK := Lib.hid hok
            clear hok
            go_wp2_with fail
            all_goals first
              | (go_ret; exact ⟨congrArg (fun b => Ending.returned (.bool b)) NN.out.symm, rfl⟩)
              | (exfalso; have := OK.out; first | omega | grind)
        · obtain rfl : i = s.size := by omega
          have NN : Hid (namedB s = true) := Lib.hid (named_yes h1 h2 hno)
          go_wp2_with fail
          go_ret
          exact ⟨congrArg (fun b => Ending.returned (.bool b)) NN.out.symm, rfl⟩
    · have h2' : (16 : Int) < s.size := by omega
      have h1' : (1 : Int) ≤ s.size := by omega
      have NN : Hid (namedB s = false) := Lib.hid (by unfold namedB; rw [decide_eq_false h2]; simp)
      go_enter Tryd.func15, Tryd.ntmps15
      go_wp2_with fail
      go_ret
      exact ⟨congrArg (fun b => Ending.returned (.bool b)) NN.out.symm, rfl⟩
  · have h1' : (s.size : Int) < 1 := by omega
    have NN : Hid (namedB s = false) := Lib.hid (by unfold namedB; rw [decide_eq_false h1]; simp)
    go_enter Tryd.func15, Tryd.ntmps15
    go_wp2_with fail
    go_ret
    exact ⟨congrArg (fun b => Ending.returned (.bool b)) NN.out.symm, rfl⟩
end Go.Proofs.YtimpfeadpcjlgaaDoor
