/- Layer 7 (lay): how many bits domains have. -/
import Derived.Test.YtimpfeadpcjlgaaDoorYWidth
namespace Go.Proofs.YtimpfeadpcjlgaaDoor
open Go.ChangeShapes Go.WideShapes Go.ChangeAt Go.RowKit Go.Maps

def sumW (l : Doms) : Nat := (l.map fun d => wid d.2).sum
theorem sumW_snoc (l : Doms) (d : ByteArray × Int) : sumW (l ++ [d]) = sumW l + wid d.2 := by unfold sumW; simp
theorem sumW_le : ∀ {l : Doms}, (∀ d ∈ l, d.2 ≤ 1073741824) → sumW l ≤ 30 * l.length
  | [], _ => by simp [sumW]
  | d :: r, h => by
    have h1 := wid_le (h d (by simp))
    have h2 := sumW_le (l := r) (fun e he => h e (by simp [he]))
    unfold sumW at *
    simp only [List.map_cons, List.sum_cons, List.length_cons]
    omega

set_option maxRecDepth 100000 in
set_option maxHeartbeats 1000000 in
theorem tog_any {w : World} {A : Option Addr} {l : Doms} {c : Nat} (hr : DRd w A l) (hl : l.length ≤ 1000) (hs : ∀ d ∈ l, 1 ≤ d.2 ∧ d.2 ≤ 1073741824) :
    Calls Tryd.prog 17 #[.slice A l.length c] w fun e w' => e = .returned (.int .i64 (sumW l : Nat)) ∧ Below w.heap.size w w' := by
  have HR := Lib.hid hr
  have HS := Lib.hid hs
  clear hr hs
  go_enter Tryd.func17, Tryd.ntmps17
  go_wp2_with fail
  go_loopw [3, 5, 8] (fun sv _ iv wr => ∃ i : Nat, i ≤ l.length ∧ iv = .int .i64 (i : Int) ∧ sv = .int .i64 (sumW (l.take i) : Nat) ∧ Below w.heap.size w wr) (fun _ _ iv _ => l.length - (intOf iv).toNat)
  case atStart => exact ⟨0, by omega, rfl, rfl, Below.refl _ _⟩
  case round =>
    obtain ⟨i, hi, rfl, rfl, hbel⟩ := hrel
    have HB := Lib.hid hbel
    by_cases hlt : i < l.length
    · have hlt' : (i : Int) < l.length := by omega
      obtain ⟨⟨s, n⟩, hd⟩ : ∃ d, l[i]? = some d := ⟨_, List.getElem?_eq_getElem hlt⟩
      rcases HR.out with hnil | ⟨b, off, rfl, hb, hc⟩
      · rw [hnil] at hlt; simp at hlt
      obtain ⟨c1, c2⟩ := hc i s n hd
      have c1 := (hbel.cell (p := ⟨b, _, none⟩) hb).trans c1
      have c2 := (hbel.cell (p := ⟨b, _, none⟩) hb).trans c2
      obtain ⟨n1, n2⟩ := HS.out (s, n) (List.mem_of_getElem? hd)
      have WA := Lib.hid (fun w => width_any (s := s) n1 n2 w)
      have NX : Hid (sumW (l.take (i + 1)) = sumW (l.take i) + wid n) := Lib.hid (by rw [List.take_add_one, hd]; exact sumW_snoc _ _)
      have q1 : ((sumW (l.take i) : Nat) : Int) ≤ 30000 := by
        have := sumW_le (l := l.take i) (fun d hd => (HS.out d (List.mem_of_mem_take hd)).2)
        have := List.length_take_le i l
        omega
      have q2 : ((wid n : Nat) : Int) ≤ 30 := by have : wid n ≤ 30 := wid_le n2; omega
      clear hb hc hbel hd n1 n2
      go_wp2_with fail
      refine (WA.out _).mono ?_
      rintro e w3 ⟨rfl, hw3⟩
      have b3 : Hid (Below w.heap.size w w3) := Lib.hid (by
        rw [hw3]
        exact (HB.out.alloc HB.out.size _).alloc (by have := HB.out.size; simp; omega) _)
      clear hw3 WA
      go_wp2_with fail
      go_roundw
      case rel => exact ⟨i + 1, by omega, by go_num, by rw [NX.out]; go_num, b3.out⟩
      case measure => simp [intOf]; omega
    · obtain rfl : i = l.length := by omega
      rw [List.take_length]
      go_wp2_with fail
      go_ret
      exact ⟨rfl, HB.out⟩
end Go.Proofs.YtimpfeadpcjlgaaDoor
