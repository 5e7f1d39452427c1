/- Layer 7 (lay): texts cut at a byte. Plain, and strings.Cut at one byte. -/
import Derived.Test.YtimpfeadpcjlgaaDoorYCheck
import Derived.Test.YtimpfeadpcjlgaaDoorYShelf
namespace Go.Proofs.YtimpfeadpcjlgaaDoor
open Go.ChangeShapes Go.WideShapes Go.ChangeAt Go.RowKit Go.Maps

/-- The parts of a text between bytes. -/
def splitB (c : UInt8) : List UInt8 → List (List UInt8)
  | [] => [[]]
  | b :: l => if b == c then [] :: splitB c l else match splitB c l with
    | p :: ps => (b :: p) :: ps
    | [] => [[b]]

theorem splitB_ne (c : UInt8) (l : List UInt8) : splitB c l ≠ [] := by
  cases l with
  | nil => simp [splitB]
  | cons b l =>
    unfold splitB
    split
    · simp
    · split <;> simp
theorem indexByte_lo (c : UInt8) : ∀ l : List UInt8, -1 ≤ Lib.indexByte l c := fun l => Lib.indexByte_ge l c
theorem split_none {c : UInt8} : ∀ {l : List UInt8}, Lib.indexByte l c = -1 → splitB c l = [l]
  | [], _ => rfl
  | b :: l, h => by
    unfold Lib.indexByte at h
    unfold splitB
    by_cases hb : (b == c) = true
    · rw [if_pos hb] at h; cases h
    · rw [if_neg hb] at h ⊢
      have h2 : Lib.indexByte l c = -1 := by
        have := indexByte_lo c l
        split at h
        · next h3 => simpa using h3
        · omega
      rw [split_none h2]
theorem split_at {c : UInt8} : ∀ {l : List UInt8} {i : Nat}, Lib.indexByte l c = (i : Int) → i < l.length ∧ splitB c l = l.take i :: splitB c (l.drop (i + 1))
  | [], i, h => by
    exfalso
    have h : (-1 : Int) = (i : Int) := h
    omega
  | b :: l, i, h => by
    unfold Lib.indexByte at h
    by_cases hb : (b == c) = true
    · rw [if_pos hb] at h
      obtain rfl : i = 0 := by omega
      refine ⟨by simp, ?_⟩
      show splitB c (b :: l) = [] :: splitB c l
      rw [splitB, if_pos hb]
    · rw [if_neg hb] at h
      have hlo := indexByte_lo c l
      by_cases h3 : Lib.indexByte l c = -1
      · rw [if_pos (by rw [h3]; rfl)] at h; omega
      · rw [if_neg (by simpa using h3)] at h
        obtain ⟨j, rfl⟩ : ∃ j, i = j + 1 := ⟨i - 1, by omega⟩
        obtain ⟨h1, h2⟩ := split_at (c := c) (l := l) (i := j) (by omega)
        refine ⟨by simp; omega, ?_⟩
        rw [splitB, if_neg hb, h2]
        rfl

def bytesOf (s : ByteArray) : List UInt8 := s.data.toList
def ofBytes (l : List UInt8) : ByteArray := ⟨l.toArray⟩
theorem ofBytes_of (s : ByteArray) : ofBytes (bytesOf s) = s := by cases s; simp [ofBytes, bytesOf]
theorem bytes_of (l : List UInt8) : bytesOf (ofBytes l) = l := by simp [ofBytes, bytesOf]
theorem bytes_len (s : ByteArray) : (bytesOf s).length = s.size := by cases s; rfl

theorem extract_to (s : ByteArray) (i : Nat) : s.extract 0 i = ofBytes ((bytesOf s).take i) := by
  apply ByteArray.ext
  rw [ByteArray.data_extract]
  unfold ofBytes bytesOf
  apply Array.ext'
  simp
theorem extract_from (s : ByteArray) (i : Nat) : s.extract i s.size = ofBytes ((bytesOf s).drop i) := by
  apply ByteArray.ext
  rw [ByteArray.data_extract]
  unfold ofBytes bytesOf
  apply Array.ext'
  have : s.size = s.data.toList.length := rfl
  simp only [Array.toList_extract, List.extract_eq_take_drop]
  rw [this, ← List.length_drop, List.take_length]

set_option maxRecDepth 100000 in
set_option maxHeartbeats 1000000 in
theorem cut_none {s : ByteArray} {c : UInt8} (h : Lib.indexByte (bytesOf s) c = -1) (w : World) : Calls Tryd.prog 28 #[.string s, .string ⟨#[c]⟩] w fun e w' => e = .returned (.tuple #[.string s, .string ⟨#[]⟩, .bool false]) ∧ w' = w := by
  have IX := Tryd.stringslite_Index_one s c w
  rw [show s.data.toList = bytesOf s from rfl, h] at IX
  have IX := Lib.hid IX
  go_enter Tryd.func28, Tryd.ntmps28
  go_wp2_with fail
  refine IX.out.mono ?_
  rintro e w' ⟨rfl, rfl⟩
  go_wp2_with fail
  go_ret3
  exact ⟨rfl, rfl⟩

set_option maxRecDepth 100000 in
set_option maxHeartbeats 1000000 in
theorem cut_at {s : ByteArray} {c : UInt8} {i : Nat} (h : Lib.indexByte (bytesOf s) c = (i : Int)) (hs : s.size ≤ 1048576) (w : World) : Calls Tryd.prog 28 #[.string s, .string ⟨#[c]⟩] w fun e w' => e = .returned (.tuple #[.string (ofBytes ((bytesOf s).take i)), .string (ofBytes ((bytesOf s).drop (i + 1))), .bool true]) ∧ ∃ q, w' = w.drewN q := by
  obtain ⟨hi, -⟩ := split_at h
  rw [bytes_len] at hi
  have IX := Tryd.stringslite_Index_one s c w
  rw [show s.data.toList = bytesOf s from rfl, h] at IX
  have IX := Lib.hid IX
  have hi' : (i : Int) < s.size := by omega
  have hs' : (s.size : Int) ≤ 1048576 := by omega
  clear h
  go_enter Tryd.func28, Tryd.ntmps28
  go_wp2_with fail
  refine IX.out.mono ?_
  rintro e w' ⟨rfl, rfl⟩
  go_wp2_with fail
  go_region
  go_wp2_with fail
  go_ret3
  refine ⟨?_, _, rfl⟩
  rw [← extract_to, ← extract_from]
  rfl

set_option maxRecDepth 100000 in
set_option maxHeartbeats 1000000 in
/-- strings.Cut at one byte. -/
theorem scut_none {s : ByteArray} {c : UInt8} (h : Lib.indexByte (bytesOf s) c = -1) (w : World) : Calls Tryd.prog 24 #[.string s, .string ⟨#[c]⟩] w fun e w' => e = .returned (.tuple #[.string s, .string ⟨#[]⟩, .bool false]) ∧ ∃ q, w' = w.drewN q := by
  have C := Lib.hid (cut_none h w)
  clear h
  go_enter Tryd.func24, Tryd.ntmps24
  go_wp2_with fail
  refine C.out.mono ?_
  rintro e w' ⟨rfl, rfl⟩
  go_wp2_with fail
  go_ret3
  exact ⟨rfl, 0, rfl⟩
set_option maxRecDepth 100000 in
set_option maxHeartbeats 1000000 in
theorem scut_at {s : ByteArray} {c : UInt8} {i : Nat} (h : Lib.indexByte (bytesOf s) c = (i : Int)) (hs : s.size ≤ 1048576) (w : World) : Calls Tryd.prog 24 #[.string s, .string ⟨#[c]⟩] w fun e w' => e = .returned (.tuple #[.string (ofBytes ((bytesOf s).take i)), .string (ofBytes ((bytesOf s).drop (i + 1))), .bool true]) ∧ ∃ q, w' = w.drewN q := by
  have C := Lib.hid (cut_at h hs w)
  clear h
  go_enter Tryd.func24, Tryd.ntmps24
  go_wp2_with fail
  refine C.out.mono ?_
  rintro e w' ⟨rfl, q, rfl⟩
  go_wp2_with fail
  go_ret3
  exact ⟨rfl, q, rfl⟩
end Go.Proofs.YtimpfeadpcjlgaaDoor
