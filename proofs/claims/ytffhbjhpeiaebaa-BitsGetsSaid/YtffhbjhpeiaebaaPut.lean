/- Contracts of Put: the bits of a number. -/
import Derived.Test.YtffhbjhpeiaebaaSame
namespace Go.Proofs.Ytffhbjhpeiaebaa
open Go.ChangeShapes Go.WideShapes Go.ChangeAt Go.RowKit

theorem info_bool : (Try.prog.info? 4).map (fun i => (i.zero, i.size, i.bytes)) = some (some (.bool false), 1, 1) := by kernel_rfl

/-- Put's answer: the bits lie in new memory. -/
def PutOut (l : List Bool) (w : World) (e : Ending) (w' : World) : Prop :=
  ∃ A c, e = .returned (.tuple #[.slice A l.length c, .int .i64 0]) ∧ Rd w' A (l.map Value.bool) ∧ Below w.heap.size w w'

theorem put_bad (n v : Int) (w : World) (h : v < 0 ∨ 62 < v ∨ (0 ≤ v ∧ v ≤ 62 ∧ (n < 0 ∨ (0 ≤ n ∧ wrap64 (2 ^ v.toNat) ≤ n)))) :
    Calls Try.prog 12 #[.int .i64 n, .int .i64 v] w fun e w' => e = .returned (.tuple #[.slice none 0 0, .int .i64 1]) ∧ w = w' := by
  rcases h with h | h | ⟨h1, h2, h | ⟨h3, h4⟩⟩ <;>
  · go_enter Try.func12, Try.ntmps12
    go_wp2
    go_ret2
    exact ⟨rfl, rfl⟩

theorem ret_slice {A : Option Addr} {n m c : Nat} {x : Value} (h : n = m) : Ending.returned (.tuple #[.slice A n c, x]) = .returned (.tuple #[.slice A m c, x]) := by rw [h]

/-- The cells in the k-th round. -/
def putRow (l : List Bool) (k : Nat) : List Value := (l.take k ++ List.replicate (l.length - k) false).map Value.bool

theorem putRow_get (l : List Bool) (k : Nat) (h : k < l.length) : (putRow l k)[k]? = some (.bool false) := by
  unfold putRow
  rw [List.getElem?_map, List.getElem?_append_right (by rw [List.length_take]; omega), List.length_take, Nat.min_eq_left (by omega), Nat.sub_self, List.getElem?_replicate, if_pos (by omega)]
  rfl

theorem putRow_set (l : List Bool) (k : Nat) (h : k < l.length) : (putRow l k).set k (.bool l[k]) = putRow l (k + 1) := by
  unfold putRow
  apply List.ext_getElem?
  intro i
  rw [List.getElem?_set]
  by_cases h1 : k = i
  · subst h1
    rw [if_pos rfl, if_pos (by simp; omega), List.getElem?_map, List.getElem?_append_left (by rw [List.length_take]; omega), List.getElem?_take, if_pos (by omega), List.getElem?_eq_getElem h]
    rfl
  · rw [if_neg h1, List.getElem?_map, List.getElem?_map]
    congr 1
    by_cases h2 : i < k
    · rw [List.getElem?_append_left (by rw [List.length_take]; omega), List.getElem?_append_left (by rw [List.length_take]; omega), List.getElem?_take, List.getElem?_take, if_pos h2, if_pos (by omega)]
    · rw [List.getElem?_append_right (by rw [List.length_take]; omega), List.getElem?_append_right (by rw [List.length_take]; omega)]
      rw [List.length_take, List.length_take, Nat.min_eq_left (by omega), Nat.min_eq_left (by omega), List.getElem?_replicate, List.getElem?_replicate]
      by_cases h3 : i < l.length
      · rw [if_pos (by omega), if_pos (by omega)]
      · rw [if_neg (by omega), if_neg (by omega)]

theorem putRow_end (l : List Bool) : putRow l l.length = l.map Value.bool := by
  unfold putRow
  rw [List.take_length, Nat.sub_self]; simp

theorem Rd.of_own {w : World} {base e n c : Nat} {g : Nat} {xs : List Value} (h : w.ownsRow base e 1 (.slice (some ⟨g, 0, none⟩) n c) n xs) : Rd w (some ⟨g, 0, none⟩) xs := by
  by_cases h0 : n = 0
  · left
    have := h.1
    exact List.eq_nil_of_length_eq_zero (by omega)
  · right
    have hl := h.1
    have hc : ∀ j u, xs[j]? = some u → w.cell? ⟨g, 0 + j, none⟩ = some u := by
      intro j u hu
      have hj : j < xs.length := (List.getElem?_eq_some_iff.1 hu).1
      rw [Nat.zero_add, h.cellAt j (by omega)]
      exact hu
    have hx : 0 < xs.length := by omega
    exact ⟨g, 0, rfl, lt_of_cell (hc 0 xs[0] (List.getElem?_eq_getElem hx)), hc⟩

theorem put_good (n k : Nat) (w : World) (hk : k ≤ 62) (h : (n : Int) < wrap64 (2 ^ k)) :
    Calls Try.prog 12 #[.int .i64 n, .int .i64 k] w (PutOut (putN n k) w) := by
  obtain ⟨i0, hi, hz0, hz1, hz2⟩ := info_parts info_bool
  go_enter Try.func12, Try.ntmps12
  go_wp2_with (first | (at_make; refine wpList_make_full _ rfl _ _ _ rfl w.heap.size 4 i0 (.bool false) 1 Try.underlying26 hi hz0 hz1 _ _ _ _ k rfl rfl rfl rfl ?b1 ?b2 ?b3 ?_))
  case b1 => rw [hz2]; omega
  case b2 => unfold maxLen; omega
  case b3 => exact Nat.le_refl _
  intro w1 hown hgrow
  have hbel := (Below.refl w.heap.size w).grown hgrow (Nat.le_refl _) (by simp)
  obtain ⟨g, hg⟩ : ∃ g, w.heap.size = g := ⟨_, rfl⟩
  obtain ⟨l, hl⟩ : ∃ l, putN n k = l := ⟨_, rfl⟩
  have hlen : l.length = k := by rw [← hl]; exact putN_length n k
  have h0 : w1.ownsRow w.heap.size 4 1 (.slice (some ⟨w.heap.size, 0, none⟩) k k) k (putRow l 0) := by
    have := toList_madeCells_one (.bool false) k
    rw [this] at hown
    simpa [putRow, hlen] using hown
  have HL := Lib.hid hlen
  have HB := Lib.hid hl
  clear hown hgrow hlen hg
  rw [hl]
  clear hl
  go_wp2
  go_loopw [27] (fun i wr => ∃ j : Nat, j ≤ k ∧ i = .int .i64 j ∧ wr.ownsRow w.heap.size 4 1 (.slice (some ⟨w.heap.size, 0, none⟩) k k) k (putRow l j) ∧ Below w.heap.size w wr) (fun i _ => k - (intOf i).toNat)
  case atStart => exact ⟨0, Nat.zero_le _, rfl, h0, hbel⟩
  case round =>
    clear h0 hbel
    obtain ⟨j, hj, rfl, hown, hbel⟩ := hrel
    by_cases hlt : j < k
    · have hjl : j < l.length := by rw [HL.out]; exact hlt
      have hcell := (hown.cellAt j (by omega)).trans (putRow_get l j hjl)
      have hfree := hown.frozenAt j
      have HV : Hid ((bits BinOp.and IntKind.i64 ((n : Int) / 2 ^ j) 1 == 1) = l[j]) := Lib.hid (by
        have h1 := pow_le62 k hk
        have h2 := wrap_pow_le k hk
        rw [bit_at n j (by omega)]
        have h3 := HB.out
        subst h3
        rw [putN_get])
      have HS := Lib.hid hown
      clear hown
      go_wp2
      have hs := HS.out.stored j (.bool (bits BinOp.and IntKind.i64 ((n : Int) / 2 ^ j) 1 == 1))
      go_roundw
      case rel => exact ⟨j + 1, by omega, by go_num, by have h1 := hs.1; rw [HV.out, putRow_set l j hjl] at h1; rw [HV.out]; exact h1, hbel.setCell (Nat.le_refl _) _⟩
      case measure => simp [intOf]; omega
    · have HS := Lib.hid hown
      clear hown
      go_wp2
      go_ret2
      have hjk : j = l.length := by have := HL.out; omega
      have hown := HS.out
      rw [hjk, putRow_end] at hown
      have hl := HB.out
      subst hl
      exact ⟨_, _, ret_slice (putN_length n k).symm, Rd.of_own hown, hbel⟩

end Go.Proofs.Ytffhbjhpeiaebaa
