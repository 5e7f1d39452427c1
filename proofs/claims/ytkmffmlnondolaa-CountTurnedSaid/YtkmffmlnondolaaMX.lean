/- Merged: CBLib, CBGet, CSortRow, CSortNone, CSortBy, CNums. -/
import Derived.Test.YtkmffmlnondolaaMR
import Derived.Test.YtkmffmlnondolaaMA
import Derived.Below
import Derived.Deep.Grids
import Derived.LoopTactic
import Derived.Test.YtkmffmlnondolaaMS
import Derived.Sort.OwnSortedInts
import Derived.BigQuiet
import Derived.Test.YtkmffmlnondolaaMQ

/- Layer 1 (bits), in a space of its own: words on bits as numbers. -/
namespace Go.Proofs.Ytkmffmlnondolaa.B6
open Go.ChangeShapes Go.WideShapes Go.ChangeAt Go.RowKit

/-! ### The number of bits -/
def getN : List Bool → Nat
  | [] => 0
  | b :: r => (if b then 1 else 0) + 2 * getN r

theorem getN_lt (l : List Bool) : getN l < 2 ^ l.length := by
  induction l with
  | nil => simp [getN]
  | cons b r ih => simp only [getN, List.length_cons, Nat.pow_succ]; split <;> omega

theorem getN_snoc (l : List Bool) (b : Bool) : getN (l ++ [b]) = getN l + if b then 2 ^ l.length else 0 := by
  induction l with
  | nil => simp [getN]
  | cons c r ih =>
    simp only [List.cons_append, getN, ih, List.length_cons, Nat.pow_succ]
    split <;> split <;> omega

theorem take_snoc {α : Type} (l : List α) (k : Nat) (h : k < l.length) : l.take (k + 1) = l.take k ++ [l[k]] := by
  rw [List.take_succ_eq_append_getElem h]

theorem getN_step (l : List Bool) (k : Nat) (h : k < l.length) : getN (l.take (k + 1)) = getN (l.take k) + if l[k] then 2 ^ k else 0 := by
  rw [take_snoc l k h, getN_snoc, List.length_take, Nat.min_eq_left (by omega)]

theorem getN_take_lt (l : List Bool) (k : Nat) (h : k ≤ l.length) : getN (l.take k) < 2 ^ k := by
  have := getN_lt (l.take k)
  rw [List.length_take, Nat.min_eq_left h] at this
  exact this

/-- The bits of a number: its w lowest ones. -/
def putN (n : Nat) : Nat → List Bool
  | 0 => []
  | w + 1 => (n % 2 == 1) :: putN (n / 2) w

theorem putN_length (n w : Nat) : (putN n w).length = w := by
  induction w generalizing n with
  | zero => rfl
  | succ w ih => simp [putN, ih]

theorem putN_get (w : Nat) : ∀ (n k : Nat) (h : k < (putN n w).length), (putN n w)[k] = (n / 2 ^ k % 2 == 1) := by
  induction w with
  | zero => intro n k h; simp [putN] at h
  | succ w ih =>
    intro n k h
    match k with
    | 0 => simp [putN]
    | k + 1 =>
      simp only [putN, List.getElem_cons_succ]
      rw [ih, Nat.div_div_eq_div_mul, Nat.pow_succ, Nat.mul_comm]

theorem getN_putN (w : Nat) : ∀ n, n < 2 ^ w → getN (putN n w) = n := by
  induction w with
  | zero => intro n h; simp at h; subst h; rfl
  | succ w ih =>
    intro n h
    rw [Nat.pow_succ] at h
    simp only [putN, getN, ih (n / 2) (by omega)]
    split <;> simp_all <;> omega

theorem putN_getN : ∀ l : List Bool, putN (getN l) l.length = l := by
  intro l
  induction l with
  | nil => rfl
  | cons b r ih =>
    simp only [List.length_cons, putN, getN]
    have h1 : ((if b = true then 1 else 0) + 2 * getN r) / 2 = getN r := by split <;> omega
    have h2 : (((if b = true then 1 else 0) + 2 * getN r) % 2 == 1) = b := by cases b <;> simp <;> omega
    rw [h1, h2, ih]

/-! ### What the walk writes -/
theorem wraps_i64 (n : Int) (h0 : 0 ≤ n) (h1 : n < 2 ^ 63) : IntKind.i64.wrap n = n := by rw [IntKind.wrap_i64]; omega

theorem pow_cast (k : Nat) : ((2 ^ k : Nat) : Int) = (2 : Int) ^ k := by rw [Int.natCast_pow]; rfl

theorem pow_le61 (k : Nat) (h : k < 62) : (2 : Nat) ^ k ≤ 2305843009213693952 := by
  have h1 : (2 : Nat) ^ k ≤ 2 ^ 61 := Nat.pow_le_pow_right (by omega) (by omega)
  exact h1

theorem wrap_pow (k : Nat) (h : k < 62) : wrap64 ((2 : Int) ^ k) = ((2 ^ k : Nat) : Int) := by
  have h1 := pow_le61 k h
  rw [← pow_cast]
  generalize 2 ^ k = p at h1
  exact IntWalk.wrap64_in _ ⟨by omega, by omega⟩

theorem or_step (a k : Nat) (h : a < 2 ^ k) (hk : k < 62) : bits BinOp.or IntKind.i64 (a : Int) (wrap64 ((2 : Int) ^ k)) = ((a + 2 ^ k : Nat) : Int) := by
  have h1 := pow_le61 k hk
  rw [wrap_pow k hk, (bits_nat .i64 63 (by decide) wraps_i64 a (2 ^ k) (by omega) (by omega)).2]
  have h2 := Nat.two_pow_add_eq_or_of_lt h 1
  rw [Nat.or_comm, Nat.add_comm]
  rw [Nat.mul_one] at h2
  rw [h2]

theorem add_step (a k : Nat) (h : a < 2 ^ k) (hk : k < 62) : wrap64 ((a : Int) + wrap64 ((2 : Int) ^ k)) = ((a + 2 ^ k : Nat) : Int) := by
  have h1 := pow_le61 k hk
  rw [wrap_pow k hk]
  generalize 2 ^ k = p at h h1
  rw [IntWalk.wrap64_in _ ⟨by omega, by omega⟩]; omega

theorem bit_at (n j : Nat) (h : n < 9223372036854775808) : (bits BinOp.and IntKind.i64 ((n : Int) / 2 ^ j) 1 == 1) = (n / 2 ^ j % 2 == 1) := by
  have e : (n : Int) / 2 ^ j = ((n / 2 ^ j : Nat) : Int) := by rw [Int.natCast_ediv, pow_cast]
  have h1 : n / 2 ^ j ≤ n := Nat.div_le_self _ _
  rw [e]
  generalize n / 2 ^ j = m at h1
  have h2 := bits_mask .i64 63 (by decide) wraps_i64 1 (by decide) (m : Int) (by omega) (by omega)
  have h3 : bits BinOp.and IntKind.i64 (m : Int) 1 = (m : Int) % 2 := h2
  rw [h3, Bool.eq_iff_iff]
  simp only [beq_iff_eq]
  omega

theorem pow_le62 (k : Nat) (h : k ≤ 62) : (2 : Nat) ^ k ≤ 4611686018427387904 := by
  have h1 : (2 : Nat) ^ k ≤ 2 ^ 62 := Nat.pow_le_pow_right (by omega) h
  exact h1

theorem wrap_pow_le (k : Nat) (h : k ≤ 62) : wrap64 ((2 : Int) ^ k) = ((2 ^ k : Nat) : Int) := by
  have h1 := pow_le62 k h
  rw [← pow_cast]
  generalize 2 ^ k = p at h1
  exact IntWalk.wrap64_in _ ⟨by omega, by omega⟩

theorem int_eq {a b : Int} (h : a = b) : Value.int .i64 a = Value.int .i64 b := by rw [h]

theorem ret_int_errno {a b c d : Int} (h : a = b) (h2 : c = d) : Ending.returned (.tuple #[.int .i64 a, .int .i64 c]) = .returned (.tuple #[.int .i64 b, .int .i64 d]) := by rw [h, h2]
end Go.Proofs.Ytkmffmlnondolaa.B6

/- Contracts of Get: the number of bits. -/
namespace Go.Proofs.Ytkmffmlnondolaa.B6
open Go.ChangeShapes Go.WideShapes Go.ChangeAt Go.RowKit

theorem get_bad (A : Option Addr) (n c : Nat) (w : World) (hn : 62 < n) (hm : n ≤ 9223372036854775807) :
    Calls Try.prog 52 #[.slice A n c] w fun e w' => e = .returned (.tuple #[.int .i64 0, .int .i64 1]) ∧ w = w' := by
  go_enter Try.func52, Try.ntmps52
  go_wp2
  go_ret2
  exact ⟨rfl, rfl⟩

theorem get_good (A : Option Addr) (l : List Bool) (c : Nat) (w : World) (hl : l.length ≤ 62) (hr : Rd w A (l.map Value.bool)) :
    Calls Try.prog 52 #[.slice A l.length c] w fun e w' => e = .returned (.tuple #[.int .i64 (getN l), .int .i64 0]) ∧ w = w' := by
  rcases hr with hr | ⟨b, off, rfl, hlt, hc⟩
  · have : l = [] := by simpa using hr
    subst this
    go_enter Try.func52, Try.ntmps52
    go_wp2
    go_loop [4, 11] (fun r i => i = .int .i64 0 ∧ r = .int .i64 0) (fun _ _ => 0)
    case atStart => exact ⟨rfl, rfl⟩
    case round =>
      obtain ⟨rfl, rfl⟩ := hrel
      go_wp2
      go_ret2
      exact ⟨rfl, rfl⟩
  · obtain ⟨n, hn⟩ : ∃ n, l.length = n := ⟨_, rfl⟩
    have hc' : ∀ k, (h : k < l.length) → w.cell? ⟨b, off + k, none⟩ = some (.bool l[k]) := fun k h => hc k _ (by simp [h])
    clear hc hlt
    rw [hn] at hl ⊢
    have HN := Lib.hid hn
    clear hn
    have HC := Lib.hid hc'
    clear hc'
    go_enter Try.func52, Try.ntmps52
    go_wp2
    go_loop [4, 11] (fun r i => ∃ k : Nat, k ≤ n ∧ i = .int .i64 k ∧ r = .int .i64 (getN (l.take k))) (fun _ i => n - (intOf i).toNat)
    case atStart => exact ⟨0, Nat.zero_le _, rfl, rfl⟩
    case round =>
      obtain ⟨k, hk, rfl, rfl⟩ := hrel
      by_cases hlt : k < n
      · have hkl : k < l.length := by rw [HN.out]; exact hlt
        have hcell := HC.out k hkl
        have hs := getN_step l k hkl
        obtain ⟨b0, hb0⟩ : ∃ b0, l[k] = b0 := ⟨_, rfl⟩
        rw [hb0] at hs hcell
        have HS := Lib.hid hs
        have HT := Lib.hid (or_step (getN (l.take k)) k (getN_take_lt l k (by omega)) (by omega))
        clear hs hb0
        cases b0
        · go_wp2
          go_round
          case rel => exact ⟨k + 1, by omega, by go_num, by rw [HS.out]; rfl⟩
          case measure => simp [intOf]; omega
        · go_wp2
          go_round
          case rel => exact ⟨k + 1, by omega, by go_num, by rw [HS.out]; exact int_eq HT.out⟩
          case measure => simp [intOf]; omega
      · go_wp2
        go_ret2
        exact ⟨ret_int_errno (by rw [show k = n by omega, ← HN.out, List.take_length]) rfl, rfl⟩

end Go.Proofs.Ytkmffmlnondolaa.B6

/- Layer 6 (count): a row of ints, sorted by the library. -/
namespace Go.Proofs.Ytkmffmlnondolaa
open Go.ChangeShapes Go.WideShapes Go.ChangeAt Go.RowKit Go.Maps

def sortI (zs : List Int) : List Int := zs.mergeSort fun x y => decide (x ≤ y)

/-- slices.Sort of a row that is the call's own, of one number or more. -/
theorem sort_row {w : World} {B : Nat} {v : Value} {zs : List Int} (h : w.ownsRow B 3 1 v zs.length (intsC zs)) (hne : 0 < zs.length) (hl : zs.length ≤ 1000000) :
    Calls Try.prog 53 #[v] w fun e w' => e = .returned (.tuple #[]) ∧ w'.ownsRow B 3 1 v zs.length (intsC (sortI zs)) ∧ w.grownBy w' v.ownBlock := by
  rcases h.2 with ⟨_, h0⟩ | ⟨g, cap, cur, rfl, hg, hr, h1, h2, h3, h4⟩
  · omega
  · rw [Nat.mul_one] at h4
    have hH := Go.holds_of_blockI (ss := zs) hr h4
    have := Any.slices_Sort_int Try.lays189 g 0 cap zs w hH (row_lt hr) (by omega)
    refine this.mono ?_
    rintro e w' ⟨rfl, n, os, rfl⟩
    exact ⟨rfl, Go.ownsRow_sortedI (by rw [List.length_mergeSort]) hg hr h1 h2 h3, Go.grownBy_sortedI _⟩
end Go.Proofs.Ytkmffmlnondolaa

/- Layer 6 (count): a row of none, sorted by the library. -/
namespace Go.Proofs.Ytkmffmlnondolaa
open Go.ChangeShapes Go.WideShapes Go.ChangeAt Go.RowKit Go.Maps

set_option maxRecDepth 100000 in
set_option maxHeartbeats 1000000 in
theorem len64_zero (w : World) : Calls Try.prog 93 #[.int .u64 0] w fun e w' => ∃ r, e = .returned (.int .i64 r) ∧ w = w' := by
  go_enter Try.func93, Try.ntmps93
  go_wp2_with fail
  go_ret
  exact ⟨_, rfl, rfl⟩
set_option maxRecDepth 100000 in
set_option maxHeartbeats 1000000 in
theorem len_zero (w : World) : Calls Try.prog 69 #[.int .u64 0] w fun e w' => ∃ r, e = .returned (.int .i64 r) ∧ w = w' := by
  have L := Lib.hid (len64_zero w)
  go_enter Try.func69, Try.ntmps69
  go_wp2_with fail
  refine L.out.mono ?_
  rintro e w' ⟨r, rfl, rfl⟩
  go_wp2_with fail
  go_ret
  exact ⟨r, rfl, rfl⟩
set_option maxRecDepth 100000 in
set_option maxHeartbeats 1000000 in
theorem ins_none (w : World) (A : Option Addr) (c : Nat) : Calls Try.prog 94 #[.slice A 0 c, .int .i64 0, .int .i64 0] w fun e w' => e = .returned (.tuple #[]) ∧ w = w' := by
  go_enter Try.func94, Try.ntmps94
  go_wp2_with fail
  go_loopw [6] (fun iv wr => iv = .int .i64 1 ∧ w = wr) (fun _ _ => 0)
  case atStart => exact ⟨rfl, rfl⟩
  case round =>
    obtain ⟨rfl, rfl⟩ := hrel
    go_wp2_with fail
    go_end0
    exact ⟨rfl, rfl⟩
set_option maxRecDepth 100000 in
set_option maxHeartbeats 1000000 in
theorem pdq_none (w : World) (A : Option Addr) (c : Nat) (r : Int) : Calls Try.prog 70 #[.slice A 0 c, .int .i64 0, .int .i64 0, .int .i64 r] w fun e w' => e = .returned (.tuple #[]) ∧ w = w' := by
  have I := Lib.hid (ins_none w A c)
  go_enter Try.func70, Try.ntmps70
  go_wp2_with fail
  go_loopw [1, 2] (fun a b wr => a = .int .i64 0 ∧ b = .int .i64 0 ∧ w = wr) (fun _ _ _ => 0)
  case atStart => exact ⟨rfl, rfl, rfl⟩
  case round =>
    obtain ⟨rfl, rfl, rfl⟩ := hrel
    go_wp2_with fail
    refine I.out.mono ?_
    rintro e w' ⟨rfl, rfl⟩
    go_wp2_with fail
    refine bodyPost_ret (results_none rfl _ _ _) rfl ?_
    exact ⟨rfl, rfl⟩
set_option maxRecDepth 100000 in
set_option maxHeartbeats 1000000 in
theorem sort_none (w : World) (A : Option Addr) (c : Nat) : Calls Try.prog 53 #[.slice A 0 c] w fun e w' => e = .returned (.tuple #[]) ∧ w = w' := by
  have L := Lib.hid (len_zero w)
  have P := Lib.hid (pdq_none w A c)
  go_enter Try.func53, Try.ntmps53
  go_wp2_with fail
  refine L.out.mono ?_
  rintro e w' ⟨r, rfl, rfl⟩
  go_wp2_with fail
  refine (P.out r).mono ?_
  rintro e w' ⟨rfl, rfl⟩
  go_wp2_with fail
  go_end0
  exact ⟨rfl, rfl⟩

/-- slices.Sort of a row that is the call's own, of any number. -/
theorem sort_row_any {w : World} {B : Nat} {v : Value} {zs : List Int} (h : w.ownsRow B 3 1 v zs.length (intsC zs)) (hl : zs.length ≤ 1000000) :
    Calls Try.prog 53 #[v] w fun e w' => e = .returned (.tuple #[]) ∧ w'.ownsRow B 3 1 v zs.length (intsC (sortI zs)) ∧ w.grownBy w' v.ownBlock := by
  rcases Nat.eq_zero_or_pos zs.length with h0 | h0
  · obtain rfl : zs = [] := List.length_eq_zero_iff.1 h0
    obtain ⟨A, c, rfl⟩ : ∃ A c, v = .slice A 0 c := by
      rcases h.2 with ⟨e, _⟩ | ⟨g, cap, cur, e, _⟩
      · exact ⟨none, 0, e⟩
      · exact ⟨_, _, e⟩
    refine (sort_none w A c).mono ?_
    rintro e w' ⟨rfl, rfl⟩
    exact ⟨rfl, by rw [show sortI [] = [] by unfold sortI; simp]; exact h, ⟨rfl, rfl, rfl, Nat.le_refl _, fun _ _ _ => rfl⟩⟩
  · exact sort_row h h0 hl
end Go.Proofs.Ytkmffmlnondolaa

/- Layer 6 (count): the places of a list, in the order of its variables: slices.SortFunc by the closure of numbers. -/
namespace Go.Proofs.Ytkmffmlnondolaa
open Go.ChangeShapes Go.WideShapes Go.ChangeAt Go.RowKit Go.Maps

/-- A list's element; a place's value. -/
def atL (L : List Int) (i : Nat) : Int := L.getD i 0
def encF {n : Nat} (i : Fin n) : Value := .int .i64 (i.val : Int)

theorem rd_atL {w : World} {A : Option Addr} {L : List Int} (h : Rd w A (intsC L)) {i : Nat} (hi : i < L.length) : ∃ b off, A = some ⟨b, off, none⟩ ∧ ∀ j, j < L.length → w.cell? ⟨b, off + j, none⟩ = some (.int .i64 (atL L j)) := by
  rcases h with hn | ⟨b, off, rfl, _, hc⟩
  · have : L = [] := by simpa [intsC] using hn
    rw [this] at hi
    simp at hi
  · refine ⟨b, off, rfl, fun j hj => hc j _ ?_⟩
    unfold intsC atL
    rw [List.getElem?_map, List.getD_eq_getElem?_getD, List.getElem?_eq_getElem hj]
    rfl

set_option maxRecDepth 100000 in
set_option maxHeartbeats 2000000 in
theorem less_any {w : World} {A : Option Addr} {L : List Int} {c t : Nat} (hb : w.cell? ⟨t, 0, none⟩ = some (.slice A L.length c)) (hr : Rd w A (intsC L)) (hs : ∀ x ∈ L, 0 ≤ x ∧ x ≤ 1000) {x y : Nat} (hx : x < L.length) (hy : y < L.length) :
    Calls Try.prog 50 #[.int .i64 (x : Int), .int .i64 (y : Int), ptrV t] w fun e w' => e = .returned (.int .i64 (atL L x - atL L y)) ∧ ∃ q, w' = w.drewN q := by
  obtain ⟨b, off, rfl, hc⟩ := rd_atL hr hx
  have cx := hc x hx
  have cy := hc y hy
  have mem : ∀ j, j < L.length → 0 ≤ atL L j ∧ atL L j ≤ 1000 := fun j hj => by
    refine hs _ ?_
    unfold atL
    rw [List.getD_eq_getElem?_getD, List.getElem?_eq_getElem hj]
    exact List.getElem_mem hj
  obtain ⟨lx, ux⟩ := mem x hx
  obtain ⟨ly, uy⟩ := mem y hy
  have hx' : (x : Int) < L.length := by omega
  have hy' : (y : Int) < L.length := by omega
  generalize atL L x = X at *
  generalize atL L y = Y at *
  clear hc mem hr hs
  unfold ptrV
  go_enter Try.func50, Try.ntmps50
  go_wp2_with fail
  go_quiet (fail)
  go_wp2_with fail
  go_ret
  exact ⟨rfl, _, rfl⟩

theorem heap_sorted {α : Type} [Inhabited α] (enc : α → Value) {w : World} {g n : Nat} {os : Array Obj} {cur : Array Value} {e : TypeId} {fr : Nat × Nat} (d : Array α) (hb : w.heap[g]? = some (.cells cur e fr)) :
    (Go.Proofs.sortWorld enc w g 0 n d os).heap[g]? = some (.cells (Go.Sort.putCells enc 0 d cur) e fr) := by
  have hg : g < w.heap.size := row_lt hb
  unfold Go.Proofs.sortWorld
  rw [Go.Sort.heap_grow_old _ _ (by simpa using hg)]
  simp [Go.Sort.putRow, Go.Sort.mapBlock, Go.Sort.ahead, Array.getElem?_modify, hb, Go.Sort.onCells]

theorem grown_sorted {α : Type} [Inhabited α] (enc : α → Value) {w : World} {g n : Nat} {os : Array Obj} (d : Array α) : w.grownBy (Go.Proofs.sortWorld enc w g 0 n d os) (some g) := by
  unfold Go.Proofs.sortWorld
  refine ⟨rfl, rfl, rfl, by simp, fun k hk hne => ?_⟩
  rw [Go.Sort.heap_grow_old _ _ (by simpa using hk)]
  have : g ≠ k := fun e => hne (by rw [e])
  simp [Go.Sort.putRow, Go.Sort.mapBlock, Go.Sort.ahead, Array.getElem?_modify, this]

theorem take_sorted {α : Type} [Inhabited α] (enc : α → Value) (cur : Array Value) (ts : List α) (h : ts.length ≤ cur.size) : (Go.Sort.putCells enc 0 ts.toArray cur).toList.take ts.length = ts.map enc := by
  apply List.ext_getElem?
  intro j
  by_cases hj : j < ts.length
  · rw [List.getElem?_take_of_lt hj, Array.getElem?_toList]
    simp [Go.Sort.putCells, hj, show j < cur.size by omega]
  · rw [List.getElem?_take_eq_none (by omega), List.getElem?_eq_none (by simp; omega)]

/-- The places of a list in the order of its elements. -/
def byL (L : List Int) (i j : Fin L.length) : Int := atL L i.val - atL L j.val
def orderF (L : List Int) : List (Fin L.length) := (List.finRange L.length).mergeSort fun x y => !(Go.Proofs.ltOf (byL L)) y x
def orderL (L : List Int) : List Nat := (orderF L).map Fin.val

theorem lt_byL (L : List Int) (x y : Fin L.length) : Go.Proofs.ltOf (byL L) x y = decide (atL L x.val < atL L y.val) := by
  unfold Go.Proofs.ltOf byL
  by_cases h : atL L x.val < atL L y.val
  · rw [decide_eq_true h, decide_eq_true (by omega)]
  · rw [decide_eq_false h, decide_eq_false (by omega)]
theorem swo_byL (L : List Int) : Go.Sort.SWO (Go.Proofs.ltOf (byL L)) where
  irrefl x := by rw [lt_byL]; simp
  trans x y z h1 h2 := by rw [lt_byL] at *; simp at *; omega
  ntrans x y z h1 h2 := by rw [lt_byL] at *; simp at *; omega

theorem atL_inj {L : List Int} (hn : L.Nodup) {i j : Nat} (hi : i < L.length) (hj : j < L.length) (h : atL L i = atL L j) : i = j := by
  unfold atL at h
  rw [List.getD_eq_getElem?_getD, List.getD_eq_getElem?_getD, List.getElem?_eq_getElem hi, List.getElem?_eq_getElem hj] at h
  have h2 : L[i]? = L[j]? := by rw [List.getElem?_eq_getElem hi, List.getElem?_eq_getElem hj]; exact congrArg some h
  exact (List.getElem?_inj hi hn).1 h2

/-- slices.SortFunc of the places 0, 1, .. of a list, by the list's elements. -/
theorem sort_order {w : World} {B t : Nat} {v : Value} {A : Option Addr} {L : List Int} {c : Nat} (hv : w.ownsRow B 3 1 v L.length (nats (List.range L.length))) (hne : 0 < L.length) (hl : L.length ≤ 1000) (hn : L.Nodup) (hs : ∀ x ∈ L, 0 ≤ x ∧ x ≤ 1000)
    (hb : w.cell? ⟨t, 0, none⟩ = some (.slice A L.length c)) (hr : Rd w A (intsC L)) (hfar : ∀ g, v.ownBlock = some g → t ≠ g ∧ ∀ b off, A = some ⟨b, off, none⟩ → b ≠ g) :
    Calls Try.prog 49 #[v, .func (.func 50) #[] #[ptrV t]] w fun e w' => e = .returned (.tuple #[]) ∧ w'.ownsRow B 3 1 v L.length (nats (orderL L)) ∧ w.grownBy w' v.ownBlock := by
  rcases hv.2 with ⟨_, h0⟩ | ⟨g, cap, cur, rfl, hg, hrow, h1, h2, h3, h4⟩
  · omega
  · rw [Nat.mul_one] at h4
    obtain ⟨ft, fa⟩ := hfar g rfl
    haveI : Inhabited (Fin L.length) := ⟨⟨0, hne⟩⟩
    have hd : (List.finRange L.length).map (encF (n := L.length)) = nats (List.range L.length) := by
      refine List.ext_getElem (by simp [nats]) fun i hi _ => ?_
      simp [encF, nats]
    have hH : Go.Sort.Holds (encF (n := L.length)) w g 0 (List.finRange L.length).toArray := by
      intro j hj
      have hj' : j < L.length := by simpa using hj
      refine ⟨?_, by simp [World.frozen?, hrow]⟩
      have e1 : (cur.toList.take L.length)[j]? = ((List.finRange L.length).map (encF (n := L.length)))[j]? := by rw [h4, hd]
      rw [List.getElem?_take_of_lt hj'] at e1
      simp only [World.cell?, hrow, Nat.zero_add]
      simp only [Option.isSome_none, Bool.false_eq_true, if_false]
      rw [← Array.getElem?_toList, e1]
      simp [hj']
    have hcmp : Go.Proofs.CmpReads Try.prog 50 #[ptrV t] (encF (n := L.length)) (byL L) g 0 (List.finRange L.length).toArray.size w := by
      intro m os dk _ x y
      have gr := grown_sorted (encF (n := L.length)) (w := w) (g := g) (n := m) (os := os) dk
      have hb' : (Go.Proofs.sortWorld (encF (n := L.length)) w g 0 m dk os).cell? ⟨t, 0, none⟩ = some (.slice A L.length c) :=
        (World.cell?_of_block (gr.block t (World.block_lt_of_cell? w _ hb) (fun e => ft (by injection e)))).trans hb
      have hr' : Rd (Go.Proofs.sortWorld (encF (n := L.length)) w g 0 m dk os) A (intsC L) := by
        rcases hr with hr | ⟨b, off, rfl, hlt, hc⟩
        · exact .inl hr
        · exact .inr ⟨b, off, rfl, Nat.lt_of_lt_of_le hlt gr.size, fun j u hu => (World.cell?_of_block (gr.block b hlt (fun e => fa b off rfl (by injection e)))).trans (hc j u hu)⟩
      exact less_any hb' hr' hs x.isLt y.isLt
    have hS := Any.slices_SortFunc_total Try.laysSlF6_f49 (encF (n := L.length)) (fun _ => rfl) (byL L) (swo_byL L) 50 #[ptrV t] g 0 cap (List.finRange L.length).toArray w (enters_of Try.func50 (by kernel_rfl) rfl) hcmp.lays hH (row_lt hrow) (by simp; omega) (fun x y a b => by
      rw [lt_byL] at a b
      simp at a b
      exact Fin.ext (atL_inj hn x.isLt y.isLt (by omega)))
    rw [show (List.finRange L.length).toArray.size = L.length by simp] at hS
    change Calls Try.prog 49 _ _ _ at hS
    refine hS.mono ?_
    rintro e w' ⟨rfl, n, os, rfl⟩
    refine ⟨rfl, ⟨by simp [nats, orderL, orderF], .inr ⟨g, cap, _, rfl, hg, heap_sorted _ _ hrow, h1, h2, by simp [Go.Sort.putCells, h3], ?_⟩⟩, grown_sorted _ _⟩
    rw [Nat.mul_one]
    have hlen : ((List.finRange L.length).mergeSort fun x y => !(Go.Proofs.ltOf (byL L)) y x).length = L.length := by rw [List.length_mergeSort]; simp
    have := take_sorted (encF (n := L.length)) cur ((List.finRange L.length).mergeSort fun x y => !(Go.Proofs.ltOf (byL L)) y x) (by rw [hlen]; omega)
    rw [hlen] at this

    rw [this]
    simp [nats, orderL, orderF, encF, Function.comp_def]
end Go.Proofs.Ytkmffmlnondolaa

/- Layer 6 (count): the numbers for which a node says true, in the order of its variables. Plain: no walk. -/
namespace Go.Proofs.Ytkmffmlnondolaa

/-- The number of n values. -/
def numOf (n : Nat) (y : Nat → Bool) : Nat := B6.getN ((List.range n).map y)
/-- For the values of the places of a list, one place after another, false ahead of true. -/
def numsS (n : Nat) (F : (Nat → Bool) → Bool) : List Nat → (Nat → Bool) → List Nat
  | [], y => if F y then [numOf n y] else []
  | b :: r, y => numsS n F r (upd y b false) ++ numsS n F r (upd y b true)

theorem numsS_len (n : Nat) (F : (Nat → Bool) → Bool) : ∀ o y, (numsS n F o y).length = cntN F o y
  | [], y => by unfold numsS cntN; split <;> rfl
  | b :: r, y => by unfold numsS cntN; rw [List.length_append, numsS_len n F r, numsS_len n F r]

def AgreeOut (o : List Nat) (y y' : Nat → Bool) : Prop := ∀ i, i ∉ o → y' i = y i
theorem AgreeOut.refl (o : List Nat) (y : Nat → Bool) : AgreeOut o y y := fun _ _ => rfl
theorem AgreeOut.upd {b : Nat} {r : List Nat} {y y' : Nat → Bool} {x : Bool} (h : AgreeOut r (upd y b x) y') : AgreeOut (b :: r) y y' := fun i hi => by
  have h1 := h i (fun e => hi (List.mem_cons_of_mem _ e))
  rw [h1]
  unfold _root_.Go.Proofs.Ytkmffmlnondolaa.upd
  rw [if_neg (fun e => hi (by rw [e]; simp))]
theorem AgreeOut.at_ {b : Nat} {r : List Nat} {y y' : Nat → Bool} {x : Bool} (h : AgreeOut r (_root_.Go.Proofs.Ytkmffmlnondolaa.upd y b x) y') (hb : b ∉ r) : y' b = x := by
  rw [h b hb]
  unfold _root_.Go.Proofs.Ytkmffmlnondolaa.upd
  rw [if_pos rfl]

theorem numsS_none (n : Nat) (F : (Nat → Bool) → Bool) : ∀ o y, (∀ y', AgreeOut o y y' → F y' = false) → numsS n F o y = []
  | [], y, h => by unfold numsS; rw [h y (.refl _ _)]; rfl
  | b :: r, y, h => by
    unfold numsS
    rw [numsS_none n F r _ (fun y' h' => h y' h'.upd), numsS_none n F r _ (fun y' h' => h y' h'.upd)]
    rfl
theorem numsS_congr (n : Nat) (F : (Nat → Bool) → Bool) : ∀ o y y', AgreeOut o y y' → numsS n F o y = numsS n F o y'
  | [], y, y', h => by
    have e : y' = y := funext fun i => h i (by simp)
    rw [e]
  | b :: r, y, y', h => by
    have hs : ∀ x, AgreeOut r (upd y b x) (upd y' b x) := fun x i hi => by
      unfold _root_.Go.Proofs.Ytkmffmlnondolaa.upd
      by_cases e : i = b
      · rw [if_pos e, if_pos e]
      · rw [if_neg e, if_neg e]; exact h i (by simp [e, hi])
    unfold numsS
    rw [numsS_congr n F r _ _ (hs false), numsS_congr n F r _ _ (hs true)]

/-- A node says the rest of what a function says, once the places that are not in the list have their values. -/
structure Rest (V : Nat) (cs : List Nd) (pl vr : Nat → Nat) (F : (Nat → Bool) → Bool) (k : Nat) (o : List Nat) (y : Nat → Bool) : Prop where
  same : ∀ y', AgreeOut o y y' → F y' = Says V cs (fun v => y' (pl v)) k
  has : Has cs k (o.map vr)
  sort : o.Pairwise fun a b => vr a < vr b
  back : ∀ b ∈ o, pl (vr b) = b ∧ vr b < V

section
variable {V : Nat} {cs : List Nd} {pl vr : Nat → Nat} {F : (Nat → Bool) → Bool} {k : Nat} {b : Nat} {r : List Nat} {y : Nat → Bool} {c : Nd}
theorem Rest.head (h : Rest V cs pl vr F k (b :: r) y) : b ∉ r ∧ (∀ a ∈ r, vr b < vr a) ∧ r.Pairwise fun a b => vr a < vr b := by
  have := List.pairwise_cons.1 h.sort
  exact ⟨fun hb => Nat.lt_irrefl _ (this.1 b hb), this.1, this.2⟩

/-- The node asks the first place's variable. -/
theorem Rest.step (g : NGood V cs) (h : Rest V cs pl vr F k (b :: r) y) (h2 : 2 ≤ k) (hc : Is cs k c) (ha : c.asks = vr b) (x : Bool) : Rest V cs pl vr F (if x then c.high else c.low) r (upd y b x) := by
  obtain ⟨hb, hr, hp⟩ := h.head
  have e1 : c.asks.toNat = vr b := by omega
  refine ⟨fun y' hy => ?_, ?_, hp, fun a ha => h.back a (List.mem_cons_of_mem _ ha)⟩
  · rw [h.same y' hy.upd, Says_step g _ h2 hc, e1, (h.back b (by simp)).1, hy.at_ hb]
  · intro j d p hj hd
    obtain ⟨a, ia, la⟩ := g.lo k c h2 hc
    obtain ⟨z, iz, lz⟩ := g.hi k c h2 hc
    have hin : d.asks.toNat ∈ (b :: r).map vr := by
      cases x with
      | false => exact h.has j d (.low h2 hc p) hj hd
      | true => exact h.has j d (.high h2 hc p) hj hd
    have hgt : c.asks < d.asks := by
      cases x with
      | false => obtain ⟨d', hd', hle⟩ := p.is g ia; obtain rfl := hd.same hd'; omega
      | true => obtain ⟨d', hd', hle⟩ := p.is g iz; obtain rfl := hd.same hd'; omega
    rw [List.map_cons, List.mem_cons] at hin
    rcases hin with h1 | h1
    · omega
    · exact h1

/-- It does not. -/
theorem Rest.stay (g : NGood V cs) (h : Rest V cs pl vr F k (b :: r) y) (hc : Is cs k c) (ha : c.asks ≠ vr b) (x : Bool) : Rest V cs pl vr F k r (upd y b x) := by
  obtain ⟨hb, hr, hp⟩ := h.head
  refine ⟨fun y' hy => h.same y' hy.upd, ?_, hp, fun a ha => h.back a (List.mem_cons_of_mem _ ha)⟩
  intro j d p hj hd
  have hin := h.has j d p hj hd
  rw [List.map_cons, List.mem_cons] at hin
  rcases hin with h1 | h1
  · exfalso
    have h2 : 2 ≤ k := by
      rcases Nat.lt_or_ge k 2 with h3 | h3
      · cases p with
        | self => omega
        | low h4 => omega
        | high h4 => omega
      · exact h3
    have h3 := h.has k c (.self k) h2 hc
    have ho := g.ok k c h2 hc
    rw [List.map_cons, List.mem_cons] at h3
    obtain ⟨d', hd', hle⟩ := p.is g hc
    obtain rfl := hd.same hd'
    have hod := g.ok j d hj hd
    rcases h3 with h3 | h3
    · omega
    · obtain ⟨a, ha2, e⟩ := List.mem_map.1 h3
      have := hr a ha2
      omega
  · exact h1

theorem Rest.zero (h : Rest V cs pl vr F 0 r y) (n : Nat) : numsS n F r y = [] := numsS_none n F r y fun y' hy => by rw [h.same y' hy, Says_zero]
theorem Rest.done (h : Rest V cs pl vr F k [] y) (hc : Is cs k c) (h0 : k ≠ 0) (n : Nat) : numsS n F [] y = [numOf n y] := by
  have h1 : k = 1 := by
    rcases (by omega : k = 1 ∨ 2 ≤ k) with h | h2
    · exact h
    · have := h.has k c (.self k) h2 hc
      simp at this
  unfold numsS
  rw [h.same y (.refl _ _), h1, Says_one]
  rfl
end
end Go.Proofs.Ytkmffmlnondolaa
