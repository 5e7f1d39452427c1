/- Words for memory: a slice that reads as a list of cells, each of one cell; plain facts on bits of a number. -/
import Derived.Test.YtffhbjhpeiaebaaCounts
import Derived.Below
import Derived.Deep.Grids
namespace Go.Proofs.Ytffhbjhpeiaebaa
open Go.ChangeShapes Go.WideShapes Go.ChangeAt Go.RowKit

/-- The slice value '.slice A n c' reads as the cells xs: it is empty, or its cells lie in one block that is there. -/
def Rd (w : World) (A : Option Addr) (xs : List Value) : Prop :=
  xs = [] ∨ ∃ b off, A = some ⟨b, off, none⟩ ∧ b < w.heap.size ∧ ∀ j u, xs[j]? = some u → w.cell? ⟨b, off + j, none⟩ = some u

theorem Rd.keep {w w' : World} {A : Option Addr} {xs : List Value} (h : Rd w A xs) (hb : Below w.heap.size w w') : Rd w' A xs := by
  rcases h with h | ⟨b, off, hA, hlt, hc⟩
  · exact .inl h
  · exact .inr ⟨b, off, hA, Nat.lt_of_lt_of_le hlt hb.size, fun j u hu => (hb.cell (p := ⟨b, off + j, none⟩) hlt).trans (hc j u hu)⟩

theorem lt_of_cell {w : World} {b off : Nat} {u : Value} (h : w.cell? ⟨b, off, none⟩ = some u) : b < w.heap.size := by
  rcases Nat.lt_or_ge b w.heap.size with h1 | h1
  · exact h1
  · have : w.heap[b]? = none := Array.getElem?_eq_none h1
    simp [World.cell?, this] at h

/-- A slice of bools that came in reads as a list of bools. -/
theorem rd_bools {H : Type} {enc : TypeId × Value → H} {P : Program} {w : World} {t e : TypeId} {A : Option Addr} {n c : Nat} {d : DataW H} {ps : List MemPlace}
    (ht : P.underlying t = some (.slice e)) (he : P.underlying e = some .bool) (hc : P.cellsOf e = 1) (h : DataW.Trod enc P w 0 (fun _ => true) true t (.slice A n c) d ps) :
    ∃ l : List Bool, l.length = n ∧ n ≤ 9223372036854775807 ∧ Rd w A (l.map Value.bool) := by
  obtain ⟨fuel, hf⟩ := h
  rcases Deep.open_bools ht he hc hf with ⟨hcs, _⟩ | ⟨a, l, c', B, hcs, _, hl, hm, _, hcell⟩
  · simp [Value.cells] at hcs
    obtain ⟨rfl, rfl, rfl⟩ := hcs
    exact ⟨[], rfl, by omega, .inl rfl⟩
  · simp [Value.cells] at hcs
    obtain ⟨rfl, rfl, rfl⟩ := hcs
    unfold maxLen at hm
    refine ⟨(List.range n).map B, by simp, by omega, ?_⟩
    by_cases h0 : n = 0
    · subst h0; exact .inl rfl
    · obtain ⟨b, off, sp⟩ := a
      have h1 := hcell 0 (by omega)
      have hsp : sp = none := by simpa [Addr.add] using World.cell?_spot h1
      subst hsp
      have h2 : ∀ i, i < c → w.cell? ⟨b, off + i, none⟩ = some (.bool (B i)) := by
        intro i hi
        have h3 := hcell i hi
        by_cases hz : i = 0
        · subst hz; simpa [Addr.add] using h3
        · simpa [Addr.add, hz] using h3
      refine .inr ⟨b, off, rfl, lt_of_cell (h2 0 (by omega)), fun j u hu => ?_⟩
      rw [List.getElem?_map, List.getElem?_map] at hu
      have hj : j < n := by
        rcases Nat.lt_or_ge j n with h | h
        · exact h
        · rw [List.getElem?_eq_none (by simpa using h)] at hu; simp at hu
      rw [List.getElem?_range hj] at hu
      rw [h2 j (by omega)]
      simpa using hu

/-! ### The number of bits -/
def getN : List Bool → Nat
  | [] => 0
  | b :: r => (if b then 1 else 0) + 2 * getN r

theorem getN_lt (l : List Bool) : getN l < 2 ^ l.length := by
  induction l with
  | nil => simp [getN]
  | cons b r ih => simp only [getN, List.length_cons, Nat.pow_succ]; split <;> omega

theorem getN_snoc (l : List Bool) (b : Bool) : getN (l ++ [b]) = getN l + if b then 2 ^ l.length else 0 := by
  induction l with
  | nil => simp [getN]
  | cons c r ih =>
    simp only [List.cons_append, getN, ih, List.length_cons, Nat.pow_succ]
    split <;> split <;> omega

theorem take_snoc {α : Type} (l : List α) (k : Nat) (h : k < l.length) : l.take (k + 1) = l.take k ++ [l[k]] := by
  rw [List.take_succ_eq_append_getElem h]

theorem getN_step (l : List Bool) (k : Nat) (h : k < l.length) : getN (l.take (k + 1)) = getN (l.take k) + if l[k] then 2 ^ k else 0 := by
  rw [take_snoc l k h, getN_snoc, List.length_take, Nat.min_eq_left (by omega)]

theorem getN_take_lt (l : List Bool) (k : Nat) (h : k ≤ l.length) : getN (l.take k) < 2 ^ k := by
  have := getN_lt (l.take k)
  rw [List.length_take, Nat.min_eq_left h] at this
  exact this

/-- The bits of a number: its w lowest ones. -/
def putN (n : Nat) : Nat → List Bool
  | 0 => []
  | w + 1 => (n % 2 == 1) :: putN (n / 2) w

theorem putN_length (n w : Nat) : (putN n w).length = w := by
  induction w generalizing n with
  | zero => rfl
  | succ w ih => simp [putN, ih]

theorem putN_get (w : Nat) : ∀ (n k : Nat) (h : k < (putN n w).length), (putN n w)[k] = (n / 2 ^ k % 2 == 1) := by
  induction w with
  | zero => intro n k h; simp [putN] at h
  | succ w ih =>
    intro n k h
    match k with
    | 0 => simp [putN]
    | k + 1 =>
      simp only [putN, List.getElem_cons_succ]
      rw [ih, Nat.div_div_eq_div_mul, Nat.pow_succ, Nat.mul_comm]

theorem getN_putN (w : Nat) : ∀ n, n < 2 ^ w → getN (putN n w) = n := by
  induction w with
  | zero => intro n h; simp at h; subst h; rfl
  | succ w ih =>
    intro n h
    rw [Nat.pow_succ] at h
    simp only [putN, getN, ih (n / 2) (by omega)]
    split <;> simp_all <;> omega

theorem putN_getN : ∀ l : List Bool, putN (getN l) l.length = l := by
  intro l
  induction l with
  | nil => rfl
  | cons b r ih =>
    simp only [List.length_cons, putN, getN]
    have h1 : ((if b = true then 1 else 0) + 2 * getN r) / 2 = getN r := by split <;> omega
    have h2 : (((if b = true then 1 else 0) + 2 * getN r) % 2 == 1) = b := by cases b <;> simp <;> omega
    rw [h1, h2, ih]

/-! ### What the walk writes -/
theorem wraps_i64 (n : Int) (h0 : 0 ≤ n) (h1 : n < 2 ^ 63) : IntKind.i64.wrap n = n := by rw [IntKind.wrap_i64]; omega

theorem pow_cast (k : Nat) : ((2 ^ k : Nat) : Int) = (2 : Int) ^ k := by rw [Int.natCast_pow]; rfl

theorem pow_le61 (k : Nat) (h : k < 62) : (2 : Nat) ^ k ≤ 2305843009213693952 := by
  have h1 : (2 : Nat) ^ k ≤ 2 ^ 61 := Nat.pow_le_pow_right (by omega) (by omega)
  exact h1

theorem wrap_pow (k : Nat) (h : k < 62) : wrap64 ((2 : Int) ^ k) = ((2 ^ k : Nat) : Int) := by
  have h1 := pow_le61 k h
  rw [← pow_cast]
  generalize 2 ^ k = p at h1
  exact IntWalk.wrap64_in _ ⟨by omega, by omega⟩

theorem or_step (a k : Nat) (h : a < 2 ^ k) (hk : k < 62) : bits BinOp.or IntKind.i64 (a : Int) (wrap64 ((2 : Int) ^ k)) = ((a + 2 ^ k : Nat) : Int) := by
  have h1 := pow_le61 k hk
  rw [wrap_pow k hk, (bits_nat .i64 63 (by decide) wraps_i64 a (2 ^ k) (by omega) (by omega)).2]
  have h2 := Nat.two_pow_add_eq_or_of_lt h 1
  rw [Nat.or_comm, Nat.add_comm]
  rw [Nat.mul_one] at h2
  rw [h2]

theorem add_step (a k : Nat) (h : a < 2 ^ k) (hk : k < 62) : wrap64 ((a : Int) + wrap64 ((2 : Int) ^ k)) = ((a + 2 ^ k : Nat) : Int) := by
  have h1 := pow_le61 k hk
  rw [wrap_pow k hk]
  generalize 2 ^ k = p at h h1
  rw [IntWalk.wrap64_in _ ⟨by omega, by omega⟩]; omega

theorem bit_at (n j : Nat) (h : n < 9223372036854775808) : (bits BinOp.and IntKind.i64 ((n : Int) / 2 ^ j) 1 == 1) = (n / 2 ^ j % 2 == 1) := by
  have e : (n : Int) / 2 ^ j = ((n / 2 ^ j : Nat) : Int) := by rw [Int.natCast_ediv, pow_cast]
  have h1 : n / 2 ^ j ≤ n := Nat.div_le_self _ _
  rw [e]
  generalize n / 2 ^ j = m at h1
  have h2 := bits_mask .i64 63 (by decide) wraps_i64 1 (by decide) (m : Int) (by omega) (by omega)
  have h3 : bits BinOp.and IntKind.i64 (m : Int) 1 = (m : Int) % 2 := h2
  rw [h3, Bool.eq_iff_iff]
  simp only [beq_iff_eq]
  omega

theorem pow_le62 (k : Nat) (h : k ≤ 62) : (2 : Nat) ^ k ≤ 4611686018427387904 := by
  have h1 : (2 : Nat) ^ k ≤ 2 ^ 62 := Nat.pow_le_pow_right (by omega) h
  exact h1

theorem wrap_pow_le (k : Nat) (h : k ≤ 62) : wrap64 ((2 : Int) ^ k) = ((2 ^ k : Nat) : Int) := by
  have h1 := pow_le62 k h
  rw [← pow_cast]
  generalize 2 ^ k = p at h1
  exact IntWalk.wrap64_in _ ⟨by omega, by omega⟩

theorem int_eq {a b : Int} (h : a = b) : Value.int .i64 a = Value.int .i64 b := by rw [h]

end Go.Proofs.Ytffhbjhpeiaebaa
