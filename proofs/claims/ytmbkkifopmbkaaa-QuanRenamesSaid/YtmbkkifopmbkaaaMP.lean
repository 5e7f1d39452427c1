/- Merged: QRenB. -/
import Derived.Test.YtmbkkifopmbkaaaMO

/- Layer 5's laws: renamed answers, as a number. -/
namespace Go.Proofs.Ytmbkkifopmbkaaa
open Go.ChangeShapes Go.WideShapes Go.ChangeAt Go.RowKit Go.Maps

/-- Which variables take which places, out of two numbers of bits. -/
def frN (g : Nat → Bool) (i : Nat) : List Nat := (List.range i).filter g
def byN (g : Nat → Bool) (t : Nat → Nat) (i : Nat) : List Nat := (frN g i).map t

/-- A value's number, as variables take others' places; the first of a list are done. -/
def mN (n : Nat) : List (Nat × Nat) → Nat → Nat
  | [], m => m
  | (f, b) :: r, m => mN n r (if n.testBit b then andN m (2 ^ f) ||| 2 ^ f else andN m (2 ^ f))

theorem frN_succ (g : Nat → Bool) (i : Nat) : frN g (i + 1) = frN g i ++ if g i then [i] else [] := by
  unfold frN
  rw [List.range_succ, List.filter_append]
  simp only [List.filter_cons, List.filter_nil]
theorem frN_len (g : Nat → Bool) (i : Nat) : (frN g i).length ≤ i := by
  unfold frN
  exact Nat.le_trans (List.length_filter_le _ _) (by simp)
theorem frN_lt {g : Nat → Bool} {i x : Nat} (h : x ∈ frN g i) : x < i := by
  unfold frN at h
  exact List.mem_range.1 (List.mem_filter.1 h).1
theorem frN_nodup (g : Nat → Bool) (i : Nat) : (frN g i).Nodup := List.nodup_range.filter _
theorem byN_len (g : Nat → Bool) (t : Nat → Nat) (i : Nat) : (byN g t i).length ≤ i := by unfold byN; rw [List.length_map]; exact frN_len g i
theorem byN_succ (g : Nat → Bool) (t : Nat → Nat) (i : Nat) : byN g t (i + 1) = byN g t i ++ if g i then [t i] else [] := by
  unfold byN
  rw [frN_succ, List.map_append]
  cases g i <;> rfl

/-- What stands where, behind the first of the list. -/
theorem ren_map (t : Nat → Nat) : ∀ (l : List Nat) (v : Nat), ren l (l.map t) v = if v ∈ l then t v else v
  | [], v => by unfold ren; simp
  | f :: r, v => by
    show ren (f :: r) (t f :: r.map t) v = _
    unfold ren
    by_cases h : v = f
    · subst h; simp
    · rw [if_neg h, ren_map t r v]
      simp [h]

theorem andN_bit' {m f j : Nat} (hj : j < 4) : (andN m (2 ^ f)).testBit j = (m.testBit j && !decide (f = j)) := by
  rw [andN_bit (by omega), Nat.testBit_two_pow]

theorem mN_step {n m f b : Nat} {j : Nat} (hj : j < 4) : (if n.testBit b then andN m (2 ^ f) ||| 2 ^ f else andN m (2 ^ f)).testBit j = if j = f then n.testBit b else m.testBit j := by
  by_cases e : j = f
  · subst e
    rw [if_pos rfl]
    cases n.testBit b with
    | true => rw [if_pos rfl, Nat.testBit_or, Nat.testBit_two_pow_self, Bool.or_true]
    | false => rw [if_neg (by simp), andN_bit' hj]; simp
  · rw [if_neg e]
    have e' : ¬ f = j := fun h => e h.symm
    cases n.testBit b with
    | true => rw [if_pos rfl, Nat.testBit_or, andN_bit' hj, Nat.testBit_two_pow]; simp [e']
    | false => rw [if_neg (by simp), andN_bit' hj]; simp [e']

theorem andN_le {n c : Nat} : andN n c ≤ n := by
  unfold andN
  rw [BitVec.toNat_and]
  refine Nat.le_trans Nat.and_le_left ?_
  rw [BitVec.toNat_ofNat]
  exact Nat.mod_le _ _
theorem mN_step_lt {n m f b : Nat} (hm : m < 16) (hf : f < 4) : (if n.testBit b then andN m (2 ^ f) ||| 2 ^ f else andN m (2 ^ f)) < 16 := by
  have h1 : andN m (2 ^ f) < 16 := Nat.lt_of_le_of_lt andN_le hm
  have h2 : 2 ^ f < 16 := Nat.pow_lt_pow_right (by omega) (n := 4) hf
  split
  · exact Nat.or_lt_two_pow (n := 4) h1 h2
  · exact h1

theorem mN_lt {n : Nat} : ∀ (r : List (Nat × Nat)) (m : Nat), m < 16 → (∀ p ∈ r, p.1 < 4) → mN n r m < 16
  | [], m, hm, _ => hm
  | (f, b) :: r, m, hm, h => by
    unfold mN
    exact mN_lt r _ (mN_step_lt hm (h (f, b) (by simp))) fun p hp => h p (by simp [hp])

theorem mN_bit {n : Nat} : ∀ (l : List Nat) (t : Nat → Nat) (m : Nat), l.Nodup → m < 16 → (∀ f ∈ l, f < 4) → ∀ j, j < 4 → (mN n (l.map fun f => (f, t f)) m).testBit j = if j ∈ l then n.testBit (t j) else m.testBit j
  | [], t, m, _, _, _, j, _ => by simp [mN]
  | f :: r, t, m, hd, hm, hl, j, hj => by
    show (mN n (r.map fun f => (f, t f)) _).testBit j = _
    rw [mN_bit r t _ (List.nodup_cons.1 hd).2 (mN_step_lt hm (hl f (by simp))) (fun f' hf => hl f' (by simp [hf])) j hj]
    rw [mN_step hj]
    by_cases h1 : j ∈ r
    · simp [h1]
    · rw [if_neg h1]
      by_cases e : j = f
      · subst e; simp
      · simp [e, h1]

/-- Sixteen answers, renamed. -/
def renN (x : Nat) (g : Nat → Bool) (t : Nat → Nat) : Nat := natOf (fun n => x.testBit (mN n ((frN g 4).map fun f => (f, t f)) n)) 16
theorem renN_lt (x : Nat) (g : Nat → Bool) (t : Nat → Nat) : renN x g t < 65536 := natOf_lt _ 16

def gB4 (a b c d : Bool) (i : Nat) : Bool := match i with | 0 => a | 1 => b | 2 => c | _ => d
theorem tix_bit (val : Nat → Bool) {j : Nat} (hj : j < 4) : (tix val 4 0 0).testBit j = val j := by
  rw [tix_t4]
  have h : ∀ a b c d, ∀ j, j < 4 → (t4 a b c d).testBit j = gB4 a b c d j := by decide
  rw [h _ _ _ _ j hj]
  rcases (by omega : j = 0 ∨ j = 1 ∨ j = 2 ∨ j = 3) with rfl | rfl | rfl | rfl <;> rfl

theorem mN_append {n : Nat} {f b : Nat} : ∀ (l : List (Nat × Nat)) (m : Nat), mN n (l ++ [(f, b)]) m = if n.testBit b then andN (mN n l m) (2 ^ f) ||| 2 ^ f else andN (mN n l m) (2 ^ f)
  | [], m => rfl
  | (f', b') :: r, m => by
    show mN n (r ++ [(f, b)]) _ = _
    rw [mN_append r]
    rfl

theorem eq16 {a b : Nat} (ha : a < 16) (hb : b < 16) (h : ∀ j, j < 4 → a.testBit j = b.testBit j) : a = b := by
  apply Nat.eq_of_testBit_eq
  intro j
  rcases Nat.lt_or_ge j 4 with hj | hj
  · exact h j hj
  · have h2 : 2 ^ 4 ≤ 2 ^ j := Nat.pow_le_pow_right (by omega) hj
    rw [Nat.testBit_lt_two_pow (by omega), Nat.testBit_lt_two_pow (by omega)]

theorem ren_says {x : Nat} {g : Nat → Bool} {t : Nat → Nat} (ht : ∀ j, t j < 4) (val : Nat → Bool) : bitZ (renN x g t : Nat) (tix val 4 0 0) = bitZ (x : Nat) (tix (fun i => val (ren (frN g 4) (byN g t 4) i)) 4 0 0) := by
  rw [bitZ_nat, bitZ_nat]
  unfold renN
  rw [natOf_bit, decide_eq_true (tix16 val), Bool.true_and]
  congr 1
  have hl : ∀ f ∈ frN g 4, f < 4 := fun f hf => frN_lt hf
  refine eq16 (mN_lt _ _ (tix16 val) ?_) (tix16 _) fun j hj => ?_
  · intro p hp
    rw [List.mem_map] at hp
    obtain ⟨f, hf, rfl⟩ := hp
    exact hl f hf
  · rw [mN_bit (frN g 4) t _ (frN_nodup g 4) (tix16 val) hl j hj, tix_bit (fun i => val (ren (frN g 4) (byN g t 4) i)) hj]
    unfold byN
    rw [ren_map]
    by_cases h : j ∈ frN g 4
    · rw [if_pos h, if_pos h, tix_bit val (ht j)]
    · rw [if_neg h, if_neg h, tix_bit val hj]
end Go.Proofs.Ytmbkkifopmbkaaa
