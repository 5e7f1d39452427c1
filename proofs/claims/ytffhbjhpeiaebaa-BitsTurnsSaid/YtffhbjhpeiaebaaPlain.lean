/- Plain facts on counts: the sum and the product of two counts, none above the greatest one. -/
namespace Go.Proofs.Ytffhbjhpeiaebaa

def cap : Int := 4611686018427387903
def cnt (n : Int) : Int := if n < 0 then 0 else if cap < n then cap else n
def sadd (a b : Int) : Int := cnt (cnt a + cnt b)
def smul (a b : Int) : Int := cnt (cnt a * cnt b)
def spow (n : Int) : Int := if n < 0 then 1 else if 62 ≤ n then cap else 2 ^ n.toNat

theorem cnt_lo (n : Int) : 0 ≤ cnt n := by unfold cnt cap; split <;> (try split) <;> omega
theorem cnt_hi (n : Int) : cnt n ≤ 4611686018427387903 := by unfold cnt cap; split <;> (try split) <;> omega
theorem cnt_of {n : Int} (h : 0 ≤ n) (h2 : n ≤ 4611686018427387903) : cnt n = n := by
  unfold cnt cap; rw [if_neg (by omega), if_neg (by omega)]
theorem cnt_big {n : Int} (h : 4611686018427387903 ≤ n) : cnt n = 4611686018427387903 := by
  unfold cnt cap; rw [if_neg (by omega)]; split <;> omega
theorem cnt_neg {n : Int} (h : n ≤ 0) : cnt n = 0 := by
  unfold cnt cap; split
  · rfl
  · rw [if_neg (by omega)]; omega
theorem cnt_cnt (n : Int) : cnt (cnt n) = cnt n := cnt_of (cnt_lo n) (cnt_hi n)

theorem sadd_comm (a b : Int) : sadd a b = sadd b a := by unfold sadd; rw [Int.add_comm]
theorem smul_comm (a b : Int) : smul a b = smul b a := by unfold smul; rw [Int.mul_comm]
theorem cnt_sadd (a b : Int) : cnt (sadd a b) = sadd a b := cnt_cnt _
theorem cnt_smul (a b : Int) : cnt (smul a b) = smul a b := cnt_cnt _

/-- A count of a count plus something that is not below 0. -/
theorem cnt_add (x y : Int) (hx : 0 ≤ x) (hy : 0 ≤ y) : cnt (cnt x + y) = cnt (x + y) := by
  by_cases h : x ≤ 4611686018427387903
  · rw [cnt_of hx h]
  · rw [cnt_big (n := x) (by omega), cnt_big (by omega), cnt_big (by omega)]
theorem cnt_mul (x y : Int) (hx : 0 ≤ x) (hy : 0 ≤ y) : cnt (cnt x * y) = cnt (x * y) := by
  by_cases h : x ≤ 4611686018427387903
  · rw [cnt_of hx h]
  · rw [cnt_big (n := x) (by omega)]
    by_cases h0 : y = 0
    · subst h0; simp
    · have h1 : 1 ≤ y := by omega
      have h2 : (4611686018427387903 : Int) * 1 ≤ 4611686018427387903 * y := Int.mul_le_mul_of_nonneg_left h1 (by omega)
      have h3 : (4611686018427387903 : Int) * y ≤ x * y := Int.mul_le_mul_of_nonneg_right (by omega) hy
      rw [cnt_big (by omega), cnt_big (by omega)]

theorem sadd_assoc (a b c : Int) : sadd (sadd a b) c = sadd a (sadd b c) := by
  have h1 : sadd (sadd a b) c = cnt (cnt a + cnt b + cnt c) := by
    show cnt (cnt (cnt (cnt a + cnt b)) + cnt c) = _
    rw [cnt_cnt, cnt_add _ _ (by have := cnt_lo a; have := cnt_lo b; omega) (cnt_lo c)]
  have h2 : sadd a (sadd b c) = cnt (cnt a + cnt b + cnt c) := by
    show cnt (cnt a + cnt (cnt (cnt b + cnt c))) = _
    rw [cnt_cnt, Int.add_comm, cnt_add _ _ (by have := cnt_lo b; have := cnt_lo c; omega) (cnt_lo a)]
    congr 1; omega
  rw [h1, h2]
theorem smul_assoc (a b c : Int) : smul (smul a b) c = smul a (smul b c) := by
  have h1 : smul (smul a b) c = cnt (cnt a * cnt b * cnt c) := by
    show cnt (cnt (cnt (cnt a * cnt b)) * cnt c) = _
    rw [cnt_cnt, cnt_mul _ _ (Int.mul_nonneg (cnt_lo a) (cnt_lo b)) (cnt_lo c)]
  have h2 : smul a (smul b c) = cnt (cnt a * cnt b * cnt c) := by
    show cnt (cnt a * cnt (cnt (cnt b * cnt c))) = _
    rw [cnt_cnt, Int.mul_comm, cnt_mul _ _ (Int.mul_nonneg (cnt_lo b) (cnt_lo c)) (cnt_lo a), Int.mul_comm, Int.mul_assoc]
  rw [h1, h2]
theorem sdist (a b c : Int) : smul (sadd a b) c = sadd (smul a c) (smul b c) := by
  have h1 : smul (sadd a b) c = cnt (cnt a * cnt c + cnt b * cnt c) := by
    show cnt (cnt (cnt (cnt a + cnt b)) * cnt c) = _
    rw [cnt_cnt, cnt_mul _ _ (by have := cnt_lo a; have := cnt_lo b; omega) (cnt_lo c), Int.add_mul]
  have h2 : sadd (smul a c) (smul b c) = cnt (cnt a * cnt c + cnt b * cnt c) := by
    show cnt (cnt (cnt (cnt a * cnt c)) + cnt (cnt (cnt b * cnt c))) = _
    rw [cnt_cnt, cnt_cnt, cnt_add _ _ (Int.mul_nonneg (cnt_lo a) (cnt_lo c)) (cnt_lo _), Int.add_comm, cnt_add _ _ (Int.mul_nonneg (cnt_lo b) (cnt_lo c)) (Int.mul_nonneg (cnt_lo a) (cnt_lo c)), Int.add_comm]
  rw [h1, h2]
theorem sunit (a : Int) : sadd a 0 = smul a 1 := by
  unfold sadd smul; rw [cnt_of (n := 0) (by omega) (by omega), cnt_of (n := 1) (by omega) (by omega)]; simp

/-- The product as the program reckons it: the greatest count where a division says so. -/
theorem smul_eq (a b : Int) (ha : 0 ≤ a) (hb : 0 ≤ b) :
    (if 0 < b ∧ (4611686018427387903 : Int) / b < a then (4611686018427387903 : Int) else a * b) = cnt (a * b) := by
  split
  · rename_i h
    rw [cnt_big]
    have h1 := (Int.ediv_lt_iff_lt_mul h.1).1 h.2
    omega
  · rename_i h
    rw [cnt_of (Int.mul_nonneg ha hb)]
    by_cases h0 : 0 < b
    · have h1 : a ≤ 4611686018427387903 / b := by
        have : ¬ (4611686018427387903 : Int) / b < a := fun x => h ⟨h0, x⟩
        omega
      exact (Int.le_ediv_iff_mul_le h0).1 h1
    · have : b = 0 := by omega
      subst this; simp
end Go.Proofs.Ytffhbjhpeiaebaa
