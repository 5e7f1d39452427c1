/- Merged: NTable, NBits, OPlain, OOnce, ODo. -/
import Derived.Test.YtkmffmlnondolaaMC
import Derived.Defers
import Derived.Laws.Pointers
import Derived.Laws.LoneSync
import Derived.RegionCalls
import Derived.ChangeAlike

/- Layer 3's laws: bits of a number, values of four variables, the node that says what bits say. -/
namespace Go.Proofs.Ytkmffmlnondolaa
open Go.ChangeShapes Go.WideShapes Go.ChangeAt Go.RowKit

theorem and_one (z : Int) : bits BinOp.and IntKind.i64 z 1 = z % 2 := by
  show IntKind.i64.wrap ((BitVec.ofInt 64 z &&& BitVec.ofInt 64 ((1 : Nat) : Int)).toNat : Int) = _
  rw [BitVec.toNat_and, ofInt_i64 1 (by omega), Nat.and_one_is_mod, IntKind.wrap_i64, BitVec.toNat_ofInt]
  omega
theorem and_mask16 (z : Int) : bits BinOp.and IntKind.i64 z 65535 = z % 65536 := by
  show IntKind.i64.wrap ((BitVec.ofInt 64 z &&& BitVec.ofInt 64 ((65535 : Nat) : Int)).toNat : Int) = _
  have h := Nat.and_two_pow_sub_one_eq_mod (BitVec.ofInt 64 z).toNat 16
  rw [BitVec.toNat_and, ofInt_i64 65535 (by omega), show (65535 : Nat) = 2 ^ 16 - 1 from rfl, h, IntKind.wrap_i64, BitVec.toNat_ofInt]
  omega
theorem and_mask4 (z : Int) : bits BinOp.and IntKind.i64 z 15 = z % 16 := by
  show IntKind.i64.wrap ((BitVec.ofInt 64 z &&& BitVec.ofInt 64 ((15 : Nat) : Int)).toNat : Int) = _
  have h := Nat.and_two_pow_sub_one_eq_mod (BitVec.ofInt 64 z).toNat 4
  rw [BitVec.toNat_and, ofInt_i64 15 (by omega), show (15 : Nat) = 2 ^ 4 - 1 from rfl, h, IntKind.wrap_i64, BitVec.toNat_ofInt]
  omega

/-- Bit i of a number. -/
def bitZ (n : Int) (i : Nat) : Bool := n / 2 ^ i % 2 == 1
def bitsL (n : Int) (j : Nat) : List Bool := (List.range j).map (bitZ n)
theorem bitsL_length (n : Int) (j : Nat) : (bitsL n j).length = j := by simp [bitsL]
theorem bitsL_snoc (n : Int) (j : Nat) : bitsL n (j + 1) = bitsL n j ++ [bitZ n j] := by simp [bitsL, List.range_succ]
theorem bitsL_get (n : Int) (j i : Nat) (h : i < j) : (bitsL n j)[i]? = some (bitZ n i) := by simp [bitsL, h]


def valsZ (n : Int) : List Bool := [n % 2 == 1, n / 2 % 2 == 1, n / 4 % 2 == 1, n / 8 % 2 == 1]


/-- Which bit a node's answer is, that asks v and later variables. -/
def tix (val : Nat → Bool) : Nat → Nat → Nat → Nat
  | 0, _, from' => from'
  | d + 1, v, from' => tix val d (v + 1) (if val v then from' + 2 ^ v else from')

theorem tix_lt (val : Nat → Bool) : ∀ d v f, f < 2 ^ v → tix val d v f < 2 ^ (v + d) := by
  intro d
  induction d with
  | zero => intro v f h; exact h
  | succ d ih =>
    intro v f h
    unfold tix
    have := ih (v + 1) (if val v then f + 2 ^ v else f) (by split <;> (rw [Nat.pow_succ]; omega))
    rwa [show v + 1 + d = v + (d + 1) by omega] at this

/-- The store behind table. -/
def TabOut (m : Mem) (h : Hd) (cs : List Nd) (bs : List Bool) (d v f : Nat) (w : World) (e : Ending) (w' : World) : Prop :=
  ∃ (k : Nat) (m' : Mem) (h' : Hd) (cs' : List Nd) (c : Nd), e = .returned (.tuple #[.int .i64 (k : Int), .bool true]) ∧ St w' m' h' cs' ∧ Ext cs cs' ∧ Is cs' k c ∧ (v : Int) ≤ c.asks ∧
    (∀ val, Says 4 cs' val k = (bs[tix val d v f]?).getD false) ∧ h'.V = h.V ∧ h'.B = h.B ∧ cnt cs' + 1 ≤ cnt cs + 2 ^ d ∧ Fresh cs cs' ∧ Next m m' w w'

theorem Rd.next {w w' : World} {m m' : Mem} {g : Nat} {xs : List Value} (h : Rd w (some ⟨g, 0, none⟩) xs) (hn : Next m m' w w') (hg : g < w.heap.size) (ho : ¬ m.own g) : Rd w' (some ⟨g, 0, none⟩) xs := by
  rcases h with h | ⟨b, off, e, _, hc⟩
  · exact .inl h
  · simp only [Option.some.injEq, Addr.mk.injEq, and_true] at e
    obtain ⟨rfl, rfl⟩ := e
    exact .inr ⟨g, 0, rfl, Nat.lt_of_lt_of_le hg hn.turn.size, fun j u hu => hn.cell (hc j u hu) ho⟩

end Go.Proofs.Ytkmffmlnondolaa

/- Layer 3's laws: nodes that say the bits of a number. -/
namespace Go.Proofs.Ytkmffmlnondolaa
open Go.ChangeShapes Go.WideShapes Go.ChangeAt Go.RowKit

theorem tix_vals : ∀ n : Nat, n < 16 → tix (valOf (valsZ (n : Int))) 4 0 0 = n := by decide

theorem bits_same {a b : Int} (h : bitsL a 16 = bitsL b 16) : a % 65536 = b % 65536 := by
  have e : ∀ i : Nat, i < 16 → a / 2 ^ i % 2 = b / 2 ^ i % 2 := by
    intro i hi
    have h1 := bitsL_get a 16 i hi
    rw [h, bitsL_get b 16 i hi] at h1
    injection h1 with h1
    unfold bitZ at h1
    have h2 : (b / 2 ^ i % 2 = 1) ↔ (a / 2 ^ i % 2 = 1) := by
      constructor
      · intro h3; rw [h3] at h1; simpa using h1.symm
      · intro h3; rw [h3] at h1; simpa using h1
    have ra := Int.emod_two_eq (a / 2 ^ i)
    have rb := Int.emod_two_eq (b / 2 ^ i)
    omega
  have e0 := e 0 (by omega); have e1 := e 1 (by omega); have e2 := e 2 (by omega); have e3 := e 3 (by omega)
  have e4 := e 4 (by omega); have e5 := e 5 (by omega); have e6 := e 6 (by omega); have e7 := e 7 (by omega)
  have e8 := e 8 (by omega); have e9 := e 9 (by omega); have e10 := e 10 (by omega); have e11 := e 11 (by omega)
  have e12 := e 12 (by omega); have e13 := e 13 (by omega); have e14 := e 14 (by omega); have e15 := e 15 (by omega)
  clear e h
  have s1 : a % 2 = b % 2 := by simpa using e0
  have s2 : a % 4 = b % 4 := by clear e0 e2 e3 e4 e5 e6 e7 e8 e9 e10 e11 e12 e13 e14 e15; omega
  have s3 : a % 8 = b % 8 := by clear s1 e0 e1 e3 e4 e5 e6 e7 e8 e9 e10 e11 e12 e13 e14 e15; omega
  have s4 : a % 16 = b % 16 := by clear s1 s2 e0 e1 e2 e4 e5 e6 e7 e8 e9 e10 e11 e12 e13 e14 e15; omega
  have s5 : a % 32 = b % 32 := by clear s1 s2 s3 e0 e1 e2 e3 e5 e6 e7 e8 e9 e10 e11 e12 e13 e14 e15; omega
  have s6 : a % 64 = b % 64 := by clear s1 s2 s3 s4 e0 e1 e2 e3 e4 e6 e7 e8 e9 e10 e11 e12 e13 e14 e15; omega
  have s7 : a % 128 = b % 128 := by clear s1 s2 s3 s4 s5 e0 e1 e2 e3 e4 e5 e7 e8 e9 e10 e11 e12 e13 e14 e15; omega
  have s8 : a % 256 = b % 256 := by clear s1 s2 s3 s4 s5 s6 e0 e1 e2 e3 e4 e5 e6 e8 e9 e10 e11 e12 e13 e14 e15; omega
  have s9 : a % 512 = b % 512 := by clear s1 s2 s3 s4 s5 s6 s7 e0 e1 e2 e3 e4 e5 e6 e7 e9 e10 e11 e12 e13 e14 e15; omega
  have s10 : a % 1024 = b % 1024 := by clear s1 s2 s3 s4 s5 s6 s7 s8 e0 e1 e2 e3 e4 e5 e6 e7 e8 e10 e11 e12 e13 e14 e15; omega
  have s11 : a % 2048 = b % 2048 := by clear s1 s2 s3 s4 s5 s6 s7 s8 s9 e0 e1 e2 e3 e4 e5 e6 e7 e8 e9 e11 e12 e13 e14 e15; omega
  have s12 : a % 4096 = b % 4096 := by clear s1 s2 s3 s4 s5 s6 s7 s8 s9 s10 e0 e1 e2 e3 e4 e5 e6 e7 e8 e9 e10 e12 e13 e14 e15; omega
  have s13 : a % 8192 = b % 8192 := by clear s1 s2 s3 s4 s5 s6 s7 s8 s9 s10 s11 e0 e1 e2 e3 e4 e5 e6 e7 e8 e9 e10 e11 e13 e14 e15; omega
  have s14 : a % 16384 = b % 16384 := by clear s1 s2 s3 s4 s5 s6 s7 s8 s9 s10 s11 s12 e0 e1 e2 e3 e4 e5 e6 e7 e8 e9 e10 e11 e12 e14 e15; omega
  have s15 : a % 32768 = b % 32768 := by clear s1 s2 s3 s4 s5 s6 s7 s8 s9 s10 s11 s12 s13 e0 e1 e2 e3 e4 e5 e6 e7 e8 e9 e10 e11 e12 e13 e15; omega
  clear s1 s2 s3 s4 s5 s6 s7 s8 s9 s10 s11 s12 s13 s14 e0 e1 e2 e3 e4 e5 e6 e7 e8 e9 e10 e11 e12 e13 e14
  omega

theorem same_bits {a b : Int} (h : a % 65536 = b % 65536) : bitsL a 16 = bitsL b 16 := by
  unfold bitsL
  apply List.map_congr_left
  intro i hi
  rw [List.mem_range] at hi
  unfold bitZ
  have : a / 2 ^ i % 2 = b / 2 ^ i % 2 := by
    rcases (by omega : i = 0 ∨ i = 1 ∨ i = 2 ∨ i = 3 ∨ i = 4 ∨ i = 5 ∨ i = 6 ∨ i = 7 ∨ i = 8 ∨ i = 9 ∨ i = 10 ∨ i = 11 ∨ i = 12 ∨ i = 13 ∨ i = 14 ∨ i = 15) with rfl | rfl | rfl | rfl | rfl | rfl | rfl | rfl | rfl | rfl | rfl | rfl | rfl | rfl | rfl | rfl <;> (simp; omega)
  rw [this]

/-- A node says the bits of x. -/
def SaysBits (cs : List Nd) (x : Int) (k : Nat) : Prop := ∃ c, Is cs k c ∧ ∀ val, Says 4 cs val k = ((bitsL x 16)[tix val 4 0 0]?).getD false

theorem SaysBits.at {cs : List Nd} {x : Int} {k n : Nat} (h : SaysBits cs x k) (hn : n < 16) : Says 4 cs (valOf (valsZ (n : Int))) k = bitZ x n := by
  obtain ⟨c, _, hs⟩ := h
  rw [hs, tix_vals n hn, bitsL_get x 16 n hn]; rfl

theorem SaysBits.ext {cs cs' : List Nd} {x : Int} {k : Nat} (h : SaysBits cs x k) (hx : Ext cs cs') (g : NGood 4 cs) (g' : NGood 4 cs') : SaysBits cs' x k := by
  obtain ⟨c, hc, hs⟩ := h
  exact ⟨c, hx k c hc, fun val => by rw [hx.says g g' val hc, hs]⟩

theorem once_same {cs : List Nd} {x y : Int} {k j : Nat} (g : NGood 4 cs) (hk : SaysBits cs x k) (hj : SaysBits cs y j) : k = j ↔ x % 65536 = y % 65536 := by
  constructor
  · rintro rfl
    apply bits_same
    apply List.ext_getElem?
    intro i
    by_cases hi : i < 16
    · rw [bitsL_get x 16 i hi, bitsL_get y 16 i hi, ← hk.at hi, ← hj.at hi]
    · rw [List.getElem?_eq_none (by rw [bitsL_length]; omega), List.getElem?_eq_none (by rw [bitsL_length]; omega)]
  · intro h
    obtain ⟨c, hc, hs⟩ := hk
    obtain ⟨d, hd, ht⟩ := hj
    exact canon g hc hd fun val => by rw [hs, ht, same_bits h]

theorem vals_rd {w : World} {g : Nat} {n : Int} (h : w.heap[g]? = some (.cells #[.bool (n % 2 == 1), .bool (n / 2 % 2 == 1), .bool (n / 4 % 2 == 1), .bool (n / 8 % 2 == 1)] 4 (0, 0))) : Rd w (some ⟨g, 0, none⟩) ((valsZ n).map Value.bool) := by
  have hl : g < w.heap.size := by
    rcases Nat.lt_or_ge g w.heap.size with h1 | h1
    · exact h1
    · rw [Array.getElem?_eq_none h1] at h; cases h
  refine .inr ⟨g, 0, rfl, hl, fun j u hu => ?_⟩
  rw [cell_of_row w g (0 + j) _ _ _ h, Nat.zero_add]
  rw [← hu]
  unfold valsZ
  match j with
  | 0 => rfl
  | 1 => rfl
  | 2 => rfl
  | 3 => rfl
  | j + 4 => rfl


theorem rd_at {w : World} {g n : Nat} {x : Int} (h : Rd w (some ⟨g, 0, none⟩) ((bitsL x 16).map Value.bool)) (hn : n < 16) : w.cell? ⟨g, n, none⟩ = some (.bool (bitZ x n)) := by
  rcases h with h | ⟨b, off, e, _, hc⟩
  · rw [List.map_eq_nil_iff] at h; have := bitsL_length x 16; rw [h] at this; cases this
  · simp only [Option.some.injEq, Addr.mk.injEq, and_true] at e
    obtain ⟨rfl, rfl⟩ := e
    have := hc n (.bool (bitZ x n)) (by rw [List.getElem?_map, bitsL_get x 16 n hn]; rfl)
    rwa [Nat.zero_add] at this

end Go.Proofs.Ytkmffmlnondolaa

/- Plain facts on questions of nodes: what they say, how they are settled and split, and what is kept of them. -/
namespace Go.Proofs.Ytkmffmlnondolaa
open Go.ChangeShapes Go.WideShapes Go.ChangeAt Go.RowKit Go.Maps

/-- Nodes that are asked together: three as an Ite (0), two as a Xor (1). -/
structure Qu where
  kind : Nat
  a : Nat
  b : Nat
  c : Nat
  deriving DecidableEq

/-- Number k is a node that asks no variable ahead of u. -/
def At (cs : List Nd) (u : Int) (k : Nat) : Prop := ∃ c, Is cs k c ∧ u ≤ c.asks

theorem At.ext {cs cs' : List Nd} {u : Int} {k : Nat} (x : At cs u k) (h : Ext cs cs') : At cs' u k := by
  obtain ⟨c, h1, h2⟩ := x; exact ⟨c, h k c h1, h2⟩
theorem At.mono {cs : List Nd} {u v : Int} {k : Nat} (x : At cs u k) (h : v ≤ u) : At cs v k := by
  obtain ⟨c, h1, h2⟩ := x; exact ⟨c, h1, by omega⟩
theorem NGood.at0 {V : Nat} {cs : List Nd} (g : NGood V cs) {u : Int} (hu : u ≤ V) : At cs u 0 := by
  obtain ⟨p, h⟩ := g.is0; exact ⟨_, h, hu⟩
theorem NGood.at1 {V : Nat} {cs : List Nd} (g : NGood V cs) {u : Int} (hu : u ≤ V) : At cs u 1 := by
  obtain ⟨p, h⟩ := g.is1; exact ⟨_, h, hu⟩

structure QAt (cs : List Nd) (u : Int) (q : Qu) : Prop where
  kind : q.kind < 2
  a : At cs u q.a
  b : At cs u q.b
  c : At cs u q.c

theorem QAt.ext {cs cs' : List Nd} {u : Int} {q : Qu} (x : QAt cs u q) (h : Ext cs cs') : QAt cs' u q := ⟨x.kind, x.a.ext h, x.b.ext h, x.c.ext h⟩
theorem QAt.mono {cs : List Nd} {u v : Int} {q : Qu} (x : QAt cs u q) (h : v ≤ u) : QAt cs v q := ⟨x.kind, x.a.mono h, x.b.mono h, x.c.mono h⟩

/-- What a question says. -/
def qsem (V : Nat) (cs : List Nd) (val : Nat → Bool) (q : Qu) : Bool :=
  if q.kind = 1 then (Says V cs val q.a != Says V cs val q.b) else if Says V cs val q.a then Says V cs val q.b else Says V cs val q.c

theorem At.says {V : Nat} {cs cs' : List Nd} {u : Int} {k : Nat} (x : At cs u k) (h : Ext cs cs') (g : NGood V cs) (g' : NGood V cs') (val : Nat → Bool) : Says V cs' val k = Says V cs val k := by
  obtain ⟨c, h1, _⟩ := x; exact h.says g g' val h1
theorem QAt.sem {V : Nat} {cs cs' : List Nd} {u : Int} {q : Qu} (x : QAt cs u q) (h : Ext cs cs') (g : NGood V cs) (g' : NGood V cs') (val : Nat → Bool) : qsem V cs' val q = qsem V cs val q := by
  unfold qsem; rw [x.a.says h g g', x.b.says h g g', x.c.says h g g']

def setIte2 (a b c : Nat) : Qu × Nat × Bool :=
  if a = 0 then (⟨0, 0, 0, 0⟩, c, true)
  else if a = 1 then (⟨0, 0, 0, 0⟩, b, true)
  else if b = c then (⟨0, 0, 0, 0⟩, b, true)
  else if b = 1 ∧ c = 0 then (⟨0, 0, 0, 0⟩, a, true)
  else if c = 0 then (⟨0, min a b, max a b, 0⟩, 0, false)
  else if b = 1 then (⟨0, min a c, 1, max a c⟩, 0, false)
  else (⟨0, a, b, c⟩, 0, false)
def setIte (a b c : Nat) : Qu × Nat × Bool := setIte2 a (if a = b then 1 else b) (if a = c then 0 else c)
def setXor2 (x y : Nat) : Qu × Nat × Bool :=
  if x = y then (⟨0, 0, 0, 0⟩, 0, true)
  else if x = 0 then (⟨0, 0, 0, 0⟩, y, true)
  else if x = 1 then (⟨0, y, 0, 1⟩, 0, false)
  else (⟨1, x, y, 0⟩, 0, false)
def setXor (a b : Nat) : Qu × Nat × Bool := setXor2 (min a b) (max a b)
def settleQ (q : Qu) : Qu × Nat × Bool := if q.kind = 1 then setXor q.a q.b else setIte q.a q.b q.c

structure Settled (V : Nat) (cs : List Nd) (u : Int) (q : Qu) (r : Qu × Nat × Bool) : Prop where
  told : r.2.2 = true → At cs u r.2.1 ∧ ∀ val, Says V cs val r.2.1 = qsem V cs val q
  left : r.2.2 = false → QAt cs u r.1 ∧ (∀ val, qsem V cs val r.1 = qsem V cs val q) ∧ (2 ≤ r.1.a ∨ 2 ≤ r.1.b ∨ 2 ≤ r.1.c)

section
variable {V : Nat} {cs : List Nd} {u : Int}

theorem setIte2_ok {a b c : Nat} (ha : At cs u a) (hb : At cs u b) (hc : At cs u c) : Settled V cs u ⟨0, a, b, c⟩ (setIte2 a b c) := by
  have z0 := fun val => Says_zero (V := V) (cs := cs) val
  have z1 := fun val => Says_one (V := V) (cs := cs) val
  unfold setIte2
  by_cases h0 : a = 0
  · rw [if_pos h0]
    exact ⟨fun _ => ⟨hc, fun val => by simp [qsem, h0, z0]⟩, fun h => by cases h⟩
  rw [if_neg h0]
  by_cases h1 : a = 1
  · rw [if_pos h1]
    exact ⟨fun _ => ⟨hb, fun val => by simp [qsem, h1, z1]⟩, fun h => by cases h⟩
  rw [if_neg h1]
  by_cases h2 : b = c
  · rw [if_pos h2]
    exact ⟨fun _ => ⟨hb, fun val => by simp [qsem, h2]⟩, fun h => by cases h⟩
  rw [if_neg h2]
  by_cases h3 : b = 1 ∧ c = 0
  · rw [if_pos h3]
    refine ⟨fun _ => ⟨ha, fun val => ?_⟩, fun h => by cases h⟩
    simp only [qsem, h3.1, h3.2, z0, z1]
    cases Says V cs val a <;> rfl
  rw [if_neg h3]
  by_cases h4 : c = 0
  · rw [if_pos h4]
    subst h4
    refine ⟨fun h => (by cases h), fun _ => ?_⟩
    rcases Nat.le_total a b with h | h
    · rw [Nat.min_eq_left h, Nat.max_eq_right h]
      exact ⟨⟨by show 0 < 2; omega, ha, hb, hc⟩, fun val => rfl, .inl (by show 2 ≤ a; omega)⟩
    · rw [Nat.min_eq_right h, Nat.max_eq_left h]
      refine ⟨⟨by show 0 < 2; omega, hb, ha, hc⟩, fun val => ?_, .inr (.inl (by show 2 ≤ a; omega))⟩
      simp only [qsem, z0]
      cases Says V cs val a <;> cases Says V cs val b <;> rfl
  rw [if_neg h4]
  by_cases h5 : b = 1
  · rw [if_pos h5]
    subst h5
    refine ⟨fun h => (by cases h), fun _ => ?_⟩
    rcases Nat.le_total a c with h | h
    · rw [Nat.min_eq_left h, Nat.max_eq_right h]
      exact ⟨⟨by show 0 < 2; omega, ha, hb, hc⟩, fun val => rfl, .inl (by show 2 ≤ a; omega)⟩
    · rw [Nat.min_eq_right h, Nat.max_eq_left h]
      refine ⟨⟨by show 0 < 2; omega, hc, hb, ha⟩, fun val => ?_, .inr (.inr (by show 2 ≤ a; omega))⟩
      simp only [qsem, z1]
      cases Says V cs val a <;> cases Says V cs val c <;> rfl
  rw [if_neg h5]
  exact ⟨fun h => (by cases h), fun _ => ⟨⟨by show 0 < 2; omega, ha, hb, hc⟩, fun val => rfl, .inl (by show 2 ≤ a; omega)⟩⟩

theorem setIte_ok (g : NGood V cs) (hu : u ≤ V) {a b c : Nat} (ha : At cs u a) (hb : At cs u b) (hc : At cs u c) : Settled V cs u ⟨0, a, b, c⟩ (setIte a b c) := by
  have hb' : At cs u (if a = b then 1 else b) := by
    by_cases h : a = b
    · rw [if_pos h]; exact g.at1 hu
    · rw [if_neg h]; exact hb
  have hc' : At cs u (if a = c then 0 else c) := by
    by_cases h : a = c
    · rw [if_pos h]; exact g.at0 hu
    · rw [if_neg h]; exact hc
  have he : ∀ val, qsem V cs val ⟨0, a, if a = b then 1 else b, if a = c then 0 else c⟩ = qsem V cs val ⟨0, a, b, c⟩ := by
    intro val
    have z0 := Says_zero (V := V) (cs := cs) val
    have z1 := Says_one (V := V) (cs := cs) val
    simp only [qsem]
    by_cases h : a = b
    · by_cases h' : a = c
      · subst h; subst h'; simp only [if_true, z0, z1]
        cases Says V cs val a <;> rfl
      · subst h; simp only [if_true, if_neg h', z1]
        cases Says V cs val a <;> rfl
    · by_cases h' : a = c
      · subst h'; simp only [if_true, if_neg h, z0]
        cases Says V cs val a <;> rfl
      · simp only [if_neg h, if_neg h']
  obtain ⟨t, l⟩ := setIte2_ok ha hb' hc'
  refine ⟨fun h => ?_, fun h => ?_⟩
  · obtain ⟨x, y⟩ := t h; exact ⟨x, fun val => (y val).trans (he val)⟩
  · obtain ⟨x, y, z⟩ := l h; exact ⟨x, fun val => (y val).trans (he val), z⟩

theorem setXor2_ok (g : NGood V cs) (hu : u ≤ V) {x y : Nat} (hxy : x ≤ y) (hx : At cs u x) (hy : At cs u y) (c : Nat) : Settled V cs u ⟨1, x, y, c⟩ (setXor2 x y) := by
  have z0 := fun val => Says_zero (V := V) (cs := cs) val
  have z1 := fun val => Says_one (V := V) (cs := cs) val
  unfold setXor2
  by_cases h0 : x = y
  · rw [if_pos h0]
    exact ⟨fun _ => ⟨g.at0 hu, fun val => by simp [qsem, h0, z0]⟩, fun h => by cases h⟩
  rw [if_neg h0]
  by_cases h1 : x = 0
  · rw [if_pos h1]
    refine ⟨fun _ => ⟨hy, fun val => ?_⟩, fun h => by cases h⟩
    simp only [qsem, h1, z0]
    cases Says V cs val y <;> rfl
  rw [if_neg h1]
  by_cases h2 : x = 1
  · rw [if_pos h2]
    refine ⟨fun h => (by cases h), fun _ => ⟨⟨by show 0 < 2; omega, hy, g.at0 hu, g.at1 hu⟩, fun val => ?_, .inl (by show 2 ≤ y; omega)⟩⟩
    simp only [qsem, h2, z0, z1]
    cases Says V cs val y <;> rfl
  rw [if_neg h2]
  exact ⟨fun h => (by cases h), fun _ => ⟨⟨by show 1 < 2; omega, hx, hy, g.at0 hu⟩, fun val => rfl, .inl (by show 2 ≤ x; omega)⟩⟩

theorem settle_ok (g : NGood V cs) (hu : u ≤ V) {q : Qu} (hq : QAt cs u q) : Settled V cs u q (settleQ q) := by
  obtain ⟨kd, a, b, c⟩ := q
  obtain ⟨hk, ha, hb, hc⟩ := hq
  unfold settleQ
  by_cases h : kd = 1
  · subst h
    rw [if_pos rfl]
    show Settled V cs u ⟨1, a, b, c⟩ (setXor a b)
    unfold setXor
    rcases Nat.le_total a b with h | h
    · rw [Nat.min_eq_left h, Nat.max_eq_right h]
      exact setXor2_ok g hu h ha hb c
    · rw [Nat.min_eq_right h, Nat.max_eq_left h]
      have he : ∀ val, qsem V cs val ⟨1, b, a, c⟩ = qsem V cs val ⟨1, a, b, c⟩ := fun val => by
        simp only [qsem]
        cases Says V cs val a <;> cases Says V cs val b <;> rfl
      obtain ⟨t, l⟩ := setXor2_ok g hu h hb ha c
      refine ⟨fun h => ?_, fun h => ?_⟩
      · obtain ⟨x, y⟩ := t h; exact ⟨x, fun val => (y val).trans (he val)⟩
      · obtain ⟨x, y, z⟩ := l h; exact ⟨x, fun val => (y val).trans (he val), z⟩
  · have h0 : kd = 0 := by have : kd < 2 := hk; omega
    subst h0
    rw [if_neg (by show ¬ (0 : Nat) = 1; omega)]
    exact setIte_ok g hu ha hb hc

/-- What stands at a number. -/
def nd (cs : List Nd) (k : Nat) : Nd := (cs[k]?).getD Nd.gone
theorem Is.nd {k : Nat} {c : Nd} (h : Is cs k c) : nd cs k = c := by unfold Go.Proofs.Ytkmffmlnondolaa.nd; rw [h.1]; rfl
theorem At.is {k : Nat} (x : At cs u k) : Is cs k (nd cs k) ∧ u ≤ (nd cs k).asks := by
  obtain ⟨c, h1, h2⟩ := x
  rw [h1.nd]; exact ⟨h1, h2⟩

/-- The first variable that a question hangs on. -/
def splitV (V : Nat) (cs : List Nd) (q : Qu) : Int := min (min (min (V : Int) (nd cs q.a).asks) (nd cs q.b).asks) (nd cs q.c).asks
def part (x : Bool) (v : Int) (cs : List Nd) (k : Nat) : Nat := if (nd cs k).asks = v then (if x then (nd cs k).high else (nd cs k).low) else k
/-- What is left of a question. -/
def half (x : Bool) (v : Int) (cs : List Nd) (q : Qu) : Qu := ⟨q.kind, part x v cs q.a, part x v cs q.b, part x v cs q.c⟩

theorem two_asks (g : NGood V cs) {k : Nat} (h2 : 2 ≤ k) (x : At cs u k) : 0 ≤ (nd cs k).asks ∧ (nd cs k).asks < V := by
  obtain ⟨h1, _⟩ := x.is
  have := g.ok k _ h2 h1
  exact ⟨this.1, this.2.1⟩

theorem splitV_range (g : NGood V cs) {q : Qu} (hq : QAt cs u q) (h2 : 2 ≤ q.a ∨ 2 ≤ q.b ∨ 2 ≤ q.c) : 0 ≤ splitV V cs q ∧ splitV V cs q < V ∧ u ≤ splitV V cs q := by
  have ra := g.range hq.a.is.1
  have rb := g.range hq.b.is.1
  have rc := g.range hq.c.is.1
  have ua := hq.a.is.2
  have ub := hq.b.is.2
  have uc := hq.c.is.2
  unfold splitV
  rcases h2 with h | h | h
  · have := two_asks g h hq.a; omega
  · have := two_asks g h hq.b; omega
  · have := two_asks g h hq.c; omega

theorem part_at (g : NGood V cs) {k : Nat} {v : Int} (hv : v < V) (x : At cs v k) (s : Bool) : At cs (v + 1) (part s v cs k) := by
  obtain ⟨h1, h2⟩ := x.is
  unfold part
  by_cases h : (nd cs k).asks = v
  · rw [if_pos h]
    have hk : 2 ≤ k := by
      rcases Nat.lt_or_ge k 2 with h3 | h3
      · have := (g.base h3 h1).1; omega
      · exact h3
    cases s with
    | true =>
      obtain ⟨d, hd, hl⟩ := g.hi k _ hk h1
      exact ⟨d, hd, by omega⟩
    | false =>
      obtain ⟨d, hd, hl⟩ := g.lo k _ hk h1
      exact ⟨d, hd, by omega⟩
  · rw [if_neg h]
    exact ⟨_, h1, by omega⟩

theorem part_says (g : NGood V cs) {k : Nat} {v : Int} (hv : v < V) (x : At cs v k) (val : Nat → Bool) : Says V cs val k = Says V cs val (part (val v.toNat) v cs k) := by
  obtain ⟨h1, h2⟩ := x.is
  unfold part
  by_cases h : (nd cs k).asks = v
  · rw [if_pos h]
    have hk : 2 ≤ k := by
      rcases Nat.lt_or_ge k 2 with h3 | h3
      · have := (g.base h3 h1).1; omega
      · exact h3
    rw [Says_step g val hk h1, h]
  · rw [if_neg h]

theorem QAt.split {q : Qu} (hq : QAt cs u q) : QAt cs (splitV V cs q) q := by
  have ha := hq.a.is.1
  have hb := hq.b.is.1
  have hc := hq.c.is.1
  unfold splitV
  exact ⟨hq.kind, ⟨_, ha, by omega⟩, ⟨_, hb, by omega⟩, ⟨_, hc, by omega⟩⟩

theorem half_at (g : NGood V cs) {q : Qu} {v : Int} (hv : v < V) (hq : QAt cs v q) (s : Bool) : QAt cs (v + 1) (half s v cs q) :=
  ⟨hq.kind, part_at g hv hq.a s, part_at g hv hq.b s, part_at g hv hq.c s⟩

theorem half_sem (g : NGood V cs) {q : Qu} {v : Int} (hv : v < V) (hq : QAt cs v q) (val : Nat → Bool) : qsem V cs val q = qsem V cs val (half (val v.toNat) v cs q) := by
  unfold qsem half
  dsimp only
  rw [← part_says g hv hq.a, ← part_says g hv hq.b, ← part_says g hv hq.c]

/-- A question is answered by node k, which asks no variable ahead of all that it hangs on. -/
structure Told (V : Nat) (cs : List Nd) (q : Qu) (k : Nat) : Prop where
  at0 : QAt cs 0 q
  is : ∃ c, Is cs k c ∧ ∀ u : Int, QAt cs u q → u ≤ c.asks
  says : ∀ val, Says V cs val k = qsem V cs val q

end

theorem QAt.back {cs cs' : List Nd} {u v : Int} {q : Qu} (hq : QAt cs v q) (hx : Ext cs cs') (h : QAt cs' u q) : QAt cs u q := by
  have hb : ∀ {k : Nat}, At cs v k → At cs' u k → At cs u k := by
    intro k h1 h2
    obtain ⟨c, i1, _⟩ := h1
    obtain ⟨d, i2, l2⟩ := h2
    obtain rfl := (hx k c i1).same i2
    exact ⟨_, i1, l2⟩
  exact ⟨h.kind, hb hq.a h.a, hb hq.b h.b, hb hq.c h.c⟩

theorem Told.ext {V : Nat} {cs cs' : List Nd} {q : Qu} {k : Nat} (t : Told V cs q k) (hx : Ext cs cs') (g : NGood V cs) (g' : NGood V cs') : Told V cs' q k := by
  obtain ⟨c, h1, h2⟩ := t.is
  exact ⟨t.at0.ext hx, ⟨c, hx k c h1, fun u hu => h2 u (t.at0.back hx hu)⟩, fun val => by rw [hx.says g g' val h1, t.says, t.at0.sem hx g g']⟩

theorem Told.at {V : Nat} {cs : List Nd} {q : Qu} {k : Nat} (t : Told V cs q k) {u : Int} (hu : QAt cs u q) : At cs u k := by
  obtain ⟨c, h1, h2⟩ := t.is
  exact ⟨c, h1, h2 u hu⟩
end Go.Proofs.Ytkmffmlnondolaa

/- Contracts of layer 4 (oper): sync.Once, one goroutine: the cache is made once. -/
namespace Go.Proofs.Ytkmffmlnondolaa
open Go.ChangeShapes Go.WideShapes Go.ChangeAt Go.RowKit Go.Maps

theorem once_disable (w : World) : (callFunc 128 #[]).run Try.prog w = .ok (.value (.tuple #[])) w := run_call_mark0 Try.func128 (by kernel_rfl) (by kernel_rfl) (by kernel_rfl) .disable (by kernel_rfl) w
theorem once_enable (w : World) : (callFunc 130 #[]).run Try.prog w = .ok (.value (.tuple #[])) w := run_call_mark0 Try.func130 (by kernel_rfl) (by kernel_rfl) (by kernel_rfl) .enable (by kernel_rfl) w
theorem once_acquire (a : Addr) (w : World) : (callFunc 131 #[.pointer (some a)]).run Try.prog w = .ok (.value (.tuple #[])) w := run_call_marked Try.func131 (by kernel_rfl) (by kernel_rfl) (by kernel_rfl) .acquire (by kernel_rfl) a w
theorem once_release (a : Addr) (w : World) : (callFunc 133 #[.pointer (some a)]).run Try.prog w = .ok (.value (.tuple #[])) w := run_call_marked Try.func133 (by kernel_rfl) (by kernel_rfl) (by kernel_rfl) .releaseMerge (by kernel_rfl) a w

set_option maxRecDepth 100000 in
set_option maxHeartbeats 1600000 in
theorem once_store (a : Addr) (x : Value) (u : FrameMode) (w : World) (hc : w.cell? a = some x) (hz : w.frozen? a = false) :
    CallsD Try.prog 121 #[.pointer (some a), .bool true] u w fun e u' w' => u' = u ∧ (e = .returned (.tuple #[]) ∧ w' = w.drew.setCell a (.int .u32 1)) := by
  have hc' : w.drew.cell? a = some x := by go_simp
  have hz' : w.drew.frozen? a = false := by go_simp
  have hst := run_call_store (P := Try.prog) Try.func126 (by kernel_rfl) (by kernel_rfl) (by kernel_rfl) (by kernel_rfl) (k := .u32) (y := 1) hc' hz'
  go_enter_d Try.func121, Try.ntmps121
  go_wp2
  go_region_calls
  all_goals (go_end0; exact ⟨rfl, rfl⟩)

set_option maxRecDepth 100000 in
set_option maxHeartbeats 1600000 in
theorem once_unlock (a : Addr) (u : FrameMode) (w : World) (hc : w.cell? a = some (.int .i32 1)) (hz : w.frozen? a = false) :
    CallsD Try.prog 120 #[.pointer (some a)] u w fun e u' w' => u' = u ∧ (e = .returned (.tuple #[]) ∧ w' = w.setCell a (.int .i32 0)) := by
  have hd := once_disable
  have he := once_enable
  have hr := once_release
  have hadd := run_call_add (P := Try.prog) Try.func134 (by kernel_rfl) (by kernel_rfl) (by kernel_rfl) .i32 (by kernel_rfl) (y := -1) (s := 0) hc hz (by simp [go_sem]; rfl)
  have hcv := run_convert_to_unsafe (P := Try.prog) (src := 182) (dst := 186) Try.underlying182 Try.underlying186 (by kernel_rfl) hc
  go_enter_d Try.func120, Try.ntmps120
  go_wp2
  go_end0
  go_wp2
  go_end0
  exact ⟨rfl, rfl⟩

set_option maxRecDepth 100000 in
set_option maxHeartbeats 1600000 in
theorem once_lock (a : Addr) (w : World) (hc : w.cell? a = some (.int .i32 0)) (hz : w.frozen? a = false) :
    Calls Try.prog 119 #[.pointer (some a)] w fun e w' => e = .returned (.tuple #[]) ∧ w' = w.setCell a (.int .i32 1) := by
  have hd := once_disable
  have he := once_enable
  have ha := once_acquire
  have hcas := run_call_cas_hit (P := Try.prog) Try.func129 (by kernel_rfl) (by kernel_rfl) (by kernel_rfl) .i32 (by kernel_rfl) (y := 1) hc hz
  have hc' : (w.setCell a (.int .i32 1)).cell? a = some (.int .i32 1) := World.cell?_setCell_same w a _ hc
  have hcv := run_convert_to_unsafe (P := Try.prog) (src := 182) (dst := 186) Try.underlying182 Try.underlying186 (by kernel_rfl) hc'
  go_enter Try.func119, Try.ntmps119
  go_wp2
  first | go_end0 | (simp only [Exit.inBlock, Exit.then]; refine bodyPost_ret (results_none rfl _ _ _) rfl ?_) | refine bodyPost_ret (results_none rfl _ _ _) rfl ?_
  go_wp2
  go_end0
  exact ⟨rfl, rfl⟩
end Go.Proofs.Ytkmffmlnondolaa

/- Contracts of layer 4 (oper): where operations lie; the cache is made once. -/
namespace Go.Proofs.Ytkmffmlnondolaa
open Go.ChangeShapes Go.WideShapes Go.ChangeAt Go.RowKit Go.Maps

def opsC (o s : Nat) (d x : Int) (mp : Option Nat) (sw : Int) : Array Value := #[.pointer (some ⟨o, 0, none⟩), .pointer (some ⟨s, 0, none⟩), .int .u32 d, .int .i32 x, .int .u32 0, .map mp, .int .i64 sw]
def OpsAt (w : World) (o s : Nat) (d x : Int) (mp : Option Nat) (sw : Int) : Prop := w.heap[o]? = some (.cells (opsC o s d x mp sw) 91 (0, 0))

section
variable {w : World} {o s : Nat} {d x : Int} {mp : Option Nat} {sw : Int}
theorem OpsAt.lt (h : OpsAt w o s d x mp sw) : o < w.heap.size := (Array.getElem?_eq_some_iff.1 h).1
theorem OpsAt.c0 (h : OpsAt w o s d x mp sw) : w.cell? ⟨o, 0, none⟩ = some (.pointer (some ⟨o, 0, none⟩)) := cell_of_row w o 0 _ _ _ h
theorem OpsAt.c1 (h : OpsAt w o s d x mp sw) : w.cell? ⟨o, 1, none⟩ = some (.pointer (some ⟨s, 0, none⟩)) := cell_of_row w o 1 _ _ _ h
theorem OpsAt.c2 (h : OpsAt w o s d x mp sw) : w.cell? ⟨o, 2, none⟩ = some (.int .u32 d) := cell_of_row w o 2 _ _ _ h
theorem OpsAt.c3 (h : OpsAt w o s d x mp sw) : w.cell? ⟨o, 3, none⟩ = some (.int .i32 x) := cell_of_row w o 3 _ _ _ h
theorem OpsAt.c5 (h : OpsAt w o s d x mp sw) : w.cell? ⟨o, 5, none⟩ = some (.map mp) := cell_of_row w o 5 _ _ _ h
theorem OpsAt.c6 (h : OpsAt w o s d x mp sw) : w.cell? ⟨o, 6, none⟩ = some (.int .i64 sw) := cell_of_row w o 6 _ _ _ h
theorem OpsAt.fz (h : OpsAt w o s d x mp sw) (j : Nat) : w.frozen? ⟨o, j, none⟩ = false := frozen_of_row w o j _ _ h
theorem OpsAt.of (h : OpsAt w o s d x mp sw) {w' : World} (e : w'.heap[o]? = w.heap[o]?) : OpsAt w' o s d x mp sw := e.trans h
theorem OpsAt.keep (h : OpsAt w o s d x mp sw) {w' : World} (hb : Below w.heap.size w w') : OpsAt w' o s d x mp sw := h.of (hb.block _ h.lt)
theorem OpsAt.alloc (h : OpsAt w o s d x mp sw) (b : Obj) : OpsAt (w.alloc b) o s d x mp sw := h.of (Below.heap_alloc w b o h.lt)
theorem OpsAt.drew (h : OpsAt w o s d x mp sw) : OpsAt w.drew o s d x mp sw := h
theorem OpsAt.set2 (h : OpsAt w o s d x mp sw) (y : Int) : OpsAt (w.setCell ⟨o, 2, none⟩ (.int .u32 y)) o s y x mp sw := heap_setCell_same _ _ 2 _ _ (.int .u32 y) h
theorem OpsAt.set3 (h : OpsAt w o s d x mp sw) (y : Int) : OpsAt (w.setCell ⟨o, 3, none⟩ (.int .i32 y)) o s d y mp sw := heap_setCell_same _ _ 3 _ _ (.int .i32 y) h
theorem OpsAt.set5 (h : OpsAt w o s d x mp sw) (y : Option Nat) : OpsAt (w.setCell ⟨o, 5, none⟩ (.map y)) o s d x y sw := heap_setCell_same _ _ 5 _ _ (.map y) h
theorem OpsAt.set6 (h : OpsAt w o s d x mp sw) (y : Int) : OpsAt (w.setCell ⟨o, 6, none⟩ (.int .i64 y)) o s d x mp y := heap_setCell_same _ _ 6 _ _ (.int .i64 y) h
end

theorem info_ops : (Try.prog.info? 91).map (fun i => (i.size, i.bytes)) = some (7, 48) := by kernel_rfl

theorem made_closure (o s : Nat) (sw : Int) (pl : Addr) (w : World) (hp : w.cell? pl = some (.pointer (some ⟨o, 0, none⟩))) (ha : OpsAt w o s 0 1 none sw) :
    Calls Try.prog 80 #[.pointer (some pl)] w fun e w' => e = .returned (.tuple #[]) ∧ w' = (w.alloc (.map #[] 0)).setCell ⟨o, 5, none⟩ (.map (some w.heap.size)) := by
  have h6 := (ha.alloc (.map #[] 0)).c5
  have f6 := (ha.alloc (.map #[] 0)).fz 5
  have HA := Lib.hid ha
  clear ha
  have hmm := @run_makeMap Try.prog
  go_enter Try.func80, Try.ntmps80
  go_wp2
  go_end0
  exact ⟨rfl, rfl⟩

def OnceA (o : Nat) (w : World) : World := ((w.setCell ⟨o, 3, none⟩ (.int .i32 1)).alloc (.map #[] 0)).setCell ⟨o, 5, none⟩ (.map (some w.heap.size))
def OnceW (o : Nat) (w : World) : World := ((OnceA o w).drew.setCell ⟨o, 2, none⟩ (.int .u32 1)).setCell ⟨o, 3, none⟩ (.int .i32 0)

theorem onceA_at {w : World} {o s : Nat} {sw : Int} (ha : OpsAt w o s 0 0 none sw) : OpsAt (OnceA o w) o s 0 1 (some w.heap.size) sw := ((ha.set3 1).alloc _).set5 _
theorem onceW_at {w : World} {o s : Nat} {sw : Int} (ha : OpsAt w o s 0 0 none sw) : OpsAt (OnceW o w) o s 1 0 (some w.heap.size) sw := ((onceA_at ha).drew.set2 1).set3 0
theorem onceW_turn (o : Nat) (w : World) : Turn (fun i => i = o) w (OnceW o w) := by
  unfold OnceW OnceA
  have t0 := Turn.setCell (Turn.refl (fun i => i = o) w) (p := ⟨o, 3, none⟩) (.inl rfl) (.int .i32 1)
  have t1 := (t0.alloc (.map #[] 0)).setCell (p := ⟨o, 5, none⟩) (.inl rfl) (.map (some w.heap.size))
  exact ((t1.drew.setCell (p := ⟨o, 2, none⟩) (.inl rfl) (.int .u32 1)).setCell (p := ⟨o, 3, none⟩) (.inl rfl) (.int .i32 0))
theorem onceW_map {w : World} {o : Nat} (ho : o < w.heap.size) : (OnceW o w).heap[w.heap.size]? = some (.map #[] 0) := by
  unfold OnceW OnceA
  have hs : (w.setCell ⟨o, 3, none⟩ (.int .i32 1)).heap.size = w.heap.size := by simp [World.setCell]
  rw [heap_setCell_other _ _ _ _ (by show ¬ w.heap.size = o; omega), heap_setCell_other _ _ _ _ (by show ¬ w.heap.size = o; omega)]
  show (((w.setCell ⟨o, 3, none⟩ (.int .i32 1)).alloc (.map #[] 0)).setCell ⟨o, 5, none⟩ (.map (some w.heap.size))).heap[w.heap.size]? = _
  rw [heap_setCell_other _ _ _ _ (by show ¬ w.heap.size = o; omega)]
  have := heap_alloc_new (w.setCell ⟨o, 3, none⟩ (.int .i32 1)) (.map #[] 0)
  rw [hs] at this
  exact this

set_option maxRecDepth 100000 in
set_option maxHeartbeats 1600000 in
theorem slow_first (o s : Nat) (sw : Int) (pl : Addr) (hpb : ¬ o = pl.block) (w : World) (hp : w.cell? pl = some (.pointer (some ⟨o, 0, none⟩))) (ha : OpsAt w o s 0 0 none sw) :
    Calls Try.prog 106 #[.pointer (some ⟨o, 2, none⟩), .func (.func 80) #[] #[.pointer (some pl)]] w fun e w' => e = .returned (.tuple #[]) ∧ w' = OnceW o w := by
  have h3 := ha.c3
  have f3 := ha.fz 3
  have hl := run_call_load (P := Try.prog) Try.func118 (by kernel_rfl) (by kernel_rfl) (by kernel_rfl) .u32 (by kernel_rfl) (w := w.setCell ⟨o, 3, none⟩ (.int .i32 1)) (a := ⟨o, 2, none⟩) (x := 0) (ha.set3 1).c2
  have hp1 : (w.setCell ⟨o, 3, none⟩ (.int .i32 1)).cell? pl = some (.pointer (some ⟨o, 0, none⟩)) := (World.cell?_setCell_other _ ⟨o, 3, none⟩ pl _ (fun h => hpb (by rw [← h]))).trans hp
  have hnot : ∀ (x : Bool) (w : World), (Op.unary .not (.bool x)).run Try.prog w = .ok (.bool (!x)) w := fun _ _ => rfl
  have HA := Lib.hid ha
  clear ha
  go_enter_defers Try.func106, Try.ntmps106
  go_wp2_with (go_at_call 119; refine (once_lock ⟨o, 3, none⟩ _ (by go_simp) (by go_simp)).mono ?_; rintro e w' ⟨rfl, rfl⟩)
  go_wp2_with (first | (go_at_call 80; refine (made_closure o s sw pl _ hp1 (HA.out.set3 1)).mono ?_; rintro e w' ⟨rfl, rfl⟩) | (go_at_call 105; go_in))
  change bodyPostD _ _ _ _ _ (OnceA o w)
  have A1 := onceA_at HA.out
  refine leaves_cons (f := 121) (args := #[.pointer (some ⟨o, 2, none⟩), .bool true]) (by simp) (by simp [go_sem]) ?_
  refine (once_store ⟨o, 2, none⟩ (.int .u32 0) .returning _ A1.c2 (A1.fz 2)).mono ?_
  rintro e u' w'' ⟨rfl, rfl, rfl⟩
  refine leaves_cons (f := 120) (args := #[.pointer (some ⟨o, 3, none⟩)]) (by simp [settle]) (by simp [go_sem]) ?_
  refine (once_unlock ⟨o, 3, none⟩ _ _ (A1.drew.set2 1).c3 ((A1.drew.set2 1).fz 3)).mono ?_
  rintro e u' w'' ⟨rfl, rfl, rfl⟩
  simp [Leaves, settle, results, Try.results106, OnceW]

set_option maxRecDepth 100000 in
set_option maxHeartbeats 1600000 in
theorem do_first (o s : Nat) (sw : Int) (pl : Addr) (hpb : ¬ o = pl.block) (w : World) (hp : w.cell? pl = some (.pointer (some ⟨o, 0, none⟩))) (ha : OpsAt w o s 0 0 none sw) :
    Calls Try.prog 79 #[.pointer (some ⟨o, 2, none⟩), .func (.func 80) #[] #[.pointer (some pl)]] w fun e w' => e = .returned (.tuple #[]) ∧ w' = OnceW o w := by
  have hl := run_call_load (P := Try.prog) Try.func118 (by kernel_rfl) (by kernel_rfl) (by kernel_rfl) .u32 (by kernel_rfl) ha.c2
  have hnot : ∀ (x : Bool) (w : World), (Op.unary .not (.bool x)).run Try.prog w = .ok (.bool (!x)) w := fun _ _ => rfl
  have HA := Lib.hid ha
  clear ha
  go_enter Try.func79, Try.ntmps79
  go_wp2_with (first | (go_at_call 106; refine (slow_first o s sw pl hpb _ hp HA.out).mono ?_; rintro e w' ⟨rfl, rfl⟩) | (go_at_call 105; go_in))
  go_end0
  exact ⟨rfl, rfl⟩

theorem do_done (o s : Nat) (mp : Option Nat) (sw : Int) (fv : Value) (w : World) (ha : OpsAt w o s 1 0 mp sw) :
    Calls Try.prog 79 #[.pointer (some ⟨o, 2, none⟩), fv] w fun e w' => e = .returned (.tuple #[]) ∧ w' = w := by
  have hl := run_call_load (P := Try.prog) Try.func118 (by kernel_rfl) (by kernel_rfl) (by kernel_rfl) .u32 (by kernel_rfl) ha.c2
  have hnot : ∀ (x : Bool) (w : World), (Op.unary .not (.bool x)).run Try.prog w = .ok (.bool (!x)) w := fun _ _ => rfl
  clear ha
  go_enter Try.func79, Try.ntmps79
  go_wp2
  go_end0
  exact ⟨rfl, rfl⟩
end Go.Proofs.Ytkmffmlnondolaa
