/- Contracts of layer 2 (hash): given, mix, Len. -/
import Derived.Test.YtfdebadmikmnaaaRows
import Derived.Test.YtfdebadmikmnaaaHPlain
import Derived.WalkKit
import Derived.ProofKit
import Derived.OpenShut
import Derived.Lib.Hide
import Derived.LaidEqlPtr
import Derived.Deep.QuietTactic
import Derived.BigQuiet
import Derived.IntWalk
import Derived.Laws.StructEq
import Derived.Laws.BitsLemmas
import Derived.Outline
namespace Go.Proofs.Ytfdebadmikmnaaa
open Go.ChangeShapes Go.WideShapes Go.ChangeAt Go.RowKit

def keyV (k : Key) : Value := .agg #[.int .i64 k.a, .int .i64 k.b, .int .i64 k.c]

theorem info_table : (Try.prog.info? 109).map (fun i => (i.zero, i.size, i.bytes)) = some (some (.agg #[.pointer none, .slice none 0 0, .int .i64 0, .int .i64 0]), 4, 48) := by kernel_rfl
theorem info_place : (Try.prog.info? 114).map (fun i => (i.zero, i.size, i.bytes)) = some (some (.agg #[.int .i64 0, .int .i64 0, .int .i64 0, .int .i64 0, .int .i64 0]), 5, 40) := by kernel_rfl

theorem given_nil (w : World) : Calls Try.prog 55 #[.pointer none] w fun e w' => e = .returned (.bool false) ∧ w = w' := by
  go_enter Try.func55, Try.ntmps55
  go_wp2
  go_ret
  exact ⟨rfl, rfl⟩

theorem given_yes (t : Nat) (w : World) (h0 : w.cell? ⟨t, 0, none⟩ = some (.pointer (some ⟨t, 0, none⟩))) : Calls Try.prog 55 #[.pointer (some ⟨t, 0, none⟩)] w fun e w' => e = .returned (.bool true) ∧ w = w' := by
  obtain ⟨j, hj, _⟩ := info_parts info_table
  have heq := run_eql_ptr_same (P := Try.prog) w ⟨t, 0, none⟩ Try.underlying46 hj
  go_enter Try.func55, Try.ntmps55
  go_wp2
  go_ret
  exact ⟨rfl, rfl⟩

theorem given_no (t : Nat) (w : World) (h0 : w.cell? ⟨t, 0, none⟩ = some (.pointer none)) : Calls Try.prog 55 #[.pointer (some ⟨t, 0, none⟩)] w fun e w' => e = .returned (.bool false) ∧ w = w' := by
  have heq : (binOp .eql 46 (.pointer none) (.pointer (some ⟨t, 0, none⟩))).run Try.prog w = .ok (.bool false) w := by kernel_rfl
  go_enter Try.func55, Try.ntmps55
  go_wp2
  go_ret
  exact ⟨rfl, rfl⟩

def mmul (x : Int) : Int := IntKind.u64.wrap (bits BinOp.xor IntKind.u64 x (x / 4294967296) * 15485907386658061715)
def mfin (y : Int) : Int := bits BinOp.xor IntKind.u64 y (y / 4294967296)
def mstep (h n : Int) : Int := mfin (mmul (mmul (bits BinOp.xor IntKind.u64 h (IntKind.u64.wrap n))))
def mixTo (k : Key) : Nat → Int
  | 0 => 0
  | 1 => mstep 0 k.a
  | 2 => mstep (mstep 0 k.a) k.b
  | _ => mstep (mstep (mstep 0 k.a) k.b) k.c

theorem mix_any (k : Key) (w : World) : Calls Try.prog 63 #[keyV k] w fun e w' => e = .returned (.int .u64 (mixTo k 3)) ∧ Below w.heap.size w w' := by
  unfold keyV
  obtain ⟨a, b, c⟩ := k
  have i0 : ∀ w, (Instr.index 22 (.agg #[.int .i64 a, .int .i64 b, .int .i64 c]) (.int .i64 0)).run Try.prog w = .ok (.int .i64 a) w := fun _ => by kernel_rfl
  have i1 : ∀ w, (Instr.index 22 (.agg #[.int .i64 a, .int .i64 b, .int .i64 c]) (.int .i64 1)).run Try.prog w = .ok (.int .i64 b) w := fun _ => by kernel_rfl
  have i2 : ∀ w, (Instr.index 22 (.agg #[.int .i64 a, .int .i64 b, .int .i64 c]) (.int .i64 2)).run Try.prog w = .ok (.int .i64 c) w := fun _ => by kernel_rfl
  go_enter Try.func63, Try.ntmps63
  go_wp2
  go_loop [3, 7] (fun h i => ∃ j : Nat, j ≤ 3 ∧ i = .int .i64 j ∧ h = .int .u64 (mixTo ⟨a, b, c⟩ j)) (fun _ i => 3 - (intOf i).toNat)
  case atStart => exact ⟨0, by omega, rfl, rfl⟩
  case round =>
    obtain ⟨j, hj, rfl, rfl⟩ := hrel
    match j, hj with
    | 0, _ =>
      go_wp2
      go_round
      case rel => exact ⟨1, by omega, rfl, rfl⟩
      case measure => simp [intOf]
    | 1, _ =>
      go_wp2
      go_round
      case rel => exact ⟨2, by omega, rfl, rfl⟩
      case measure => simp [intOf]
    | 2, _ =>
      go_wp2
      go_round
      case rel => exact ⟨3, by omega, rfl, rfl⟩
      case measure => simp [intOf]
    | 3, _ =>
      go_wp2
      go_ret
      exact ⟨rfl, (Below.refl _ _).alloc (Nat.le_refl _) _⟩

/-- Where a key's way begins among m places. -/
def home (m : Nat) (k : Key) : Nat := (bits BinOp.and IntKind.i64 (wrap64 (mixTo k 3)) ((m : Int) - 1)).toNat

theorem ofInt_i64 (a : Nat) (ha : a < 9223372036854775808) : (BitVec.ofInt 64 (a : Int)).toNat = a := by
  rw [BitVec.ofInt_natCast, BitVec.toNat_ofNat]; exact Nat.mod_eq_of_lt (by omega)

theorem and_home (z : Int) (m : Nat) (h1 : 1 ≤ m) (h2 : m ≤ 1000000000) : ∃ a : Nat, a < m ∧ bits BinOp.and IntKind.i64 z ((m : Int) - 1) = (a : Int) := by
  refine ⟨(BitVec.ofInt 64 z).toNat &&& (m - 1), ?_, ?_⟩
  · have := Nat.and_le_right (n := (BitVec.ofInt 64 z).toNat) (m := m - 1)
    omega
  · have hx := Nat.and_le_right (n := (BitVec.ofInt 64 z).toNat) (m := m - 1)
    rw [show ((m : Int) - 1) = ((m - 1 : Nat) : Int) by omega]
    show IntKind.i64.wrap ((BitVec.ofInt 64 z &&& BitVec.ofInt 64 ((m - 1 : Nat) : Int)).toNat : Int) = _
    rw [BitVec.toNat_and, ofInt_i64 (m - 1) (by omega), IntKind.wrap_i64]
    omega

theorem home_eq (k : Key) (m : Nat) (h1 : 1 ≤ m) (h2 : m ≤ 1000000000) : bits BinOp.and IntKind.i64 (wrap64 (mixTo k 3)) ((m : Int) - 1) = ((home m k : Nat) : Int) ∧ home m k < m := by
  obtain ⟨a, ha, e⟩ := and_home (wrap64 (mixTo k 3)) m h1 h2
  have : home m k = a := by unfold home; rw [e]; rfl
  rw [this]; exact ⟨e, ha⟩

theorem wraps_i64 (n : Int) (h0 : 0 ≤ n) (h1 : n < 2 ^ 63) : IntKind.i64.wrap n = n := by rw [IntKind.wrap_i64]; omega

/-- The next place of a way, by the mask. -/
theorem and_next (x e : Nat) (h : x < 2 ^ e) (he : e ≤ 30) : bits BinOp.and IntKind.i64 ((x : Int) + 1) (((2 ^ e : Nat) : Int) - 1) = (((x + 1) % 2 ^ e : Nat) : Int) := by
  have h1 : (2 : Nat) ^ e ≤ 2 ^ 30 := Nat.pow_le_pow_right (by omega) he
  have h2 := bits_mask .i64 63 (by decide) wraps_i64 e (by omega) ((x : Int) + 1) (by omega) (by omega)
  have h3 : ((2 ^ e : Nat) : Int) = (2 : Int) ^ e := by rw [Int.natCast_pow]; rfl
  rw [h3, h2, ← h3, Int.natCast_emod, Int.natCast_add]
  rfl

theorem way_back (a j m : Nat) (ha : a < m) (hj : j < m) : ((a + j) % m + m - a) % m = j := by
  by_cases h : a + j < m
  · rw [Nat.mod_eq_of_lt h, show a + j + m - a = j + m by omega, Nat.add_mod_right, Nat.mod_eq_of_lt hj]
  · have : (a + j) % m = a + j - m := by
      rw [Nat.mod_eq_sub_mod (by omega), Nat.mod_eq_of_lt (by omega)]
    rw [this, show a + j - m + m - a = j by omega, Nat.mod_eq_of_lt hj]

/-- The cells of a place; of places. -/
def cellsOf (p : Pl) : List Value := [.int .i64 p.st, .int .i64 p.k.a, .int .i64 p.k.b, .int .i64 p.k.c, .int .i64 p.v]
def cellsAll (ps : List Pl) : List Value := ps.flatMap cellsOf

/-- The table at block t, with its places in block b. -/
structure Lies (w : World) (t b : Nat) (ps : List Pl) (n u : Nat) : Prop where
  head : w.heap[t]? = some (.cells #[.pointer (some ⟨t, 0, none⟩), .slice (some ⟨b, 0, none⟩) ps.length ps.length, .int .i64 n, .int .i64 u] 109 (0, 0))
  row : w.heap[b]? = some (.cells (cellsAll ps).toArray 114 (0, 0))
  ne : t ≠ b

theorem cellsAll_length (ps : List Pl) : (cellsAll ps).length = ps.length * 5 := by
  induction ps with
  | nil => rfl
  | cons p r ih =>
    show (cellsOf p ++ cellsAll r).length = _
    rw [List.length_append, ih]; simp [cellsOf]; omega

theorem cellsAll_get (ps : List Pl) : ∀ (x : Nat) (p : Pl) (c : Nat), ps[x]? = some p → c < 5 → (cellsAll ps)[x * 5 + c]? = (cellsOf p)[c]? := by
  induction ps with
  | nil => intro x p c h; simp at h
  | cons q r ih =>
    intro x p c h hc
    show (cellsOf q ++ cellsAll r)[x * 5 + c]? = _
    have hl : (cellsOf q).length = 5 := rfl
    cases x with
    | zero =>
      simp at h
      subst h
      rw [List.getElem?_append_left (by omega)]
      simp
    | succ x =>
      simp at h
      rw [List.getElem?_append_right (by omega), hl, ← ih x p c h hc]
      congr 1; omega

theorem Lies.lt_t {w : World} {t b : Nat} {ps : List Pl} {n u : Nat} (h : Lies w t b ps n u) : t < w.heap.size := by
  rcases Nat.lt_or_ge t w.heap.size with h1 | h1
  · exact h1
  · have := h.head; rw [Array.getElem?_eq_none h1] at this; cases this

theorem Lies.lt_b {w : World} {t b : Nat} {ps : List Pl} {n u : Nat} (h : Lies w t b ps n u) : b < w.heap.size := by
  rcases Nat.lt_or_ge b w.heap.size with h1 | h1
  · exact h1
  · have := h.row; rw [Array.getElem?_eq_none h1] at this; cases this

theorem Lies.keep {w w' : World} {t b : Nat} {ps : List Pl} {n u : Nat} (h : Lies w t b ps n u) (hb : Below w.heap.size w w') : Lies w' t b ps n u :=
  ⟨(hb.block t h.lt_t).trans h.head, (hb.block b h.lt_b).trans h.row, h.ne⟩

theorem Lies.cells {w : World} {t b : Nat} {ps : List Pl} {n u : Nat} (h : Lies w t b ps n u) {x : Nat} {p : Pl} (hx : ps[x]? = some p) :
    w.cell? ⟨b, x * 5, none⟩ = some (.int .i64 p.st) ∧ w.cell? ⟨b, x * 5 + 1, none⟩ = some (.int .i64 p.k.a) ∧ w.cell? ⟨b, x * 5 + 2, none⟩ = some (.int .i64 p.k.b) ∧
    w.cell? ⟨b, x * 5 + 3, none⟩ = some (.int .i64 p.k.c) ∧ w.cell? ⟨b, x * 5 + 4, none⟩ = some (.int .i64 p.v) := by
  have hc : ∀ c, c < 5 → w.cell? ⟨b, x * 5 + c, none⟩ = (cellsOf p)[c]? := by
    intro c hc
    rw [cell_of_row w b _ _ _ _ h.row, List.getElem?_toArray]
    exact cellsAll_get ps x p c hx hc
  exact ⟨hc 0 (by omega), hc 1 (by omega), hc 2 (by omega), hc 3 (by omega), hc 4 (by omega)⟩

theorem Lies.tops {w : World} {t b : Nat} {ps : List Pl} {n u : Nat} (h : Lies w t b ps n u) :
    w.cell? ⟨t, 0, none⟩ = some (.pointer (some ⟨t, 0, none⟩)) ∧ w.cell? ⟨t, 1, none⟩ = some (.slice (some ⟨b, 0, none⟩) ps.length ps.length) ∧ w.cell? ⟨t, 2, none⟩ = some (.int .i64 n) ∧ w.cell? ⟨t, 3, none⟩ = some (.int .i64 u) :=
  ⟨cell_of_row w t 0 _ _ _ h.head, cell_of_row w t 1 _ _ _ h.head, cell_of_row w t 2 _ _ _ h.head, cell_of_row w t 3 _ _ _ h.head⟩

theorem eqKey (a b : Key) (w : World) : (Op.equalIn 10000 22 (.agg #[.int .i64 a.a, .int .i64 a.b, .int .i64 a.c]) (.agg #[.int .i64 b.a, .int .i64 b.b, .int .i64 b.c])).run Try.prog w = .ok (decide (a = b)) w := by
  have u3 := Try.underlying3
  have a3 := Try.isAgg3
  have z3 := Try.sizeOf3
  rw [show (10000 : Nat) = 9999 + 1 from rfl, Op.equalIn]
  simp only [Sem.run_bind, run_underlying Try.underlying22, Result.andThen_ok]
  simp only [Std.Legacy.Range.forIn_eq_forIn_range', Std.Legacy.Range.size, Nat.sub_zero, Nat.add_sub_cancel, Nat.div_one, List.range'_succ, List.range'_zero, List.forIn_cons, List.forIn_nil]
  go_simp
  obtain ⟨a1, a2, a3⟩ := a
  obtain ⟨b1, b2, b3⟩ := b
  by_cases h1 : a1 = b1 <;> by_cases h2 : a2 = b2 <;> by_cases h3 : a3 = b3 <;> simp [h1, h2, h3]

/-- Slots 7 and 8 at a round's head: the spare place, and the place that is looked at. -/
def FindRel (ps : List Pl) (a : Nat) (k : Key) (w1 : World) (sp ix : Value) (wr : World) : Prop :=
  ∃ (j q x : Nat) (s : Int), j < ps.length ∧ Walked ps a k j ∧ Hid (x = (a + j) % ps.length) ∧ x < ps.length ∧ ix = .int .i64 x ∧ sp = .int .i64 s ∧ -1 ≤ s ∧ wr = w1.drewN q ∧
    (0 ≤ s → ∃ i, i < j ∧ s = (((a + i) % ps.length : Nat) : Int) ∧ ∃ p, ps[(a + i) % ps.length]? = some p ∧ p.st ≠ 1)

theorem box_cells {w w1 : World} {k : Key} {T : TypeId} (hb : Below (w.alloc (.cells #[.int .i64 k.a, .int .i64 k.b, .int .i64 k.c] T)).heap.size (w.alloc (.cells #[.int .i64 k.a, .int .i64 k.b, .int .i64 k.c] T)) w1) :
    w1.cell? ⟨w.heap.size, 0, none⟩ = some (.int .i64 k.a) ∧ w1.cell? ⟨w.heap.size, 1, none⟩ = some (.int .i64 k.b) ∧ w1.cell? ⟨w.heap.size, 2, none⟩ = some (.int .i64 k.c) := by
  have h : w1.heap[w.heap.size]? = some (.cells #[.int .i64 k.a, .int .i64 k.b, .int .i64 k.c] T (0, 0)) := (hb.block w.heap.size (by simp)).trans (heap_alloc_new w _)
  exact ⟨cell_of_row w1 _ 0 _ _ _ h, cell_of_row w1 _ 1 _ _ _ h, cell_of_row w1 _ 2 _ _ _ h⟩

def FindOut (ps : List Pl) (k : Key) (w : World) (e : Ending) (w' : World) : Prop :=
  ∃ (x : Nat) (there : Bool), e = .returned (.tuple #[.int .i64 x, .bool there]) ∧ x < ps.length ∧ Found (home ps.length) ps k x there ∧ Below w.heap.size w w'

theorem below_drewN {B : Nat} {a w : World} (h : Below B a w) (n : Nat) : Below B a (w.drewN n) := ⟨h.os, h.tape, h.output, h.size, h.block⟩

/-- The measure of a round: how much of the way is left. -/
def left (m a x : Nat) : Nat := m - (x + m - a) % m

theorem left_lt (m a j : Nat) (ha : a < m) (hj : j + 1 < m) : left m a ((a + (j + 1)) % m) < left m a ((a + j) % m) := by
  unfold left
  rw [way_back a j m ha (by omega), way_back a (j + 1) m ha hj]; omega

theorem find_next {ps : List Pl} {a : Nat} {k : Key} {w1 : World} {j q x : Nat} {s s' : Int} {p : Pl} {pw : Nat} (ha : a < ps.length) (hf : ps.countP used < ps.length) (hpw : ps.length = 2 ^ pw) (hpw2 : pw ≤ 30)
    (hw : Walked ps a k j) (hx : x = (a + j) % ps.length) (hxl : x < ps.length) (hp : ps[x]? = some p) (h0 : p.st ≠ 0) (h1 : ¬ (p.st = 1 ∧ p.k = k)) (hs : -1 ≤ s')
    (hsp : 0 ≤ s → ∃ i, i < j ∧ s = (((a + i) % ps.length : Nat) : Int) ∧ ∃ p, ps[(a + i) % ps.length]? = some p ∧ p.st ≠ 1)
    (hss : s' = s ∨ s' = x ∧ p.st ≠ 1) :
    FindRel ps a k w1 (.int .i64 s') (.int .i64 (bits BinOp.and IntKind.i64 ((x : Int) + 1) ((ps.length : Int) - 1))) (w1.drewN q) ∧
    left ps.length a (intOf (.int .i64 (bits BinOp.and IntKind.i64 ((x : Int) + 1) ((ps.length : Int) - 1)))).toNat < left ps.length a (intOf (.int .i64 (x : Int))).toNat := by
  have hn : bits BinOp.and IntKind.i64 ((x : Int) + 1) ((ps.length : Int) - 1) = (((a + (j + 1)) % ps.length : Nat) : Int) := by
    have := and_next x pw (by omega) hpw2
    rw [← hpw] at this
    rw [this, hx, way_next]
  have hw' : Walked ps a k (j + 1) := hw.next (by rw [← hx]; exact hp) h0 h1
  have hj' := hw'.lt hf
  rw [hn]
  refine ⟨⟨j + 1, q, _, s', hj', hw', rfl, Nat.mod_lt _ (by omega), rfl, rfl, hs, rfl, ?_⟩, ?_⟩
  · intro h
    rcases hss with rfl | ⟨rfl, h2⟩
    · obtain ⟨i, hi, e, r⟩ := hsp h
      exact ⟨i, by omega, e, r⟩
    · exact ⟨j, by omega, by rw [hx], p, by rw [← hx]; exact hp, h2⟩
  · show left ps.length a (((a + (j + 1)) % ps.length : Nat) : Int).toNat < left ps.length a (x : Int).toNat
    rw [hx]
    exact left_lt _ _ _ ha hj'

theorem find_here {ps : List Pl} {k : Key} {x : Nat} {p : Pl} (hp : ps[x]? = some p) (h0 : p.st = 1) (hk : p.k = k) : Found (home ps.length) ps k x true := by
  obtain ⟨st, k', v⟩ := p
  simp only at h0 hk
  subst h0 hk
  simp only [Found, if_true]
  exact ⟨v, hp⟩

theorem find_end {ps : List Pl} {k : Key} {j x : Nat} {p : Pl} (hj : j < ps.length) (hw : Walked ps (home ps.length k) k j) (hx : x = (home ps.length k + j) % ps.length) (hp : ps[x]? = some p) (h0 : p.st = 0) : Found (home ps.length) ps k x false := by
  simp only [Found, Bool.false_eq_true, if_false]
  exact ⟨j, j, hj, Nat.le_refl _, hw, ⟨p, by rw [← hx]; exact hp, h0⟩, hx, p, hp, by omega⟩

theorem find_spare {ps : List Pl} {k : Key} {j x : Nat} {p : Pl} {s : Int} (hj : j < ps.length) (hw : Walked ps (home ps.length k) k j) (hx : x = (home ps.length k + j) % ps.length) (hp : ps[x]? = some p) (h0 : p.st = 0) (hs : 0 ≤ s)
    (hsp : 0 ≤ s → ∃ i, i < j ∧ s = (((home ps.length k + i) % ps.length : Nat) : Int) ∧ ∃ p, ps[(home ps.length k + i) % ps.length]? = some p ∧ p.st ≠ 1) : ∃ y : Nat, s = (y : Int) ∧ y < ps.length ∧ Found (home ps.length) ps k y false := by
  obtain ⟨i, hi, e, r⟩ := hsp hs
  refine ⟨_, e, Nat.mod_lt _ (by omega), ?_⟩
  simp only [Found, Bool.false_eq_true, if_false]
  exact ⟨j, i, hj, by omega, hw, ⟨p, by rw [← hx]; exact hp, h0⟩, rfl, r⟩

theorem find_any (k : Key) (t b : Nat) (ps : List Pl) (n u : Nat) (w : World) (h : Lies w t b ps n u) (pw : Nat) (hpw : ps.length = 2 ^ pw) (hpw2 : pw ≤ 23) (hf : ps.countP used < ps.length) :
    Calls Try.prog 56 #[.pointer (some ⟨t, 0, none⟩), keyV k] w (FindOut ps k w) := by
  unfold keyV
  have hl : ps.length ≤ 8388608 := by
    rw [hpw]; exact Nat.pow_le_pow_right (n := 2) (by omega) hpw2
  have hl1 : 1 ≤ ps.length := by omega
  obtain ⟨_, c1, _, _⟩ := h.tops
  obtain ⟨hae, hal⟩ := home_eq k ps.length hl1 (by omega)
  obtain ⟨a, ha⟩ : ∃ a, home ps.length k = a := ⟨_, rfl⟩
  have HA := Lib.hid ha
  rw [ha] at hae hal
  have HAE := Lib.hid hae
  have HPW := Lib.hid hpw
  have HF := Lib.hid hf
  have ht := h.lt_t
  clear ha hae hpw hf
  go_enter Try.func56, Try.ntmps56
  go_wp2_with fail
  refine (mix_any k _).mono ?_
  rintro e w1 ⟨rfl, hb⟩
  have h1 := h.keep (((Below.refl _ _).alloc (Nat.le_refl _) _).trans (hb.mono (by simp)))
  have hbel : Below w.heap.size w w1 := ((Below.refl _ _).alloc (Nat.le_refl _) _).trans (hb.mono (by simp))
  clear c1 ht
  obtain ⟨_, c1, _, _⟩ := h1.tops
  obtain ⟨k0, k1, k2⟩ := box_cells hb
  go_wp2_with fail
  rw [HAE.out]
  go_loopw [7, 8] (FindRel ps a k w1) (fun _ ix _ => left ps.length a (intOf ix).toNat)
  case atStart => exact ⟨0, 0, a, -1, by omega, Walked.zero _ _ _, Lib.hid (by rw [Nat.add_zero, Nat.mod_eq_of_lt hal]), hal, rfl, rfl, by omega, rfl, fun h => absurd h (by omega)⟩
  case round =>
    obtain ⟨j, q, x, s, hj, hw, hx, hxl, rfl, rfl, hs, rfl, hsp⟩ := hrel
    obtain ⟨p, hp⟩ : ∃ p, ps[x]? = some p := ⟨_, List.getElem?_eq_getElem hxl⟩
    obtain ⟨d0, d1, d2, d3, d4⟩ := h1.cells hp
    have HP := Lib.hid hp
    have HS := Lib.hid hsp
    clear hp hsp
    by_cases h0 : p.st = 1
    · by_cases hk : p.k = k
      · have he : ∀ w, (Op.equalIn 10000 22 (.agg #[.int .i64 k.a, .int .i64 k.b, .int .i64 k.c]) (.agg #[.int .i64 k.a, .int .i64 k.b, .int .i64 k.c])).run Try.prog w = .ok true w := fun w => by rw [eqKey, decide_eq_true rfl]
        have HK := Lib.hid hk
        rw [h0] at d0
        have H0 := Lib.hid h0
        rw [hk] at d1 d2 d3
        clear hk h0
        go_wp2_with fail
        go_quiet (fail)
        go_wp2_with fail
        go_ret2
        exact ⟨x, true, rfl, hxl, find_here HP.out H0.out HK.out, below_drewN (below_drewN hbel _) _⟩
      · have he : ∀ w, (Op.equalIn 10000 22 (.agg #[.int .i64 p.k.a, .int .i64 p.k.b, .int .i64 p.k.c]) (.agg #[.int .i64 k.a, .int .i64 k.b, .int .i64 k.c])).run Try.prog w = .ok false w := fun w => by rw [eqKey, decide_eq_false hk]
        have HK := Lib.hid hk
        rw [h0] at d0
        have H0 := Lib.hid h0
        clear hk h0
        go_wp2_with fail
        go_quiet (fail)
        go_wp2_with fail
        exact find_next hal HF.out HPW.out (by omega) hw hx hxl HP.out (by rw [H0.out]; omega) (fun h => HK.out h.2) hs HS.out (.inl rfl)
    · by_cases h2 : p.st = 2
      · rw [h2] at d0
        have H2 := Lib.hid h2
        clear h0 h2
        by_cases hs0 : s < 0
        · go_wp2_with fail
          go_quiet (fail)
          go_wp2_with fail
          exact find_next hal HF.out HPW.out (by omega) hw hx hxl HP.out (by rw [H2.out]; omega) (fun h => by have := H2.out; omega) (by omega) HS.out (.inr ⟨rfl, by rw [H2.out]; omega⟩)
        · go_wp2_with fail
          go_quiet (fail)
          go_wp2_with fail
          exact find_next hal HF.out HPW.out (by omega) hw hx hxl HP.out (by rw [H2.out]; omega) (fun h => by have := H2.out; omega) hs HS.out (.inl rfl)
      · by_cases h3 : p.st = 0
        · rw [h3] at d0
          have H3 := Lib.hid h3
          clear h0 h2 h3
          by_cases hs0 : s < 0
          · go_wp2_with fail
            go_ret2
            have ha := HA.out
            subst ha
            exact ⟨x, false, rfl, hxl, find_end hj hw hx HP.out H3.out, below_drewN hbel _⟩
          · have ha := HA.out
            subst ha
            obtain ⟨y, rfl, hyl, hy⟩ := find_spare hj hw hx HP.out H3.out (by omega) HS.out
            have HY := Lib.hid hy
            clear hy
            go_wp2_with fail
            go_ret2
            exact ⟨y, false, rfl, hyl, HY.out, below_drewN hbel _⟩
        · obtain ⟨y, hy⟩ : ∃ y : Int, (p.st : Int) = y := ⟨_, rfl⟩
          have y0 : (y != 0) = true := by simp; omega
          have y1 : (y == 1) = false := by simp; omega
          have y2 : (y == 2) = false := by simp; omega
          rw [hy] at d0
          have HY := Lib.hid hy
          have H3 := Lib.hid h3
          have H0 := Lib.hid h0
          clear h0 h2 h3 hy
          go_wp2_with fail
          go_quiet (fail)
          go_wp2_with fail
          exact find_next hal HF.out HPW.out (by omega) hw hx hxl HP.out H3.out (fun h => H0.out h.1) hs HS.out (.inl rfl)
end Go.Proofs.Ytfdebadmikmnaaa
