/- Merged: QList, QSets. -/
import Derived.Test.YtmbkkifopmbkaaaML
import Derived.Laws.AppendOwn

/- Layer 5's laws: the variables of a set as a list; answers for some values of them. -/
namespace Go.Proofs.Ytmbkkifopmbkaaa
open Go.ChangeShapes Go.WideShapes Go.ChangeAt Go.RowKit Go.Maps

/-- A row of ints that is the call's own. -/
abbrev IRow (w : World) (B : Nat) (v : Value) (l : List Nat) : Prop := w.ownsRow B 3 1 v l.length (ints (vInts l))

theorem IRow.rd {w : World} {B : Nat} {v : Value} {l : List Nat} (h : IRow w B v l) : ∃ A c, v = .slice A l.length c ∧ Rd w A (ints (vInts l)) := by
  rcases h.2 with ⟨rfl, hx⟩ | ⟨g, cap, cur, rfl, hg, hr, hc, hm, hs, ht⟩
  · have hl : l = [] := List.eq_nil_of_length_eq_zero hx
    subst hl
    exact ⟨none, 0, rfl, .inl rfl⟩
  · refine ⟨_, _, rfl, .inr ⟨g, 0, rfl, row_lt hr, fun j u hu => ?_⟩⟩
    rw [Nat.zero_add]
    have hj : j < l.length := by
      have := (List.getElem?_eq_some_iff.1 hu).1
      simpa using this
    rw [← ht, List.getElem?_take, if_pos (by omega), Array.getElem?_toList] at hu
    unfold World.cell?
    rw [hr]
    exact hu
theorem IRow.keep {w w' : World} {B : Nat} {v : Value} {l : List Nat} (h : IRow w B v l) (hb : Below w.heap.size w w') : IRow w' B v l := by
  refine ⟨h.1, ?_⟩
  rcases h.2 with hx | ⟨g, cap, cur, rfl, hg, hr, hc⟩
  · exact .inl hx
  · exact .inr ⟨g, cap, cur, rfl, hg, (hb.block g (row_lt hr)).trans hr, hc⟩
theorem IRow.nil (w : World) (B : Nat) : IRow w B (.slice none 0 0) [] := World.ownsRow_nil _ _ _ _

theorem info_intQ : (Try.prog.info? 3).map (fun i => (i.zero, i.size, i.bytes)) = some (some (.int .i64 0), 1, 8) := by kernel_rfl

def listN (s i : Nat) : List Nat := (List.range i).filter fun v => s.testBit v
theorem listN_succ (s i : Nat) : listN s (i + 1) = listN s i ++ if s.testBit i then [i] else [] := by
  unfold listN
  rw [List.range_succ, List.filter_append]
  simp only [List.filter_cons, List.filter_nil]
theorem listN_len (s i : Nat) : (listN s i).length ≤ i := by
  unfold listN
  exact Nat.le_trans (List.length_filter_le _ _) (by simp)

def ListOut (s : Nat) (w : World) (e : Ending) (w' : World) : Prop := ∃ v, e = .returned v ∧ IRow w' w.heap.size v (listN s 4) ∧ Below w.heap.size w w'

theorem bit_eq (x p : Nat) : (bits BinOp.and IntKind.i64 ((x : Int) / 2 ^ p) 1 == 1) = x.testBit p := by
  rw [bit_and]
  cases x.testBit p <;> rfl

set_option maxRecDepth 100000 in
set_option maxHeartbeats 4000000 in
theorem list_any {s : Nat} (w : World) : Calls Try.prog 15 #[.int .i64 (s : Int)] w (ListOut s w) := by
  obtain ⟨i0, hi, hz0, hz1, hz2⟩ := info_parts info_intQ
  go_enter Try.func15, Try.ntmps15
  go_wp2_with fail
  go_loopw [3, 4] (fun v iv wr => ∃ j : Nat, j ≤ 4 ∧ iv = .int .i64 j ∧ IRow wr w.heap.size v (listN s j) ∧ Below w.heap.size w wr) (fun _ iv _ => 4 - (intOf iv).toNat)
  case atStart => exact ⟨0, Nat.zero_le _, rfl, IRow.nil _ _, Below.refl _ _⟩
  case round =>
    obtain ⟨j, hj, rfl, hown, hbel⟩ := hrel
    have hl4 := listN_len s j
    by_cases hlt : j < 4
    · have e3 := bit_and s j
      have hlt' : (j : Int) < 4 := by omega
      cases hb : s.testBit j with
      | true =>
        rw [hb, if_pos rfl] at e3
        have LS : Hid (listN s (j + 1) = listN s j ++ [j]) := by show _ = _; rw [listN_succ, hb, if_pos rfl]
        have hsz := hbel.size
        clear hb
        go_wp2_with (at_builtin; refine wpList_append_own _ rfl _ _ 34 rfl w.heap.size 3 i0 (.int .i64 0) 1 8 Try.underlying34 hi hz0 hz1 hz2 rfl (by decide) _ _ _ rfl (hown.alloc _) ⟨wr.heap.size, 0, none⟩ 1 1 [.int .i64 (j : Int)] rfl rfl ?c1 ?c2 ?c3 ?c4 ?c5 ?_)
        case c1 =>
          intro i u hu
          match i, hu with
          | 0, hu => simp at hu; subst hu; simp [Addr.add]
        case c2 => intro u hu; simp at hu; subst hu; rfl
        case c3 => unfold maxLen; omega
        case c4 => omega
        case c5 => simp; omega
        intro v' w1 hown' hgrow _
        have HO : Hid (IRow w1 w.heap.size v' (listN s (j + 1))) := Lib.hid (by
          rw [LS.out]
          show w1.ownsRow _ _ _ v' (listN s j ++ [j]).length (((listN s j ++ [j]).map fun (x : Nat) => (x : Int)).map (Value.int .i64))
          simpa using hown')
        have hb1 : Below w.heap.size w w1 := (hbel.alloc (by omega) _).grown hgrow (by simp; omega) (by
          intro g hg
          rcases hown.2 with ⟨rfl, _⟩ | ⟨g', cap, cur, rfl, hb, _⟩
          · simp [Value.ownBlock] at hg
          · simp [Value.ownBlock] at hg; omega)
        clear hown' hgrow hown hbel hl4
        go_wp2_with fail
        go_roundw
        case rel => exact ⟨j + 1, by omega, by go_num, HO.out, hb1⟩
        case measure => simp [intOf]; omega
      | false =>
        rw [hb, if_neg (by simp)] at e3
        have e : listN s (j + 1) = listN s j := by rw [listN_succ, hb, if_neg (by simp), List.append_nil]
        rw [← e] at hown
        have HO := Lib.hid hown
        clear hb hown hl4 e
        go_wp2_with fail
        go_roundw
        case rel => exact ⟨j + 1, by omega, by go_num, HO.out, hbel⟩
        case measure => simp [intOf]; omega
    · obtain rfl : j = 4 := by omega
      have HO := Lib.hid hown
      clear hown hl4
      go_wp2_with fail
      go_ret
      exact ⟨_, rfl, HO.out, hbel⟩

/-- Sixteen answers for some values of the first variables of a set. -/
def exN (x s : Nat) : Nat → Nat
  | 0 => x
  | i + 1 => if s.testBit i then restN (exN x s i) i false ||| restN (exN x s i) i true else exN x s i

theorem exN_lt {x s : Nat} (hx : x < 65536) : ∀ i, exN x s i < 65536
  | 0 => hx
  | i + 1 => by
    unfold exN
    split
    · exact Nat.or_lt_two_pow (n := 16) (restN_lt _ _ _) (restN_lt _ _ _)
    · exact exN_lt hx i

def ExNOut (x s : Nat) (w : World) (e : Ending) (w' : World) : Prop := e = .returned (.int .i64 (exN x s 4 : Nat)) ∧ w = w'

set_option maxRecDepth 100000 in
set_option maxHeartbeats 4000000 in
theorem exists_any {x s : Nat} (hx : x < 65536) (w : World) : Calls Try.prog 16 #[.int .i64 (x : Int), .int .i64 (s : Int)] w (ExNOut x s w) := by
  have HX := Lib.hid hx
  clear hx
  go_enter Try.func16, Try.ntmps16
  go_wp2_with fail
  go_loopw [0, 5] (fun ov iv wr => ∃ i : Nat, i ≤ 4 ∧ iv = .int .i64 i ∧ ov = .int .i64 (exN x s i : Nat) ∧ w = wr) (fun _ iv _ => 4 - (intOf iv).toNat)
  case atStart => exact ⟨0, by omega, rfl, rfl, rfl⟩
  case round =>
    obtain ⟨i, hi, rfl, rfl, rfl⟩ := hrel
    by_cases hlt : i < 4
    · have e3 := bit_and s i
      have hlt' : (i : Int) < 4 := by omega
      have RF := Lib.hid (rest_any (x := exN x s i) (v := i) false (exN_lt HX.out i) hlt w)
      have RT := Lib.hid (rest_any (x := exN x s i) (v := i) true (exN_lt HX.out i) hlt w)
      cases hb : s.testBit i with
      | true =>
        rw [hb, if_pos rfl] at e3
        have LS : Hid (exN x s (i + 1) = restN (exN x s i) i false ||| restN (exN x s i) i true) := by show _ = _; conv => lhs; unfold exN; rw [if_pos hb]
        have e4 := b_or (a := restN (exN x s i) i false) (b := restN (exN x s i) i true) (restN_lt _ _ _) (restN_lt _ _ _)
        have E4 := Lib.hid e4
        clear hb e4
        go_wp2_with fail
        refine RF.out.mono ?_
        rintro e w1 ⟨rfl, rfl⟩
        go_wp2_with fail
        refine RT.out.mono ?_
        rintro e w1 ⟨rfl, rfl⟩
        have e4 := E4.out
        go_wp2_with fail
        go_roundw
        case rel => exact ⟨i + 1, by omega, by go_num, by rw [LS.out], trivial⟩
        case measure => simp [intOf]; omega
      | false =>
        rw [hb, if_neg (by simp)] at e3
        have LS : Hid (exN x s (i + 1) = exN x s i) := by show _ = _; conv => lhs; unfold exN; rw [if_neg (by rw [hb]; simp)]
        clear hb
        go_wp2_with fail
        go_roundw
        case rel => exact ⟨i + 1, by omega, by go_num, by rw [LS.out], trivial⟩
        case measure => simp [intOf]; omega
    · obtain rfl : i = 4 := by omega
      go_wp2_with fail
      go_ret
      exact ⟨rfl, rfl⟩

/-- The same, of what values say. -/
def fE (s : Nat) (f : (Nat → Bool) → Bool) : Nat → (Nat → Bool) → Bool
  | 0, val => f val
  | i + 1, val => if s.testBit i then fE s f i (upd val i false) || fE s f i (upd val i true) else fE s f i val

theorem bitZ_or (a b j : Nat) : bitZ ((a ||| b : Nat) : Int) j = (bitZ (a : Nat) j || bitZ (b : Nat) j) := by
  rw [bitZ_nat, bitZ_nat, bitZ_nat, Nat.testBit_or]

theorem exN_says {x s : Nat} : ∀ i, i ≤ 4 → ∀ val, bitZ (exN x s i : Nat) (tix val 4 0 0) = fE s (fun val => bitZ (x : Nat) (tix val 4 0 0)) i val
  | 0, _, _ => rfl
  | i + 1, hi, val => by
    unfold exN fE
    cases hb : s.testBit i with
    | true =>
      rw [if_pos rfl, if_pos rfl, bitZ_or, rest_says (by omega), rest_says (by omega), exN_says i (by omega), exN_says i (by omega)]
    | false =>
      rw [if_neg (by simp), if_neg (by simp), exN_says i (by omega)]

theorem fE_iff {s : Nat} {f : (Nat → Bool) → Bool} : ∀ i val, fE s f i val = true ↔ ∃ y, (∀ j : Nat, (j < i ∧ s.testBit j = true) ∨ y j = val j) ∧ f y = true
  | 0, val => by
    constructor
    · intro h; exact ⟨val, fun j => .inr rfl, h⟩
    · rintro ⟨y, h1, h2⟩
      have : y = val := by funext j; exact (h1 j).elim (fun h => by omega) id
      rw [← this]; exact h2
  | i + 1, val => by
    have ih := fE_iff (s := s) (f := f) i
    unfold fE
    cases hb : s.testBit i with
    | true =>
      rw [if_pos rfl, Bool.or_eq_true, ih, ih]
      have back : ∀ b, (∃ y, (∀ j : Nat, (j < i ∧ s.testBit j = true) ∨ y j = upd val i b j) ∧ f y = true) → ∃ y, (∀ j : Nat, (j < i + 1 ∧ s.testBit j = true) ∨ y j = val j) ∧ f y = true := by
        rintro b ⟨y, h1, h2⟩
        refine ⟨y, fun j => ?_, h2⟩
        by_cases e : j = i
        · subst e; exact .inl ⟨by omega, hb⟩
        · rcases h1 j with h | h
          · exact .inl ⟨by omega, h.2⟩
          · unfold upd at h; rw [if_neg e] at h; exact .inr h
      constructor
      · rintro (h | h)
        · exact back _ h
        · exact back _ h
      · rintro ⟨y, h1, h2⟩
        have fwd : ∃ y', (∀ j : Nat, (j < i ∧ s.testBit j = true) ∨ y' j = upd val i (y i) j) ∧ f y' = true := by
          refine ⟨y, fun j => ?_, h2⟩
          by_cases e : j = i
          · subst e; right; simp [upd]
          · rcases h1 j with h | h
            · exact .inl ⟨by omega, h.2⟩
            · right; unfold upd; rw [if_neg e]; exact h
        cases hy : y i with
        | false => rw [hy] at fwd; exact .inl fwd
        | true => rw [hy] at fwd; exact .inr fwd
    | false =>
      rw [if_neg (by simp), ih]
      constructor
      · rintro ⟨y, h1, h2⟩
        exact ⟨y, fun j => (h1 j).imp (fun h => ⟨by omega, h.2⟩) id, h2⟩
      · rintro ⟨y, h1, h2⟩
        refine ⟨y, fun j => ?_, h2⟩
        rcases h1 j with h | h
        · left
          have : j ≠ i := by rintro rfl; rw [hb] at h; exact absurd h.2 (by simp)
          exact ⟨by omega, h.2⟩
        · exact .inr h

/-- A list has the variables of a set. -/
def Has (l : List Nat) (s : Nat) : Prop := ∀ j, j ∈ l ↔ (j < 4 ∧ s.testBit j = true)
theorem listN_has (s : Nat) : Has (listN s 4) s := fun j => by unfold listN; simp [List.mem_filter]
theorem Has.lt {l : List Nat} {s : Nat} (h : Has l s) : ∀ x ∈ l, x < 4 := fun x hx => ((h x).1 hx).1

theorem exF_set {l : List Nat} {s : Nat} (h : Has l s) {f : (Nat → Bool) → Bool} (val : Nat → Bool) : exF (markS l) f val = fE s f 4 val := by
  rw [Bool.eq_iff_iff, exF_iff, fE_iff]
  unfold Ex
  constructor
  · rintro ⟨y, h1, h2⟩
    refine ⟨y, fun j => ?_, h2⟩
    by_cases e : j ∈ l
    · exact .inl ((h j).1 e)
    · exact .inr (h1 j (by simp [markS, e]))
  · rintro ⟨y, h1, h2⟩
    refine ⟨y, fun j hj => ?_, h2⟩
    rcases h1 j with h3 | h3
    · have := (h j).2 h3
      simp [markS, this] at hj
    · exact h3

theorem bitZ_and (a b j : Nat) : bitZ ((a &&& b : Nat) : Int) j = (bitZ (a : Nat) j && bitZ (b : Nat) j) := by
  rw [bitZ_nat, bitZ_nat, bitZ_nat, Nat.testBit_and]

theorem of16 {x : Int} {a : Nat} (ea : x % 65536 = (a : Int)) : (BitVec.ofInt 64 x).toNat % 65536 = a := by rw [BitVec.toNat_ofInt]; omega
theorem and_bv {x y : Int} : bits BinOp.and IntKind.i64 x y = IntKind.i64.wrap ((BitVec.ofInt 64 x &&& BitVec.ofInt 64 y).toNat : Int) := rfl
theorem and16 {X Y a b : Nat} (hX : X % 65536 = a) (hY : Y % 65536 = b) : (X &&& Y) % 65536 = a &&& b := by
  have h3 := Nat.and_mod_two_pow (a := X) (b := Y) (n := 16)
  rw [show (2 : Nat) ^ 16 = 65536 from by decide] at h3
  rw [h3, hX, hY]
theorem wrap16 {Z c : Nat} (h : Z % 65536 = c) : IntKind.i64.wrap (Z : Int) % 65536 = (c : Int) := by
  rw [IntKind.wrap_i64]
  omega

/-- The low sixteen bits of two numbers' common bits. -/
theorem and_both {x y : Int} {a b : Nat} (ea : bits BinOp.and IntKind.i64 x 65535 = (a : Int)) (eb : bits BinOp.and IntKind.i64 y 65535 = (b : Int)) : bits BinOp.and IntKind.i64 (bits BinOp.and IntKind.i64 x y) 65535 = ((a &&& b : Nat) : Int) := by
  have h1 := and_mask16 (bits BinOp.and IntKind.i64 x y)
  have h2 := of16 ((and_mask16 x).symm.trans ea)
  have h3 := of16 ((and_mask16 y).symm.trans eb)
  have h4 := and16 h2 h3
  rw [← BitVec.toNat_and] at h4
  exact h1.trans ((congrArg (fun z : Int => z % 65536) and_bv).trans (wrap16 h4))
end Go.Proofs.Ytmbkkifopmbkaaa

/- Layer 5's laws: sets of variables, one behind another. -/
namespace Go.Proofs.Ytmbkkifopmbkaaa
open Go.ChangeShapes Go.WideShapes Go.ChangeAt Go.RowKit Go.Maps

theorem fE_two {s t : Nat} {f : (Nat → Bool) → Bool} (val : Nat → Bool) : fE t (fE s f 4) 4 val = fE (s ||| t) f 4 val := by
  rw [Bool.eq_iff_iff, fE_iff, fE_iff]
  constructor
  · rintro ⟨y, h1, h2⟩
    obtain ⟨z, h3, h4⟩ := (fE_iff 4 y).1 h2
    refine ⟨z, fun j => ?_, h4⟩
    rcases h3 j with h | h
    · exact .inl ⟨h.1, by rw [Nat.testBit_or, h.2]; rfl⟩
    · rcases h1 j with h5 | h5
      · exact .inl ⟨h5.1, by rw [Nat.testBit_or, h5.2, Bool.or_true]⟩
      · exact .inr (h.trans h5)
  · rintro ⟨z, h1, h2⟩
    refine ⟨fun j => if j < 4 ∧ s.testBit j = true then val j else z j, fun j => ?_, (fE_iff 4 _).2 ⟨z, fun j => ?_, h2⟩⟩
    · by_cases e : j < 4 ∧ s.testBit j = true
      · right; simp only [e, and_self, if_true]
      · rcases h1 j with h | h
        · left
          refine ⟨h.1, ?_⟩
          have h3 := h.2
          rw [Nat.testBit_or] at h3
          cases hs : s.testBit j with
          | true => exact absurd ⟨h.1, hs⟩ e
          | false => rw [hs] at h3; exact h3
        · right; simp only [e, if_false]; exact h
    · by_cases e : j < 4 ∧ s.testBit j = true
      · exact .inl e
      · right; simp only [e, if_false]

theorem fE_indep {s : Nat} {f : (Nat → Bool) → Bool} {y val : Nat → Bool} (h : ∀ j : Nat, (j < 4 ∧ s.testBit j = true) ∨ y j = val j) : fE s f 4 y = fE s f 4 val := by
  rw [Bool.eq_iff_iff, fE_iff, fE_iff]
  constructor
  · rintro ⟨z, h1, h2⟩
    exact ⟨z, fun j => (h1 j).elim .inl fun e => (h j).imp id fun e2 => e.trans e2, h2⟩
  · rintro ⟨z, h1, h2⟩
    exact ⟨z, fun j => (h1 j).elim .inl fun e => (h j).imp id fun e2 => e.trans e2.symm, h2⟩

theorem fE_prod {s : Nat} {f g : (Nat → Bool) → Bool} (val : Nat → Bool) : fE s (fun v => f v && fE s g 4 v) 4 val = (fE s f 4 val && fE s g 4 val) := by
  rw [Bool.eq_iff_iff, Bool.and_eq_true, fE_iff, fE_iff (f := f)]
  constructor
  · rintro ⟨z, h1, h2⟩
    rw [Bool.and_eq_true] at h2
    exact ⟨⟨z, h1, h2.1⟩, (fE_indep h1).symm.trans h2.2⟩
  · rintro ⟨⟨z, h1, h2⟩, h3⟩
    exact ⟨z, h1, by rw [Bool.and_eq_true]; exact ⟨h2, (fE_indep h1).trans h3⟩⟩

theorem exF_one {v : Nat} {f : (Nat → Bool) → Bool} (val : Nat → Bool) : exF (markS [v]) f val = (f (upd val v false) || f (upd val v true)) := by
  rw [Bool.eq_iff_iff, exF_iff, Bool.or_eq_true]
  have back : ∀ b, f (upd val v b) = true → Ex (markS [v]) f val := fun b h => ⟨upd val v b, fun i hi => by
    have : i ≠ v := by rintro rfl; simp [markS] at hi
    unfold upd; rw [if_neg this], h⟩
  constructor
  · rintro ⟨y, h1, h2⟩
    have e : y = upd val v (y v) := by
      funext i
      unfold upd
      by_cases hi : i = v
      · rw [if_pos hi, hi]
      · rw [if_neg hi]; exact h1 i (by simp [markS, hi])
    rw [e] at h2
    cases hy : y v with
    | false => rw [hy] at h2; exact .inl h2
    | true => rw [hy] at h2; exact .inr h2
  · rintro (h | h)
    · exact back _ h
    · exact back _ h

theorem or4 {s t : Nat} (hs : s < 16) (ht : t < 16) : bits BinOp.or IntKind.i64 (s : Int) (t : Int) = ((s ||| t : Nat) : Int) := b_or (by omega) (by omega)

/-- What quan's operations do not own stays. -/
def Fr (o q : Nat) (a a' : OS) (w w' : World) : Prop := ∀ i x, w.heap[i]? = some x → ¬ a.own o i → i ≠ q → w'.heap[i]? = some x ∧ ¬ a'.own o i

theorem QOut.fr {V o q : Nat} {a : OS} {F : (Nat → Bool) → Bool} {w w' : World} {e : Ending} (f : QOut V o q a F w e w') : ∃ (r : Nat) (x : Int) (a' : OS), e = .returned (.tuple #[.int .i64 (r : Int), .int .i64 x]) ∧ a'.at o w' ∧ QuanAt w' q o ∧ ¬ a'.own o q ∧ Grew a a' ∧ Turn (fun i => a.own o i ∨ i = q) w w' ∧ (∀ i, a'.own o i → a.own o i ∨ w.heap.size ≤ i) ∧
    cnt a'.cs + 1 ≤ cnt a.cs + 2 ^ V ∧ ((x = 0 ∧ At a'.cs 0 r ∧ ∀ val, Says V a'.cs val r = F val) ∨ (x = 30 ∧ r = 0 ∧ a.h.B + 1 ≤ cnt a.cs + 2 ^ V)) ∧ Fr o q a a' w w' := by
  obtain ⟨r, x, a', e1, h1, h2, h3, h4, h5, h6, h7, h8⟩ := f
  exact ⟨r, x, a', e1, h1, h2, h3, h4, h5, h6, h7, h8, fun i y hy hn hq => ⟨(h5.block i (row_lt hy) (fun h => h.elim hn hq)).trans hy, fun hh => (h6 i hh).elim hn fun h => by have := row_lt hy; omega⟩⟩

section
variable {W : World} {B o q c : Nat} {a : OS} {w w' : World}
theorem QS.op2 (s : QS W B o q a c w) (hr : c + 16 ≤ B) {F : (Nat → Bool) → Bool} {e : Ending} (f : QOut 4 o q a F w e w') :
    ∃ (k : Nat) (a' : OS), e = .returned (.tuple #[.int .i64 (k : Int), .int .i64 0]) ∧ QS W B o q a' (c + 15) w' ∧ Ext a.cs a'.cs ∧ a'.m.s = a.m.s ∧ At a'.cs 0 k ∧ (∀ val, Says 4 a'.cs val k = F val) ∧ Fr o q a a' w w' := by
  obtain ⟨k, x, a', rfl, os, qa, nq, g, t, ow, m, hout, fr⟩ := f.fr
  have hB := s.l.B
  have hc := s.l.cnt
  have m : cnt a'.cs + 1 ≤ cnt a.cs + 16 := m
  rcases hout with ⟨rfl, hat, hs⟩ | ⟨_, _, hf⟩
  · have sz := s.l.below.size
    refine ⟨k, a', rfl, ⟨⟨os, g.V.trans s.l.V, g.B.trans hB, by omega, Turn.to_below s.l.below t ?_ sz, fun i hi => ?_⟩, qa, nq, s.qW⟩, g.ext, g.s, hat, hs, fr⟩
    · rintro i (h | rfl)
      · exact s.l.own i h
      · exact s.qW
    · exact (ow i hi).elim (s.l.own i) fun h => Nat.le_trans sz h
  · have hf : a.h.B + 1 ≤ cnt a.cs + 16 := hf
    omega
theorem QS.make2 (s : QS W B o q a c w) (hr : c + 15 ≤ B) {n : Int} {e : Ending} (f : MakeOut4 a.m a.h a.cs n w e w') :
    ∃ (k : Nat) (a' : OS), e = .returned (.tuple #[.int .i64 (k : Int), .bool true]) ∧ QS W B o q a' (c + 15) w' ∧ Ext a.cs a'.cs ∧ a'.m.s = a.m.s ∧ At a'.cs 0 k ∧ (∀ val, Says 4 a'.cs val k = bitZ n (tix val 4 0 0)) ∧ Fr o q a a' w w' := by
  obtain ⟨k, t, m', h', cs', rfl, st, ex, fr, v, b, sw, cn, on, hout⟩ := f
  have hB := s.l.B
  have hc := s.l.cnt
  have cn : cnt cs' + 1 ≤ cnt a.cs + 16 := cn
  have onx : ONext o a.m a.mb m' a.mb w w' := Next.onext on
  rcases hout with ⟨rfl, hat, hs⟩ | ⟨_, _, hb⟩
  · exact ⟨k, ⟨m', h', cs', a.mb⟩, rfl, s.node (v := 0) st ex v b sw (by omega) on rfl, ex, on.s, hat, hs, fun i y hy hn _ => ⟨(onx.turn.block i (row_lt hy) hn).trans hy, fun hh => (onx.own i hh).elim hn fun h => by have := row_lt hy; omega⟩⟩
  · have hb : a.h.B + 2 ≤ cnt a.cs + 16 := hb
    omega
end

/-- A slice of ints that is nobody's: it stays. -/
structure RdF (o q : Nat) (a : OS) (w : World) (A : Option Addr) (l : List Nat) : Prop where
  rd : Rd w A (ints (vInts l))
  far : ∀ b off, A = some ⟨b, off, none⟩ → ¬ a.own o b ∧ b ≠ q

theorem cell_row {w : World} {b : Nat} {off : Nat} {v : Value} (h : w.cell? ⟨b, off, none⟩ = some v) : ∃ x, w.heap[b]? = some x := by
  unfold World.cell? at h
  cases hx : w.heap[b]? with
  | none =>
    dsimp only at h
    rw [hx] at h
    cases h
  | some x => exact ⟨x, rfl⟩

theorem RdF.fr {o q : Nat} {a a' : OS} {w w' : World} {A : Option Addr} {l : List Nat} (r : RdF o q a w A l) (f : Fr o q a a' w w') (hne : l ≠ []) : RdF o q a' w' A l := by
  rcases r.rd with h | ⟨b, off, rfl, hb, hc⟩
  · exact absurd (by simpa using h) hne
  · obtain ⟨h1, h2⟩ := r.far b off rfl
    obtain ⟨x0, hx0⟩ : ∃ x0, w.heap[b]? = some x0 := ⟨_, Array.getElem?_eq_getElem hb⟩
    obtain ⟨h3, h4⟩ := f b x0 hx0 h1 h2
    refine ⟨.inr ⟨b, off, rfl, row_lt h3, fun j u hu => ?_⟩, fun b' off' e => ?_⟩
    · have := hc j u hu
      unfold World.cell? at this ⊢
      dsimp only at this ⊢
      rw [h3]
      rw [hx0] at this
      exact this
    · injection e with e; injection e with e1 e2; subst e1; exact ⟨h4, h2⟩
end Go.Proofs.Ytmbkkifopmbkaaa
