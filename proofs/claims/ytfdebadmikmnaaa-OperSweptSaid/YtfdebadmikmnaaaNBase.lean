/- Contracts of layer 3 (node): where a store lies; given, there, refusal, behind, key, the counters, Node. -/
import Derived.Test.YtfdebadmikmnaaaNMark
import Derived.Test.YtfdebadmikmnaaaHPut
import Derived.Laws.LoneSync
namespace Go.Proofs.Ytfdebadmikmnaaa
open Go.ChangeShapes Go.WideShapes Go.ChangeAt Go.RowKit

theorem info_store : (Try.prog.info? 53).map (fun i => (i.size, i.bytes)) = some (9, 88) := by kernel_rfl
theorem info_cell : (Try.prog.info? 81).map (fun i => (i.zero, i.size, i.bytes)) = some (some (.agg #[.int .i64 0, .int .i64 0, .int .i64 0, .int .i64 0]), 4, 32) := by kernel_rfl
theorem info_a64 : (Try.prog.info? 51).map (fun i => (i.size, i.bytes)) = some (1, 8) := by kernel_rfl

/-- Where a store lies: its own block, its table's two, its cells' one with room for so many. -/
structure Mem where
  s : Nat
  t : Nat
  b : Nat
  c : Nat
  cap : Nat

/-- A store's numbers. -/
structure Hd where
  V : Nat
  B : Nat
  lf : Nat
  nodes : Int
  made : Int
  sweeps : Int

def cellsN (c : Nd) : List Value := [.int .i64 c.asks, .int .i64 c.low, .int .i64 c.high, .int .i64 c.pins]
def flatN (cs : List Nd) : List Value := cs.flatMap cellsN
def ptrV (s : Nat) : Value := .pointer (some ⟨s, 0, none⟩)

structure Lay (w : World) (m : Mem) (h : Hd) (cs : List Nd) : Prop where
  head : w.heap[m.s]? = some (.cells #[.pointer (some ⟨m.s, 0, none⟩), .int .i64 h.V, .int .i64 h.B, .slice (some ⟨m.c, 0, none⟩) cs.length m.cap, .pointer (some ⟨m.t, 0, none⟩), .int .i64 h.lf, .int .i64 h.nodes, .int .i64 h.made, .int .i64 h.sweeps] 53 (0, 0))
  row : w.ownsRow 0 81 4 (.slice (some ⟨m.c, 0, none⟩) cs.length m.cap) cs.length (flatN cs)
  st : m.s ≠ m.t
  sb : m.s ≠ m.b
  sc : m.s ≠ m.c
  ct : m.c ≠ m.t
  cb : m.c ≠ m.b
  len : cs.length ≤ 1048576

theorem flatN_length (cs : List Nd) : (flatN cs).length = cs.length * 4 := by
  induction cs with
  | nil => rfl
  | cons p r ih =>
    show (cellsN p ++ flatN r).length = _
    rw [List.length_append, ih]; simp [cellsN]; omega

theorem flatN_get (cs : List Nd) : ∀ (x : Nat) (p : Nd) (c : Nat), cs[x]? = some p → c < 4 → (flatN cs)[x * 4 + c]? = (cellsN p)[c]? := by
  induction cs with
  | nil => intro x p c h; simp at h
  | cons q r ih =>
    intro x p c h hc
    show (cellsN q ++ flatN r)[x * 4 + c]? = _
    have hl : (cellsN q).length = 4 := rfl
    cases x with
    | zero =>
      simp at h
      subst h
      rw [List.getElem?_append_left (by omega)]
      simp
    | succ x =>
      simp at h
      rw [List.getElem?_append_right (by omega), hl, ← ih x p c h hc]
      congr 1; omega

theorem flatN_set (cs : List Nd) : ∀ (x : Nat) (q : Nd), x < cs.length → flatN (cs.set x q) =
    ((((flatN cs).set (x * 4) (.int .i64 q.asks)).set (x * 4 + 1) (.int .i64 q.low)).set (x * 4 + 2) (.int .i64 q.high)).set (x * 4 + 3) (.int .i64 q.pins) := by
  induction cs with
  | nil => intro x q h; simp at h
  | cons p r ih =>
    intro x q h
    cases x with
    | zero => rfl
    | succ x =>
      have hs : ∀ (l : List Value) (c : Nat) (v : Value), (cellsN p ++ l).set ((x + 1) * 4 + c) v = cellsN p ++ l.set (x * 4 + c) v := by
        intro l c v
        have hl : (cellsN p).length = 4 := rfl
        rw [List.set_append_right _ _ (by omega), hl]
        congr 2; omega
      have e := ih x q (by simpa using h)
      show cellsN p ++ flatN (r.set x q) = _
      rw [e]
      show _ = (((((cellsN p ++ flatN r).set ((x + 1) * 4 + 0) _).set ((x + 1) * 4 + 1) _).set _ _).set _ _)
      rw [hs, hs, hs, hs]
      rfl

section
variable {w : World} {m : Mem} {h : Hd} {cs : List Nd}

theorem Lay.lt_s (l : Lay w m h cs) : m.s < w.heap.size := by
  rcases Nat.lt_or_ge m.s w.heap.size with h1 | h1
  · exact h1
  · have := l.head; rw [Array.getElem?_eq_none h1] at this; cases this
theorem Lay.lt_c (l : Lay w m h cs) : m.c < w.heap.size := (l.row.lt m.c rfl).2

theorem Lay.tops (l : Lay w m h cs) :
    w.cell? ⟨m.s, 0, none⟩ = some (.pointer (some ⟨m.s, 0, none⟩)) ∧ w.cell? ⟨m.s, 1, none⟩ = some (.int .i64 h.V) ∧ w.cell? ⟨m.s, 2, none⟩ = some (.int .i64 h.B) ∧ w.cell? ⟨m.s, 3, none⟩ = some (.slice (some ⟨m.c, 0, none⟩) cs.length m.cap) ∧
    w.cell? ⟨m.s, 4, none⟩ = some (.pointer (some ⟨m.t, 0, none⟩)) ∧ w.cell? ⟨m.s, 5, none⟩ = some (.int .i64 h.lf) ∧ w.cell? ⟨m.s, 6, none⟩ = some (.int .i64 h.nodes) ∧ w.cell? ⟨m.s, 7, none⟩ = some (.int .i64 h.made) ∧ w.cell? ⟨m.s, 8, none⟩ = some (.int .i64 h.sweeps) :=
  ⟨cell_of_row w m.s 0 _ _ _ l.head, cell_of_row w m.s 1 _ _ _ l.head, cell_of_row w m.s 2 _ _ _ l.head, cell_of_row w m.s 3 _ _ _ l.head, cell_of_row w m.s 4 _ _ _ l.head, cell_of_row w m.s 5 _ _ _ l.head, cell_of_row w m.s 6 _ _ _ l.head, cell_of_row w m.s 7 _ _ _ l.head, cell_of_row w m.s 8 _ _ _ l.head⟩

theorem Lay.free (l : Lay w m h cs) : (∀ o, w.frozen? ⟨m.s, o, none⟩ = false) ∧ (∀ o, w.frozen? ⟨m.c, o, none⟩ = false) :=
  ⟨fun o => frozen_of_row w m.s o _ _ l.head, fun o => l.row.frozenAt o⟩

theorem Lay.cells (l : Lay w m h cs) {x : Nat} {p : Nd} (hx : cs[x]? = some p) :
    w.cell? ⟨m.c, x * 4, none⟩ = some (.int .i64 p.asks) ∧ w.cell? ⟨m.c, x * 4 + 1, none⟩ = some (.int .i64 p.low) ∧ w.cell? ⟨m.c, x * 4 + 2, none⟩ = some (.int .i64 p.high) ∧ w.cell? ⟨m.c, x * 4 + 3, none⟩ = some (.int .i64 p.pins) := by
  have hl := (List.getElem?_eq_some_iff.1 hx).1
  have hc : ∀ c, c < 4 → w.cell? ⟨m.c, x * 4 + c, none⟩ = (cellsN p)[c]? := by
    intro c hc
    rw [l.row.cellAt _ (by omega)]
    exact flatN_get cs x p c hx hc
  exact ⟨hc 0 (by omega), hc 1 (by omega), hc 2 (by omega), hc 3 (by omega)⟩

/-- The store's two blocks stay: it lies as it did. -/
theorem Lay.of (l : Lay w m h cs) {w' : World} (h1 : w'.heap[m.s]? = w.heap[m.s]?) (h2 : w'.heap[m.c]? = w.heap[m.c]?) : Lay w' m h cs := by
  refine ⟨h1.trans l.head, ?_, l.st, l.sb, l.sc, l.ct, l.cb, l.len⟩
  obtain ⟨r1, r2⟩ := l.row
  refine ⟨r1, ?_⟩
  rcases r2 with r2 | ⟨g, cap, cur, e, r3, r4, r5⟩
  · exact .inl r2
  · refine .inr ⟨g, cap, cur, e, r3, ?_, r5⟩
    simp only [Value.slice.injEq, Option.some.injEq, Addr.mk.injEq, and_true] at e
    rw [← e.1] at r4 ⊢
    exact h2.trans r4

theorem Lay.keep (l : Lay w m h cs) {w' : World} (hb : Below w.heap.size w w') : Lay w' m h cs := l.of (hb.block _ l.lt_s) (hb.block _ l.lt_c)
theorem Lay.alloc (l : Lay w m h cs) (o : Obj) : Lay (w.alloc o) m h cs := l.of (Below.heap_alloc w o _ l.lt_s) (Below.heap_alloc w o _ l.lt_c)
theorem Lay.drew (l : Lay w m h cs) : Lay w.drew m h cs := l.of rfl rfl
theorem Lay.drewN (l : Lay w m h cs) (q : Nat) : Lay (w.drewN q) m h cs := l.of rfl rfl
end

/-- Of what was there, own blocks alone may have turned. -/
structure Turn (own : Nat → Prop) (w w' : World) : Prop where
  os : w'.os = w.os
  tape : w'.tape = w.tape
  output : w'.output = w.output
  size : w.heap.size ≤ w'.heap.size
  block : ∀ i, i < w.heap.size → ¬ own i → w'.heap[i]? = w.heap[i]?

section
variable {own : Nat → Prop} {w w1 w2 : World}
theorem Turn.refl (own : Nat → Prop) (w : World) : Turn own w w := ⟨rfl, rfl, rfl, Nat.le_refl _, fun _ _ _ => rfl⟩
theorem Turn.alloc (h : Turn own w w1) (o : Obj) : Turn own w (w1.alloc o) :=
  ⟨h.os, h.tape, h.output, Nat.le_trans h.size (by simp), fun i hi h1 => (Below.heap_alloc w1 o i (Nat.lt_of_lt_of_le hi h.size)).trans (h.block i hi h1)⟩
theorem Turn.setCell (h : Turn own w w1) {p : Addr} (hp : own p.block ∨ w.heap.size ≤ p.block) (v : Value) : Turn own w (w1.setCell p v) :=
  ⟨h.os, h.tape, h.output, by simpa [World.setCell] using h.size, fun i hi h1 => (Below.heap_setCell w1 p v i (by
    rintro rfl
    rcases hp with hp | hp
    · exact h1 hp
    · omega)).trans (h.block i hi h1)⟩
theorem Turn.drew (h : Turn own w w1) : Turn own w w1.drew := ⟨h.os, h.tape, h.output, h.size, h.block⟩
theorem Turn.drewN (h : Turn own w w1) (q : Nat) : Turn own w (w1.drewN q) := ⟨h.os, h.tape, h.output, h.size, h.block⟩
theorem Turn.below (h : Turn own w w1) (k : Below w1.heap.size w1 w2) : Turn own w w2 :=
  ⟨k.os.trans h.os, k.tape.trans h.tape, k.output.trans h.output, Nat.le_trans h.size k.size, fun i hi h1 => (k.block i (Nat.lt_of_lt_of_le hi h.size)).trans (h.block i hi h1)⟩
theorem Turn.trans {own' : Nat → Prop} (h : Turn own w w1) (k : Turn own' w1 w2) (hb : ∀ i, own' i → own i ∨ w.heap.size ≤ i) : Turn own w w2 :=
  ⟨k.os.trans h.os, k.tape.trans h.tape, k.output.trans h.output, Nat.le_trans h.size k.size, fun i hi h1 => (k.block i (Nat.lt_of_lt_of_le hi h.size) (fun h2 => (hb i h2).elim h1 (by omega))).trans (h.block i hi h1)⟩
theorem Turn.grown (h : Turn own w w1) {row : Option Nat} (k : w1.grownBy w2 row) (hb : ∀ i, row = some i → own i ∨ w.heap.size ≤ i) : Turn own w w2 :=
  ⟨k.os.trans h.os, k.tape.trans h.tape, k.output.trans h.output, Nat.le_trans h.size k.size, fun i hi h1 => (k.block i (Nat.lt_of_lt_of_le hi h.size) (fun h2 => (hb i h2.symm).elim h1 (by omega))).trans (h.block i hi h1)⟩
theorem Turn.of_mut {t b : Nat} (k : Mut t b w w1) (ht : own t) (hb : own b) : Turn own w w1 :=
  ⟨k.os, k.tape, k.output, k.size, fun i hi h1 => k.block i hi (fun e => h1 (e ▸ ht)) (fun e => h1 (e ▸ hb))⟩
theorem Turn.of_below (k : Below w.heap.size w w1) : Turn own w w1 := (Turn.refl own w).below k
theorem Turn.to_below {B : Nat} (h : Below B w w1) (k : Turn own w1 w2) (ho : ∀ i, own i → B ≤ i) (hB : B ≤ w1.heap.size) : Below B w w2 :=
  ⟨k.os.trans h.os, k.tape.trans h.tape, k.output.trans h.output, Nat.le_trans h.size k.size, fun i hi => (k.block i (by omega) (fun h2 => by have := ho i h2; omega)).trans (h.block i hi)⟩
theorem Turn.cell (h : Turn own w w1) {p : Addr} {v : Value} (hp : w.cell? p = some v) (hn : ¬ own p.block) : w1.cell? p = some v :=
  (World.cell?_of_block (h.block p.block (World.block_lt_of_cell? w p hp) hn)).trans hp
end

theorem given_store {w : World} {m : Mem} {h : Hd} {cs : List Nd} (l : Lay w m h cs) : Calls Try.prog 32 #[ptrV m.s] w fun e w' => e = .returned (.bool true) ∧ w = w' := by
  obtain ⟨c0, -⟩ := l.tops
  unfold ptrV
  have hi : ∃ i, Try.prog.info? 53 = some i ∧ i.size = 9 := by
    have h := info_store
    cases hc : Try.prog.info? 53 with
    | none => rw [hc] at h; cases h
    | some i => rw [hc] at h; injection h with h; injection h with h _; exact ⟨i, rfl, h⟩
  obtain ⟨j, hj, _⟩ := hi
  have heq := run_eql_ptr_same (P := Try.prog) w ⟨m.s, 0, none⟩ Try.underlying23 hj
  go_enter Try.func32, Try.ntmps32
  go_wp2
  go_ret
  exact ⟨rfl, rfl⟩

/-- Is a number a node's? -/
def thereB (cs : List Nd) (k : Int) : Bool := decide (0 ≤ k) && match cs[k.toNat]? with | some c => decide (c.asks ≠ -1) | none => false

theorem thereB_true {cs : List Nd} {k : Int} (h : thereB cs k = true) : ∃ (n : Nat) (c : Nd), k = n ∧ Is cs n c := by
  unfold thereB at h
  rw [Bool.and_eq_true] at h
  obtain ⟨h1, h2⟩ := h
  have h1 : 0 ≤ k := by simpa using h1
  cases hc : cs[k.toNat]? with
  | none => rw [hc] at h2; cases h2
  | some c => rw [hc] at h2; exact ⟨k.toNat, c, by omega, hc, by simpa using h2⟩
theorem thereB_is {cs : List Nd} {n : Nat} {c : Nd} (h : Is cs n c) : thereB cs n = true := by
  unfold thereB
  rw [show ((n : Int).toNat) = n from rfl, h.1]
  simpa using h.2

theorem there_any {w : World} {m : Mem} {h : Hd} {cs : List Nd} (l : Lay w m h cs) (k : Int) :
    Calls Try.prog 48 #[ptrV m.s, .int .i64 k] w fun e w' => e = .returned (.bool (thereB cs k)) ∧ w = w' := by
  obtain ⟨_, _, _, c3, -⟩ := l.tops
  unfold ptrV
  by_cases h0 : 0 ≤ k
  · obtain ⟨n, rfl⟩ : ∃ n : Nat, k = n := ⟨k.toNat, by omega⟩
    by_cases h1 : n < cs.length
    · obtain ⟨c, hc⟩ : ∃ c, cs[n]? = some c := ⟨_, List.getElem?_eq_getElem h1⟩
      obtain ⟨d0, -⟩ := l.cells hc
      by_cases h2 : c.asks = -1
      · have e : thereB cs n = false := by unfold thereB; rw [show ((n : Int).toNat) = n from rfl, hc]; simp [h2]
        rw [e]
        have HC := Lib.hid hc
        clear hc e
        go_enter Try.func48, Try.ntmps48
        go_wp2
        go_ret
        exact ⟨rfl, rfl⟩
      · have e : thereB cs n = true := thereB_is ⟨hc, h2⟩
        rw [e]
        have HC := Lib.hid hc
        have h3 : (c.asks != -1) = true := by simpa using h2
        clear hc e h2
        go_enter Try.func48, Try.ntmps48
        go_wp2
        go_ret
        exact ⟨rfl, rfl⟩
    · have e : thereB cs n = false := by unfold thereB; rw [show ((n : Int).toNat) = n from rfl, List.getElem?_eq_none (by omega)]; simp
      rw [e]
      clear e
      go_enter Try.func48, Try.ntmps48
      go_wp2
      go_ret
      exact ⟨rfl, rfl⟩
  · have e : thereB cs k = false := by unfold thereB; simp [h0]
    rw [e]
    clear e
    go_enter Try.func48, Try.ntmps48
    go_wp2
    go_ret
    exact ⟨rfl, rfl⟩

theorem refusal_no {w : World} {m : Mem} {h : Hd} {cs : List Nd} (l : Lay w m h cs) (k : Int) (hk : thereB cs k = false) :
    Calls Try.prog 31 #[ptrV m.s, .int .i64 k] w fun e w' => e = .returned (.int .i64 3) ∧ w = w' := by
  have H := Lib.hid (given_store l)
  have H2 := Lib.hid (there_any l k)
  have HK := Lib.hid hk
  clear hk
  unfold ptrV at *
  go_enter Try.func31, Try.ntmps31
  go_wp2_with fail
  refine H.out.mono ?_
  rintro e w' ⟨rfl, rfl⟩
  go_wp2_with fail
  refine H2.out.mono ?_
  rintro e w' ⟨rfl, rfl⟩
  rw [HK.out]
  go_wp2_with fail
  go_ret
  exact ⟨rfl, rfl⟩

theorem refusal_yes {w : World} {m : Mem} {h : Hd} {cs : List Nd} (l : Lay w m h cs) (k : Int) (hk : thereB cs k = true) :
    Calls Try.prog 31 #[ptrV m.s, .int .i64 k] w fun e w' => e = .returned (.int .i64 0) ∧ w = w' := by
  have H := Lib.hid (given_store l)
  have H2 := Lib.hid (there_any l k)
  have HK := Lib.hid hk
  clear hk
  unfold ptrV at *
  go_enter Try.func31, Try.ntmps31
  go_wp2_with fail
  refine H.out.mono ?_
  rintro e w' ⟨rfl, rfl⟩
  go_wp2_with fail
  refine H2.out.mono ?_
  rintro e w' ⟨rfl, rfl⟩
  rw [HK.out]
  go_wp2_with fail
  go_ret
  exact ⟨rfl, rfl⟩

/-- Does a number's node ask a later variable than v? -/
def behindB (cs : List Nd) (k v : Int) : Bool := thereB cs k && match cs[k.toNat]? with | some c => decide (v < c.asks) | none => false

theorem behindB_true {cs : List Nd} {k v : Int} (h : behindB cs k v = true) : ∃ (n : Nat) (c : Nd), k = n ∧ Is cs n c ∧ v < c.asks := by
  unfold behindB at h
  rw [Bool.and_eq_true] at h
  obtain ⟨n, c, rfl, hc⟩ := thereB_true h.1
  have h2 := h.2
  rw [show ((n : Int).toNat) = n from rfl, hc.1] at h2
  exact ⟨n, c, rfl, hc, by simpa using h2⟩
theorem behindB_is {cs : List Nd} {n : Nat} {c : Nd} {v : Int} (h : Is cs n c) (hv : v < c.asks) : behindB cs n v = true := by
  unfold behindB
  rw [thereB_is h, show ((n : Int).toNat) = n from rfl, h.1]
  simpa using hv

theorem behind_any {w : World} {m : Mem} {h : Hd} {cs : List Nd} (l : Lay w m h cs) (k v : Int) :
    Calls Try.prog 41 #[ptrV m.s, .int .i64 k, .int .i64 v] w fun e w' => e = .returned (.bool (behindB cs k v)) ∧ w = w' := by
  obtain ⟨_, _, _, c3, -⟩ := l.tops
  have H2 := Lib.hid (there_any l k)
  cases hk : thereB cs k with
  | false =>
    have e : behindB cs k v = false := by unfold behindB; rw [hk]; rfl
    rw [e]
    have HK := Lib.hid hk
    clear hk e
    unfold ptrV at *
    go_enter Try.func41, Try.ntmps41
    go_wp2_with fail
    refine H2.out.mono ?_
    rintro e w' ⟨rfl, rfl⟩
    rw [HK.out]
    go_wp2_with fail
    go_ret
    exact ⟨rfl, rfl⟩
  | true =>
    obtain ⟨n, c, rfl, hc⟩ := thereB_true hk
    have hl := hc.lt
    obtain ⟨d0, -⟩ := l.cells hc.1
    have HK := Lib.hid hk
    clear hk
    by_cases hv : v < c.asks
    · have e : behindB cs n v = true := behindB_is hc hv
      rw [e]
      have HC := Lib.hid hc
      clear hc e
      unfold ptrV at *
      go_enter Try.func41, Try.ntmps41
      go_wp2_with fail
      refine H2.out.mono ?_
      rintro e w' ⟨rfl, rfl⟩
      rw [HK.out]
      go_wp2_with fail
      go_ret
      exact ⟨rfl, rfl⟩
    · have e : behindB cs n v = false := by
        unfold behindB
        rw [show ((n : Int).toNat) = n from rfl, hc.1]
        simp [hv]
      rw [e]
      have HC := Lib.hid hc
      have hd : decide (v < c.asks) = false := by simpa using hv
      clear hc e
      unfold ptrV at *
      go_enter Try.func41, Try.ntmps41
      go_wp2_with fail
      refine H2.out.mono ?_
      rintro e w' ⟨rfl, rfl⟩
      rw [HK.out]
      go_wp2_with fail
      go_ret
      exact ⟨rfl, rfl⟩

def cellV (c : Nd) : Value := .agg #[.int .i64 c.asks, .int .i64 c.low, .int .i64 c.high, .int .i64 c.pins]

theorem key_any (c : Nd) (w : World) : Calls Try.prog 43 #[cellV c] w fun e w' => e = .returned (keyV c.key) ∧ Below w.heap.size w w' := by
  unfold cellV keyV Nd.key
  go_enter Try.func43, Try.ntmps43
  go_wp2
  exact bodyPost_ret (v := .agg #[.int .i64 c.asks, .int .i64 c.low, .int .i64 c.high]) (by simp [results, Try.results43, go_sem]) rfl ⟨rfl, (((Below.refl _ _).alloc (Nat.le_refl _) _).alloc (by simp) _)⟩

theorem load_any {w : World} {s o : Nat} {x : Int} (hc : w.cell? ⟨s, o, none⟩ = some (.int .i64 x)) :
    Calls Try.prog 36 #[.pointer (some ⟨s, o, none⟩)] w fun e w' => e = .returned (.int .i64 x) ∧ w = w' := by
  have hl := run_call_load (P := Try.prog) Try.func52 (by kernel_rfl) (by kernel_rfl) (by kernel_rfl) .i64 (by kernel_rfl) hc
  go_enter Try.func36, Try.ntmps36
  go_wp2
  go_ret
  exact ⟨rfl, rfl⟩

theorem add_any {w : World} {s o : Nat} {x y : Int} (hc : w.cell? ⟨s, o, none⟩ = some (.int .i64 x)) (hz : w.frozen? ⟨s, o, none⟩ = false) :
    Calls Try.prog 35 #[.pointer (some ⟨s, o, none⟩), .int .i64 y] w fun e w' => e = .returned (.int .i64 (wrap64 (x + y))) ∧ w' = w.setCell ⟨s, o, none⟩ (.int .i64 (wrap64 (x + y))) := by
  have hl := run_call_add (P := Try.prog) Try.func51 (by kernel_rfl) (by kernel_rfl) (by kernel_rfl) .i64 (by kernel_rfl) hc hz (y := y) (s := wrap64 (x + y)) (by simp [go_sem, wrap64, IntKind.wrap_i64])
  go_enter Try.func35, Try.ntmps35
  go_wp2
  go_ret
  exact ⟨rfl, rfl⟩

theorem store_any {w : World} {s o : Nat} {x : Value} {y : Int} (hc : w.cell? ⟨s, o, none⟩ = some x) (hz : w.frozen? ⟨s, o, none⟩ = false) :
    Calls Try.prog 40 #[.pointer (some ⟨s, o, none⟩), .int .i64 y] w fun e w' => e = .returned (.tuple #[]) ∧ w' = w.setCell ⟨s, o, none⟩ (.int .i64 y) := by
  have hl := run_call_store (P := Try.prog) Try.func54 (by kernel_rfl) (by kernel_rfl) (by kernel_rfl) (by kernel_rfl) hc hz (k := .i64) (y := y)
  go_enter Try.func40, Try.ntmps40
  go_wp2
  go_end0
  exact ⟨rfl, rfl⟩

/-- The counters, and how many variables. -/
theorem len_store {w : World} {m : Mem} {h : Hd} {cs : List Nd} (l : Lay w m h cs) : Calls Try.prog 22 #[ptrV m.s] w fun e w' => e = .returned (.int .i64 h.nodes) ∧ w = w' := by
  obtain ⟨_, _, _, _, _, _, c6, _, _⟩ := l.tops
  have H := Lib.hid (given_store l)
  have H2 := Lib.hid (load_any c6)
  clear c6
  unfold ptrV at *
  go_enter Try.func22, Try.ntmps22
  go_wp2_with fail
  refine H.out.mono ?_
  rintro e w' ⟨rfl, rfl⟩
  go_wp2_with fail
  refine H2.out.mono ?_
  rintro e w' ⟨rfl, rfl⟩
  go_wp2_with fail
  go_ret
  exact ⟨rfl, rfl⟩


theorem sweeps_store {w : World} {m : Mem} {h : Hd} {cs : List Nd} (l : Lay w m h cs) : Calls Try.prog 60 #[ptrV m.s] w fun e w' => e = .returned (.int .i64 h.sweeps) ∧ w = w' := by
  obtain ⟨_, _, _, _, _, _, _, _, c8⟩ := l.tops
  have H := Lib.hid (given_store l)
  have H2 := Lib.hid (load_any c8)
  clear c8
  unfold ptrV at *
  go_enter Try.func60, Try.ntmps60
  go_wp2_with fail
  refine H.out.mono ?_
  rintro e w' ⟨rfl, rfl⟩
  go_wp2_with fail
  refine H2.out.mono ?_
  rintro e w' ⟨rfl, rfl⟩
  go_wp2_with fail
  go_ret
  exact ⟨rfl, rfl⟩

theorem vars_store {w : World} {m : Mem} {h : Hd} {cs : List Nd} (l : Lay w m h cs) : Calls Try.prog 71 #[ptrV m.s] w fun e w' => e = .returned (.int .i64 h.V) ∧ w = w' := by
  obtain ⟨_, c1, -⟩ := l.tops
  have H := Lib.hid (given_store l)
  unfold ptrV at *
  go_enter Try.func71, Try.ntmps71
  go_wp2_with fail
  refine H.out.mono ?_
  rintro e w' ⟨rfl, rfl⟩
  go_wp2_with fail
  go_ret
  exact ⟨rfl, rfl⟩

theorem node_no {w : World} {m : Mem} {h : Hd} {cs : List Nd} (l : Lay w m h cs) (k : Int) (hk : thereB cs k = false) :
    Calls Try.prog 37 #[ptrV m.s, .int .i64 k] w fun e w' => e = .returned (.tuple #[.int .i64 0, .int .i64 0, .int .i64 0, .int .i64 3]) ∧ w = w' := by
  have H := Lib.hid (refusal_no l k hk)
  clear hk
  unfold ptrV at *
  go_enter Try.func37, Try.ntmps37
  go_wp2_with fail
  refine H.out.mono ?_
  rintro e w' ⟨rfl, rfl⟩
  go_wp2_with fail
  exact bodyPost_ret (v := .tuple #[.int .i64 0, .int .i64 0, .int .i64 0, .int .i64 3]) (by simp [results, Try.results37, go_sem]) rfl ⟨rfl, rfl⟩

theorem node_yes {w : World} {m : Mem} {h : Hd} {cs : List Nd} (l : Lay w m h cs) {k : Nat} {c : Nd} (hk : Is cs k c) :
    Calls Try.prog 37 #[ptrV m.s, .int .i64 k] w fun e w' => e = .returned (.tuple #[.int .i64 c.asks, .int .i64 c.low, .int .i64 c.high, .int .i64 0]) ∧ ∃ q, w' = w.drewN q := by
  obtain ⟨_, _, _, c3, -⟩ := l.tops
  obtain ⟨d0, d1, d2, -⟩ := l.cells hk.1
  have hl := hk.lt
  have H := Lib.hid (refusal_yes l k (thereB_is hk))
  clear hk
  unfold ptrV at *
  go_enter Try.func37, Try.ntmps37
  go_wp2_with fail
  refine H.out.mono ?_
  rintro e w' ⟨rfl, rfl⟩
  go_wp2_with fail
  go_quiet (fail)
  go_wp2_with fail
  exact bodyPost_ret (v := .tuple #[.int .i64 c.asks, .int .i64 c.low, .int .i64 c.high, .int .i64 0]) (by simp [results, Try.results37, go_sem]) rfl ⟨rfl, _, rfl⟩

end Go.Proofs.Ytfdebadmikmnaaa
