/- Contracts of layer 2 (hash): set, crowded, rebuild, empty, New. -/
import Derived.Test.YtfdebadmikmnaaaHBase
import Derived.RegionTactic
import Derived.ChangeAlike
import Derived.Laws.MakeOwn
import Derived.Laws.Entries
namespace Go.Proofs.Ytfdebadmikmnaaa
open Go.ChangeShapes Go.WideShapes Go.ChangeAt Go.RowKit

def placeV (p : Pl) : Value := .agg #[.int .i64 p.st, .int .i64 p.k.a, .int .i64 p.k.b, .int .i64 p.k.c, .int .i64 p.v]

theorem Lies.free {w : World} {t b : Nat} {ps : List Pl} {n u : Nat} (h : Lies w t b ps n u) : (∀ o, w.frozen? ⟨t, o, none⟩ = false) ∧ (∀ o, w.frozen? ⟨b, o, none⟩ = false) :=
  ⟨fun o => frozen_of_row w t o _ _ h.head, fun o => frozen_of_row w b o _ _ h.row⟩

/-- Of what was there, blocks t and b alone may have turned. -/
structure Mut (t b : Nat) (w w' : World) : Prop where
  os : w'.os = w.os
  tape : w'.tape = w.tape
  output : w'.output = w.output
  size : w.heap.size ≤ w'.heap.size
  block : ∀ i, i < w.heap.size → i ≠ t → i ≠ b → w'.heap[i]? = w.heap[i]?

theorem Mut.refl (t b : Nat) (w : World) : Mut t b w w := ⟨rfl, rfl, rfl, Nat.le_refl _, fun _ _ _ _ => rfl⟩
theorem Mut.alloc {t b : Nat} {w w1 : World} (h : Mut t b w w1) (o : Obj) : Mut t b w (w1.alloc o) :=
  ⟨h.os, h.tape, h.output, Nat.le_trans h.size (by simp), fun i hi h1 h2 => (Below.heap_alloc w1 o i (Nat.lt_of_lt_of_le hi h.size)).trans (h.block i hi h1 h2)⟩
theorem Mut.setCell {t b : Nat} {w w1 : World} (h : Mut t b w w1) {p : Addr} (hp : p.block = t ∨ p.block = b ∨ w.heap.size ≤ p.block) (v : Value) : Mut t b w (w1.setCell p v) :=
  ⟨h.os, h.tape, h.output, by simpa [World.setCell] using h.size, fun i hi h1 h2 => (Below.heap_setCell w1 p v i (by rcases hp with hp | hp | hp <;> omega)).trans (h.block i hi h1 h2)⟩
theorem Mut.drew {t b : Nat} {w w1 : World} (h : Mut t b w w1) : Mut t b w w1.drew := ⟨h.os, h.tape, h.output, h.size, h.block⟩
theorem Mut.drewN {t b : Nat} {w w1 : World} (h : Mut t b w w1) (q : Nat) : Mut t b w (w1.drewN q) := ⟨h.os, h.tape, h.output, h.size, h.block⟩
theorem Mut.below {t b : Nat} {w w1 w2 : World} (h : Mut t b w w1) (k : Below w1.heap.size w1 w2) : Mut t b w w2 :=
  ⟨k.os.trans h.os, k.tape.trans h.tape, k.output.trans h.output, Nat.le_trans h.size k.size, fun i hi h1 h2 => (k.block i (Nat.lt_of_lt_of_le hi h.size)).trans (h.block i hi h1 h2)⟩
theorem Mut.trans {t b b' : Nat} {w w1 w2 : World} (h : Mut t b w w1) (k : Mut t b' w1 w2) (hb : b' = b ∨ w.heap.size ≤ b') : Mut t b w w2 :=
  ⟨k.os.trans h.os, k.tape.trans h.tape, k.output.trans h.output, Nat.le_trans h.size k.size, fun i hi h1 h2 => (k.block i (Nat.lt_of_lt_of_le hi h.size) h1 (by rcases hb with rfl | hb <;> omega)).trans (h.block i hi h1 h2)⟩
theorem Mut.to_below {B t b : Nat} {w w1 w2 : World} (h : Below B w w1) (k : Mut t b w1 w2) (ht : B ≤ t) (hb : B ≤ b) (hB : B ≤ w1.heap.size) : Below B w w2 :=
  ⟨k.os.trans h.os, k.tape.trans h.tape, k.output.trans h.output, Nat.le_trans h.size k.size, fun i hi => (k.block i (by omega) (by omega) (by omega)).trans (h.block i hi)⟩

theorem cellsAll_set (ps : List Pl) : ∀ (x : Nat) (q : Pl), x < ps.length → cellsAll (ps.set x q) =
    (((((cellsAll ps).set (x * 5) (.int .i64 q.st)).set (x * 5 + 1) (.int .i64 q.k.a)).set (x * 5 + 2) (.int .i64 q.k.b)).set (x * 5 + 3) (.int .i64 q.k.c)).set (x * 5 + 4) (.int .i64 q.v) := by
  induction ps with
  | nil => intro x q h; simp at h
  | cons p r ih =>
    intro x q h
    cases x with
    | zero => rfl
    | succ x =>
      have hs : ∀ (l : List Value) (c : Nat) (v : Value), (cellsOf p ++ l).set ((x + 1) * 5 + c) v = cellsOf p ++ l.set (x * 5 + c) v := by
        intro l c v
        have hl : (cellsOf p).length = 5 := rfl
        rw [List.set_append_right _ _ (by omega), hl]
        congr 2; omega
      have e := ih x q (by simpa using h)
      show cellsOf p ++ cellsAll (r.set x q) = _
      rw [e]
      show _ = ((((((cellsOf p ++ cellsAll r).set ((x + 1) * 5 + 0) _).set ((x + 1) * 5 + 1) _).set _ _).set _ _).set _ _)
      rw [hs, hs, hs, hs, hs]
      rfl

theorem Lies.drew {w : World} {t b : Nat} {ps : List Pl} {n u : Nat} (h : Lies w t b ps n u) : Lies w.drew t b ps n u := ⟨h.head, h.row, h.ne⟩
theorem Lies.drewN {w : World} {t b : Nat} {ps : List Pl} {n u : Nat} (h : Lies w t b ps n u) (q : Nat) : Lies (w.drewN q) t b ps n u := ⟨h.head, h.row, h.ne⟩
theorem Lies.alloc {w : World} {t b : Nat} {ps : List Pl} {n u : Nat} (h : Lies w t b ps n u) (o : Obj) : Lies (w.alloc o) t b ps n u :=
  ⟨(Below.heap_alloc w o t h.lt_t).trans h.head, (Below.heap_alloc w o b h.lt_b).trans h.row, h.ne⟩
theorem Lies.setN {w : World} {t b : Nat} {ps : List Pl} {n u : Nat} (h : Lies w t b ps n u) {n' : Nat} {z : Int} (hz : z = n') : Lies (w.setCell ⟨t, 2, none⟩ (.int .i64 z)) t b ps n' u := by
  subst hz
  exact ⟨(heap_setCell_same w t 2 _ _ _ h.head).trans rfl, (heap_setCell_other w _ b _ h.ne.symm).trans h.row, h.ne⟩
theorem Lies.setU {w : World} {t b : Nat} {ps : List Pl} {n u : Nat} (h : Lies w t b ps n u) {u' : Nat} {z : Int} (hz : z = u') : Lies (w.setCell ⟨t, 3, none⟩ (.int .i64 z)) t b ps n u' := by
  subst hz
  exact ⟨(heap_setCell_same w t 3 _ _ _ h.head).trans rfl, (heap_setCell_other w _ b _ h.ne.symm).trans h.row, h.ne⟩
theorem Lies.setP {w : World} {t b : Nat} {ps : List Pl} {n u : Nat} (h : Lies w t b ps n u) {x : Nat} (hx : x < ps.length) (q : Pl) :
    Lies (((((w.setCell ⟨b, x * 5, none⟩ (.int .i64 q.st)).setCell ⟨b, x * 5 + 1, none⟩ (.int .i64 q.k.a)).setCell ⟨b, x * 5 + 2, none⟩ (.int .i64 q.k.b)).setCell ⟨b, x * 5 + 3, none⟩ (.int .i64 q.k.c)).setCell ⟨b, x * 5 + 4, none⟩ (.int .i64 q.v)) t b (ps.set x q) n u := by
  have e : ∀ (W : World) (i : Nat) (v : Value) (l : List Value), W.heap[b]? = some (.cells l.toArray 114 (0, 0)) → (W.setCell ⟨b, i, none⟩ v).heap[b]? = some (.cells (l.set i v).toArray 114 (0, 0)) := by
    intro W i v l hW
    rw [heap_setCell_same W b i _ _ _ hW, List.setIfInBounds_toArray]
  refine ⟨?_, ?_, h.ne⟩
  · rw [heap_setCell_other _ _ t _ h.ne, heap_setCell_other _ _ t _ h.ne, heap_setCell_other _ _ t _ h.ne, heap_setCell_other _ _ t _ h.ne, heap_setCell_other _ _ t _ h.ne, List.length_set]
    exact h.head
  · rw [cellsAll_set ps x q hx]
    exact e _ _ _ _ (e _ _ _ _ (e _ _ _ _ (e _ _ _ _ (e _ _ _ _ h.row))))

theorem crowded_any (t b : Nat) (ps : List Pl) (n u : Nat) (w : World) (h : Lies w t b ps n u) (hl : ps.length ≤ 8388608) (hu : u ≤ 8388608) :
    Calls Try.prog 64 #[.pointer (some ⟨t, 0, none⟩)] w fun e w' => e = .returned (.bool (decide (3 * (ps.length : Int) < 4 * ((u : Int) + 1)))) ∧ Below w.heap.size w w' := by
  obtain ⟨_, c1, _, c3⟩ := h.tops
  go_enter Try.func64, Try.ntmps64
  go_wp2
  go_quiet (fail)
  go_wp2
  go_ret
  exact ⟨rfl, below_drewN (Below.refl _ _) _⟩

def SetOut (t b : Nat) (ps : List Pl) (n u : Nat) (w : World) (e : Ending) (w' : World) : Prop :=
  e = .returned (.tuple #[]) ∧ Lies w' t b ps n u ∧ Mut t b w w'

theorem set_any (t b : Nat) (ps : List Pl) (n u x : Nat) (p q : Pl) (w : World) (h : Lies w t b ps n u) (_ : ps.length ≤ 8388608) (hu : u ≤ 8388608) (hn : n ≤ 8388608) (hx : ps[x]? = some p) :
    Calls Try.prog 66 #[.pointer (some ⟨t, 0, none⟩), .int .i64 x, placeV q] w (SetOut t b (ps.set x q) (n + 1) (if p.st = 0 then u + 1 else u) w) := by
  obtain ⟨_, c1, c2, c3⟩ := h.tops
  obtain ⟨d0, d1, d2, d3, d4⟩ := h.cells hx
  obtain ⟨f1, f2⟩ := h.free
  have hxl : x < ps.length := (List.getElem?_eq_some_iff.1 hx).1
  have ht := h.lt_t
  have hb := h.lt_b
  have hne := h.ne
  unfold placeV
  clear hx
  by_cases h0 : p.st = 0
  · rw [h0] at d0
    rw [if_pos h0]
    clear h0
    go_enter Try.func66, Try.ntmps66
    go_wp2
    go_region
    go_wp2
    go_end0
    refine ⟨rfl, ((((h.setU (u' := u + 1) (by omega)).setP hxl q).setN (n' := n + 1) (by omega)).alloc _).drew, ?_⟩
    exact (((((((((Mut.refl t b w).setCell (.inl rfl) _).setCell (.inr (.inl rfl)) _).setCell (.inr (.inl rfl)) _).setCell (.inr (.inl rfl)) _).setCell (.inr (.inl rfl)) _).setCell (.inr (.inl rfl)) _).setCell (.inl rfl) _).alloc _).drew
  · rw [if_neg h0]
    obtain ⟨y, hy⟩ : ∃ y : Int, (p.st : Int) = y := ⟨_, rfl⟩
    have y0 : (y == 0) = false := by simp; omega
    rw [hy] at d0
    clear h0 hy
    go_enter Try.func66, Try.ntmps66
    go_wp2
    go_region
    go_wp2
    go_end0
    refine ⟨rfl, (((h.setP hxl q).setN (n' := n + 1) (by omega)).alloc _).drew, ?_⟩
    exact ((((((((Mut.refl t b w).setCell (.inr (.inl rfl)) _).setCell (.inr (.inl rfl)) _).setCell (.inr (.inl rfl)) _).setCell (.inr (.inl rfl)) _).setCell (.inr (.inl rfl)) _).setCell (.inl rfl) _).alloc _).drew

/-- The table with its places: what they say, how many keys, and how many places are not free. -/
structure Full (w : World) (t b : Nat) (ps : List Pl) (f : Key → Option Int) (n u : Nat) : Prop where
  lies : Lies w t b ps n u
  rep : Rep (home ps.length) ps f n u
  pow : ∃ pw, ps.length = 2 ^ pw ∧ 3 ≤ pw ∧ pw ≤ 22

theorem Full.len {w : World} {t b : Nat} {ps : List Pl} {f : Key → Option Int} {n u : Nat} (h : Full w t b ps f n u) : 8 ≤ ps.length ∧ ps.length ≤ 4194304 := by
  obtain ⟨pw, e, h1, h2⟩ := h.pow
  rw [e]
  have a1 : 2 ^ 3 ≤ 2 ^ pw := Nat.pow_le_pow_right (by omega) h1
  have a2 : 2 ^ pw ≤ 2 ^ 22 := Nat.pow_le_pow_right (by omega) h2
  omega

theorem find_full {w : World} {t b : Nat} {ps : List Pl} {f : Key → Option Int} {n u : Nat} (h : Full w t b ps f n u) (hu : u < ps.length) (k : Key) :
    Calls Try.prog 56 #[.pointer (some ⟨t, 0, none⟩), keyV k] w (FindOut ps k w) := by
  obtain ⟨pw, e, h1, h2⟩ := h.pow
  exact find_any k t b ps n u w h.lies pw e (by omega) (by rw [h.rep.uses]; exact hu)

def rows0 (m : Nat) : List Pl := List.replicate m Pl.zero

theorem cells_rows0 (m : Nat) : cellsAll (rows0 m) = List.replicate (m * 5) (.int .i64 0) := by
  unfold rows0
  induction m with
  | zero => rfl
  | succ m ih =>
    rw [List.replicate_succ]
    show cellsOf Pl.zero ++ cellsAll (List.replicate m Pl.zero) = _
    rw [ih, show (m + 1) * 5 = 5 + m * 5 by omega, ← List.replicate_append_replicate]
    rfl

theorem cells_zero (m : Nat) : madeCells (Value.agg #[.int .i64 0, .int .i64 0, .int .i64 0, .int .i64 0, .int .i64 0]).cells (m * 5) = (cellsAll (rows0 m)).toArray := by
  rw [cells_rows0]
  apply Array.ext
  · simp [size_madeCells]
  · intro i h1 h2
    have hi : i % 5 < 5 := Nat.mod_lt _ (by omega)
    simp only [madeCells, Array.getElem_map, Array.getElem_range, List.getElem_toArray, List.getElem_replicate, Value.cells]
    show (#[Value.int .i64 0, .int .i64 0, .int .i64 0, .int .i64 0, .int .i64 0])[i % 5]! = _
    generalize i % 5 = r at hi
    match r, hi with
    | 0, _ => rfl
    | 1, _ => rfl
    | 2, _ => rfl
    | 3, _ => rfl
    | 4, _ => rfl

theorem run_make_places (m : Nat) (hm : m ≤ 8388608) (w : World) :
    (Instr.makeSlice 107 (.int .i64 (m : Int)) (.int .i64 (m : Int))).run Try.prog w = .ok (.slice (some ⟨w.heap.size, 0, none⟩) m m) (w.alloc (.cells (cellsAll (rows0 m)).toArray 114)) := by
  obtain ⟨i, hi, hz, hz1, hz2⟩ := info_parts info_place
  have hb : (i.bytes : Int) * (m : Int) ≤ 281474976710656 := by rw [hz2]; omega
  have hr := run_make (P := Try.prog) w 107 114 i _ Try.underlying107 hi hz .i64 .i64 m m (by omega) (by omega) hb (by omega)
  rw [hz1] at hr
  simp only [Int.toNat_natCast] at hr
  rw [cells_zero] at hr
  exact hr

/-- The table is as one that is new. -/
def NewOut (t : Nat) (w : World) (e : Ending) (w' : World) : Prop :=
  e = .returned (.tuple #[]) ∧ Mut t t w w' ∧ Full w' t w.heap.size (rows0 8) (fun _ => none) 0 0

theorem full_new {w : World} {t b m pw : Nat} (h : Lies w t b (rows0 m) 0 0) (e : m = 2 ^ pw) (h1 : 3 ≤ pw) (h2 : pw ≤ 22) : Full w t b (rows0 m) (fun _ => none) 0 0 :=
  ⟨h, Rep.new _ m, pw, by rw [rows0, List.length_replicate]; exact e, h1, h2⟩

theorem size_setCell (w : World) (p : Addr) (v : Value) : (w.setCell p v).heap.size = w.heap.size := by simp [World.setCell]

/-- A table's block with new places. -/
theorem lies_made {w : World} {t m : Nat} {x1 x2 x3 : Value} {L : Array Value} (h : w.heap[t]? = some (.cells #[.pointer (some ⟨t, 0, none⟩), x1, x2, x3] 109 (0, 0))) (hL : (cellsAll (rows0 m)).toArray = L) :
    Lies ((((w.setCell ⟨t, 1, none⟩ (.slice (some ⟨w.heap.size, 0, none⟩) m m)).setCell ⟨t, 2, none⟩ (.int .i64 0)).setCell ⟨t, 3, none⟩ (.int .i64 0)).alloc (.cells L 114)) t w.heap.size (rows0 m) 0 0 := by
  have ht : t < w.heap.size := by
    rcases Nat.lt_or_ge t w.heap.size with h1 | h1
    · exact h1
    · rw [Array.getElem?_eq_none h1] at h; cases h
  have h1 := heap_setCell_same w t 1 _ _ (.slice (some ⟨w.heap.size, 0, none⟩) m m) h
  have h2 := heap_setCell_same _ t 2 _ _ (.int .i64 0) h1
  have h3 := heap_setCell_same _ t 3 _ _ (.int .i64 0) h2
  refine ⟨?_, ?_, by omega⟩
  · rw [Below.heap_alloc _ _ _ (by simp only [size_setCell]; omega), h3]
    simp [rows0]
  · have e : (((w.setCell ⟨t, 1, none⟩ (.slice (some ⟨w.heap.size, 0, none⟩) m m)).setCell ⟨t, 2, none⟩ (.int .i64 0)).setCell ⟨t, 3, none⟩ (.int .i64 0)).heap.size = w.heap.size := by simp only [size_setCell]
    have hn := heap_alloc_new (((w.setCell ⟨t, 1, none⟩ (.slice (some ⟨w.heap.size, 0, none⟩) m m)).setCell ⟨t, 2, none⟩ (.int .i64 0)).setCell ⟨t, 3, none⟩ (.int .i64 0)) (.cells L 114)
    rw [e] at hn
    rw [hn, hL]

theorem mut_made {w : World} {t : Nat} (b : Nat) {v1 v2 v3 : Value} (o : Obj) : Mut t b w ((((w.setCell ⟨t, 1, none⟩ v1).setCell ⟨t, 2, none⟩ v2).setCell ⟨t, 3, none⟩ v3).alloc o) :=
  ((((Mut.refl t b w).setCell (.inl rfl) _).setCell (.inl rfl) _).setCell (.inl rfl) _).alloc _

theorem empty_any (t : Nat) (x1 x2 x3 : Value) (w : World) (h : w.heap[t]? = some (.cells #[.pointer (some ⟨t, 0, none⟩), x1, x2, x3] 109 (0, 0))) :
    Calls Try.prog 53 #[.pointer (some ⟨t, 0, none⟩)] w (NewOut t w) := by
  have c0 := cell_of_row w t 0 _ _ _ h
  have c1 := cell_of_row w t 1 _ _ _ h
  have c2 := cell_of_row w t 2 _ _ _ h
  have c3 := cell_of_row w t 3 _ _ _ h
  have f1 := fun o => frozen_of_row w t o _ _ h
  have hmk := run_make_places 8 (by omega)
  have hmk : ∀ w : World, (Instr.makeSlice 107 (.int .i64 8) (.int .i64 8)).run Try.prog w = .ok (.slice (some ⟨w.heap.size, 0, none⟩) 8 8) (w.alloc (.cells (cellsAll (rows0 8)).toArray 114)) := hmk
  have ht : t < w.heap.size := by
    rcases Nat.lt_or_ge t w.heap.size with h1 | h1
    · exact h1
    · rw [Array.getElem?_eq_none h1] at h; cases h
  have HH := Lib.hid h
  clear h
  simp at c0 c1 c2 c3
  obtain ⟨L, hL⟩ : ∃ L, (cellsAll (rows0 8)).toArray = L := ⟨_, rfl⟩
  rw [hL] at hmk
  have HL := Lib.hid hL
  clear hL
  go_enter Try.func53, Try.ntmps53
  go_wp2
  go_end0
  exact ⟨rfl, mut_made t _, full_new (lies_made HH.out HL.out) (pw := 3) rfl (by omega) (by omega)⟩

/-- New gives a table without keys. -/
def MadeOut (w : World) (e : Ending) (w' : World) : Prop :=
  ∃ t b, e = .returned (.pointer (some ⟨t, 0, none⟩)) ∧ Full w' t b (rows0 8) (fun _ => none) 0 0 ∧ Below w.heap.size w w' ∧ w.heap.size ≤ t ∧ w.heap.size ≤ b

theorem new_any (w : World) : Calls Try.prog 39 #[] w (MadeOut w) := by
  go_enter Try.func39, Try.ntmps39
  go_wp2_with fail
  refine (empty_any w.heap.size _ _ _ _ (heap_alloc_new w _)).mono ?_
  rintro e w1 ⟨rfl, hm, hf⟩
  have hb : Below w.heap.size w w1 := Mut.to_below ((Below.refl _ _).alloc (Nat.le_refl _) _) hm (Nat.le_refl _) (Nat.le_refl _) (by simp)
  go_wp2_with fail
  go_ret
  exact ⟨_, _, rfl, hf, hb, Nat.le_refl _, by simp⟩

end Go.Proofs.Ytfdebadmikmnaaa
