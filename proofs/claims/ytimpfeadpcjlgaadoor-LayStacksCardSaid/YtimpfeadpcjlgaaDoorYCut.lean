/- Layer 7 (lay): the closure that cuts the next group off an order. -/
import Derived.Test.YtimpfeadpcjlgaaDoorYRange
import Derived.Maps.OwnIn
import Derived.Maps.AppendAt
namespace Go.Proofs.YtimpfeadpcjlgaaDoor
open Go.ChangeShapes Go.WideShapes Go.ChangeAt Go.RowKit Go.Maps Go.Shelf
attribute [local go_sem] Oper.semAt_some

/-- The places of names, each taken once. -/
def takeN (F : ByteArray → Option Nat) : List ByteArray → Option (List Nat × (ByteArray → Option Nat))
  | [] => some ([], F)
  | s :: r => match F s with
    | none => none
    | some k => match takeN (putF F s none) r with
      | none => none
      | some (g, F') => some (k :: g, F')

theorem takeN_snoc : ∀ (p : List ByteArray) (F : ByteArray → Option Nat) (x : ByteArray), takeN F (p ++ [x]) = match takeN F p with
    | none => none
    | some (g, F') => match F' x with
      | none => none
      | some k => some (g ++ [k], putF F' x none)
  | [], F, x => by
    show takeN F [x] = _
    simp only [takeN]
    cases F x <;> rfl
  | s :: r, F, x => by
    show takeN F (s :: (r ++ [x])) = _
    simp only [takeN]
    cases F s with
    | none => rfl
    | some k =>
      simp only
      rw [takeN_snoc r]
      cases takeN (putF F s none) r with
      | none => rfl
      | some z =>
        obtain ⟨g, F'⟩ := z
        simp only
        cases F' x <;> rfl
theorem takeN_len : ∀ (p : List ByteArray) (F F' : ByteArray → Option Nat) (g : List Nat), takeN F p = some (g, F') → g.length = p.length
  | [], F, F', g, h => by simp [takeN] at h; simp [← h.1]
  | s :: r, F, F', g, h => by
    simp only [takeN] at h
    cases hF : F s with
    | none => rw [hF] at h; cases h
    | some k =>
      rw [hF] at h
      simp only at h
      cases hr : takeN (putF F s none) r with
      | none => rw [hr] at h; cases h
      | some z =>
        obtain ⟨g2, F2⟩ := z
        rw [hr] at h
        simp only [Option.some.injEq, Prod.mk.injEq] at h
        obtain ⟨rfl, rfl⟩ := h
        simp [takeN_len r _ _ _ hr]
theorem takeN_prefix {F : ByteArray → Option Nat} {p q : List ByteArray} (hpq : p <+: q) (h : takeN F p = none) : takeN F q = none := by
  obtain ⟨t, rfl⟩ := hpq
  induction t generalizing p with
  | nil => rw [List.append_nil]; exact h
  | cons x t ih =>
    rw [show p ++ x :: t = (p ++ [x]) ++ t by simp]
    refine ih ?_
    rw [takeN_snoc, h]

/-- What the closure has: the rest of the order, whether there is more, and the names that are lacking. -/
structure GS (w : World) (bR bM bL m : Nat) (r : ByteArray) (mo : Bool) (F : ByteArray → Option Nat) (k c : Nat) : Prop where
  r : w.heap[bR]? = some (.cells #[.string r] 9 (0, 0))
  mo : w.heap[bM]? = some (.cells #[.bool mo] 4 (0, 0))
  l : w.heap[bL]? = some (.cells #[.map (some m)] 44 (0, 0))
  map : SMap w m F k c
theorem GS.of {w w' : World} {bR bM bL m : Nat} {r : ByteArray} {mo : Bool} {F : ByteArray → Option Nat} {k c : Nat} (h : GS w bR bM bL m r mo F k c) (h1 : ∀ i, i < w.heap.size → i = bR ∨ i = bM ∨ i = bL ∨ i = m → w'.heap[i]? = w.heap[i]?) : GS w' bR bM bL m r mo F k c :=
  ⟨(h1 _ (row_lt h.r) (.inl rfl)).trans h.r, (h1 _ (row_lt h.mo) (.inr (.inl rfl))).trans h.mo, (h1 _ (row_lt h.l) (.inr (.inr (.inl rfl)))).trans h.l, h.map.of (h1 _ h.map.lt_b (.inr (.inr (.inr rfl))))⟩

def OwnG (bR bM m : Nat) (k : Nat) : Prop := k = bR ∨ k = bM ∨ k = m

/-- The next group's text, the rest behind it, and whether there is one. -/
def headT (s : ByteArray) : ByteArray × ByteArray × Bool := if Lib.indexByte (bytesOf s) 95 = -1 then (s, ⟨#[]⟩, false) else (ofBytes ((bytesOf s).take (Lib.indexByte (bytesOf s) 95).toNat), ofBytes ((bytesOf s).drop ((Lib.indexByte (bytesOf s) 95).toNat + 1)), true)

theorem scut_any (s : ByteArray) (hs : s.size ≤ 1048576) (w : World) : Calls Tryd.prog 24 #[.string s, .string ⟨#[95]⟩] w fun e w' => e = .returned (.tuple #[.string (headT s).1, .string (headT s).2.1, .bool (headT s).2.2]) ∧ ∃ q, w' = w.drewN q := by
  by_cases h : Lib.indexByte (bytesOf s) 95 = -1
  · have := scut_none h w
    unfold headT
    rw [if_pos h]
    exact this
  · obtain ⟨i, hi⟩ : ∃ i : Nat, Lib.indexByte (bytesOf s) 95 = (i : Int) := ⟨(Lib.indexByte (bytesOf s) 95).toNat, by have := indexByte_lo 95 (bytesOf s); omega⟩
    have := scut_at hi hs w
    unfold headT
    rw [if_neg h, hi]
    exact this
theorem headT_size (s : ByteArray) : (headT s).1.size ≤ s.size ∧ (headT s).2.1.size ≤ s.size := by
  unfold headT
  split
  · exact ⟨Nat.le_refl _, Nat.zero_le _⟩
  · constructor
    · show (ofBytes _).size ≤ _
      rw [← bytes_len, bytes_of, List.length_take, bytes_len]; omega
    · show (ofBytes _).size ≤ _
      rw [← bytes_len, bytes_of, List.length_drop, bytes_len]; omega

/-- What a call of the closure leaves. -/
def CutOut (bR bM bL m : Nat) (r : ByteArray) (F : ByteArray → Option Nat) (k c : Nat) (w : World) (e : Ending) (w' : World) : Prop :=
  Turn (OwnG bR bM m) w w' ∧
    ((∃ g F' v, takeN F (splitS 42 (headT r).1) = some (g, F') ∧ e = .returned (.tuple #[v, .bool true]) ∧ w'.ownsRow w.heap.size 3 1 v g.length (nats g) ∧ g.length ≤ k ∧ GS w' bR bM bL m (headT r).2.1 (headT r).2.2 F' (k - g.length) c) ∨
     (takeN F (splitS 42 (headT r).1) = none ∧ e = .returned (.tuple #[.slice none 0 0, .bool false])))

theorem cell_alloc {w : World} {b : Nat} {v : Value} (h : w.cell? ⟨b, 0, none⟩ = some v) (o : Obj) : (w.alloc o).cell? ⟨b, 0, none⟩ = some v :=
  (((Below.refl w.heap.size w).alloc (Nat.le_refl _) o).cell (p := ⟨b, 0, none⟩) (lt_of_cell h)).trans h
theorem cell_new (w : World) (v : Value) (t : TypeId) : (w.alloc (.cells #[v] t)).cell? ⟨w.heap.size, 0, none⟩ = some v := by
  rw [cell_of_row _ _ 0 _ _ _ (heap_alloc_new w _)]; rfl
theorem cell_set {w : World} {b : Nat} {v u : Value} {t : TypeId} (h : w.heap[b]? = some (.cells #[v] t (0, 0))) : (w.setCell ⟨b, 0, none⟩ u).heap[b]? = some (.cells #[u] t (0, 0)) := by
  rw [heap_setCell_same _ _ _ _ _ _ h]; rfl
theorem at_old {w : World} {o o' : Obj} {k : Nat} (h : w.heap[k]? = some o) : (w.alloc o').heap[k]? = some o := (Below.heap_alloc w o' k (row_lt h)).trans h

/-- The world in which the closure begins to cut: two boxes for its answer. -/
def cW1 (w : World) : World := (w.alloc (.cells #[.slice none 0 0] 36)).alloc (.cells #[.bool false] 4)
/-- Behind strings.Cut, the two stores, the group's box. -/
def cW4 (w2 : World) (bR bM : Nat) (r2 : ByteArray) (m2 : Bool) : World := ((w2.setCell ⟨bR, 0, none⟩ (.string r2)).setCell ⟨bM, 0, none⟩ (.bool m2)).alloc (.cells #[.slice none 0 0] 36)
def cW5 (w4 : World) (t : ByteArray) : World := ((w4.alloc (.cells #[.string t] 9)).alloc (.cells #[.string ⟨#[42]⟩] 9)).alloc (.cells #[.int .i64 0] 3)

structure CW (w w5 : World) (bR bM bL m : Nat) (r : ByteArray) (mo : Bool) (F : ByteArray → Option Nat) (k c : Nat) (t : ByteArray) : Prop where
  gs : GS w5 bR bM bL m r mo F k c
  size : w5.heap.size = w.heap.size + 6
  turn : Turn (OwnG bR bM m) w w5
  b3 : w5.heap[w.heap.size]? = some (.cells #[.slice none 0 0] 36 (0, 0))
  b4 : w5.heap[w.heap.size + 1]? = some (.cells #[.bool false] 4 (0, 0))
  b6 : w5.heap[w.heap.size + 2]? = some (.cells #[.slice none 0 0] 36 (0, 0))
  bx : Bx w5 (w.heap.size + 3) (w.heap.size + 4) (w.heap.size + 5) 42 t

theorem cut_world {w w2 : World} {bR bM bL m : Nat} {r : ByteArray} {mo : Bool} {F : ByteArray → Option Nat} {k c : Nat} (h : GS w bR bM bL m r mo F k c) (hd1 : bR ≠ bM) (hd2 : bR ≠ bL) (hd3 : bM ≠ bL) {q : Nat} (h2 : w2 = (cW1 w).drewN q) (r2 : ByteArray) (m2 : Bool) (t : ByteArray) :
    CW w (cW5 (cW4 w2 bR bM r2 m2) t) bR bM bL m r2 m2 F k c t := by
  have z1 : (cW1 w).heap.size = w.heap.size + 2 := by unfold cW1; simp
  have k1 : ∀ i o, w.heap[i]? = some o → (cW1 w).heap[i]? = some o := fun i o hi => at_old (at_old hi)
  have n1 : (cW1 w).heap[w.heap.size]? = some (.cells #[.slice none 0 0] 36 (0, 0)) := at_old (heap_alloc_new w _)
  have n2 : (cW1 w).heap[w.heap.size + 1]? = some (.cells #[.bool false] 4 (0, 0)) := by
    have := heap_alloc_new (w.alloc (.cells #[.slice none 0 0] 36)) (.cells #[.bool false] 4)
    rwa [World.size_alloc] at this
  have e2 : w2.heap = (cW1 w).heap := by rw [h2]; rfl
  have lR := row_lt h.r
  have lM := row_lt h.mo
  have lL := row_lt h.l
  have mR : bR ≠ m := h.map.not_row h.r
  have mM : bM ≠ m := h.map.not_row h.mo
  have mL : bL ≠ m := h.map.not_row h.l
  have lm := h.map.lt_b
  have t2 : Turn (OwnG bR bM m) w w2 := by
    rw [h2]; unfold cW1; exact (((Turn.refl _ w).alloc _).alloc _).drewN q
  obtain ⟨w3, hw3⟩ : ∃ w3, w3 = (w2.setCell ⟨bR, 0, none⟩ (.string r2)).setCell ⟨bM, 0, none⟩ (.bool m2) := ⟨_, rfl⟩
  have t3 : Turn (OwnG bR bM m) w w3 := by rw [hw3]; exact (t2.setCell (p := ⟨bR, 0, none⟩) (.inl (.inl rfl)) _).setCell (p := ⟨bM, 0, none⟩) (.inl (.inr (.inl rfl))) _
  have z3 : w3.heap.size = w.heap.size + 2 := by rw [hw3]; simp [World.setCell]; rw [e2, z1]
  have rR : w3.heap[bR]? = some (.cells #[.string r2] 9 (0, 0)) := by
    rw [hw3]; exact (heap_setCell_other _ _ _ _ hd1).trans (cell_set (by rw [e2]; exact k1 _ _ h.r))
  have rM : w3.heap[bM]? = some (.cells #[.bool m2] 4 (0, 0)) := by
    rw [hw3]; exact cell_set ((heap_setCell_other _ _ _ _ (fun e => hd1 e.symm)).trans (by rw [e2]; exact k1 _ _ h.mo))
  have oth : ∀ i o, i ≠ bR → i ≠ bM → (cW1 w).heap[i]? = some o → w3.heap[i]? = some o := fun i o h1 h2 hi => by
    rw [hw3]; exact (heap_setCell_other _ _ _ _ h2).trans ((heap_setCell_other _ _ _ _ h1).trans (by rw [e2]; exact hi))
  have rL : w3.heap[bL]? = some (.cells #[.map (some m)] 44 (0, 0)) := oth _ _ (fun e => hd2 e.symm) (fun e => hd3 e.symm) (k1 _ _ h.l)
  have mm : w3.heap[m]? = w.heap[m]? := by
    obtain ⟨o, ho⟩ : ∃ o, w.heap[m]? = some o := ⟨_, Array.getElem?_eq_getElem lm⟩
    rw [ho]; exact oth _ _ (fun e => mR e.symm) (fun e => mM e.symm) (k1 _ _ ho)
  have s3 := oth _ _ (by omega) (by omega) n1
  have s4 := oth _ _ (by omega) (by omega) n2
  unfold cW5 cW4
  rw [← hw3]
  have z4 : (w3.alloc (.cells #[.slice none 0 0] 36)).heap.size = w.heap.size + 3 := by simp [z3]
  have z5 : ((w3.alloc (.cells #[.slice none 0 0] 36)).alloc (.cells #[.string t] 9)).heap.size = w.heap.size + 4 := by simp [z3]
  have z6 : (((w3.alloc (.cells #[.slice none 0 0] 36)).alloc (.cells #[.string t] 9)).alloc (.cells #[.string ⟨#[42]⟩] 9)).heap.size = w.heap.size + 5 := by simp [z3]
  refine ⟨⟨at_old (at_old (at_old (at_old rR))), at_old (at_old (at_old (at_old rM))), at_old (at_old (at_old (at_old rL))), h.map.of ?_⟩, by simp [z3], (((t3.alloc _).alloc _).alloc _).alloc _, at_old (at_old (at_old (at_old s3))), at_old (at_old (at_old (at_old s4))), at_old (at_old (at_old ?_)), ⟨at_old (at_old ?_), at_old ?_, ?_⟩⟩
  · obtain ⟨o, ho⟩ : ∃ o, w.heap[m]? = some o := ⟨_, Array.getElem?_eq_getElem lm⟩
    rw [ho] at mm ⊢
    exact at_old (at_old (at_old (at_old mm)))
  · have := heap_alloc_new w3 (.cells #[.slice none 0 0] 36); rwa [z3] at this
  · have := heap_alloc_new (w3.alloc (.cells #[.slice none 0 0] 36)) (.cells #[.string t] 9); rwa [z4] at this
  · have := heap_alloc_new ((w3.alloc (.cells #[.slice none 0 0] 36)).alloc (.cells #[.string t] 9)) (.cells #[.string ⟨#[42]⟩] 9); rwa [z5] at this
  · have := heap_alloc_new (((w3.alloc (.cells #[.slice none 0 0] 36)).alloc (.cells #[.string t] 9)).alloc (.cells #[.string ⟨#[42]⟩] 9)) (.cells #[.int .i64 0] 3); rwa [z6] at this
/-- Between two rounds. -/
def CI (w : World) (bR bM bL m : Nat) (r2 : ByteArray) (m2 : Bool) (F : ByteArray → Option Nat) (k c : Nat) (pre : List ByteArray) (W : World) : Prop :=
  ∃ (g : List Nat) (F' : ByteArray → Option Nat) (v : Value), takeN F pre = some (g, F') ∧ g.length ≤ k ∧ GS W bR bM bL m r2 m2 F' (k - g.length) c ∧ W.heap[w.heap.size + 2]? = some (.cells #[v] 36 (0, 0)) ∧ W.ownsRow (w.heap.size + 8) 3 1 v g.length (nats g) ∧
    W.heap[w.heap.size]? = some (.cells #[.slice none 0 0] 36 (0, 0)) ∧ W.heap[w.heap.size + 1]? = some (.cells #[.bool false] 4 (0, 0)) ∧ Turn (OwnG bR bM m) w W
/-- Where a round has returned. -/
def CX (w : World) (bR bM m : Nat) (t : ByteArray) (F : ByteArray → Option Nat) (W : World) : Prop :=
  takeN F (splitS 42 t) = none ∧ W.heap[w.heap.size]? = some (.cells #[.slice none 0 0] 36 (0, 0)) ∧ W.heap[w.heap.size + 1]? = some (.cells #[.bool false] 4 (0, 0)) ∧ Turn (OwnG bR bM m) w W

section
variable {w : World} {bR bM bL m : Nat} {r2 : ByteArray} {m2 : Bool} {F : ByteArray → Option Nat} {k c : Nat}
theorem own_turn {own : Nat → Prop} {W W' : World} {B : Nat} {v : Value} {n : Nat} {xs : List Value} {e : TypeId} (h : W.ownsRow B e 1 v n xs) (ht : Turn own W W') (hB : ∀ i, own i → i < B) : W'.ownsRow B e 1 v n xs := by
  refine ⟨h.1, ?_⟩
  rcases h.2 with h | ⟨g, cap, cur, e, hg, hr, hx⟩
  · exact .inl h
  · exact .inr ⟨g, cap, cur, e, hg, (ht.block _ (row_lt hr) (fun h => by have := hB _ h; omega)).trans hr, hx⟩
theorem CI.turn {pre : List ByteArray} {W W' : World} (lR : bR < w.heap.size) (lM : bM < w.heap.size) (lL : bL < w.heap.size) (lm : m < w.heap.size) (h : CI w bR bM bL m r2 m2 F k c pre W) (ht : Turn (Own3 (w.heap.size + 3) (w.heap.size + 6)) W W') : CI w bR bM bL m r2 m2 F k c pre W' := by
  obtain ⟨g, F', v, h1, h2, h3, h4, h5, h6, h7, h8⟩ := h
  refine ⟨g, F', v, h1, h2, h3.of (fun i hi hj => ht.block i hi (fun h => by unfold Own3 at h; rcases hj with rfl | rfl | rfl | rfl <;> omega)), (ht.block _ (row_lt h4) (fun h => by unfold Own3 at h; omega)).trans h4, own_turn h5 ht (fun i hi => by unfold Own3 at hi; omega), (ht.block _ (row_lt h6) (fun h => by unfold Own3 at h; omega)).trans h6, (ht.block _ (row_lt h7) (fun h => by unfold Own3 at h; omega)).trans h7, h8.trans ht (fun i hi => by unfold Own3 at hi; right; omega)⟩
theorem CX.turn {t : ByteArray} {W W' : World} (h : CX w bR bM m t F W) (ht : Turn (Own3 (w.heap.size + 3) (w.heap.size + 6)) W W') : CX w bR bM m t F W' := by
  obtain ⟨h1, h6, h7, h8⟩ := h
  exact ⟨h1, (ht.block _ (row_lt h6) (fun h => by unfold Own3 at h; omega)).trans h6, (ht.block _ (row_lt h7) (fun h => by unfold Own3 at h; omega)).trans h7, h8.trans ht (fun i hi => by unfold Own3 at hi; right; omega)⟩
end

theorem info_intY : (Tryd.prog.info? 3).map (fun i => (i.zero, i.size, i.bytes)) = some (some (.int .i64 0), 1, 8) := by kernel_rfl

set_option maxRecDepth 100000 in
/-- The closure's two results, read from their boxes. -/
theorem cut_results {tmps : Array Value} {W : World} {a b : Nat} {v u : Value} (h3 : tmps[3]? = some (.pointer (some ⟨a, 0, none⟩))) (h4 : tmps[4]? = some (.pointer (some ⟨b, 0, none⟩))) (ha : W.heap[a]? = some (.cells #[v] 36 (0, 0))) (hb : W.heap[b]? = some (.cells #[u] 4 (0, 0))) :
    (results Tryd.f23 tmps).run Tryd.prog W = .ok (.tuple #[v, u]) W := by
  have ca := cell_of_row _ _ 0 _ _ _ ha
  have cb := cell_of_row _ _ 0 _ _ _ hb
  simp only [List.getElem?_toArray, List.getElem?_cons_zero] at ca cb
  have hr : Tryd.f23.results = #[.cell 3 36, .cell 4 4] := rfl
  unfold results
  rw [hr]
  simp [go_sem, h3, h4, ca, cb]

set_option maxRecDepth 100000 in
set_option maxHeartbeats 4000000 in
theorem cut_in {w : World} {bR bM bL m : Nat} {r : ByteArray} {mo : Bool} {F : ByteArray → Option Nat} {k c : Nat} (h : GS w bR bM bL m r mo F k c) (hd1 : bR ≠ bM) (hd2 : bR ≠ bL) (hd3 : bM ≠ bL) (hr : r.size ≤ 1048576) (hk : k ≤ 1000) :
    Calls Tryd.prog 23 #[.pointer (some ⟨bR, 0, none⟩), .pointer (some ⟨bM, 0, none⟩), .pointer (some ⟨bL, 0, none⟩)] w (CutOut bR bM bL m r F k c w) := by
  refine (callsIn_wide (n := 5)).1 ?_
  have cr := cell_of_row _ _ 0 _ _ _ h.r
  have cm := cell_of_row _ _ 0 _ _ _ h.mo
  have cl := cell_of_row _ _ 0 _ _ _ h.l
  simp only [List.getElem?_toArray, List.getElem?_cons_zero] at cr cm cl
  have fr := frozen_of_row _ bR 0 _ _ h.r
  have fm := frozen_of_row _ bM 0 _ _ h.mo
  have H := Lib.hid h
  clear h
  have cr1 : (cW1 w).cell? ⟨bR, 0, none⟩ = some (.string r) := cell_alloc (cell_alloc cr _) _
  have cm1 : (cW1 w).cell? ⟨bM, 0, none⟩ = some (.bool mo) := cell_alloc (cell_alloc cm _) _
  unfold cW1 at cr1 cm1
  refine callsIn_of_wp_marks Tryd.func23 rfl trivial ?_ rfl
  simp only [Tryd.ntmps23, List.size_toArray, List.length_cons, List.length_nil, Nat.reduceAdd, Nat.reduceSub, Array.replicate_succ, Array.replicate_zero, List.push_toArray, List.append_toArray, List.nil_append, List.cons_append]
  gi_wp2
  refine ⟨trivial, (callsIn_wide.2 (scut_any r hr _)).mono ?_⟩
  rintro e w2 ⟨rfl, q, hw2⟩
  have CWF := Lib.hid (cut_world H.out hd1 hd2 hd3 (w2 := w2) (q := q) hw2 (headT r).2.1 (headT r).2.2 (headT r).1)
  have gR : w2.heap[bR]? = some (.cells #[.string r] 9 (0, 0)) := by rw [hw2]; exact at_old (at_old H.out.r)
  have gM : w2.heap[bM]? = some (.cells #[.bool mo] 4 (0, 0)) := by rw [hw2]; exact at_old (at_old H.out.mo)
  have gM2 : (w2.setCell ⟨bR, 0, none⟩ (.string (headT r).2.1)).heap[bM]? = some (.cells #[.bool mo] 4 (0, 0)) := (heap_setCell_other _ _ _ _ (fun e => hd1 e.symm)).trans gM
  have c1 := cell_of_row _ _ 0 _ _ _ gR
  have c2 := cell_of_row _ _ 0 _ _ _ gM2
  simp only [List.getElem?_toArray, List.getElem?_cons_zero] at c1 c2
  have f1 := frozen_of_row _ bR 0 _ _ gR
  have f2 := frozen_of_row _ bM 0 _ _ gM2
  have HS := Lib.hid (headT_size r)
  have z2 : w2.heap.size = w.heap.size + 2 := by rw [hw2]; show (cW1 w).heap.size = _; unfold cW1; simp
  clear hw2 gR gM gM2 cr cm cl fr fm cr1 cm1
  gi_wp2
  refine ⟨trivial, (callsIn_wide.2 (splitSeq_any (headT r).1 ⟨#[42]⟩ _)).mono ?_⟩
  rintro e w5 ⟨rfl, hw5⟩
  have e5 : w5 = cW5 (cW4 w2 bR bM (headT r).2.1 (headT r).2.2) (headT r).1 := hw5
  have CWF := CWF.out
  rw [← e5] at CWF
  clear hw5 e5 c1 c2 f1 f2
  gi_wp2
  (try rw [z2])
  (try simp only [Nat.add_assoc, Nat.reduceAdd])
  have HSZ := CWF.size
  refine wpIn_split (n := 5) (by omega) (bs := w.heap.size + 3) (bp := w.heap.size + 4) (bv := w.heap.size + 5) (c := 42) (s := (headT r).1) (by have := HS.out.1; omega) (by omega) (by omega) CWF.bx rfl rfl
    (CI w bR bM bL m (headT r).2.1 (headT r).2.2 F k c) (CX w bR bM m (headT r).1 F)
    (fun pre W W' hi ht => hi.turn (row_lt H.out.r) (row_lt H.out.mo) (row_lt H.out.l) H.out.map.lt_b (by rw [HSZ] at ht; exact ht)) (fun W W' hi ht => hi.turn (by rw [HSZ] at ht; exact ht))
    ⟨[], F, _, rfl, Nat.zero_le _, CWF.gs, CWF.b6, World.ownsRow_nil _ _ _ _, CWF.b3, CWF.b4, CWF.turn⟩
    (fun x => { tmps := #[.pointer (some ⟨bR, 0, none⟩), .pointer (some ⟨bM, 0, none⟩), .pointer (some ⟨bL, 0, none⟩), .pointer (some ⟨w.heap.size, 0, none⟩), .pointer (some ⟨w.heap.size + 1, 0, none⟩), .string (headT r).1, .pointer (some ⟨w.heap.size + 2, 0, none⟩), .string x, undef, undef, .tuple #[.string (headT r).1, .string (headT r).2.1, .bool (headT r).2.2], .string r, .tuple #[.string (headT r).1, .string (headT r).2.1, .bool (headT r).2.2], .string (headT r).1, .string (headT r).2.1, .bool (headT r).2.2, .string (headT r).1, .func (.func 34) #[] #[.pointer (some ⟨w.heap.size + 4, 0, none⟩), .pointer (some ⟨w.heap.size + 3, 0, none⟩), .pointer (some ⟨w.heap.size + 5, 0, none⟩)], .string x, undef, undef, undef, undef, undef, undef, undef, undef, undef, undef, undef, undef, undef, undef, undef], defers := [] })
    ?assign ?body ?done ?stop
  case assign =>
    intro l x W K hK
    gi_wp2
    exact hK
  case body =>
    rintro l pre x W ⟨g, F', v, ht, hgk, hgs, h6, ho, h3, h4, tn⟩ hpre hlt
    rw [HSZ] at hlt
    rw [HSZ]
    have hxm : x ∈ splitS 42 (headT r).1 := hpre.subset (by simp)
    have hxs : x.size ≤ 1048576 := by have := splitS_size hxm; have := HS.out.1; omega
    have lR := row_lt H.out.r
    have lM := row_lt H.out.mo
    have lL := row_lt H.out.l
    have lm := H.out.map.lt_b
    have mR : bR ≠ m := H.out.map.not_row H.out.r
    have mM : bM ≠ m := H.out.map.not_row H.out.mo
    have mL : bL ≠ m := H.out.map.not_row H.out.l
    have cl := cell_of_row _ _ 0 _ _ _ hgs.l
    have c6 := cell_of_row _ _ 0 _ _ _ h6
    have c3 := cell_of_row _ _ 0 _ _ _ h3
    have c4 := cell_of_row _ _ 0 _ _ _ h4
    simp only [List.getElem?_toArray, List.getElem?_cons_zero] at cl c6 c3 c4
    have f3 := frozen_of_row _ _ 0 _ _ h3
    have f4 := frozen_of_row _ _ 0 _ _ h4
    have f6 := frozen_of_row _ _ 0 _ _ h6
    rcases hgs.map.look hxs with ⟨kx, hF, hrun⟩ | ⟨hF, z, hrun⟩
    · obtain ⟨w6, hrun2, hm6, hg6⟩ := hgs.map.cut hxs
      have t6 : Turn (fun i => i = m) W w6 := (Turn.refl _ W).grown hg6.grown (fun i e => .inl (by injection e with e; exact e.symm))
      have k6 : ∀ i o, i ≠ m → W.heap[i]? = some o → w6.heap[i]? = some o := fun i o hi ho => (t6.block i (row_lt ho) hi).trans ho
      have h66 := k6 _ _ (by omega) h6
      have c66 := cell_of_row _ _ 0 _ _ _ h66
      simp only [List.getElem?_toArray, List.getElem?_cons_zero] at c66
      have ho6 := own_turn ho t6 (fun i hi => by omega)
      have hz6 := t6.size
      have TN : Hid (takeN F (pre ++ [x]) = some (g ++ [kx], putF F' x none)) := Lib.hid (by rw [takeN_snoc, ht]; simp only [hF])
      have NL : (nats g).length = g.length := nats_len g
      rw [hF] at hm6
      have HM6 := Lib.hid hm6
      have K6 := Lib.hid k6
      have T6 := Lib.hid t6
      have HGS := Lib.hid hgs
      have H3 := Lib.hid h3
      have H4 := Lib.hid h4
      have H66 := Lib.hid h66
      have TNW := Lib.hid tn
      have HFX : Hid ((F' x).isSome = true) := Lib.hid (by rw [hF]; rfl)
      obtain ⟨i0, hi, hz0, hz1, hz2⟩ := info_parts info_intY
      clear hm6 k6 t6 hgs h3 h4 h6 h66 tn ht hF hg6 ho c6 c3 c4 f3 f4 f6 hpre hxm
      gi_wp2_with (gi_at_builtin; refine wpListIn_append_own _ rfl _ _ 36 rfl (w.heap.size + 8) 3 i0 (.int .i64 0) 1 8 Tryd.underlying36 hi hz0 hz1 hz2 rfl (by decide) _ _ _ rfl (ho6.alloc _) ⟨w6.heap.size, 0, none⟩ 1 1 [.int .i64 (kx : Int)] rfl rfl ?l1 ?l2 ?l3 ?l4 ?l5 ?l6)
      case l1 =>
        intro i u hu
        match i, hu with
        | 0, hu =>
          simp at hu
          subst hu
          rw [show (⟨w6.heap.size, 0, none⟩ : Addr).add 0 = ⟨w6.heap.size, 0, none⟩ by simp [Addr.add]]
          exact cell_new w6 _ _
      case l2 => intro u hu; simp at hu; subst hu; rfl
      case l3 => have := hgk; unfold maxLen; omega
      case l4 => omega
      case l5 => simp; omega
      case l6 =>
        intro v' w8 hown8 hgrow8 _
        obtain ⟨g8, cap8, rfl⟩ : ∃ g8 cap8, v' = .slice (some ⟨g8, 0, none⟩) (g.length + 1) cap8 := by
          rcases hown8.2 with ⟨_, e⟩ | ⟨g8, cap8, cur, e, _⟩
          · omega
          · exact ⟨_, _, e⟩
        have t8 : Turn (fun i => w.heap.size + 8 ≤ i) w6 w8 := ((Turn.refl _ w6).alloc _).grown hgrow8 (fun i e => .inl (ho6.lt i e).1)
        have k8 : ∀ i o, i < w.heap.size + 8 → w6.heap[i]? = some o → w8.heap[i]? = some o := fun i o hi ho => (t8.block i (row_lt ho) (by omega)).trans ho
        have h68 := k8 _ _ (by omega) H66.out
        have c68 := cell_of_row _ _ 0 _ _ _ h68
        simp only [List.getElem?_toArray, List.getElem?_cons_zero] at c68
        have f68 := frozen_of_row _ _ 0 _ _ h68
        have K8 := Lib.hid k8
        have T8 := Lib.hid t8
        have H68 := Lib.hid h68
        have HO8 := Lib.hid hown8
        have PO := HGS.out.map.pos (s := x)
        clear k8 t8 h68 hown8 hgrow8 ho6
        gi_wp2
        obtain ⟨w9, hw9⟩ : ∃ w9, w9 = w8.setCell ⟨w.heap.size + 2, 0, none⟩ (.slice (some ⟨g8, 0, none⟩) (g.length + 1) cap8) := ⟨_, rfl⟩
        rw [← hw9]
        have t9 : Turn (fun i => i = w.heap.size + 2) w8 w9 := by rw [hw9]; exact (Turn.refl (fun i => i = w.heap.size + 2) w8).setCell (p := ⟨w.heap.size + 2, 0, none⟩) (.inl rfl) _
        have k9 : ∀ i o, i ≠ w.heap.size + 2 → w8.heap[i]? = some o → w9.heap[i]? = some o := fun i o hi ho => (t9.block i (row_lt ho) hi).trans ho
        have kA : ∀ i o, i ≠ m → i ≠ w.heap.size + 2 → i < w.heap.size + 8 → W.heap[i]? = some o → w9.heap[i]? = some o := fun i o h1 h2 h3 ho => k9 i o h2 (K8.out i o h3 (K6.out i o h1 ho))
        have kB : ∀ i, i ≠ m → i ≠ w.heap.size + 2 → i < w.heap.size + 8 → w9.heap[i]? = W.heap[i]? := fun i h1 h2 h3 => by
          obtain ⟨o, ho⟩ : ∃ o, W.heap[i]? = some o := ⟨_, Array.getElem?_eq_getElem (by omega)⟩
          rw [ho]; exact kA i o h1 h2 h3 ho
        refine ⟨⟨kB _ (by omega) (by omega) (by omega), kB _ (by omega) (by omega) (by omega), kB _ (by omega) (by omega) (by omega), kB _ (by omega) (by omega) (by omega), kB _ (by omega) (by omega) (by omega)⟩, g ++ [kx], putF F' x none, .slice (some ⟨g8, 0, none⟩) (g.length + 1) cap8, TN.out, ?_, ?_, ?_, ?_, kA _ _ (by omega) (by omega) (by omega) H3.out, kA _ _ (by omega) (by omega) (by omega) H4.out, ?_⟩
        · have := PO HFX.out
          rw [List.length_append]; simp; omega
        · have hm9 : w9.heap[m]? = w6.heap[m]? := by
            obtain ⟨o, ho⟩ : ∃ o, w6.heap[m]? = some o := ⟨_, Array.getElem?_eq_getElem (by omega)⟩
            rw [ho]; exact k9 m o (by omega) (K8.out m o (by omega) ho)
          refine ⟨kA _ _ mR (by omega) (by omega) HGS.out.r, kA _ _ mM (by omega) (by omega) HGS.out.mo, kA _ _ mL (by omega) (by omega) HGS.out.l, ?_⟩
          have := HM6.out.of hm9
          rw [List.length_append]
          rw [show k - (g.length + [kx].length) = k - g.length - 1 by simp; omega]
          exact this
        · rw [hw9]; exact cell_set H68.out
        · have := own_turn HO8.out t9 (fun i hi => by omega)
          rw [List.length_append, show nats (g ++ [kx]) = nats g ++ [Value.int .i64 (kx : Int)] by simp [nats]]
          exact this
        · exact ((TNW.out.trans T6.out (fun i hi => .inl (.inr (.inr hi)))).trans T8.out (fun i hi => .inr (by omega))).trans t9 (fun i hi => .inr (by omega))
    · have TN : Hid (takeN F (pre ++ [x]) = none) := Lib.hid (by rw [takeN_snoc, ht]; simp only [hF])
      have TNA : Hid (takeN F (splitS 42 (headT r).1) = none) := Lib.hid (takeN_prefix hpre TN.out)
      have h3' := Lib.hid h3
      have h4' := Lib.hid h4
      have tn' := Lib.hid tn
      have h44 : (W.setCell ⟨w.heap.size, 0, none⟩ (.slice none 0 0)).heap[w.heap.size + 1]? = some (.cells #[.bool false] 4 (0, 0)) := (Below.heap_setCell W ⟨w.heap.size, 0, none⟩ _ _ (by show w.heap.size + 1 ≠ w.heap.size; omega)).trans h4
      have f4' : (W.setCell ⟨w.heap.size, 0, none⟩ (.slice none 0 0)).frozen? ⟨w.heap.size + 1, 0, none⟩ = false := frozen_of_row _ _ 0 _ _ (h44)
      have c4' : (W.setCell ⟨w.heap.size, 0, none⟩ (.slice none 0 0)).cell? ⟨w.heap.size + 1, 0, none⟩ = some (.bool false) := by
        rw [cell_of_row _ _ 0 _ _ _ h44]; rfl
      clear ht hgs h6 ho h3 h4 tn c6
      gi_wp2
      have kE : ∀ i, i ≠ w.heap.size → i ≠ w.heap.size + 1 → ((W.setCell ⟨w.heap.size, 0, none⟩ (.slice none 0 0)).setCell ⟨w.heap.size + 1, 0, none⟩ (.bool false)).heap[i]? = W.heap[i]? := fun i h1 h2 => (Below.heap_setCell _ ⟨w.heap.size + 1, 0, none⟩ _ i h2).trans (Below.heap_setCell W ⟨w.heap.size, 0, none⟩ _ i h1)
      refine ⟨⟨kE _ (by omega) (by omega), kE _ (by omega) (by omega), kE _ (by omega) (by omega), kE _ (by omega) (by omega), kE _ (by omega) (by omega)⟩, TNA.out, ?_, ?_, ?_⟩
      · exact (Below.heap_setCell _ ⟨w.heap.size + 1, 0, none⟩ _ _ (by show w.heap.size ≠ w.heap.size + 1; omega)).trans (cell_set h3'.out)
      · exact cell_set ((Below.heap_setCell W ⟨w.heap.size, 0, none⟩ _ _ (by show w.heap.size + 1 ≠ w.heap.size; omega)).trans h4'.out)
      · exact (tn'.out.setCell (p := ⟨w.heap.size, 0, none⟩) (.inr (Nat.le_refl _)) _).setCell (p := ⟨w.heap.size + 1, 0, none⟩) (.inr (by show w.heap.size ≤ w.heap.size + 1; omega)) _
  case done =>
    rintro W ⟨g, F', v, ht, hgk, hgs, h6, ho, h3, h4, tn⟩ hK
    have hKlt := row_lt hK
    have c6 := cell_of_row _ _ 0 _ _ _ h6
    have c3 := cell_of_row _ _ 0 _ _ _ h3
    have h44 : ∀ u, (W.setCell ⟨w.heap.size, 0, none⟩ u).heap[w.heap.size + 1]? = some (.cells #[.bool false] 4 (0, 0)) := fun u => (Below.heap_setCell W ⟨w.heap.size, 0, none⟩ _ _ (by show w.heap.size + 1 ≠ w.heap.size; omega)).trans h4
    simp only [List.getElem?_toArray, List.getElem?_cons_zero] at c6 c3
    have f3 := frozen_of_row _ _ 0 _ _ h3
    obtain ⟨vA, vn, vc, rfl⟩ : ∃ A n c, v = .slice A n c := by
      rcases ho.2 with ⟨e, _⟩ | ⟨g, cap, cur, e, _⟩
      · exact ⟨_, _, _, e⟩
      · exact ⟨_, _, _, e⟩
    have c4 : (W.setCell ⟨w.heap.size, 0, none⟩ (.slice vA vn vc)).cell? ⟨w.heap.size + 1, 0, none⟩ = some (.bool false) := by
      rw [cell_of_row _ _ 0 _ _ _ (h44 _)]; rfl
    have f4 : (W.setCell ⟨w.heap.size, 0, none⟩ (.slice vA vn vc)).frozen? ⟨w.heap.size + 1, 0, none⟩ = false := frozen_of_row _ _ 0 _ _ (h44 _)
    gi_wp2
    have hK2 : ((W.setCell ⟨w.heap.size, 0, none⟩ (.slice vA vn vc)).setCell ⟨w.heap.size + 1, 0, none⟩ (.bool true)).heap[w5.heap.size]? = some (.deferred (some [])) :=
      (Below.heap_setCell _ ⟨w.heap.size + 1, 0, none⟩ _ _ (by show w5.heap.size ≠ w.heap.size + 1; omega)).trans ((Below.heap_setCell W ⟨w.heap.size, 0, none⟩ _ _ (by show w5.heap.size ≠ w.heap.size; omega)).trans hK)
    refine ⟨by simp, .inl ⟨_, _, rfl, run_takeDeferred hK2, ?_⟩⟩
    obtain ⟨Wf, hWf⟩ : ∃ Wf, Wf = ((W.setCell ⟨w.heap.size, 0, none⟩ (.slice vA vn vc)).setCell ⟨w.heap.size + 1, 0, none⟩ (.bool true)).putObj w5.heap.size (.deferred none) := ⟨_, rfl⟩
    rw [← hWf]
    have kf : ∀ i o, i ≠ w.heap.size → i ≠ w.heap.size + 1 → i ≠ w5.heap.size → W.heap[i]? = some o → Wf.heap[i]? = some o := fun i o h1 h2 h3 hi => by
      rw [hWf]; exact (World.putObj_heap_other h3).trans ((Below.heap_setCell _ ⟨w.heap.size + 1, 0, none⟩ _ i h2).trans ((Below.heap_setCell W ⟨w.heap.size, 0, none⟩ _ i h1).trans hi))
    have r3 : Wf.heap[w.heap.size]? = some (.cells #[.slice vA vn vc] 36 (0, 0)) := by
      rw [hWf]; exact (World.putObj_heap_other (by omega)).trans ((Below.heap_setCell _ ⟨w.heap.size + 1, 0, none⟩ _ _ (by show w.heap.size ≠ w.heap.size + 1; omega)).trans (cell_set h3))
    have r4 : Wf.heap[w.heap.size + 1]? = some (.cells #[.bool true] 4 (0, 0)) := by
      rw [hWf]; exact (World.putObj_heap_other (by omega)).trans (cell_set (h44 _))
    have tf : Turn (fun i => i = w.heap.size ∨ i = w.heap.size + 1 ∨ i = w5.heap.size) W Wf := by
      rw [hWf]
      exact (((Turn.refl (fun i => i = w.heap.size ∨ i = w.heap.size + 1 ∨ i = w5.heap.size) W).setCell (p := ⟨w.heap.size, 0, none⟩) (.inl (.inl rfl)) _).setCell (p := ⟨w.heap.size + 1, 0, none⟩) (.inl (.inr (.inl rfl))) _).putObj (.inl (.inr (.inr rfl))) _
    refine ⟨.tuple #[.slice vA vn vc, .bool true], cut_results rfl rfl r3 r4, ?_, .inl ⟨g, F', _, ht, rfl, ?_, hgk, hgs.of (fun i hi hj => tf.block i hi (fun h => by
      have := row_lt H.out.r
      have := row_lt H.out.mo
      have := row_lt H.out.l
      have := H.out.map.lt_b
      rcases hj with rfl | rfl | rfl | rfl <;> omega))⟩⟩
    · exact tn.trans tf (fun i hi => .inr (by omega))
    · have := own_turn ho tf (fun i hi => by omega)
      refine ⟨this.1, ?_⟩
      rcases this.2 with h | ⟨g2, cap, cur, e, hg, hx⟩
      · exact .inl h
      · exact .inr ⟨g2, cap, cur, e, by omega, hx⟩
  case stop =>
    rintro W ⟨ht, h3, h4, tn⟩ hK
    have hKlt := row_lt hK
    gi_wp2
    refine ⟨by simp, .inl ⟨_, _, rfl, run_takeDeferred hK, ?_⟩⟩
    obtain ⟨Wf, hWf⟩ : ∃ Wf, Wf = W.putObj w5.heap.size (.deferred none) := ⟨_, rfl⟩
    rw [← hWf]
    have r3 : Wf.heap[w.heap.size]? = some (.cells #[.slice none 0 0] 36 (0, 0)) := by
      rw [hWf]; exact (World.putObj_heap_other (by omega)).trans h3
    have r4 : Wf.heap[w.heap.size + 1]? = some (.cells #[.bool false] 4 (0, 0)) := by
      rw [hWf]; exact (World.putObj_heap_other (by omega)).trans h4
    refine ⟨.tuple #[.slice none 0 0, .bool false], cut_results rfl rfl r3 r4, ?_, .inr ⟨ht, rfl⟩⟩
    rw [hWf]
    exact tn.putObj (.inr (by omega)) _
end Go.Proofs.YtimpfeadpcjlgaaDoor
