/- The document's store: Pin, Unpin. -/
import Derived.Test.YteeffabmafakiaaNRefWith
namespace Go.Proofs.Yteeffabmafakiaa
open Go.ChangeShapes Go.WideShapes Go.ChangeAt Go.RowKit

theorem wset_get (L : List RN) (k i : Nat) (n : RN) (hk : k ≤ L.length) : (wset L k n)[i]? = if i = k then some n else L[i]? := by
  unfold wset
  have hl : (L.take k).length = k := by rw [List.length_take, Nat.min_eq_left hk]
  by_cases h : i < k
  · rw [List.append_assoc, List.getElem?_append_left (by omega), if_neg (by omega), List.getElem?_take, if_pos h]
  · rw [List.append_assoc, List.getElem?_append_right (by omega), hl]
    by_cases e : i = k
    · subst e; rw [if_pos rfl, Nat.sub_self]; rfl
    · rw [if_neg e, List.getElem?_append_right (by simp; omega)]
      rw [List.getElem?_drop]
      congr 1
      simp; omega

theorem wset_refL {cs cs' : List Nd} {N k : Nat} {n : RN} (hk : k ≤ N) (h1 : ∀ i, i ≠ k → rn cs' i = rn cs i) (h2 : rn cs' k = n) : wset (refL cs N) k n = refL cs' (if k < N then N else N + 1) := by
  apply List.ext_getElem?
  intro i
  rw [wset_get _ _ _ _ (by rw [refL_length]; exact hk)]
  by_cases e : i = k
  · subst e
    rw [if_pos rfl, refL_get _ _ _ (by split <;> omega), h2]
  · rw [if_neg e]
    by_cases hi : i < N
    · rw [refL_get _ _ _ hi, refL_get _ _ _ (by split <;> omega), h1 i e]
    · rw [List.getElem?_eq_none (by rw [refL_length]; omega), List.getElem?_eq_none (by rw [refL_length]; split <;> omega)]

/-- Five cells of a store's variable are written. -/
def Fin5 (w : World) (b : Nat) (h : Hd) (g N cap : Nat) : World :=
  (((((w.setCell ⟨b, 0, none⟩ (.int .i64 h.V)).setCell ⟨b, 1, none⟩ (.int .i64 h.B)).setCell ⟨b, 2, none⟩ (.int .i64 h.made)).setCell ⟨b, 3, none⟩ (.int .i64 h.sweeps)).setCell ⟨b, 4, none⟩ (.slice (some ⟨g, 0, none⟩) N cap))

theorem fin5 {w : World} {b g N cap : Nat} {h : Hd} {a0 a1 a2 a3 a4 : Value} (h0 : w.heap[b]? = some (.cells #[a0, a1, a2, a3, a4] 29 (0, 0))) :
    (Fin5 w b h g N cap).heap[b]? = some (.cells #[.int .i64 h.V, .int .i64 h.B, .int .i64 h.made, .int .i64 h.sweeps, .slice (some ⟨g, 0, none⟩) N cap] 29 (0, 0)) := by
  show (Fin5 w b h g N cap).heap[b]? = _
  unfold Fin5
  have h1 := heap_setCell_same _ _ 0 _ _ (.int .i64 h.V) h0
  rw [show (#[a0, a1, a2, a3, a4] : Array Value).setIfInBounds 0 (.int .i64 h.V) = #[.int .i64 h.V, a1, a2, a3, a4] from rfl] at h1
  have h2 := heap_setCell_same _ _ 1 _ _ (.int .i64 h.B) h1
  rw [show (#[.int .i64 h.V, a1, a2, a3, a4] : Array Value).setIfInBounds 1 (.int .i64 h.B) = #[.int .i64 h.V, .int .i64 h.B, a2, a3, a4] from rfl] at h2
  have h3 := heap_setCell_same _ _ 2 _ _ (.int .i64 h.made) h2
  rw [show (#[.int .i64 h.V, .int .i64 h.B, a2, a3, a4] : Array Value).setIfInBounds 2 (.int .i64 h.made) = #[.int .i64 h.V, .int .i64 h.B, .int .i64 h.made, a3, a4] from rfl] at h3
  have h4 := heap_setCell_same _ _ 3 _ _ (.int .i64 h.sweeps) h3
  rw [show (#[.int .i64 h.V, .int .i64 h.B, .int .i64 h.made, a3, a4] : Array Value).setIfInBounds 3 (.int .i64 h.sweeps) = #[.int .i64 h.V, .int .i64 h.B, .int .i64 h.made, .int .i64 h.sweeps, a4] from rfl] at h4
  have h5 := heap_setCell_same _ _ 4 _ _ (.slice (some ⟨g, 0, none⟩) N cap) h4
  rw [show (#[.int .i64 h.V, .int .i64 h.B, .int .i64 h.made, .int .i64 h.sweeps, a4] : Array Value).setIfInBounds 4 (.slice (some ⟨g, 0, none⟩) N cap) = #[.int .i64 h.V, .int .i64 h.B, .int .i64 h.made, .int .i64 h.sweeps, .slice (some ⟨g, 0, none⟩) N cap] from rfl] at h5
  exact h5

theorem fin5_turn (w : World) (b : Nat) (h : Hd) (g N cap : Nat) : Turn (fun i => i = b) w (Fin5 w b h g N cap) := by
  unfold Fin5
  refine ((((?_ : Turn (fun i => i = b) w _).setCell (.inl rfl) _).setCell (.inl rfl) _).setCell (.inl rfl) _).setCell (.inl rfl) _
  refine (Turn.refl (fun i => i = b) w).setCell (p := ⟨b, 0, none⟩) ?_ _
  exact .inl rfl

theorem RS.turn {w w' : World} {g N cap b : Nat} {cs : List Nd} (r : RS w g N cap cs) (ht : Turn (fun i => i = b) w w') (hne : g ≠ b) : RS w' g N cap cs :=
  ⟨⟨Nat.lt_of_lt_of_le r.rl.lt ht.size, fun j u hu => (World.cell?_of_block (a := ⟨g, j, none⟩) (ht.block g r.rl.lt hne)).trans (r.rl.cell j u hu)⟩, r.le, r.cap, r.n⟩

/-- Behind a call that gives a store, and an error. -/
def RPOut (h : Hd) (N : Nat) (cs : List Nd) (x : Int) (w : World) (e : Ending) (w' : World) : Prop :=
  ∃ g cap, e = .returned (.tuple #[rsV h g N cap, .int .i64 x]) ∧ RS w' g N cap cs ∧ Below w.heap.size w w'

theorem with_rs {w w' : World} {N k : Nat} {h : Hd} {cs cs' : List Nd} {n : RN} {e : Ending} (hk : k ≤ N) (h1 : ∀ i, i ≠ k → rn cs' i = rn cs i) (h2 : rn cs' k = n) (hl : cs'.length ≤ if k < N then N else N + 1) (hn : (if k < N then N else N + 1) ≤ 1000000)
    (o : WithOut h (refL cs N) k n w e w') : ∃ g' cap', e = .returned (rsV h g' (if k < N then N else N + 1) cap') ∧ RS w' g' (if k < N then N else N + 1) cap' cs' ∧ w.heap.size ≤ g' ∧ Below w.heap.size w w' := by
  obtain ⟨g', cap', rfl, r1, r2, r3, r4⟩ := o
  rw [wset_refL hk h1 h2] at r1 r2 ⊢
  rw [refL_length] at r2 ⊢
  exact ⟨g', cap', rfl, ⟨r1, hl, r2, hn⟩, r3, r4⟩

theorem rn_set {cs : List Nd} {k : Nat} {c d : Nd} (hk : Is cs k c) (hd : d.asks = c.asks) : (∀ i, i ≠ k → rn (cs.set k d) i = rn cs i) ∧ rn (cs.set k d) k = ⟨true, d.asks, d.low, d.high, d.pins⟩ := by
  have get := fun i => nget_set cs k i d hk.lt
  refine ⟨fun i hi => ?_, rn_is ⟨by rw [get, if_pos rfl], by rw [hd]; exact hk.2⟩⟩
  unfold rn
  rw [get, if_neg (fun e => hi e.symm)]

/-- A store's variable that the call has laid: it is zero. -/
theorem zero_block (w : World) (o : Obj) : ((w.alloc o).alloc (.cells #[.int .i64 0, .int .i64 0, .int .i64 0, .int .i64 0, .slice none 0 0] 29)).heap[w.heap.size + 1]? = some (.cells #[.int .i64 0, .int .i64 0, .int .i64 0, .int .i64 0, .slice none 0 0] 29 (0, 0)) := by
  have := heap_alloc_new (w.alloc o) (.cells #[.int .i64 0, .int .i64 0, .int .i64 0, .int .i64 0, .slice none 0 0] 29)
  simp only [World.size_alloc] at this
  exact this

/-- What a call knows that has boxed a store, and laid its result's variable: blocks s and s + 1. -/
structure TwoB (s g N cap : Nat) (h : Hd) (cs : List Nd) (w0 w : World) : Prop where
  bs : w.heap[s]? = some (.cells #[.int .i64 h.V, .int .i64 h.B, .int .i64 h.made, .int .i64 h.sweeps, .slice (some ⟨g, 0, none⟩) N cap] 29 (0, 0))
  br : w.heap[s + 1]? = some (.cells #[.int .i64 0, .int .i64 0, .int .i64 0, .int .i64 0, .slice none 0 0] 29 (0, 0))
  rs : RS w g N cap cs
  below : Below s w0 w
  size : s + 2 ≤ w.heap.size
  gs : g < s

theorem TwoB.start {w : World} {g N cap : Nat} {h : Hd} {cs : List Nd} (rs : RS w g N cap cs) : TwoB w.heap.size g N cap h cs w ((w.alloc (.cells #[.int .i64 h.V, .int .i64 h.B, .int .i64 h.made, .int .i64 h.sweeps, .slice (some ⟨g, 0, none⟩) N cap] 29)).alloc (.cells #[.int .i64 0, .int .i64 0, .int .i64 0, .int .i64 0, .slice none 0 0] 29)) := by
  have b1 := (Below.refl w.heap.size w).alloc (Nat.le_refl _) (.cells #[.int .i64 h.V, .int .i64 h.B, .int .i64 h.made, .int .i64 h.sweeps, .slice (some ⟨g, 0, none⟩) N cap] 29)
  have b2 := b1.alloc b1.size (.cells #[.int .i64 0, .int .i64 0, .int .i64 0, .int .i64 0, .slice none 0 0] 29)
  refine ⟨?_, zero_block w _, rs.keep b2, b2, by simp, rs.rl.lt⟩
  rw [Below.heap_alloc _ _ _ (by simp)]
  exact heap_alloc_new w _

theorem TwoB.keep {s g N cap : Nat} {h : Hd} {cs : List Nd} {w0 w w' : World} (o : TwoB s g N cap h cs w0 w) (hb : Below w.heap.size w w') : TwoB s g N cap h cs w0 w' :=
  ⟨(hb.block s (by have := o.size; omega)).trans o.bs, (hb.block _ (by have := o.size; omega)).trans o.br, o.rs.keep hb, o.below.trans (hb.mono (by have := o.size; omega)), Nat.le_trans o.size hb.size, o.gs⟩

/-- The end: the result's variable is written, with a store of block g'. -/
theorem TwoB.fin {s g N cap : Nat} {h h' : Hd} {cs cs' : List Nd} {w0 w : World} (o : TwoB s g N cap h cs w0 w) {g' N' cap' : Nat} (rs : RS w g' N' cap' cs') (hne : g' ≠ s + 1) :
    (Fin5 w (s + 1) h' g' N' cap').heap[s + 1]? = some (.cells #[.int .i64 h'.V, .int .i64 h'.B, .int .i64 h'.made, .int .i64 h'.sweeps, .slice (some ⟨g', 0, none⟩) N' cap'] 29 (0, 0)) ∧
    RS (Fin5 w (s + 1) h' g' N' cap') g' N' cap' cs' ∧ Below s w0 (Fin5 w (s + 1) h' g' N' cap') :=
  ⟨fin5 o.br, rs.turn (fin5_turn _ _ _ _ _ _) hne, Turn.to_below o.below (fin5_turn _ _ _ _ _ _) (fun i hi => by omega) (by have := o.size; omega)⟩

set_option maxHeartbeats 1000000 in
set_option maxRecDepth 100000 in
theorem rpin_no {w : World} {g N cap : Nat} {cs : List Nd} (rs : RS w g N cap cs) (h : Hd) (k : Int) (hk : thereB cs k = false) :
    Calls Try.prog 23 #[rsV h g N cap, .int .i64 k] w (RPOut h N cs 3 w) := by
  have T0 := Lib.hid (TwoB.start (h := h) rs)
  have H := ris_any T0.out.rs h k
  rw [hk] at H
  have H := Lib.hid H
  clear rs hk
  unfold rsV at *
  go_enter Try.func23, Try.ntmps23
  go_wp2_with fail
  refine H.out.mono ?_
  rintro e w2 ⟨rfl, hb⟩
  have TB := Lib.hid (T0.out.keep hb)
  clear hb
  have a0 := cell_of_row _ (w.heap.size) 0 _ _ _ TB.out.bs
  have a1 := cell_of_row _ (w.heap.size) 1 _ _ _ TB.out.bs
  have a2 := cell_of_row _ (w.heap.size) 2 _ _ _ TB.out.bs
  have a3 := cell_of_row _ (w.heap.size) 3 _ _ _ TB.out.bs
  have a4 := cell_of_row _ (w.heap.size) 4 _ _ _ TB.out.bs
  have af := fun o => frozen_of_row _ (w.heap.size) o _ _ TB.out.bs
  simp at a0 a1 a2 a3 a4
  have r0 := cell_of_row _ (w.heap.size + 1) 0 _ _ _ TB.out.br
  have r1 := cell_of_row _ (w.heap.size + 1) 1 _ _ _ TB.out.br
  have r2 := cell_of_row _ (w.heap.size + 1) 2 _ _ _ TB.out.br
  have r3 := cell_of_row _ (w.heap.size + 1) 3 _ _ _ TB.out.br
  have r4 := cell_of_row _ (w.heap.size + 1) 4 _ _ _ TB.out.br
  have rf := fun o => frozen_of_row _ (w.heap.size + 1) o _ _ TB.out.br
  simp at r0 r1 r2 r3 r4
  go_wp2_with fail
  clear a0 a1 a2 a3 a4 af r0 r1 r2 r3 r4 rf
  have FIN := TB.out.fin (h' := h) (g' := g) (N' := N) (cap' := cap) TB.out.rs (by have := TB.out.gs; omega)
  change bodyPost Try.prog _ _ _ _ (Fin5 w2 (w.heap.size + 1) h g N cap)
  revert FIN
  generalize Fin5 w2 (w.heap.size + 1) h g N cap = wf
  intro FIN
  obtain ⟨hf, F1, F2⟩ := FIN
  have e0 := cell_of_row wf _ 0 _ _ _ hf
  have e1 := cell_of_row wf _ 1 _ _ _ hf
  have e2 := cell_of_row wf _ 2 _ _ _ hf
  have e3 := cell_of_row wf _ 3 _ _ _ hf
  have e4 := cell_of_row wf _ 4 _ _ _ hf
  simp at e0 e1 e2 e3 e4
  exact bodyPost_ret (v := .tuple #[.agg #[.int .i64 (h).V, .int .i64 (h).B, .int .i64 (h).made, .int .i64 (h).sweeps, .slice (some ⟨g, 0, none⟩) N cap], .int .i64 3]) (by simp [results, Try.results23, go_sem, e0, e1, e2, e3, e4]) rfl ⟨_, _, rfl, F1, F2⟩


set_option maxHeartbeats 1000000 in
set_option maxRecDepth 100000 in
theorem rpin_full {w : World} {g N cap k : Nat} {cs : List Nd} {c : Nd} (rs : RS w g N cap cs) (h : Hd) (hk : Is cs k c) (hp : c.pins = 1073741824) :
    Calls Try.prog 23 #[rsV h g N cap, .int .i64 (k : Int)] w (RPOut h N cs 2 w) := by
  have T0 := Lib.hid (TwoB.start (h := h) rs)
  have H := ris_any T0.out.rs h (k : Int)
  rw [thereB_is hk] at H
  have H := Lib.hid H
  have HK := Lib.hid hk
  have HP : Hid ((c.pins : Int) = 1073741824) := by show _ = _; omega
  clear rs hk hp
  unfold rsV at *
  go_enter Try.func23, Try.ntmps23
  go_wp2_with fail
  refine H.out.mono ?_
  rintro e w2 ⟨rfl, hb⟩
  have TB := Lib.hid (T0.out.keep hb)
  clear hb
  have a0 := cell_of_row _ (w.heap.size) 0 _ _ _ TB.out.bs
  have a1 := cell_of_row _ (w.heap.size) 1 _ _ _ TB.out.bs
  have a2 := cell_of_row _ (w.heap.size) 2 _ _ _ TB.out.bs
  have a3 := cell_of_row _ (w.heap.size) 3 _ _ _ TB.out.bs
  have a4 := cell_of_row _ (w.heap.size) 4 _ _ _ TB.out.bs
  have af := fun o => frozen_of_row _ (w.heap.size) o _ _ TB.out.bs
  simp at a0 a1 a2 a3 a4
  have r0 := cell_of_row _ (w.heap.size + 1) 0 _ _ _ TB.out.br
  have r1 := cell_of_row _ (w.heap.size + 1) 1 _ _ _ TB.out.br
  have r2 := cell_of_row _ (w.heap.size + 1) 2 _ _ _ TB.out.br
  have r3 := cell_of_row _ (w.heap.size + 1) 3 _ _ _ TB.out.br
  have r4 := cell_of_row _ (w.heap.size + 1) 4 _ _ _ TB.out.br
  have rf := fun o => frozen_of_row _ (w.heap.size + 1) o _ _ TB.out.br
  simp at r0 r1 r2 r3 r4
  obtain ⟨hl, d0, d1, d2, d3, d4⟩ := TB.out.rs.row HK.out
  rw [HP.out] at d4
  have BX := Lib.hid ((Below.refl w2.heap.size w2).alloc (Nat.le_refl _) (.cells #[.bool true, .int .i64 c.asks, .int .i64 c.low, .int .i64 c.high, .int .i64 1073741824] 55))
  have TB3 := Lib.hid (TB.out.keep BX.out)
  have b0 := cell_of_row _ (w.heap.size) 0 _ _ _ TB3.out.bs
  have b1 := cell_of_row _ (w.heap.size) 1 _ _ _ TB3.out.bs
  have b2 := cell_of_row _ (w.heap.size) 2 _ _ _ TB3.out.bs
  have b3 := cell_of_row _ (w.heap.size) 3 _ _ _ TB3.out.bs
  have b4 := cell_of_row _ (w.heap.size) 4 _ _ _ TB3.out.bs
  have bf := fun o => frozen_of_row _ (w.heap.size) o _ _ TB3.out.bs
  simp at b0 b1 b2 b3 b4
  have s0 := cell_of_row _ (w.heap.size + 1) 0 _ _ _ TB3.out.br
  have s1 := cell_of_row _ (w.heap.size + 1) 1 _ _ _ TB3.out.br
  have s2 := cell_of_row _ (w.heap.size + 1) 2 _ _ _ TB3.out.br
  have s3 := cell_of_row _ (w.heap.size + 1) 3 _ _ _ TB3.out.br
  have s4 := cell_of_row _ (w.heap.size + 1) 4 _ _ _ TB3.out.br
  have sf := fun o => frozen_of_row _ (w.heap.size + 1) o _ _ TB3.out.br
  simp at s0 s1 s2 s3 s4
  go_wp2_with fail
  clear a0 a1 a2 a3 a4 af r0 r1 r2 r3 r4 rf d0 d1 d2 d3 d4 b0 b1 b2 b3 b4 bf s0 s1 s2 s3 s4 sf
  clear BX
  have TB3 := TB3.out
  revert TB3
  generalize w2.alloc (.cells #[.bool true, .int .i64 c.asks, .int .i64 c.low, .int .i64 c.high, .int .i64 1073741824] 55) = w3
  intro TB3
  have TB := Lib.hid TB3
  clear TB3
  have FIN := TB.out.fin (h' := h) (g' := g) (N' := N) (cap' := cap) TB.out.rs (by have := TB.out.gs; omega)
  change bodyPost Try.prog _ _ _ _ (Fin5 w3 (w.heap.size + 1) h g N cap)
  revert FIN
  generalize Fin5 w3 (w.heap.size + 1) h g N cap = wf
  intro FIN
  obtain ⟨hf, F1, F2⟩ := FIN
  have e0 := cell_of_row wf _ 0 _ _ _ hf
  have e1 := cell_of_row wf _ 1 _ _ _ hf
  have e2 := cell_of_row wf _ 2 _ _ _ hf
  have e3 := cell_of_row wf _ 3 _ _ _ hf
  have e4 := cell_of_row wf _ 4 _ _ _ hf
  simp at e0 e1 e2 e3 e4
  exact bodyPost_ret (v := .tuple #[.agg #[.int .i64 (h).V, .int .i64 (h).B, .int .i64 (h).made, .int .i64 (h).sweeps, .slice (some ⟨g, 0, none⟩) N cap], .int .i64 2]) (by simp [results, Try.results23, go_sem, e0, e1, e2, e3, e4]) rfl ⟨_, _, rfl, F1, F2⟩

set_option maxHeartbeats 1000000 in
set_option maxRecDepth 100000 in
theorem runpin_none {w : World} {g N cap k : Nat} {cs : List Nd} {c : Nd} (rs : RS w g N cap cs) (h : Hd) (hk : Is cs k c) (hp : c.pins = 0) :
    Calls Try.prog 25 #[rsV h g N cap, .int .i64 (k : Int)] w (RPOut h N cs 3 w) := by
  have T0 := Lib.hid (TwoB.start (h := h) rs)
  have H := ris_any T0.out.rs h (k : Int)
  rw [thereB_is hk] at H
  have H := Lib.hid H
  have HK := Lib.hid hk
  have HP : Hid ((c.pins : Int) = 0) := by show _ = _; omega
  clear rs hk hp
  unfold rsV at *
  go_enter Try.func25, Try.ntmps25
  go_wp2_with fail
  refine H.out.mono ?_
  rintro e w2 ⟨rfl, hb⟩
  have TB := Lib.hid (T0.out.keep hb)
  clear hb
  have a0 := cell_of_row _ (w.heap.size) 0 _ _ _ TB.out.bs
  have a1 := cell_of_row _ (w.heap.size) 1 _ _ _ TB.out.bs
  have a2 := cell_of_row _ (w.heap.size) 2 _ _ _ TB.out.bs
  have a3 := cell_of_row _ (w.heap.size) 3 _ _ _ TB.out.bs
  have a4 := cell_of_row _ (w.heap.size) 4 _ _ _ TB.out.bs
  have af := fun o => frozen_of_row _ (w.heap.size) o _ _ TB.out.bs
  simp at a0 a1 a2 a3 a4
  have r0 := cell_of_row _ (w.heap.size + 1) 0 _ _ _ TB.out.br
  have r1 := cell_of_row _ (w.heap.size + 1) 1 _ _ _ TB.out.br
  have r2 := cell_of_row _ (w.heap.size + 1) 2 _ _ _ TB.out.br
  have r3 := cell_of_row _ (w.heap.size + 1) 3 _ _ _ TB.out.br
  have r4 := cell_of_row _ (w.heap.size + 1) 4 _ _ _ TB.out.br
  have rf := fun o => frozen_of_row _ (w.heap.size + 1) o _ _ TB.out.br
  simp at r0 r1 r2 r3 r4
  obtain ⟨hl, d0, d1, d2, d3, d4⟩ := TB.out.rs.row HK.out
  rw [HP.out] at d4
  go_wp2_with fail
  clear a0 a1 a2 a3 a4 af r0 r1 r2 r3 r4 rf d0 d1 d2 d3 d4
  have FIN := TB.out.fin (h' := h) (g' := g) (N' := N) (cap' := cap) TB.out.rs (by have := TB.out.gs; omega)
  change bodyPost Try.prog _ _ _ _ (Fin5 w2 (w.heap.size + 1) h g N cap)
  revert FIN
  generalize Fin5 w2 (w.heap.size + 1) h g N cap = wf
  intro FIN
  obtain ⟨hf, F1, F2⟩ := FIN
  have e0 := cell_of_row wf _ 0 _ _ _ hf
  have e1 := cell_of_row wf _ 1 _ _ _ hf
  have e2 := cell_of_row wf _ 2 _ _ _ hf
  have e3 := cell_of_row wf _ 3 _ _ _ hf
  have e4 := cell_of_row wf _ 4 _ _ _ hf
  simp at e0 e1 e2 e3 e4
  exact bodyPost_ret (v := .tuple #[.agg #[.int .i64 (h).V, .int .i64 (h).B, .int .i64 (h).made, .int .i64 (h).sweeps, .slice (some ⟨g, 0, none⟩) N cap], .int .i64 3]) (by simp [results, Try.results25, go_sem, e0, e1, e2, e3, e4]) rfl ⟨_, _, rfl, F1, F2⟩

set_option maxHeartbeats 1000000 in
set_option maxRecDepth 100000 in
theorem runpin_no {w : World} {g N cap : Nat} {cs : List Nd} (rs : RS w g N cap cs) (h : Hd) (k : Int) (hk : thereB cs k = false) :
    Calls Try.prog 25 #[rsV h g N cap, .int .i64 k] w (RPOut h N cs 3 w) := by
  have T0 := Lib.hid (TwoB.start (h := h) rs)
  have H := ris_any T0.out.rs h k
  rw [hk] at H
  have H := Lib.hid H
  clear rs hk
  unfold rsV at *
  go_enter Try.func25, Try.ntmps25
  go_wp2_with fail
  refine H.out.mono ?_
  rintro e w2 ⟨rfl, hb⟩
  have TB := Lib.hid (T0.out.keep hb)
  clear hb
  have a0 := cell_of_row _ (w.heap.size) 0 _ _ _ TB.out.bs
  have a1 := cell_of_row _ (w.heap.size) 1 _ _ _ TB.out.bs
  have a2 := cell_of_row _ (w.heap.size) 2 _ _ _ TB.out.bs
  have a3 := cell_of_row _ (w.heap.size) 3 _ _ _ TB.out.bs
  have a4 := cell_of_row _ (w.heap.size) 4 _ _ _ TB.out.bs
  have af := fun o => frozen_of_row _ (w.heap.size) o _ _ TB.out.bs
  simp at a0 a1 a2 a3 a4
  have r0 := cell_of_row _ (w.heap.size + 1) 0 _ _ _ TB.out.br
  have r1 := cell_of_row _ (w.heap.size + 1) 1 _ _ _ TB.out.br
  have r2 := cell_of_row _ (w.heap.size + 1) 2 _ _ _ TB.out.br
  have r3 := cell_of_row _ (w.heap.size + 1) 3 _ _ _ TB.out.br
  have r4 := cell_of_row _ (w.heap.size + 1) 4 _ _ _ TB.out.br
  have rf := fun o => frozen_of_row _ (w.heap.size + 1) o _ _ TB.out.br
  simp at r0 r1 r2 r3 r4
  go_wp2_with fail
  clear a0 a1 a2 a3 a4 af r0 r1 r2 r3 r4 rf
  have FIN := TB.out.fin (h' := h) (g' := g) (N' := N) (cap' := cap) TB.out.rs (by have := TB.out.gs; omega)
  change bodyPost Try.prog _ _ _ _ (Fin5 w2 (w.heap.size + 1) h g N cap)
  revert FIN
  generalize Fin5 w2 (w.heap.size + 1) h g N cap = wf
  intro FIN
  obtain ⟨hf, F1, F2⟩ := FIN
  have e0 := cell_of_row wf _ 0 _ _ _ hf
  have e1 := cell_of_row wf _ 1 _ _ _ hf
  have e2 := cell_of_row wf _ 2 _ _ _ hf
  have e3 := cell_of_row wf _ 3 _ _ _ hf
  have e4 := cell_of_row wf _ 4 _ _ _ hf
  simp at e0 e1 e2 e3 e4
  exact bodyPost_ret (v := .tuple #[.agg #[.int .i64 (h).V, .int .i64 (h).B, .int .i64 (h).made, .int .i64 (h).sweeps, .slice (some ⟨g, 0, none⟩) N cap], .int .i64 3]) (by simp [results, Try.results25, go_sem, e0, e1, e2, e3, e4]) rfl ⟨_, _, rfl, F1, F2⟩


set_option maxHeartbeats 2000000 in
set_option maxRecDepth 100000 in
theorem rpin_yes {w : World} {g N cap k : Nat} {cs : List Nd} {c : Nd} (rs : RS w g N cap cs) (h : Hd) (gd : NGood h.V cs) (hk : Is cs k c) (hp : c.pins ≠ 1073741824) :
    Calls Try.prog 23 #[rsV h g N cap, .int .i64 (k : Int)] w (RPOut h N (cs.set k ⟨c.asks, c.low, c.high, c.pins + 1⟩) 0 w) := by
  have T0 := Lib.hid (TwoB.start (h := h) rs)
  have H := ris_any T0.out.rs h (k : Int)
  rw [thereB_is hk] at H
  have H := Lib.hid H
  have HK := Lib.hid hk
  have hpp := gd.pins k c hk.1
  obtain ⟨z, hz⟩ : ∃ z : Int, (c.pins : Int) = z := ⟨_, rfl⟩
  have hp2 : z < 1073741824 := by omega
  have hp3 : 0 ≤ z := by omega
  have HZ := Lib.hid hz
  clear rs hk hp hpp gd hz
  unfold rsV at *
  go_enter Try.func23, Try.ntmps23
  go_wp2_with fail
  refine H.out.mono ?_
  rintro e w2 ⟨rfl, hb⟩
  have TB := Lib.hid (T0.out.keep hb)
  clear hb
  have a0 := cell_of_row _ (w.heap.size) 0 _ _ _ TB.out.bs
  have a1 := cell_of_row _ (w.heap.size) 1 _ _ _ TB.out.bs
  have a2 := cell_of_row _ (w.heap.size) 2 _ _ _ TB.out.bs
  have a3 := cell_of_row _ (w.heap.size) 3 _ _ _ TB.out.bs
  have a4 := cell_of_row _ (w.heap.size) 4 _ _ _ TB.out.bs
  have af := fun o => frozen_of_row _ (w.heap.size) o _ _ TB.out.bs
  simp at a0 a1 a2 a3 a4
  have r0 := cell_of_row _ (w.heap.size + 1) 0 _ _ _ TB.out.br
  have r1 := cell_of_row _ (w.heap.size + 1) 1 _ _ _ TB.out.br
  have r2 := cell_of_row _ (w.heap.size + 1) 2 _ _ _ TB.out.br
  have r3 := cell_of_row _ (w.heap.size + 1) 3 _ _ _ TB.out.br
  have r4 := cell_of_row _ (w.heap.size + 1) 4 _ _ _ TB.out.br
  have rf := fun o => frozen_of_row _ (w.heap.size + 1) o _ _ TB.out.br
  simp at r0 r1 r2 r3 r4
  obtain ⟨hl, d0, d1, d2, d3, d4⟩ := TB.out.rs.row HK.out
  rw [HZ.out] at d4
  have BX := Lib.hid ((Below.refl w2.heap.size w2).alloc (Nat.le_refl _) (.cells #[.bool true, .int .i64 c.asks, .int .i64 c.low, .int .i64 c.high, .int .i64 z] 55))
  have TB3 := Lib.hid (TB.out.keep BX.out)
  have b0 := cell_of_row _ (w.heap.size) 0 _ _ _ TB3.out.bs
  have b1 := cell_of_row _ (w.heap.size) 1 _ _ _ TB3.out.bs
  have b2 := cell_of_row _ (w.heap.size) 2 _ _ _ TB3.out.bs
  have b3 := cell_of_row _ (w.heap.size) 3 _ _ _ TB3.out.bs
  have b4 := cell_of_row _ (w.heap.size) 4 _ _ _ TB3.out.bs
  have bf := fun o => frozen_of_row _ (w.heap.size) o _ _ TB3.out.bs
  simp at b0 b1 b2 b3 b4
  have s0 := cell_of_row _ (w.heap.size + 1) 0 _ _ _ TB3.out.br
  have s1 := cell_of_row _ (w.heap.size + 1) 1 _ _ _ TB3.out.br
  have s2 := cell_of_row _ (w.heap.size + 1) 2 _ _ _ TB3.out.br
  have s3 := cell_of_row _ (w.heap.size + 1) 3 _ _ _ TB3.out.br
  have s4 := cell_of_row _ (w.heap.size + 1) 4 _ _ _ TB3.out.br
  have sf := fun o => frozen_of_row _ (w.heap.size + 1) o _ _ TB3.out.br
  simp at s0 s1 s2 s3 s4
  have BY := Lib.hid ((Below.refl w2.heap.size w2).alloc (Nat.le_refl _) (.cells #[.bool true, .int .i64 c.asks, .int .i64 c.low, .int .i64 c.high, .int .i64 (z + 1)] 55))
  have TB4 := Lib.hid (TB.out.keep BY.out)
  have c0 := cell_of_row _ (w.heap.size) 0 _ _ _ TB4.out.bs
  have c1 := cell_of_row _ (w.heap.size) 1 _ _ _ TB4.out.bs
  have c2 := cell_of_row _ (w.heap.size) 2 _ _ _ TB4.out.bs
  have c3 := cell_of_row _ (w.heap.size) 3 _ _ _ TB4.out.bs
  have c4 := cell_of_row _ (w.heap.size) 4 _ _ _ TB4.out.bs
  have cf := fun o => frozen_of_row _ (w.heap.size) o _ _ TB4.out.bs
  simp at c0 c1 c2 c3 c4
  have t0 := cell_of_row _ (w.heap.size + 1) 0 _ _ _ TB4.out.br
  have t1 := cell_of_row _ (w.heap.size + 1) 1 _ _ _ TB4.out.br
  have t2 := cell_of_row _ (w.heap.size + 1) 2 _ _ _ TB4.out.br
  have t3 := cell_of_row _ (w.heap.size + 1) 3 _ _ _ TB4.out.br
  have t4 := cell_of_row _ (w.heap.size + 1) 4 _ _ _ TB4.out.br
  have tf := fun o => frozen_of_row _ (w.heap.size + 1) o _ _ TB4.out.br
  simp at t0 t1 t2 t3 t4
  go_wp2_with fail
  clear a0 a1 a2 a3 a4 af r0 r1 r2 r3 r4 rf d0 d1 d2 d3 d4 b0 b1 b2 b3 b4 bf s0 s1 s2 s3 s4 sf c0 c1 c2 c3 c4 cf t0 t1 t2 t3 t4 tf BX BY TB3 TB
  revert TB4
  generalize w2.alloc (.cells #[.bool true, .int .i64 c.asks, .int .i64 c.low, .int .i64 c.high, .int .i64 (z + 1)] 55) = w4
  intro TB4
  have WR := Lib.hid (rwith_any h ⟨true, c.asks, c.low, c.high, z + 1⟩ TB4.out.rs.rl (refL_length cs N) TB4.out.rs.cap TB4.out.rs.n (Nat.le_of_lt hl))
  unfold rsV nodeR at WR
  refine WR.out.mono ?_
  intro e w5 hout
  have RSET := rn_set (d := ⟨c.asks, c.low, c.high, c.pins + 1⟩) HK.out rfl
  obtain ⟨g', cap', rfl, rs5, hg5, hb5⟩ := with_rs (cs' := cs.set k ⟨c.asks, c.low, c.high, c.pins + 1⟩) (Nat.le_of_lt hl) RSET.1 (RSET.2.trans (by have := HZ.out; congr 1 <;> (simp only; omega))) (by rw [List.length_set, if_pos hl]; exact TB4.out.rs.le) (by rw [if_pos hl]; exact TB4.out.rs.n) hout
  rw [if_pos hl] at rs5 ⊢
  have TB := Lib.hid (TB4.out.keep hb5)
  have R5 := Lib.hid rs5
  have G5 : Hid (g' ≠ w.heap.size + 1) := by show _ ≠ _; have := TB4.out.size; omega
  unfold rsV
  clear hout RSET rs5 hg5 hb5
  have r0 := cell_of_row _ (w.heap.size + 1) 0 _ _ _ TB.out.br
  have r1 := cell_of_row _ (w.heap.size + 1) 1 _ _ _ TB.out.br
  have r2 := cell_of_row _ (w.heap.size + 1) 2 _ _ _ TB.out.br
  have r3 := cell_of_row _ (w.heap.size + 1) 3 _ _ _ TB.out.br
  have r4 := cell_of_row _ (w.heap.size + 1) 4 _ _ _ TB.out.br
  have rf := fun o => frozen_of_row _ (w.heap.size + 1) o _ _ TB.out.br
  simp at r0 r1 r2 r3 r4
  go_wp2_with fail
  clear r0 r1 r2 r3 r4 rf
  have FIN := TB.out.fin (h' := h) (g' := g') (N' := N) (cap' := cap') R5.out G5.out
  change bodyPost Try.prog _ _ _ _ (Fin5 w5 (w.heap.size + 1) h g' N cap')
  revert FIN
  generalize Fin5 w5 (w.heap.size + 1) h g' N cap' = wf
  intro FIN
  obtain ⟨hf, F1, F2⟩ := FIN
  have e0 := cell_of_row wf _ 0 _ _ _ hf
  have e1 := cell_of_row wf _ 1 _ _ _ hf
  have e2 := cell_of_row wf _ 2 _ _ _ hf
  have e3 := cell_of_row wf _ 3 _ _ _ hf
  have e4 := cell_of_row wf _ 4 _ _ _ hf
  simp at e0 e1 e2 e3 e4
  exact bodyPost_ret (v := .tuple #[.agg #[.int .i64 (h).V, .int .i64 (h).B, .int .i64 (h).made, .int .i64 (h).sweeps, .slice (some ⟨g', 0, none⟩) N cap'], .int .i64 0]) (by simp [results, Try.results23, go_sem, e0, e1, e2, e3, e4]) rfl ⟨_, _, rfl, F1, F2⟩

set_option maxHeartbeats 2000000 in
set_option maxRecDepth 100000 in
theorem runpin_yes {w : World} {g N cap k : Nat} {cs : List Nd} {c : Nd} (rs : RS w g N cap cs) (h : Hd) {p : Nat} (gd : NGood h.V cs) (hk : Is cs k c) (hp : c.pins = p + 1) :
    Calls Try.prog 25 #[rsV h g N cap, .int .i64 (k : Int)] w (RPOut h N (cs.set k ⟨c.asks, c.low, c.high, p⟩) 0 w) := by
  have T0 := Lib.hid (TwoB.start (h := h) rs)
  have H := ris_any T0.out.rs h (k : Int)
  rw [thereB_is hk] at H
  have H := Lib.hid H
  have HK := Lib.hid hk
  have hpp := gd.pins k c hk.1
  obtain ⟨z, hz⟩ : ∃ z : Int, (c.pins : Int) = z := ⟨_, rfl⟩
  have hp2 : z ≤ 1073741824 := by omega
  have hp3 : 1 ≤ z := by omega
  have HZ : Hid ((p : Int) = z - 1) := by show _ = _; omega
  have HZ0 := Lib.hid hz
  have hq : (z == 0) = false := by simp; omega
  clear rs hk hp hpp gd hz
  unfold rsV at *
  go_enter Try.func25, Try.ntmps25
  go_wp2_with fail
  refine H.out.mono ?_
  rintro e w2 ⟨rfl, hb⟩
  have TB := Lib.hid (T0.out.keep hb)
  clear hb
  have a0 := cell_of_row _ (w.heap.size) 0 _ _ _ TB.out.bs
  have a1 := cell_of_row _ (w.heap.size) 1 _ _ _ TB.out.bs
  have a2 := cell_of_row _ (w.heap.size) 2 _ _ _ TB.out.bs
  have a3 := cell_of_row _ (w.heap.size) 3 _ _ _ TB.out.bs
  have a4 := cell_of_row _ (w.heap.size) 4 _ _ _ TB.out.bs
  have af := fun o => frozen_of_row _ (w.heap.size) o _ _ TB.out.bs
  simp at a0 a1 a2 a3 a4
  have r0 := cell_of_row _ (w.heap.size + 1) 0 _ _ _ TB.out.br
  have r1 := cell_of_row _ (w.heap.size + 1) 1 _ _ _ TB.out.br
  have r2 := cell_of_row _ (w.heap.size + 1) 2 _ _ _ TB.out.br
  have r3 := cell_of_row _ (w.heap.size + 1) 3 _ _ _ TB.out.br
  have r4 := cell_of_row _ (w.heap.size + 1) 4 _ _ _ TB.out.br
  have rf := fun o => frozen_of_row _ (w.heap.size + 1) o _ _ TB.out.br
  simp at r0 r1 r2 r3 r4
  obtain ⟨hl, d0, d1, d2, d3, d4⟩ := TB.out.rs.row HK.out
  rw [HZ0.out] at d4
  have BX := Lib.hid ((Below.refl w2.heap.size w2).alloc (Nat.le_refl _) (.cells #[.bool true, .int .i64 c.asks, .int .i64 c.low, .int .i64 c.high, .int .i64 z] 55))
  have TB3 := Lib.hid (TB.out.keep BX.out)
  have b0 := cell_of_row _ (w.heap.size) 0 _ _ _ TB3.out.bs
  have b1 := cell_of_row _ (w.heap.size) 1 _ _ _ TB3.out.bs
  have b2 := cell_of_row _ (w.heap.size) 2 _ _ _ TB3.out.bs
  have b3 := cell_of_row _ (w.heap.size) 3 _ _ _ TB3.out.bs
  have b4 := cell_of_row _ (w.heap.size) 4 _ _ _ TB3.out.bs
  have bf := fun o => frozen_of_row _ (w.heap.size) o _ _ TB3.out.bs
  simp at b0 b1 b2 b3 b4
  have s0 := cell_of_row _ (w.heap.size + 1) 0 _ _ _ TB3.out.br
  have s1 := cell_of_row _ (w.heap.size + 1) 1 _ _ _ TB3.out.br
  have s2 := cell_of_row _ (w.heap.size + 1) 2 _ _ _ TB3.out.br
  have s3 := cell_of_row _ (w.heap.size + 1) 3 _ _ _ TB3.out.br
  have s4 := cell_of_row _ (w.heap.size + 1) 4 _ _ _ TB3.out.br
  have sf := fun o => frozen_of_row _ (w.heap.size + 1) o _ _ TB3.out.br
  simp at s0 s1 s2 s3 s4
  have BY := Lib.hid ((Below.refl w2.heap.size w2).alloc (Nat.le_refl _) (.cells #[.bool true, .int .i64 c.asks, .int .i64 c.low, .int .i64 c.high, .int .i64 (z - 1)] 55))
  have TB4 := Lib.hid (TB.out.keep BY.out)
  have c0 := cell_of_row _ (w.heap.size) 0 _ _ _ TB4.out.bs
  have c1 := cell_of_row _ (w.heap.size) 1 _ _ _ TB4.out.bs
  have c2 := cell_of_row _ (w.heap.size) 2 _ _ _ TB4.out.bs
  have c3 := cell_of_row _ (w.heap.size) 3 _ _ _ TB4.out.bs
  have c4 := cell_of_row _ (w.heap.size) 4 _ _ _ TB4.out.bs
  have cf := fun o => frozen_of_row _ (w.heap.size) o _ _ TB4.out.bs
  simp at c0 c1 c2 c3 c4
  have t0 := cell_of_row _ (w.heap.size + 1) 0 _ _ _ TB4.out.br
  have t1 := cell_of_row _ (w.heap.size + 1) 1 _ _ _ TB4.out.br
  have t2 := cell_of_row _ (w.heap.size + 1) 2 _ _ _ TB4.out.br
  have t3 := cell_of_row _ (w.heap.size + 1) 3 _ _ _ TB4.out.br
  have t4 := cell_of_row _ (w.heap.size + 1) 4 _ _ _ TB4.out.br
  have tf := fun o => frozen_of_row _ (w.heap.size + 1) o _ _ TB4.out.br
  simp at t0 t1 t2 t3 t4
  go_wp2_with fail
  clear a0 a1 a2 a3 a4 af r0 r1 r2 r3 r4 rf d0 d1 d2 d3 d4 b0 b1 b2 b3 b4 bf s0 s1 s2 s3 s4 sf c0 c1 c2 c3 c4 cf t0 t1 t2 t3 t4 tf BX BY TB3 TB
  revert TB4
  generalize w2.alloc (.cells #[.bool true, .int .i64 c.asks, .int .i64 c.low, .int .i64 c.high, .int .i64 (z - 1)] 55) = w4
  intro TB4
  have WR := Lib.hid (rwith_any h ⟨true, c.asks, c.low, c.high, z - 1⟩ TB4.out.rs.rl (refL_length cs N) TB4.out.rs.cap TB4.out.rs.n (Nat.le_of_lt hl))
  unfold rsV nodeR at WR
  refine WR.out.mono ?_
  intro e w5 hout
  have RSET := rn_set (d := ⟨c.asks, c.low, c.high, p⟩) HK.out rfl
  obtain ⟨g', cap', rfl, rs5, hg5, hb5⟩ := with_rs (cs' := cs.set k ⟨c.asks, c.low, c.high, p⟩) (Nat.le_of_lt hl) RSET.1 (RSET.2.trans (by have := HZ.out; congr 1 <;> (simp only; omega))) (by rw [List.length_set, if_pos hl]; exact TB4.out.rs.le) (by rw [if_pos hl]; exact TB4.out.rs.n) hout
  rw [if_pos hl] at rs5 ⊢
  have TB := Lib.hid (TB4.out.keep hb5)
  have R5 := Lib.hid rs5
  have G5 : Hid (g' ≠ w.heap.size + 1) := by show _ ≠ _; have := TB4.out.size; omega
  unfold rsV
  clear hout RSET rs5 hg5 hb5
  have r0 := cell_of_row _ (w.heap.size + 1) 0 _ _ _ TB.out.br
  have r1 := cell_of_row _ (w.heap.size + 1) 1 _ _ _ TB.out.br
  have r2 := cell_of_row _ (w.heap.size + 1) 2 _ _ _ TB.out.br
  have r3 := cell_of_row _ (w.heap.size + 1) 3 _ _ _ TB.out.br
  have r4 := cell_of_row _ (w.heap.size + 1) 4 _ _ _ TB.out.br
  have rf := fun o => frozen_of_row _ (w.heap.size + 1) o _ _ TB.out.br
  simp at r0 r1 r2 r3 r4
  go_wp2_with fail
  clear r0 r1 r2 r3 r4 rf
  have FIN := TB.out.fin (h' := h) (g' := g') (N' := N) (cap' := cap') R5.out G5.out
  change bodyPost Try.prog _ _ _ _ (Fin5 w5 (w.heap.size + 1) h g' N cap')
  revert FIN
  generalize Fin5 w5 (w.heap.size + 1) h g' N cap' = wf
  intro FIN
  obtain ⟨hf, F1, F2⟩ := FIN
  have e0 := cell_of_row wf _ 0 _ _ _ hf
  have e1 := cell_of_row wf _ 1 _ _ _ hf
  have e2 := cell_of_row wf _ 2 _ _ _ hf
  have e3 := cell_of_row wf _ 3 _ _ _ hf
  have e4 := cell_of_row wf _ 4 _ _ _ hf
  simp at e0 e1 e2 e3 e4
  exact bodyPost_ret (v := .tuple #[.agg #[.int .i64 (h).V, .int .i64 (h).B, .int .i64 (h).made, .int .i64 (h).sweeps, .slice (some ⟨g', 0, none⟩) N cap'], .int .i64 0]) (by simp [results, Try.results25, go_sem, e0, e1, e2, e3, e4]) rfl ⟨_, _, rfl, F1, F2⟩

end Go.Proofs.Yteeffabmafakiaa
