/- The document's store: Mk. -/
import Derived.Test.YteeffabmafakiaaNRefSweep
namespace Go.Proofs.Yteeffabmafakiaa
open Go.ChangeShapes Go.WideShapes Go.ChangeAt Go.RowKit

/-- Behind a call that gives a store, a number and an error. -/
def RMOut (h : Hd) (N : Nat) (cs : List Nd) (k x : Int) (w : World) (e : Ending) (w' : World) : Prop :=
  ∃ g cap, e = .returned (.tuple #[rsV h g N cap, .int .i64 k, .int .i64 x]) ∧ RS w' g N cap cs ∧ Below w.heap.size w w'

theorem twice_block {w : World} {g N cap : Nat} {cs : List Nd} (rs : RS w g N cap cs) (h : Hd) :
    ((w.alloc (.cells #[.int .i64 h.V, .int .i64 h.B, .int .i64 h.made, .int .i64 h.sweeps, .slice (some ⟨g, 0, none⟩) N cap] 29)).alloc (.cells #[.int .i64 h.V, .int .i64 h.B, .int .i64 h.made, .int .i64 h.sweeps, .slice (some ⟨g, 0, none⟩) N cap] 29)).heap[w.heap.size + 1]? = some (.cells #[.int .i64 h.V, .int .i64 h.B, .int .i64 h.made, .int .i64 h.sweeps, .slice (some ⟨g, 0, none⟩) N cap] 29 (0, 0)) ∧
    RS ((w.alloc (.cells #[.int .i64 h.V, .int .i64 h.B, .int .i64 h.made, .int .i64 h.sweeps, .slice (some ⟨g, 0, none⟩) N cap] 29)).alloc (.cells #[.int .i64 h.V, .int .i64 h.B, .int .i64 h.made, .int .i64 h.sweeps, .slice (some ⟨g, 0, none⟩) N cap] 29)) g N cap cs ∧ Below w.heap.size w ((w.alloc (.cells #[.int .i64 h.V, .int .i64 h.B, .int .i64 h.made, .int .i64 h.sweeps, .slice (some ⟨g, 0, none⟩) N cap] 29)).alloc (.cells #[.int .i64 h.V, .int .i64 h.B, .int .i64 h.made, .int .i64 h.sweeps, .slice (some ⟨g, 0, none⟩) N cap] 29)) := by
  have b1 := (Below.refl w.heap.size w).alloc (Nat.le_refl _) (.cells #[.int .i64 h.V, .int .i64 h.B, .int .i64 h.made, .int .i64 h.sweeps, .slice (some ⟨g, 0, none⟩) N cap] 29)
  have b2 := b1.alloc b1.size (.cells #[.int .i64 h.V, .int .i64 h.B, .int .i64 h.made, .int .i64 h.sweeps, .slice (some ⟨g, 0, none⟩) N cap] 29)
  refine ⟨?_, rs.keep b2, b2⟩
  have := heap_alloc_new (w.alloc (.cells #[.int .i64 h.V, .int .i64 h.B, .int .i64 h.made, .int .i64 h.sweeps, .slice (some ⟨g, 0, none⟩) N cap] 29)) (.cells #[.int .i64 h.V, .int .i64 h.B, .int .i64 h.made, .int .i64 h.sweeps, .slice (some ⟨g, 0, none⟩) N cap] 29)
  simp only [World.size_alloc] at this
  exact this

set_option maxHeartbeats 1000000 in
set_option maxRecDepth 100000 in
theorem rmk_neg {w : World} {g N cap : Nat} {cs : List Nd} (rs : RS w g N cap cs) (h : Hd) (v a b : Int) (hv : v < 0) :
    Calls Try.prog 17 #[rsV h g N cap, .int .i64 v, .int .i64 a, .int .i64 b] w (RMOut h N cs 0 1 w) := by
  have RR := Lib.hid rs
  clear rs
  unfold rsV
  go_enter Try.func17, Try.ntmps17
  go_wp2_with fail
  have FIN := twice_block RR.out h
  revert FIN
  generalize (w.alloc (.cells #[.int .i64 h.V, .int .i64 h.B, .int .i64 h.made, .int .i64 h.sweeps, .slice (some ⟨g, 0, none⟩) N cap] 29)).alloc (.cells #[.int .i64 h.V, .int .i64 h.B, .int .i64 h.made, .int .i64 h.sweeps, .slice (some ⟨g, 0, none⟩) N cap] 29) = wf
  intro FIN
  obtain ⟨hf, F1, F2⟩ := FIN
  have e0 := cell_of_row wf _ 0 _ _ _ hf
  have e1 := cell_of_row wf _ 1 _ _ _ hf
  have e2 := cell_of_row wf _ 2 _ _ _ hf
  have e3 := cell_of_row wf _ 3 _ _ _ hf
  have e4 := cell_of_row wf _ 4 _ _ _ hf
  simp at e0 e1 e2 e3 e4
  exact bodyPost_ret (v := .tuple #[.agg #[.int .i64 h.V, .int .i64 h.B, .int .i64 h.made, .int .i64 h.sweeps, .slice (some ⟨g, 0, none⟩) N cap], .int .i64 0, .int .i64 1]) (by simp [results, Try.results17, go_sem, e0, e1, e2, e3, e4]) rfl ⟨_, _, rfl, F1, F2⟩

set_option maxHeartbeats 1000000 in
set_option maxRecDepth 100000 in
theorem rmk_big {w : World} {g N cap : Nat} {cs : List Nd} (rs : RS w g N cap cs) (h : Hd) (v a b : Int) (h0 : 0 ≤ v) (hv : h.V ≤ v) :
    Calls Try.prog 17 #[rsV h g N cap, .int .i64 v, .int .i64 a, .int .i64 b] w (RMOut h N cs 0 1 w) := by
  have RR := Lib.hid rs
  clear rs
  unfold rsV
  go_enter Try.func17, Try.ntmps17
  go_wp2_with fail
  have FIN := twice_block RR.out h
  revert FIN
  generalize (w.alloc (.cells #[.int .i64 h.V, .int .i64 h.B, .int .i64 h.made, .int .i64 h.sweeps, .slice (some ⟨g, 0, none⟩) N cap] 29)).alloc (.cells #[.int .i64 h.V, .int .i64 h.B, .int .i64 h.made, .int .i64 h.sweeps, .slice (some ⟨g, 0, none⟩) N cap] 29) = wf
  intro FIN
  obtain ⟨hf, F1, F2⟩ := FIN
  have e0 := cell_of_row wf _ 0 _ _ _ hf
  have e1 := cell_of_row wf _ 1 _ _ _ hf
  have e2 := cell_of_row wf _ 2 _ _ _ hf
  have e3 := cell_of_row wf _ 3 _ _ _ hf
  have e4 := cell_of_row wf _ 4 _ _ _ hf
  simp at e0 e1 e2 e3 e4
  exact bodyPost_ret (v := .tuple #[.agg #[.int .i64 h.V, .int .i64 h.B, .int .i64 h.made, .int .i64 h.sweeps, .slice (some ⟨g, 0, none⟩) N cap], .int .i64 0, .int .i64 1]) (by simp [results, Try.results17, go_sem, e0, e1, e2, e3, e4]) rfl ⟨_, _, rfl, F1, F2⟩

set_option maxHeartbeats 1000000 in
set_option maxRecDepth 100000 in
theorem rmk_nolow {w : World} {g N cap : Nat} {cs : List Nd} (rs : RS w g N cap cs) (h : Hd) (v a b : Int) (h0 : 0 ≤ v) (h1 : v < h.V) (ha : thereB cs a = false) :
    Calls Try.prog 17 #[rsV h g N cap, .int .i64 v, .int .i64 a, .int .i64 b] w (RMOut h N cs 0 1 w) := by
  have TB := Lib.hid (TwoB.start (h := h) rs)
  have HAx := ris_any TB.out.rs h a
  rw [ha] at HAx
  unfold rsV at HAx
  have HA := Lib.hid HAx
  clear HAx
  clear rs ha
  unfold rsV
  have a0 := cell_of_row _ (w.heap.size) 0 _ _ _ TB.out.bs
  have a1 := cell_of_row _ (w.heap.size) 1 _ _ _ TB.out.bs
  have a2 := cell_of_row _ (w.heap.size) 2 _ _ _ TB.out.bs
  have a3 := cell_of_row _ (w.heap.size) 3 _ _ _ TB.out.bs
  have a4 := cell_of_row _ (w.heap.size) 4 _ _ _ TB.out.bs
  have af := fun o => frozen_of_row _ (w.heap.size) o _ _ TB.out.bs
  simp at a0 a1 a2 a3 a4
  have r0 := cell_of_row _ (w.heap.size + 1) 0 _ _ _ TB.out.br
  have r1 := cell_of_row _ (w.heap.size + 1) 1 _ _ _ TB.out.br
  have r2 := cell_of_row _ (w.heap.size + 1) 2 _ _ _ TB.out.br
  have r3 := cell_of_row _ (w.heap.size + 1) 3 _ _ _ TB.out.br
  have r4 := cell_of_row _ (w.heap.size + 1) 4 _ _ _ TB.out.br
  have rf := fun o => frozen_of_row _ (w.heap.size + 1) o _ _ TB.out.br
  simp at r0 r1 r2 r3 r4
  go_enter Try.func17, Try.ntmps17
  go_wp2_with fail
  refine HA.out.mono ?_
  rintro e w2 ⟨rfl, hb⟩
  have TB' := Lib.hid (TB.out.keep hb)
  clear hb TB a0 a1 a2 a3 a4 af r0 r1 r2 r3 r4 rf
  have TB := TB'
  clear TB'
  have a0 := cell_of_row _ (w.heap.size) 0 _ _ _ TB.out.bs
  have a1 := cell_of_row _ (w.heap.size) 1 _ _ _ TB.out.bs
  have a2 := cell_of_row _ (w.heap.size) 2 _ _ _ TB.out.bs
  have a3 := cell_of_row _ (w.heap.size) 3 _ _ _ TB.out.bs
  have a4 := cell_of_row _ (w.heap.size) 4 _ _ _ TB.out.bs
  have af := fun o => frozen_of_row _ (w.heap.size) o _ _ TB.out.bs
  simp at a0 a1 a2 a3 a4
  have r0 := cell_of_row _ (w.heap.size + 1) 0 _ _ _ TB.out.br
  have r1 := cell_of_row _ (w.heap.size + 1) 1 _ _ _ TB.out.br
  have r2 := cell_of_row _ (w.heap.size + 1) 2 _ _ _ TB.out.br
  have r3 := cell_of_row _ (w.heap.size + 1) 3 _ _ _ TB.out.br
  have r4 := cell_of_row _ (w.heap.size + 1) 4 _ _ _ TB.out.br
  have rf := fun o => frozen_of_row _ (w.heap.size + 1) o _ _ TB.out.br
  simp at r0 r1 r2 r3 r4
  clear HA
  go_wp2_with fail
  clear a0 a1 a2 a3 a4 af r0 r1 r2 r3 r4 rf
  have FIN := TB.out.fin (h' := h) (g' := g) (N' := N) (cap' := cap) TB.out.rs (by have := TB.out.gs; omega)
  change bodyPost Try.prog _ _ _ _ (Fin5 w2 (w.heap.size + 1) h g N cap)
  revert FIN
  generalize Fin5 w2 (w.heap.size + 1) h g N cap = wf
  intro FIN
  obtain ⟨hf, F1, F2⟩ := FIN
  have e0 := cell_of_row wf _ 0 _ _ _ hf
  have e1 := cell_of_row wf _ 1 _ _ _ hf
  have e2 := cell_of_row wf _ 2 _ _ _ hf
  have e3 := cell_of_row wf _ 3 _ _ _ hf
  have e4 := cell_of_row wf _ 4 _ _ _ hf
  simp at e0 e1 e2 e3 e4
  exact bodyPost_ret (v := .tuple #[.agg #[.int .i64 (h).V, .int .i64 (h).B, .int .i64 (h).made, .int .i64 (h).sweeps, .slice (some ⟨g, 0, none⟩) N cap], .int .i64 0, .int .i64 1]) (by simp [results, Try.results17, go_sem, e0, e1, e2, e3, e4]) rfl ⟨_, _, rfl, F1, F2⟩

set_option maxHeartbeats 1000000 in
set_option maxRecDepth 100000 in
theorem rmk_nohigh {w : World} {g N cap : Nat} {cs : List Nd} (rs : RS w g N cap cs) (h : Hd) (v a b : Int) (h0 : 0 ≤ v) (h1 : v < h.V) (ha : thereB cs a = true) (hb : thereB cs b = false) :
    Calls Try.prog 17 #[rsV h g N cap, .int .i64 v, .int .i64 a, .int .i64 b] w (RMOut h N cs 0 1 w) := by
  have TB := Lib.hid (TwoB.start (h := h) rs)
  have HAx := ris_any TB.out.rs h a
  rw [ha] at HAx
  unfold rsV at HAx
  have HA := Lib.hid HAx
  clear HAx
  clear rs ha
  have HBF := Lib.hid hb
  clear hb
  unfold rsV
  have a0 := cell_of_row _ (w.heap.size) 0 _ _ _ TB.out.bs
  have a1 := cell_of_row _ (w.heap.size) 1 _ _ _ TB.out.bs
  have a2 := cell_of_row _ (w.heap.size) 2 _ _ _ TB.out.bs
  have a3 := cell_of_row _ (w.heap.size) 3 _ _ _ TB.out.bs
  have a4 := cell_of_row _ (w.heap.size) 4 _ _ _ TB.out.bs
  have af := fun o => frozen_of_row _ (w.heap.size) o _ _ TB.out.bs
  simp at a0 a1 a2 a3 a4
  have r0 := cell_of_row _ (w.heap.size + 1) 0 _ _ _ TB.out.br
  have r1 := cell_of_row _ (w.heap.size + 1) 1 _ _ _ TB.out.br
  have r2 := cell_of_row _ (w.heap.size + 1) 2 _ _ _ TB.out.br
  have r3 := cell_of_row _ (w.heap.size + 1) 3 _ _ _ TB.out.br
  have r4 := cell_of_row _ (w.heap.size + 1) 4 _ _ _ TB.out.br
  have rf := fun o => frozen_of_row _ (w.heap.size + 1) o _ _ TB.out.br
  simp at r0 r1 r2 r3 r4
  go_enter Try.func17, Try.ntmps17
  go_wp2_with fail
  refine HA.out.mono ?_
  rintro e w2 ⟨rfl, hb⟩
  have TB' := Lib.hid (TB.out.keep hb)
  clear hb TB a0 a1 a2 a3 a4 af r0 r1 r2 r3 r4 rf
  have TB := TB'
  clear TB'
  have a0 := cell_of_row _ (w.heap.size) 0 _ _ _ TB.out.bs
  have a1 := cell_of_row _ (w.heap.size) 1 _ _ _ TB.out.bs
  have a2 := cell_of_row _ (w.heap.size) 2 _ _ _ TB.out.bs
  have a3 := cell_of_row _ (w.heap.size) 3 _ _ _ TB.out.bs
  have a4 := cell_of_row _ (w.heap.size) 4 _ _ _ TB.out.bs
  have af := fun o => frozen_of_row _ (w.heap.size) o _ _ TB.out.bs
  simp at a0 a1 a2 a3 a4
  have r0 := cell_of_row _ (w.heap.size + 1) 0 _ _ _ TB.out.br
  have r1 := cell_of_row _ (w.heap.size + 1) 1 _ _ _ TB.out.br
  have r2 := cell_of_row _ (w.heap.size + 1) 2 _ _ _ TB.out.br
  have r3 := cell_of_row _ (w.heap.size + 1) 3 _ _ _ TB.out.br
  have r4 := cell_of_row _ (w.heap.size + 1) 4 _ _ _ TB.out.br
  have rf := fun o => frozen_of_row _ (w.heap.size + 1) o _ _ TB.out.br
  simp at r0 r1 r2 r3 r4
  clear HA
  have HBx := ris_any TB.out.rs h b
  rw [HBF.out] at HBx
  unfold rsV at HBx
  have HB := Lib.hid HBx
  clear HBx
  go_wp2_with fail
  refine HB.out.mono ?_
  rintro e w3 ⟨rfl, hb⟩
  have TB' := Lib.hid (TB.out.keep hb)
  clear hb TB a0 a1 a2 a3 a4 af r0 r1 r2 r3 r4 rf
  have TB := TB'
  clear TB'
  have a0 := cell_of_row _ (w.heap.size) 0 _ _ _ TB.out.bs
  have a1 := cell_of_row _ (w.heap.size) 1 _ _ _ TB.out.bs
  have a2 := cell_of_row _ (w.heap.size) 2 _ _ _ TB.out.bs
  have a3 := cell_of_row _ (w.heap.size) 3 _ _ _ TB.out.bs
  have a4 := cell_of_row _ (w.heap.size) 4 _ _ _ TB.out.bs
  have af := fun o => frozen_of_row _ (w.heap.size) o _ _ TB.out.bs
  simp at a0 a1 a2 a3 a4
  have r0 := cell_of_row _ (w.heap.size + 1) 0 _ _ _ TB.out.br
  have r1 := cell_of_row _ (w.heap.size + 1) 1 _ _ _ TB.out.br
  have r2 := cell_of_row _ (w.heap.size + 1) 2 _ _ _ TB.out.br
  have r3 := cell_of_row _ (w.heap.size + 1) 3 _ _ _ TB.out.br
  have r4 := cell_of_row _ (w.heap.size + 1) 4 _ _ _ TB.out.br
  have rf := fun o => frozen_of_row _ (w.heap.size + 1) o _ _ TB.out.br
  simp at r0 r1 r2 r3 r4
  clear HB
  go_wp2_with fail
  clear a0 a1 a2 a3 a4 af r0 r1 r2 r3 r4 rf
  have FIN := TB.out.fin (h' := h) (g' := g) (N' := N) (cap' := cap) TB.out.rs (by have := TB.out.gs; omega)
  change bodyPost Try.prog _ _ _ _ (Fin5 w3 (w.heap.size + 1) h g N cap)
  revert FIN
  generalize Fin5 w3 (w.heap.size + 1) h g N cap = wf
  intro FIN
  obtain ⟨hf, F1, F2⟩ := FIN
  have e0 := cell_of_row wf _ 0 _ _ _ hf
  have e1 := cell_of_row wf _ 1 _ _ _ hf
  have e2 := cell_of_row wf _ 2 _ _ _ hf
  have e3 := cell_of_row wf _ 3 _ _ _ hf
  have e4 := cell_of_row wf _ 4 _ _ _ hf
  simp at e0 e1 e2 e3 e4
  exact bodyPost_ret (v := .tuple #[.agg #[.int .i64 (h).V, .int .i64 (h).B, .int .i64 (h).made, .int .i64 (h).sweeps, .slice (some ⟨g, 0, none⟩) N cap], .int .i64 0, .int .i64 1]) (by simp [results, Try.results17, go_sem, e0, e1, e2, e3, e4]) rfl ⟨_, _, rfl, F1, F2⟩

set_option maxHeartbeats 1000000 in
set_option maxRecDepth 100000 in
theorem rmk_low {w : World} {g N cap : Nat} {cs : List Nd} (rs : RS w g N cap cs) (h : Hd) {a b : Nat} {ca cb : Nd} (v : Int) (h0 : 0 ≤ v) (h1 : v < h.V) (ha : Is cs a ca) (hb : Is cs b cb) (hv : ca.asks ≤ v) :
    Calls Try.prog 17 #[rsV h g N cap, .int .i64 v, .int .i64 (a : Int), .int .i64 (b : Int)] w (RMOut h N cs 0 1 w) := by
  have HIA := Lib.hid ha
  have HIB := Lib.hid hb
  clear ha hb
  have TB := Lib.hid (TwoB.start (h := h) rs)
  have HAx := ris_any TB.out.rs h (a : Int)
  rw [thereB_is HIA.out] at HAx
  unfold rsV at HAx
  have HA := Lib.hid HAx
  clear HAx
  clear rs
  unfold rsV
  have a0 := cell_of_row _ (w.heap.size) 0 _ _ _ TB.out.bs
  have a1 := cell_of_row _ (w.heap.size) 1 _ _ _ TB.out.bs
  have a2 := cell_of_row _ (w.heap.size) 2 _ _ _ TB.out.bs
  have a3 := cell_of_row _ (w.heap.size) 3 _ _ _ TB.out.bs
  have a4 := cell_of_row _ (w.heap.size) 4 _ _ _ TB.out.bs
  have af := fun o => frozen_of_row _ (w.heap.size) o _ _ TB.out.bs
  simp at a0 a1 a2 a3 a4
  have r0 := cell_of_row _ (w.heap.size + 1) 0 _ _ _ TB.out.br
  have r1 := cell_of_row _ (w.heap.size + 1) 1 _ _ _ TB.out.br
  have r2 := cell_of_row _ (w.heap.size + 1) 2 _ _ _ TB.out.br
  have r3 := cell_of_row _ (w.heap.size + 1) 3 _ _ _ TB.out.br
  have r4 := cell_of_row _ (w.heap.size + 1) 4 _ _ _ TB.out.br
  have rf := fun o => frozen_of_row _ (w.heap.size + 1) o _ _ TB.out.br
  simp at r0 r1 r2 r3 r4
  go_enter Try.func17, Try.ntmps17
  go_wp2_with fail
  refine HA.out.mono ?_
  rintro e w2 ⟨rfl, hb⟩
  have TB' := Lib.hid (TB.out.keep hb)
  clear hb TB a0 a1 a2 a3 a4 af r0 r1 r2 r3 r4 rf
  have TB := TB'
  clear TB'
  have a0 := cell_of_row _ (w.heap.size) 0 _ _ _ TB.out.bs
  have a1 := cell_of_row _ (w.heap.size) 1 _ _ _ TB.out.bs
  have a2 := cell_of_row _ (w.heap.size) 2 _ _ _ TB.out.bs
  have a3 := cell_of_row _ (w.heap.size) 3 _ _ _ TB.out.bs
  have a4 := cell_of_row _ (w.heap.size) 4 _ _ _ TB.out.bs
  have af := fun o => frozen_of_row _ (w.heap.size) o _ _ TB.out.bs
  simp at a0 a1 a2 a3 a4
  have r0 := cell_of_row _ (w.heap.size + 1) 0 _ _ _ TB.out.br
  have r1 := cell_of_row _ (w.heap.size + 1) 1 _ _ _ TB.out.br
  have r2 := cell_of_row _ (w.heap.size + 1) 2 _ _ _ TB.out.br
  have r3 := cell_of_row _ (w.heap.size + 1) 3 _ _ _ TB.out.br
  have r4 := cell_of_row _ (w.heap.size + 1) 4 _ _ _ TB.out.br
  have rf := fun o => frozen_of_row _ (w.heap.size + 1) o _ _ TB.out.br
  simp at r0 r1 r2 r3 r4
  clear HA
  have HBx := ris_any TB.out.rs h (b : Int)
  rw [thereB_is HIB.out] at HBx
  unfold rsV at HBx
  have HB := Lib.hid HBx
  clear HBx
  go_wp2_with fail
  refine HB.out.mono ?_
  rintro e w3 ⟨rfl, hb⟩
  have TB' := Lib.hid (TB.out.keep hb)
  clear hb TB a0 a1 a2 a3 a4 af r0 r1 r2 r3 r4 rf
  have TB := TB'
  clear TB'
  have a0 := cell_of_row _ (w.heap.size) 0 _ _ _ TB.out.bs
  have a1 := cell_of_row _ (w.heap.size) 1 _ _ _ TB.out.bs
  have a2 := cell_of_row _ (w.heap.size) 2 _ _ _ TB.out.bs
  have a3 := cell_of_row _ (w.heap.size) 3 _ _ _ TB.out.bs
  have a4 := cell_of_row _ (w.heap.size) 4 _ _ _ TB.out.bs
  have af := fun o => frozen_of_row _ (w.heap.size) o _ _ TB.out.bs
  simp at a0 a1 a2 a3 a4
  have r0 := cell_of_row _ (w.heap.size + 1) 0 _ _ _ TB.out.br
  have r1 := cell_of_row _ (w.heap.size + 1) 1 _ _ _ TB.out.br
  have r2 := cell_of_row _ (w.heap.size + 1) 2 _ _ _ TB.out.br
  have r3 := cell_of_row _ (w.heap.size + 1) 3 _ _ _ TB.out.br
  have r4 := cell_of_row _ (w.heap.size + 1) 4 _ _ _ TB.out.br
  have rf := fun o => frozen_of_row _ (w.heap.size + 1) o _ _ TB.out.br
  simp at r0 r1 r2 r3 r4
  clear HB
  obtain ⟨hl, d0, d1, d2, d3, d4⟩ := TB.out.rs.row HIA.out
  clear d0 d2 d3 d4
  go_wp2_with fail
  clear a0 a1 a2 a3 a4 af r0 r1 r2 r3 r4 rf d1
  have FIN := TB.out.fin (h' := h) (g' := g) (N' := N) (cap' := cap) TB.out.rs (by have := TB.out.gs; omega)
  change bodyPost Try.prog _ _ _ _ (Fin5 w3 (w.heap.size + 1) h g N cap)
  revert FIN
  generalize Fin5 w3 (w.heap.size + 1) h g N cap = wf
  intro FIN
  obtain ⟨hf, F1, F2⟩ := FIN
  have e0 := cell_of_row wf _ 0 _ _ _ hf
  have e1 := cell_of_row wf _ 1 _ _ _ hf
  have e2 := cell_of_row wf _ 2 _ _ _ hf
  have e3 := cell_of_row wf _ 3 _ _ _ hf
  have e4 := cell_of_row wf _ 4 _ _ _ hf
  simp at e0 e1 e2 e3 e4
  exact bodyPost_ret (v := .tuple #[.agg #[.int .i64 (h).V, .int .i64 (h).B, .int .i64 (h).made, .int .i64 (h).sweeps, .slice (some ⟨g, 0, none⟩) N cap], .int .i64 0, .int .i64 1]) (by simp [results, Try.results17, go_sem, e0, e1, e2, e3, e4]) rfl ⟨_, _, rfl, F1, F2⟩

set_option maxHeartbeats 1000000 in
set_option maxRecDepth 100000 in
theorem rmk_high {w : World} {g N cap : Nat} {cs : List Nd} (rs : RS w g N cap cs) (h : Hd) {a b : Nat} {ca cb : Nd} (v : Int) (h0 : 0 ≤ v) (h1 : v < h.V) (ha : Is cs a ca) (hb : Is cs b cb) (hva : v < ca.asks) (hv : cb.asks ≤ v) :
    Calls Try.prog 17 #[rsV h g N cap, .int .i64 v, .int .i64 (a : Int), .int .i64 (b : Int)] w (RMOut h N cs 0 1 w) := by
  have HIA := Lib.hid ha
  have HIB := Lib.hid hb
  clear ha hb
  have TB := Lib.hid (TwoB.start (h := h) rs)
  have HAx := ris_any TB.out.rs h (a : Int)
  rw [thereB_is HIA.out] at HAx
  unfold rsV at HAx
  have HA := Lib.hid HAx
  clear HAx
  clear rs
  unfold rsV
  have a0 := cell_of_row _ (w.heap.size) 0 _ _ _ TB.out.bs
  have a1 := cell_of_row _ (w.heap.size) 1 _ _ _ TB.out.bs
  have a2 := cell_of_row _ (w.heap.size) 2 _ _ _ TB.out.bs
  have a3 := cell_of_row _ (w.heap.size) 3 _ _ _ TB.out.bs
  have a4 := cell_of_row _ (w.heap.size) 4 _ _ _ TB.out.bs
  have af := fun o => frozen_of_row _ (w.heap.size) o _ _ TB.out.bs
  simp at a0 a1 a2 a3 a4
  have r0 := cell_of_row _ (w.heap.size + 1) 0 _ _ _ TB.out.br
  have r1 := cell_of_row _ (w.heap.size + 1) 1 _ _ _ TB.out.br
  have r2 := cell_of_row _ (w.heap.size + 1) 2 _ _ _ TB.out.br
  have r3 := cell_of_row _ (w.heap.size + 1) 3 _ _ _ TB.out.br
  have r4 := cell_of_row _ (w.heap.size + 1) 4 _ _ _ TB.out.br
  have rf := fun o => frozen_of_row _ (w.heap.size + 1) o _ _ TB.out.br
  simp at r0 r1 r2 r3 r4
  go_enter Try.func17, Try.ntmps17
  go_wp2_with fail
  refine HA.out.mono ?_
  rintro e w2 ⟨rfl, hb⟩
  have TB' := Lib.hid (TB.out.keep hb)
  clear hb TB a0 a1 a2 a3 a4 af r0 r1 r2 r3 r4 rf
  have TB := TB'
  clear TB'
  have a0 := cell_of_row _ (w.heap.size) 0 _ _ _ TB.out.bs
  have a1 := cell_of_row _ (w.heap.size) 1 _ _ _ TB.out.bs
  have a2 := cell_of_row _ (w.heap.size) 2 _ _ _ TB.out.bs
  have a3 := cell_of_row _ (w.heap.size) 3 _ _ _ TB.out.bs
  have a4 := cell_of_row _ (w.heap.size) 4 _ _ _ TB.out.bs
  have af := fun o => frozen_of_row _ (w.heap.size) o _ _ TB.out.bs
  simp at a0 a1 a2 a3 a4
  have r0 := cell_of_row _ (w.heap.size + 1) 0 _ _ _ TB.out.br
  have r1 := cell_of_row _ (w.heap.size + 1) 1 _ _ _ TB.out.br
  have r2 := cell_of_row _ (w.heap.size + 1) 2 _ _ _ TB.out.br
  have r3 := cell_of_row _ (w.heap.size + 1) 3 _ _ _ TB.out.br
  have r4 := cell_of_row _ (w.heap.size + 1) 4 _ _ _ TB.out.br
  have rf := fun o => frozen_of_row _ (w.heap.size + 1) o _ _ TB.out.br
  simp at r0 r1 r2 r3 r4
  clear HA
  have HBx := ris_any TB.out.rs h (b : Int)
  rw [thereB_is HIB.out] at HBx
  unfold rsV at HBx
  have HB := Lib.hid HBx
  clear HBx
  go_wp2_with fail
  refine HB.out.mono ?_
  rintro e w3 ⟨rfl, hb⟩
  have TB' := Lib.hid (TB.out.keep hb)
  clear hb TB a0 a1 a2 a3 a4 af r0 r1 r2 r3 r4 rf
  have TB := TB'
  clear TB'
  have a0 := cell_of_row _ (w.heap.size) 0 _ _ _ TB.out.bs
  have a1 := cell_of_row _ (w.heap.size) 1 _ _ _ TB.out.bs
  have a2 := cell_of_row _ (w.heap.size) 2 _ _ _ TB.out.bs
  have a3 := cell_of_row _ (w.heap.size) 3 _ _ _ TB.out.bs
  have a4 := cell_of_row _ (w.heap.size) 4 _ _ _ TB.out.bs
  have af := fun o => frozen_of_row _ (w.heap.size) o _ _ TB.out.bs
  simp at a0 a1 a2 a3 a4
  have r0 := cell_of_row _ (w.heap.size + 1) 0 _ _ _ TB.out.br
  have r1 := cell_of_row _ (w.heap.size + 1) 1 _ _ _ TB.out.br
  have r2 := cell_of_row _ (w.heap.size + 1) 2 _ _ _ TB.out.br
  have r3 := cell_of_row _ (w.heap.size + 1) 3 _ _ _ TB.out.br
  have r4 := cell_of_row _ (w.heap.size + 1) 4 _ _ _ TB.out.br
  have rf := fun o => frozen_of_row _ (w.heap.size + 1) o _ _ TB.out.br
  simp at r0 r1 r2 r3 r4
  clear HB
  obtain ⟨hla, _, d1, _, _, _⟩ := TB.out.rs.row HIA.out
  obtain ⟨hlb, _, d2, _, _, _⟩ := TB.out.rs.row HIB.out
  go_wp2_with fail
  clear a0 a1 a2 a3 a4 af r0 r1 r2 r3 r4 rf d1 d2
  have FIN := TB.out.fin (h' := h) (g' := g) (N' := N) (cap' := cap) TB.out.rs (by have := TB.out.gs; omega)
  change bodyPost Try.prog _ _ _ _ (Fin5 w3 (w.heap.size + 1) h g N cap)
  revert FIN
  generalize Fin5 w3 (w.heap.size + 1) h g N cap = wf
  intro FIN
  obtain ⟨hf, F1, F2⟩ := FIN
  have e0 := cell_of_row wf _ 0 _ _ _ hf
  have e1 := cell_of_row wf _ 1 _ _ _ hf
  have e2 := cell_of_row wf _ 2 _ _ _ hf
  have e3 := cell_of_row wf _ 3 _ _ _ hf
  have e4 := cell_of_row wf _ 4 _ _ _ hf
  simp at e0 e1 e2 e3 e4
  exact bodyPost_ret (v := .tuple #[.agg #[.int .i64 (h).V, .int .i64 (h).B, .int .i64 (h).made, .int .i64 (h).sweeps, .slice (some ⟨g, 0, none⟩) N cap], .int .i64 0, .int .i64 1]) (by simp [results, Try.results17, go_sem, e0, e1, e2, e3, e4]) rfl ⟨_, _, rfl, F1, F2⟩

end Go.Proofs.Yteeffabmafakiaa
