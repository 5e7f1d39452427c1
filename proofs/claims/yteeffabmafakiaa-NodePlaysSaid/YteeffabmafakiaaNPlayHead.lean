/- Layer 3, NodePlays: no store; what is known at a round's head. -/
import Derived.Test.YteeffabmafakiaaNPlayArg
namespace Go.Proofs.Yteeffabmafakiaa
open Go.ChangeShapes Go.WideShapes Go.ChangeAt Go.RowKit

def RNewZ (w : World) (e : Ending) (w' : World) : Prop := e = .returned (.tuple #[.agg #[.int .i64 0, .int .i64 0, .int .i64 0, .int .i64 0, .slice none 0 0], .int .i64 1]) ∧ Below w.heap.size w w'

set_option maxHeartbeats 1000000 in
set_option maxRecDepth 100000 in
theorem rnew_zero {w : World} (v b : Int) (h : v < 0 ∨ 256 < v ∨ b < 2 ∨ 1048576 < b) :
    Calls Try.prog 5 #[.int .i64 v, .int .i64 b] w (RNewZ w) := by
  by_cases h0 : v < 0
  · clear h
    go_enter Try.func5, Try.ntmps5
    go_wp2_with fail
    have FIN := zero_new w
    revert FIN
    generalize (w.alloc (.cells #[.int .i64 0, .int .i64 0, .int .i64 0, .int .i64 0, .slice none 0 0] 29)) = wf
    intro FIN
    obtain ⟨hf, F1⟩ := FIN
    have e0 := cell_of_row wf _ 0 _ _ _ hf
    have e1 := cell_of_row wf _ 1 _ _ _ hf
    have e2 := cell_of_row wf _ 2 _ _ _ hf
    have e3 := cell_of_row wf _ 3 _ _ _ hf
    have e4 := cell_of_row wf _ 4 _ _ _ hf
    simp at e0 e1 e2 e3 e4
    exact bodyPost_ret (v := .tuple #[.agg #[.int .i64 0, .int .i64 0, .int .i64 0, .int .i64 0, .slice none 0 0], .int .i64 1]) (by simp [results, Try.results5, go_sem, e0, e1, e2, e3, e4]) rfl ⟨rfl, F1⟩
  · by_cases h1 : 256 < v
    · clear h
      go_enter Try.func5, Try.ntmps5
      go_wp2_with fail
      have FIN := zero_new w
      revert FIN
      generalize (w.alloc (.cells #[.int .i64 0, .int .i64 0, .int .i64 0, .int .i64 0, .slice none 0 0] 29)) = wf
      intro FIN
      obtain ⟨hf, F1⟩ := FIN
      have e0 := cell_of_row wf _ 0 _ _ _ hf
      have e1 := cell_of_row wf _ 1 _ _ _ hf
      have e2 := cell_of_row wf _ 2 _ _ _ hf
      have e3 := cell_of_row wf _ 3 _ _ _ hf
      have e4 := cell_of_row wf _ 4 _ _ _ hf
      simp at e0 e1 e2 e3 e4
      exact bodyPost_ret (v := .tuple #[.agg #[.int .i64 0, .int .i64 0, .int .i64 0, .int .i64 0, .slice none 0 0], .int .i64 1]) (by simp [results, Try.results5, go_sem, e0, e1, e2, e3, e4]) rfl ⟨rfl, F1⟩
    · by_cases h2 : b < 2
      · clear h
        go_enter Try.func5, Try.ntmps5
        go_wp2_with fail
        have FIN := zero_new w
        revert FIN
        generalize (w.alloc (.cells #[.int .i64 0, .int .i64 0, .int .i64 0, .int .i64 0, .slice none 0 0] 29)) = wf
        intro FIN
        obtain ⟨hf, F1⟩ := FIN
        have e0 := cell_of_row wf _ 0 _ _ _ hf
        have e1 := cell_of_row wf _ 1 _ _ _ hf
        have e2 := cell_of_row wf _ 2 _ _ _ hf
        have e3 := cell_of_row wf _ 3 _ _ _ hf
        have e4 := cell_of_row wf _ 4 _ _ _ hf
        simp at e0 e1 e2 e3 e4
        exact bodyPost_ret (v := .tuple #[.agg #[.int .i64 0, .int .i64 0, .int .i64 0, .int .i64 0, .slice none 0 0], .int .i64 1]) (by simp [results, Try.results5, go_sem, e0, e1, e2, e3, e4]) rfl ⟨rfl, F1⟩
      · have h3 : 1048576 < b := by omega
        clear h
        go_enter Try.func5, Try.ntmps5
        go_wp2_with fail
        have FIN := zero_new w
        revert FIN
        generalize (w.alloc (.cells #[.int .i64 0, .int .i64 0, .int .i64 0, .int .i64 0, .slice none 0 0] 29)) = wf
        intro FIN
        obtain ⟨hf, F1⟩ := FIN
        have e0 := cell_of_row wf _ 0 _ _ _ hf
        have e1 := cell_of_row wf _ 1 _ _ _ hf
        have e2 := cell_of_row wf _ 2 _ _ _ hf
        have e3 := cell_of_row wf _ 3 _ _ _ hf
        have e4 := cell_of_row wf _ 4 _ _ _ hf
        simp at e0 e1 e2 e3 e4
        exact bodyPost_ret (v := .tuple #[.agg #[.int .i64 0, .int .i64 0, .int .i64 0, .int .i64 0, .slice none 0 0], .int .i64 1]) (by simp [results, Try.results5, go_sem, e0, e1, e2, e3, e4]) rfl ⟨rfl, F1⟩


set_option maxHeartbeats 4000000 in
set_option maxRecDepth 100000 in
theorem plays_no (v b : Int) (sl : Value) (W : World) (h : v < 0 ∨ 256 < v ∨ b < 2 ∨ 1048576 < b) :
    Calls Try.prog 3 #[.int .i64 v, .int .i64 b, sl] W fun e w' => e = .returned (.bool true) ∧ Below W.heap.size W w' := by
  have HH := Lib.hid h
  clear h
  go_enter Try.func3, Try.ntmps3
  go_wp2_with fail
  refine (newst_no v b HH.out _).mono ?_
  rintro e w' ⟨rfl, rfl⟩
  go_wp2_with fail
  refine (rnew_zero v b HH.out).mono ?_
  rintro e w2 ⟨rfl, hb2⟩
  have B2 := Lib.hid (hb2.trans (((Below.refl w2.heap.size w2).alloc (Nat.le_refl _) (.cells #[.int .i64 0, .int .i64 0, .int .i64 0, .int .i64 0, .slice none 0 0] 29)).mono hb2.size))
  clear hb2
  go_wp2_with fail
  refine (awake3 _).mono ?_
  rintro e w3 ⟨rfl, hb3⟩
  go_wp2_with fail
  go_ret
  exact ⟨rfl, B2.out.trans (hb3.mono B2.out.size)⟩

/-- What is known of the world at a round's head. -/
structure PlW (W : World) (m : Mem) (h : Hd) (cs : List Nd) (g N cap gq : Nat) (w : World) : Prop where
  both : Both w m h cs g N cap
  q : w.heap[gq]? = some (.cells #[.int .i64 h.V, .int .i64 h.B, .int .i64 h.made, .int .i64 h.sweeps, .slice (some ⟨g, 0, none⟩) N cap] 29 (0, 0))
  below : Below W.heap.size W w
  own : ∀ i, m.own i → W.heap.size ≤ i
  gl : W.heap.size ≤ gq
  gn : ¬ m.own gq

theorem PlW.keep {W : World} {m : Mem} {h : Hd} {cs : List Nd} {g N cap gq : Nat} {w w' : World} (p : PlW W m h cs g N cap gq w) (hb : Below w.heap.size w w') : PlW W m h cs g N cap gq w' :=
  ⟨p.both.keep hb, (hb.block gq (Array.getElem?_eq_some_iff.1 p.q).1).trans p.q, p.below.trans (hb.mono p.below.size), p.own, p.gl, p.gn⟩

def PlRel (W : World) (s gq V len : Nat) (ix : Value) (wr : World) : Prop :=
  ∃ (i : Nat) (m : Mem) (h : Hd) (cs : List Nd) (g N cap : Nat), i ≤ len ∧ i ≤ 200 ∧ ix = .int .i64 i ∧ m.s = s ∧ h.V = V ∧ 0 ≤ h.made ∧ h.made ≤ i ∧ 0 ≤ h.sweeps ∧ h.sweeps ≤ i ∧ N ≤ 2 + i ∧ PlW W m h cs g N cap gq wr

end Go.Proofs.Yteeffabmafakiaa
