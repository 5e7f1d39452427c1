/- The document's store: New. -/
import Derived.Test.YteeffabmafakiaaNRefMk
namespace Go.Proofs.Yteeffabmafakiaa
open Go.ChangeShapes Go.WideShapes Go.ChangeAt Go.RowKit

theorem zero_new (w : World) : (w.alloc (.cells #[.int .i64 0, .int .i64 0, .int .i64 0, .int .i64 0, .slice none 0 0] 29)).heap[w.heap.size]? = some (.cells #[.int .i64 0, .int .i64 0, .int .i64 0, .int .i64 0, .slice none 0 0] 29 (0, 0)) ∧ Below w.heap.size w (w.alloc (.cells #[.int .i64 0, .int .i64 0, .int .i64 0, .int .i64 0, .slice none 0 0] 29)) :=
  ⟨heap_alloc_new w _, (Below.refl _ _).alloc (Nat.le_refl _) _⟩

def RNewNo (w : World) (e : Ending) (w' : World) : Prop := ∃ z, e = .returned (.tuple #[z, .int .i64 1]) ∧ Below w.heap.size w w'

set_option maxHeartbeats 1000000 in
set_option maxRecDepth 100000 in
theorem rnew_no {w : World} (v b : Int) (h : v < 0 ∨ 256 < v ∨ b < 2 ∨ 1048576 < b) :
    Calls Try.prog 5 #[.int .i64 v, .int .i64 b] w (RNewNo w) := by
  by_cases h0 : v < 0
  · clear h
    go_enter Try.func5, Try.ntmps5
    go_wp2_with fail
    have FIN := zero_new w
    revert FIN
    generalize (w.alloc (.cells #[.int .i64 0, .int .i64 0, .int .i64 0, .int .i64 0, .slice none 0 0] 29)) = wf
    intro FIN
    obtain ⟨hf, F1⟩ := FIN
    have e0 := cell_of_row wf _ 0 _ _ _ hf
    have e1 := cell_of_row wf _ 1 _ _ _ hf
    have e2 := cell_of_row wf _ 2 _ _ _ hf
    have e3 := cell_of_row wf _ 3 _ _ _ hf
    have e4 := cell_of_row wf _ 4 _ _ _ hf
    simp at e0 e1 e2 e3 e4
    exact bodyPost_ret (v := .tuple #[.agg #[.int .i64 0, .int .i64 0, .int .i64 0, .int .i64 0, .slice none 0 0], .int .i64 1]) (by simp [results, Try.results5, go_sem, e0, e1, e2, e3, e4]) rfl ⟨_, rfl, F1⟩
  · by_cases h1 : 256 < v
    · clear h
      go_enter Try.func5, Try.ntmps5
      go_wp2_with fail
      have FIN := zero_new w
      revert FIN
      generalize (w.alloc (.cells #[.int .i64 0, .int .i64 0, .int .i64 0, .int .i64 0, .slice none 0 0] 29)) = wf
      intro FIN
      obtain ⟨hf, F1⟩ := FIN
      have e0 := cell_of_row wf _ 0 _ _ _ hf
      have e1 := cell_of_row wf _ 1 _ _ _ hf
      have e2 := cell_of_row wf _ 2 _ _ _ hf
      have e3 := cell_of_row wf _ 3 _ _ _ hf
      have e4 := cell_of_row wf _ 4 _ _ _ hf
      simp at e0 e1 e2 e3 e4
      exact bodyPost_ret (v := .tuple #[.agg #[.int .i64 0, .int .i64 0, .int .i64 0, .int .i64 0, .slice none 0 0], .int .i64 1]) (by simp [results, Try.results5, go_sem, e0, e1, e2, e3, e4]) rfl ⟨_, rfl, F1⟩
    · by_cases h2 : b < 2
      · clear h
        go_enter Try.func5, Try.ntmps5
        go_wp2_with fail
        have FIN := zero_new w
        revert FIN
        generalize (w.alloc (.cells #[.int .i64 0, .int .i64 0, .int .i64 0, .int .i64 0, .slice none 0 0] 29)) = wf
        intro FIN
        obtain ⟨hf, F1⟩ := FIN
        have e0 := cell_of_row wf _ 0 _ _ _ hf
        have e1 := cell_of_row wf _ 1 _ _ _ hf
        have e2 := cell_of_row wf _ 2 _ _ _ hf
        have e3 := cell_of_row wf _ 3 _ _ _ hf
        have e4 := cell_of_row wf _ 4 _ _ _ hf
        simp at e0 e1 e2 e3 e4
        exact bodyPost_ret (v := .tuple #[.agg #[.int .i64 0, .int .i64 0, .int .i64 0, .int .i64 0, .slice none 0 0], .int .i64 1]) (by simp [results, Try.results5, go_sem, e0, e1, e2, e3, e4]) rfl ⟨_, rfl, F1⟩
      · have h3 : 1048576 < b := by omega
        clear h
        go_enter Try.func5, Try.ntmps5
        go_wp2_with fail
        have FIN := zero_new w
        revert FIN
        generalize (w.alloc (.cells #[.int .i64 0, .int .i64 0, .int .i64 0, .int .i64 0, .slice none 0 0] 29)) = wf
        intro FIN
        obtain ⟨hf, F1⟩ := FIN
        have e0 := cell_of_row wf _ 0 _ _ _ hf
        have e1 := cell_of_row wf _ 1 _ _ _ hf
        have e2 := cell_of_row wf _ 2 _ _ _ hf
        have e3 := cell_of_row wf _ 3 _ _ _ hf
        have e4 := cell_of_row wf _ 4 _ _ _ hf
        simp at e0 e1 e2 e3 e4
        exact bodyPost_ret (v := .tuple #[.agg #[.int .i64 0, .int .i64 0, .int .i64 0, .int .i64 0, .slice none 0 0], .int .i64 1]) (by simp [results, Try.results5, go_sem, e0, e1, e2, e3, e4]) rfl ⟨_, rfl, F1⟩

theorem first_flat (V : Nat) : flatR (refL [⟨V, 0, 0, 0⟩, ⟨V, 1, 1, 0⟩] 2) = [.bool true, .int .i64 (V : Int), .int .i64 0, .int .i64 0, .int .i64 0, .bool true, .int .i64 (V : Int), .int .i64 1, .int .i64 1, .int .i64 0] := by
  have h0 : rn [⟨V, 0, 0, 0⟩, ⟨V, 1, 1, 0⟩] 0 = ⟨true, V, 0, 0, 0⟩ := rn_is (c := ⟨V, 0, 0, 0⟩) ⟨rfl, by show (V : Int) ≠ -1; omega⟩
  have h1 : rn [⟨V, 0, 0, 0⟩, ⟨V, 1, 1, 0⟩] 1 = ⟨true, V, 1, 1, 0⟩ := rn_is (c := ⟨V, 1, 1, 0⟩) ⟨rfl, by show (V : Int) ≠ -1; omega⟩
  show flatR [rn [⟨V, 0, 0, 0⟩, ⟨V, 1, 1, 0⟩] 0, rn [⟨V, 0, 0, 0⟩, ⟨V, 1, 1, 0⟩] 1] = _
  rw [h0, h1]
  rfl

theorem new_block (V B : Nat) (w : World) : ((w.alloc (.cells #[.int .i64 (V : Int), .int .i64 (B : Int), .int .i64 0, .int .i64 0, .slice (some ⟨w.heap.size + 1, 0, none⟩) 2 2] 29)).alloc (.cells #[.bool true, .int .i64 (V : Int), .int .i64 0, .int .i64 0, .int .i64 0, .bool true, .int .i64 (V : Int), .int .i64 1, .int .i64 1, .int .i64 0] 55)).heap[w.heap.size]? = some (.cells #[.int .i64 (V : Int), .int .i64 (B : Int), .int .i64 0, .int .i64 0, .slice (some ⟨w.heap.size + 1, 0, none⟩) 2 2] 29 (0, 0)) ∧
    RS ((w.alloc (.cells #[.int .i64 (V : Int), .int .i64 (B : Int), .int .i64 0, .int .i64 0, .slice (some ⟨w.heap.size + 1, 0, none⟩) 2 2] 29)).alloc (.cells #[.bool true, .int .i64 (V : Int), .int .i64 0, .int .i64 0, .int .i64 0, .bool true, .int .i64 (V : Int), .int .i64 1, .int .i64 1, .int .i64 0] 55)) (w.heap.size + 1) 2 2 [⟨V, 0, 0, 0⟩, ⟨V, 1, 1, 0⟩] ∧ Below w.heap.size w ((w.alloc (.cells #[.int .i64 (V : Int), .int .i64 (B : Int), .int .i64 0, .int .i64 0, .slice (some ⟨w.heap.size + 1, 0, none⟩) 2 2] 29)).alloc (.cells #[.bool true, .int .i64 (V : Int), .int .i64 0, .int .i64 0, .int .i64 0, .bool true, .int .i64 (V : Int), .int .i64 1, .int .i64 1, .int .i64 0] 55)) := by
  have b1 := (Below.refl w.heap.size w).alloc (Nat.le_refl _) (.cells #[.int .i64 (V : Int), .int .i64 (B : Int), .int .i64 0, .int .i64 0, .slice (some ⟨w.heap.size + 1, 0, none⟩) 2 2] 29)
  have b2 := b1.alloc b1.size (.cells #[.bool true, .int .i64 (V : Int), .int .i64 0, .int .i64 0, .int .i64 0, .bool true, .int .i64 (V : Int), .int .i64 1, .int .i64 1, .int .i64 0] 55)
  have hn := heap_alloc_new (w.alloc (.cells #[.int .i64 (V : Int), .int .i64 (B : Int), .int .i64 0, .int .i64 0, .slice (some ⟨w.heap.size + 1, 0, none⟩) 2 2] 29)) (.cells #[.bool true, .int .i64 (V : Int), .int .i64 0, .int .i64 0, .int .i64 0, .bool true, .int .i64 (V : Int), .int .i64 1, .int .i64 1, .int .i64 0] 55)
  simp only [World.size_alloc] at hn
  refine ⟨?_, ⟨⟨by simp, fun j u hu => ?_⟩, by simp, Nat.le_refl _, by omega⟩, b2⟩
  · rw [Below.heap_alloc _ _ _ (by simp)]
    exact heap_alloc_new w _
  · rw [first_flat] at hu
    rw [cell_of_row _ _ _ _ _ _ hn]
    rw [← hu]
    simp only [List.getElem?_toArray]

set_option maxHeartbeats 1000000 in
set_option maxRecDepth 100000 in
theorem rnew_yes {w : World} (V B : Nat) (hV : V ≤ 256) (hB2 : B ≤ 1048576) (hB : 2 ≤ B) :
    Calls Try.prog 5 #[.int .i64 (V : Int), .int .i64 (B : Int)] w fun e w' => ∃ g cap, e = .returned (.tuple #[rsV ⟨V, B, 2, 2, 0, 0⟩ g 2 cap, .int .i64 0]) ∧ RS w' g 2 cap [⟨V, 0, 0, 0⟩, ⟨V, 1, 1, 0⟩] ∧ Below w.heap.size w w' := by
  have hV' : (V : Int) ≤ 256 := by omega
  have hV'' : (0 : Int) ≤ V := by omega
  have hB' : (2 : Int) ≤ B := by omega
  have hB'' : (B : Int) ≤ 1048576 := by omega
  clear hV hB hB2
  go_enter Try.func5, Try.ntmps5
  go_wp2_with fail
  have FIN := new_block V B w
  revert FIN
  generalize ((w.alloc (.cells #[.int .i64 (V : Int), .int .i64 (B : Int), .int .i64 0, .int .i64 0, .slice (some ⟨w.heap.size + 1, 0, none⟩) 2 2] 29)).alloc (.cells #[.bool true, .int .i64 (V : Int), .int .i64 0, .int .i64 0, .int .i64 0, .bool true, .int .i64 (V : Int), .int .i64 1, .int .i64 1, .int .i64 0] 55)) = wf
  intro FIN
  obtain ⟨hf, F1, F2⟩ := FIN
  have e0 := cell_of_row wf _ 0 _ _ _ hf
  have e1 := cell_of_row wf _ 1 _ _ _ hf
  have e2 := cell_of_row wf _ 2 _ _ _ hf
  have e3 := cell_of_row wf _ 3 _ _ _ hf
  have e4 := cell_of_row wf _ 4 _ _ _ hf
  simp at e0 e1 e2 e3 e4
  exact bodyPost_ret (v := .tuple #[.agg #[.int .i64 (V : Int), .int .i64 (B : Int), .int .i64 0, .int .i64 0, .slice (some ⟨w.heap.size + 1, 0, none⟩) 2 2], .int .i64 0]) (by simp [results, Try.results5, go_sem, e0, e1, e2, e3, e4]) rfl ⟨_, _, rfl, F1, F2⟩
end Go.Proofs.Yteeffabmafakiaa
