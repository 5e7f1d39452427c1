/- Contracts of layer 4 (oper): a question settled; its variables in memory. -/
import Derived.Test.YtfdebadmikmnaaaOSet
namespace Go.Proofs.Ytfdebadmikmnaaa
open Go.ChangeShapes Go.WideShapes Go.ChangeAt Go.RowKit Go.Maps

/-- Four cells of a question's variable are written. -/
def Fin4 (w : World) (b : Nat) (q : Qu) : World :=
  ((((w.setCell ⟨b, 0, none⟩ (.int .i64 q.kind)).setCell ⟨b, 1, none⟩ (.int .i64 q.a)).setCell ⟨b, 2, none⟩ (.int .i64 q.b)).setCell ⟨b, 3, none⟩ (.int .i64 q.c))

theorem fin4 {w : World} {b : Nat} {p q : Qu} (h0 : w.heap[b]? = some (quO p)) : (Fin4 w b q).heap[b]? = some (quO q) := by
  unfold quO at h0
  have h1 := heap_setCell_same _ _ 0 _ _ (.int .i64 q.kind) h0
  have h2 := heap_setCell_same _ _ 1 _ _ (.int .i64 q.a) h1
  have h3 := heap_setCell_same _ _ 2 _ _ (.int .i64 q.b) h2
  have h4 := heap_setCell_same _ _ 3 _ _ (.int .i64 q.c) h3
  exact h4

theorem fin4_turn (w : World) (b : Nat) (q : Qu) : Turn (fun i => i = b) w (Fin4 w b q) := by
  unfold Fin4
  exact (((((Turn.refl (fun i => i = b) w).setCell (p := ⟨b, 0, none⟩) (.inl rfl) _).setCell (p := ⟨b, 1, none⟩) (.inl rfl) _).setCell (p := ⟨b, 2, none⟩) (.inl rfl) _).setCell (p := ⟨b, 3, none⟩) (.inl rfl) _)

/-- A question's variable: its cells. -/
theorem qu_cells {w : World} {b : Nat} {q : Qu} (h : w.heap[b]? = some (quO q)) :
    w.cell? ⟨b, 0, none⟩ = some (.int .i64 q.kind) ∧ w.cell? ⟨b, 1, none⟩ = some (.int .i64 q.a) ∧ w.cell? ⟨b, 2, none⟩ = some (.int .i64 q.b) ∧ w.cell? ⟨b, 3, none⟩ = some (.int .i64 q.c) ∧ ∀ o, w.frozen? ⟨b, o, none⟩ = false :=
  ⟨cell_of_row w b 0 _ _ _ h, cell_of_row w b 1 _ _ _ h, cell_of_row w b 2 _ _ _ h, cell_of_row w b 3 _ _ _ h, fun o => frozen_of_row w b o _ _ h⟩

theorem row_lt {w : World} {b : Nat} {o : Obj} (h : w.heap[b]? = some o) : b < w.heap.size := (Array.getElem?_eq_some_iff.1 h).1

theorem settle_any (q : Qu) (hk : q.kind < 2) (w : World) : Calls Try.prog 61 #[quV q] w (SetlOut (settleQ q) w) := by
  obtain ⟨kd, a, b, c⟩ := q
  have BW := Lib.hid (((Below.refl w.heap.size w).alloc (Nat.le_refl _) (quO ⟨kd, a, b, c⟩)).alloc (by simp) (quO ⟨0, 0, 0, 0⟩))
  have HN := heap_alloc_new (w.alloc (quO ⟨kd, a, b, c⟩)) (quO ⟨0, 0, 0, 0⟩)
  have HZ : (w.alloc (quO ⟨kd, a, b, c⟩)).heap.size = w.heap.size + 1 := by simp
  rw [HZ] at HN
  have HN := Lib.hid HN
  have HZ := Lib.hid HZ
  have hk : kd < 2 := hk
  rcases (by omega : kd = 1 ∨ kd = 0) with rfl | rfl
  · have HX := Lib.hid (fun u => settleXor_any a b u)
    have e : settleQ ⟨1, a, b, c⟩ = setXor a b := rfl
    rw [e]
    clear hk e
    generalize setXor a b = r at HX
    change Calls Try.prog 61 #[.agg #[.int .i64 1, .int .i64 a, .int .i64 b, .int .i64 c]] w _
    go_enter Try.func61, Try.ntmps61
    go_wp2_with fail
    refine (HX.out _).mono ?_
    rintro e w2 ⟨rfl, hb2⟩
    have Z2 : w2.heap[w.heap.size + 1]? = some (quO ⟨0, 0, 0, 0⟩) := (hb2.block _ (row_lt HN.out)).trans HN.out
    have FB := Lib.hid (BW.out.trans (hb2.mono BW.out.size))
    obtain ⟨z0, z1, z2, z3, zf⟩ := qu_cells Z2
    have ZZ := Lib.hid Z2
    clear Z2 hb2 HN BW HX HZ
    unfold quV
    go_wp2_with fail
    clear z0 z1 z2 z3 zf
    change bodyPost _ _ _ _ _ (Fin4 w2 (w.heap.size + 1) r.1)
    have F4 := fin4 (q := r.1) ZZ.out
    have FT := Turn.to_below FB.out (fin4_turn w2 (w.heap.size + 1) r.1) (fun i hi => by omega) FB.out.size
    revert F4 FT
    generalize Fin4 w2 (w.heap.size + 1) r.1 = wf
    intro F4 FT
    obtain ⟨e0, e1, e2, e3, -⟩ := qu_cells F4
    exact bodyPost_ret (v := .tuple #[quV r.1, .int .i64 r.2.1, .bool r.2.2]) (by simp [results, Try.results61, go_sem, quV, e0, e1, e2, e3]) rfl ⟨rfl, FT⟩
  · have HX := Lib.hid (fun u => settleIte_any a b c u)
    have e : settleQ ⟨0, a, b, c⟩ = setIte a b c := rfl
    rw [e]
    clear hk e
    generalize setIte a b c = r at HX
    change Calls Try.prog 61 #[.agg #[.int .i64 0, .int .i64 a, .int .i64 b, .int .i64 c]] w _
    go_enter Try.func61, Try.ntmps61
    go_wp2_with fail
    refine (HX.out _).mono ?_
    rintro e w2 ⟨rfl, hb2⟩
    have Z2 : w2.heap[w.heap.size + 1]? = some (quO ⟨0, 0, 0, 0⟩) := (hb2.block _ (row_lt HN.out)).trans HN.out
    have FB := Lib.hid (BW.out.trans (hb2.mono BW.out.size))
    obtain ⟨z0, z1, z2, z3, zf⟩ := qu_cells Z2
    have ZZ := Lib.hid Z2
    clear Z2 hb2 HN BW HX HZ
    unfold quV
    go_wp2_with fail
    clear z0 z1 z2 z3 zf
    change bodyPost _ _ _ _ _ (Fin4 w2 (w.heap.size + 1) r.1)
    have F4 := fin4 (q := r.1) ZZ.out
    have FT := Turn.to_below FB.out (fin4_turn w2 (w.heap.size + 1) r.1) (fun i hi => by omega) FB.out.size
    revert F4 FT
    generalize Fin4 w2 (w.heap.size + 1) r.1 = wf
    intro F4 FT
    obtain ⟨e0, e1, e2, e3, -⟩ := qu_cells F4
    exact bodyPost_ret (v := .tuple #[quV r.1, .int .i64 r.2.1, .bool r.2.2]) (by simp [results, Try.results61, go_sem, quV, e0, e1, e2, e3]) rfl ⟨rfl, FT⟩
end Go.Proofs.Ytfdebadmikmnaaa
