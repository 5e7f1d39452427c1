/- Merged: OSet, OSplit, OHalf, OKey. -/
import Derived.Test.YtkmffmlnondolaaMD
import Derived.Deep.DeepCutAuto
import Derived.DeepKeys4
import Derived.Test.YtkmffmlnondolaaMB

/- Contracts of layer 4 (oper): how questions are settled. -/
namespace Go.Proofs.Ytkmffmlnondolaa
open Go.ChangeShapes Go.WideShapes Go.ChangeAt Go.RowKit Go.Maps

def quV (q : Qu) : Value := .agg #[.int .i64 q.kind, .int .i64 q.a, .int .i64 q.b, .int .i64 q.c]
def quO (q : Qu) : Obj := .cells #[.int .i64 q.kind, .int .i64 q.a, .int .i64 q.b, .int .i64 q.c] 123

def SetlOut (r : Qu × Nat × Bool) (w : World) (e : Ending) (w' : World) : Prop := e = .returned (.tuple #[quV r.1, .int .i64 r.2.1, .bool r.2.2]) ∧ Below w.heap.size w w'

/-- Where a walk of settling ends: the question's variable, and two results. -/
theorem SetlOut.mk {r q : Qu × Nat × Bool} {w w' : World} {e : Ending} (he : e = .returned (.tuple #[quV q.1, .int .i64 q.2.1, .bool q.2.2])) (hq : q = r) (hb : Below w.heap.size w w') : SetlOut r w e w' := by subst hq; exact ⟨he, hb⟩

set_option maxRecDepth 100000 in
set_option maxHeartbeats 3200000 in
theorem settleIte_any (a b c : Nat) (w : World) : Calls Try.prog 108 #[.int .i64 a, .int .i64 b, .int .i64 c] w (SetlOut (setIte a b c) w) := by
  have hfin : ∀ (k x y z : Nat), Below w.heap.size w (w.alloc (.cells #[.int .i64 k, .int .i64 x, .int .i64 y, .int .i64 z] 123)) := fun k x y z => (Below.refl _ _).alloc (Nat.le_refl _) _
  go_enter Try.func108, Try.ntmps108
  go_wp2
  all_goals
    simp only [beq_iff_eq, beq_eq_false_iff_ne, ne_eq] at *
  any_goals omega
  · refine bodyPost_ret (v := .tuple #[quV ⟨0, 0, 0, 0⟩, .int .i64 ((0 : Nat) : Int), .bool true]) ?_ rfl (SetlOut.mk (q := (⟨0, 0, 0, 0⟩, 0, true)) rfl ?_ (hfin 0 0 0 0))
    · simp [results, Try.results108, go_sem, quV]
    · grind [setIte, setIte2]
  · refine bodyPost_ret (v := .tuple #[quV ⟨0, 0, 0, 0⟩, .int .i64 ((1 : Nat) : Int), .bool true]) ?_ rfl (SetlOut.mk (q := (⟨0, 0, 0, 0⟩, 1, true)) rfl ?_ (hfin 0 0 0 0))
    · simp [results, Try.results108, go_sem, quV]
    · grind [setIte, setIte2]
  · refine bodyPost_ret (v := .tuple #[quV ⟨0, 0, 0, 0⟩, .int .i64 ((a : Nat) : Int), .bool true]) ?_ rfl (SetlOut.mk (q := (⟨0, 0, 0, 0⟩, a, true)) rfl ?_ (hfin 0 0 0 0))
    · simp [results, Try.results108, go_sem, quV]
    · grind [setIte, setIte2]
  · refine bodyPost_ret (v := .tuple #[quV ⟨0, 0, 0, 0⟩, .int .i64 ((c : Nat) : Int), .bool true]) ?_ rfl (SetlOut.mk (q := (⟨0, 0, 0, 0⟩, c, true)) rfl ?_ (hfin 0 0 0 0))
    · simp [results, Try.results108, go_sem, quV]
    · grind [setIte, setIte2]
  · refine bodyPost_ret (v := .tuple #[quV ⟨0, 0, 0, 0⟩, .int .i64 ((1 : Nat) : Int), .bool true]) ?_ rfl (SetlOut.mk (q := (⟨0, 0, 0, 0⟩, 1, true)) rfl ?_ (hfin 0 0 0 0))
    · simp [results, Try.results108, go_sem, quV]
    · grind [setIte, setIte2]
  · refine bodyPost_ret (v := .tuple #[quV ⟨0, 0, 0, 0⟩, .int .i64 ((1 : Nat) : Int), .bool true]) ?_ rfl (SetlOut.mk (q := (⟨0, 0, 0, 0⟩, 1, true)) rfl ?_ (hfin 0 0 0 0))
    · simp [results, Try.results108, go_sem, quV]
    · grind [setIte, setIte2]
  · refine bodyPost_ret (v := .tuple #[quV ⟨0, 0, 0, 0⟩, .int .i64 ((a : Nat) : Int), .bool true]) ?_ rfl (SetlOut.mk (q := (⟨0, 0, 0, 0⟩, a, true)) rfl ?_ (hfin 0 0 0 0))
    · simp [results, Try.results108, go_sem, quV]
    · grind [setIte, setIte2]
  · refine bodyPost_ret (v := .tuple #[quV ⟨0, c, 1, a⟩, .int .i64 ((0 : Nat) : Int), .bool false]) ?_ rfl (SetlOut.mk (q := (⟨0, c, 1, a⟩, 0, false)) rfl ?_ (hfin 0 c 1 a))
    · simp [results, Try.results108, go_sem, quV]
    · grind [setIte, setIte2]
  · refine bodyPost_ret (v := .tuple #[quV ⟨0, a, 1, c⟩, .int .i64 ((0 : Nat) : Int), .bool false]) ?_ rfl (SetlOut.mk (q := (⟨0, a, 1, c⟩, 0, false)) rfl ?_ (hfin 0 a 1 c))
    · simp [results, Try.results108, go_sem, quV]
    · grind [setIte, setIte2]
  · refine bodyPost_ret (v := .tuple #[quV ⟨0, 0, 0, 0⟩, .int .i64 ((0 : Nat) : Int), .bool true]) ?_ rfl (SetlOut.mk (q := (⟨0, 0, 0, 0⟩, 0, true)) rfl ?_ (hfin 0 0 0 0))
    · simp [results, Try.results108, go_sem, quV]
    · grind [setIte, setIte2]
  · refine bodyPost_ret (v := .tuple #[quV ⟨0, 0, 0, 0⟩, .int .i64 ((b : Nat) : Int), .bool true]) ?_ rfl (SetlOut.mk (q := (⟨0, 0, 0, 0⟩, b, true)) rfl ?_ (hfin 0 0 0 0))
    · simp [results, Try.results108, go_sem, quV]
    · grind [setIte, setIte2]
  · refine bodyPost_ret (v := .tuple #[quV ⟨0, 0, 0, 0⟩, .int .i64 ((b : Nat) : Int), .bool true]) ?_ rfl (SetlOut.mk (q := (⟨0, 0, 0, 0⟩, b, true)) rfl ?_ (hfin 0 0 0 0))
    · simp [results, Try.results108, go_sem, quV]
    · grind [setIte, setIte2]
  · refine bodyPost_ret (v := .tuple #[quV ⟨0, 0, 0, 0⟩, .int .i64 ((a : Nat) : Int), .bool true]) ?_ rfl (SetlOut.mk (q := (⟨0, 0, 0, 0⟩, a, true)) rfl ?_ (hfin 0 0 0 0))
    · simp [results, Try.results108, go_sem, quV]
    · grind [setIte, setIte2]
  · refine bodyPost_ret (v := .tuple #[quV ⟨0, b, a, 0⟩, .int .i64 ((0 : Nat) : Int), .bool false]) ?_ rfl (SetlOut.mk (q := (⟨0, b, a, 0⟩, 0, false)) rfl ?_ (hfin 0 b a 0))
    · simp [results, Try.results108, go_sem, quV]
    · grind [setIte, setIte2]
  · refine bodyPost_ret (v := .tuple #[quV ⟨0, a, b, 0⟩, .int .i64 ((0 : Nat) : Int), .bool false]) ?_ rfl (SetlOut.mk (q := (⟨0, a, b, 0⟩, 0, false)) rfl ?_ (hfin 0 a b 0))
    · simp [results, Try.results108, go_sem, quV]
    · grind [setIte, setIte2]
  · refine bodyPost_ret (v := .tuple #[quV ⟨0, 0, 0, 0⟩, .int .i64 ((c : Nat) : Int), .bool true]) ?_ rfl (SetlOut.mk (q := (⟨0, 0, 0, 0⟩, c, true)) rfl ?_ (hfin 0 0 0 0))
    · simp [results, Try.results108, go_sem, quV]
    · grind [setIte, setIte2]
  · refine bodyPost_ret (v := .tuple #[quV ⟨0, 0, 0, 0⟩, .int .i64 ((b : Nat) : Int), .bool true]) ?_ rfl (SetlOut.mk (q := (⟨0, 0, 0, 0⟩, b, true)) rfl ?_ (hfin 0 0 0 0))
    · simp [results, Try.results108, go_sem, quV]
    · grind [setIte, setIte2]
  · refine bodyPost_ret (v := .tuple #[quV ⟨0, 0, 0, 0⟩, .int .i64 ((b : Nat) : Int), .bool true]) ?_ rfl (SetlOut.mk (q := (⟨0, 0, 0, 0⟩, b, true)) rfl ?_ (hfin 0 0 0 0))
    · simp [results, Try.results108, go_sem, quV]
    · grind [setIte, setIte2]
  · refine bodyPost_ret (v := .tuple #[quV ⟨0, 0, 0, 0⟩, .int .i64 ((a : Nat) : Int), .bool true]) ?_ rfl (SetlOut.mk (q := (⟨0, 0, 0, 0⟩, a, true)) rfl ?_ (hfin 0 0 0 0))
    · simp [results, Try.results108, go_sem, quV]
    · grind [setIte, setIte2]
  · refine bodyPost_ret (v := .tuple #[quV ⟨0, c, 1, a⟩, .int .i64 ((0 : Nat) : Int), .bool false]) ?_ rfl (SetlOut.mk (q := (⟨0, c, 1, a⟩, 0, false)) rfl ?_ (hfin 0 c 1 a))
    · simp [results, Try.results108, go_sem, quV]
    · grind [setIte, setIte2]
  · refine bodyPost_ret (v := .tuple #[quV ⟨0, a, 1, c⟩, .int .i64 ((0 : Nat) : Int), .bool false]) ?_ rfl (SetlOut.mk (q := (⟨0, a, 1, c⟩, 0, false)) rfl ?_ (hfin 0 a 1 c))
    · simp [results, Try.results108, go_sem, quV]
    · grind [setIte, setIte2]
  · refine bodyPost_ret (v := .tuple #[quV ⟨0, b, a, c⟩, .int .i64 ((0 : Nat) : Int), .bool false]) ?_ rfl (SetlOut.mk (q := (⟨0, b, a, c⟩, 0, false)) rfl ?_ (hfin 0 b a c))
    · simp [results, Try.results108, go_sem, quV]
    · grind [setIte, setIte2]
  · refine bodyPost_ret (v := .tuple #[quV ⟨0, a, b, c⟩, .int .i64 ((0 : Nat) : Int), .bool false]) ?_ rfl (SetlOut.mk (q := (⟨0, a, b, c⟩, 0, false)) rfl ?_ (hfin 0 a b c))
    · simp [results, Try.results108, go_sem, quV]
    · grind [setIte, setIte2]
  · refine bodyPost_ret (v := .tuple #[quV ⟨0, a, b, c⟩, .int .i64 ((0 : Nat) : Int), .bool false]) ?_ rfl (SetlOut.mk (q := (⟨0, a, b, c⟩, 0, false)) rfl ?_ (hfin 0 a b c))
    · simp [results, Try.results108, go_sem, quV]
    · grind [setIte, setIte2]

set_option maxRecDepth 100000 in
set_option maxHeartbeats 3200000 in
theorem settleXor_any (a b : Nat) (w : World) : Calls Try.prog 107 #[.int .i64 a, .int .i64 b] w (SetlOut (setXor a b) w) := by
  have hfin : ∀ (k x y z : Nat), Below w.heap.size w (w.alloc (.cells #[.int .i64 k, .int .i64 x, .int .i64 y, .int .i64 z] 123)) := fun k x y z => (Below.refl _ _).alloc (Nat.le_refl _) _
  go_enter Try.func107, Try.ntmps107
  go_wp2
  all_goals
    simp only [beq_iff_eq, beq_eq_false_iff_ne, ne_eq] at *
  any_goals omega
  · refine bodyPost_ret (v := .tuple #[quV ⟨0, 0, 0, 0⟩, .int .i64 ((0 : Nat) : Int), .bool true]) ?_ rfl (SetlOut.mk (q := (⟨0, 0, 0, 0⟩, 0, true)) rfl ?_ (hfin 0 0 0 0))
    · simp [results, Try.results107, go_sem, quV]
    · grind [setXor, setXor2]
  · refine bodyPost_ret (v := .tuple #[quV ⟨0, 0, 0, 0⟩, .int .i64 ((a : Nat) : Int), .bool true]) ?_ rfl (SetlOut.mk (q := (⟨0, 0, 0, 0⟩, a, true)) rfl ?_ (hfin 0 0 0 0))
    · simp [results, Try.results107, go_sem, quV]
    · grind [setXor, setXor2]
  · refine bodyPost_ret (v := .tuple #[quV ⟨0, 0, 0, 0⟩, .int .i64 ((b : Nat) : Int), .bool true]) ?_ rfl (SetlOut.mk (q := (⟨0, 0, 0, 0⟩, b, true)) rfl ?_ (hfin 0 0 0 0))
    · simp [results, Try.results107, go_sem, quV]
    · grind [setXor, setXor2]
  · refine bodyPost_ret (v := .tuple #[quV ⟨0, a, 0, 1⟩, .int .i64 ((0 : Nat) : Int), .bool false]) ?_ rfl (SetlOut.mk (q := (⟨0, a, 0, 1⟩, 0, false)) rfl ?_ (hfin 0 a 0 1))
    · simp [results, Try.results107, go_sem, quV]
    · grind [setXor, setXor2]
  · refine bodyPost_ret (v := .tuple #[quV ⟨0, b, 0, 1⟩, .int .i64 ((0 : Nat) : Int), .bool false]) ?_ rfl (SetlOut.mk (q := (⟨0, b, 0, 1⟩, 0, false)) rfl ?_ (hfin 0 b 0 1))
    · simp [results, Try.results107, go_sem, quV]
    · grind [setXor, setXor2]
  · refine bodyPost_ret (v := .tuple #[quV ⟨1, b, a, 0⟩, .int .i64 ((0 : Nat) : Int), .bool false]) ?_ rfl (SetlOut.mk (q := (⟨1, b, a, 0⟩, 0, false)) rfl ?_ (hfin 1 b a 0))
    · simp [results, Try.results107, go_sem, quV]
    · grind [setXor, setXor2]
  · refine bodyPost_ret (v := .tuple #[quV ⟨1, a, b, 0⟩, .int .i64 ((0 : Nat) : Int), .bool false]) ?_ rfl (SetlOut.mk (q := (⟨1, a, b, 0⟩, 0, false)) rfl ?_ (hfin 1 a b 0))
    · simp [results, Try.results107, go_sem, quV]
    · grind [setXor, setXor2]
end Go.Proofs.Ytkmffmlnondolaa

/- Contracts of layer 4 (oper): a question settled; its variables in memory. -/
namespace Go.Proofs.Ytkmffmlnondolaa
open Go.ChangeShapes Go.WideShapes Go.ChangeAt Go.RowKit Go.Maps

/-- Four cells of a question's variable are written. -/
def Fin4 (w : World) (b : Nat) (q : Qu) : World :=
  ((((w.setCell ⟨b, 0, none⟩ (.int .i64 q.kind)).setCell ⟨b, 1, none⟩ (.int .i64 q.a)).setCell ⟨b, 2, none⟩ (.int .i64 q.b)).setCell ⟨b, 3, none⟩ (.int .i64 q.c))

theorem fin4 {w : World} {b : Nat} {p q : Qu} (h0 : w.heap[b]? = some (quO p)) : (Fin4 w b q).heap[b]? = some (quO q) := by
  unfold quO at h0
  have h1 := heap_setCell_same _ _ 0 _ _ (.int .i64 q.kind) h0
  have h2 := heap_setCell_same _ _ 1 _ _ (.int .i64 q.a) h1
  have h3 := heap_setCell_same _ _ 2 _ _ (.int .i64 q.b) h2
  have h4 := heap_setCell_same _ _ 3 _ _ (.int .i64 q.c) h3
  exact h4

theorem fin4_turn (w : World) (b : Nat) (q : Qu) : Turn (fun i => i = b) w (Fin4 w b q) := by
  unfold Fin4
  exact (((((Turn.refl (fun i => i = b) w).setCell (p := ⟨b, 0, none⟩) (.inl rfl) _).setCell (p := ⟨b, 1, none⟩) (.inl rfl) _).setCell (p := ⟨b, 2, none⟩) (.inl rfl) _).setCell (p := ⟨b, 3, none⟩) (.inl rfl) _)

/-- A question's variable: its cells. -/
theorem qu_cells {w : World} {b : Nat} {q : Qu} (h : w.heap[b]? = some (quO q)) :
    w.cell? ⟨b, 0, none⟩ = some (.int .i64 q.kind) ∧ w.cell? ⟨b, 1, none⟩ = some (.int .i64 q.a) ∧ w.cell? ⟨b, 2, none⟩ = some (.int .i64 q.b) ∧ w.cell? ⟨b, 3, none⟩ = some (.int .i64 q.c) ∧ ∀ o, w.frozen? ⟨b, o, none⟩ = false :=
  ⟨cell_of_row w b 0 _ _ _ h, cell_of_row w b 1 _ _ _ h, cell_of_row w b 2 _ _ _ h, cell_of_row w b 3 _ _ _ h, fun o => frozen_of_row w b o _ _ h⟩

theorem row_lt {w : World} {b : Nat} {o : Obj} (h : w.heap[b]? = some o) : b < w.heap.size := (Array.getElem?_eq_some_iff.1 h).1

theorem settle_any (q : Qu) (hk : q.kind < 2) (w : World) : Calls Try.prog 82 #[quV q] w (SetlOut (settleQ q) w) := by
  obtain ⟨kd, a, b, c⟩ := q
  have BW := Lib.hid (((Below.refl w.heap.size w).alloc (Nat.le_refl _) (quO ⟨kd, a, b, c⟩)).alloc (by simp) (quO ⟨0, 0, 0, 0⟩))
  have HN := heap_alloc_new (w.alloc (quO ⟨kd, a, b, c⟩)) (quO ⟨0, 0, 0, 0⟩)
  have HZ : (w.alloc (quO ⟨kd, a, b, c⟩)).heap.size = w.heap.size + 1 := by simp
  rw [HZ] at HN
  have HN := Lib.hid HN
  have HZ := Lib.hid HZ
  have hk : kd < 2 := hk
  rcases (by omega : kd = 1 ∨ kd = 0) with rfl | rfl
  · have HX := Lib.hid (fun u => settleXor_any a b u)
    have e : settleQ ⟨1, a, b, c⟩ = setXor a b := rfl
    rw [e]
    clear hk e
    generalize setXor a b = r at HX
    change Calls Try.prog 82 #[.agg #[.int .i64 1, .int .i64 a, .int .i64 b, .int .i64 c]] w _
    go_enter Try.func82, Try.ntmps82
    go_wp2_with fail
    refine (HX.out _).mono ?_
    rintro e w2 ⟨rfl, hb2⟩
    have Z2 : w2.heap[w.heap.size + 1]? = some (quO ⟨0, 0, 0, 0⟩) := (hb2.block _ (row_lt HN.out)).trans HN.out
    have FB := Lib.hid (BW.out.trans (hb2.mono BW.out.size))
    obtain ⟨z0, z1, z2, z3, zf⟩ := qu_cells Z2
    have ZZ := Lib.hid Z2
    clear Z2 hb2 HN BW HX HZ
    unfold quV
    go_wp2_with fail
    clear z0 z1 z2 z3 zf
    change bodyPost _ _ _ _ _ (Fin4 w2 (w.heap.size + 1) r.1)
    have F4 := fin4 (q := r.1) ZZ.out
    have FT := Turn.to_below FB.out (fin4_turn w2 (w.heap.size + 1) r.1) (fun i hi => by omega) FB.out.size
    revert F4 FT
    generalize Fin4 w2 (w.heap.size + 1) r.1 = wf
    intro F4 FT
    obtain ⟨e0, e1, e2, e3, -⟩ := qu_cells F4
    exact bodyPost_ret (v := .tuple #[quV r.1, .int .i64 r.2.1, .bool r.2.2]) (by simp [results, Try.results82, go_sem, quV, e0, e1, e2, e3]) rfl ⟨rfl, FT⟩
  · have HX := Lib.hid (fun u => settleIte_any a b c u)
    have e : settleQ ⟨0, a, b, c⟩ = setIte a b c := rfl
    rw [e]
    clear hk e
    generalize setIte a b c = r at HX
    change Calls Try.prog 82 #[.agg #[.int .i64 0, .int .i64 a, .int .i64 b, .int .i64 c]] w _
    go_enter Try.func82, Try.ntmps82
    go_wp2_with fail
    refine (HX.out _).mono ?_
    rintro e w2 ⟨rfl, hb2⟩
    have Z2 : w2.heap[w.heap.size + 1]? = some (quO ⟨0, 0, 0, 0⟩) := (hb2.block _ (row_lt HN.out)).trans HN.out
    have FB := Lib.hid (BW.out.trans (hb2.mono BW.out.size))
    obtain ⟨z0, z1, z2, z3, zf⟩ := qu_cells Z2
    have ZZ := Lib.hid Z2
    clear Z2 hb2 HN BW HX HZ
    unfold quV
    go_wp2_with fail
    clear z0 z1 z2 z3 zf
    change bodyPost _ _ _ _ _ (Fin4 w2 (w.heap.size + 1) r.1)
    have F4 := fin4 (q := r.1) ZZ.out
    have FT := Turn.to_below FB.out (fin4_turn w2 (w.heap.size + 1) r.1) (fun i hi => by omega) FB.out.size
    revert F4 FT
    generalize Fin4 w2 (w.heap.size + 1) r.1 = wf
    intro F4 FT
    obtain ⟨e0, e1, e2, e3, -⟩ := qu_cells F4
    exact bodyPost_ret (v := .tuple #[quV r.1, .int .i64 r.2.1, .bool r.2.2]) (by simp [results, Try.results82, go_sem, quV, e0, e1, e2, e3]) rfl ⟨rfl, FT⟩
end Go.Proofs.Ytkmffmlnondolaa

/- Contracts of layer 4 (oper): a question split by its first variable. -/
namespace Go.Proofs.Ytkmffmlnondolaa
open Go.ChangeShapes Go.WideShapes Go.ChangeAt Go.RowKit Go.Maps

def setQ (i : Nat) (q : Qu) (k : Nat) : Qu := match i with | 0 => ⟨q.kind, k, q.b, q.c⟩ | 1 => ⟨q.kind, q.a, k, q.c⟩ | _ => ⟨q.kind, q.a, q.b, k⟩
def kAt (q : Qu) (i : Nat) : Nat := match i with | 0 => q.a | 1 => q.b | _ => q.c
def vAt (V : Nat) (cs : List Nd) (q : Qu) (i : Nat) : Int := match i with | 0 => V | 1 => min (V : Int) (nd cs q.a).asks | 2 => min (min (V : Int) (nd cs q.a).asks) (nd cs q.b).asks | _ => splitV V cs q
def hAt (x : Bool) (V : Nat) (cs : List Nd) (q : Qu) (i : Nat) : Qu := match i with
  | 0 => q
  | 1 => ⟨q.kind, part x (vAt V cs q 1) cs q.a, q.b, q.c⟩
  | 2 => ⟨q.kind, part x (vAt V cs q 2) cs q.a, part x (vAt V cs q 2) cs q.b, q.c⟩
  | _ => half x (splitV V cs q) cs q

theorem part_off {x : Bool} {v : Int} {cs : List Nd} {k : Nat} (h : (nd cs k).asks ≠ v) : part x v cs k = k := by unfold part; rw [if_neg h]
theorem part_on {x : Bool} {v : Int} {cs : List Nd} {k : Nat} (h : (nd cs k).asks = v) : part x v cs k = if x then (nd cs k).high else (nd cs k).low := by unfold part; rw [if_pos h]

section
variable {V : Nat} {cs : List Nd} {q : Qu} (x : Bool)
theorem step_lt {i : Nat} (hi : i < 3) (h : (nd cs (kAt q i)).asks < vAt V cs q i) : vAt V cs q (i + 1) = (nd cs (kAt q i)).asks ∧ hAt x V cs q (i + 1) = setQ i q (if x then (nd cs (kAt q i)).high else (nd cs (kAt q i)).low) := by
  match i, hi, h with
  | 0, _, h =>
    have h : (nd cs q.a).asks < (V : Int) := h
    have e : vAt V cs q 1 = (nd cs q.a).asks := by show min _ _ = _; omega
    refine ⟨e, ?_⟩
    show (⟨_, part x (vAt V cs q 1) cs q.a, _, _⟩ : Qu) = _
    rw [e, part_on rfl]; rfl
  | 1, _, h =>
    have h : (nd cs q.b).asks < min (V : Int) (nd cs q.a).asks := h
    have e : vAt V cs q 2 = (nd cs q.b).asks := by show min _ _ = _; omega
    refine ⟨e, ?_⟩
    show (⟨_, part x (vAt V cs q 2) cs q.a, part x (vAt V cs q 2) cs q.b, _⟩ : Qu) = _
    rw [e, part_on rfl, part_off (by omega)]; rfl
  | 2, _, h =>
    have h : (nd cs q.c).asks < min (min (V : Int) (nd cs q.a).asks) (nd cs q.b).asks := h
    have e : splitV V cs q = (nd cs q.c).asks := by unfold splitV; omega
    refine ⟨e, ?_⟩
    show half x (splitV V cs q) cs q = _
    unfold half
    rw [e, part_on (k := q.c) rfl, part_off (k := q.a) (by omega), part_off (k := q.b) (by omega)]; rfl
theorem step_eq {i : Nat} (hi : i < 3) (h : (nd cs (kAt q i)).asks = vAt V cs q i) : vAt V cs q (i + 1) = vAt V cs q i ∧ hAt x V cs q (i + 1) = setQ i (hAt x V cs q i) (if x then (nd cs (kAt q i)).high else (nd cs (kAt q i)).low) := by
  match i, hi, h with
  | 0, _, h =>
    have h : (nd cs q.a).asks = (V : Int) := h
    have e : vAt V cs q 1 = V := by show min _ _ = _; omega
    refine ⟨e, ?_⟩
    show (⟨_, part x (vAt V cs q 1) cs q.a, _, _⟩ : Qu) = _
    rw [part_on (h.trans e.symm)]; rfl
  | 1, _, h =>
    have h : (nd cs q.b).asks = min (V : Int) (nd cs q.a).asks := h
    have e : vAt V cs q 2 = vAt V cs q 1 := by show min (min _ _) _ = min _ _; omega
    refine ⟨e, ?_⟩
    show (⟨_, part x (vAt V cs q 2) cs q.a, part x (vAt V cs q 2) cs q.b, _⟩ : Qu) = _
    rw [part_on (k := q.b) (v := vAt V cs q 2) (h.trans e.symm), e]; rfl
  | 2, _, h =>
    have h : (nd cs q.c).asks = min (min (V : Int) (nd cs q.a).asks) (nd cs q.b).asks := h
    have e : splitV V cs q = vAt V cs q 2 := by unfold splitV; show _ = min (min _ _) _; omega
    refine ⟨e, ?_⟩
    show half x (splitV V cs q) cs q = _
    unfold half
    rw [part_on (k := q.c) (v := splitV V cs q) (h.trans e.symm), e]; rfl
theorem step_gt {i : Nat} (hi : i < 3) (h : vAt V cs q i < (nd cs (kAt q i)).asks) : vAt V cs q (i + 1) = vAt V cs q i ∧ hAt x V cs q (i + 1) = hAt x V cs q i := by
  match i, hi, h with
  | 0, _, h =>
    have h : (V : Int) < (nd cs q.a).asks := h
    have e : vAt V cs q 1 = V := by show min _ _ = _; omega
    refine ⟨e, ?_⟩
    show (⟨_, part x (vAt V cs q 1) cs q.a, _, _⟩ : Qu) = _
    rw [part_off (by omega)]; rfl
  | 1, _, h =>
    have h : min (V : Int) (nd cs q.a).asks < (nd cs q.b).asks := h
    have e : vAt V cs q 2 = vAt V cs q 1 := by show min (min _ _) _ = min _ _; omega
    have e' : vAt V cs q 1 = min (V : Int) (nd cs q.a).asks := rfl
    refine ⟨e, ?_⟩
    show (⟨_, part x (vAt V cs q 2) cs q.a, part x (vAt V cs q 2) cs q.b, _⟩ : Qu) = _
    rw [part_off (k := q.b) (by omega), e]; rfl
  | 2, _, h =>
    have h : min (min (V : Int) (nd cs q.a).asks) (nd cs q.b).asks < (nd cs q.c).asks := h
    have e : splitV V cs q = vAt V cs q 2 := by unfold splitV; show _ = min (min _ _) _; omega
    have e' : vAt V cs q 2 = min (min (V : Int) (nd cs q.a).asks) (nd cs q.b).asks := rfl
    refine ⟨e, ?_⟩
    show half x (splitV V cs q) cs q = _
    unfold half
    rw [part_off (k := q.c) (by omega), e]; rfl
end

/-- The three variables of split. -/
structure SplW (w0 : World) (bq bf bt : Nat) (q qf qt : Qu) (w : World) : Prop where
  q : w.heap[bq]? = some (quO q)
  f : w.heap[bf]? = some (quO qf)
  t : w.heap[bt]? = some (quO qt)
  below : Below w0.heap.size w0 w

section
variable {w0 w : World} {bq bf bt : Nat} {q qf qt : Qu}
theorem SplW.drew (h : SplW w0 bq bf bt q qf qt w) : SplW w0 bq bf bt q qf qt w.drew := ⟨h.q, h.f, h.t, h.below.trans ((below_drew w).mono h.below.size)⟩
theorem SplW.drewN (h : SplW w0 bq bf bt q qf qt w) (n : Nat) : SplW w0 bq bf bt q qf qt (w.drewN n) := ⟨h.q, h.f, h.t, h.below.trans ((below_drewN0 w n).mono h.below.size)⟩
theorem SplW.turnF (h : SplW w0 bq bf bt q qf qt w) {w' : World} {p : Qu} (h0 : w0.heap.size ≤ bf) (h1 : bq ≠ bf) (h2 : bt ≠ bf) (ht : Turn (fun i => i = bf) w w') (hp : w'.heap[bf]? = some (quO p)) : SplW w0 bq bf bt q p qt w' :=
  ⟨(ht.block _ (row_lt h.q) h1).trans h.q, hp, (ht.block _ (row_lt h.t) h2).trans h.t, Turn.to_below h.below ht (fun i hi => by omega) h.below.size⟩
theorem SplW.turnT (h : SplW w0 bq bf bt q qf qt w) {w' : World} {p : Qu} (h0 : w0.heap.size ≤ bt) (h1 : bq ≠ bt) (h2 : bf ≠ bt) (ht : Turn (fun i => i = bt) w w') (hp : w'.heap[bt]? = some (quO p)) : SplW w0 bq bf bt q qf p w' :=
  ⟨(ht.block _ (row_lt h.q) h1).trans h.q, (ht.block _ (row_lt h.f) h2).trans h.f, hp, Turn.to_below h.below ht (fun i hi => by omega) h.below.size⟩
theorem SplW.fins (h : SplW w0 bq bf bt q qf qt w) (h0 : w0.heap.size ≤ bq) (h1 : bq < bf) (h2 : bf < bt) : SplW w0 bq bf bt q q q (Fin4 (Fin4 w bf q) bt q) := by
  have a := h.turnF (by omega) (by omega) (by omega) (fin4_turn w bf q) (fin4 h.f)
  exact a.turnT (by omega) (by omega) (by omega) (fin4_turn _ bt q) (fin4 a.t)
theorem SplW.self (h : SplW w0 bq bf bt q qf qt w) (h0 : w0.heap.size ≤ bq) (h1 : bq < bf) (h2 : bf < bt) : SplW w0 bq bf bt q qf qt (Fin4 (Fin4 w bf qf) bt qt) := by
  have a := h.turnF (by omega) (by omega) (by omega) (fin4_turn w bf qf) (fin4 h.f)
  exact a.turnT (by omega) (by omega) (by omega) (fin4_turn _ bt qt) (fin4 a.t)
theorem set_qu {b i : Nat} (hi : i < 3) (h : w.heap[b]? = some (quO q)) (k : Nat) : (w.setCell ⟨b, i + 1, none⟩ (.int .i64 k)).heap[b]? = some (quO (setQ i q k)) := by
  have := heap_setCell_same _ _ (i + 1) _ _ (.int .i64 (k : Int)) h
  match i, hi with
  | 0, _ => exact this
  | 1, _ => exact this
  | 2, _ => exact this
theorem SplW.sets (h : SplW w0 bq bf bt q qf qt w) (h0 : w0.heap.size ≤ bq) (h1 : bq < bf) (h2 : bf < bt) {i : Nat} (hi : i < 3) (k j : Nat) : SplW w0 bq bf bt q (setQ i qf k) (setQ i qt j) ((w.setCell ⟨bf, i + 1, none⟩ (.int .i64 k)).setCell ⟨bt, i + 1, none⟩ (.int .i64 j)) := by
  have a := h.turnF (by omega) (by omega) (by omega) ((Turn.refl (fun i => i = bf) w).setCell (p := ⟨bf, i + 1, none⟩) (.inl rfl) (.int .i64 k)) (set_qu hi h.f k)
  exact a.turnT (by omega) (by omega) (by omega) ((Turn.refl (fun i => i = bt) _).setCell (p := ⟨bt, i + 1, none⟩) (.inl rfl) (.int .i64 j)) (set_qu hi a.t j)
end

theorem idx0 (x y z : Value) (w : World) : (Instr.index 75 (.agg #[x, y, z]) (.int .i64 0)).run Try.prog w = .ok x w := by kernel_rfl
theorem idx1 (x y z : Value) (w : World) : (Instr.index 75 (.agg #[x, y, z]) (.int .i64 1)).run Try.prog w = .ok y w := by kernel_rfl
theorem idx2 (x y z : Value) (w : World) : (Instr.index 75 (.agg #[x, y, z]) (.int .i64 2)).run Try.prog w = .ok z w := by kernel_rfl

def SplOut (V : Nat) (cs : List Nd) (q : Qu) (w : World) (e : Ending) (w' : World) : Prop :=
  e = .returned (.tuple #[.int .i64 (splitV V cs q), quV (half false (splitV V cs q) cs q), quV (half true (splitV V cs q) cs q)]) ∧ Below w.heap.size w w'

set_option maxRecDepth 100000 in
set_option maxHeartbeats 4000000 in
theorem split_any {w : World} {m : Mem} {h : Hd} {cs : List Nd} (s : St w m h cs) {o : Nat} {d x : Int} {mp : Option Nat} {sw : Int} (ha : OpsAt w o m.s d x mp sw) {u : Int} {q : Qu} (hq : QAt cs u q) :
    Calls Try.prog 83 #[.pointer (some ⟨o, 0, none⟩), quV q] w (SplOut h.V cs q w) := by
  have b3 := ((((Below.refl w.heap.size w).alloc (Nat.le_refl _) (quO q)).alloc (by simp) (.cells #[.int .i64 0, .int .i64 0, .int .i64 0, .int .i64 0] 123)).alloc (by simp; omega) (.cells #[.int .i64 0, .int .i64 0, .int .i64 0, .int .i64 0] 123))
  have hq0 := heap_alloc_new w (quO q)
  have hf0 := heap_alloc_new (w.alloc (quO q)) (.cells #[.int .i64 0, .int .i64 0, .int .i64 0, .int .i64 0] 123)
  have ht0 := heap_alloc_new ((w.alloc (quO q)).alloc (.cells #[.int .i64 0, .int .i64 0, .int .i64 0, .int .i64 0] 123)) (.cells #[.int .i64 0, .int .i64 0, .int .i64 0, .int .i64 0] 123)
  have z1 : (w.alloc (quO q)).heap.size = w.heap.size + 1 := by simp
  have z2 : ((w.alloc (quO q)).alloc (.cells #[.int .i64 0, .int .i64 0, .int .i64 0, .int .i64 0] 123)).heap.size = w.heap.size + 1 + 1 := by simp
  have S0 : SplW w w.heap.size (w.heap.size + 1) (w.heap.size + 1 + 1) q ⟨0, 0, 0, 0⟩ ⟨0, 0, 0, 0⟩ (((w.alloc (quO q)).alloc (.cells #[.int .i64 0, .int .i64 0, .int .i64 0, .int .i64 0] 123)).alloc (.cells #[.int .i64 0, .int .i64 0, .int .i64 0, .int .i64 0] 123)) := by
    refine ⟨?_, ?_, ?_, b3⟩
    · rw [Below.heap_alloc _ _ _ (by rw [z2]; omega), Below.heap_alloc _ _ _ (by rw [z1]; omega)]; exact hq0
    · rw [Below.heap_alloc _ _ _ (by rw [z2]; omega)]; rw [z1] at hf0; exact hf0
    · rw [z2] at ht0; exact ht0
  have S0 := Lib.hid S0
  have VR := Lib.hid fun (w' : World) (hb : Below w.heap.size w w') => vars_store (s.lay.keep hb)
  have NA := Lib.hid fun (w' : World) (hb : Below w.heap.size w w') => node_yes (s.lay.keep hb) hq.a.is.1
  have NB := Lib.hid fun (w' : World) (hb : Below w.heap.size w w') => node_yes (s.lay.keep hb) hq.b.is.1
  have NC := Lib.hid fun (w' : World) (hb : Below w.heap.size w w') => node_yes (s.lay.keep hb) hq.c.is.1
  have OC := Lib.hid fun (w' : World) (hb : Below w.heap.size w w') => (ha.keep hb).c1
  unfold ptrV at VR NA NB NC
  unfold quO at S0
  unfold quV
  clear ha hq b3 hq0 hf0 ht0 z1 z2 s
  go_enter Try.func83, Try.ntmps83
  go_wp2_with fail
  revert S0
  generalize ((w.alloc (.cells #[.int .i64 q.kind, .int .i64 q.a, .int .i64 q.b, .int .i64 q.c] 123)).alloc (.cells #[.int .i64 0, .int .i64 0, .int .i64 0, .int .i64 0] 123)).alloc (.cells #[.int .i64 0, .int .i64 0, .int .i64 0, .int .i64 0] 123) = w3
  generalize hbt : w.heap.size + 1 + 1 = bt
  generalize hbf : w.heap.size + 1 = bf
  generalize hbq : w.heap.size = bq
  have o0 : w.heap.size ≤ bq := by omega
  have o1 : bq < bf := by omega
  have o2 : bf < bt := by omega
  have n1 : ¬ bq = bf := by omega
  have n2 : ¬ bq = bt := by omega
  have n3 : ¬ bf = bt := by omega
  clear hbt hbf hbq
  intro S0
  go_cut [4] from 13 to 19 (fun v4 wx => v4 = .int .i64 h.V ∧ SplW w bq bf bt q q q wx)
  case first =>
    obtain ⟨c0, c1, c2, c3, cf⟩ := qu_cells S0.out.q
    obtain ⟨f0, f1, f2, f3, ff⟩ := qu_cells S0.out.f
    obtain ⟨t0, t1, t2, t3, tf⟩ := qu_cells S0.out.t
    have oc := OC.out _ S0.out.below
    go_region_with (go_at_call 44; refine (VR.out _ S0.out.drew.below).mono ?_; rintro e w' ⟨rfl, rfl⟩)
    all_goals
      go_wp2_with fail
      go_meet
      have HF := (S0.out.fins o0 o1 o2).drew
      unfold Fin4 at HF
      exact ⟨rfl, HF⟩
  case rest =>
    obtain ⟨rfl, sw1⟩ := hcut
    obtain ⟨c0, c1, c2, c3, cf⟩ := qu_cells sw1.q
    have S1 := Lib.hid sw1
    clear sw1 S0
    go_wp2_with fail
    have OC1 := OC
    go_loopw [4, 22] (fun v4 ix wr => ∃ i : Nat, i ≤ 3 ∧ ix = .int .i64 i ∧ v4 = .int .i64 (vAt h.V cs q i) ∧ SplW w bq bf bt q (hAt false h.V cs q i) (hAt true h.V cs q i) wr) (fun _ ix _ => 3 - (intOf ix).toNat)
    case atStart => exact ⟨0, by omega, rfl, rfl, S1.out⟩
    case round =>
      clear S1 c0 c1 c2 c3 cf
      obtain ⟨i, hi, rfl, rfl, sw1⟩ := hrel
      have oc := OC.out _ sw1.below
      rcases (by omega : i = 0 ∨ i = 1 ∨ i = 2 ∨ i = 3) with rfl | rfl | rfl | rfl
      · -- node 0
        have hix := idx0
        obtain ⟨c0, c1, c2, c3, cf⟩ := qu_cells sw1.q
        rcases Int.lt_trichotomy (nd cs q.a).asks (vAt h.V cs q 0) with h1 | h1 | h1
        · have A1 := Lib.hid (step_lt (q := q) false (i := 0) (by omega) h1)
          have A2 := Lib.hid (step_lt (q := q) true (i := 0) (by omega) h1)
          have SS := Lib.hid sw1
          go_wp2_with fail
          refine (NA.out _ SS.out.below).mono ?_
          rintro e w1 ⟨rfl, dn, rfl⟩
          clear c0 c1 c2 c3 cf sw1
          have S5 := Lib.hid (SS.out.drewN dn)
          revert S5
          generalize wr.drewN dn = w5
          intro S5
          obtain ⟨c0, c1, c2, c3, cf⟩ := qu_cells S5.out.q
          obtain ⟨f0, f1, f2, f3, ff⟩ := qu_cells S5.out.f
          obtain ⟨t0, t1, t2, t3, tf⟩ := qu_cells S5.out.t
          go_wp2_with fail
          go_region
          go_wp2_with fail
          go_round
          case rel =>
            have HF := ((S5.out.fins o0 o1 o2).sets o0 o1 o2 (i := 0) (by omega) (nd cs q.a).low (nd cs q.a).high).drew
            unfold Fin4 at HF
            exact ⟨1, by omega, rfl, by rw [A1.out.1]; rfl, by rw [A1.out.2, A2.out.2]; exact HF⟩
          case measure => simp [intOf]
        · have A1 := Lib.hid (step_eq (q := q) false (i := 0) (by omega) h1)
          have A2 := Lib.hid (step_eq (q := q) true (i := 0) (by omega) h1)
          have SS := Lib.hid sw1
          have h2 : ¬ (nd cs q.a).asks < vAt h.V cs q 0 := by omega
          have h3 : ((nd cs q.a).asks == vAt h.V cs q 0) = true := by simpa using h1
          clear h1
          go_wp2_with fail
          refine (NA.out _ SS.out.below).mono ?_
          rintro e w1 ⟨rfl, dn, rfl⟩
          clear c0 c1 c2 c3 cf sw1
          have S5 := Lib.hid (SS.out.drewN dn)
          revert S5
          generalize wr.drewN dn = w5
          intro S5
          obtain ⟨c0, c1, c2, c3, cf⟩ := qu_cells S5.out.q
          obtain ⟨f0, f1, f2, f3, ff⟩ := qu_cells S5.out.f
          obtain ⟨t0, t1, t2, t3, tf⟩ := qu_cells S5.out.t
          go_wp2_with fail
          go_round
          case rel =>
            have HF := S5.out.sets o0 o1 o2 (i := 0) (by omega) (nd cs q.a).low (nd cs q.a).high
            exact ⟨1, by omega, rfl, by rw [A1.out.1], by rw [A1.out.2, A2.out.2]; exact HF⟩
          case measure => simp [intOf]
        · have A1 := Lib.hid (step_gt (q := q) false (i := 0) (by omega) h1)
          have A2 := Lib.hid (step_gt (q := q) true (i := 0) (by omega) h1)
          have SS := Lib.hid sw1
          have h2 : ¬ (nd cs q.a).asks < vAt h.V cs q 0 := by omega
          have h3 : ((nd cs q.a).asks == vAt h.V cs q 0) = false := by simp; omega
          clear h1
          go_wp2_with fail
          refine (NA.out _ SS.out.below).mono ?_
          rintro e w1 ⟨rfl, dn, rfl⟩
          clear c0 c1 c2 c3 cf sw1
          have S5 := Lib.hid (SS.out.drewN dn)
          revert S5
          generalize wr.drewN dn = w5
          intro S5
          obtain ⟨c0, c1, c2, c3, cf⟩ := qu_cells S5.out.q
          obtain ⟨f0, f1, f2, f3, ff⟩ := qu_cells S5.out.f
          obtain ⟨t0, t1, t2, t3, tf⟩ := qu_cells S5.out.t
          go_wp2_with fail
          go_round
          case rel =>
            exact ⟨1, by omega, rfl, by rw [A1.out.1], by rw [A1.out.2, A2.out.2]; exact S5.out⟩
          case measure => simp [intOf]
      · -- node 1
        have hix := idx1
        obtain ⟨c0, c1, c2, c3, cf⟩ := qu_cells sw1.q
        rcases Int.lt_trichotomy (nd cs q.b).asks (vAt h.V cs q 1) with h1 | h1 | h1
        · have A1 := Lib.hid (step_lt (q := q) false (i := 1) (by omega) h1)
          have A2 := Lib.hid (step_lt (q := q) true (i := 1) (by omega) h1)
          have SS := Lib.hid sw1
          go_wp2_with fail
          refine (NB.out _ SS.out.below).mono ?_
          rintro e w1 ⟨rfl, dn, rfl⟩
          clear c0 c1 c2 c3 cf sw1
          have S5 := Lib.hid (SS.out.drewN dn)
          revert S5
          generalize wr.drewN dn = w5
          intro S5
          obtain ⟨c0, c1, c2, c3, cf⟩ := qu_cells S5.out.q
          obtain ⟨f0, f1, f2, f3, ff⟩ := qu_cells S5.out.f
          obtain ⟨t0, t1, t2, t3, tf⟩ := qu_cells S5.out.t
          go_wp2_with fail
          go_region
          go_wp2_with fail
          go_round
          case rel =>
            have HF := ((S5.out.fins o0 o1 o2).sets o0 o1 o2 (i := 1) (by omega) (nd cs q.b).low (nd cs q.b).high).drew
            unfold Fin4 at HF
            exact ⟨2, by omega, rfl, by rw [A1.out.1]; rfl, by rw [A1.out.2, A2.out.2]; exact HF⟩
          case measure => simp [intOf]
        · have A1 := Lib.hid (step_eq (q := q) false (i := 1) (by omega) h1)
          have A2 := Lib.hid (step_eq (q := q) true (i := 1) (by omega) h1)
          have SS := Lib.hid sw1
          have h2 : ¬ (nd cs q.b).asks < vAt h.V cs q 1 := by omega
          have h3 : ((nd cs q.b).asks == vAt h.V cs q 1) = true := by simpa using h1
          clear h1
          go_wp2_with fail
          refine (NB.out _ SS.out.below).mono ?_
          rintro e w1 ⟨rfl, dn, rfl⟩
          clear c0 c1 c2 c3 cf sw1
          have S5 := Lib.hid (SS.out.drewN dn)
          revert S5
          generalize wr.drewN dn = w5
          intro S5
          obtain ⟨c0, c1, c2, c3, cf⟩ := qu_cells S5.out.q
          obtain ⟨f0, f1, f2, f3, ff⟩ := qu_cells S5.out.f
          obtain ⟨t0, t1, t2, t3, tf⟩ := qu_cells S5.out.t
          go_wp2_with fail
          go_round
          case rel =>
            have HF := S5.out.sets o0 o1 o2 (i := 1) (by omega) (nd cs q.b).low (nd cs q.b).high
            exact ⟨2, by omega, rfl, by rw [A1.out.1], by rw [A1.out.2, A2.out.2]; exact HF⟩
          case measure => simp [intOf]
        · have A1 := Lib.hid (step_gt (q := q) false (i := 1) (by omega) h1)
          have A2 := Lib.hid (step_gt (q := q) true (i := 1) (by omega) h1)
          have SS := Lib.hid sw1
          have h2 : ¬ (nd cs q.b).asks < vAt h.V cs q 1 := by omega
          have h3 : ((nd cs q.b).asks == vAt h.V cs q 1) = false := by simp; omega
          clear h1
          go_wp2_with fail
          refine (NB.out _ SS.out.below).mono ?_
          rintro e w1 ⟨rfl, dn, rfl⟩
          clear c0 c1 c2 c3 cf sw1
          have S5 := Lib.hid (SS.out.drewN dn)
          revert S5
          generalize wr.drewN dn = w5
          intro S5
          obtain ⟨c0, c1, c2, c3, cf⟩ := qu_cells S5.out.q
          obtain ⟨f0, f1, f2, f3, ff⟩ := qu_cells S5.out.f
          obtain ⟨t0, t1, t2, t3, tf⟩ := qu_cells S5.out.t
          go_wp2_with fail
          go_round
          case rel =>
            exact ⟨2, by omega, rfl, by rw [A1.out.1], by rw [A1.out.2, A2.out.2]; exact S5.out⟩
          case measure => simp [intOf]
      · -- node 2
        have hix := idx2
        obtain ⟨c0, c1, c2, c3, cf⟩ := qu_cells sw1.q
        rcases Int.lt_trichotomy (nd cs q.c).asks (vAt h.V cs q 2) with h1 | h1 | h1
        · have A1 := Lib.hid (step_lt (q := q) false (i := 2) (by omega) h1)
          have A2 := Lib.hid (step_lt (q := q) true (i := 2) (by omega) h1)
          have SS := Lib.hid sw1
          go_wp2_with fail
          refine (NC.out _ SS.out.below).mono ?_
          rintro e w1 ⟨rfl, dn, rfl⟩
          clear c0 c1 c2 c3 cf sw1
          have S5 := Lib.hid (SS.out.drewN dn)
          revert S5
          generalize wr.drewN dn = w5
          intro S5
          obtain ⟨c0, c1, c2, c3, cf⟩ := qu_cells S5.out.q
          obtain ⟨f0, f1, f2, f3, ff⟩ := qu_cells S5.out.f
          obtain ⟨t0, t1, t2, t3, tf⟩ := qu_cells S5.out.t
          go_wp2_with fail
          go_region
          go_wp2_with fail
          go_round
          case rel =>
            have HF := ((S5.out.fins o0 o1 o2).sets o0 o1 o2 (i := 2) (by omega) (nd cs q.c).low (nd cs q.c).high).drew
            unfold Fin4 at HF
            exact ⟨3, by omega, rfl, by rw [A1.out.1]; rfl, by rw [A1.out.2, A2.out.2]; exact HF⟩
          case measure => simp [intOf]
        · have A1 := Lib.hid (step_eq (q := q) false (i := 2) (by omega) h1)
          have A2 := Lib.hid (step_eq (q := q) true (i := 2) (by omega) h1)
          have SS := Lib.hid sw1
          have h2 : ¬ (nd cs q.c).asks < vAt h.V cs q 2 := by omega
          have h3 : ((nd cs q.c).asks == vAt h.V cs q 2) = true := by simpa using h1
          clear h1
          go_wp2_with fail
          refine (NC.out _ SS.out.below).mono ?_
          rintro e w1 ⟨rfl, dn, rfl⟩
          clear c0 c1 c2 c3 cf sw1
          have S5 := Lib.hid (SS.out.drewN dn)
          revert S5
          generalize wr.drewN dn = w5
          intro S5
          obtain ⟨c0, c1, c2, c3, cf⟩ := qu_cells S5.out.q
          obtain ⟨f0, f1, f2, f3, ff⟩ := qu_cells S5.out.f
          obtain ⟨t0, t1, t2, t3, tf⟩ := qu_cells S5.out.t
          go_wp2_with fail
          go_round
          case rel =>
            have HF := S5.out.sets o0 o1 o2 (i := 2) (by omega) (nd cs q.c).low (nd cs q.c).high
            exact ⟨3, by omega, rfl, by rw [A1.out.1], by rw [A1.out.2, A2.out.2]; exact HF⟩
          case measure => simp [intOf]
        · have A1 := Lib.hid (step_gt (q := q) false (i := 2) (by omega) h1)
          have A2 := Lib.hid (step_gt (q := q) true (i := 2) (by omega) h1)
          have SS := Lib.hid sw1
          have h2 : ¬ (nd cs q.c).asks < vAt h.V cs q 2 := by omega
          have h3 : ((nd cs q.c).asks == vAt h.V cs q 2) = false := by simp; omega
          clear h1
          go_wp2_with fail
          refine (NC.out _ SS.out.below).mono ?_
          rintro e w1 ⟨rfl, dn, rfl⟩
          clear c0 c1 c2 c3 cf sw1
          have S5 := Lib.hid (SS.out.drewN dn)
          revert S5
          generalize wr.drewN dn = w5
          intro S5
          obtain ⟨c0, c1, c2, c3, cf⟩ := qu_cells S5.out.q
          obtain ⟨f0, f1, f2, f3, ff⟩ := qu_cells S5.out.f
          obtain ⟨t0, t1, t2, t3, tf⟩ := qu_cells S5.out.t
          go_wp2_with fail
          go_round
          case rel =>
            exact ⟨3, by omega, rfl, by rw [A1.out.1], by rw [A1.out.2, A2.out.2]; exact S5.out⟩
          case measure => simp [intOf]
      · have SS2 : SplW w bq bf bt q (half false (splitV h.V cs q) cs q) (half true (splitV h.V cs q) cs q) wr := sw1
        have ev : vAt h.V cs q 3 = splitV h.V cs q := rfl
        rw [ev]
        have S5 := Lib.hid SS2
        clear SS2 sw1 ev
        obtain ⟨qf, hqf⟩ : ∃ qf, qf = half false (splitV h.V cs q) cs q := ⟨_, rfl⟩
        obtain ⟨qt, hqt⟩ : ∃ qt, qt = half true (splitV h.V cs q) cs q := ⟨_, rfl⟩
        obtain ⟨vv, hvv⟩ : ∃ vv, vv = splitV h.V cs q := ⟨_, rfl⟩
        rw [← hqf, ← hqt] at S5
        rw [← hvv]
        have QF := Lib.hid hqf
        have QT := Lib.hid hqt
        have QV := Lib.hid hvv
        clear hqf hqt hvv
        obtain ⟨f0, f1, f2, f3, ff⟩ := qu_cells S5.out.f
        obtain ⟨t0, t1, t2, t3, tf⟩ := qu_cells S5.out.t
        go_wp2_with fail
        go_region
        go_wp2_with fail
        have HF := (S5.out.self o0 o1 o2).drew
        unfold Fin4 at HF
        clear f0 f1 f2 f3 ff t0 t1 t2 t3 tf
        revert HF
        generalize (((((((((wr.setCell ⟨bf, 0, none⟩ (.int .i64 qf.kind)).setCell ⟨bf, 1, none⟩ (.int .i64 qf.a)).setCell ⟨bf, 2, none⟩ (.int .i64 qf.b)).setCell ⟨bf, 3, none⟩ (.int .i64 qf.c)).setCell ⟨bt, 0, none⟩ (.int .i64 qt.kind)).setCell ⟨bt, 1, none⟩ (.int .i64 qt.a)).setCell ⟨bt, 2, none⟩ (.int .i64 qt.b)).setCell ⟨bt, 3, none⟩ (.int .i64 qt.c)).drew) = wf
        intro HF
        obtain ⟨f0, f1, f2, f3, -⟩ := qu_cells HF.f
        obtain ⟨t0, t1, t2, t3, -⟩ := qu_cells HF.t
        exact bodyPost_ret (v := .tuple #[.int .i64 vv, quV qf, quV qt]) (by simp [results, Try.results83, go_sem, quV, f0, f1, f2, f3, t0, t1, t2, t3]) rfl ⟨by rw [QF.out, QT.out, QV.out], HF.below⟩
end Go.Proofs.Ytkmffmlnondolaa

/- Layer 4 (oper): the cache: a map by questions, and what is known of it. -/
namespace Go.Proofs.Ytkmffmlnondolaa
open Go.ChangeShapes Go.WideShapes Go.ChangeAt Go.RowKit Go.Maps

set_option maxRecDepth 100000 in
theorem laidOutP : laidOutB Try.prog = true := by kernel_rfl
theorem rowQ : (123 : TypeId) < Try.prog.types.size := of_decide_eq_true (by kernel_rfl)
theorem wideQ : (match Try.prog.underlying 123 with | some (.array _ _) | some (.struct _) => true | _ => false) = true := by rw [Try.underlying123]
set_option maxRecDepth 100000 in
theorem lawQ : Keyed Try.prog 123 := Keyed.of_law (deep_law_laid laidOutP (m := 4) (by omega) rowQ (by kernel_rfl) wideQ)
set_option maxRecDepth 100000 in
theorem deepQ : Try.prog.keyType 123 = true := by kernel_rfl
theorem cellsQ : Try.prog.cellsOf 123 = 4 := by kernel_rfl
theorem cellsA : Try.prog.cellsOf 75 = 3 := by kernel_rfl
theorem cellsI : Try.prog.cellsOf 3 = 1 := by kernel_rfl
theorem cellsK : Try.prog.cellsOf 93 = 1 := by kernel_rfl
set_option maxRecDepth 100000 in
theorem deepE : ∃ d, Try.prog.types.size + 1 = d + 4 := ⟨Try.prog.types.size - 3, by have : 100 ≤ Try.prog.types.size := of_decide_eq_true (by kernel_rfl); omega⟩

def Fits (q : Qu) : Prop := q.kind < 2 ∧ q.a < 9223372036854775808 ∧ q.b < 9223372036854775808 ∧ q.c < 9223372036854775808

theorem kl_int {d : Nat} {t : TypeId} {n : Int} (hu : Try.prog.underlying t = some (.int .i64)) (hw : (Lit.int .i64 n).wf = true) : Try.prog.keyLits (d + 1) t [.int .i64 n] = some [.int .i64 n] := by
  unfold Program.keyLits
  rw [hu]
  simp [hw]

theorem kl_arr {d : Nat} {a b c : Int} (ha : (Lit.int .i64 a).wf = true) (hb : (Lit.int .i64 b).wf = true) (hc : (Lit.int .i64 c).wf = true) : Try.prog.keyLits (d + 2) 75 [.int .i64 a, .int .i64 b, .int .i64 c] = some [.int .i64 a, .int .i64 b, .int .i64 c] := by
  have la := kl_int (d := d) Try.underlying3 ha
  have lb := kl_int (d := d) Try.underlying3 hb
  have lc := kl_int (d := d) Try.underlying3 hc
  unfold Program.keyLits
  rw [Try.underlying75]
  simp [cellsA, cellsI, List.range_succ, List.range_zero, la, lb, lc]

theorem kl_q {d : Nat} {k a b c : Int} (hk : (Lit.int .i64 k).wf = true) (ha : (Lit.int .i64 a).wf = true) (hb : (Lit.int .i64 b).wf = true) (hc : (Lit.int .i64 c).wf = true) : Try.prog.keyLits (d + 3) 123 [.int .i64 k, .int .i64 a, .int .i64 b, .int .i64 c] = some [.int .i64 k, .int .i64 a, .int .i64 b, .int .i64 c] := by
  have lk := kl_int (d := d + 1) Try.underlying93 hk
  have la := kl_arr (d := d) ha hb hc
  unfold Program.keyLits
  rw [Try.underlying123]
  simp [cellsQ, cellsA, cellsK, lk, la]

set_option maxRecDepth 100000 in
theorem key_some {q : Qu} (h : Fits q) : ∃ l, keyOf Try.prog 123 (quV q) = some l := by
  obtain ⟨d, hd⟩ := deepE
  obtain ⟨h0, h1, h2, h3⟩ := h
  have w0 : (Lit.int .i64 (q.kind : Int)).wf = true := WalkArith.wf_i64 (by omega)
  have w1 : (Lit.int .i64 (q.a : Int)).wf = true := WalkArith.wf_i64 (by omega)
  have w2 : (Lit.int .i64 (q.b : Int)).wf = true := WalkArith.wf_i64 (by omega)
  have w3 : (Lit.int .i64 (q.c : Int)).wf = true := WalkArith.wf_i64 (by omega)
  have hl : Try.prog.keyLits (d + 4) 123 [.int .i64 q.kind, .int .i64 q.a, .int .i64 q.b, .int .i64 q.c] = some [.int .i64 q.kind, .int .i64 q.a, .int .i64 q.b, .int .i64 q.c] := kl_q (d := d + 1) w0 w1 w2 w3
  have hc : (quV q).cells.toList = [.int .i64 q.kind, .int .i64 q.a, .int .i64 q.b, .int .i64 q.c] := by simp [quV, Value.cells]
  have hf : (quV q).formed Try.prog 123 = true := by simp [quV, Value.formed, Try.underlying123, cellsQ]
  unfold keyOf
  rw [Try.underlying123]
  simp only [deepQ, hf, hd]
  refine ⟨.string (keyBytes [.int .i64 q.kind, .int .i64 q.a, .int .i64 q.b, .int .i64 q.c]), ?_⟩
  rw [hc]
  rw [hl]
  rfl

theorem key_inj {p q : Qu} {l : Lit} (hp : keyOf Try.prog 123 (quV p) = some l) (hq : keyOf Try.prog 123 (quV q) = some l) : p = q := by
  have h := lawQ.inj hp hq
  obtain ⟨k, a, b, c⟩ := p
  obtain ⟨k', a', b', c'⟩ := q
  simp only [quV, Value.agg.injEq, Array.mk.injEq, List.cons.injEq, Value.int.injEq, true_and, and_true] at h
  obtain ⟨h0, h1, h2, h3⟩ := h
  have h0 := Int.ofNat.inj h0
  have h1 := Int.ofNat.inj h1
  have h2 := Int.ofNat.inj h2
  have h3 := Int.ofNat.inj h3
  subst h0 h1 h2 h3
  rfl

/-- A map from questions to numbers. -/
abbrev CMap (w : World) (b n : Nat) (D : DataW Unit) : Prop := w.ownsMap Try.prog 123 (plainElem Try.prog 3) b n D

/-- What stands in the cache is told. -/
def CGood (V : Nat) (cs : List Nd) (D : DataW Unit) : Prop := ∀ (q : Qu) (l : Lit), keyOf Try.prog 123 (quV q) = some l → Maps.has D l = true → ∃ k : Nat, D.atKey l (.lit (.int .i64 0)) = .lit (.int .i64 (k : Int)) ∧ Told V cs q k

theorem CGood.empty (V : Nat) (cs : List Nd) : CGood V cs (.map []) := by
  intro q l _ h
  simp [Maps.has] at h

theorem CGood.ext {V : Nat} {cs cs' : List Nd} {D : DataW Unit} (h : CGood V cs D) (hx : Ext cs cs') (g : NGood V cs) (g' : NGood V cs') : CGood V cs' D := by
  intro q l hl hh
  obtain ⟨k, h1, h2⟩ := h q l hl hh
  exact ⟨k, h1, h2.ext hx g g'⟩

theorem CGood.put {V : Nat} {cs : List Nd} {D : DataW Unit} (h : CGood V cs D) (hm : Maps.IsMap D) {q : Qu} {l : Lit} (hl : keyOf Try.prog 123 (quV q) = some l) {k : Nat} (t : Told V cs q k) : CGood V cs (D.put l (.lit (.int .i64 (k : Int)))) := by
  intro p l' hl' hh
  by_cases e : l' = l
  · subst e
    obtain rfl := key_inj hl hl'
    exact ⟨k, Maps.atKey_put_same hm (lawQ.key hl) _ _, t⟩
  · rw [Maps.has_put_other e] at hh
    obtain ⟨j, h1, h2⟩ := h p l' hl' hh
    exact ⟨j, (Maps.atKey_put_other e _ _).trans h1, h2⟩

theorem CMap.tight {w : World} {b n : Nat} {D : DataW Unit} (h : CMap w b n D) : CMap w b (Maps.size D) D := by
  obtain ⟨es, clock, h1, h2, h3, rfl⟩ := h
  refine ⟨es, clock, h1, h2, ?_, rfl⟩
  rw [Maps.size_eq, length_read]
  exact Nat.le_refl _

theorem CMap.of {w w' : World} {b n : Nat} {D : DataW Unit} (h : CMap w b n D) (e : w'.heap[b]? = w.heap[b]?) : CMap w' b n D := by
  obtain ⟨es, clock, h1, h2⟩ := h
  exact ⟨es, clock, e.trans h1, h2⟩
theorem CMap.keep {w w' : World} {b n : Nat} {D : DataW Unit} (h : CMap w b n D) (hb : Below w.heap.size w w') : CMap w' b n D := h.of (hb.block _ h.lt)
theorem CMap.made {w : World} {b : Nat} (h : w.heap[b]? = some (.map #[] 0)) : CMap w b 0 (.map []) := by
  have := World.ownsMap_made (H := Unit) w Try.prog 123 (plainElem Try.prog 3)
  obtain ⟨es, clock, h1, h2⟩ := this
  rw [heap_alloc_new] at h1
  injection h1 with h1
  injection h1 with e1 e2
  subst e1 e2
  exact ⟨#[], 0, h, h2⟩
theorem CMap.not_cells {w : World} {b n : Nat} {D : DataW Unit} (h : CMap w b n D) {x : Array Value} {t : TypeId} {z : Nat × Nat} : w.heap[b]? ≠ some (.cells x t z) := by
  obtain ⟨es, clock, h1, _⟩ := h
  rw [h1]
  intro e
  cases e
end Go.Proofs.Ytkmffmlnondolaa
