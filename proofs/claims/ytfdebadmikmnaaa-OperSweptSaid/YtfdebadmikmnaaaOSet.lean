/- Contracts of layer 4 (oper): how questions are settled. -/
import Derived.Test.YtfdebadmikmnaaaOPlain
namespace Go.Proofs.Ytfdebadmikmnaaa
open Go.ChangeShapes Go.WideShapes Go.ChangeAt Go.RowKit Go.Maps

def quV (q : Qu) : Value := .agg #[.int .i64 q.kind, .int .i64 q.a, .int .i64 q.b, .int .i64 q.c]
def quO (q : Qu) : Obj := .cells #[.int .i64 q.kind, .int .i64 q.a, .int .i64 q.b, .int .i64 q.c] 98

def SetlOut (r : Qu × Nat × Bool) (w : World) (e : Ending) (w' : World) : Prop := e = .returned (.tuple #[quV r.1, .int .i64 r.2.1, .bool r.2.2]) ∧ Below w.heap.size w w'

/-- Where a walk of settling ends: the question's variable, and two results. -/
theorem SetlOut.mk {r q : Qu × Nat × Bool} {w w' : World} {e : Ending} (he : e = .returned (.tuple #[quV q.1, .int .i64 q.2.1, .bool q.2.2])) (hq : q = r) (hb : Below w.heap.size w w') : SetlOut r w e w' := by subst hq; exact ⟨he, hb⟩

set_option maxRecDepth 100000 in
set_option maxHeartbeats 3200000 in
theorem settleIte_any (a b c : Nat) (w : World) : Calls Try.prog 70 #[.int .i64 a, .int .i64 b, .int .i64 c] w (SetlOut (setIte a b c) w) := by
  have hfin : ∀ (k x y z : Nat), Below w.heap.size w (w.alloc (.cells #[.int .i64 k, .int .i64 x, .int .i64 y, .int .i64 z] 98)) := fun k x y z => (Below.refl _ _).alloc (Nat.le_refl _) _
  go_enter Try.func70, Try.ntmps70
  go_wp2
  all_goals
    simp only [beq_iff_eq, beq_eq_false_iff_ne, ne_eq] at *
  any_goals omega
  · refine bodyPost_ret (v := .tuple #[quV ⟨0, 0, 0, 0⟩, .int .i64 ((0 : Nat) : Int), .bool true]) ?_ rfl (SetlOut.mk (q := (⟨0, 0, 0, 0⟩, 0, true)) rfl ?_ (hfin 0 0 0 0))
    · simp [results, Try.results70, go_sem, quV]
    · grind [setIte, setIte2]
  · refine bodyPost_ret (v := .tuple #[quV ⟨0, 0, 0, 0⟩, .int .i64 ((1 : Nat) : Int), .bool true]) ?_ rfl (SetlOut.mk (q := (⟨0, 0, 0, 0⟩, 1, true)) rfl ?_ (hfin 0 0 0 0))
    · simp [results, Try.results70, go_sem, quV]
    · grind [setIte, setIte2]
  · refine bodyPost_ret (v := .tuple #[quV ⟨0, 0, 0, 0⟩, .int .i64 ((a : Nat) : Int), .bool true]) ?_ rfl (SetlOut.mk (q := (⟨0, 0, 0, 0⟩, a, true)) rfl ?_ (hfin 0 0 0 0))
    · simp [results, Try.results70, go_sem, quV]
    · grind [setIte, setIte2]
  · refine bodyPost_ret (v := .tuple #[quV ⟨0, 0, 0, 0⟩, .int .i64 ((c : Nat) : Int), .bool true]) ?_ rfl (SetlOut.mk (q := (⟨0, 0, 0, 0⟩, c, true)) rfl ?_ (hfin 0 0 0 0))
    · simp [results, Try.results70, go_sem, quV]
    · grind [setIte, setIte2]
  · refine bodyPost_ret (v := .tuple #[quV ⟨0, 0, 0, 0⟩, .int .i64 ((1 : Nat) : Int), .bool true]) ?_ rfl (SetlOut.mk (q := (⟨0, 0, 0, 0⟩, 1, true)) rfl ?_ (hfin 0 0 0 0))
    · simp [results, Try.results70, go_sem, quV]
    · grind [setIte, setIte2]
  · refine bodyPost_ret (v := .tuple #[quV ⟨0, 0, 0, 0⟩, .int .i64 ((1 : Nat) : Int), .bool true]) ?_ rfl (SetlOut.mk (q := (⟨0, 0, 0, 0⟩, 1, true)) rfl ?_ (hfin 0 0 0 0))
    · simp [results, Try.results70, go_sem, quV]
    · grind [setIte, setIte2]
  · refine bodyPost_ret (v := .tuple #[quV ⟨0, 0, 0, 0⟩, .int .i64 ((a : Nat) : Int), .bool true]) ?_ rfl (SetlOut.mk (q := (⟨0, 0, 0, 0⟩, a, true)) rfl ?_ (hfin 0 0 0 0))
    · simp [results, Try.results70, go_sem, quV]
    · grind [setIte, setIte2]
  · refine bodyPost_ret (v := .tuple #[quV ⟨0, c, 1, a⟩, .int .i64 ((0 : Nat) : Int), .bool false]) ?_ rfl (SetlOut.mk (q := (⟨0, c, 1, a⟩, 0, false)) rfl ?_ (hfin 0 c 1 a))
    · simp [results, Try.results70, go_sem, quV]
    · grind [setIte, setIte2]
  · refine bodyPost_ret (v := .tuple #[quV ⟨0, a, 1, c⟩, .int .i64 ((0 : Nat) : Int), .bool false]) ?_ rfl (SetlOut.mk (q := (⟨0, a, 1, c⟩, 0, false)) rfl ?_ (hfin 0 a 1 c))
    · simp [results, Try.results70, go_sem, quV]
    · grind [setIte, setIte2]
  · refine bodyPost_ret (v := .tuple #[quV ⟨0, 0, 0, 0⟩, .int .i64 ((0 : Nat) : Int), .bool true]) ?_ rfl (SetlOut.mk (q := (⟨0, 0, 0, 0⟩, 0, true)) rfl ?_ (hfin 0 0 0 0))
    · simp [results, Try.results70, go_sem, quV]
    · grind [setIte, setIte2]
  · refine bodyPost_ret (v := .tuple #[quV ⟨0, 0, 0, 0⟩, .int .i64 ((b : Nat) : Int), .bool true]) ?_ rfl (SetlOut.mk (q := (⟨0, 0, 0, 0⟩, b, true)) rfl ?_ (hfin 0 0 0 0))
    · simp [results, Try.results70, go_sem, quV]
    · grind [setIte, setIte2]
  · refine bodyPost_ret (v := .tuple #[quV ⟨0, 0, 0, 0⟩, .int .i64 ((b : Nat) : Int), .bool true]) ?_ rfl (SetlOut.mk (q := (⟨0, 0, 0, 0⟩, b, true)) rfl ?_ (hfin 0 0 0 0))
    · simp [results, Try.results70, go_sem, quV]
    · grind [setIte, setIte2]
  · refine bodyPost_ret (v := .tuple #[quV ⟨0, 0, 0, 0⟩, .int .i64 ((a : Nat) : Int), .bool true]) ?_ rfl (SetlOut.mk (q := (⟨0, 0, 0, 0⟩, a, true)) rfl ?_ (hfin 0 0 0 0))
    · simp [results, Try.results70, go_sem, quV]
    · grind [setIte, setIte2]
  · refine bodyPost_ret (v := .tuple #[quV ⟨0, b, a, 0⟩, .int .i64 ((0 : Nat) : Int), .bool false]) ?_ rfl (SetlOut.mk (q := (⟨0, b, a, 0⟩, 0, false)) rfl ?_ (hfin 0 b a 0))
    · simp [results, Try.results70, go_sem, quV]
    · grind [setIte, setIte2]
  · refine bodyPost_ret (v := .tuple #[quV ⟨0, a, b, 0⟩, .int .i64 ((0 : Nat) : Int), .bool false]) ?_ rfl (SetlOut.mk (q := (⟨0, a, b, 0⟩, 0, false)) rfl ?_ (hfin 0 a b 0))
    · simp [results, Try.results70, go_sem, quV]
    · grind [setIte, setIte2]
  · refine bodyPost_ret (v := .tuple #[quV ⟨0, 0, 0, 0⟩, .int .i64 ((c : Nat) : Int), .bool true]) ?_ rfl (SetlOut.mk (q := (⟨0, 0, 0, 0⟩, c, true)) rfl ?_ (hfin 0 0 0 0))
    · simp [results, Try.results70, go_sem, quV]
    · grind [setIte, setIte2]
  · refine bodyPost_ret (v := .tuple #[quV ⟨0, 0, 0, 0⟩, .int .i64 ((b : Nat) : Int), .bool true]) ?_ rfl (SetlOut.mk (q := (⟨0, 0, 0, 0⟩, b, true)) rfl ?_ (hfin 0 0 0 0))
    · simp [results, Try.results70, go_sem, quV]
    · grind [setIte, setIte2]
  · refine bodyPost_ret (v := .tuple #[quV ⟨0, 0, 0, 0⟩, .int .i64 ((b : Nat) : Int), .bool true]) ?_ rfl (SetlOut.mk (q := (⟨0, 0, 0, 0⟩, b, true)) rfl ?_ (hfin 0 0 0 0))
    · simp [results, Try.results70, go_sem, quV]
    · grind [setIte, setIte2]
  · refine bodyPost_ret (v := .tuple #[quV ⟨0, 0, 0, 0⟩, .int .i64 ((a : Nat) : Int), .bool true]) ?_ rfl (SetlOut.mk (q := (⟨0, 0, 0, 0⟩, a, true)) rfl ?_ (hfin 0 0 0 0))
    · simp [results, Try.results70, go_sem, quV]
    · grind [setIte, setIte2]
  · refine bodyPost_ret (v := .tuple #[quV ⟨0, c, 1, a⟩, .int .i64 ((0 : Nat) : Int), .bool false]) ?_ rfl (SetlOut.mk (q := (⟨0, c, 1, a⟩, 0, false)) rfl ?_ (hfin 0 c 1 a))
    · simp [results, Try.results70, go_sem, quV]
    · grind [setIte, setIte2]
  · refine bodyPost_ret (v := .tuple #[quV ⟨0, a, 1, c⟩, .int .i64 ((0 : Nat) : Int), .bool false]) ?_ rfl (SetlOut.mk (q := (⟨0, a, 1, c⟩, 0, false)) rfl ?_ (hfin 0 a 1 c))
    · simp [results, Try.results70, go_sem, quV]
    · grind [setIte, setIte2]
  · refine bodyPost_ret (v := .tuple #[quV ⟨0, b, a, c⟩, .int .i64 ((0 : Nat) : Int), .bool false]) ?_ rfl (SetlOut.mk (q := (⟨0, b, a, c⟩, 0, false)) rfl ?_ (hfin 0 b a c))
    · simp [results, Try.results70, go_sem, quV]
    · grind [setIte, setIte2]
  · refine bodyPost_ret (v := .tuple #[quV ⟨0, a, b, c⟩, .int .i64 ((0 : Nat) : Int), .bool false]) ?_ rfl (SetlOut.mk (q := (⟨0, a, b, c⟩, 0, false)) rfl ?_ (hfin 0 a b c))
    · simp [results, Try.results70, go_sem, quV]
    · grind [setIte, setIte2]
  · refine bodyPost_ret (v := .tuple #[quV ⟨0, a, b, c⟩, .int .i64 ((0 : Nat) : Int), .bool false]) ?_ rfl (SetlOut.mk (q := (⟨0, a, b, c⟩, 0, false)) rfl ?_ (hfin 0 a b c))
    · simp [results, Try.results70, go_sem, quV]
    · grind [setIte, setIte2]

set_option maxRecDepth 100000 in
set_option maxHeartbeats 3200000 in
theorem settleXor_any (a b : Nat) (w : World) : Calls Try.prog 69 #[.int .i64 a, .int .i64 b] w (SetlOut (setXor a b) w) := by
  have hfin : ∀ (k x y z : Nat), Below w.heap.size w (w.alloc (.cells #[.int .i64 k, .int .i64 x, .int .i64 y, .int .i64 z] 98)) := fun k x y z => (Below.refl _ _).alloc (Nat.le_refl _) _
  go_enter Try.func69, Try.ntmps69
  go_wp2
  all_goals
    simp only [beq_iff_eq, beq_eq_false_iff_ne, ne_eq] at *
  any_goals omega
  · refine bodyPost_ret (v := .tuple #[quV ⟨0, 0, 0, 0⟩, .int .i64 ((0 : Nat) : Int), .bool true]) ?_ rfl (SetlOut.mk (q := (⟨0, 0, 0, 0⟩, 0, true)) rfl ?_ (hfin 0 0 0 0))
    · simp [results, Try.results69, go_sem, quV]
    · grind [setXor, setXor2]
  · refine bodyPost_ret (v := .tuple #[quV ⟨0, 0, 0, 0⟩, .int .i64 ((a : Nat) : Int), .bool true]) ?_ rfl (SetlOut.mk (q := (⟨0, 0, 0, 0⟩, a, true)) rfl ?_ (hfin 0 0 0 0))
    · simp [results, Try.results69, go_sem, quV]
    · grind [setXor, setXor2]
  · refine bodyPost_ret (v := .tuple #[quV ⟨0, 0, 0, 0⟩, .int .i64 ((b : Nat) : Int), .bool true]) ?_ rfl (SetlOut.mk (q := (⟨0, 0, 0, 0⟩, b, true)) rfl ?_ (hfin 0 0 0 0))
    · simp [results, Try.results69, go_sem, quV]
    · grind [setXor, setXor2]
  · refine bodyPost_ret (v := .tuple #[quV ⟨0, a, 0, 1⟩, .int .i64 ((0 : Nat) : Int), .bool false]) ?_ rfl (SetlOut.mk (q := (⟨0, a, 0, 1⟩, 0, false)) rfl ?_ (hfin 0 a 0 1))
    · simp [results, Try.results69, go_sem, quV]
    · grind [setXor, setXor2]
  · refine bodyPost_ret (v := .tuple #[quV ⟨0, b, 0, 1⟩, .int .i64 ((0 : Nat) : Int), .bool false]) ?_ rfl (SetlOut.mk (q := (⟨0, b, 0, 1⟩, 0, false)) rfl ?_ (hfin 0 b 0 1))
    · simp [results, Try.results69, go_sem, quV]
    · grind [setXor, setXor2]
  · refine bodyPost_ret (v := .tuple #[quV ⟨1, b, a, 0⟩, .int .i64 ((0 : Nat) : Int), .bool false]) ?_ rfl (SetlOut.mk (q := (⟨1, b, a, 0⟩, 0, false)) rfl ?_ (hfin 1 b a 0))
    · simp [results, Try.results69, go_sem, quV]
    · grind [setXor, setXor2]
  · refine bodyPost_ret (v := .tuple #[quV ⟨1, a, b, 0⟩, .int .i64 ((0 : Nat) : Int), .bool false]) ?_ rfl (SetlOut.mk (q := (⟨1, a, b, 0⟩, 0, false)) rfl ?_ (hfin 1 a b 0))
    · simp [results, Try.results69, go_sem, quV]
    · grind [setXor, setXor2]
end Go.Proofs.Ytfdebadmikmnaaa
