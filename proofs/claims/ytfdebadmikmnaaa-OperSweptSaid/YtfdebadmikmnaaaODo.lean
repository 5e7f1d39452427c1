/- Contracts of layer 4 (oper): where operations lie; the cache is made once. -/
import Derived.Test.YtfdebadmikmnaaaOOnce
namespace Go.Proofs.Ytfdebadmikmnaaa
open Go.ChangeShapes Go.WideShapes Go.ChangeAt Go.RowKit Go.Maps

def opsC (o s : Nat) (d x : Int) (mp : Option Nat) (sw : Int) : Array Value := #[.pointer (some ⟨o, 0, none⟩), .pointer (some ⟨s, 0, none⟩), .int .u32 d, .int .i32 x, .int .u32 0, .map mp, .int .i64 sw]
def OpsAt (w : World) (o s : Nat) (d x : Int) (mp : Option Nat) (sw : Int) : Prop := w.heap[o]? = some (.cells (opsC o s d x mp sw) 66 (0, 0))

section
variable {w : World} {o s : Nat} {d x : Int} {mp : Option Nat} {sw : Int}
theorem OpsAt.lt (h : OpsAt w o s d x mp sw) : o < w.heap.size := (Array.getElem?_eq_some_iff.1 h).1
theorem OpsAt.c0 (h : OpsAt w o s d x mp sw) : w.cell? ⟨o, 0, none⟩ = some (.pointer (some ⟨o, 0, none⟩)) := cell_of_row w o 0 _ _ _ h
theorem OpsAt.c1 (h : OpsAt w o s d x mp sw) : w.cell? ⟨o, 1, none⟩ = some (.pointer (some ⟨s, 0, none⟩)) := cell_of_row w o 1 _ _ _ h
theorem OpsAt.c2 (h : OpsAt w o s d x mp sw) : w.cell? ⟨o, 2, none⟩ = some (.int .u32 d) := cell_of_row w o 2 _ _ _ h
theorem OpsAt.c3 (h : OpsAt w o s d x mp sw) : w.cell? ⟨o, 3, none⟩ = some (.int .i32 x) := cell_of_row w o 3 _ _ _ h
theorem OpsAt.c5 (h : OpsAt w o s d x mp sw) : w.cell? ⟨o, 5, none⟩ = some (.map mp) := cell_of_row w o 5 _ _ _ h
theorem OpsAt.c6 (h : OpsAt w o s d x mp sw) : w.cell? ⟨o, 6, none⟩ = some (.int .i64 sw) := cell_of_row w o 6 _ _ _ h
theorem OpsAt.fz (h : OpsAt w o s d x mp sw) (j : Nat) : w.frozen? ⟨o, j, none⟩ = false := frozen_of_row w o j _ _ h
theorem OpsAt.of (h : OpsAt w o s d x mp sw) {w' : World} (e : w'.heap[o]? = w.heap[o]?) : OpsAt w' o s d x mp sw := e.trans h
theorem OpsAt.keep (h : OpsAt w o s d x mp sw) {w' : World} (hb : Below w.heap.size w w') : OpsAt w' o s d x mp sw := h.of (hb.block _ h.lt)
theorem OpsAt.alloc (h : OpsAt w o s d x mp sw) (b : Obj) : OpsAt (w.alloc b) o s d x mp sw := h.of (Below.heap_alloc w b o h.lt)
theorem OpsAt.drew (h : OpsAt w o s d x mp sw) : OpsAt w.drew o s d x mp sw := h
theorem OpsAt.set2 (h : OpsAt w o s d x mp sw) (y : Int) : OpsAt (w.setCell ⟨o, 2, none⟩ (.int .u32 y)) o s y x mp sw := heap_setCell_same _ _ 2 _ _ (.int .u32 y) h
theorem OpsAt.set3 (h : OpsAt w o s d x mp sw) (y : Int) : OpsAt (w.setCell ⟨o, 3, none⟩ (.int .i32 y)) o s d y mp sw := heap_setCell_same _ _ 3 _ _ (.int .i32 y) h
theorem OpsAt.set5 (h : OpsAt w o s d x mp sw) (y : Option Nat) : OpsAt (w.setCell ⟨o, 5, none⟩ (.map y)) o s d x y sw := heap_setCell_same _ _ 5 _ _ (.map y) h
theorem OpsAt.set6 (h : OpsAt w o s d x mp sw) (y : Int) : OpsAt (w.setCell ⟨o, 6, none⟩ (.int .i64 y)) o s d x mp y := heap_setCell_same _ _ 6 _ _ (.int .i64 y) h
end

theorem info_ops : (Try.prog.info? 66).map (fun i => (i.size, i.bytes)) = some (7, 48) := by kernel_rfl

theorem made_closure (o s : Nat) (sw : Int) (pl : Addr) (w : World) (hp : w.cell? pl = some (.pointer (some ⟨o, 0, none⟩))) (ha : OpsAt w o s 0 1 none sw) :
    Calls Try.prog 59 #[.pointer (some pl)] w fun e w' => e = .returned (.tuple #[]) ∧ w' = (w.alloc (.map #[] 0)).setCell ⟨o, 5, none⟩ (.map (some w.heap.size)) := by
  have h6 := (ha.alloc (.map #[] 0)).c5
  have f6 := (ha.alloc (.map #[] 0)).fz 5
  have HA := Lib.hid ha
  clear ha
  have hmm := @run_makeMap Try.prog
  go_enter Try.func59, Try.ntmps59
  go_wp2
  go_end0
  exact ⟨rfl, rfl⟩

def OnceA (o : Nat) (w : World) : World := ((w.setCell ⟨o, 3, none⟩ (.int .i32 1)).alloc (.map #[] 0)).setCell ⟨o, 5, none⟩ (.map (some w.heap.size))
def OnceW (o : Nat) (w : World) : World := ((OnceA o w).drew.setCell ⟨o, 2, none⟩ (.int .u32 1)).setCell ⟨o, 3, none⟩ (.int .i32 0)

theorem onceA_at {w : World} {o s : Nat} {sw : Int} (ha : OpsAt w o s 0 0 none sw) : OpsAt (OnceA o w) o s 0 1 (some w.heap.size) sw := ((ha.set3 1).alloc _).set5 _
theorem onceW_at {w : World} {o s : Nat} {sw : Int} (ha : OpsAt w o s 0 0 none sw) : OpsAt (OnceW o w) o s 1 0 (some w.heap.size) sw := ((onceA_at ha).drew.set2 1).set3 0
theorem onceW_turn (o : Nat) (w : World) : Turn (fun i => i = o) w (OnceW o w) := by
  unfold OnceW OnceA
  have t0 := Turn.setCell (Turn.refl (fun i => i = o) w) (p := ⟨o, 3, none⟩) (.inl rfl) (.int .i32 1)
  have t1 := (t0.alloc (.map #[] 0)).setCell (p := ⟨o, 5, none⟩) (.inl rfl) (.map (some w.heap.size))
  exact ((t1.drew.setCell (p := ⟨o, 2, none⟩) (.inl rfl) (.int .u32 1)).setCell (p := ⟨o, 3, none⟩) (.inl rfl) (.int .i32 0))
theorem onceW_map {w : World} {o : Nat} (ho : o < w.heap.size) : (OnceW o w).heap[w.heap.size]? = some (.map #[] 0) := by
  unfold OnceW OnceA
  have hs : (w.setCell ⟨o, 3, none⟩ (.int .i32 1)).heap.size = w.heap.size := by simp [World.setCell]
  rw [heap_setCell_other _ _ _ _ (by show ¬ w.heap.size = o; omega), heap_setCell_other _ _ _ _ (by show ¬ w.heap.size = o; omega)]
  show (((w.setCell ⟨o, 3, none⟩ (.int .i32 1)).alloc (.map #[] 0)).setCell ⟨o, 5, none⟩ (.map (some w.heap.size))).heap[w.heap.size]? = _
  rw [heap_setCell_other _ _ _ _ (by show ¬ w.heap.size = o; omega)]
  have := heap_alloc_new (w.setCell ⟨o, 3, none⟩ (.int .i32 1)) (.map #[] 0)
  rw [hs] at this
  exact this

set_option maxRecDepth 100000 in
set_option maxHeartbeats 1600000 in
theorem slow_first (o s : Nat) (sw : Int) (pl : Addr) (hpb : ¬ o = pl.block) (w : World) (hp : w.cell? pl = some (.pointer (some ⟨o, 0, none⟩))) (ha : OpsAt w o s 0 0 none sw) :
    Calls Try.prog 68 #[.pointer (some ⟨o, 2, none⟩), .func (.func 59) #[] #[.pointer (some pl)]] w fun e w' => e = .returned (.tuple #[]) ∧ w' = OnceW o w := by
  have h3 := ha.c3
  have f3 := ha.fz 3
  have hl := run_call_load (P := Try.prog) Try.func72 (by kernel_rfl) (by kernel_rfl) (by kernel_rfl) .u32 (by kernel_rfl) (w := w.setCell ⟨o, 3, none⟩ (.int .i32 1)) (a := ⟨o, 2, none⟩) (x := 0) (ha.set3 1).c2
  have hp1 : (w.setCell ⟨o, 3, none⟩ (.int .i32 1)).cell? pl = some (.pointer (some ⟨o, 0, none⟩)) := (World.cell?_setCell_other _ ⟨o, 3, none⟩ pl _ (fun h => hpb (by rw [← h]))).trans hp
  have hnot : ∀ (x : Bool) (w : World), (Op.unary .not (.bool x)).run Try.prog w = .ok (.bool (!x)) w := fun _ _ => rfl
  have HA := Lib.hid ha
  clear ha
  go_enter_defers Try.func68, Try.ntmps68
  go_wp2_with (go_at_call 73; refine (once_lock ⟨o, 3, none⟩ _ (by go_simp) (by go_simp)).mono ?_; rintro e w' ⟨rfl, rfl⟩)
  go_wp2_with (first | (go_at_call 59; refine (made_closure o s sw pl _ hp1 (HA.out.set3 1)).mono ?_; rintro e w' ⟨rfl, rfl⟩) | (go_at_call 67; go_in))
  change bodyPostD _ _ _ _ _ (OnceA o w)
  have A1 := onceA_at HA.out
  refine leaves_cons (f := 75) (args := #[.pointer (some ⟨o, 2, none⟩), .bool true]) (by simp) (by simp [go_sem]) ?_
  refine (once_store ⟨o, 2, none⟩ (.int .u32 0) .returning _ A1.c2 (A1.fz 2)).mono ?_
  rintro e u' w'' ⟨rfl, rfl, rfl⟩
  refine leaves_cons (f := 74) (args := #[.pointer (some ⟨o, 3, none⟩)]) (by simp [settle]) (by simp [go_sem]) ?_
  refine (once_unlock ⟨o, 3, none⟩ _ _ (A1.drew.set2 1).c3 ((A1.drew.set2 1).fz 3)).mono ?_
  rintro e u' w'' ⟨rfl, rfl, rfl⟩
  simp [Leaves, settle, results, Try.results68, OnceW]

set_option maxRecDepth 100000 in
set_option maxHeartbeats 1600000 in
theorem do_first (o s : Nat) (sw : Int) (pl : Addr) (hpb : ¬ o = pl.block) (w : World) (hp : w.cell? pl = some (.pointer (some ⟨o, 0, none⟩))) (ha : OpsAt w o s 0 0 none sw) :
    Calls Try.prog 58 #[.pointer (some ⟨o, 2, none⟩), .func (.func 59) #[] #[.pointer (some pl)]] w fun e w' => e = .returned (.tuple #[]) ∧ w' = OnceW o w := by
  have hl := run_call_load (P := Try.prog) Try.func72 (by kernel_rfl) (by kernel_rfl) (by kernel_rfl) .u32 (by kernel_rfl) ha.c2
  have hnot : ∀ (x : Bool) (w : World), (Op.unary .not (.bool x)).run Try.prog w = .ok (.bool (!x)) w := fun _ _ => rfl
  have HA := Lib.hid ha
  clear ha
  go_enter Try.func58, Try.ntmps58
  go_wp2_with (first | (go_at_call 68; refine (slow_first o s sw pl hpb _ hp HA.out).mono ?_; rintro e w' ⟨rfl, rfl⟩) | (go_at_call 67; go_in))
  go_end0
  exact ⟨rfl, rfl⟩

theorem do_done (o s : Nat) (mp : Option Nat) (sw : Int) (fv : Value) (w : World) (ha : OpsAt w o s 1 0 mp sw) :
    Calls Try.prog 58 #[.pointer (some ⟨o, 2, none⟩), fv] w fun e w' => e = .returned (.tuple #[]) ∧ w' = w := by
  have hl := run_call_load (P := Try.prog) Try.func72 (by kernel_rfl) (by kernel_rfl) (by kernel_rfl) .u32 (by kernel_rfl) ha.c2
  have hnot : ∀ (x : Bool) (w : World), (Op.unary .not (.bool x)).run Try.prog w = .ok (.bool (!x)) w := fun _ _ => rfl
  clear ha
  go_enter Try.func58, Try.ntmps58
  go_wp2
  go_end0
  exact ⟨rfl, rfl⟩
end Go.Proofs.Ytfdebadmikmnaaa
