/- Contracts of layer 4 (oper): ask. -/
import Derived.Test.YtfdebadmikmnaaaOAsk
import Derived.Laws.CopyRow
import Derived.Laws.CopyOwn
namespace Go.Proofs.Ytfdebadmikmnaaa
open Go.ChangeShapes Go.WideShapes Go.ChangeAt Go.RowKit Go.Maps

def AskOut (m : Mem) (h : Hd) (cs : List Nd) (o : Nat) (mb : Option Nat) (q : Qu) (w : World) (e : Ending) (w' : World) : Prop :=
  ∃ (k : Nat) (x : Int) (m' : Mem) (h' : Hd) (cs' : List Nd) (mb' : Option Nat), e = .returned (.tuple #[.int .i64 (k : Int), .int .i64 x]) ∧ OSt w' m' h' cs' o mb' ∧ Ext cs cs' ∧ Fresh cs cs' ∧ h'.V = h.V ∧ h'.B = h.B ∧ h'.sweeps = h.sweeps ∧
    cnt cs' + 1 ≤ cnt cs + 2 ^ h.V ∧ ONext o m mb m' mb' w w' ∧ ((x = 0 ∧ At cs' 0 k ∧ ∀ val, Says h.V cs' val k = qsem h.V cs val q) ∨ (x = 30 ∧ k = 0 ∧ h.B + 2 ≤ cnt cs + 2 ^ h.V))

theorem ask_bad {w : World} {m : Mem} {h : Hd} {cs : List Nd} {o : Nat} {mb : Option Nat} (r : OSt w m h cs o mb) {g c : Nat} {xs : List Int} (hl : xs.length ≤ 1000) (hg : g < w.heap.size)
    (hx : ∀ (i : Nat) (x : Int), xs[i]? = some x → w.cell? ⟨g, i, none⟩ = some (.int .i64 x)) (hbad : xs.all (thereB cs) = false) (kd : Int) :
    Calls Try.prog 30 #[.pointer (some ⟨o, 0, none⟩), .int .i64 kd, .slice (some ⟨g, 0, none⟩) xs.length c] w fun e w' => e = .returned (.tuple #[.int .i64 0, .int .i64 3]) ∧ Below w.heap.size w w' := by
  have RF := refusal_any r (c := c) hl hg hx
  unfold RefOut at RF
  rw [hbad] at RF
  have RF := Lib.hid RF
  clear hbad hx hg hl r
  go_enter Try.func30, Try.ntmps30
  go_wp2_with fail
  refine RF.out.mono ?_
  rintro e w2 ⟨rfl, hb2⟩
  go_wp2_with fail
  go_ret2
  exact ⟨rfl, hb2⟩

/-- Behind the copy: the question's variable. -/
theorem asked_world {w3 : World} (cur : Array Value) (q : Qu) (new : Array Value) (hn : new = #[.int .i64 q.kind, .int .i64 q.a, .int .i64 q.b, .int .i64 q.c]) :
    Below w3.heap.size w3 ((w3.alloc (.cells cur 98)).setRow w3.heap.size new) ∧ ((w3.alloc (.cells cur 98)).setRow w3.heap.size new).heap[w3.heap.size]? = some (quO q) := by
  subst hn
  exact ⟨below_setRow ((Below.refl w3.heap.size w3).alloc (Nat.le_refl _) _) (Nat.le_refl _) _, setRow_heap _ _ _ _ _ _ (heap_alloc_new w3 (.cells cur 98))⟩

theorem info_int1 : (Try.prog.info? 3).map (·.size) = some 1 := by kernel_rfl

set_option maxRecDepth 100000 in
set_option maxHeartbeats 1600000 in
theorem ask_good3 {w : World} {m : Mem} {h : Hd} {cs : List Nd} {o : Nat} {mb : Option Nat} (r : OSt w m h cs o mb) (hV : 2 ^ h.V ≤ 900000) {g cp : Nat} {a b c : Nat} (hg : g < w.heap.size) (hno : ¬ oown o m mb g) (h0 : w.cell? ⟨g, 0, none⟩ = some (.int .i64 (a : Int))) (h1 : w.cell? ⟨g, 1, none⟩ = some (.int .i64 (b : Int))) (h2 : w.cell? ⟨g, 2, none⟩ = some (.int .i64 (c : Int)))
    (hq : QAt cs 0 ⟨0, a, b, c⟩) :
    Calls Try.prog 30 #[.pointer (some ⟨o, 0, none⟩), .int .i64 0, .slice (some ⟨g, 0, none⟩) 3 cp] w (AskOut m h cs o mb ⟨0, a, b, c⟩ w) := by
  have hx : ∀ (i : Nat) (x : Int), ([(a : Int), (b : Int), (c : Int)] : List Int)[i]? = some x → w.cell? ⟨g, i, none⟩ = some (.int .i64 x) := by
    intro i x hx
    match i, x, hx with
    | 0, x, hx => injection hx with hx; rw [← hx]; exact h0
    | 1, x, hx => injection hx with hx; rw [← hx]; exact h1
    | 2, x, hx => injection hx with hx; rw [← hx]; exact h2
    | i + 3, x, hx => simp at hx
  have t0 := thereB_is hq.a.is.1
  have t1 := thereB_is hq.b.is.1
  have t2 := thereB_is hq.c.is.1
  have RF := refusal_any r (c := cp) (xs := [(a : Int), (b : Int), (c : Int)]) (by simp) hg hx
  unfold RefOut at RF
  rw [show ([(a : Int), (b : Int), (c : Int)] : List Int).all (thereB cs) = true by simp [t0, t1, t2]] at RF
  change Calls _ _ #[_, .slice _ 3 _] _ _ at RF
  have RF := Lib.hid RF
  have HX := Lib.hid hx
  have HG := Lib.hid hg
  have HNO := Lib.hid hno
  have HQ := Lib.hid hq
  have HV := Lib.hid hV
  have RR := Lib.hid r
  clear t0 h0 t1 h1 t2 h2 hx hg hno hq hV r
  go_enter Try.func30, Try.ntmps30
  go_wp2_with fail
  refine RF.out.mono ?_
  rintro e w2 ⟨rfl, hb2⟩
  clear RF
  have PR := Lib.hid (prepare_any (RR.out.keep hb2))
  have B2 := Lib.hid hb2
  clear hb2
  go_wp2_with fail
  refine PR.out.mono ?_
  rintro e w3 ⟨bb, nn, rfl, rdy, hnn, on3⟩
  clear PR
  have G2 : g < w2.heap.size := Nat.lt_of_lt_of_le HG.out B2.out.size
  have G3 : Hid (g < w3.heap.size) := Nat.lt_of_lt_of_le G2 on3.turn.size
  have H3 : Hid (∀ (i : Nat) (x : Int), ([(a : Int), (b : Int), (c : Int)] : List Int)[i]? = some x → w3.cell? ⟨g, i, none⟩ = some (.int .i64 x)) := by
    show ∀ (i : Nat) (x : Int), ([(a : Int), (b : Int), (c : Int)] : List Int)[i]? = some x → w3.cell? ⟨g, i, none⟩ = some (.int .i64 x)
    intro i x hx
    exact on3.turn.cell (p := ⟨g, i, none⟩) ((B2.out.cell (p := ⟨g, i, none⟩) HG.out).trans (HX.out i x hx)) HNO.out
  have b4 := (Below.refl w3.heap.size w3).alloc (Nat.le_refl _) (.cells #[.int .i64 0, .int .i64 0, .int .i64 0, .int .i64 0] 98)
  have h4 := heap_alloc_new w3 (.cells #[.int .i64 0, .int .i64 0, .int .i64 0, .int .i64 0] 98)
  have src : ∀ (j : Nat) (v : Value), ([.int .i64 (a : Int), .int .i64 (b : Int), .int .i64 (c : Int)] : List Value)[j]? = some v → (w3.alloc (.cells #[.int .i64 0, .int .i64 0, .int .i64 0, .int .i64 0] 98)).cell? ((⟨g, 0, none⟩ : Addr).add j) = some v := by
    intro j v hv
    match j, v, hv with
    | 0, v, hv => injection hv with hv; rw [← hv]; exact (b4.cell (p := ⟨g, 0, none⟩) G3.out).trans (H3.out 0 _ rfl)
    | 1, v, hv => injection hv with hv; rw [← hv]; exact (b4.cell (p := ⟨g, 1, none⟩) G3.out).trans (H3.out 1 _ rfl)
    | 2, v, hv => injection hv with hv; rw [← hv]; exact (b4.cell (p := ⟨g, 2, none⟩) G3.out).trans (H3.out 2 _ rfl)
    | j + 3, v, hv => simp at hv
  have hcp : ∀ ty, (Builtin.copy_ #[95, 95] ty #[.slice (some ⟨w3.heap.size, 1, none⟩) 3 3, .slice (some ⟨g, 0, none⟩) 3 cp]).run Try.prog (w3.alloc (.cells #[.int .i64 0, .int .i64 0, .int .i64 0, .int .i64 0] 98)) = .ok (.int .i64 3) ((w3.alloc (.cells #[.int .i64 0, .int .i64 0, .int .i64 0, .int .i64 0] 98)).setRow w3.heap.size #[.int .i64 0, .int .i64 (a : Int), .int .i64 (b : Int), .int .i64 (c : Int)]) :=
    fun ty => run_copy_row (P := Try.prog) (w3.alloc (.cells #[.int .i64 0, .int .i64 0, .int .i64 0, .int .i64 0] 98)) 95 95 ty 3 w3.heap.size 1 3 3 ⟨g, 0, none⟩ 3 cp _ _ [.int .i64 (a : Int), .int .i64 (b : Int), .int .i64 (c : Int)] Try.underlying95 info_int1 h4 rfl src (by simp) (by simp [Value.oneCell'])
  obtain ⟨b5, q5⟩ := asked_world (w3 := w3) #[.int .i64 0, .int .i64 0, .int .i64 0, .int .i64 0] ⟨0, a, b, c⟩ #[.int .i64 0, .int .i64 (a : Int), .int .i64 (b : Int), .int .i64 (c : Int)] rfl
  have R5 := Lib.hid (rdy.keep b5)
  have B5 := Lib.hid b5
  have Q5 := Lib.hid q5
  have ON3 := Lib.hid on3
  have NN := Lib.hid hnn
  obtain ⟨z0, z1, z2, z3, zf⟩ := qu_cells q5
  clear b4 h4 src b5 q5 on3 hnn rdy
  go_wp2_with fail
  have AN := answer_any o bb h.V _ m h cs nn 0 ⟨0, a, b, c⟩ R5.out HQ.out (Int.le_refl 0) (by omega) (by omega) (by have := NN.out; have := HV.out; omega)
  change Calls _ _ #[_, .agg #[.int .i64 0, .int .i64 (a : Int), .int .i64 (b : Int), .int .i64 (c : Int)]] _ _ at AN
  refine AN.mono ?_
  clear AN
  rintro e w6 ⟨k, x, m', h', cs', N', rfl, r6, e6, fr6, v6, bb6, s6, c6, n6, on6, hout⟩
  have FIN : AskOut m h cs o mb ⟨0, a, b, c⟩ w (.returned (.tuple #[.int .i64 (k : Int), .int .i64 x])) w6 := ⟨k, x, m', h', cs', some bb, rfl, r6.ost, e6, fr6, v6, bb6, s6, c6, ((ONext.below B2.out).trans ON3.out).trans ((ONext.below B5.out).trans on6), hout⟩
  have FIN := Lib.hid FIN
  clear r6 e6 fr6 v6 bb6 s6 c6 n6 on6 hout
  go_wp2_with fail
  go_ret2
  exact FIN.out

set_option maxRecDepth 100000 in
set_option maxHeartbeats 1600000 in
theorem ask_good2 {w : World} {m : Mem} {h : Hd} {cs : List Nd} {o : Nat} {mb : Option Nat} (r : OSt w m h cs o mb) (hV : 2 ^ h.V ≤ 900000) {g cp : Nat} {a b : Nat} (hg : g < w.heap.size) (hno : ¬ oown o m mb g) (h0 : w.cell? ⟨g, 0, none⟩ = some (.int .i64 (a : Int))) (h1 : w.cell? ⟨g, 1, none⟩ = some (.int .i64 (b : Int)))
    (hq : QAt cs 0 ⟨1, a, b, 0⟩) :
    Calls Try.prog 30 #[.pointer (some ⟨o, 0, none⟩), .int .i64 1, .slice (some ⟨g, 0, none⟩) 2 cp] w (AskOut m h cs o mb ⟨1, a, b, 0⟩ w) := by
  have hx : ∀ (i : Nat) (x : Int), ([(a : Int), (b : Int)] : List Int)[i]? = some x → w.cell? ⟨g, i, none⟩ = some (.int .i64 x) := by
    intro i x hx
    match i, x, hx with
    | 0, x, hx => injection hx with hx; rw [← hx]; exact h0
    | 1, x, hx => injection hx with hx; rw [← hx]; exact h1
    | i + 2, x, hx => simp at hx
  have t0 := thereB_is hq.a.is.1
  have t1 := thereB_is hq.b.is.1
  have RF := refusal_any r (c := cp) (xs := [(a : Int), (b : Int)]) (by simp) hg hx
  unfold RefOut at RF
  rw [show ([(a : Int), (b : Int)] : List Int).all (thereB cs) = true by simp [t0, t1]] at RF
  change Calls _ _ #[_, .slice _ 2 _] _ _ at RF
  have RF := Lib.hid RF
  have HX := Lib.hid hx
  have HG := Lib.hid hg
  have HNO := Lib.hid hno
  have HQ := Lib.hid hq
  have HV := Lib.hid hV
  have RR := Lib.hid r
  clear t0 h0 t1 h1 hx hg hno hq hV r
  go_enter Try.func30, Try.ntmps30
  go_wp2_with fail
  refine RF.out.mono ?_
  rintro e w2 ⟨rfl, hb2⟩
  clear RF
  have PR := Lib.hid (prepare_any (RR.out.keep hb2))
  have B2 := Lib.hid hb2
  clear hb2
  go_wp2_with fail
  refine PR.out.mono ?_
  rintro e w3 ⟨bb, nn, rfl, rdy, hnn, on3⟩
  clear PR
  have G2 : g < w2.heap.size := Nat.lt_of_lt_of_le HG.out B2.out.size
  have G3 : Hid (g < w3.heap.size) := Nat.lt_of_lt_of_le G2 on3.turn.size
  have H3 : Hid (∀ (i : Nat) (x : Int), ([(a : Int), (b : Int)] : List Int)[i]? = some x → w3.cell? ⟨g, i, none⟩ = some (.int .i64 x)) := by
    show ∀ (i : Nat) (x : Int), ([(a : Int), (b : Int)] : List Int)[i]? = some x → w3.cell? ⟨g, i, none⟩ = some (.int .i64 x)
    intro i x hx
    exact on3.turn.cell (p := ⟨g, i, none⟩) ((B2.out.cell (p := ⟨g, i, none⟩) HG.out).trans (HX.out i x hx)) HNO.out
  have b4 := (Below.refl w3.heap.size w3).alloc (Nat.le_refl _) (.cells #[.int .i64 1, .int .i64 0, .int .i64 0, .int .i64 0] 98)
  have h4 := heap_alloc_new w3 (.cells #[.int .i64 1, .int .i64 0, .int .i64 0, .int .i64 0] 98)
  have src : ∀ (j : Nat) (v : Value), ([.int .i64 (a : Int), .int .i64 (b : Int)] : List Value)[j]? = some v → (w3.alloc (.cells #[.int .i64 1, .int .i64 0, .int .i64 0, .int .i64 0] 98)).cell? ((⟨g, 0, none⟩ : Addr).add j) = some v := by
    intro j v hv
    match j, v, hv with
    | 0, v, hv => injection hv with hv; rw [← hv]; exact (b4.cell (p := ⟨g, 0, none⟩) G3.out).trans (H3.out 0 _ rfl)
    | 1, v, hv => injection hv with hv; rw [← hv]; exact (b4.cell (p := ⟨g, 1, none⟩) G3.out).trans (H3.out 1 _ rfl)
    | j + 2, v, hv => simp at hv
  have hcp : ∀ ty, (Builtin.copy_ #[95, 95] ty #[.slice (some ⟨w3.heap.size, 1, none⟩) 3 3, .slice (some ⟨g, 0, none⟩) 2 cp]).run Try.prog (w3.alloc (.cells #[.int .i64 1, .int .i64 0, .int .i64 0, .int .i64 0] 98)) = .ok (.int .i64 2) ((w3.alloc (.cells #[.int .i64 1, .int .i64 0, .int .i64 0, .int .i64 0] 98)).setRow w3.heap.size #[.int .i64 1, .int .i64 (a : Int), .int .i64 (b : Int), .int .i64 0]) :=
    fun ty => run_copy_row (P := Try.prog) (w3.alloc (.cells #[.int .i64 1, .int .i64 0, .int .i64 0, .int .i64 0] 98)) 95 95 ty 3 w3.heap.size 1 3 3 ⟨g, 0, none⟩ 2 cp _ _ [.int .i64 (a : Int), .int .i64 (b : Int)] Try.underlying95 info_int1 h4 rfl src (by simp) (by simp [Value.oneCell'])
  obtain ⟨b5, q5⟩ := asked_world (w3 := w3) #[.int .i64 1, .int .i64 0, .int .i64 0, .int .i64 0] ⟨1, a, b, 0⟩ #[.int .i64 1, .int .i64 (a : Int), .int .i64 (b : Int), .int .i64 0] rfl
  have R5 := Lib.hid (rdy.keep b5)
  have B5 := Lib.hid b5
  have Q5 := Lib.hid q5
  have ON3 := Lib.hid on3
  have NN := Lib.hid hnn
  obtain ⟨z0, z1, z2, z3, zf⟩ := qu_cells q5
  clear b4 h4 src b5 q5 on3 hnn rdy
  go_wp2_with fail
  have AN := answer_any o bb h.V _ m h cs nn 0 ⟨1, a, b, 0⟩ R5.out HQ.out (Int.le_refl 0) (by omega) (by omega) (by have := NN.out; have := HV.out; omega)
  change Calls _ _ #[_, .agg #[.int .i64 1, .int .i64 (a : Int), .int .i64 (b : Int), .int .i64 0]] _ _ at AN
  refine AN.mono ?_
  clear AN
  rintro e w6 ⟨k, x, m', h', cs', N', rfl, r6, e6, fr6, v6, bb6, s6, c6, n6, on6, hout⟩
  have FIN : AskOut m h cs o mb ⟨1, a, b, 0⟩ w (.returned (.tuple #[.int .i64 (k : Int), .int .i64 x])) w6 := ⟨k, x, m', h', cs', some bb, rfl, r6.ost, e6, fr6, v6, bb6, s6, c6, ((ONext.below B2.out).trans ON3.out).trans ((ONext.below B5.out).trans on6), hout⟩
  have FIN := Lib.hid FIN
  clear r6 e6 fr6 v6 bb6 s6 c6 n6 on6 hout
  go_wp2_with fail
  go_ret2
  exact FIN.out
end Go.Proofs.Ytfdebadmikmnaaa
