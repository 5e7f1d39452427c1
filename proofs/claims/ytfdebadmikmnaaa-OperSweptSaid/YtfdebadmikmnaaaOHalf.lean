/- Contracts of layer 4 (oper): a question split by its first variable. -/
import Derived.Test.YtfdebadmikmnaaaOSplit
import Derived.Test.YtfdebadmikmnaaaODo
import Derived.Deep.DeepCutAuto
namespace Go.Proofs.Ytfdebadmikmnaaa
open Go.ChangeShapes Go.WideShapes Go.ChangeAt Go.RowKit Go.Maps

def setQ (i : Nat) (q : Qu) (k : Nat) : Qu := match i with | 0 => ⟨q.kind, k, q.b, q.c⟩ | 1 => ⟨q.kind, q.a, k, q.c⟩ | _ => ⟨q.kind, q.a, q.b, k⟩
def kAt (q : Qu) (i : Nat) : Nat := match i with | 0 => q.a | 1 => q.b | _ => q.c
def vAt (V : Nat) (cs : List Nd) (q : Qu) (i : Nat) : Int := match i with | 0 => V | 1 => min (V : Int) (nd cs q.a).asks | 2 => min (min (V : Int) (nd cs q.a).asks) (nd cs q.b).asks | _ => splitV V cs q
def hAt (x : Bool) (V : Nat) (cs : List Nd) (q : Qu) (i : Nat) : Qu := match i with
  | 0 => q
  | 1 => ⟨q.kind, part x (vAt V cs q 1) cs q.a, q.b, q.c⟩
  | 2 => ⟨q.kind, part x (vAt V cs q 2) cs q.a, part x (vAt V cs q 2) cs q.b, q.c⟩
  | _ => half x (splitV V cs q) cs q

theorem part_off {x : Bool} {v : Int} {cs : List Nd} {k : Nat} (h : (nd cs k).asks ≠ v) : part x v cs k = k := by unfold part; rw [if_neg h]
theorem part_on {x : Bool} {v : Int} {cs : List Nd} {k : Nat} (h : (nd cs k).asks = v) : part x v cs k = if x then (nd cs k).high else (nd cs k).low := by unfold part; rw [if_pos h]

section
variable {V : Nat} {cs : List Nd} {q : Qu} (x : Bool)
theorem step_lt {i : Nat} (hi : i < 3) (h : (nd cs (kAt q i)).asks < vAt V cs q i) : vAt V cs q (i + 1) = (nd cs (kAt q i)).asks ∧ hAt x V cs q (i + 1) = setQ i q (if x then (nd cs (kAt q i)).high else (nd cs (kAt q i)).low) := by
  match i, hi, h with
  | 0, _, h =>
    have h : (nd cs q.a).asks < (V : Int) := h
    have e : vAt V cs q 1 = (nd cs q.a).asks := by show min _ _ = _; omega
    refine ⟨e, ?_⟩
    show (⟨_, part x (vAt V cs q 1) cs q.a, _, _⟩ : Qu) = _
    rw [e, part_on rfl]; rfl
  | 1, _, h =>
    have h : (nd cs q.b).asks < min (V : Int) (nd cs q.a).asks := h
    have e : vAt V cs q 2 = (nd cs q.b).asks := by show min _ _ = _; omega
    refine ⟨e, ?_⟩
    show (⟨_, part x (vAt V cs q 2) cs q.a, part x (vAt V cs q 2) cs q.b, _⟩ : Qu) = _
    rw [e, part_on rfl, part_off (by omega)]; rfl
  | 2, _, h =>
    have h : (nd cs q.c).asks < min (min (V : Int) (nd cs q.a).asks) (nd cs q.b).asks := h
    have e : splitV V cs q = (nd cs q.c).asks := by unfold splitV; omega
    refine ⟨e, ?_⟩
    show half x (splitV V cs q) cs q = _
    unfold half
    rw [e, part_on (k := q.c) rfl, part_off (k := q.a) (by omega), part_off (k := q.b) (by omega)]; rfl
theorem step_eq {i : Nat} (hi : i < 3) (h : (nd cs (kAt q i)).asks = vAt V cs q i) : vAt V cs q (i + 1) = vAt V cs q i ∧ hAt x V cs q (i + 1) = setQ i (hAt x V cs q i) (if x then (nd cs (kAt q i)).high else (nd cs (kAt q i)).low) := by
  match i, hi, h with
  | 0, _, h =>
    have h : (nd cs q.a).asks = (V : Int) := h
    have e : vAt V cs q 1 = V := by show min _ _ = _; omega
    refine ⟨e, ?_⟩
    show (⟨_, part x (vAt V cs q 1) cs q.a, _, _⟩ : Qu) = _
    rw [part_on (h.trans e.symm)]; rfl
  | 1, _, h =>
    have h : (nd cs q.b).asks = min (V : Int) (nd cs q.a).asks := h
    have e : vAt V cs q 2 = vAt V cs q 1 := by show min (min _ _) _ = min _ _; omega
    refine ⟨e, ?_⟩
    show (⟨_, part x (vAt V cs q 2) cs q.a, part x (vAt V cs q 2) cs q.b, _⟩ : Qu) = _
    rw [part_on (k := q.b) (v := vAt V cs q 2) (h.trans e.symm), e]; rfl
  | 2, _, h =>
    have h : (nd cs q.c).asks = min (min (V : Int) (nd cs q.a).asks) (nd cs q.b).asks := h
    have e : splitV V cs q = vAt V cs q 2 := by unfold splitV; show _ = min (min _ _) _; omega
    refine ⟨e, ?_⟩
    show half x (splitV V cs q) cs q = _
    unfold half
    rw [part_on (k := q.c) (v := splitV V cs q) (h.trans e.symm), e]; rfl
theorem step_gt {i : Nat} (hi : i < 3) (h : vAt V cs q i < (nd cs (kAt q i)).asks) : vAt V cs q (i + 1) = vAt V cs q i ∧ hAt x V cs q (i + 1) = hAt x V cs q i := by
  match i, hi, h with
  | 0, _, h =>
    have h : (V : Int) < (nd cs q.a).asks := h
    have e : vAt V cs q 1 = V := by show min _ _ = _; omega
    refine ⟨e, ?_⟩
    show (⟨_, part x (vAt V cs q 1) cs q.a, _, _⟩ : Qu) = _
    rw [part_off (by omega)]; rfl
  | 1, _, h =>
    have h : min (V : Int) (nd cs q.a).asks < (nd cs q.b).asks := h
    have e : vAt V cs q 2 = vAt V cs q 1 := by show min (min _ _) _ = min _ _; omega
    have e' : vAt V cs q 1 = min (V : Int) (nd cs q.a).asks := rfl
    refine ⟨e, ?_⟩
    show (⟨_, part x (vAt V cs q 2) cs q.a, part x (vAt V cs q 2) cs q.b, _⟩ : Qu) = _
    rw [part_off (k := q.b) (by omega), e]; rfl
  | 2, _, h =>
    have h : min (min (V : Int) (nd cs q.a).asks) (nd cs q.b).asks < (nd cs q.c).asks := h
    have e : splitV V cs q = vAt V cs q 2 := by unfold splitV; show _ = min (min _ _) _; omega
    have e' : vAt V cs q 2 = min (min (V : Int) (nd cs q.a).asks) (nd cs q.b).asks := rfl
    refine ⟨e, ?_⟩
    show half x (splitV V cs q) cs q = _
    unfold half
    rw [part_off (k := q.c) (by omega), e]; rfl
end

/-- The three variables of split. -/
structure SplW (w0 : World) (bq bf bt : Nat) (q qf qt : Qu) (w : World) : Prop where
  q : w.heap[bq]? = some (quO q)
  f : w.heap[bf]? = some (quO qf)
  t : w.heap[bt]? = some (quO qt)
  below : Below w0.heap.size w0 w

section
variable {w0 w : World} {bq bf bt : Nat} {q qf qt : Qu}
theorem SplW.drew (h : SplW w0 bq bf bt q qf qt w) : SplW w0 bq bf bt q qf qt w.drew := ⟨h.q, h.f, h.t, h.below.trans ((below_drew w).mono h.below.size)⟩
theorem SplW.drewN (h : SplW w0 bq bf bt q qf qt w) (n : Nat) : SplW w0 bq bf bt q qf qt (w.drewN n) := ⟨h.q, h.f, h.t, h.below.trans ((below_drewN0 w n).mono h.below.size)⟩
theorem SplW.turnF (h : SplW w0 bq bf bt q qf qt w) {w' : World} {p : Qu} (h0 : w0.heap.size ≤ bf) (h1 : bq ≠ bf) (h2 : bt ≠ bf) (ht : Turn (fun i => i = bf) w w') (hp : w'.heap[bf]? = some (quO p)) : SplW w0 bq bf bt q p qt w' :=
  ⟨(ht.block _ (row_lt h.q) h1).trans h.q, hp, (ht.block _ (row_lt h.t) h2).trans h.t, Turn.to_below h.below ht (fun i hi => by omega) h.below.size⟩
theorem SplW.turnT (h : SplW w0 bq bf bt q qf qt w) {w' : World} {p : Qu} (h0 : w0.heap.size ≤ bt) (h1 : bq ≠ bt) (h2 : bf ≠ bt) (ht : Turn (fun i => i = bt) w w') (hp : w'.heap[bt]? = some (quO p)) : SplW w0 bq bf bt q qf p w' :=
  ⟨(ht.block _ (row_lt h.q) h1).trans h.q, (ht.block _ (row_lt h.f) h2).trans h.f, hp, Turn.to_below h.below ht (fun i hi => by omega) h.below.size⟩
theorem SplW.fins (h : SplW w0 bq bf bt q qf qt w) (h0 : w0.heap.size ≤ bq) (h1 : bq < bf) (h2 : bf < bt) : SplW w0 bq bf bt q q q (Fin4 (Fin4 w bf q) bt q) := by
  have a := h.turnF (by omega) (by omega) (by omega) (fin4_turn w bf q) (fin4 h.f)
  exact a.turnT (by omega) (by omega) (by omega) (fin4_turn _ bt q) (fin4 a.t)
theorem SplW.self (h : SplW w0 bq bf bt q qf qt w) (h0 : w0.heap.size ≤ bq) (h1 : bq < bf) (h2 : bf < bt) : SplW w0 bq bf bt q qf qt (Fin4 (Fin4 w bf qf) bt qt) := by
  have a := h.turnF (by omega) (by omega) (by omega) (fin4_turn w bf qf) (fin4 h.f)
  exact a.turnT (by omega) (by omega) (by omega) (fin4_turn _ bt qt) (fin4 a.t)
theorem set_qu {b i : Nat} (hi : i < 3) (h : w.heap[b]? = some (quO q)) (k : Nat) : (w.setCell ⟨b, i + 1, none⟩ (.int .i64 k)).heap[b]? = some (quO (setQ i q k)) := by
  have := heap_setCell_same _ _ (i + 1) _ _ (.int .i64 (k : Int)) h
  match i, hi with
  | 0, _ => exact this
  | 1, _ => exact this
  | 2, _ => exact this
theorem SplW.sets (h : SplW w0 bq bf bt q qf qt w) (h0 : w0.heap.size ≤ bq) (h1 : bq < bf) (h2 : bf < bt) {i : Nat} (hi : i < 3) (k j : Nat) : SplW w0 bq bf bt q (setQ i qf k) (setQ i qt j) ((w.setCell ⟨bf, i + 1, none⟩ (.int .i64 k)).setCell ⟨bt, i + 1, none⟩ (.int .i64 j)) := by
  have a := h.turnF (by omega) (by omega) (by omega) ((Turn.refl (fun i => i = bf) w).setCell (p := ⟨bf, i + 1, none⟩) (.inl rfl) (.int .i64 k)) (set_qu hi h.f k)
  exact a.turnT (by omega) (by omega) (by omega) ((Turn.refl (fun i => i = bt) _).setCell (p := ⟨bt, i + 1, none⟩) (.inl rfl) (.int .i64 j)) (set_qu hi a.t j)
end

theorem idx0 (x y z : Value) (w : World) : (Instr.index 22 (.agg #[x, y, z]) (.int .i64 0)).run Try.prog w = .ok x w := by kernel_rfl
theorem idx1 (x y z : Value) (w : World) : (Instr.index 22 (.agg #[x, y, z]) (.int .i64 1)).run Try.prog w = .ok y w := by kernel_rfl
theorem idx2 (x y z : Value) (w : World) : (Instr.index 22 (.agg #[x, y, z]) (.int .i64 2)).run Try.prog w = .ok z w := by kernel_rfl

def SplOut (V : Nat) (cs : List Nd) (q : Qu) (w : World) (e : Ending) (w' : World) : Prop :=
  e = .returned (.tuple #[.int .i64 (splitV V cs q), quV (half false (splitV V cs q) cs q), quV (half true (splitV V cs q) cs q)]) ∧ Below w.heap.size w w'

set_option maxRecDepth 100000 in
set_option maxHeartbeats 4000000 in
theorem split_any {w : World} {m : Mem} {h : Hd} {cs : List Nd} (s : St w m h cs) {o : Nat} {d x : Int} {mp : Option Nat} {sw : Int} (ha : OpsAt w o m.s d x mp sw) {u : Int} {q : Qu} (hq : QAt cs u q) :
    Calls Try.prog 62 #[.pointer (some ⟨o, 0, none⟩), quV q] w (SplOut h.V cs q w) := by
  have b3 := ((((Below.refl w.heap.size w).alloc (Nat.le_refl _) (quO q)).alloc (by simp) (.cells #[.int .i64 0, .int .i64 0, .int .i64 0, .int .i64 0] 98)).alloc (by simp; omega) (.cells #[.int .i64 0, .int .i64 0, .int .i64 0, .int .i64 0] 98))
  have hq0 := heap_alloc_new w (quO q)
  have hf0 := heap_alloc_new (w.alloc (quO q)) (.cells #[.int .i64 0, .int .i64 0, .int .i64 0, .int .i64 0] 98)
  have ht0 := heap_alloc_new ((w.alloc (quO q)).alloc (.cells #[.int .i64 0, .int .i64 0, .int .i64 0, .int .i64 0] 98)) (.cells #[.int .i64 0, .int .i64 0, .int .i64 0, .int .i64 0] 98)
  have z1 : (w.alloc (quO q)).heap.size = w.heap.size + 1 := by simp
  have z2 : ((w.alloc (quO q)).alloc (.cells #[.int .i64 0, .int .i64 0, .int .i64 0, .int .i64 0] 98)).heap.size = w.heap.size + 1 + 1 := by simp
  have S0 : SplW w w.heap.size (w.heap.size + 1) (w.heap.size + 1 + 1) q ⟨0, 0, 0, 0⟩ ⟨0, 0, 0, 0⟩ (((w.alloc (quO q)).alloc (.cells #[.int .i64 0, .int .i64 0, .int .i64 0, .int .i64 0] 98)).alloc (.cells #[.int .i64 0, .int .i64 0, .int .i64 0, .int .i64 0] 98)) := by
    refine ⟨?_, ?_, ?_, b3⟩
    · rw [Below.heap_alloc _ _ _ (by rw [z2]; omega), Below.heap_alloc _ _ _ (by rw [z1]; omega)]; exact hq0
    · rw [Below.heap_alloc _ _ _ (by rw [z2]; omega)]; rw [z1] at hf0; exact hf0
    · rw [z2] at ht0; exact ht0
  have S0 := Lib.hid S0
  have VR := Lib.hid fun (w' : World) (hb : Below w.heap.size w w') => vars_store (s.lay.keep hb)
  have NA := Lib.hid fun (w' : World) (hb : Below w.heap.size w w') => node_yes (s.lay.keep hb) hq.a.is.1
  have NB := Lib.hid fun (w' : World) (hb : Below w.heap.size w w') => node_yes (s.lay.keep hb) hq.b.is.1
  have NC := Lib.hid fun (w' : World) (hb : Below w.heap.size w w') => node_yes (s.lay.keep hb) hq.c.is.1
  have OC := Lib.hid fun (w' : World) (hb : Below w.heap.size w w') => (ha.keep hb).c1
  unfold ptrV at VR NA NB NC
  unfold quO at S0
  unfold quV
  clear ha hq b3 hq0 hf0 ht0 z1 z2 s
  go_enter Try.func62, Try.ntmps62
  go_wp2_with fail
  revert S0
  generalize ((w.alloc (.cells #[.int .i64 q.kind, .int .i64 q.a, .int .i64 q.b, .int .i64 q.c] 98)).alloc (.cells #[.int .i64 0, .int .i64 0, .int .i64 0, .int .i64 0] 98)).alloc (.cells #[.int .i64 0, .int .i64 0, .int .i64 0, .int .i64 0] 98) = w3
  generalize hbt : w.heap.size + 1 + 1 = bt
  generalize hbf : w.heap.size + 1 = bf
  generalize hbq : w.heap.size = bq
  have o0 : w.heap.size ≤ bq := by omega
  have o1 : bq < bf := by omega
  have o2 : bf < bt := by omega
  have n1 : ¬ bq = bf := by omega
  have n2 : ¬ bq = bt := by omega
  have n3 : ¬ bf = bt := by omega
  clear hbt hbf hbq
  intro S0
  go_cut [4] from 13 to 19 (fun v4 wx => v4 = .int .i64 h.V ∧ SplW w bq bf bt q q q wx)
  case first =>
    obtain ⟨c0, c1, c2, c3, cf⟩ := qu_cells S0.out.q
    obtain ⟨f0, f1, f2, f3, ff⟩ := qu_cells S0.out.f
    obtain ⟨t0, t1, t2, t3, tf⟩ := qu_cells S0.out.t
    have oc := OC.out _ S0.out.below
    go_region_with (go_at_call 71; refine (VR.out _ S0.out.drew.below).mono ?_; rintro e w' ⟨rfl, rfl⟩)
    all_goals
      go_wp2_with fail
      go_meet
      have HF := (S0.out.fins o0 o1 o2).drew
      unfold Fin4 at HF
      exact ⟨rfl, HF⟩
  case rest =>
    obtain ⟨rfl, sw1⟩ := hcut
    obtain ⟨c0, c1, c2, c3, cf⟩ := qu_cells sw1.q
    have S1 := Lib.hid sw1
    clear sw1 S0
    go_wp2_with fail
    have OC1 := OC
    go_loopw [4, 22] (fun v4 ix wr => ∃ i : Nat, i ≤ 3 ∧ ix = .int .i64 i ∧ v4 = .int .i64 (vAt h.V cs q i) ∧ SplW w bq bf bt q (hAt false h.V cs q i) (hAt true h.V cs q i) wr) (fun _ ix _ => 3 - (intOf ix).toNat)
    case atStart => exact ⟨0, by omega, rfl, rfl, S1.out⟩
    case round =>
      clear S1 c0 c1 c2 c3 cf
      obtain ⟨i, hi, rfl, rfl, sw1⟩ := hrel
      have oc := OC.out _ sw1.below
      rcases (by omega : i = 0 ∨ i = 1 ∨ i = 2 ∨ i = 3) with rfl | rfl | rfl | rfl
      · -- node 0
        have hix := idx0
        obtain ⟨c0, c1, c2, c3, cf⟩ := qu_cells sw1.q
        rcases Int.lt_trichotomy (nd cs q.a).asks (vAt h.V cs q 0) with h1 | h1 | h1
        · have A1 := Lib.hid (step_lt (q := q) false (i := 0) (by omega) h1)
          have A2 := Lib.hid (step_lt (q := q) true (i := 0) (by omega) h1)
          have SS := Lib.hid sw1
          go_wp2_with fail
          refine (NA.out _ SS.out.below).mono ?_
          rintro e w1 ⟨rfl, dn, rfl⟩
          clear c0 c1 c2 c3 cf sw1
          have S5 := Lib.hid (SS.out.drewN dn)
          revert S5
          generalize wr.drewN dn = w5
          intro S5
          obtain ⟨c0, c1, c2, c3, cf⟩ := qu_cells S5.out.q
          obtain ⟨f0, f1, f2, f3, ff⟩ := qu_cells S5.out.f
          obtain ⟨t0, t1, t2, t3, tf⟩ := qu_cells S5.out.t
          go_wp2_with fail
          go_region
          go_wp2_with fail
          go_round
          case rel =>
            have HF := ((S5.out.fins o0 o1 o2).sets o0 o1 o2 (i := 0) (by omega) (nd cs q.a).low (nd cs q.a).high).drew
            unfold Fin4 at HF
            exact ⟨1, by omega, rfl, by rw [A1.out.1]; rfl, by rw [A1.out.2, A2.out.2]; exact HF⟩
          case measure => simp [intOf]
        · have A1 := Lib.hid (step_eq (q := q) false (i := 0) (by omega) h1)
          have A2 := Lib.hid (step_eq (q := q) true (i := 0) (by omega) h1)
          have SS := Lib.hid sw1
          have h2 : ¬ (nd cs q.a).asks < vAt h.V cs q 0 := by omega
          have h3 : ((nd cs q.a).asks == vAt h.V cs q 0) = true := by simpa using h1
          clear h1
          go_wp2_with fail
          refine (NA.out _ SS.out.below).mono ?_
          rintro e w1 ⟨rfl, dn, rfl⟩
          clear c0 c1 c2 c3 cf sw1
          have S5 := Lib.hid (SS.out.drewN dn)
          revert S5
          generalize wr.drewN dn = w5
          intro S5
          obtain ⟨c0, c1, c2, c3, cf⟩ := qu_cells S5.out.q
          obtain ⟨f0, f1, f2, f3, ff⟩ := qu_cells S5.out.f
          obtain ⟨t0, t1, t2, t3, tf⟩ := qu_cells S5.out.t
          go_wp2_with fail
          go_round
          case rel =>
            have HF := S5.out.sets o0 o1 o2 (i := 0) (by omega) (nd cs q.a).low (nd cs q.a).high
            exact ⟨1, by omega, rfl, by rw [A1.out.1], by rw [A1.out.2, A2.out.2]; exact HF⟩
          case measure => simp [intOf]
        · have A1 := Lib.hid (step_gt (q := q) false (i := 0) (by omega) h1)
          have A2 := Lib.hid (step_gt (q := q) true (i := 0) (by omega) h1)
          have SS := Lib.hid sw1
          have h2 : ¬ (nd cs q.a).asks < vAt h.V cs q 0 := by omega
          have h3 : ((nd cs q.a).asks == vAt h.V cs q 0) = false := by simp; omega
          clear h1
          go_wp2_with fail
          refine (NA.out _ SS.out.below).mono ?_
          rintro e w1 ⟨rfl, dn, rfl⟩
          clear c0 c1 c2 c3 cf sw1
          have S5 := Lib.hid (SS.out.drewN dn)
          revert S5
          generalize wr.drewN dn = w5
          intro S5
          obtain ⟨c0, c1, c2, c3, cf⟩ := qu_cells S5.out.q
          obtain ⟨f0, f1, f2, f3, ff⟩ := qu_cells S5.out.f
          obtain ⟨t0, t1, t2, t3, tf⟩ := qu_cells S5.out.t
          go_wp2_with fail
          go_round
          case rel =>
            exact ⟨1, by omega, rfl, by rw [A1.out.1], by rw [A1.out.2, A2.out.2]; exact S5.out⟩
          case measure => simp [intOf]
      · -- node 1
        have hix := idx1
        obtain ⟨c0, c1, c2, c3, cf⟩ := qu_cells sw1.q
        rcases Int.lt_trichotomy (nd cs q.b).asks (vAt h.V cs q 1) with h1 | h1 | h1
        · have A1 := Lib.hid (step_lt (q := q) false (i := 1) (by omega) h1)
          have A2 := Lib.hid (step_lt (q := q) true (i := 1) (by omega) h1)
          have SS := Lib.hid sw1
          go_wp2_with fail
          refine (NB.out _ SS.out.below).mono ?_
          rintro e w1 ⟨rfl, dn, rfl⟩
          clear c0 c1 c2 c3 cf sw1
          have S5 := Lib.hid (SS.out.drewN dn)
          revert S5
          generalize wr.drewN dn = w5
          intro S5
          obtain ⟨c0, c1, c2, c3, cf⟩ := qu_cells S5.out.q
          obtain ⟨f0, f1, f2, f3, ff⟩ := qu_cells S5.out.f
          obtain ⟨t0, t1, t2, t3, tf⟩ := qu_cells S5.out.t
          go_wp2_with fail
          go_region
          go_wp2_with fail
          go_round
          case rel =>
            have HF := ((S5.out.fins o0 o1 o2).sets o0 o1 o2 (i := 1) (by omega) (nd cs q.b).low (nd cs q.b).high).drew
            unfold Fin4 at HF
            exact ⟨2, by omega, rfl, by rw [A1.out.1]; rfl, by rw [A1.out.2, A2.out.2]; exact HF⟩
          case measure => simp [intOf]
        · have A1 := Lib.hid (step_eq (q := q) false (i := 1) (by omega) h1)
          have A2 := Lib.hid (step_eq (q := q) true (i := 1) (by omega) h1)
          have SS := Lib.hid sw1
          have h2 : ¬ (nd cs q.b).asks < vAt h.V cs q 1 := by omega
          have h3 : ((nd cs q.b).asks == vAt h.V cs q 1) = true := by simpa using h1
          clear h1
          go_wp2_with fail
          refine (NB.out _ SS.out.below).mono ?_
          rintro e w1 ⟨rfl, dn, rfl⟩
          clear c0 c1 c2 c3 cf sw1
          have S5 := Lib.hid (SS.out.drewN dn)
          revert S5
          generalize wr.drewN dn = w5
          intro S5
          obtain ⟨c0, c1, c2, c3, cf⟩ := qu_cells S5.out.q
          obtain ⟨f0, f1, f2, f3, ff⟩ := qu_cells S5.out.f
          obtain ⟨t0, t1, t2, t3, tf⟩ := qu_cells S5.out.t
          go_wp2_with fail
          go_round
          case rel =>
            have HF := S5.out.sets o0 o1 o2 (i := 1) (by omega) (nd cs q.b).low (nd cs q.b).high
            exact ⟨2, by omega, rfl, by rw [A1.out.1], by rw [A1.out.2, A2.out.2]; exact HF⟩
          case measure => simp [intOf]
        · have A1 := Lib.hid (step_gt (q := q) false (i := 1) (by omega) h1)
          have A2 := Lib.hid (step_gt (q := q) true (i := 1) (by omega) h1)
          have SS := Lib.hid sw1
          have h2 : ¬ (nd cs q.b).asks < vAt h.V cs q 1 := by omega
          have h3 : ((nd cs q.b).asks == vAt h.V cs q 1) = false := by simp; omega
          clear h1
          go_wp2_with fail
          refine (NB.out _ SS.out.below).mono ?_
          rintro e w1 ⟨rfl, dn, rfl⟩
          clear c0 c1 c2 c3 cf sw1
          have S5 := Lib.hid (SS.out.drewN dn)
          revert S5
          generalize wr.drewN dn = w5
          intro S5
          obtain ⟨c0, c1, c2, c3, cf⟩ := qu_cells S5.out.q
          obtain ⟨f0, f1, f2, f3, ff⟩ := qu_cells S5.out.f
          obtain ⟨t0, t1, t2, t3, tf⟩ := qu_cells S5.out.t
          go_wp2_with fail
          go_round
          case rel =>
            exact ⟨2, by omega, rfl, by rw [A1.out.1], by rw [A1.out.2, A2.out.2]; exact S5.out⟩
          case measure => simp [intOf]
      · -- node 2
        have hix := idx2
        obtain ⟨c0, c1, c2, c3, cf⟩ := qu_cells sw1.q
        rcases Int.lt_trichotomy (nd cs q.c).asks (vAt h.V cs q 2) with h1 | h1 | h1
        · have A1 := Lib.hid (step_lt (q := q) false (i := 2) (by omega) h1)
          have A2 := Lib.hid (step_lt (q := q) true (i := 2) (by omega) h1)
          have SS := Lib.hid sw1
          go_wp2_with fail
          refine (NC.out _ SS.out.below).mono ?_
          rintro e w1 ⟨rfl, dn, rfl⟩
          clear c0 c1 c2 c3 cf sw1
          have S5 := Lib.hid (SS.out.drewN dn)
          revert S5
          generalize wr.drewN dn = w5
          intro S5
          obtain ⟨c0, c1, c2, c3, cf⟩ := qu_cells S5.out.q
          obtain ⟨f0, f1, f2, f3, ff⟩ := qu_cells S5.out.f
          obtain ⟨t0, t1, t2, t3, tf⟩ := qu_cells S5.out.t
          go_wp2_with fail
          go_region
          go_wp2_with fail
          go_round
          case rel =>
            have HF := ((S5.out.fins o0 o1 o2).sets o0 o1 o2 (i := 2) (by omega) (nd cs q.c).low (nd cs q.c).high).drew
            unfold Fin4 at HF
            exact ⟨3, by omega, rfl, by rw [A1.out.1]; rfl, by rw [A1.out.2, A2.out.2]; exact HF⟩
          case measure => simp [intOf]
        · have A1 := Lib.hid (step_eq (q := q) false (i := 2) (by omega) h1)
          have A2 := Lib.hid (step_eq (q := q) true (i := 2) (by omega) h1)
          have SS := Lib.hid sw1
          have h2 : ¬ (nd cs q.c).asks < vAt h.V cs q 2 := by omega
          have h3 : ((nd cs q.c).asks == vAt h.V cs q 2) = true := by simpa using h1
          clear h1
          go_wp2_with fail
          refine (NC.out _ SS.out.below).mono ?_
          rintro e w1 ⟨rfl, dn, rfl⟩
          clear c0 c1 c2 c3 cf sw1
          have S5 := Lib.hid (SS.out.drewN dn)
          revert S5
          generalize wr.drewN dn = w5
          intro S5
          obtain ⟨c0, c1, c2, c3, cf⟩ := qu_cells S5.out.q
          obtain ⟨f0, f1, f2, f3, ff⟩ := qu_cells S5.out.f
          obtain ⟨t0, t1, t2, t3, tf⟩ := qu_cells S5.out.t
          go_wp2_with fail
          go_round
          case rel =>
            have HF := S5.out.sets o0 o1 o2 (i := 2) (by omega) (nd cs q.c).low (nd cs q.c).high
            exact ⟨3, by omega, rfl, by rw [A1.out.1], by rw [A1.out.2, A2.out.2]; exact HF⟩
          case measure => simp [intOf]
        · have A1 := Lib.hid (step_gt (q := q) false (i := 2) (by omega) h1)
          have A2 := Lib.hid (step_gt (q := q) true (i := 2) (by omega) h1)
          have SS := Lib.hid sw1
          have h2 : ¬ (nd cs q.c).asks < vAt h.V cs q 2 := by omega
          have h3 : ((nd cs q.c).asks == vAt h.V cs q 2) = false := by simp; omega
          clear h1
          go_wp2_with fail
          refine (NC.out _ SS.out.below).mono ?_
          rintro e w1 ⟨rfl, dn, rfl⟩
          clear c0 c1 c2 c3 cf sw1
          have S5 := Lib.hid (SS.out.drewN dn)
          revert S5
          generalize wr.drewN dn = w5
          intro S5
          obtain ⟨c0, c1, c2, c3, cf⟩ := qu_cells S5.out.q
          obtain ⟨f0, f1, f2, f3, ff⟩ := qu_cells S5.out.f
          obtain ⟨t0, t1, t2, t3, tf⟩ := qu_cells S5.out.t
          go_wp2_with fail
          go_round
          case rel =>
            exact ⟨3, by omega, rfl, by rw [A1.out.1], by rw [A1.out.2, A2.out.2]; exact S5.out⟩
          case measure => simp [intOf]
      · have SS2 : SplW w bq bf bt q (half false (splitV h.V cs q) cs q) (half true (splitV h.V cs q) cs q) wr := sw1
        have ev : vAt h.V cs q 3 = splitV h.V cs q := rfl
        rw [ev]
        have S5 := Lib.hid SS2
        clear SS2 sw1 ev
        obtain ⟨qf, hqf⟩ : ∃ qf, qf = half false (splitV h.V cs q) cs q := ⟨_, rfl⟩
        obtain ⟨qt, hqt⟩ : ∃ qt, qt = half true (splitV h.V cs q) cs q := ⟨_, rfl⟩
        obtain ⟨vv, hvv⟩ : ∃ vv, vv = splitV h.V cs q := ⟨_, rfl⟩
        rw [← hqf, ← hqt] at S5
        rw [← hvv]
        have QF := Lib.hid hqf
        have QT := Lib.hid hqt
        have QV := Lib.hid hvv
        clear hqf hqt hvv
        obtain ⟨f0, f1, f2, f3, ff⟩ := qu_cells S5.out.f
        obtain ⟨t0, t1, t2, t3, tf⟩ := qu_cells S5.out.t
        go_wp2_with fail
        go_region
        go_wp2_with fail
        have HF := (S5.out.self o0 o1 o2).drew
        unfold Fin4 at HF
        clear f0 f1 f2 f3 ff t0 t1 t2 t3 tf
        revert HF
        generalize (((((((((wr.setCell ⟨bf, 0, none⟩ (.int .i64 qf.kind)).setCell ⟨bf, 1, none⟩ (.int .i64 qf.a)).setCell ⟨bf, 2, none⟩ (.int .i64 qf.b)).setCell ⟨bf, 3, none⟩ (.int .i64 qf.c)).setCell ⟨bt, 0, none⟩ (.int .i64 qt.kind)).setCell ⟨bt, 1, none⟩ (.int .i64 qt.a)).setCell ⟨bt, 2, none⟩ (.int .i64 qt.b)).setCell ⟨bt, 3, none⟩ (.int .i64 qt.c)).drew) = wf
        intro HF
        obtain ⟨f0, f1, f2, f3, -⟩ := qu_cells HF.f
        obtain ⟨t0, t1, t2, t3, -⟩ := qu_cells HF.t
        exact bodyPost_ret (v := .tuple #[.int .i64 vv, quV qf, quV qt]) (by simp [results, Try.results62, go_sem, quV, f0, f1, f2, f3, t0, t1, t2, t3]) rfl ⟨by rw [QF.out, QT.out, QV.out], HF.below⟩
end Go.Proofs.Ytfdebadmikmnaaa
