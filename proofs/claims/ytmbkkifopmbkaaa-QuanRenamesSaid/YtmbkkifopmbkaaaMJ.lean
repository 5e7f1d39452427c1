/- Merged: QSplit, QKey2, QExist, QPair, QFindP, QProd. -/
import Derived.Test.YtmbkkifopmbkaaaMI
import Derived.Deep.DeepCutAuto
import Derived.Laws.EntriesVeiled

/- Contracts of layer 5 (quan): two nodes split by the first variable that they ask. -/
namespace Go.Proofs.Ytmbkkifopmbkaaa
open Go.ChangeShapes Go.WideShapes Go.ChangeAt Go.RowKit Go.Maps

/-- Two nodes. -/
structure Pr where
  a : Nat
  b : Nat
  deriving DecidableEq

def prV (p : Pr) : Value := .agg #[.int .i64 p.a, .int .i64 p.b]
def prO (p : Pr) : Obj := .cells #[.int .i64 p.a, .int .i64 p.b] 82

def pairV (V : Nat) (cs : List Nd) (p : Pr) : Int := min (min (V : Int) (nd cs p.a).asks) (nd cs p.b).asks
def halfP (x : Bool) (v : Int) (cs : List Nd) (p : Pr) : Pr := ⟨part x v cs p.a, part x v cs p.b⟩
def vAtP (V : Nat) (cs : List Nd) (p : Pr) (i : Nat) : Int := match i with | 0 => V | 1 => min (V : Int) (nd cs p.a).asks | _ => pairV V cs p
def hAtP (x : Bool) (v : Int) (cs : List Nd) (p : Pr) (i : Nat) : Pr := match i with | 0 => p | 1 => ⟨part x v cs p.a, p.b⟩ | _ => halfP x v cs p

theorem pr_cells {w : World} {b : Nat} {p : Pr} (h : w.heap[b]? = some (prO p)) :
    w.cell? ⟨b, 0, none⟩ = some (.int .i64 p.a) ∧ w.cell? ⟨b, 1, none⟩ = some (.int .i64 p.b) ∧ ∀ o, w.frozen? ⟨b, o, none⟩ = false :=
  ⟨cell_of_row w b 0 _ _ _ h, cell_of_row w b 1 _ _ _ h, fun o => frozen_of_row w b o _ _ h⟩

/-- The three variables of split. -/
structure SpP (w0 : World) (bq bf bt : Nat) (p pf pt : Pr) (w : World) : Prop where
  q : w.heap[bq]? = some (prO p)
  f : w.heap[bf]? = some (prO pf)
  t : w.heap[bt]? = some (prO pt)
  below : Below w0.heap.size w0 w

def Fin2 (w : World) (b : Nat) (p : Pr) : World := (w.setCell ⟨b, 0, none⟩ (.int .i64 p.a)).setCell ⟨b, 1, none⟩ (.int .i64 p.b)
theorem fin2 {w : World} {b : Nat} {p q : Pr} (h0 : w.heap[b]? = some (prO p)) : (Fin2 w b q).heap[b]? = some (prO q) := by
  unfold prO at h0
  have h1 := heap_setCell_same _ _ 0 _ _ (.int .i64 q.a) h0
  exact heap_setCell_same _ _ 1 _ _ (.int .i64 q.b) h1
theorem fin2_turn (w : World) (b : Nat) (p : Pr) : Turn (fun i => i = b) w (Fin2 w b p) := by
  unfold Fin2
  exact (((Turn.refl (fun i => i = b) w).setCell (p := ⟨b, 0, none⟩) (.inl rfl) _).setCell (p := ⟨b, 1, none⟩) (.inl rfl) _)

section
variable {w0 w : World} {bq bf bt : Nat} {p pf pt : Pr}
theorem SpP.drew (h : SpP w0 bq bf bt p pf pt w) : SpP w0 bq bf bt p pf pt w.drew := ⟨h.q, h.f, h.t, h.below.trans ((below_drew w).mono h.below.size)⟩
theorem SpP.drewN (h : SpP w0 bq bf bt p pf pt w) (n : Nat) : SpP w0 bq bf bt p pf pt (w.drewN n) := ⟨h.q, h.f, h.t, h.below.trans ((below_drewN0 w n).mono h.below.size)⟩
theorem SpP.turnF (h : SpP w0 bq bf bt p pf pt w) {w' : World} {r : Pr} (h0 : w0.heap.size ≤ bf) (h1 : bq ≠ bf) (h2 : bt ≠ bf) (ht : Turn (fun i => i = bf) w w') (hp : w'.heap[bf]? = some (prO r)) : SpP w0 bq bf bt p r pt w' :=
  ⟨(ht.block _ (row_lt h.q) h1).trans h.q, hp, (ht.block _ (row_lt h.t) h2).trans h.t, Turn.to_below h.below ht (fun i hi => by omega) h.below.size⟩
theorem SpP.turnT (h : SpP w0 bq bf bt p pf pt w) {w' : World} {r : Pr} (h0 : w0.heap.size ≤ bt) (h1 : bq ≠ bt) (h2 : bf ≠ bt) (ht : Turn (fun i => i = bt) w w') (hp : w'.heap[bt]? = some (prO r)) : SpP w0 bq bf bt p pf r w' :=
  ⟨(ht.block _ (row_lt h.q) h1).trans h.q, (ht.block _ (row_lt h.f) h2).trans h.f, hp, Turn.to_below h.below ht (fun i hi => by omega) h.below.size⟩
theorem SpP.fins (h : SpP w0 bq bf bt p pf pt w) (h0 : w0.heap.size ≤ bq) (h1 : bq < bf) (h2 : bf < bt) (r s : Pr) : SpP w0 bq bf bt p r s (Fin2 (Fin2 w bf r) bt s) := by
  have a := h.turnF (by omega) (by omega) (by omega) (fin2_turn w bf r) (fin2 h.f)
  exact a.turnT (by omega) (by omega) (by omega) (fin2_turn _ bt s) (fin2 a.t)
theorem SpP.set0 (h : SpP w0 bq bf bt p pf pt w) (h0 : w0.heap.size ≤ bq) (h1 : bq < bf) (h2 : bf < bt) (k j : Nat) : SpP w0 bq bf bt p ⟨k, pf.b⟩ ⟨j, pt.b⟩ ((w.setCell ⟨bf, 0, none⟩ (.int .i64 k)).setCell ⟨bt, 0, none⟩ (.int .i64 j)) := by
  have a := h.turnF (r := ⟨k, pf.b⟩) (by omega) (by omega) (by omega) ((Turn.refl (fun i => i = bf) w).setCell (p := ⟨bf, 0, none⟩) (.inl rfl) (.int .i64 k)) (heap_setCell_same _ _ 0 _ _ (.int .i64 (k : Int)) h.f)
  exact a.turnT (r := ⟨j, pt.b⟩) (by omega) (by omega) (by omega) ((Turn.refl (fun i => i = bt) _).setCell (p := ⟨bt, 0, none⟩) (.inl rfl) (.int .i64 j)) (heap_setCell_same _ _ 0 _ _ (.int .i64 (j : Int)) a.t)
theorem SpP.set1 (h : SpP w0 bq bf bt p pf pt w) (h0 : w0.heap.size ≤ bq) (h1 : bq < bf) (h2 : bf < bt) (k j : Nat) : SpP w0 bq bf bt p ⟨pf.a, k⟩ ⟨pt.a, j⟩ ((w.setCell ⟨bf, 1, none⟩ (.int .i64 k)).setCell ⟨bt, 1, none⟩ (.int .i64 j)) := by
  have a := h.turnF (r := ⟨pf.a, k⟩) (by omega) (by omega) (by omega) ((Turn.refl (fun i => i = bf) w).setCell (p := ⟨bf, 1, none⟩) (.inl rfl) (.int .i64 k)) (heap_setCell_same _ _ 1 _ _ (.int .i64 (k : Int)) h.f)
  exact a.turnT (r := ⟨pt.a, j⟩) (by omega) (by omega) (by omega) ((Turn.refl (fun i => i = bt) _).setCell (p := ⟨bt, 1, none⟩) (.inl rfl) (.int .i64 j)) (heap_setCell_same _ _ 1 _ _ (.int .i64 (j : Int)) a.t)
end

theorem min_if (a b : Int) : (if b < a then b else a) = min a b := by
  by_cases h : b < a
  · rw [if_pos h]; omega
  · rw [if_neg h]; omega

theorem ix20 (x y : Value) (w : World) : (Instr.index 82 (.agg #[x, y]) (.int .i64 0)).run Try.prog w = .ok x w := by kernel_rfl
theorem ix21 (x y : Value) (w : World) : (Instr.index 82 (.agg #[x, y]) (.int .i64 1)).run Try.prog w = .ok y w := by kernel_rfl

def SpPOut (V : Nat) (cs : List Nd) (p : Pr) (w : World) (e : Ending) (w' : World) : Prop :=
  e = .returned (.tuple #[.int .i64 (pairV V cs p), prV (halfP false (pairV V cs p) cs p), prV (halfP true (pairV V cs p) cs p)]) ∧ Below w.heap.size w w'

set_option maxRecDepth 100000 in
set_option maxHeartbeats 4000000 in
theorem qsplit_any {w : World} {m : Mem} {h : Hd} {cs : List Nd} {o q : Nat} {mb : Option Nat} (r : OSt w m h cs o mb) (ha : QuanAt w q o) {u : Int} {p : Pr} (hpa : At cs u p.a) (hpb : At cs u p.b) :
    Calls Try.prog 57 #[.pointer (some ⟨q, 0, none⟩), prV p] w (SpPOut h.V cs p w) := by
  have b3 := ((((Below.refl w.heap.size w).alloc (Nat.le_refl _) (prO p)).alloc (by simp) (.cells #[.int .i64 0, .int .i64 0] 82)).alloc (by simp; omega) (.cells #[.int .i64 0, .int .i64 0] 82))
  have S0 : SpP w w.heap.size (w.heap.size + 1) (w.heap.size + 1 + 1) p ⟨0, 0⟩ ⟨0, 0⟩ (((w.alloc (prO p)).alloc (.cells #[.int .i64 0, .int .i64 0] 82)).alloc (.cells #[.int .i64 0, .int .i64 0] 82)) :=
    ⟨at_old _ (at_old _ (heap_alloc_new w (prO p))), at_old _ (at_new (n := w.heap.size + 1) (w := w.alloc (prO p)) _ (by simp)), at_new (n := w.heap.size + 1 + 1) (w := (w.alloc (prO p)).alloc (.cells #[.int .i64 0, .int .i64 0] 82)) _ (by simp), b3⟩
  have S0 := Lib.hid S0
  have SO := Lib.hid fun (w' : World) (hb : Below w.heap.size w w') => store_ops (r.keep hb)
  have VR := Lib.hid fun (w' : World) (hb : Below w.heap.size w w') => vars_store (r.st.lay.keep hb)
  have NA := Lib.hid fun (w' : World) (hb : Below w.heap.size w w') => node_yes (r.st.lay.keep hb) hpa.is.1
  have NB := Lib.hid fun (w' : World) (hb : Below w.heap.size w w') => node_yes (r.st.lay.keep hb) hpb.is.1
  have QC := Lib.hid fun (w' : World) (hb : Below w.heap.size w w') => (ha.keep hb).c1
  unfold ptrV at SO VR NA NB
  unfold prO at S0
  unfold prV
  clear ha hpa hpb b3 r
  go_enter Try.func57, Try.ntmps57
  have qc := QC.out _ S0.out.below
  go_wp2_with fail
  refine (SO.out _ S0.out.below).mono ?_
  rintro e w1 ⟨rfl, rfl⟩
  clear qc
  revert S0
  generalize ((w.alloc (.cells #[.int .i64 p.a, .int .i64 p.b] 82)).alloc (.cells #[.int .i64 0, .int .i64 0] 82)).alloc (.cells #[.int .i64 0, .int .i64 0] 82) = w0
  generalize hbt : w.heap.size + 1 + 1 = bt
  generalize hbf : w.heap.size + 1 = bf
  generalize hbq : w.heap.size = bq
  have o0 : w.heap.size ≤ bq := by omega
  have o1 : bq < bf := by omega
  have o2 : bf < bt := by omega
  have n1 : ¬ bq = bf := by omega
  have n2 : ¬ bq = bt := by omega
  have n3 : ¬ bf = bt := by omega
  clear hbt hbf hbq
  intro S0
  obtain ⟨c0, c1, cf⟩ := pr_cells S0.out.q
  go_wp2_with fail
  refine (VR.out _ S0.out.below).mono ?_
  rintro e w1 ⟨rfl, rfl⟩
  go_wp2_with fail
  have S1 : Hid (∃ pf pt, SpP w bq bf bt p pf pt w0) := ⟨_, _, S0.out⟩
  clear S0 c0 c1 cf
  go_loopw [4, 28] (fun v4 ix wr => ∃ i : Nat, i ≤ 2 ∧ ix = .int .i64 i ∧ v4 = .int .i64 (vAtP h.V cs p i) ∧ ∃ pf pt, SpP w bq bf bt p pf pt wr) (fun _ ix _ => 2 - (intOf ix).toNat)
  case atStart => exact ⟨0, by omega, rfl, rfl, S1.out⟩
  case round =>
    clear S1
    obtain ⟨i, hi, rfl, rfl, pf, pt, sw1⟩ := hrel
    have S1 := Lib.hid sw1
    clear sw1
    rcases (by omega : i = 0 ∨ i = 1 ∨ i = 2) with rfl | rfl | rfl
    · have hix := ix20
      go_wp2_with fail
      refine (NA.out _ S1.out.below).mono ?_
      rintro e w1 ⟨rfl, dn, rfl⟩
      have S5 : Hid (∃ pf pt, SpP w bq bf bt p pf pt (wr.drewN dn)) := ⟨_, _, S1.out.drewN dn⟩
      clear S1
      revert S5
      generalize wr.drewN dn = w5
      intro S5
      go_wp2_with fail
      go_roundw
      case rel => exact ⟨1, by omega, rfl, by rw [min_if]; rfl, S5.out⟩
      case measure => simp [intOf]
    · have hix := ix21
      go_wp2_with fail
      refine (NB.out _ S1.out.below).mono ?_
      rintro e w1 ⟨rfl, dn, rfl⟩
      have S5 : Hid (∃ pf pt, SpP w bq bf bt p pf pt (wr.drewN dn)) := ⟨_, _, S1.out.drewN dn⟩
      clear S1
      revert S5
      generalize wr.drewN dn = w5
      intro S5
      go_wp2_with fail
      go_roundw
      case rel => exact ⟨2, by omega, rfl, by rw [min_if]; rfl, S5.out⟩
      case measure => simp [intOf]
    · rw [show ((2 : Nat) : Int) = (2 : Int) from rfl]
      obtain ⟨c0, c1, cf⟩ := pr_cells S1.out.q
      obtain ⟨f0, f1, ff⟩ := pr_cells S1.out.f
      obtain ⟨t0, t1, tf⟩ := pr_cells S1.out.t
      obtain ⟨v, hv⟩ : ∃ v, pairV h.V cs p = v := ⟨_, rfl⟩
      have hv2 : vAtP h.V cs p 2 = v := hv
      have HV := Lib.hid hv
      rw [hv2]
      clear hv hv2
      go_wp2_with fail
      go_region
      have S2 := (S1.out.fins o0 o1 o2 p p).drew
      unfold Fin2 at S2
      revert S2
      generalize World.drew _ = w6
      intro S2
      have S3 := Lib.hid S2
      clear c0 c1 cf f0 f1 ff t0 t1 tf S1 S2
      obtain ⟨c0, c1, cf⟩ := pr_cells S3.out.q
      go_wp2_with fail
      go_loopw [46] (fun ix wr => ∃ i : Nat, i ≤ 2 ∧ ix = .int .i64 i ∧ SpP w bq bf bt p (hAtP false v cs p i) (hAtP true v cs p i) wr) (fun ix _ => 2 - (intOf ix).toNat)
      case atStart => exact ⟨0, by omega, rfl, S3.out⟩
      case round =>
        clear S3 c0 c1 cf
        obtain ⟨i, hi, rfl, sw1⟩ := hrel
        have SS := Lib.hid sw1
        clear sw1
        rcases (by omega : i = 0 ∨ i = 1 ∨ i = 2) with rfl | rfl | rfl
        · have hix := ix20
          rcases Classical.em ((nd cs p.a).asks = v) with h1 | h1
          · have h3 : ((nd cs p.a).asks == v) = true := by simpa using h1
            have PF : Hid (∀ x, part x v cs p.a = if x then (nd cs p.a).high else (nd cs p.a).low) := fun x => part_on h1
            clear h1
            go_wp2_with fail
            refine (NA.out _ SS.out.below).mono ?_
            rintro e w1 ⟨rfl, dn, rfl⟩
            have S5 := Lib.hid (SS.out.drewN dn)
            clear SS
            revert S5
            generalize wr.drewN dn = w5
            intro S5
            obtain ⟨f0, f1, ff⟩ := pr_cells S5.out.f
            obtain ⟨t0, t1, tf⟩ := pr_cells S5.out.t
            go_wp2_with fail
            go_round
            case rel =>
              have HF := S5.out.set0 o0 o1 o2 (nd cs p.a).low (nd cs p.a).high
              refine ⟨1, by omega, rfl, ?_⟩
              unfold hAtP
              rw [PF.out false, PF.out true]
              exact HF
            case measure => simp [intOf]
          · have h3 : ((nd cs p.a).asks == v) = false := by simpa using h1
            have PF : Hid (∀ x, part x v cs p.a = p.a) := fun x => part_off h1
            clear h1
            go_wp2_with fail
            refine (NA.out _ SS.out.below).mono ?_
            rintro e w1 ⟨rfl, dn, rfl⟩
            have S5 := Lib.hid (SS.out.drewN dn)
            clear SS
            revert S5
            generalize wr.drewN dn = w5
            intro S5
            go_wp2_with fail
            go_round
            case rel =>
              refine ⟨1, by omega, rfl, ?_⟩
              have HF := S5.out
              unfold hAtP at *
              rw [PF.out false, PF.out true]
              exact HF
            case measure => simp [intOf]
        · have hix := ix21
          rcases Classical.em ((nd cs p.b).asks = v) with h1 | h1
          · have h3 : ((nd cs p.b).asks == v) = true := by simpa using h1
            have PF : Hid (∀ x, part x v cs p.b = if x then (nd cs p.b).high else (nd cs p.b).low) := fun x => part_on h1
            clear h1
            go_wp2_with fail
            refine (NB.out _ SS.out.below).mono ?_
            rintro e w1 ⟨rfl, dn, rfl⟩
            have S5 := Lib.hid (SS.out.drewN dn)
            clear SS
            revert S5
            generalize wr.drewN dn = w5
            intro S5
            obtain ⟨f0, f1, ff⟩ := pr_cells S5.out.f
            obtain ⟨t0, t1, tf⟩ := pr_cells S5.out.t
            go_wp2_with fail
            go_round
            case rel =>
              have HF := S5.out.set1 o0 o1 o2 (nd cs p.b).low (nd cs p.b).high
              refine ⟨2, by omega, rfl, ?_⟩
              unfold hAtP halfP
              rw [PF.out false, PF.out true]
              exact HF
            case measure => simp [intOf]
          · have h3 : ((nd cs p.b).asks == v) = false := by simpa using h1
            have PF : Hid (∀ x, part x v cs p.b = p.b) := fun x => part_off h1
            clear h1
            go_wp2_with fail
            refine (NB.out _ SS.out.below).mono ?_
            rintro e w1 ⟨rfl, dn, rfl⟩
            have S5 := Lib.hid (SS.out.drewN dn)
            clear SS
            revert S5
            generalize wr.drewN dn = w5
            intro S5
            go_wp2_with fail
            go_round
            case rel =>
              refine ⟨2, by omega, rfl, ?_⟩
              have HF := S5.out
              unfold hAtP halfP at *
              rw [PF.out false, PF.out true]
              exact HF
            case measure => simp [intOf]
        · have SS2 : SpP w bq bf bt p (halfP false v cs p) (halfP true v cs p) wr := SS.out
          have S5 := Lib.hid SS2
          clear SS2 SS
          obtain ⟨qf, hqf⟩ : ∃ qf, qf = halfP false v cs p := ⟨_, rfl⟩
          obtain ⟨qt, hqt⟩ : ∃ qt, qt = halfP true v cs p := ⟨_, rfl⟩
          rw [← hqf, ← hqt] at S5
          have QF := Lib.hid hqf
          have QT := Lib.hid hqt
          clear hqf hqt
          obtain ⟨f0, f1, ff⟩ := pr_cells S5.out.f
          obtain ⟨t0, t1, tf⟩ := pr_cells S5.out.t
          go_wp2_with fail
          go_region
          go_wp2_with fail
          have HF := (S5.out.fins o0 o1 o2 qf qt).drew
          unfold Fin2 at HF
          clear f0 f1 ff t0 t1 tf
          revert HF
          generalize World.drew _ = wf
          intro HF
          obtain ⟨f0, f1, -⟩ := pr_cells HF.f
          obtain ⟨t0, t1, -⟩ := pr_cells HF.t
          exact bodyPost_ret (v := .tuple #[.int .i64 v, prV qf, prV qt]) (by simp [results, Try.results57, go_sem, prV, f0, f1, t0, t1]) rfl ⟨by rw [QF.out, QT.out, HV.out], HF.below⟩
end Go.Proofs.Ytmbkkifopmbkaaa

/- Layer 5 (quan): a map by pairs of nodes. -/
namespace Go.Proofs.Ytmbkkifopmbkaaa
open Go.ChangeShapes Go.WideShapes Go.ChangeAt Go.RowKit Go.Maps

theorem row2 : (82 : TypeId) < Try.prog.types.size := of_decide_eq_true (by kernel_rfl)
theorem wide2 : (match Try.prog.underlying 82 with | some (.array _ _) | some (.struct _) => true | _ => false) = true := by rw [Try.underlying82]
set_option maxRecDepth 100000 in
theorem law2 : Keyed Try.prog 82 := Keyed.of_law (deep_law_laid laidOutP (m := 4) (by omega) row2 (by kernel_rfl) wide2)
set_option maxRecDepth 100000 in
theorem deep2 : Try.prog.keyType 82 = true := by kernel_rfl
theorem cells2 : Try.prog.cellsOf 82 = 2 := by kernel_rfl

def Fits2 (p : Pr) : Prop := p.a < 9223372036854775808 ∧ p.b < 9223372036854775808

theorem kl_2 {d : Nat} {a b : Int} (ha : (Lit.int .i64 a).wf = true) (hb : (Lit.int .i64 b).wf = true) : Try.prog.keyLits (d + 2) 82 [.int .i64 a, .int .i64 b] = some [.int .i64 a, .int .i64 b] := by
  have la := kl_int (d := d) Try.underlying3 ha
  have lb := kl_int (d := d) Try.underlying3 hb
  unfold Program.keyLits
  rw [Try.underlying82]
  simp [cells2, cellsI, List.range_succ, List.range_zero, la, lb]

set_option maxRecDepth 100000 in
theorem key2_some {p : Pr} (h : Fits2 p) : ∃ l, keyOf Try.prog 82 (prV p) = some l := by
  obtain ⟨d, hd⟩ := deepE
  obtain ⟨h0, h1⟩ := h
  have w0 : (Lit.int .i64 (p.a : Int)).wf = true := WalkArith.wf_i64 (by omega)
  have w1 : (Lit.int .i64 (p.b : Int)).wf = true := WalkArith.wf_i64 (by omega)
  have hl : Try.prog.keyLits (d + 4) 82 [.int .i64 p.a, .int .i64 p.b] = some [.int .i64 p.a, .int .i64 p.b] := kl_2 (d := d + 2) w0 w1
  have hc : (prV p).cells.toList = [.int .i64 p.a, .int .i64 p.b] := by simp [prV, Value.cells]
  have hf : (prV p).formed Try.prog 82 = true := by simp [prV, Value.formed, Try.underlying82, cells2]
  unfold keyOf
  rw [Try.underlying82]
  simp only [deep2, hf, hd]
  refine ⟨.string (keyBytes [.int .i64 p.a, .int .i64 p.b]), ?_⟩
  rw [hc]
  rw [hl]
  rfl

theorem key2_inj {p q : Pr} {l : Lit} (hp : keyOf Try.prog 82 (prV p) = some l) (hq : keyOf Try.prog 82 (prV q) = some l) : p = q := by
  have h := law2.inj hp hq
  obtain ⟨a, b⟩ := p
  obtain ⟨a', b'⟩ := q
  simp only [prV, Value.agg.injEq, Array.mk.injEq, List.cons.injEq, Value.int.injEq, true_and, and_true] at h
  obtain ⟨h0, h1⟩ := h
  have h0 := Int.ofNat.inj h0
  have h1 := Int.ofNat.inj h1
  subst h0 h1
  rfl

/-- A map from pairs to numbers. -/
abbrev PMap (w : World) (b n : Nat) (D : DataW Unit) : Prop := w.ownsMap Try.prog 82 (plainElem Try.prog 3) b n D

def PGood (P : Pr → Nat → Prop) (D : DataW Unit) : Prop := ∀ (p : Pr) (l : Lit), keyOf Try.prog 82 (prV p) = some l → Maps.has D l = true → ∃ k : Nat, D.atKey l (.lit (.int .i64 0)) = .lit (.int .i64 (k : Int)) ∧ P p k

theorem PGood.empty (P : Pr → Nat → Prop) : PGood P (.map []) := by
  intro q l _ h
  simp [Maps.has] at h
theorem PGood.mono {P Q : Pr → Nat → Prop} {D : DataW Unit} (h : PGood P D) (hpq : ∀ p k, P p k → Q p k) : PGood Q D := fun p l hl hh => by
  obtain ⟨k, h1, h2⟩ := h p l hl hh
  exact ⟨k, h1, hpq p k h2⟩
theorem PGood.put {P : Pr → Nat → Prop} {D : DataW Unit} (h : PGood P D) (hm : Maps.IsMap D) {p : Pr} {l : Lit} (hl : keyOf Try.prog 82 (prV p) = some l) {k : Nat} (t : P p k) : PGood P (D.put l (.lit (.int .i64 (k : Int)))) := by
  intro r l' hl' hh
  by_cases e : l' = l
  · subst e
    obtain rfl := key2_inj hl hl'
    exact ⟨k, Maps.atKey_put_same hm (law2.key hl) _ _, t⟩
  · rw [Maps.has_put_other e] at hh
    obtain ⟨j, h1, h2⟩ := h r l' hl' hh
    exact ⟨j, (Maps.atKey_put_other e _ _).trans h1, h2⟩

theorem PMap.of {w w' : World} {b n : Nat} {D : DataW Unit} (h : PMap w b n D) (e : w'.heap[b]? = w.heap[b]?) : PMap w' b n D := by
  obtain ⟨es, clock, h1, h2⟩ := h
  exact ⟨es, clock, e.trans h1, h2⟩
theorem PMap.made {w : World} {b : Nat} (h : w.heap[b]? = some (.map #[] 0)) : PMap w b 0 (.map []) := by
  have := World.ownsMap_made (H := Unit) w Try.prog 82 (plainElem Try.prog 3)
  obtain ⟨es, clock, h1, h2⟩ := this
  rw [heap_alloc_new] at h1
  injection h1 with h1
  injection h1 with e1 e2
  subst e1 e2
  exact ⟨#[], 0, h, h2⟩
theorem PMap.not_cell {w : World} {b n : Nat} {D : DataW Unit} (h : PMap w b n D) {t i : Nat} {v : Value} (hc : w.cell? ⟨t, i, none⟩ = some v) : t ≠ b := by
  obtain ⟨es, clock, h1, _⟩ := h
  rintro rfl
  unfold World.cell? at hc
  rw [h1] at hc
  cases hc

theorem PMap.look {P : Pr → Nat → Prop} {w : World} {b N : Nat} {D : DataW Unit} (cm : PMap w b N D) (cg : PGood P D) {p : Pr} (hf : Fits2 p) :
    (∃ k : Nat, P p k ∧ (Instr.lookup 109 (.map (some b)) (prV p) true).run Try.prog w = .ok (.tuple #[.int .i64 (k : Int), .bool true]) w) ∨
    (∃ k : Int, (Instr.lookup 109 (.map (some b)) (prV p) true).run Try.prog w = .ok (.tuple #[.int .i64 k, .bool false]) w) := by
  obtain ⟨l, hl⟩ := key2_some hf
  have hz : (zeroValue 3).run Try.prog w = .ok (.int .i64 0) w := by kernel_rfl
  obtain ⟨v, ps, hrun, hv⟩ := World.ownsMap.look_ok cm law2 Try.underlying109 hz (plainElem_int Try.underlying3 (a := 0) (by decide)) hl
  obtain ⟨c, rfl, hc, _⟩ := plainElem_int_inv Try.underlying3 hv
  have hc := congrArg Prod.fst hc
  cases hh : Maps.has D l with
  | false => rw [hh] at hrun; exact .inr ⟨c, hrun⟩
  | true =>
    rw [hh] at hrun
    obtain ⟨k, h1, h2⟩ := cg p l hl hh
    have hc : D.atKey l (.lit (.int .i64 0)) = .lit (.int .i64 c) := hc
    rw [h1] at hc
    injection hc with hc
    injection hc with _ hc
    subst hc
    exact .inl ⟨k, h2, hrun⟩

set_option maxRecDepth 100000 in
theorem PMap.put {P : Pr → Nat → Prop} {w : World} {b N : Nat} {D : DataW Unit} (cm : PMap w b N D) (cg : PGood P D) (hn : N < 2000000) {p : Pr} (hf : Fits2 p) {k : Nat} (hk : k < 9223372036854775808) (t : P p k) :
    ∃ w', (Instr.mapUpdate 109 (.map (some b)) (prV p) (.int .i64 (k : Int))).run Try.prog w = .ok () w' ∧ (∃ D', PMap w' b (N + 1) D' ∧ PGood P D') ∧ Turn (fun i => i = b) w w' := by
  obtain ⟨l, hl⟩ := key2_some hf
  obtain ⟨w', hrun, r1, r2⟩ := World.ownsMap.update cm law2 Try.underlying109 (by unfold maxLen; omega) hl (plainElem_int Try.underlying3 (a := (k : Int)) (WalkArith.wf_i64 (by omega)))
  have ht : Turn (fun i => i = b) w w' := (Turn.refl _ w).grown r2 (fun i e => .inl (by injection e with e; exact e.symm))
  exact ⟨w', hrun, ⟨_, r1, cg.put (World.ownsMap.isMap cm) hl t⟩, ht⟩
end Go.Proofs.Ytmbkkifopmbkaaa

/- Plain facts on two nodes that are both true for some values of variables. -/
namespace Go.Proofs.Ytmbkkifopmbkaaa
open Go.ChangeShapes Go.WideShapes Go.ChangeAt Go.RowKit Go.Maps

/-- Whether f is true for some values of the variables of S, the others as they are. -/
def Ex (S : Nat → Bool) (f : (Nat → Bool) → Bool) (val : Nat → Bool) : Prop := ∃ val', (∀ i, S i = false → val' i = val i) ∧ f val' = true

/-- f does not hang on the variables ahead of u. -/
def Free' (u : Int) (f : (Nat → Bool) → Bool) : Prop := ∀ val val', (∀ i : Nat, u ≤ i → val i = val' i) → f val = f val'

theorem At.free {V : Nat} {cs : List Nd} (g : NGood V cs) {u : Int} {k : Nat} (h : At cs u k) : Free' u (fun val => Says V cs val k) := by
  obtain ⟨c, hc, hu⟩ := h
  exact fun val val' h => Says_agree g k c hc fun d hd i hi => by obtain rfl := hc.same hd; exact h i (by omega)

/-- What hangs on no variable ahead of u asks none. -/
theorem free_at {V : Nat} {cs : List Nd} (g : NGood V cs) {u v : Int} (hu : u ≤ V) {k : Nat} (h : At cs v k) (f : Free' u (fun val => Says V cs val k)) : At cs u k := by
  obtain ⟨c, hc, _⟩ := h
  rcases Int.lt_or_le c.asks u with h1 | h1
  · exfalso
    have h2 : 2 ≤ k := by
      rcases Nat.lt_or_ge k 2 with h2 | h2
      · have := (g.base h2 hc).1; omega
      · exact h2
    have ho := g.ok k c h2 hc
    obtain ⟨l, hl, _⟩ := g.lo k c h2 hc
    obtain ⟨r, hr, _⟩ := g.hi k c h2 hc
    refine ho.2.2 (canon g hl hr fun val => ?_)
    rw [Says_low g h2 hc, Says_high g h2 hc]
    exact f _ _ fun i hi => by unfold upd; rw [if_neg (by omega), if_neg (by omega)]
  · exact ⟨c, hc, h1⟩

theorem Ex.free {S : Nat → Bool} {f : (Nat → Bool) → Bool} {u : Int} (h : Free' u f) {val val' : Nat → Bool} (hv : ∀ i : Nat, u ≤ i → val i = val' i) (e : Ex S f val) : Ex S f val' := by
  obtain ⟨y, h1, h2⟩ := e
  refine ⟨fun i => if u ≤ (i : Int) then y i else val' i, fun i hi => ?_, ?_⟩
  · by_cases hu : u ≤ (i : Int)
    · simp only [hu, if_true]; rw [h1 i hi, hv i hu]
    · simp only [hu, if_false]
  · rw [← h2]
    exact h _ _ fun i hi => by simp only [hi, if_true]

/-- Two nodes are both true. -/
def both (V : Nat) (cs : List Nd) (p : Pr) (val : Nat → Bool) : Bool := Says V cs val p.a && Says V cs val p.b

structure PAt (cs : List Nd) (u : Int) (p : Pr) : Prop where
  a : At cs u p.a
  b : At cs u p.b

section
variable {V : Nat} {cs : List Nd} {u : Int} {p : Pr} {S : Nat → Bool}
theorem PAt.mono {v : Int} (h : PAt cs u p) (hv : v ≤ u) : PAt cs v p := ⟨h.a.mono hv, h.b.mono hv⟩
theorem PAt.free (g : NGood V cs) (h : PAt cs u p) : Free' u (both V cs p) := fun val val' hv => by
  unfold both
  have ha : Says V cs val p.a = Says V cs val' p.a := h.a.free g val val' hv
  have hb : Says V cs val p.b = Says V cs val' p.b := h.b.free g val val' hv
  rw [ha, hb]

theorem pair_range (g : NGood V cs) (h : PAt cs u p) (h2 : 2 ≤ p.b) : 0 ≤ pairV V cs p ∧ pairV V cs p < V ∧ u ≤ pairV V cs p ∧ PAt cs (pairV V cs p) p := by
  have ra := g.range h.a.is.1
  have rb := g.range h.b.is.1
  have ua := h.a.is.2
  have ub := h.b.is.2
  have hb := two_asks g h2 h.b
  have e : pairV V cs p = min (min (V : Int) (nd cs p.a).asks) (nd cs p.b).asks := rfl
  exact ⟨by omega, by omega, by omega, ⟨⟨_, h.a.is.1, by omega⟩, ⟨_, h.b.is.1, by omega⟩⟩⟩

theorem halfP_at (g : NGood V cs) {v : Int} (hv : v < V) (h : PAt cs v p) (x : Bool) : PAt cs (v + 1) (halfP x v cs p) := ⟨part_at g hv h.a x, part_at g hv h.b x⟩
theorem halfP_both (g : NGood V cs) {v : Nat} (hv : (v : Int) < V) (h : PAt cs v p) (val : Nat → Bool) : both V cs p val = both V cs (halfP (val v) v cs p) val := by
  have ha := part_says g hv h.a val
  have hb := part_says g hv h.b val
  rw [Int.toNat_natCast] at ha hb
  unfold both halfP
  dsimp only
  rw [← ha, ← hb]

/-- A variable that stays. -/
theorem Ex.stay (g : NGood V cs) {v : Nat} (hv : (v : Int) < V) (h : PAt cs v p) (hs : S v = false) (val : Nat → Bool) : Ex S (both V cs p) val ↔ Ex S (both V cs (halfP (val v) v cs p)) val := by
  constructor
  · rintro ⟨y, h1, h2⟩
    exact ⟨y, h1, by rw [halfP_both g hv h y, h1 v hs] at h2; exact h2⟩
  · rintro ⟨y, h1, h2⟩
    exact ⟨y, h1, by rw [halfP_both g hv h y, h1 v hs]; exact h2⟩

/-- A variable that may be either. -/
theorem Ex.some (g : NGood V cs) {v : Nat} (hv : (v : Int) < V) (h : PAt cs v p) (hs : S v = true) (val : Nat → Bool) : Ex S (both V cs p) val ↔ (Ex S (both V cs (halfP false v cs p)) val ∨ Ex S (both V cs (halfP true v cs p)) val) := by
  have back : ∀ x, Ex S (both V cs (halfP x v cs p)) val → Ex S (both V cs p) val := by
    rintro x ⟨y, h1, h2⟩
    refine ⟨upd y v x, fun i hi => ?_, ?_⟩
    · have : i ≠ v := by rintro rfl; rw [hs] at hi; cases hi
      unfold upd; rw [if_neg this]; exact h1 i hi
    · have e : upd y v x v = x := by unfold upd; rw [if_pos rfl]
      rw [halfP_both g hv h, e, ← h2]
      exact (halfP_at g hv h x).free g _ _ fun i hi => by unfold upd; rw [if_neg (by omega)]
  constructor
  · rintro ⟨y, h1, h2⟩
    rw [halfP_both g hv h y] at h2
    cases hy : y v with
    | false => rw [hy] at h2; exact .inl ⟨y, h1, h2⟩
    | true => rw [hy] at h2; exact .inr ⟨y, h1, h2⟩
  · rintro (h1 | h1)
    · exact back _ h1
    · exact back _ h1
end

/-- What is told of two nodes of a store by a node of a draft. -/
def PRes (V : Nat) (cs csd : List Nd) (S : Nat → Bool) (p : Pr) (k : Nat) : Prop := At csd 0 k ∧ ∀ val, Says V csd val k = true ↔ Ex S (both V cs p) val

section
variable {V : Nat} {cs csd csd' : List Nd} {p : Pr} {S : Nat → Bool} {k : Nat}
theorem PRes.ext (h : PRes V cs csd S p k) (hx : Ext csd csd') (g : NGood V csd) (g' : NGood V csd') : PRes V cs csd' S p k := ⟨h.1.ext hx, fun val => by rw [h.1.says hx g g' val]; exact h.2 val⟩
theorem PRes.at (h : PRes V cs csd S p k) (g : NGood V cs) (gd : NGood V csd) {u : Int} (hu : u ≤ V) (hp : PAt cs u p) : At csd u k := by
  refine free_at gd hu h.1 fun val val' hv => ?_
  have e1 := h.2 val
  have e2 := h.2 val'
  have f := hp.free g
  show Says V csd val k = Says V csd val' k
  cases h1 : Says V csd val k with
  | true => exact ((e2.2 ((e1.1 h1).free f hv))).symm
  | false =>
    cases h2 : Says V csd val' k with
    | false => rfl
    | true => rw [e1.2 ((e2.1 h2).free f (fun i hi => (hv i hi).symm))] at h1; cases h1

theorem PRes.swap (h : PRes V cs csd S p k) : PRes V cs csd S ⟨p.b, p.a⟩ k := ⟨h.1, fun val => by
  have : both V cs ⟨p.b, p.a⟩ = both V cs p := by funext v; unfold both; rw [Bool.and_comm]
  rw [this]; exact h.2 val⟩
theorem pres_zero (gd : NGood V csd) {b : Nat} : PRes V cs csd S ⟨0, b⟩ 0 := ⟨gd.at0 (by omega), fun val => by
  rw [Says_zero]
  refine ⟨fun h => (by cases h), ?_⟩
  rintro ⟨y, _, h⟩
  unfold both at h
  rw [Says_zero] at h
  cases h⟩
theorem pres_one (gd : NGood V csd) : PRes V cs csd S ⟨1, 1⟩ 1 := ⟨gd.at1 (by omega), fun val => by
  rw [Says_one]
  exact ⟨fun _ => ⟨val, fun _ _ => rfl, by unfold both; rw [Says_one]; rfl⟩, fun _ => rfl⟩⟩
theorem pres_mk (g : NGood V cs) {csd' : List Nd} (hk : At csd' 0 k) {v a b : Nat} (hv : (v : Int) < V) (h : PAt cs v p) (hs : S v = false) (hsay : ∀ val, Says V csd' val k = if val v then Says V csd val b else Says V csd val a)
    (ra : PRes V cs csd S (halfP false v cs p) a) (rb : PRes V cs csd S (halfP true v cs p) b) : PRes V cs csd' S p k := ⟨hk, fun val => by
  rw [Ex.stay g hv h hs, hsay]
  cases val v with
  | true => exact rb.2 val
  | false => exact ra.2 val⟩
theorem pres_or (g : NGood V cs) {csd' : List Nd} (hk : At csd' 0 k) {v a b : Nat} (hv : (v : Int) < V) (h : PAt cs v p) (hs : S v = true) (hsay : ∀ val, Says V csd' val k = (Says V csd val a || Says V csd val b))
    (ra : PRes V cs csd S (halfP false v cs p) a) (rb : PRes V cs csd S (halfP true v cs p) b) : PRes V cs csd' S p k := ⟨hk, fun val => by
  rw [Ex.some g hv h hs, hsay, Bool.or_eq_true, ra.2 val, rb.2 val]⟩
theorem pres_all (g : NGood V cs) (gd : NGood V csd) {v : Nat} (hv : (v : Int) < V) (h : PAt cs v p) (hs : S v = true) (ra : PRes V cs csd S (halfP false v cs p) 1) : PRes V cs csd S p 1 := ⟨gd.at1 (by omega), fun val => by
  rw [Ex.some g hv h hs, Says_one]
  exact ⟨fun _ => .inl ((ra.2 val).1 (Says_one val)), fun _ => rfl⟩⟩
end
end Go.Proofs.Ytmbkkifopmbkaaa

/- Contracts of layer 5 (quan): product's find and join: what they stand on; join. -/
namespace Go.Proofs.Ytmbkkifopmbkaaa
open Go.ChangeShapes Go.WideShapes Go.ChangeAt Go.RowKit Go.Maps

/-- The blocks of product's variables: found, the operations, find, the marks, join, the draft; found's map; the marks' cells. -/
structure PEnv where
  f : Nat
  q : Nat
  n : Nat
  s : Nat
  j : Nat
  d : Nat
  b : Nat
  sb : Nat

def PEnv.jv (E : PEnv) : Value := .func (.func 55) #[] #[ptrV E.s, ptrV E.d]
def PEnv.nv (E : PEnv) : Value := .func (.func 56) #[] #[ptrV E.f, ptrV E.q, ptrV E.n, ptrV E.s, ptrV E.j]
def PEnv.has (E : PEnv) (i : Nat) : Prop := i = E.f ∨ i = E.q ∨ i = E.n ∨ i = E.s ∨ i = E.j ∨ i = E.d ∨ i = E.b ∨ i = E.sb

structure PSt (o q d V : Nat) (a : OS) (S : Nat → Bool) (E : PEnv) (b : OS) (w : World) (N : Nat) : Prop where
  two : Two o q d a b w
  eV : a.h.V = V
  eV2 : b.h.V = V
  eB : b.h.B = 1048576
  map : ∃ D, PMap w E.b N D ∧ PGood (PRes V a.cs b.cs S) D
  cf : w.cell? ⟨E.f, 0, none⟩ = some (.map (some E.b))
  cq : w.cell? ⟨E.q, 0, none⟩ = some (ptrV q)
  cn : w.cell? ⟨E.n, 0, none⟩ = some E.nv
  cs : w.cell? ⟨E.s, 0, none⟩ = some (.slice (some ⟨E.sb, 0, none⟩) V V)
  cj : w.cell? ⟨E.j, 0, none⟩ = some E.jv
  cd : w.cell? ⟨E.d, 0, none⟩ = some (ptrV d)
  rows : ∀ i, i < V → w.cell? ⟨E.sb, i, none⟩ = some (.bool (S i))
  no : ∀ i, E.has i → ¬ Two.own o q d a b i
  sblt : E.sb < w.heap.size

section
variable {o q d V : Nat} {a b b' : OS} {S : Nat → Bool} {E : PEnv} {w w' : World} {N : Nat}

theorem PSt.goodA (t : PSt o q d V a S E b w N) : NGood V a.cs := by have := t.two.main.st.good; rw [t.eV] at this; exact this
theorem PSt.goodB (t : PSt o q d V a S E b w N) : NGood V b.cs := by have := t.two.draft.st.good; rw [t.eV2] at this; exact this

theorem PSt.has_lt (t : PSt o q d V a S E b w N) : ∀ i, E.has i → i < w.heap.size := by
  obtain ⟨D, m1, _⟩ := t.map
  rintro i (rfl | rfl | rfl | rfl | rfl | rfl | rfl | rfl)
  · exact cell_lt t.cf
  · exact cell_lt t.cq
  · exact cell_lt t.cn
  · exact cell_lt t.cs
  · exact cell_lt t.cj
  · exact cell_lt t.cd
  · exact m1.lt
  · exact t.sblt

theorem PSt.step (t : PSt o q d V a S E b w N) (ht : Turn (Two.own o q d a b) w w') (h2 : Two o q d a b' w') (hg : Grew b b') (ho : ∀ i, Two.own o q d a b' i → Two.own o q d a b i ∨ w.heap.size ≤ i) : PSt o q d V a S E b' w' N := by
  obtain ⟨D, m1, m2⟩ := t.map
  have gd := t.goodB
  have gd' : NGood V b'.cs := by have := h2.draft.st.good; rw [hg.V, t.eV2] at this; exact this
  exact ⟨h2, t.eV, hg.V.trans t.eV2, hg.B.trans t.eB, ⟨D, m1.of (ht.block _ m1.lt (t.no _ (.inr (.inr (.inr (.inr (.inr (.inr (.inl rfl))))))))), m2.mono fun p k r => r.ext hg.ext gd gd'⟩,
    ht.cell t.cf (t.no _ (.inl rfl)), ht.cell t.cq (t.no _ (.inr (.inl rfl))), ht.cell t.cn (t.no _ (.inr (.inr (.inl rfl)))), ht.cell t.cs (t.no _ (.inr (.inr (.inr (.inl rfl))))), ht.cell t.cj (t.no _ (.inr (.inr (.inr (.inr (.inl rfl)))))),
    ht.cell t.cd (t.no _ (.inr (.inr (.inr (.inr (.inr (.inl rfl))))))), fun i hi => ht.cell (t.rows i hi) (t.no _ (.inr (.inr (.inr (.inr (.inr (.inr (.inr rfl)))))))),
    fun i hi hh => (ho i hh).elim (t.no i hi) fun q => by have := t.has_lt i hi; omega, Nat.lt_of_lt_of_le t.sblt ht.size⟩

theorem PSt.keep (t : PSt o q d V a S E b w N) (hb : Below w.heap.size w w') : PSt o q d V a S E b w' N :=
  t.step (Turn.of_below hb) (t.two.keep (P := fun _ => False) (Turn.of_below hb) (fun _ _ h => h)) (Grew.refl b) (fun _ h => .inl h)

theorem PSt.look (t : PSt o q d V a S E b w N) {p : Pr} (hf : Fits2 p) :
    (∃ k : Nat, PRes V a.cs b.cs S p k ∧ (Instr.lookup 109 (.map (some E.b)) (prV p) true).run Try.prog w = .ok (.tuple #[.int .i64 (k : Int), .bool true]) w) ∨
    (∃ k : Int, (Instr.lookup 109 (.map (some E.b)) (prV p) true).run Try.prog w = .ok (.tuple #[.int .i64 k, .bool false]) w) := by
  obtain ⟨D, m1, m2⟩ := t.map
  exact m1.look m2 hf

set_option maxRecDepth 100000 in
theorem PSt.put (t : PSt o q d V a S E b w N) (hn : N < 2000000) {p : Pr} (hf : Fits2 p) {k : Nat} (r : PRes V a.cs b.cs S p k) :
    ∃ w', (Instr.mapUpdate 109 (.map (some E.b)) (prV p) (.int .i64 (k : Int))).run Try.prog w = .ok () w' ∧ PSt o q d V a S E b w' (N + 1) ∧ Turn (fun i => i = E.b) w w' := by
  obtain ⟨D, m1, m2⟩ := t.map
  have hk : k < 9223372036854775808 := by
    obtain ⟨c, hc, _⟩ := r.1
    have := hc.lt
    have := t.two.draft.st.lay.len
    omega
  obtain ⟨w', hrun, hm, ht⟩ := m1.put m2 hn hf hk r
  have nb := t.no E.b (.inr (.inr (.inr (.inr (.inr (.inr (.inl rfl)))))))
  exact ⟨w', hrun, ⟨t.two.keep ht (fun i hi e => nb (e ▸ hi)), t.eV, t.eV2, t.eB, hm, ht.cell t.cf (m1.not_cell t.cf), ht.cell t.cq (m1.not_cell t.cq), ht.cell t.cn (m1.not_cell t.cn), ht.cell t.cs (m1.not_cell t.cs), ht.cell t.cj (m1.not_cell t.cj), ht.cell t.cd (m1.not_cell t.cd),
    fun i hi => ht.cell (t.rows i hi) (m1.not_cell (t.rows i hi)), t.no, Nat.lt_of_lt_of_le t.sblt ht.size⟩, ht⟩
end

def JOutP (d V : Nat) (S : Nat → Bool) (b : OS) (v x y : Nat) (w : World) (e : Ending) (w' : World) : Prop :=
  ∃ (r : Nat) (z : Int) (b' : OS), e = .returned (.tuple #[.int .i64 (r : Int), .int .i64 z]) ∧ b'.at d w' ∧ Grew b b' ∧ ONext d b.m b.mb b'.m b'.mb w w' ∧ cnt b'.cs ≤ cnt b.cs + 2 ^ V ∧
    ((z = 0 ∧ At b'.cs 0 r ∧ ∀ val, Says V b'.cs val r = if S v then (Says V b.cs val x || Says V b.cs val y) else if val v then Says V b.cs val y else Says V b.cs val x) ∨ (z = 30 ∧ r = 0 ∧ 1048576 ≤ cnt b.cs + 2 ^ V))

set_option maxRecDepth 100000 in
set_option maxHeartbeats 1600000 in
theorem joinP {o q d V : Nat} {a b : OS} {S : Nat → Bool} {E : PEnv} {w : World} {N : Nat} (t : PSt o q d V a S E b w N) (hV : 2 ^ V ≤ 900000) {v x y : Nat} (hv : v < V) (hx : At b.cs (v + 1 : Nat) x) (hy : At b.cs (v + 1 : Nat) y) :
    Calls Try.prog 55 #[.int .i64 (v : Int), .int .i64 (x : Int), .int .i64 (y : Int), ptrV E.s, ptrV E.d] w (JOutP d V S b v x y w) := by
  have cs := t.cs
  have cd := t.cd
  have cv := t.rows v hv
  have SD := Lib.hid (store_ops t.two.draft)
  have OR := or_good t.two.draft (by rw [t.eV2]; exact hV) (hx.mono (by omega)) (hy.mono (by omega))
  obtain ⟨cx, ix, lx⟩ := hx
  obtain ⟨cy, iy, ly⟩ := hy
  have MK := mk_semS t.two.draft.st (v := v) (by have := t.eV2; omega) ix (by omega) iy (by omega)
  have OR := Lib.hid OR
  have MK := Lib.hid MK
  have EV2 := Lib.hid t.eV2
  have EB := Lib.hid t.eB
  have DR := Lib.hid t.two.draft
  have P1 := Lib.hid (Nat.one_le_two_pow (n := V))
  have HV := Lib.hid hv
  have hvi : (v : Int) < V := by omega
  clear t hV hv ix iy lx ly
  unfold ptrV at *
  go_enter Try.func55, Try.ntmps55
  cases hs : S v with
  | true =>
    have HS := Lib.hid hs
    rw [hs] at cv
    clear hs
    go_wp2_with fail
    refine OR.out.mono ?_
    rintro e w1 ⟨r, z, m', h', cs', mb', rfl, os, ex, fr, hV, hB, hS, hc, on, hout⟩
    have OS1 := Lib.hid os
    have EX := Lib.hid ex
    have FR := Lib.hid fr
    have HV1 := Lib.hid hV
    have HB1 := Lib.hid hB
    have HS1 := Lib.hid hS
    have HC := Lib.hid hc
    have ON := Lib.hid on
    have HO := Lib.hid hout
    clear os ex fr hV hB hS hc on hout cs cd cv OR MK
    go_wp2_with fail
    go_ret2
    have hc := HC.out
    rw [EV2.out] at hc
    refine ⟨r, z, ⟨m', h', cs', mb'⟩, rfl, OS1.out, ⟨EX.out, FR.out, HV1.out, HB1.out, HS1.out, ON.out.s⟩, ON.out, by show cnt cs' ≤ _; omega, ?_⟩
    rcases HO.out with ⟨rfl, h1, h2⟩ | ⟨rfl, rfl, h1⟩
    · refine .inl ⟨rfl, h1, fun val => ?_⟩
      rw [EV2.out] at h2
      show Says V cs' val r = _
      rw [h2, HS.out]
      simp only [qsem, Says_one]
      cases Says V b.cs val x <;> cases Says V b.cs val y <;> rfl
    · rw [EV2.out, EB.out] at h1
      exact .inr ⟨rfl, rfl, by omega⟩
  | false =>
    have HS := Lib.hid hs
    rw [hs] at cv
    clear hs
    go_wp2_with fail
    refine SD.out.mono ?_
    rintro e w1 ⟨rfl, rfl⟩
    go_wp2_with fail
    refine MK.out.mono ?_
    rintro e w1 (⟨n, m', h', cs', cn, rfl, st, ex, is, le, sy, hV, hB, hS, hc, fr, nx⟩ | ⟨rfl, hb, hfull⟩)
    · have OS1 := Lib.hid (DR.out.next st ex hV hS nx)
      have GR : Hid (Grew b ⟨m', h', cs', b.mb⟩) := ⟨ex, fr, hV, hB, hS, nx.s⟩
      have ON : Hid (ONext d b.m b.mb m' b.mb w w1) := Next.onext nx
      have HC := Lib.hid hc
      have AT : Hid (At cs' 0 n) := ⟨cn, is, by omega⟩
      have SY := Lib.hid sy
      clear st ex is le sy hV hB hS hc fr nx cs cd cv OR MK
      go_wp2_with fail
      go_ret2
      have P1' := P1.out
      have HC' := HC.out
      refine ⟨n, 0, ⟨m', h', cs', b.mb⟩, rfl, OS1.out, GR.out, ON.out, by show cnt cs' ≤ _; omega, .inl ⟨rfl, AT.out, fun val => ?_⟩⟩
      have sy := SY.out
      rw [EV2.out] at sy
      show Says V cs' val n = _
      rw [sy, HS.out]
      rfl
    · have HB := Lib.hid hb
      have HF := Lib.hid hfull
      clear hb hfull cs cd cv OR MK
      go_wp2_with fail
      go_ret2
      have P1' := P1.out
      have HF' := HF.out
      rw [EB.out] at HF'
      exact ⟨0, 30, b, rfl, DR.out.keep HB.out, Grew.refl b, ONext.below HB.out, by omega, .inr ⟨rfl, rfl, by omega⟩⟩
end Go.Proofs.Ytmbkkifopmbkaaa

/- Contracts of layer 5 (quan): product's find. -/
namespace Go.Proofs.Ytmbkkifopmbkaaa
open Go.ChangeShapes Go.WideShapes Go.ChangeAt Go.RowKit Go.Maps

def FOutP (o q d V : Nat) (a : OS) (S : Nat → Bool) (E : PEnv) (b : OS) (N n : Nat) (p : Pr) (w : World) (e : Ending) (w' : World) : Prop :=
  ∃ (r : Nat) (x : Int) (b' : OS) (N' : Nat), e = .returned (.tuple #[.int .i64 (r : Int), .int .i64 x]) ∧ PSt o q d V a S E b' w' N' ∧ Grew b b' ∧ Move (Two.own o q d a b) (Two.own o q d a b') E.b w w' ∧
    cnt b'.cs + 2 ^ V ≤ cnt b.cs + 2 ^ V * 2 ^ n ∧ N' + 1 ≤ N + 2 ^ n ∧ ((x = 0 ∧ PRes V a.cs b'.cs S p r) ∨ (x = 30 ∧ r = 0 ∧ 1048576 ≤ cnt b.cs + 2 ^ V * 2 ^ n))

theorem FOutP.same {o q d V : Nat} {a b : OS} {S : Nat → Bool} {E : PEnv} {w w' : World} {N n : Nat} {p : Pr} {r : Nat} (t : PSt o q d V a S E b w N) (hb : Below w.heap.size w w') (hr : PRes V a.cs b.cs S p r) :
    FOutP o q d V a S E b N n p w (.returned (.tuple #[.int .i64 (r : Int), .int .i64 0])) w' := by
  have h1 := Nat.one_le_two_pow (n := n)
  have h2 := Nat.mul_le_mul_left (2 ^ V) h1
  exact ⟨r, 0, b, N, rfl, t.keep hb, Grew.refl b, Move.below hb, by omega, by omega, .inl ⟨rfl, hr⟩⟩

theorem Move.row {A A' : Nat → Prop} {b i : Nat} {w w' : World} {x : Obj} (m : Move A A' b w w') (h : w.heap[i]? = some x) (hn : ¬ A i) (hb : i ≠ b) : w'.heap[i]? = some x ∧ ¬ A' i :=
  ⟨(m.turn.block i (row_lt h) (fun q => q.elim hn hb)).trans h, fun hh => (m.own i hh).elim hn fun q => by have := row_lt h; omega⟩

theorem minN (a b : Nat) : (if b < a then (b : Int) else (a : Int)) = ((min a b : Nat) : Int) := by
  by_cases h : b < a
  · rw [if_pos h, Nat.min_eq_right (by omega)]
  · rw [if_neg h, Nat.min_eq_left (by omega)]
theorem maxN (a b : Nat) : (if a < b then (b : Int) else (a : Int)) = ((max a b : Nat) : Int) := by
  by_cases h : a < b
  · rw [if_pos h, Nat.max_eq_right (by omega)]
  · rw [if_neg h, Nat.max_eq_left (by omega)]

theorem sorted {V : Nat} {cs : List Nd} {u : Int} {p : Pr} {S : Nat → Bool} (h : PAt cs u p) : PAt cs u ⟨min p.a p.b, max p.a p.b⟩ ∧ ∀ csd k, PRes V cs csd S ⟨min p.a p.b, max p.a p.b⟩ k → PRes V cs csd S p k := by
  rcases Nat.le_total p.a p.b with h1 | h1
  · rw [Nat.min_eq_left h1, Nat.max_eq_right h1]
    exact ⟨h, fun _ _ h => h⟩
  · rw [Nat.min_eq_right h1, Nat.max_eq_left h1]
    exact ⟨⟨h.b, h.a⟩, fun _ _ h => h.swap⟩

set_option maxRecDepth 100000 in
set_option maxHeartbeats 8000000 in
theorem findP {o q d V : Nat} {a : OS} {S : Nat → Bool} {E : PEnv} (hV : 2 ^ V ≤ 900000) :
    ∀ (n : Nat) (b : OS) (w : World) (N : Nat) (p : Pr) (u : Int), PSt o q d V a S E b w N → PAt a.cs u p → 0 ≤ u → u ≤ V → (V : Int) ≤ u + n → N + 2 ^ n ≤ 2000000 →
      Calls Try.prog 56 #[prV p, ptrV E.f, ptrV E.q, ptrV E.n, ptrV E.s, ptrV E.j] w (FOutP o q d V a S E b N n p w) := by
  intro n
  induction n using Nat.strongRecOn with
  | _ n ih =>
  intro b w N p u t hp hu0 huV hn hN
  have T0 := Lib.hid t
  obtain ⟨hp1, hs⟩ := sorted (V := V) (S := S) hp
  have hxy : min p.a p.b ≤ max p.a p.b := by omega
  have bw := (Below.refl w.heap.size w).alloc (Nat.le_refl _) (prO p)
  have HN := Lib.hid hn
  have HNN := Lib.hid hN
  have IH := Lib.hid ih
  have HV2 := Lib.hid hV
  have HU0 := Lib.hid hu0
  have HUV := Lib.hid huV
  have HS := Lib.hid hs
  have HP1 := Lib.hid hp1
  have HXY := Lib.hid hxy
  clear ih hn hN hV hp t hu0 huV hs hp1 hxy bw
  unfold ptrV prV
  go_enter Try.func56, Try.ntmps56
  go_wp2_with fail
  go_region
  simp only [minN, maxN]
  have GA := T0.out.goodA
  have GB := T0.out.goodB
  revert HS HP1 HXY
  generalize min p.a p.b = x
  generalize max p.a p.b = y
  intro HS HP1 HXY
  rcases (by have := HXY.out; omega : x = 0 ∨ (x = 1 ∧ y = 1) ∨ (x ≠ 0 ∧ 2 ≤ y)) with rfl | ⟨rfl, rfl⟩ | ⟨hx0, hy2⟩
  · have BW := Lib.hid (((Below.refl w.heap.size w).alloc (Nat.le_refl _) (.cells #[.int .i64 p.a, .int .i64 p.b] 82)).trans ((below_drew _).mono (by simp)))
    have RS := Lib.hid (HS.out _ 0 (pres_zero GB))
    clear GA GB
    go_wp2_with fail
    go_ret2
    exact FOutP.same T0.out BW.out RS.out
  · have BW := Lib.hid (((Below.refl w.heap.size w).alloc (Nat.le_refl _) (.cells #[.int .i64 p.a, .int .i64 p.b] 82)).trans ((below_drew _).mono (by simp)))
    have RS := Lib.hid (HS.out _ 1 (pres_one GB))
    clear GA GB
    go_wp2_with fail
    go_ret2
    exact FOutP.same T0.out BW.out RS.out
  · have hx1 : ((x : Int) == 0) = false := by simp; omega
    have hy1 : ((y : Int) == 1) = false := by simp; omega
    have hb3 : Below w.heap.size w ((w.alloc (.cells #[.int .i64 x, .int .i64 y] 82)).drew) := (((Below.refl w.heap.size w).alloc (Nat.le_refl _) (.cells #[.int .i64 x, .int .i64 y] 82)).trans ((below_drew _).mono (by simp)))
    have hr3 : ((w.alloc (.cells #[.int .i64 x, .int .i64 y] 82)).drew).heap[w.heap.size]? = some (prO ⟨x, y⟩) := heap_alloc_new w _
    have t3 := T0.out.keep hb3
    have cf : (w.alloc (.cells #[.int .i64 x, .int .i64 y] 82)).cell? ⟨E.f, 0, none⟩ = some (.map (some E.b)) := t3.cf
    have cq : (w.alloc (.cells #[.int .i64 x, .int .i64 y] 82)).cell? ⟨E.q, 0, none⟩ = some (.pointer (some ⟨q, 0, none⟩)) := t3.cq
    have ff : Fits2 ⟨x, y⟩ := by
      have l1 := HP1.out.a.is.1.lt
      have l2 := HP1.out.b.is.1.lt
      have := T0.out.two.main.st.lay.len
      exact ⟨by omega, by omega⟩
    have FF := Lib.hid ff
    have hlk0 := t3.look ff
    have T3 := Lib.hid t3
    have B3 := Lib.hid hb3
    have R3 := Lib.hid hr3
    have Y2 := Lib.hid hy2
    clear GA GB hx0 ff t3 hb3 hr3 hy2
    unfold prV at hlk0
    rcases hlk0 with ⟨r, hr, hlk⟩ | ⟨z, hlk⟩
    · have RS := Lib.hid (HS.out _ r hr)
      clear hr
      go_wp2_with fail
      go_ret2
      exact FOutP.same T0.out B3.out RS.out
    · obtain ⟨v0, v1, v2, pv⟩ := pair_range T3.out.goodA HP1.out Y2.out
      obtain ⟨vn, hvn⟩ : ∃ vn : Nat, pairV V a.cs ⟨x, y⟩ = vn := ⟨(pairV V a.cs ⟨x, y⟩).toNat, by omega⟩
      have SP := qsplit_any T3.out.two.main T3.out.two.quan (p := ⟨x, y⟩) HP1.out.a HP1.out.b
      unfold SpPOut at SP
      rw [T3.out.eV] at SP
      rw [hvn] at SP v0 v1 v2 pv
      have SP := Lib.hid SP
      have PV := Lib.hid (Nat.one_le_two_pow (n := V))
      have LV : Hid (vn < V ∧ u ≤ vn) := ⟨by omega, v2⟩
      have PP := Lib.hid pv
      have LH : Hid (PAt a.cs (vn + 1) (halfP false vn a.cs ⟨x, y⟩) ∧ PAt a.cs (vn + 1) (halfP true vn a.cs ⟨x, y⟩)) := ⟨halfP_at T3.out.goodA v1 pv false, halfP_at T3.out.goodA v1 pv true⟩
      obtain ⟨n', hn'⟩ : ∃ n', n = n' + 1 := ⟨n - 1, by have := HN.out; omega⟩
      subst hn'
      have P2 : Hid (2 ^ (n' + 1) = 2 ^ n' + 2 ^ n') := by show _ = _; rw [Nat.pow_succ]; omega
      have P1 := Lib.hid (Nat.one_le_two_pow (n := n'))
      have PJ : Hid (2 ^ V * 2 ^ (n' + 1) = 2 ^ V * 2 ^ n' + 2 ^ V * 2 ^ n' ∧ 2 ^ V ≤ 2 ^ V * 2 ^ n') := by
        refine ⟨by rw [P2.out, Nat.mul_add], ?_⟩
        have := Nat.mul_le_mul_left (2 ^ V) P1.out
        rw [Nat.mul_one] at this
        exact this
      clear v0 v1 v2 pv hvn
      unfold prV at SP
      change Hid (Calls _ _ #[_, .agg #[.int .i64 (x : Int), .int .i64 (y : Int)]] _ _) at SP
      go_wp2_with fail
      refine SP.out.mono ?_
      rintro e w5 ⟨rfl, hb5⟩
      have b6 := (((Below.refl w5.heap.size w5).alloc (Nat.le_refl _) (prO (halfP false vn a.cs ⟨x, y⟩))).alloc (by simp) (prO (halfP true vn a.cs ⟨x, y⟩)))
      have rl := at_old (prO (halfP true vn a.cs ⟨x, y⟩)) (heap_alloc_new w5 (prO (halfP false vn a.cs ⟨x, y⟩)))
      have rh := at_new (n := w5.heap.size + 1) (w := w5.alloc (prO (halfP false vn a.cs ⟨x, y⟩))) (prO (halfP true vn a.cs ⟨x, y⟩)) (by simp)
      have rp := at_old (prO (halfP true vn a.cs ⟨x, y⟩)) (at_old (prO (halfP false vn a.cs ⟨x, y⟩)) ((hb5.block _ (row_lt R3.out)).trans R3.out))
      have B6 := Lib.hid (B3.out.trans ((hb5.trans (b6.mono hb5.size)).mono B3.out.size))
      have F6 := Lib.hid ((T3.out.keep hb5).keep b6)
      have RH6 := Lib.hid rh
      have RP6 := Lib.hid rp
      have cn : ((w5.alloc (prO (halfP false vn a.cs ⟨x, y⟩))).alloc (prO (halfP true vn a.cs ⟨x, y⟩))).cell? ⟨E.n, 0, none⟩ = some E.nv := F6.out.cn
      have Z5 : Hid (w.heap.size < w5.heap.size) := by
        show _ < _
        have := hb5.size
        have e : ((w.alloc (.cells #[.int .i64 x, .int .i64 y] 82)).drew).heap.size = w.heap.size + 1 := by show (w.alloc _).heap.size = _; simp
        omega
      clear hb5 b6 rl rh rp cf cq hlk
      unfold prO at F6 RH6 RP6 cn B6
      unfold PEnv.nv ptrV at cn
      go_wp2_with fail
      clear cn
      have NP6 : Hid (¬ Two.own o q d a b w.heap.size) := fun h => by have := T0.out.two.lt h; omega
      have NB : Hid (w.heap.size ≠ E.b) := by
        show _ ≠ _
        obtain ⟨D, m1, _⟩ := T0.out.map
        have := m1.lt
        omega
      have NH6 : Hid (¬ Two.own o q d a b (w5.heap.size + 1)) := fun h => by have := T0.out.two.lt h; have := Z5.out; omega
      have NB2 : Hid (w5.heap.size + 1 ≠ E.b) := by
        show _ ≠ _
        obtain ⟨D, m1, _⟩ := T0.out.map
        have := m1.lt
        have := Z5.out
        omega
      have C1 := Lib.hid (IH.out n' (by omega) b _ N (halfP false vn a.cs ⟨x, y⟩) (vn + 1) F6.out LH.out.1 (by omega) (by have := LV.out.1; omega) (by have := HN.out; have := LV.out.2; omega) (by have := HNN.out; have := P2.out; have := P1.out; omega))
      unfold prV ptrV at C1
      refine C1.out.mono ?_
      rintro e w7 ⟨r1, x1, b1, N1, rfl, f7, g7, mv7, m7, n7, hout⟩
      have F7 := Lib.hid f7
      have G7 := Lib.hid g7
      have MV7 := Lib.hid mv7
      have M7 := Lib.hid m7
      have N7 := Lib.hid n7
      have RP7 := Lib.hid (mv7.row RP6.out NP6.out NB.out).1
      have NP7 := Lib.hid (mv7.row RP6.out NP6.out NB.out).2
      have RH7 := Lib.hid (mv7.row RH6.out NH6.out NB2.out).1
      clear f7 g7 mv7 m7 n7 C1 RP6 RH6 NP6 NH6
      revert RH7
      generalize w5.heap.size + 1 = bh
      intro RH7
      rcases hout with ⟨rfl, hr⟩ | ⟨rfl, rfl, hfull⟩
      · have R1 := Lib.hid hr
        clear hr
        have cs := F7.out.cs
        have cv := F7.out.rows vn LV.out.1
        have hvi : (vn : Int) < V := by have := LV.out.1; omega
        cases hs : S vn with
        | true =>
          rw [hs] at cv
          by_cases h1 : r1 = 1
          · subst h1
            have RS := Lib.hid (pres_all F7.out.goodA F7.out.goodB hvi PP.out hs R1.out)
            have cf := F7.out.cf
            obtain ⟨p0, p1, pf⟩ := pr_cells (p := ⟨x, y⟩) RP7.out
            obtain ⟨w8, hmu, f8, t8⟩ := F7.out.put (by have := HNN.out; have := P2.out; have := P1.out; have := N7.out; omega) FF.out RS.out
            have F8 := Lib.hid f8
            have MV8 : Hid (Move (Two.own o q d a b1) (Two.own o q d a b1) E.b w7 w8) := Move.put t8
            have HSV := Lib.hid hs
            clear f8 t8 hs
            unfold prV at hmu
            rw [show ((1 : Nat) : Int) = (1 : Int) from rfl] at hmu
            go_wp2_with fail
            go_ret2
            have P2' := P2.out
            have P1' := P1.out
            have PJ' := PJ.out
            have PV' := PV.out
            have M7' := M7.out
            have N7' := N7.out
            exact ⟨1, 0, b1, N1 + 1, rfl, F8.out, G7.out, ((Move.below B6.out).trans MV7.out).trans MV8.out, by omega, by omega, .inl ⟨rfl, HS.out _ _ RS.out⟩⟩
          · have h1b : ((r1 : Int) == 1) = false := by simp; omega
            have RSAY : Hid (∀ (b2 b3 : OS) (r r2 : Nat), At b3.cs 0 r → (∀ val, Says V b3.cs val r = if S vn then (Says V b2.cs val r1 || Says V b2.cs val r2) else if val vn then Says V b2.cs val r2 else Says V b2.cs val r1) → PRes V a.cs b2.cs S (halfP false vn a.cs ⟨x, y⟩) r1 → PRes V a.cs b2.cs S (halfP true vn a.cs ⟨x, y⟩) r2 → PRes V a.cs b3.cs S ⟨x, y⟩ r) := by
              show ∀ (b2 b3 : OS) (r r2 : Nat), _
              intro b2 b3 r r2 hat hsay ra rb
              exact pres_or F7.out.goodA hat hvi PP.out hs (fun val => by rw [hsay, hs]; rfl) ra rb
            clear h1 hs
            have cn := F7.out.cn
            have ch := pr_cells RH7.out
            obtain ⟨h0, h1, hf⟩ := ch
            unfold PEnv.nv ptrV at cn
            go_wp2_with fail
            clear cn h0 h1 hf
            have C2 := Lib.hid (IH.out n' (by omega) b1 w7 N1 (halfP true vn a.cs ⟨x, y⟩) (vn + 1) F7.out LH.out.2 (by omega) (by have := LV.out.1; omega) (by have := HN.out; have := LV.out.2; omega) (by have := HNN.out; have := P2.out; have := N7.out; have := P1.out; omega))
            unfold prV ptrV at C2
            refine C2.out.mono ?_
            rintro e w8 ⟨r2, x2, b2, N2, rfl, f8, g8, mv8, m8, n8, hout⟩
            have F8 := Lib.hid f8
            have G8 := Lib.hid g8
            have MV8 := Lib.hid mv8
            have M8 := Lib.hid m8
            have N8 := Lib.hid n8
            have RP8 := Lib.hid (mv8.row RP7.out NP7.out NB.out)
            clear f8 g8 mv8 m8 n8 C2
            rcases hout with ⟨rfl, hr⟩ | ⟨rfl, rfl, hfull⟩
            · have R2 := Lib.hid hr
              have R1' := Lib.hid (R1.out.ext G8.out.ext F7.out.goodB F8.out.goodB)
              have JO := Lib.hid (joinP F8.out HV2.out (v := vn) (x := r1) (y := r2) LV.out.1 (R1'.out.at F8.out.goodA F8.out.goodB (by have := LV.out.1; omega) LH.out.1) (hr.at F8.out.goodA F8.out.goodB (by have := LV.out.1; omega) LH.out.2))
              have cj := F8.out.cj
              clear hr
              unfold PEnv.jv ptrV at *
              go_wp2_with fail
              refine JO.out.mono ?_
              rintro e w9 ⟨r, z9, b3, rfl, os9, g9, on9, m9, hout⟩
              obtain ⟨t9, tn9, o9⟩ := F8.out.two.draft_step os9 on9
              have F9 := Lib.hid (F8.out.step tn9 t9 g9 o9)
              have G9 := Lib.hid g9
              have MV9 : Hid (Move (Two.own o q d a b2) (Two.own o q d a b3) E.b w8 w9) := Move.of tn9 o9
              have M9 := Lib.hid m9
              have RP9 := Lib.hid (MV9.out.row RP8.out.1 RP8.out.2 NB.out)
              clear os9 g9 on9 m9 t9 tn9 o9 JO cj
              rcases hout with ⟨rfl, hat, hsay⟩ | ⟨rfl, rfl, hfull⟩
              · have RS := Lib.hid (RSAY.out b2 b3 r r2 hat hsay R1'.out R2.out)
                have cf := F9.out.cf
                obtain ⟨p0, p1, pf⟩ := pr_cells (p := ⟨x, y⟩) RP9.out.1
                obtain ⟨w10, hmu, f10, t10⟩ := F9.out.put (by have := HNN.out; have := P2.out; have := P1.out; have := N7.out; have := N8.out; omega) FF.out RS.out
                have F10 := Lib.hid f10
                have MV10 : Hid (Move (Two.own o q d a b3) (Two.own o q d a b3) E.b w9 w10) := Move.put t10
                clear hat hsay f10 t10
                unfold prV at hmu
                go_wp2_with fail
                go_ret2
                have P2' := P2.out
                have P1' := P1.out
                have PJ' := PJ.out
                have PV' := PV.out
                have M7' := M7.out
                have N7' := N7.out
                have M8' := M8.out
                have N8' := N8.out
                have M9' := M9.out
                exact ⟨r, 0, b3, N2 + 1, rfl, F10.out, (G7.out.trans G8.out).trans G9.out, ((((Move.below B6.out).trans MV7.out).trans MV8.out).trans MV9.out).trans MV10.out, by omega, by omega, .inl ⟨rfl, HS.out _ _ RS.out⟩⟩
              · have FU := Lib.hid hfull
                clear hfull
                go_wp2_with fail
                go_ret2
                have P2' := P2.out
                have P1' := P1.out
                have PJ' := PJ.out
                have PV' := PV.out
                have M7' := M7.out
                have N7' := N7.out
                have M8' := M8.out
                have N8' := N8.out
                have M9' := M9.out
                have FU' := FU.out
                exact ⟨0, 30, b3, N2, rfl, F9.out, (G7.out.trans G8.out).trans G9.out, (((Move.below B6.out).trans MV7.out).trans MV8.out).trans MV9.out, by omega, by omega, .inr ⟨rfl, rfl, by omega⟩⟩
            · have FU := Lib.hid hfull
              clear hfull
              go_wp2_with fail
              go_ret2
              have P2' := P2.out
              have P1' := P1.out
              have PJ' := PJ.out
              have PV' := PV.out
              have M7' := M7.out
              have N7' := N7.out
              have M8' := M8.out
              have N8' := N8.out
              have FU' := FU.out
              exact ⟨0, 30, b2, N2, rfl, F8.out, G7.out.trans G8.out, ((Move.below B6.out).trans MV7.out).trans MV8.out, by omega, by omega, .inr ⟨rfl, rfl, by omega⟩⟩
        | false =>
          rw [hs] at cv
          have RSAY : Hid (∀ (b2 b3 : OS) (r r2 : Nat), At b3.cs 0 r → (∀ val, Says V b3.cs val r = if S vn then (Says V b2.cs val r1 || Says V b2.cs val r2) else if val vn then Says V b2.cs val r2 else Says V b2.cs val r1) → PRes V a.cs b2.cs S (halfP false vn a.cs ⟨x, y⟩) r1 → PRes V a.cs b2.cs S (halfP true vn a.cs ⟨x, y⟩) r2 → PRes V a.cs b3.cs S ⟨x, y⟩ r) := by
            show ∀ (b2 b3 : OS) (r r2 : Nat), _
            intro b2 b3 r r2 hat hsay ra rb
            exact pres_mk F7.out.goodA hat hvi PP.out hs (fun val => by rw [hsay, hs]; rfl) ra rb
          clear hs
          have cn := F7.out.cn
          have ch := pr_cells RH7.out
          obtain ⟨h0, h1, hf⟩ := ch
          unfold PEnv.nv ptrV at cn
          go_wp2_with fail
          clear cn h0 h1 hf
          have C2 := Lib.hid (IH.out n' (by omega) b1 w7 N1 (halfP true vn a.cs ⟨x, y⟩) (vn + 1) F7.out LH.out.2 (by omega) (by have := LV.out.1; omega) (by have := HN.out; have := LV.out.2; omega) (by have := HNN.out; have := P2.out; have := N7.out; have := P1.out; omega))
          unfold prV ptrV at C2
          refine C2.out.mono ?_
          rintro e w8 ⟨r2, x2, b2, N2, rfl, f8, g8, mv8, m8, n8, hout⟩
          have F8 := Lib.hid f8
          have G8 := Lib.hid g8
          have MV8 := Lib.hid mv8
          have M8 := Lib.hid m8
          have N8 := Lib.hid n8
          have RP8 := Lib.hid (mv8.row RP7.out NP7.out NB.out)
          clear f8 g8 mv8 m8 n8 C2
          rcases hout with ⟨rfl, hr⟩ | ⟨rfl, rfl, hfull⟩
          · have R2 := Lib.hid hr
            have R1' := Lib.hid (R1.out.ext G8.out.ext F7.out.goodB F8.out.goodB)
            have JO := Lib.hid (joinP F8.out HV2.out (v := vn) (x := r1) (y := r2) LV.out.1 (R1'.out.at F8.out.goodA F8.out.goodB (by have := LV.out.1; omega) LH.out.1) (hr.at F8.out.goodA F8.out.goodB (by have := LV.out.1; omega) LH.out.2))
            have cj := F8.out.cj
            clear hr
            unfold PEnv.jv ptrV at *
            go_wp2_with fail
            refine JO.out.mono ?_
            rintro e w9 ⟨r, z9, b3, rfl, os9, g9, on9, m9, hout⟩
            obtain ⟨t9, tn9, o9⟩ := F8.out.two.draft_step os9 on9
            have F9 := Lib.hid (F8.out.step tn9 t9 g9 o9)
            have G9 := Lib.hid g9
            have MV9 : Hid (Move (Two.own o q d a b2) (Two.own o q d a b3) E.b w8 w9) := Move.of tn9 o9
            have M9 := Lib.hid m9
            have RP9 := Lib.hid (MV9.out.row RP8.out.1 RP8.out.2 NB.out)
            clear os9 g9 on9 m9 t9 tn9 o9 JO cj
            rcases hout with ⟨rfl, hat, hsay⟩ | ⟨rfl, rfl, hfull⟩
            · have RS := Lib.hid (RSAY.out b2 b3 r r2 hat hsay R1'.out R2.out)
              have cf := F9.out.cf
              obtain ⟨p0, p1, pf⟩ := pr_cells (p := ⟨x, y⟩) RP9.out.1
              obtain ⟨w10, hmu, f10, t10⟩ := F9.out.put (by have := HNN.out; have := P2.out; have := P1.out; have := N7.out; have := N8.out; omega) FF.out RS.out
              have F10 := Lib.hid f10
              have MV10 : Hid (Move (Two.own o q d a b3) (Two.own o q d a b3) E.b w9 w10) := Move.put t10
              clear hat hsay f10 t10
              unfold prV at hmu
              go_wp2_with fail
              go_ret2
              have P2' := P2.out
              have P1' := P1.out
              have PJ' := PJ.out
              have PV' := PV.out
              have M7' := M7.out
              have N7' := N7.out
              have M8' := M8.out
              have N8' := N8.out
              have M9' := M9.out
              exact ⟨r, 0, b3, N2 + 1, rfl, F10.out, (G7.out.trans G8.out).trans G9.out, ((((Move.below B6.out).trans MV7.out).trans MV8.out).trans MV9.out).trans MV10.out, by omega, by omega, .inl ⟨rfl, HS.out _ _ RS.out⟩⟩
            · have FU := Lib.hid hfull
              clear hfull
              go_wp2_with fail
              go_ret2
              have P2' := P2.out
              have P1' := P1.out
              have PJ' := PJ.out
              have PV' := PV.out
              have M7' := M7.out
              have N7' := N7.out
              have M8' := M8.out
              have N8' := N8.out
              have M9' := M9.out
              have FU' := FU.out
              exact ⟨0, 30, b3, N2, rfl, F9.out, (G7.out.trans G8.out).trans G9.out, (((Move.below B6.out).trans MV7.out).trans MV8.out).trans MV9.out, by omega, by omega, .inr ⟨rfl, rfl, by omega⟩⟩
          · have FU := Lib.hid hfull
            clear hfull
            go_wp2_with fail
            go_ret2
            have P2' := P2.out
            have P1' := P1.out
            have PJ' := PJ.out
            have PV' := PV.out
            have M7' := M7.out
            have N7' := N7.out
            have M8' := M8.out
            have N8' := N8.out
            have FU' := FU.out
            exact ⟨0, 30, b2, N2, rfl, F8.out, G7.out.trans G8.out, ((Move.below B6.out).trans MV7.out).trans MV8.out, by omega, by omega, .inr ⟨rfl, rfl, by omega⟩⟩
      · have FU := Lib.hid hfull
        clear hfull
        go_wp2_with fail
        go_ret2
        have P2' := P2.out
        have P1' := P1.out
        have PJ' := PJ.out
        have PV' := PV.out
        have M7' := M7.out
        have N7' := N7.out
        have FU' := FU.out
        exact ⟨0, 30, b1, N1, rfl, F7.out, G7.out, (Move.below B6.out).trans MV7.out, by omega, by omega, .inr ⟨rfl, rfl, by omega⟩⟩
end Go.Proofs.Ytmbkkifopmbkaaa

/- Contracts of layer 5 (quan): product. -/
namespace Go.Proofs.Ytmbkkifopmbkaaa
open Go.ChangeShapes Go.WideShapes Go.ChangeAt Go.RowKit Go.Maps

def penvOf (n sb : Nat) : PEnv := ⟨n + 1 + 1 + 1 + 1 + 1, n, n + 1 + 1 + 1 + 1 + 1 + 1 + 1, n + 1 + 1 + 1, n + 1 + 1 + 1 + 1 + 1 + 1, n + 1, n + 1 + 1 + 1 + 1, sb⟩
def penvW (w : World) (q d sb V : Nat) (p : Pr) : World :=
  ((((((((w.alloc (.cells #[ptrV q] 23)).alloc (.cells #[ptrV d] 40)).alloc (prO p)).alloc (.cells #[.slice (some ⟨sb, 0, none⟩) V V] 80)).alloc (.map #[] 0)).alloc
    (.cells #[.map (some (w.heap.size + 1 + 1 + 1 + 1))] 109)).alloc (.cells #[(penvOf w.heap.size sb).jv] 79)).alloc (.cells #[(penvOf w.heap.size sb).nv] 110))

/-- Eight blocks, one behind the other. -/
theorem eight (w : World) (o0 o1 o2 o3 o4 o5 o6 o7 : Obj) :
    let w8 := (((((((w.alloc o0).alloc o1).alloc o2).alloc o3).alloc o4).alloc o5).alloc o6).alloc o7
    w8.heap[w.heap.size]? = some o0 ∧ w8.heap[w.heap.size + 1]? = some o1 ∧ w8.heap[w.heap.size + 1 + 1]? = some o2 ∧ w8.heap[w.heap.size + 1 + 1 + 1]? = some o3 ∧ w8.heap[w.heap.size + 1 + 1 + 1 + 1]? = some o4 ∧
    w8.heap[w.heap.size + 1 + 1 + 1 + 1 + 1]? = some o5 ∧ w8.heap[w.heap.size + 1 + 1 + 1 + 1 + 1 + 1]? = some o6 ∧ w8.heap[w.heap.size + 1 + 1 + 1 + 1 + 1 + 1 + 1]? = some o7 ∧ Below w.heap.size w w8 := by
  intro w8
  refine ⟨at_old _ (at_old _ (at_old _ (at_old _ (at_old _ (at_old _ (at_old _ (heap_alloc_new w o0))))))), ?_, ?_, ?_, ?_, ?_, ?_, ?_, ?_⟩
  · exact at_old _ (at_old _ (at_old _ (at_old _ (at_old _ (at_old _ (at_new (n := w.heap.size + 1) (w := w.alloc o0) o1 (by simp)))))))
  · exact at_old _ (at_old _ (at_old _ (at_old _ (at_old _ (at_new (n := w.heap.size + 1 + 1) (w := (w.alloc o0).alloc o1) o2 (by simp))))))
  · exact at_old _ (at_old _ (at_old _ (at_old _ (at_new (n := w.heap.size + 1 + 1 + 1) (w := ((w.alloc o0).alloc o1).alloc o2) o3 (by simp)))))
  · exact at_old _ (at_old _ (at_old _ (at_new (n := w.heap.size + 1 + 1 + 1 + 1) (w := (((w.alloc o0).alloc o1).alloc o2).alloc o3) o4 (by simp))))
  · exact at_old _ (at_old _ (at_new (n := w.heap.size + 1 + 1 + 1 + 1 + 1) (w := ((((w.alloc o0).alloc o1).alloc o2).alloc o3).alloc o4) o5 (by simp)))
  · exact at_old _ (at_new (n := w.heap.size + 1 + 1 + 1 + 1 + 1 + 1) (w := (((((w.alloc o0).alloc o1).alloc o2).alloc o3).alloc o4).alloc o5) o6 (by simp))
  · exact at_new (n := w.heap.size + 1 + 1 + 1 + 1 + 1 + 1 + 1) (w := ((((((w.alloc o0).alloc o1).alloc o2).alloc o3).alloc o4).alloc o5).alloc o6) o7 (by simp)
  · exact ((((((((Below.refl w.heap.size w).alloc (Nat.le_refl _) _).alloc (by simp) _).alloc (by simp; omega) _).alloc (by simp; omega) _).alloc (by simp; omega) _).alloc (by simp; omega) _).alloc (by simp; omega) _).alloc (by simp; omega) _

def ProdOut (o q d V : Nat) (a : OS) (S : Nat → Bool) (b : OS) (n : Nat) (p : Pr) (w : World) (e : Ending) (w' : World) : Prop :=
  ∃ (r : Nat) (x : Int) (b' : OS), e = .returned (.tuple #[.int .i64 (r : Int), .int .i64 x]) ∧ Two o q d a b' w' ∧ Grew b b' ∧ Turn (Two.own o q d a b) w w' ∧ (∀ i, Two.own o q d a b' i → Two.own o q d a b i ∨ w.heap.size ≤ i) ∧
    cnt b'.cs + 2 ^ V ≤ cnt b.cs + 2 ^ V * 2 ^ n ∧ ((x = 0 ∧ PRes V a.cs b'.cs S p r) ∨ (x = 30 ∧ r = 0 ∧ 1048576 ≤ cnt b.cs + 2 ^ V * 2 ^ n))

theorem ProdOut.of {o q d V : Nat} {a b : OS} {S : Nat → Bool} {E : PEnv} {n : Nat} {p : Pr} {w w1 w2 : World} {e : Ending} (hb : Below w.heap.size w w1) (hE : w.heap.size ≤ E.b) (f : FOutP o q d V a S E b 0 n p w1 e w2) : ProdOut o q d V a S b n p w e w2 := by
  obtain ⟨r, x, b', N', e1, f2, g, mv, m, -, hout⟩ := f
  refine ⟨r, x, b', e1, f2.two, g, (Turn.of_below hb).trans mv.turn ?_, fun i hi => (mv.own i hi).imp id fun q => Nat.le_trans hb.size q, m, hout⟩
  rintro i (q | rfl)
  · exact .inl q
  · exact .inr hE

set_option maxRecDepth 100000 in
set_option maxHeartbeats 4000000 in
theorem product_any {o q d V : Nat} {a b : OS} {S : Nat → Bool} {w : World} (t : Two o q d a b w) (eV : a.h.V = V) (eV2 : b.h.V = V) (eB : b.h.B = 1048576) (hV : 2 ^ V ≤ 900000) {sb : Nat} (hsb : sb < w.heap.size) (hrow : ∀ i, i < V → w.cell? ⟨sb, i, none⟩ = some (.bool (S i)))
    (hno : ¬ Two.own o q d a b sb) {p : Pr} (hp : PAt a.cs 0 p) :
    Calls Try.prog 35 #[.pointer (some ⟨q, 0, none⟩), .pointer (some ⟨d, 0, none⟩), prV p, .slice (some ⟨sb, 0, none⟩) V V] w (ProdOut o q d V a S b V p w) := by
  obtain ⟨r0, r1, r2, r3, r4, r5, r6, r7, b8⟩ := eight w (.cells #[ptrV q] 23) (.cells #[ptrV d] 40) (prO p) (.cells #[.slice (some ⟨sb, 0, none⟩) V V] 80) (.map #[] 0) (.cells #[.map (some (w.heap.size + 1 + 1 + 1 + 1))] 109) (.cells #[(penvOf w.heap.size sb).jv] 79) (.cells #[(penvOf w.heap.size sb).nv] 110)
  have lt := fun i => t.lt (i := i)
  have P0 : PSt o q d V a S (penvOf w.heap.size sb) b (penvW w q d sb V p) 0 := by
    refine ⟨t.keep (P := fun _ => False) (Turn.of_below b8) (fun _ _ h => h), eV, eV2, eB, ⟨_, PMap.made r4, PGood.empty _⟩, cell_of_row _ _ 0 _ _ _ r5, cell_of_row _ _ 0 _ _ _ r0, cell_of_row _ _ 0 _ _ _ r7, cell_of_row _ _ 0 _ _ _ r3, cell_of_row _ _ 0 _ _ _ r6, cell_of_row _ _ 0 _ _ _ r1,
      fun i hi => (b8.cell (p := ⟨sb, i, none⟩) hsb).trans (hrow i hi), ?_, Nat.lt_of_lt_of_le hsb b8.size⟩
    rintro i (rfl | rfl | rfl | rfl | rfl | rfl | rfl | rfl) hh
    · have := lt _ hh; simp only [penvOf] at this; omega
    · have := lt _ hh; simp only [penvOf] at this; omega
    · have := lt _ hh; simp only [penvOf] at this; omega
    · have := lt _ hh; simp only [penvOf] at this; omega
    · have := lt _ hh; simp only [penvOf] at this; omega
    · have := lt _ hh; simp only [penvOf] at this; omega
    · have := lt _ hh; simp only [penvOf] at this; omega
    · exact hno hh
  have C := findP hV V b _ 0 p 0 P0 hp (Int.le_refl _) (by omega) (by omega) (by omega)
  have B8 : Hid (Below w.heap.size w (penvW w q d sb V p)) := b8
  have C := Lib.hid C
  have hmf : ∀ (fn : Fn) (first cap : Array Value) (w : World), (Instr.makeFunc fn first cap).run Try.prog w = .ok (.func fn first cap) w := fun _ _ _ _ => rfl
  have hmm := @run_makeMap Try.prog
  clear r0 r1 r2 r3 r4 r5 r6 r7 b8 lt P0 hp t eV eV2 eB hV hsb hrow hno
  unfold penvW penvOf PEnv.jv PEnv.nv prO ptrV at C B8
  unfold prV at *
  go_enter Try.func35, Try.ntmps35
  go_wp2_with fail
  refine C.out.mono ?_
  intro e w2 hout
  have HO := Lib.hid (ProdOut.of B8.out (by show _ ≤ w.heap.size + 1 + 1 + 1 + 1; omega) hout)
  obtain ⟨r, x, s', N', rfl, -⟩ := hout
  clear C B8
  go_wp2_with fail
  go_ret2
  exact HO.out
end Go.Proofs.Ytmbkkifopmbkaaa
