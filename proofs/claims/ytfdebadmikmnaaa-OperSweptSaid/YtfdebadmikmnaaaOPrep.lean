/- Contracts of layer 4 (oper): operations and their cache; given, prepare. -/
import Derived.Test.YtfdebadmikmnaaaOKey
import Derived.Maps.OwnSet
import Derived.Maps.OwnIn
namespace Go.Proofs.Ytfdebadmikmnaaa
open Go.ChangeShapes Go.WideShapes Go.ChangeAt Go.RowKit Go.Maps

/-- What operations own: their store's blocks, their own, the cache's. -/
def oown (o : Nat) (m : Mem) (mb : Option Nat) (i : Nat) : Prop := m.own i ∨ i = o ∨ mb = some i

/-- Operations, as New gives them and their calls leave them. -/
structure OSt (w : World) (m : Mem) (h : Hd) (cs : List Nd) (o : Nat) (mb : Option Nat) : Prop where
  st : St w m h cs
  no : ¬ m.own o
  cache : (mb = none ∧ OpsAt w o m.s 0 0 none 0 ∧ 0 ≤ h.sweeps) ∨
    ∃ b n D sw, mb = some b ∧ OpsAt w o m.s 1 0 (some b) sw ∧ CMap w b n D ∧ ¬ m.own b ∧ sw ≤ h.sweeps ∧ (sw = h.sweeps → CGood h.V cs D)

/-- Operations, ready to be asked. -/
structure Rdy (w : World) (m : Mem) (h : Hd) (cs : List Nd) (o b n : Nat) : Prop where
  st : St w m h cs
  no : ¬ m.own o
  nb : ¬ m.own b
  head : OpsAt w o m.s 1 0 (some b) h.sweeps
  cache : ∃ D, CMap w b n D ∧ CGood h.V cs D

structure ONext (o : Nat) (m : Mem) (mb : Option Nat) (m' : Mem) (mb' : Option Nat) (w w' : World) : Prop where
  turn : Turn (oown o m mb) w w'
  s : m'.s = m.s
  own : ∀ i, oown o m' mb' i → oown o m mb i ∨ w.heap.size ≤ i

section
variable {o : Nat} {m m1 m2 : Mem} {mb mb1 mb2 : Option Nat} {w w1 w2 : World} {h : Hd} {cs : List Nd}
theorem ONext.refl (o : Nat) (m : Mem) (mb : Option Nat) (w : World) : ONext o m mb m mb w w := ⟨Turn.refl _ _, rfl, fun _ h => .inl h⟩
theorem ONext.trans (a : ONext o m mb m1 mb1 w w1) (b : ONext o m1 mb1 m2 mb2 w1 w2) : ONext o m mb m2 mb2 w w2 :=
  ⟨a.turn.trans b.turn a.own, b.s.trans a.s, fun i hi => (b.own i hi).elim (a.own i) fun hh => .inr (Nat.le_trans a.turn.size hh)⟩
theorem ONext.below (hb : Below w.heap.size w w1) : ONext o m mb m mb w w1 := ⟨Turn.of_below hb, rfl, fun _ h => .inl h⟩
theorem Next.onext (n : Next m m1 w w1) : ONext o m mb m1 mb w w1 :=
  ⟨⟨n.turn.os, n.turn.tape, n.turn.output, n.turn.size, fun i hi h1 => n.turn.block i hi fun hh => h1 (.inl hh)⟩, n.s, fun i hi => hi.elim (fun h => (n.own i h).elim (fun x => .inl (.inl x)) .inr) fun h => .inl (.inr h)⟩
theorem ONext.to_below {B : Nat} {w0 : World} (n : ONext o m mb m1 mb1 w w1) (hb : Below B w0 w) (ho : ∀ i, oown o m mb i → B ≤ i) (hB : B ≤ w.heap.size) : Below B w0 w1 ∧ ∀ i, oown o m1 mb1 i → B ≤ i :=
  ⟨Turn.to_below hb n.turn ho hB, fun i hi => (n.own i hi).elim (ho i) fun hh => Nat.le_trans hB hh⟩
/-- What operations do not own stays. -/
theorem ONext.row (n : ONext o m mb m1 mb1 w w1) {i : Nat} {x : Obj} (hx : w.heap[i]? = some x) (hi : ¬ oown o m mb i) : w1.heap[i]? = some x := (n.turn.block i (row_lt hx) hi).trans hx

theorem Rdy.keep {b n : Nat} (r : Rdy w m h cs o b n) (hb : Below w.heap.size w w1) : Rdy w1 m h cs o b n := by
  obtain ⟨D, c1, c2⟩ := r.cache
  exact ⟨r.st.keep hb, r.no, r.nb, r.head.keep hb, D, c1.keep hb, c2⟩
theorem Rdy.ost {b n : Nat} (r : Rdy w m h cs o b n) : OSt w m h cs o (some b) := by
  obtain ⟨D, c1, c2⟩ := r.cache
  exact ⟨r.st, r.no, .inr ⟨b, n, D, h.sweeps, rfl, r.head, c1, r.nb, Int.le_refl _, fun _ => c2⟩⟩
theorem OSt.keep (r : OSt w m h cs o mb) (hb : Below w.heap.size w w1) : OSt w1 m h cs o mb := by
  refine ⟨r.st.keep hb, r.no, ?_⟩
  rcases r.cache with ⟨a, b, c⟩ | ⟨b, n, D, sw, c1, c2, c3, c4, c5, c6⟩
  · exact .inl ⟨a, b.keep hb, c⟩
  · exact .inr ⟨b, n, D, sw, c1, c2.keep hb, c3.keep hb, c4, c5, c6⟩
theorem OSt.head (r : OSt w m h cs o mb) : ∃ d mp sw, OpsAt w o m.s d 0 mp sw := by
  rcases r.cache with ⟨a, b, c⟩ | ⟨b, n, D, sw, c1, c2, c3, c4, c5, c6⟩
  · exact ⟨_, _, _, b⟩
  · exact ⟨_, _, _, c2⟩
theorem OSt.own_lt (r : OSt w m h cs o mb) : ∀ i, oown o m mb i → i < w.heap.size := by
  rintro i (h1 | rfl | rfl)
  · exact r.st.own_lt i h1
  · obtain ⟨_, _, _, hh⟩ := r.head; exact hh.lt
  · rcases r.cache with ⟨a, b, c⟩ | ⟨b, n, D, sw, c1, c2, c3, c4, c5, c6⟩
    · cases a
    · injection c1 with c1; subst c1; exact c3.lt
end

theorem clear_map {w : World} {b n : Nat} {D : DataW Unit} (h : CMap w b n D) : ∃ w', (∀ ty, (Builtin.clear_ #[64] ty #[.map (some b)]).run Try.prog w = .ok (.tuple #[]) w') ∧ CMap w' b 0 (.map []) ∧ Turn (fun i => i = b) w w' := by
  obtain ⟨es, clock, h1, h2⟩ := h
  refine ⟨{ w with heap := w.heap.setIfInBounds b (.map #[] clock) }, fun ty => ?_, ?_, ?_⟩
  · simp [Builtin.clear_, run_underlying Try.underlying64, MapKept.run_getObj_map h1, MapKept.run_setObj_map _ h1, Result.andThen]
  · refine ⟨#[], clock, ?_, ⟨by simp, ?_, fun x hx => by simp at hx⟩, Nat.le_refl _, rfl⟩
    · show (w.heap.setIfInBounds b _)[b]? = _
      rw [Array.getElem?_setIfInBounds, if_pos rfl, if_pos (row_lt h1)]
    · simp [MapKept.Stamped]
  · refine ⟨rfl, rfl, rfl, by simp, fun i hi hn => ?_⟩
    show (w.heap.setIfInBounds b _)[i]? = _
    rw [Array.getElem?_setIfInBounds]
    rw [if_neg (fun e => hn e.symm)]

theorem given_ops {w : World} {o s : Nat} {d x : Int} {mp : Option Nat} {sw : Int} (ha : OpsAt w o s d x mp sw) : Calls Try.prog 38 #[.pointer (some ⟨o, 0, none⟩)] w fun e w' => e = .returned (.bool true) ∧ w = w' := by
  have c0 := ha.c0
  have hi : ∃ i, Try.prog.info? 66 = some i ∧ i.size = 7 := by
    have h := info_ops
    cases hc : Try.prog.info? 66 with
    | none => rw [hc] at h; cases h
    | some i => rw [hc] at h; injection h with h; injection h with h _; exact ⟨i, rfl, h⟩
  obtain ⟨j, hj, _⟩ := hi
  have heq := run_eql_ptr_same (P := Try.prog) w ⟨o, 0, none⟩ Try.underlying24 hj
  clear ha
  go_enter Try.func38, Try.ntmps38
  go_wp2
  go_ret
  exact ⟨rfl, rfl⟩

def PrepOut (m : Mem) (h : Hd) (cs : List Nd) (o : Nat) (mb : Option Nat) (w : World) (e : Ending) (w' : World) : Prop :=
  ∃ b n, e = .returned (.tuple #[]) ∧ Rdy w' m h cs o b n ∧ n ≤ 1048576 ∧ ONext o m mb m (some b) w w'

/-- Behind Once: the cache is made. -/
def OnceOut (m : Mem) (h : Hd) (cs : List Nd) (o : Nat) (mb : Option Nat) (w : World) (e : Ending) (w' : World) : Prop :=
  ∃ b n D sw, e = .returned (.tuple #[]) ∧ OpsAt w' o m.s 1 0 (some b) sw ∧ CMap w' b n D ∧ ¬ m.own b ∧ sw ≤ h.sweeps ∧ (sw = h.sweeps → CGood h.V cs D) ∧ Turn (fun i => i = o) w w' ∧ (mb = some b ∨ w.heap.size ≤ b)

theorem do_any {w : World} {m : Mem} {h : Hd} {cs : List Nd} {o : Nat} {mb : Option Nat} (r : OSt w m h cs o mb) (pl : Addr) (hpb : ¬ o = pl.block) (hp : w.cell? pl = some (.pointer (some ⟨o, 0, none⟩))) :
    Calls Try.prog 58 #[.pointer (some ⟨o, 2, none⟩), .func (.func 59) #[] #[.pointer (some pl)]] w (OnceOut m h cs o mb w) := by
  rcases r.cache with ⟨rfl, b, c⟩ | ⟨b, n, D, sw, rfl, c2, c3, c4, c5, c6⟩
  · refine (do_first o m.s 0 pl hpb w hp b).mono ?_
    rintro e w' ⟨rfl, rfl⟩
    exact ⟨w.heap.size, 0, .map [], 0, rfl, onceW_at b, CMap.made (onceW_map b.lt), fun q => by have := r.st.own_lt _ q; omega, c, fun _ => CGood.empty _ _, onceW_turn o w, .inr (Nat.le_refl _)⟩
  · refine (do_done o m.s (some b) sw _ w c2).mono ?_
    rintro e w' ⟨rfl, rfl⟩
    exact ⟨b, n, D, sw, rfl, c2, c3, c4, c5, c6, Turn.refl _ _, .inl rfl⟩

set_option maxRecDepth 100000 in
set_option maxHeartbeats 4000000 in
theorem prepare_any {w : World} {m : Mem} {h : Hd} {cs : List Nd} {o : Nat} {mb : Option Nat} (r : OSt w m h cs o mb) :
    Calls Try.prog 46 #[.pointer (some ⟨o, 0, none⟩)] w (PrepOut m h cs o mb w) := by
  have ol := r.own_lt o (.inr (.inl rfl))
  have bw := (Below.refl w.heap.size w).alloc (Nat.le_refl _) (.cells #[.pointer (some ⟨o, 0, none⟩)] 24)
  have hbx := heap_alloc_new w (.cells #[.pointer (some ⟨o, 0, none⟩)] 24)
  have DO := Lib.hid (do_any (r.keep bw) ⟨w.heap.size, 0, none⟩ (by show ¬ o = w.heap.size; omega) (cell_of_row _ _ 0 _ _ _ hbx))
  have ST1 := Lib.hid (r.st.keep bw)
  have NO := Lib.hid r.no
  have BW := Lib.hid bw
  have HBX := Lib.hid hbx
  have OL := Lib.hid ol
  have OW := Lib.hid r.own_lt
  clear r bw hbx ol
  have hmf : ∀ (fn : Fn) (first cap : Array Value) (w : World), (Instr.makeFunc fn first cap).run Try.prog w = .ok (.func fn first cap) w := fun _ _ _ _ => rfl
  go_enter Try.func46, Try.ntmps46
  go_wp2_with fail
  refine DO.out.mono ?_
  rintro e w2 ⟨b, n, D, sw, rfl, ha, cm, nb, hsw, hg, ht, hmb⟩
  have hp2 := (ht.block w.heap.size (row_lt HBX.out) (by have := OL.out; omega)).trans HBX.out
  have p0 := cell_of_row _ _ 0 _ _ _ hp2
  have ob : ¬ o = b := by
    rintro rfl
    exact cm.not_cells ha
  have pb : ¬ w.heap.size = b := by
    rintro rfl
    exact cm.not_cells hp2
  have SW := Lib.hid (sweeps_store (ST1.out.apart ht (fun i q e => NO.out (e ▸ q))).lay)
  have ST2 := Lib.hid (ST1.out.apart ht (fun i q e => NO.out (e ▸ q)))
  have hbb : mb = some b ∨ w.heap.size ≤ b := hmb.imp id fun q => by have := BW.out.size; omega
  have FR : Hid (∀ w3 w4 : World, Turn (fun i => i = b) w2 w3 → Turn (fun i => i = o) w3 w4 → ONext o m mb m (some b) w w4) := by
    show ∀ w3 w4 : World, Turn (fun i => i = b) w2 w3 → Turn (fun i => i = o) w3 w4 → ONext o m mb m (some b) w w4
    intro w3 w4 h3 h4
    have t1 : Turn (oown o m mb) w w2 := (Turn.of_below (own := oown o m mb) BW.out).trans ht (fun i e => .inl (.inr (.inl e)))
    have t2 := t1.trans h3 (fun i e => by subst e; exact hbb.imp (fun q => .inr (.inr q)) id)
    have t3 := t2.trans h4 (fun i e => .inl (.inr (.inl e)))
    refine ⟨t3, rfl, ?_⟩
    rintro i (q | q | q)
    · exact .inl (.inl q)
    · exact .inl (.inr (.inl q))
    · injection q with q
      subst q
      exact hbb.imp (fun q => .inr (.inr q)) id
  have c1 := ha.c1
  have c5 := ha.c5
  have c6 := ha.c6
  have f6 := ha.fz 6
  have HA := Lib.hid ha
  have NB := Lib.hid nb
  have HG := Lib.hid hg
  have OB := Lib.hid ob
  have PB := Lib.hid pb
  have P0 := Lib.hid p0
  unfold ptrV at SW
  clear ha nb hsw hg ht hmb hbb hp2 ob pb hmf
  obtain ⟨w3, hcl, cmc, tc⟩ := clear_map cm
  have hlen := fun ty => World.ownsMap.len cm Try.underlying64 ty
  have CM := Lib.hid cm
  have CMC := Lib.hid cmc
  have TC := Lib.hid tc
  clear cmc tc cm
  go_wp2_with fail
  refine SW.out.mono ?_
  rintro e w' ⟨rfl, rfl⟩
  by_cases h1 : h.sweeps = sw
  · have hb1 : (h.sweeps != sw) = false := by simpa using h1
    have H1 := Lib.hid h1
    clear h1
    by_cases h2 : (1048576 : Int) < (Maps.size D : Int)
    · have H2 := Lib.hid h2
      have p0' := (TC.out.cell (p := ⟨w.heap.size, 0, none⟩) P0.out (by show ¬ w.heap.size = b; exact PB.out))
      have h3 := HA.out.of (TC.out.block o HA.out.lt OB.out)
      have c6' := h3.c6
      have f6' := h3.fz 6
      have H3 := Lib.hid h3
      clear h3
      go_wp2_with fail
      go_end0
      have A4 := H3.out.set6 h.sweeps
      have T4 := (Turn.refl (fun i => i = o) w3).setCell (p := ⟨o, 6, none⟩) (.inl rfl) (.int .i64 h.sweeps)
      refine ⟨b, 0, rfl, ⟨((ST2.out.apart TC.out (fun i q e => NB.out (e ▸ q)))).apart T4 (fun i q e => NO.out (e ▸ q)), NO.out, NB.out, A4, .map [], CMC.out.of (T4.block b CMC.out.lt (fun e => OB.out e.symm)), CGood.empty _ _⟩, by omega, ?_⟩
      exact FR.out w3 _ TC.out T4
    · have H2 := Lib.hid h2
      clear hcl
      go_wp2_with fail
      go_end0
      refine ⟨b, Maps.size D, rfl, ⟨ST2.out, NO.out, NB.out, by rw [H1.out]; exact HA.out, D, CM.out.tight, HG.out H1.out.symm⟩, by have := H2.out; omega, ?_⟩
      exact FR.out _ _ (Turn.refl _ _) (Turn.refl _ _)
  · have hb1 : (h.sweeps != sw) = true := by simpa using h1
    clear h1
    have p0' := (TC.out.cell (p := ⟨w.heap.size, 0, none⟩) P0.out (by show ¬ w.heap.size = b; exact PB.out))
    have h3 := HA.out.of (TC.out.block o HA.out.lt OB.out)
    have c6' := h3.c6
    have f6' := h3.fz 6
    have H3 := Lib.hid h3
    clear h3
    go_wp2_with fail
    go_end0
    have A4 := H3.out.set6 h.sweeps
    have T4 := (Turn.refl (fun i => i = o) w3).setCell (p := ⟨o, 6, none⟩) (.inl rfl) (.int .i64 h.sweeps)
    refine ⟨b, 0, rfl, ⟨((ST2.out.apart TC.out (fun i q e => NB.out (e ▸ q)))).apart T4 (fun i q e => NO.out (e ▸ q)), NO.out, NB.out, A4, .map [], CMC.out.of (T4.block b CMC.out.lt (fun e => OB.out e.symm)), CGood.empty _ _⟩, by omega, ?_⟩
    exact FR.out w3 _ TC.out T4
end Go.Proofs.Ytfdebadmikmnaaa
