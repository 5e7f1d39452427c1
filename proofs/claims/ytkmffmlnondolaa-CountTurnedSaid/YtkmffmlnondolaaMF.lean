/- Merged: OPrep, OMk, OAns, OAnswer, OAsk, OAsk2, OOps. -/
import Derived.Test.YtkmffmlnondolaaME
import Derived.Maps.OwnSet
import Derived.Maps.OwnIn
import Derived.Laws.CopyRow
import Derived.Laws.CopyOwn
import Derived.Test.YtkmffmlnondolaaMC

/- Contracts of layer 4 (oper): operations and their cache; given, prepare. -/
namespace Go.Proofs.Ytkmffmlnondolaa
open Go.ChangeShapes Go.WideShapes Go.ChangeAt Go.RowKit Go.Maps

/-- What operations own: their store's blocks, their own, the cache's. -/
def oown (o : Nat) (m : Mem) (mb : Option Nat) (i : Nat) : Prop := m.own i ∨ i = o ∨ mb = some i

/-- Operations, as New gives them and their calls leave them. -/
structure OSt (w : World) (m : Mem) (h : Hd) (cs : List Nd) (o : Nat) (mb : Option Nat) : Prop where
  st : St w m h cs
  no : ¬ m.own o
  cache : (mb = none ∧ OpsAt w o m.s 0 0 none 0 ∧ 0 ≤ h.sweeps) ∨
    ∃ b n D sw, mb = some b ∧ OpsAt w o m.s 1 0 (some b) sw ∧ CMap w b n D ∧ ¬ m.own b ∧ sw ≤ h.sweeps ∧ (sw = h.sweeps → CGood h.V cs D)

/-- Operations, ready to be asked. -/
structure Rdy (w : World) (m : Mem) (h : Hd) (cs : List Nd) (o b n : Nat) : Prop where
  st : St w m h cs
  no : ¬ m.own o
  nb : ¬ m.own b
  head : OpsAt w o m.s 1 0 (some b) h.sweeps
  cache : ∃ D, CMap w b n D ∧ CGood h.V cs D

structure ONext (o : Nat) (m : Mem) (mb : Option Nat) (m' : Mem) (mb' : Option Nat) (w w' : World) : Prop where
  turn : Turn (oown o m mb) w w'
  s : m'.s = m.s
  own : ∀ i, oown o m' mb' i → oown o m mb i ∨ w.heap.size ≤ i

section
variable {o : Nat} {m m1 m2 : Mem} {mb mb1 mb2 : Option Nat} {w w1 w2 : World} {h : Hd} {cs : List Nd}
theorem ONext.refl (o : Nat) (m : Mem) (mb : Option Nat) (w : World) : ONext o m mb m mb w w := ⟨Turn.refl _ _, rfl, fun _ h => .inl h⟩
theorem ONext.trans (a : ONext o m mb m1 mb1 w w1) (b : ONext o m1 mb1 m2 mb2 w1 w2) : ONext o m mb m2 mb2 w w2 :=
  ⟨a.turn.trans b.turn a.own, b.s.trans a.s, fun i hi => (b.own i hi).elim (a.own i) fun hh => .inr (Nat.le_trans a.turn.size hh)⟩
theorem ONext.below (hb : Below w.heap.size w w1) : ONext o m mb m mb w w1 := ⟨Turn.of_below hb, rfl, fun _ h => .inl h⟩
theorem Next.onext (n : Next m m1 w w1) : ONext o m mb m1 mb w w1 :=
  ⟨⟨n.turn.os, n.turn.tape, n.turn.output, n.turn.size, fun i hi h1 => n.turn.block i hi fun hh => h1 (.inl hh)⟩, n.s, fun i hi => hi.elim (fun h => (n.own i h).elim (fun x => .inl (.inl x)) .inr) fun h => .inl (.inr h)⟩
theorem ONext.to_below {B : Nat} {w0 : World} (n : ONext o m mb m1 mb1 w w1) (hb : Below B w0 w) (ho : ∀ i, oown o m mb i → B ≤ i) (hB : B ≤ w.heap.size) : Below B w0 w1 ∧ ∀ i, oown o m1 mb1 i → B ≤ i :=
  ⟨Turn.to_below hb n.turn ho hB, fun i hi => (n.own i hi).elim (ho i) fun hh => Nat.le_trans hB hh⟩
/-- What operations do not own stays. -/
theorem ONext.row (n : ONext o m mb m1 mb1 w w1) {i : Nat} {x : Obj} (hx : w.heap[i]? = some x) (hi : ¬ oown o m mb i) : w1.heap[i]? = some x := (n.turn.block i (row_lt hx) hi).trans hx

theorem Rdy.keep {b n : Nat} (r : Rdy w m h cs o b n) (hb : Below w.heap.size w w1) : Rdy w1 m h cs o b n := by
  obtain ⟨D, c1, c2⟩ := r.cache
  exact ⟨r.st.keep hb, r.no, r.nb, r.head.keep hb, D, c1.keep hb, c2⟩
theorem Rdy.ost {b n : Nat} (r : Rdy w m h cs o b n) : OSt w m h cs o (some b) := by
  obtain ⟨D, c1, c2⟩ := r.cache
  exact ⟨r.st, r.no, .inr ⟨b, n, D, h.sweeps, rfl, r.head, c1, r.nb, Int.le_refl _, fun _ => c2⟩⟩
theorem OSt.keep (r : OSt w m h cs o mb) (hb : Below w.heap.size w w1) : OSt w1 m h cs o mb := by
  refine ⟨r.st.keep hb, r.no, ?_⟩
  rcases r.cache with ⟨a, b, c⟩ | ⟨b, n, D, sw, c1, c2, c3, c4, c5, c6⟩
  · exact .inl ⟨a, b.keep hb, c⟩
  · exact .inr ⟨b, n, D, sw, c1, c2.keep hb, c3.keep hb, c4, c5, c6⟩
theorem OSt.head (r : OSt w m h cs o mb) : ∃ d mp sw, OpsAt w o m.s d 0 mp sw := by
  rcases r.cache with ⟨a, b, c⟩ | ⟨b, n, D, sw, c1, c2, c3, c4, c5, c6⟩
  · exact ⟨_, _, _, b⟩
  · exact ⟨_, _, _, c2⟩
theorem OSt.own_lt (r : OSt w m h cs o mb) : ∀ i, oown o m mb i → i < w.heap.size := by
  rintro i (h1 | rfl | rfl)
  · exact r.st.own_lt i h1
  · obtain ⟨_, _, _, hh⟩ := r.head; exact hh.lt
  · rcases r.cache with ⟨a, b, c⟩ | ⟨b, n, D, sw, c1, c2, c3, c4, c5, c6⟩
    · cases a
    · injection c1 with c1; subst c1; exact c3.lt
end

theorem clear_map {w : World} {b n : Nat} {D : DataW Unit} (h : CMap w b n D) : ∃ w', (∀ ty, (Builtin.clear_ #[89] ty #[.map (some b)]).run Try.prog w = .ok (.tuple #[]) w') ∧ CMap w' b 0 (.map []) ∧ Turn (fun i => i = b) w w' := by
  obtain ⟨es, clock, h1, h2⟩ := h
  refine ⟨{ w with heap := w.heap.setIfInBounds b (.map #[] clock) }, fun ty => ?_, ?_, ?_⟩
  · simp [Builtin.clear_, run_underlying Try.underlying89, MapKept.run_getObj_map h1, MapKept.run_setObj_map _ h1, Result.andThen]
  · refine ⟨#[], clock, ?_, ⟨by simp, ?_, fun x hx => by simp at hx⟩, Nat.le_refl _, rfl⟩
    · show (w.heap.setIfInBounds b _)[b]? = _
      rw [Array.getElem?_setIfInBounds, if_pos rfl, if_pos (row_lt h1)]
    · simp [MapKept.Stamped]
  · refine ⟨rfl, rfl, rfl, by simp, fun i hi hn => ?_⟩
    show (w.heap.setIfInBounds b _)[i]? = _
    rw [Array.getElem?_setIfInBounds]
    rw [if_neg (fun e => hn e.symm)]

theorem given_ops {w : World} {o s : Nat} {d x : Int} {mp : Option Nat} {sw : Int} (ha : OpsAt w o s d x mp sw) : Calls Try.prog 78 #[.pointer (some ⟨o, 0, none⟩)] w fun e w' => e = .returned (.bool true) ∧ w = w' := by
  have c0 := ha.c0
  have hi : ∃ i, Try.prog.info? 91 = some i ∧ i.size = 7 := by
    have h := info_ops
    cases hc : Try.prog.info? 91 with
    | none => rw [hc] at h; cases h
    | some i => rw [hc] at h; injection h with h; injection h with h _; exact ⟨i, rfl, h⟩
  obtain ⟨j, hj, _⟩ := hi
  have heq := run_eql_ptr_same (P := Try.prog) w ⟨o, 0, none⟩ Try.underlying44 hj
  clear ha
  go_enter Try.func78, Try.ntmps78
  go_wp2
  go_ret
  exact ⟨rfl, rfl⟩

def PrepOut (m : Mem) (h : Hd) (cs : List Nd) (o : Nat) (mb : Option Nat) (w : World) (e : Ending) (w' : World) : Prop :=
  ∃ b n, e = .returned (.tuple #[]) ∧ Rdy w' m h cs o b n ∧ n ≤ 1048576 ∧ ONext o m mb m (some b) w w'

/-- Behind Once: the cache is made. -/
def OnceOut (m : Mem) (h : Hd) (cs : List Nd) (o : Nat) (mb : Option Nat) (w : World) (e : Ending) (w' : World) : Prop :=
  ∃ b n D sw, e = .returned (.tuple #[]) ∧ OpsAt w' o m.s 1 0 (some b) sw ∧ CMap w' b n D ∧ ¬ m.own b ∧ sw ≤ h.sweeps ∧ (sw = h.sweeps → CGood h.V cs D) ∧ Turn (fun i => i = o) w w' ∧ (mb = some b ∨ w.heap.size ≤ b)

theorem do_any {w : World} {m : Mem} {h : Hd} {cs : List Nd} {o : Nat} {mb : Option Nat} (r : OSt w m h cs o mb) (pl : Addr) (hpb : ¬ o = pl.block) (hp : w.cell? pl = some (.pointer (some ⟨o, 0, none⟩))) :
    Calls Try.prog 79 #[.pointer (some ⟨o, 2, none⟩), .func (.func 80) #[] #[.pointer (some pl)]] w (OnceOut m h cs o mb w) := by
  rcases r.cache with ⟨rfl, b, c⟩ | ⟨b, n, D, sw, rfl, c2, c3, c4, c5, c6⟩
  · refine (do_first o m.s 0 pl hpb w hp b).mono ?_
    rintro e w' ⟨rfl, rfl⟩
    exact ⟨w.heap.size, 0, .map [], 0, rfl, onceW_at b, CMap.made (onceW_map b.lt), fun q => by have := r.st.own_lt _ q; omega, c, fun _ => CGood.empty _ _, onceW_turn o w, .inr (Nat.le_refl _)⟩
  · refine (do_done o m.s (some b) sw _ w c2).mono ?_
    rintro e w' ⟨rfl, rfl⟩
    exact ⟨b, n, D, sw, rfl, c2, c3, c4, c5, c6, Turn.refl _ _, .inl rfl⟩

set_option maxRecDepth 100000 in
set_option maxHeartbeats 4000000 in
theorem prepare_any {w : World} {m : Mem} {h : Hd} {cs : List Nd} {o : Nat} {mb : Option Nat} (r : OSt w m h cs o mb) :
    Calls Try.prog 66 #[.pointer (some ⟨o, 0, none⟩)] w (PrepOut m h cs o mb w) := by
  have ol := r.own_lt o (.inr (.inl rfl))
  have bw := (Below.refl w.heap.size w).alloc (Nat.le_refl _) (.cells #[.pointer (some ⟨o, 0, none⟩)] 44)
  have hbx := heap_alloc_new w (.cells #[.pointer (some ⟨o, 0, none⟩)] 44)
  have DO := Lib.hid (do_any (r.keep bw) ⟨w.heap.size, 0, none⟩ (by show ¬ o = w.heap.size; omega) (cell_of_row _ _ 0 _ _ _ hbx))
  have ST1 := Lib.hid (r.st.keep bw)
  have NO := Lib.hid r.no
  have BW := Lib.hid bw
  have HBX := Lib.hid hbx
  have OL := Lib.hid ol
  have OW := Lib.hid r.own_lt
  clear r bw hbx ol
  have hmf : ∀ (fn : Fn) (first cap : Array Value) (w : World), (Instr.makeFunc fn first cap).run Try.prog w = .ok (.func fn first cap) w := fun _ _ _ _ => rfl
  go_enter Try.func66, Try.ntmps66
  go_wp2_with fail
  refine DO.out.mono ?_
  rintro e w2 ⟨b, n, D, sw, rfl, ha, cm, nb, hsw, hg, ht, hmb⟩
  have hp2 := (ht.block w.heap.size (row_lt HBX.out) (by have := OL.out; omega)).trans HBX.out
  have p0 := cell_of_row _ _ 0 _ _ _ hp2
  have ob : ¬ o = b := by
    rintro rfl
    exact cm.not_cells ha
  have pb : ¬ w.heap.size = b := by
    rintro rfl
    exact cm.not_cells hp2
  have SW := Lib.hid (sweeps_store (ST1.out.apart ht (fun i q e => NO.out (e ▸ q))).lay)
  have ST2 := Lib.hid (ST1.out.apart ht (fun i q e => NO.out (e ▸ q)))
  have hbb : mb = some b ∨ w.heap.size ≤ b := hmb.imp id fun q => by have := BW.out.size; omega
  have FR : Hid (∀ w3 w4 : World, Turn (fun i => i = b) w2 w3 → Turn (fun i => i = o) w3 w4 → ONext o m mb m (some b) w w4) := by
    show ∀ w3 w4 : World, Turn (fun i => i = b) w2 w3 → Turn (fun i => i = o) w3 w4 → ONext o m mb m (some b) w w4
    intro w3 w4 h3 h4
    have t1 : Turn (oown o m mb) w w2 := (Turn.of_below (own := oown o m mb) BW.out).trans ht (fun i e => .inl (.inr (.inl e)))
    have t2 := t1.trans h3 (fun i e => by subst e; exact hbb.imp (fun q => .inr (.inr q)) id)
    have t3 := t2.trans h4 (fun i e => .inl (.inr (.inl e)))
    refine ⟨t3, rfl, ?_⟩
    rintro i (q | q | q)
    · exact .inl (.inl q)
    · exact .inl (.inr (.inl q))
    · injection q with q
      subst q
      exact hbb.imp (fun q => .inr (.inr q)) id
  have c1 := ha.c1
  have c5 := ha.c5
  have c6 := ha.c6
  have f6 := ha.fz 6
  have HA := Lib.hid ha
  have NB := Lib.hid nb
  have HG := Lib.hid hg
  have OB := Lib.hid ob
  have PB := Lib.hid pb
  have P0 := Lib.hid p0
  unfold ptrV at SW
  clear ha nb hsw hg ht hmb hbb hp2 ob pb hmf
  obtain ⟨w3, hcl, cmc, tc⟩ := clear_map cm
  have hlen := fun ty => World.ownsMap.len cm Try.underlying89 ty
  have CM := Lib.hid cm
  have CMC := Lib.hid cmc
  have TC := Lib.hid tc
  clear cmc tc cm
  go_wp2_with fail
  refine SW.out.mono ?_
  rintro e w' ⟨rfl, rfl⟩
  by_cases h1 : h.sweeps = sw
  · have hb1 : (h.sweeps != sw) = false := by simpa using h1
    have H1 := Lib.hid h1
    clear h1
    by_cases h2 : (1048576 : Int) < (Maps.size D : Int)
    · have H2 := Lib.hid h2
      have p0' := (TC.out.cell (p := ⟨w.heap.size, 0, none⟩) P0.out (by show ¬ w.heap.size = b; exact PB.out))
      have h3 := HA.out.of (TC.out.block o HA.out.lt OB.out)
      have c6' := h3.c6
      have f6' := h3.fz 6
      have H3 := Lib.hid h3
      clear h3
      go_wp2_with fail
      go_end0
      have A4 := H3.out.set6 h.sweeps
      have T4 := (Turn.refl (fun i => i = o) w3).setCell (p := ⟨o, 6, none⟩) (.inl rfl) (.int .i64 h.sweeps)
      refine ⟨b, 0, rfl, ⟨((ST2.out.apart TC.out (fun i q e => NB.out (e ▸ q)))).apart T4 (fun i q e => NO.out (e ▸ q)), NO.out, NB.out, A4, .map [], CMC.out.of (T4.block b CMC.out.lt (fun e => OB.out e.symm)), CGood.empty _ _⟩, by omega, ?_⟩
      exact FR.out w3 _ TC.out T4
    · have H2 := Lib.hid h2
      clear hcl
      go_wp2_with fail
      go_end0
      refine ⟨b, Maps.size D, rfl, ⟨ST2.out, NO.out, NB.out, by rw [H1.out]; exact HA.out, D, CM.out.tight, HG.out H1.out.symm⟩, by have := H2.out; omega, ?_⟩
      exact FR.out _ _ (Turn.refl _ _) (Turn.refl _ _)
  · have hb1 : (h.sweeps != sw) = true := by simpa using h1
    clear h1
    have p0' := (TC.out.cell (p := ⟨w.heap.size, 0, none⟩) P0.out (by show ¬ w.heap.size = b; exact PB.out))
    have h3 := HA.out.of (TC.out.block o HA.out.lt OB.out)
    have c6' := h3.c6
    have f6' := h3.fz 6
    have H3 := Lib.hid h3
    clear h3
    go_wp2_with fail
    go_end0
    have A4 := H3.out.set6 h.sweeps
    have T4 := (Turn.refl (fun i => i = o) w3).setCell (p := ⟨o, 6, none⟩) (.inl rfl) (.int .i64 h.sweeps)
    refine ⟨b, 0, rfl, ⟨((ST2.out.apart TC.out (fun i q e => NB.out (e ▸ q)))).apart T4 (fun i q e => NO.out (e ▸ q)), NO.out, NB.out, A4, .map [], CMC.out.of (T4.block b CMC.out.lt (fun e => OB.out e.symm)), CGood.empty _ _⟩, by omega, ?_⟩
    exact FR.out w3 _ TC.out T4
end Go.Proofs.Ytkmffmlnondolaa

/- Contracts of layer 4 (oper): what Mk leaves; the cache asked and written. -/
namespace Go.Proofs.Ytkmffmlnondolaa
open Go.ChangeShapes Go.WideShapes Go.ChangeAt Go.RowKit Go.Maps

def MkOkS (m : Mem) (h : Hd) (cs : List Nd) (v a b : Nat) (w : World) (e : Ending) (w' : World) : Prop :=
  ∃ (k : Nat) (m' : Mem) (h' : Hd) (cs' : List Nd) (c : Nd), e = .returned (.tuple #[.int .i64 (k : Int), .int .i64 0]) ∧ St w' m' h' cs' ∧ Ext cs cs' ∧ Is cs' k c ∧ (v : Int) ≤ c.asks ∧
    (∀ val, Says h.V cs' val k = if val v then Says h.V cs val b else Says h.V cs val a) ∧ h'.V = h.V ∧ h'.B = h.B ∧ h'.sweeps = h.sweeps ∧ cnt cs' ≤ cnt cs + 1 ∧ Fresh cs cs' ∧ Next m m' w w'

def MkSemS (m : Mem) (h : Hd) (cs : List Nd) (v a b : Nat) (w : World) (e : Ending) (w' : World) : Prop :=
  MkOkS m h cs v a b w e w' ∨ (e = .returned (.tuple #[.int .i64 0, .int .i64 30]) ∧ Below w.heap.size w w' ∧ cnt cs = h.B)

theorem mk_semS {w : World} {m : Mem} {h : Hd} {cs : List Nd} (s : St w m h cs) {v a b : Nat} {ca cb : Nd} (h1 : v < h.V) (ha : Is cs a ca) (hva : (v : Int) < ca.asks) (hb : Is cs b cb) (hvb : (v : Int) < cb.asks) :
    Calls Try.prog 17 #[ptrV m.s, .int .i64 (v : Int), .int .i64 a, .int .i64 b] w (MkSemS m h cs v a b w) := by
  have hv0 : (0 : Int) ≤ (v : Int) := by omega
  have hv1 : (v : Int) < h.V := by omega
  by_cases hab : a = b
  · subst hab
    refine (mk_same s.lay hv0 hv1 ha hva).mono ?_
    rintro e w' ⟨rfl, rfl⟩
    exact .inl ⟨a, m, h, cs, ca, rfl, s, Ext.refl _, ha, by omega, fun val => by simp, rfl, rfl, rfl, by omega, Fresh.refl _, Next.refl _ _⟩
  · rcases Classical.em (∃ k ck, 2 ≤ k ∧ Is cs k ck ∧ ck.key = ⟨v, a, b⟩) with ⟨k, ck, hk2, hk, hkk⟩ | hno
    · refine (mk_old s hv0 hv1 ha hva hb hvb hab hk2 hk hkk).mono ?_
      rintro e w' ⟨rfl, hbel⟩
      unfold Nd.key at hkk
      injection hkk with k1 k2 k3
      have k2 := Int.ofNat.inj k2
      have k3 := Int.ofNat.inj k3
      refine .inl ⟨k, m, h, cs, ck, rfl, s.keep hbel, Ext.refl _, hk, by omega, fun val => ?_, rfl, rfl, rfl, by omega, Fresh.refl _, Next.below hbel⟩
      rw [Says_step s.good val hk2 hk, k1, k2, k3, Int.toNat_natCast]
      by_cases hv : val v
      · rw [if_pos hv, if_pos hv]
      · rw [if_neg hv, if_neg hv]
    · refine (mk_none s hv0 hv1 ha hva hb hvb hab fun j d hj hd he => hno ⟨j, d, hj, hd, he⟩).mono ?_
      intro e w' hout
      unfold MkNoneOut at hout
      by_cases hf : cnt cs = h.B
      · rw [if_pos hf] at hout
        exact .inr ⟨hout.1, hout.2, hf⟩
      · rw [if_neg hf] at hout
        obtain ⟨k, m', lf', rfl, hst, hfree, hk2, hfu, htu, hs', hown⟩ := hout
        have hne : (v : Int) ≠ -1 := by omega
        have hx : Ext cs (addAt cs k ⟨v, a, b, 0⟩) := fun i d hd => addAt_is hfree hd
        have hk : Is (addAt cs k ⟨v, a, b, 0⟩) k ⟨v, a, b, 0⟩ := ⟨by rw [addAt_get cs k _ hfree.1, if_pos rfl], hne⟩
        have hfr : Fresh cs (addAt cs k ⟨v, a, b, 0⟩) := by
          intro i d hd
          have h1 := hd.1
          rw [addAt_get cs k _ hfree.1] at h1
          by_cases e : k = i
          · rw [if_pos e] at h1; injection h1 with h1; subst h1; exact .inr rfl
          · rw [if_neg e] at h1; exact .inl ⟨h1, hd.2⟩
        refine .inl ⟨k, m', _, _, _, rfl, hst, hx, hk, Int.le_refl _, fun val => ?_, rfl, rfl, rfl, by rw [addAt_cnt hfree hne]; exact Nat.le_refl _, hfr, htu, hs', hown⟩
        have g' : NGood h.V (addAt cs k ⟨v, a, b, 0⟩) := hst.good
        rw [Says_step g' val hk2 hk]
        show Says h.V _ val (if val (v : Int).toNat = true then b else a) = _
        rw [Int.toNat_natCast]
        by_cases hv : val v
        · rw [if_pos hv, if_pos hv, hx.says s.good g' val hb]
        · rw [if_neg hv, if_neg hv, hx.says s.good g' val ha]

theorem mk_roomS {w : World} {m : Mem} {h : Hd} {cs : List Nd} (s : St w m h cs) (hr : cnt cs < h.B) {v a b : Nat} {ca cb : Nd} (h1 : v < h.V) (ha : Is cs a ca) (hva : (v : Int) < ca.asks) (hb : Is cs b cb) (hvb : (v : Int) < cb.asks) :
    Calls Try.prog 17 #[ptrV m.s, .int .i64 (v : Int), .int .i64 a, .int .i64 b] w (MkOkS m h cs v a b w) :=
  (mk_semS s h1 ha hva hb hvb).mono fun _ _ h => h.elim id fun hh => by omega


theorem QAt.fits {w : World} {m : Mem} {h : Hd} {cs : List Nd} (s : St w m h cs) {u : Int} {q : Qu} (hq : QAt cs u q) : Fits q := by
  have := s.lay.len
  have a := hq.a.is.1.lt
  have b := hq.b.is.1.lt
  have c := hq.c.is.1.lt
  exact ⟨hq.kind, by omega, by omega, by omega⟩

section
variable {w : World} {m : Mem} {h : Hd} {cs : List Nd} {o b n : Nat}

theorem Rdy.look (r : Rdy w m h cs o b n) {q : Qu} (hf : Fits q) :
    (∃ k : Nat, Told h.V cs q k ∧ (Instr.lookup 89 (.map (some b)) (quV q) true).run Try.prog w = .ok (.tuple #[.int .i64 (k : Int), .bool true]) w) ∨
    (∃ k : Int, (Instr.lookup 89 (.map (some b)) (quV q) true).run Try.prog w = .ok (.tuple #[.int .i64 k, .bool false]) w) := by
  obtain ⟨D, cm, cg⟩ := r.cache
  obtain ⟨l, hl⟩ := key_some hf
  have hz : (zeroValue 3).run Try.prog w = .ok (.int .i64 0) w := by kernel_rfl
  obtain ⟨v, ps, hrun, hv⟩ := World.ownsMap.look_ok cm lawQ Try.underlying89 hz (plainElem_int Try.underlying3 (a := 0) (by decide)) hl
  obtain ⟨c, rfl, hc, _⟩ := plainElem_int_inv Try.underlying3 hv
  have hc := congrArg Prod.fst hc
  cases hh : Maps.has D l with
  | false => rw [hh] at hrun; exact .inr ⟨c, hrun⟩
  | true =>
    rw [hh] at hrun
    obtain ⟨k, h1, h2⟩ := cg q l hl hh
    have hc : D.atKey l (.lit (.int .i64 0)) = .lit (.int .i64 c) := hc
    rw [h1] at hc
    injection hc with hc
    injection hc with _ hc
    subst hc
    exact .inl ⟨k, h2, hrun⟩

theorem Rdy.turn (r : Rdy w m h cs o b n) {w' : World} {n' : Nat} (ht : Turn (fun i => i = b) w w') (hc : ∃ D, CMap w' b n' D ∧ CGood h.V cs D) : Rdy w' m h cs o b n' := by
  have ob : o ≠ b := by
    rintro rfl
    obtain ⟨D, cm, _⟩ := r.cache
    exact cm.not_cells r.head
  exact ⟨r.st.apart ht (fun i q e => r.nb (e ▸ q)), r.no, r.nb, r.head.of (ht.block o r.head.lt ob), hc⟩

set_option maxRecDepth 100000 in
theorem Rdy.put (r : Rdy w m h cs o b n) (hn : n < 2000000) {q : Qu} (hf : Fits q) {k : Nat} (hk : k < 9223372036854775808) (t : Told h.V cs q k) :
    ∃ w', (Instr.mapUpdate 89 (.map (some b)) (quV q) (.int .i64 (k : Int))).run Try.prog w = .ok () w' ∧ Rdy w' m h cs o b (n + 1) ∧ Turn (fun i => i = b) w w' := by
  obtain ⟨D, cm, cg⟩ := r.cache
  obtain ⟨l, hl⟩ := key_some hf
  obtain ⟨w', hrun, r1, r2⟩ := World.ownsMap.update cm lawQ Try.underlying89 (by unfold maxLen; omega) hl (plainElem_int Try.underlying3 (a := (k : Int)) (WalkArith.wf_i64 (by omega)))
  have ht : Turn (fun i => i = b) w w' := (Turn.refl _ w).grown r2 (fun i e => .inl (by injection e with e; exact e.symm))
  exact ⟨w', hrun, r.turn ht ⟨_, r1, cg.put (World.ownsMap.isMap cm) hl t⟩, ht⟩

theorem Rdy.next (r : Rdy w m h cs o b n) {w' : World} {m' : Mem} {h' : Hd} {cs' : List Nd} (s' : St w' m' h' cs') (hx : Ext cs cs') (hV : h'.V = h.V) (hs : h'.sweeps = h.sweeps) (hn : Next m m' w w') : Rdy w' m' h' cs' o b n := by
  obtain ⟨D, cm, cg⟩ := r.cache
  have g' : NGood h.V cs' := hV ▸ s'.good
  refine ⟨s', hn.not_own r.head.lt r.no, hn.not_own cm.lt r.nb, ?_, D, cm.of (hn.turn.block b cm.lt r.nb), ?_⟩
  · have := r.head.of (hn.turn.block o r.head.lt r.no)
    rw [hn.s, hs]
    exact this
  · rw [hV]
    exact cg.ext hx r.st.good g'
end

theorem ONext.not_own {o : Nat} {m m1 : Mem} {mb mb1 : Option Nat} {w w1 : World} (n : ONext o m mb m1 mb1 w w1) {i : Nat} (hi : i < w.heap.size) (hn : ¬ oown o m mb i) : ¬ oown o m1 mb1 i := fun hh => (n.own i hh).elim hn (by omega)
end Go.Proofs.Ytkmffmlnondolaa

/- Contracts of layer 4 (oper): answer, where the numbers alone tell it. -/
namespace Go.Proofs.Ytkmffmlnondolaa
open Go.ChangeShapes Go.WideShapes Go.ChangeAt Go.RowKit Go.Maps

def AnsOut (m : Mem) (h : Hd) (cs : List Nd) (o b N n : Nat) (u : Int) (q : Qu) (w : World) (e : Ending) (w' : World) : Prop :=
  ∃ (k : Nat) (x : Int) (m' : Mem) (h' : Hd) (cs' : List Nd) (N' : Nat), e = .returned (.tuple #[.int .i64 (k : Int), .int .i64 x]) ∧ Rdy w' m' h' cs' o b N' ∧ Ext cs cs' ∧ Fresh cs cs' ∧ h'.V = h.V ∧ h'.B = h.B ∧ h'.sweeps = h.sweeps ∧
    cnt cs' + 1 ≤ cnt cs + 2 ^ n ∧ N' + 1 ≤ N + 2 ^ n ∧ ONext o m (some b) m' (some b) w w' ∧
    ((x = 0 ∧ At cs' u k ∧ ∀ val, Says h.V cs' val k = qsem h.V cs val q) ∨ (x = 30 ∧ k = 0 ∧ h.B + 2 ≤ cnt cs + 2 ^ n))

theorem AnsOut.same {m : Mem} {h : Hd} {cs : List Nd} {o b N n k : Nat} {u : Int} {q : Qu} {w w' : World} (r : Rdy w m h cs o b N) (hb : Below w.heap.size w w') (hk : At cs u k) (hs : ∀ val, Says h.V cs val k = qsem h.V cs val q) :
    AnsOut m h cs o b N n u q w (.returned (.tuple #[.int .i64 (k : Int), .int .i64 0])) w' := by
  have := Nat.one_le_two_pow (n := n)
  exact ⟨k, 0, m, h, cs, N, rfl, r.keep hb, Ext.refl _, Fresh.refl _, rfl, rfl, rfl, by omega, by omega, ONext.below hb, .inl ⟨rfl, hk, hs⟩⟩

/-- Behind settling: the question's variable holds what is left. -/
theorem settled_world {w w2 : World} {q q1 : Qu} (hb2 : Below (w.alloc (quO q)).heap.size (w.alloc (quO q)) w2) :
    Below w.heap.size w (Fin4 w2 w.heap.size q1) ∧ (Fin4 w2 w.heap.size q1).heap[w.heap.size]? = some (quO q1) := by
  have b1 := (Below.refl w.heap.size w).alloc (Nat.le_refl _) (quO q)
  have h1 := heap_alloc_new w (quO q)
  have h2 := (hb2.block _ (row_lt h1)).trans h1
  have bb := b1.trans (hb2.mono b1.size)
  exact ⟨Turn.to_below bb (fin4_turn w2 w.heap.size q1) (fun i hi => by omega) bb.size, fin4 h2⟩

set_option maxRecDepth 100000 in
set_option maxHeartbeats 1600000 in
theorem answer_told {w : World} {m : Mem} {h : Hd} {cs : List Nd} {o b N : Nat} {u : Int} {q : Qu} (r : Rdy w m h cs o b N) (hq : QAt cs u q) (hu : u ≤ h.V) (ht : (settleQ q).2.2 = true) (n : Nat) :
    Calls Try.prog 67 #[.pointer (some ⟨o, 0, none⟩), quV q] w (AnsOut m h cs o b N n u q w) := by
  obtain ⟨ha, hs⟩ := (settle_ok r.st.good hu hq).told ht
  have HS := settle_any q hq.kind
  obtain ⟨⟨q1, k, t⟩, hS⟩ : ∃ p, settleQ q = p := ⟨_, rfl⟩
  rw [hS] at ht HS ha hs
  obtain rfl : t = true := ht
  clear hS
  have HS := Lib.hid HS
  have HA : Hid (At cs u k) := ha
  have HSY := Lib.hid hs
  have RR := Lib.hid r
  clear ha hs r hq hu
  unfold quV
  go_enter Try.func67, Try.ntmps67
  go_wp2_with fail
  refine (HS.out _).mono ?_
  rintro e w2 ⟨rfl, hb2⟩
  obtain ⟨fb, fr⟩ := settled_world (q1 := q1) hb2
  have b2 := (hb2.block _ (row_lt (heap_alloc_new w (quO q)))).trans (heap_alloc_new w (quO q))
  obtain ⟨z0, z1, z2, z3, zf⟩ := qu_cells b2
  have FB := Lib.hid fb
  unfold Fin4 at FB
  clear hb2 b2 fb fr
  unfold quV
  go_wp2_with fail
  go_ret2
  exact AnsOut.same RR.out FB.out HA.out HSY.out
end Go.Proofs.Ytkmffmlnondolaa

/- Contracts of layer 4 (oper): answer. -/
namespace Go.Proofs.Ytkmffmlnondolaa
open Go.ChangeShapes Go.WideShapes Go.ChangeAt Go.RowKit Go.Maps

/-- answer keeps its word, so many variables below. -/
def AnsAt (o b n : Nat) : Prop := ∀ (w : World) (m : Mem) (h : Hd) (cs : List Nd) (N : Nat) (u : Int) (q : Qu), Rdy w m h cs o b N → QAt cs u q → 0 ≤ u → u ≤ h.V → (h.V : Int) ≤ u + n → N + 2 ^ n ≤ 2000000 →
  Calls Try.prog 67 #[.pointer (some ⟨o, 0, none⟩), quV q] w (AnsOut m h cs o b N n u q w)

theorem join_sem {V : Nat} {cs cs1 cs2 cs3 : List Nd} {u : Int} {qf qt q1 : Qu} {k1 k2 k vn : Nat} (g : NGood V cs) (g1 : NGood V cs1) (g2 : NGood V cs2) (X1 : Ext cs cs1) (X2 : Ext cs1 cs2) (hqt : QAt cs u qt) (a1 : At cs1 u k1)
    (s1 : ∀ val, Says V cs1 val k1 = qsem V cs val qf) (s2 : ∀ val, Says V cs2 val k2 = qsem V cs1 val qt) (s3 : ∀ val, Says V cs3 val k = if val vn then Says V cs2 val k2 else Says V cs2 val k1)
    (sem : ∀ val, qsem V cs val q1 = if val vn then qsem V cs val qt else qsem V cs val qf) : ∀ val, Says V cs3 val k = qsem V cs val q1 := by
  intro val
  rw [s3, sem, s2, a1.says X2 g1 g2, s1, hqt.sem X1 g g1]

theorem ONext.put {o b : Nat} {m : Mem} {w w' : World} (ht : Turn (fun i => i = b) w w') : ONext o m (some b) m (some b) w w' :=
  ⟨⟨ht.os, ht.tape, ht.output, ht.size, fun i hi hn => ht.block i hi (fun e => hn (.inr (.inr (by rw [e]))))⟩, rfl, fun _ h => .inl h⟩

set_option maxRecDepth 100000 in
set_option maxHeartbeats 4000000 in
theorem answer_step {o b n : Nat} (ih : AnsAt o b n) {w : World} {m : Mem} {h : Hd} {cs : List Nd} {N : Nat} {u : Int} {q : Qu} (r : Rdy w m h cs o b N) (hq : QAt cs u q) (hu0 : 0 ≤ u) (hu : u ≤ h.V) (hn : (h.V : Int) ≤ u + (n + 1 : Nat)) (hN : N + 2 ^ (n + 1) ≤ 2000000) (ht : (settleQ q).2.2 = false) :
    Calls Try.prog 67 #[.pointer (some ⟨o, 0, none⟩), quV q] w (AnsOut m h cs o b N (n + 1) u q w) := by
  obtain ⟨hq1, hs, h2⟩ := (settle_ok r.st.good hu hq).left ht
  have HS := settle_any q hq.kind
  obtain ⟨⟨q1, k0, t⟩, hS⟩ : ∃ p, settleQ q = p := ⟨_, rfl⟩
  rw [hS] at ht HS hq1 hs h2
  obtain rfl : t = false := ht
  clear hS
  have hq1 : QAt cs u q1 := hq1
  have hs : ∀ val, qsem h.V cs val q1 = qsem h.V cs val q := hs
  obtain ⟨v0, v1, v2⟩ := splitV_range r.st.good hq1 h2
  have qs := QAt.split (V := h.V) hq1
  obtain ⟨vn, hvn⟩ : ∃ vn : Nat, splitV h.V cs q1 = vn := ⟨(splitV h.V cs q1).toNat, by omega⟩
  have hf : Fits q1 := hq1.fits r.st
  have SPL := fun (w' : World) (r' : Rdy w' m h cs o b N) => split_any r'.st r'.head hq1
  unfold SplOut at SPL
  rw [hvn] at SPL v0 v1 v2 qs
  have h0 := half_at r.st.good v1 qs false
  have h1 := half_at r.st.good v1 qs true
  have sem := fun val => half_sem r.st.good v1 qs val
  obtain ⟨qf, hqf⟩ : ∃ qf, qf = half false vn cs q1 := ⟨_, rfl⟩
  obtain ⟨qt, hqt⟩ : ∃ qt, qt = half true vn cs q1 := ⟨_, rfl⟩
  have UU : Hid (∀ u' : Int, QAt cs u' q1 → u' ≤ vn) := by
    show ∀ u' : Int, QAt cs u' q1 → u' ≤ vn
    intro u' hu'
    have := (splitV_range r.st.good hu' h2).2.2
    rw [hvn] at this
    exact this
  have Q0 := Lib.hid (hq1.mono hu0)
  have P2 : Hid (2 ^ (n + 1) = 2 ^ n + 2 ^ n) := by show _ = _; rw [Nat.pow_succ]; omega
  have P1 := Lib.hid (Nat.one_le_two_pow (n := n))
  have SEM : Hid (∀ val, qsem h.V cs val q1 = if val vn then qsem h.V cs val qt else qsem h.V cs val qf) := by
    show ∀ val, qsem h.V cs val q1 = if val vn then qsem h.V cs val qt else qsem h.V cs val qf
    intro val
    rw [sem val, Int.toNat_natCast]
    cases val vn with
    | true => rw [hqt]; rfl
    | false => rw [hqf]; rfl
  rw [← hqf, ← hqt] at SPL
  rw [← hqf] at h0
  rw [← hqt] at h1
  clear hqf hqt sem qs hvn
  have HS := Lib.hid HS
  have SPL := Lib.hid SPL
  have H0 := Lib.hid h0
  have H1 := Lib.hid h1
  have HQ := Lib.hid hq1
  have HF := Lib.hid hf
  have SQ := Lib.hid hs
  have RR := Lib.hid r
  have V0 := Lib.hid v0
  have V1 := Lib.hid v1
  have V2 := Lib.hid v2
  have HN := Lib.hid hn
  have HNN := Lib.hid hN
  have IH := Lib.hid ih
  have HU := Lib.hid hu
  have OO := Lib.hid r.ost.own_lt
  clear h0 h1 hq1 hf hs v0 v1 v2 hn hN ih h2 r hq hu0 hu
  unfold quV
  go_enter Try.func67, Try.ntmps67
  go_wp2_with fail
  refine (HS.out _).mono ?_
  rintro e w2 ⟨rfl, hb2⟩
  obtain ⟨fb, fr⟩ := settled_world (q1 := q1) hb2
  have b2 := (hb2.block _ (row_lt (heap_alloc_new w (quO q)))).trans (heap_alloc_new w (quO q))
  obtain ⟨z0, z1, z2, z3, zf⟩ := qu_cells b2
  have FB := Lib.hid fb
  have FR := Lib.hid fr
  unfold Fin4 at FB FR
  clear hb2 b2 fb fr
  unfold quV
  go_wp2_with fail
  clear z0 z1 z2 z3 zf
  revert FB FR
  generalize ((((w2.setCell ⟨w.heap.size, 0, none⟩ (.int .i64 q1.kind)).setCell ⟨w.heap.size, 1, none⟩ (.int .i64 q1.a)).setCell ⟨w.heap.size, 2, none⟩ (.int .i64 q1.b)).setCell ⟨w.heap.size, 3, none⟩ (.int .i64 q1.c)) = w3
  obtain ⟨bq, hbq⟩ : ∃ bq, w.heap.size = bq := ⟨_, rfl⟩
  rw [hbq]
  intro FB FR
  have BQ := Lib.hid hbq
  clear hbq
  have fb : Below w.heap.size w w3 := by rw [BQ.out]; exact FB.out
  have r3 := RR.out.keep fb
  have FD := Lib.hid (fb.trans ((below_drew w3).mono fb.size))
  have R4 := Lib.hid (r3.keep (below_drew w3))
  have c5 := r3.head.c5
  obtain ⟨z0, z1, z2, z3, zf⟩ := qu_cells FR.out
  clear r3 fb
  rcases R4.out.look HF.out with ⟨k, tk, hlk⟩ | ⟨kx, hlk⟩
  · have AT := Lib.hid (tk.at HQ.out)
    have SY := Lib.hid (fun val => (tk.says val).trans (SQ.out val))
    unfold quV at hlk
    clear tk
    go_region
    go_wp2_with fail
    go_ret2
    exact AnsOut.same RR.out FD.out AT.out SY.out
  · unfold quV at hlk
    go_region
    go_wp2_with fail
    clear hlk c5 z0 z1 z2 z3 zf
    have FR4 : Hid (w3.drew.heap[bq]? = some (quO q1)) := FR.out
    clear FR FB
    revert FD R4 FR4
    generalize w3.drew = w4
    intro FD R4 FR4
    have SP := SPL.out _ R4.out
    unfold quV at SP
    refine SP.mono ?_
    clear SP SPL
    rintro e w5 ⟨rfl, hb5⟩
    have FD5 := Lib.hid (FD.out.trans (hb5.mono FD.out.size))
    have R5 := Lib.hid (R4.out.keep hb5)
    have FR5 := Lib.hid ((hb5.block _ (row_lt FR4.out)).trans FR4.out)
    clear hb5 FD R4 FR4
    go_wp2_with fail
    have b6 := ((Below.refl w5.heap.size w5).alloc (Nat.le_refl _) (quO qf)).alloc (by simp) (quO qt)
    have t6 := heap_alloc_new (w5.alloc (quO qf)) (quO qt)
    rw [show (w5.alloc (quO qf)).heap.size = w5.heap.size + 1 by simp] at t6
    have NQ : Hid (¬ oown o m (some b) bq) := fun q => by have := OO.out _ q; have := BQ.out; omega
    have NT : Hid (¬ oown o m (some b) (w5.heap.size + 1)) := fun q => by have := OO.out _ q; have := FD5.out.size; omega
    have FD6 := Lib.hid (FD5.out.trans (b6.mono FD5.out.size))
    have R6 := Lib.hid (R5.out.keep b6)
    have FR6 := Lib.hid ((b6.block _ (row_lt FR5.out)).trans FR5.out)
    have FT6 := Lib.hid t6
    clear b6 t6 FD5 R5 FR5
    unfold quO at FD6 R6 FR6 FT6
    revert FD6 R6 FR6 FT6 NT
    generalize (w5.alloc (.cells #[.int .i64 qf.kind, .int .i64 qf.a, .int .i64 qf.b, .int .i64 qf.c] 123)).alloc (.cells #[.int .i64 qt.kind, .int .i64 qt.a, .int .i64 qt.b, .int .i64 qt.c] 123) = w6
    generalize w5.heap.size + 1 = bt
    intro NT FD6 R6 FR6 FT6
    have I1 := IH.out w6 m h cs N (vn + 1) qf R6.out H0.out (by have := V0.out; omega) (by have := V1.out; omega) (by have := HN.out; have := V2.out; omega) (by have := HNN.out; have := P2.out; have := P1.out; omega)
    unfold quV at I1
    refine I1.mono ?_
    clear I1
    rintro e w7 ⟨k1, x1, m1, h1, cs1, N1, rfl, r7, e7, fr7, v7, bb7, s7, c7, n7, on7, hout⟩
    have R7 := Lib.hid r7
    have E7 := Lib.hid e7
    have FS7 := Lib.hid fr7
    have V7 := Lib.hid v7
    have BB7 := Lib.hid bb7
    have S7 := Lib.hid s7
    have C7 := Lib.hid c7
    have N7 := Lib.hid n7
    have ON7 := Lib.hid on7
    have FR7 := Lib.hid (on7.row FR6.out NQ.out)
    have FT7 := Lib.hid (on7.row FT6.out NT.out)
    have NQ7 := Lib.hid (on7.not_own (row_lt FR6.out) NQ.out)
    clear r7 e7 fr7 v7 bb7 s7 c7 n7 on7
    rcases hout with ⟨rfl, at1, says1⟩ | ⟨rfl, rfl, hb⟩
    · have AT1 := Lib.hid at1
      have SY1 := Lib.hid says1
      clear at1 says1
      obtain ⟨t0, t1, t2, t3, tf⟩ := qu_cells FT7.out
      go_wp2_with fail
      clear t0 t1 t2 t3 tf
      have I2 := IH.out w7 m1 h1 cs1 N1 (vn + 1) qt R7.out (H1.out.ext E7.out) (by have := V0.out; omega) (by have := V1.out; have := V7.out; omega) (by have := HN.out; have := V2.out; have := V7.out; omega) (by have := HNN.out; have := P2.out; have := P1.out; have := N7.out; omega)
      unfold quV at I2
      refine I2.mono ?_
      clear I2
      rintro e w8 ⟨k2, x2, m2, h2, cs2, N2, rfl, r8, e8, fr8, v8, bb8, s8, c8, n8, on8, hout⟩
      have R8 := Lib.hid r8
      have E8 := Lib.hid e8
      have FS8 := Lib.hid fr8
      have V8 := Lib.hid v8
      have BB8 := Lib.hid bb8
      have S8 := Lib.hid s8
      have C8 := Lib.hid c8
      have N8 := Lib.hid n8
      have ON8 := Lib.hid on8
      have FR8 := Lib.hid (on8.row FR7.out NQ7.out)
      have NQ8 := Lib.hid (on8.not_own (row_lt FR7.out) NQ7.out)
      clear r8 e8 fr8 v8 bb8 s8 c8 n8 on8
      rcases hout with ⟨rfl, at2, says2⟩ | ⟨rfl, rfl, hb⟩
      · obtain ⟨ca, ia, la⟩ := AT1.out.ext E8.out
        obtain ⟨cb, ib, lb⟩ := at2
        have MK := Lib.hid (mk_semS R8.out.st (v := vn) (by have := V1.out; have := V7.out; have := V8.out; omega) ia (by omega) ib (by omega))
        have SY2 := Lib.hid says2
        have c1 := R8.out.head.c1
        clear says2 ia la ib lb
        unfold ptrV at MK
        go_wp2_with fail
        clear c1
        refine MK.out.mono ?_
        intro e w9 hout
        clear MK
        rcases hout with ⟨k, m3, h3, cs3, c, rfl, s9, e9, i9, l9, y9, v9, bb9, sw9, c9, fr9, nx9⟩ | ⟨rfl, hbel, hfull⟩
        · have R9 := Lib.hid (R8.out.next s9 e9 v9 sw9 nx9)
          have ON9 := Lib.hid (Next.onext (o := o) (mb := some b) nx9)
          have FR9 := Lib.hid (ON9.out.row FR8.out NQ8.out)
          have E9 := Lib.hid e9
          have I9 := Lib.hid i9
          have L9 := Lib.hid l9
          have V9 := Lib.hid v9
          have BB9 := Lib.hid bb9
          have S9 := Lib.hid sw9
          have C9 := Lib.hid c9
          have FS9 := Lib.hid fr9
          have e1 : h1.V = h.V := V7.out
          have e2 : h2.V = h.V := V8.out.trans V7.out
          have e3 : h3.V = h.V := v9.trans e2
          have SY : ∀ val, Says h.V cs3 val k = qsem h.V cs val q1 := by
            have g1 : NGood h.V cs1 := e1 ▸ R7.out.st.good
            have g2 : NGood h.V cs2 := e2 ▸ R8.out.st.good
            have y2 := SY2.out
            rw [e1] at y2
            rw [e2] at y9
            exact join_sem RR.out.st.good g1 g2 E7.out E8.out H1.out AT1.out SY1.out y2 y9 SEM.out
          have X3 : Ext cs cs3 := (E7.out.trans E8.out).trans e9
          have g3 : NGood h.V cs3 := e3 ▸ s9.good
          have TD : Told h3.V cs3 q1 k := by
            refine ⟨Q0.out.ext X3, ⟨c, i9, fun u' hu' => ?_⟩, fun val => ?_⟩
            · have := UU.out u' (Q0.out.back X3 hu')
              omega
            · rw [e3, SY val, Q0.out.sem X3 RR.out.st.good g3]
          have YY := Lib.hid SY
          have R9D := Lib.hid (R9.out.keep (below_drew w9))
          have LN : Hid (N2 < 2000000) := by show N2 < 2000000; have := HNN.out; have := P2.out; have := P1.out; have := N7.out; have := N8.out; omega
          have KN : Hid (k < 9223372036854775808) := by show k < _; have := i9.lt; have := s9.lay.len; omega
          obtain ⟨w10, hmu, r10, t10⟩ := R9D.out.put LN.out HF.out KN.out TD
          have R10 := Lib.hid r10
          have T10 := Lib.hid t10
          have AK : Hid (At cs3 u k) := ⟨c, i9, by have := V2.out; omega⟩
          clear s9 e9 i9 l9 y9 v9 bb9 sw9 c9 fr9 nx9 e1 e2 e3 SY X3 g3 TD r10 t10
          obtain ⟨z0, z1, z2, z3, zf⟩ := qu_cells FR9.out
          have c5 := R9.out.head.c5
          unfold quV at hmu
          go_wp2_with fail
          go_region
          go_wp2_with fail
          go_ret2
          have P2' := P2.out
          have P1' := P1.out
          have C7' := C7.out
          have C8' := C8.out
          have C9' := C9.out
          have N7' := N7.out
          have N8' := N8.out
          refine ⟨k, 0, m3, h3, cs3, N2 + 1, rfl, R10.out, (E7.out.trans E8.out).trans E9.out, (FS7.out.trans FS8.out).trans FS9.out, V9.out.trans (V8.out.trans V7.out), BB9.out.trans (BB8.out.trans BB7.out), S9.out.trans (S8.out.trans S7.out), by omega, by omega, ?_, .inl ⟨rfl, AK.out, fun val => (YY.out val).trans (SQ.out val)⟩⟩
          exact ((((ONext.below FD6.out).trans ON7.out).trans ON8.out).trans ON9.out).trans ((ONext.below (below_drew w9)).trans (ONext.put T10.out))
        · have HF9 := Lib.hid hfull
          have BL9 := Lib.hid hbel
          clear hfull hbel
          go_wp2_with fail
          go_ret2
          have P2' := P2.out
          have P1' := P1.out
          have C7' := C7.out
          have C8' := C8.out
          have N7' := N7.out
          have N8' := N8.out
          have HF' := HF9.out
          have B7' := BB7.out
          have B8' := BB8.out
          exact ⟨0, 30, m2, h2, cs2, N2, rfl, R8.out.keep BL9.out, E7.out.trans E8.out, FS7.out.trans FS8.out, V8.out.trans V7.out, BB8.out.trans BB7.out, S8.out.trans S7.out, by omega, by omega, (((ONext.below FD6.out).trans ON7.out).trans ON8.out).trans (ONext.below BL9.out), .inr ⟨rfl, rfl, by omega⟩⟩
      · have HB := Lib.hid hb
        clear hb
        go_wp2_with fail
        go_ret2
        have P2' := P2.out
        have P1' := P1.out
        have C7' := C7.out
        have C8' := C8.out
        have N7' := N7.out
        have N8' := N8.out
        have HB' := HB.out
        have B7' := BB7.out
        exact ⟨0, 30, m2, h2, cs2, N2, rfl, R8.out, E7.out.trans E8.out, FS7.out.trans FS8.out, V8.out.trans V7.out, BB8.out.trans BB7.out, S8.out.trans S7.out, by omega, by omega, ((ONext.below FD6.out).trans ON7.out).trans ON8.out, .inr ⟨rfl, rfl, by omega⟩⟩
    · have HB := Lib.hid hb
      clear hb
      go_wp2_with fail
      go_ret2
      have P2' := P2.out
      have P1' := P1.out
      have C7' := C7.out
      have N7' := N7.out
      have HB' := HB.out
      exact ⟨0, 30, m1, h1, cs1, N1, rfl, R7.out, E7.out, FS7.out, V7.out, BB7.out, S7.out, by omega, by omega, (ONext.below FD6.out).trans ON7.out, .inr ⟨rfl, rfl, by omega⟩⟩

theorem answer_any (o b : Nat) : ∀ n, AnsAt o b n := by
  intro n
  induction n with
  | zero =>
    intro w m h cs N u q r hq hu0 hu hn hN
    cases ht : (settleQ q).2.2 with
    | true => exact answer_told r hq hu ht 0
    | false =>
      obtain ⟨hq1, _, h2⟩ := (settle_ok r.st.good hu hq).left ht
      have := splitV_range r.st.good hq1 h2
      omega
  | succ n ih =>
    intro w m h cs N u q r hq hu0 hu hn hN
    cases ht : (settleQ q).2.2 with
    | true => exact answer_told r hq hu ht (n + 1)
    | false => exact answer_step ih r hq hu0 hu hn hN ht
end Go.Proofs.Ytkmffmlnondolaa

/- Contracts of layer 4 (oper): refusal. -/
namespace Go.Proofs.Ytkmffmlnondolaa
open Go.ChangeShapes Go.WideShapes Go.ChangeAt Go.RowKit Go.Maps

def RefOut (cs : List Nd) (xs : List Int) (w : World) (e : Ending) (w' : World) : Prop := e = .returned (.int .i64 (if xs.all (thereB cs) then 0 else 3)) ∧ Below w.heap.size w w'

theorem all_stop {cs : List Nd} {xs : List Int} {i : Nat} {x : Int} (hi : xs[i]? = some x) (h : thereB cs x = false) : xs.all (thereB cs) = false := by
  cases hh : xs.all (thereB cs) with
  | false => rfl
  | true =>
    have := List.all_eq_true.1 hh x (List.mem_of_getElem? hi)
    rw [h] at this
    cases this

theorem all_done {cs : List Nd} {xs : List Int} (h : ∀ j x, j < xs.length → xs[j]? = some x → thereB cs x = true) : xs.all (thereB cs) = true := by
  rw [List.all_eq_true]
  intro x hx
  obtain ⟨j, hj⟩ := List.getElem?_of_mem hx
  exact h j x (List.getElem?_eq_some_iff.1 hj).1 hj

set_option maxRecDepth 100000 in
set_option maxHeartbeats 1600000 in
theorem refusal_any {w : World} {m : Mem} {h : Hd} {cs : List Nd} {o : Nat} {mb : Option Nat} (r : OSt w m h cs o mb) {g c : Nat} {xs : List Int} (hl : xs.length ≤ 1000) (hg : g < w.heap.size)
    (hx : ∀ (i : Nat) (x : Int), xs[i]? = some x → w.cell? ⟨g, i, none⟩ = some (.int .i64 x)) :
    Calls Try.prog 65 #[.pointer (some ⟨o, 0, none⟩), .slice (some ⟨g, 0, none⟩) xs.length c] w (RefOut cs xs w) := by
  obtain ⟨d, mp, sw, ha⟩ := r.head
  have GV := Lib.hid (given_ops ha)
  have LL := Lib.hid fun (w' : World) (hb : Below w.heap.size w w') => r.st.lay.keep hb
  have OC := Lib.hid fun (w' : World) (hb : Below w.heap.size w w') => (ha.keep hb).c1
  have HX := Lib.hid hx
  have HG := Lib.hid hg
  clear ha hx hg r
  go_enter Try.func65, Try.ntmps65
  go_wp2_with fail
  refine GV.out.mono ?_
  rintro e w' ⟨rfl, rfl⟩
  go_wp2_with fail
  go_loopw [16] (fun ix wr => ∃ i : Nat, i ≤ xs.length ∧ ix = .int .i64 i ∧ (∀ j x, j < i → xs[j]? = some x → thereB cs x = true) ∧ Below w.heap.size w wr) (fun ix _ => xs.length - (intOf ix).toNat)
  case atStart => exact ⟨0, Nat.zero_le _, rfl, fun j x hj => by omega, Below.refl _ _⟩
  case round =>
    obtain ⟨i, hi, rfl, hall, hb⟩ := hrel
    have HA := Lib.hid hall
    have HB := Lib.hid hb
    clear hall
    by_cases hlt : i < xs.length
    · obtain ⟨x, hxi⟩ : ∃ x, xs[i]? = some x := ⟨_, List.getElem?_eq_getElem hlt⟩
      have cx := (hb.cell (p := ⟨g, i, none⟩) HG.out).trans (HX.out i x hxi)
      have oc := OC.out _ hb
      have XI := Lib.hid hxi
      have L1 := LL.out _ hb
      clear hxi hb
      cases ht : thereB cs x with
      | true =>
        obtain ⟨k, cn, rfl, hk⟩ := thereB_true ht
        have NY := Lib.hid (node_yes L1 hk)
        unfold ptrV at NY
        have HT := Lib.hid ht
        clear ht L1 hk
        go_wp2_with fail
        refine NY.out.mono ?_
        rintro e w1 ⟨rfl, dn, rfl⟩
        go_wp2_with fail
        go_roundw
        case rel =>
          refine ⟨i + 1, by omega, by go_num, fun j y hj hy => ?_, HB.out.trans ((below_drewN0 _ dn).mono HB.out.size)⟩
          rcases (by omega : j < i ∨ j = i) with h1 | rfl
          · exact HA.out j y h1 hy
          · rw [XI.out] at hy
            injection hy with hy
            rw [← hy]
            exact HT.out
        case measure => simp [intOf]; omega
      | false =>
        have NN := Lib.hid (node_no L1 x ht)
        unfold ptrV at NN
        have HT := Lib.hid (all_stop XI.out ht)
        clear ht L1
        go_wp2_with fail
        refine NN.out.mono ?_
        rintro e w1 ⟨rfl, rfl⟩
        go_wp2_with fail
        go_ret
        exact ⟨by rw [HT.out]; rfl, HB.out⟩
    · obtain rfl : i = xs.length := by omega
      have HT := Lib.hid (all_done HA.out)
      clear HA hb
      go_wp2_with fail
      go_ret
      exact ⟨by rw [HT.out]; rfl, HB.out⟩
end Go.Proofs.Ytkmffmlnondolaa

/- Contracts of layer 4 (oper): ask. -/
namespace Go.Proofs.Ytkmffmlnondolaa
open Go.ChangeShapes Go.WideShapes Go.ChangeAt Go.RowKit Go.Maps

def AskOut (m : Mem) (h : Hd) (cs : List Nd) (o : Nat) (mb : Option Nat) (q : Qu) (w : World) (e : Ending) (w' : World) : Prop :=
  ∃ (k : Nat) (x : Int) (m' : Mem) (h' : Hd) (cs' : List Nd) (mb' : Option Nat), e = .returned (.tuple #[.int .i64 (k : Int), .int .i64 x]) ∧ OSt w' m' h' cs' o mb' ∧ Ext cs cs' ∧ Fresh cs cs' ∧ h'.V = h.V ∧ h'.B = h.B ∧ h'.sweeps = h.sweeps ∧
    cnt cs' + 1 ≤ cnt cs + 2 ^ h.V ∧ ONext o m mb m' mb' w w' ∧ ((x = 0 ∧ At cs' 0 k ∧ ∀ val, Says h.V cs' val k = qsem h.V cs val q) ∨ (x = 30 ∧ k = 0 ∧ h.B + 2 ≤ cnt cs + 2 ^ h.V))

theorem ask_bad {w : World} {m : Mem} {h : Hd} {cs : List Nd} {o : Nat} {mb : Option Nat} (r : OSt w m h cs o mb) {g c : Nat} {xs : List Int} (hl : xs.length ≤ 1000) (hg : g < w.heap.size)
    (hx : ∀ (i : Nat) (x : Int), xs[i]? = some x → w.cell? ⟨g, i, none⟩ = some (.int .i64 x)) (hbad : xs.all (thereB cs) = false) (kd : Int) :
    Calls Try.prog 43 #[.pointer (some ⟨o, 0, none⟩), .int .i64 kd, .slice (some ⟨g, 0, none⟩) xs.length c] w fun e w' => e = .returned (.tuple #[.int .i64 0, .int .i64 3]) ∧ Below w.heap.size w w' := by
  have RF := refusal_any r (c := c) hl hg hx
  unfold RefOut at RF
  rw [hbad] at RF
  have RF := Lib.hid RF
  clear hbad hx hg hl r
  go_enter Try.func43, Try.ntmps43
  go_wp2_with fail
  refine RF.out.mono ?_
  rintro e w2 ⟨rfl, hb2⟩
  go_wp2_with fail
  go_ret2
  exact ⟨rfl, hb2⟩

/-- Behind the copy: the question's variable. -/
theorem asked_world {w3 : World} (cur : Array Value) (q : Qu) (new : Array Value) (hn : new = #[.int .i64 q.kind, .int .i64 q.a, .int .i64 q.b, .int .i64 q.c]) :
    Below w3.heap.size w3 ((w3.alloc (.cells cur 123)).setRow w3.heap.size new) ∧ ((w3.alloc (.cells cur 123)).setRow w3.heap.size new).heap[w3.heap.size]? = some (quO q) := by
  subst hn
  exact ⟨below_setRow ((Below.refl w3.heap.size w3).alloc (Nat.le_refl _) _) (Nat.le_refl _) _, setRow_heap _ _ _ _ _ _ (heap_alloc_new w3 (.cells cur 123))⟩

theorem info_int1 : (Try.prog.info? 3).map (·.size) = some 1 := by kernel_rfl

set_option maxRecDepth 100000 in
set_option maxHeartbeats 1600000 in
theorem ask_good3 {w : World} {m : Mem} {h : Hd} {cs : List Nd} {o : Nat} {mb : Option Nat} (r : OSt w m h cs o mb) (hV : 2 ^ h.V ≤ 900000) {g cp : Nat} {a b c : Nat} (hg : g < w.heap.size) (hno : ¬ oown o m mb g) (h0 : w.cell? ⟨g, 0, none⟩ = some (.int .i64 (a : Int))) (h1 : w.cell? ⟨g, 1, none⟩ = some (.int .i64 (b : Int))) (h2 : w.cell? ⟨g, 2, none⟩ = some (.int .i64 (c : Int)))
    (hq : QAt cs 0 ⟨0, a, b, c⟩) :
    Calls Try.prog 43 #[.pointer (some ⟨o, 0, none⟩), .int .i64 0, .slice (some ⟨g, 0, none⟩) 3 cp] w (AskOut m h cs o mb ⟨0, a, b, c⟩ w) := by
  have hx : ∀ (i : Nat) (x : Int), ([(a : Int), (b : Int), (c : Int)] : List Int)[i]? = some x → w.cell? ⟨g, i, none⟩ = some (.int .i64 x) := by
    intro i x hx
    match i, x, hx with
    | 0, x, hx => injection hx with hx; rw [← hx]; exact h0
    | 1, x, hx => injection hx with hx; rw [← hx]; exact h1
    | 2, x, hx => injection hx with hx; rw [← hx]; exact h2
    | i + 3, x, hx => simp at hx
  have t0 := thereB_is hq.a.is.1
  have t1 := thereB_is hq.b.is.1
  have t2 := thereB_is hq.c.is.1
  have RF := refusal_any r (c := cp) (xs := [(a : Int), (b : Int), (c : Int)]) (by simp) hg hx
  unfold RefOut at RF
  rw [show ([(a : Int), (b : Int), (c : Int)] : List Int).all (thereB cs) = true by simp [t0, t1, t2]] at RF
  change Calls _ _ #[_, .slice _ 3 _] _ _ at RF
  have RF := Lib.hid RF
  have HX := Lib.hid hx
  have HG := Lib.hid hg
  have HNO := Lib.hid hno
  have HQ := Lib.hid hq
  have HV := Lib.hid hV
  have RR := Lib.hid r
  clear t0 h0 t1 h1 t2 h2 hx hg hno hq hV r
  go_enter Try.func43, Try.ntmps43
  go_wp2_with fail
  refine RF.out.mono ?_
  rintro e w2 ⟨rfl, hb2⟩
  clear RF
  have PR := Lib.hid (prepare_any (RR.out.keep hb2))
  have B2 := Lib.hid hb2
  clear hb2
  go_wp2_with fail
  refine PR.out.mono ?_
  rintro e w3 ⟨bb, nn, rfl, rdy, hnn, on3⟩
  clear PR
  have G2 : g < w2.heap.size := Nat.lt_of_lt_of_le HG.out B2.out.size
  have G3 : Hid (g < w3.heap.size) := Nat.lt_of_lt_of_le G2 on3.turn.size
  have H3 : Hid (∀ (i : Nat) (x : Int), ([(a : Int), (b : Int), (c : Int)] : List Int)[i]? = some x → w3.cell? ⟨g, i, none⟩ = some (.int .i64 x)) := by
    show ∀ (i : Nat) (x : Int), ([(a : Int), (b : Int), (c : Int)] : List Int)[i]? = some x → w3.cell? ⟨g, i, none⟩ = some (.int .i64 x)
    intro i x hx
    exact on3.turn.cell (p := ⟨g, i, none⟩) ((B2.out.cell (p := ⟨g, i, none⟩) HG.out).trans (HX.out i x hx)) HNO.out
  have b4 := (Below.refl w3.heap.size w3).alloc (Nat.le_refl _) (.cells #[.int .i64 0, .int .i64 0, .int .i64 0, .int .i64 0] 123)
  have h4 := heap_alloc_new w3 (.cells #[.int .i64 0, .int .i64 0, .int .i64 0, .int .i64 0] 123)
  have src : ∀ (j : Nat) (v : Value), ([.int .i64 (a : Int), .int .i64 (b : Int), .int .i64 (c : Int)] : List Value)[j]? = some v → (w3.alloc (.cells #[.int .i64 0, .int .i64 0, .int .i64 0, .int .i64 0] 123)).cell? ((⟨g, 0, none⟩ : Addr).add j) = some v := by
    intro j v hv
    match j, v, hv with
    | 0, v, hv => injection hv with hv; rw [← hv]; exact (b4.cell (p := ⟨g, 0, none⟩) G3.out).trans (H3.out 0 _ rfl)
    | 1, v, hv => injection hv with hv; rw [← hv]; exact (b4.cell (p := ⟨g, 1, none⟩) G3.out).trans (H3.out 1 _ rfl)
    | 2, v, hv => injection hv with hv; rw [← hv]; exact (b4.cell (p := ⟨g, 2, none⟩) G3.out).trans (H3.out 2 _ rfl)
    | j + 3, v, hv => simp at hv
  have hcp : ∀ ty, (Builtin.copy_ #[27, 27] ty #[.slice (some ⟨w3.heap.size, 1, none⟩) 3 3, .slice (some ⟨g, 0, none⟩) 3 cp]).run Try.prog (w3.alloc (.cells #[.int .i64 0, .int .i64 0, .int .i64 0, .int .i64 0] 123)) = .ok (.int .i64 3) ((w3.alloc (.cells #[.int .i64 0, .int .i64 0, .int .i64 0, .int .i64 0] 123)).setRow w3.heap.size #[.int .i64 0, .int .i64 (a : Int), .int .i64 (b : Int), .int .i64 (c : Int)]) :=
    fun ty => run_copy_row (P := Try.prog) (w3.alloc (.cells #[.int .i64 0, .int .i64 0, .int .i64 0, .int .i64 0] 123)) 27 27 ty 3 w3.heap.size 1 3 3 ⟨g, 0, none⟩ 3 cp _ _ [.int .i64 (a : Int), .int .i64 (b : Int), .int .i64 (c : Int)] Try.underlying27 info_int1 h4 rfl src (by simp) (by simp [Value.oneCell'])
  obtain ⟨b5, q5⟩ := asked_world (w3 := w3) #[.int .i64 0, .int .i64 0, .int .i64 0, .int .i64 0] ⟨0, a, b, c⟩ #[.int .i64 0, .int .i64 (a : Int), .int .i64 (b : Int), .int .i64 (c : Int)] rfl
  have R5 := Lib.hid (rdy.keep b5)
  have B5 := Lib.hid b5
  have Q5 := Lib.hid q5
  have ON3 := Lib.hid on3
  have NN := Lib.hid hnn
  obtain ⟨z0, z1, z2, z3, zf⟩ := qu_cells q5
  clear b4 h4 src b5 q5 on3 hnn rdy
  go_wp2_with fail
  have AN := answer_any o bb h.V _ m h cs nn 0 ⟨0, a, b, c⟩ R5.out HQ.out (Int.le_refl 0) (by omega) (by omega) (by have := NN.out; have := HV.out; omega)
  change Calls _ _ #[_, .agg #[.int .i64 0, .int .i64 (a : Int), .int .i64 (b : Int), .int .i64 (c : Int)]] _ _ at AN
  refine AN.mono ?_
  clear AN
  rintro e w6 ⟨k, x, m', h', cs', N', rfl, r6, e6, fr6, v6, bb6, s6, c6, n6, on6, hout⟩
  have FIN : AskOut m h cs o mb ⟨0, a, b, c⟩ w (.returned (.tuple #[.int .i64 (k : Int), .int .i64 x])) w6 := ⟨k, x, m', h', cs', some bb, rfl, r6.ost, e6, fr6, v6, bb6, s6, c6, ((ONext.below B2.out).trans ON3.out).trans ((ONext.below B5.out).trans on6), hout⟩
  have FIN := Lib.hid FIN
  clear r6 e6 fr6 v6 bb6 s6 c6 n6 on6 hout
  go_wp2_with fail
  go_ret2
  exact FIN.out

set_option maxRecDepth 100000 in
set_option maxHeartbeats 1600000 in
theorem ask_good2 {w : World} {m : Mem} {h : Hd} {cs : List Nd} {o : Nat} {mb : Option Nat} (r : OSt w m h cs o mb) (hV : 2 ^ h.V ≤ 900000) {g cp : Nat} {a b : Nat} (hg : g < w.heap.size) (hno : ¬ oown o m mb g) (h0 : w.cell? ⟨g, 0, none⟩ = some (.int .i64 (a : Int))) (h1 : w.cell? ⟨g, 1, none⟩ = some (.int .i64 (b : Int)))
    (hq : QAt cs 0 ⟨1, a, b, 0⟩) :
    Calls Try.prog 43 #[.pointer (some ⟨o, 0, none⟩), .int .i64 1, .slice (some ⟨g, 0, none⟩) 2 cp] w (AskOut m h cs o mb ⟨1, a, b, 0⟩ w) := by
  have hx : ∀ (i : Nat) (x : Int), ([(a : Int), (b : Int)] : List Int)[i]? = some x → w.cell? ⟨g, i, none⟩ = some (.int .i64 x) := by
    intro i x hx
    match i, x, hx with
    | 0, x, hx => injection hx with hx; rw [← hx]; exact h0
    | 1, x, hx => injection hx with hx; rw [← hx]; exact h1
    | i + 2, x, hx => simp at hx
  have t0 := thereB_is hq.a.is.1
  have t1 := thereB_is hq.b.is.1
  have RF := refusal_any r (c := cp) (xs := [(a : Int), (b : Int)]) (by simp) hg hx
  unfold RefOut at RF
  rw [show ([(a : Int), (b : Int)] : List Int).all (thereB cs) = true by simp [t0, t1]] at RF
  change Calls _ _ #[_, .slice _ 2 _] _ _ at RF
  have RF := Lib.hid RF
  have HX := Lib.hid hx
  have HG := Lib.hid hg
  have HNO := Lib.hid hno
  have HQ := Lib.hid hq
  have HV := Lib.hid hV
  have RR := Lib.hid r
  clear t0 h0 t1 h1 hx hg hno hq hV r
  go_enter Try.func43, Try.ntmps43
  go_wp2_with fail
  refine RF.out.mono ?_
  rintro e w2 ⟨rfl, hb2⟩
  clear RF
  have PR := Lib.hid (prepare_any (RR.out.keep hb2))
  have B2 := Lib.hid hb2
  clear hb2
  go_wp2_with fail
  refine PR.out.mono ?_
  rintro e w3 ⟨bb, nn, rfl, rdy, hnn, on3⟩
  clear PR
  have G2 : g < w2.heap.size := Nat.lt_of_lt_of_le HG.out B2.out.size
  have G3 : Hid (g < w3.heap.size) := Nat.lt_of_lt_of_le G2 on3.turn.size
  have H3 : Hid (∀ (i : Nat) (x : Int), ([(a : Int), (b : Int)] : List Int)[i]? = some x → w3.cell? ⟨g, i, none⟩ = some (.int .i64 x)) := by
    show ∀ (i : Nat) (x : Int), ([(a : Int), (b : Int)] : List Int)[i]? = some x → w3.cell? ⟨g, i, none⟩ = some (.int .i64 x)
    intro i x hx
    exact on3.turn.cell (p := ⟨g, i, none⟩) ((B2.out.cell (p := ⟨g, i, none⟩) HG.out).trans (HX.out i x hx)) HNO.out
  have b4 := (Below.refl w3.heap.size w3).alloc (Nat.le_refl _) (.cells #[.int .i64 1, .int .i64 0, .int .i64 0, .int .i64 0] 123)
  have h4 := heap_alloc_new w3 (.cells #[.int .i64 1, .int .i64 0, .int .i64 0, .int .i64 0] 123)
  have src : ∀ (j : Nat) (v : Value), ([.int .i64 (a : Int), .int .i64 (b : Int)] : List Value)[j]? = some v → (w3.alloc (.cells #[.int .i64 1, .int .i64 0, .int .i64 0, .int .i64 0] 123)).cell? ((⟨g, 0, none⟩ : Addr).add j) = some v := by
    intro j v hv
    match j, v, hv with
    | 0, v, hv => injection hv with hv; rw [← hv]; exact (b4.cell (p := ⟨g, 0, none⟩) G3.out).trans (H3.out 0 _ rfl)
    | 1, v, hv => injection hv with hv; rw [← hv]; exact (b4.cell (p := ⟨g, 1, none⟩) G3.out).trans (H3.out 1 _ rfl)
    | j + 2, v, hv => simp at hv
  have hcp : ∀ ty, (Builtin.copy_ #[27, 27] ty #[.slice (some ⟨w3.heap.size, 1, none⟩) 3 3, .slice (some ⟨g, 0, none⟩) 2 cp]).run Try.prog (w3.alloc (.cells #[.int .i64 1, .int .i64 0, .int .i64 0, .int .i64 0] 123)) = .ok (.int .i64 2) ((w3.alloc (.cells #[.int .i64 1, .int .i64 0, .int .i64 0, .int .i64 0] 123)).setRow w3.heap.size #[.int .i64 1, .int .i64 (a : Int), .int .i64 (b : Int), .int .i64 0]) :=
    fun ty => run_copy_row (P := Try.prog) (w3.alloc (.cells #[.int .i64 1, .int .i64 0, .int .i64 0, .int .i64 0] 123)) 27 27 ty 3 w3.heap.size 1 3 3 ⟨g, 0, none⟩ 2 cp _ _ [.int .i64 (a : Int), .int .i64 (b : Int)] Try.underlying27 info_int1 h4 rfl src (by simp) (by simp [Value.oneCell'])
  obtain ⟨b5, q5⟩ := asked_world (w3 := w3) #[.int .i64 1, .int .i64 0, .int .i64 0, .int .i64 0] ⟨1, a, b, 0⟩ #[.int .i64 1, .int .i64 (a : Int), .int .i64 (b : Int), .int .i64 0] rfl
  have R5 := Lib.hid (rdy.keep b5)
  have B5 := Lib.hid b5
  have Q5 := Lib.hid q5
  have ON3 := Lib.hid on3
  have NN := Lib.hid hnn
  obtain ⟨z0, z1, z2, z3, zf⟩ := qu_cells q5
  clear b4 h4 src b5 q5 on3 hnn rdy
  go_wp2_with fail
  have AN := answer_any o bb h.V _ m h cs nn 0 ⟨1, a, b, 0⟩ R5.out HQ.out (Int.le_refl 0) (by omega) (by omega) (by have := NN.out; have := HV.out; omega)
  change Calls _ _ #[_, .agg #[.int .i64 1, .int .i64 (a : Int), .int .i64 (b : Int), .int .i64 0]] _ _ at AN
  refine AN.mono ?_
  clear AN
  rintro e w6 ⟨k, x, m', h', cs', N', rfl, r6, e6, fr6, v6, bb6, s6, c6, n6, on6, hout⟩
  have FIN : AskOut m h cs o mb ⟨1, a, b, 0⟩ w (.returned (.tuple #[.int .i64 (k : Int), .int .i64 x])) w6 := ⟨k, x, m', h', cs', some bb, rfl, r6.ost, e6, fr6, v6, bb6, s6, c6, ((ONext.below B2.out).trans ON3.out).trans ((ONext.below B5.out).trans on6), hout⟩
  have FIN := Lib.hid FIN
  clear r6 e6 fr6 v6 bb6 s6 c6 n6 on6 hout
  go_wp2_with fail
  go_ret2
  exact FIN.out
end Go.Proofs.Ytkmffmlnondolaa

/- Contracts of layer 4 (oper): Not, And, Or, Xor, Diff, Ite; New, Store; operations that nobody made. -/
namespace Go.Proofs.Ytkmffmlnondolaa
open Go.ChangeShapes Go.WideShapes Go.ChangeAt Go.RowKit Go.Maps

theorem AskOut.pre {m : Mem} {h : Hd} {cs : List Nd} {o : Nat} {mb : Option Nat} {q : Qu} {w w1 w' : World} {e : Ending} (hb : Below w.heap.size w w1) (a : AskOut m h cs o mb q w1 e w') : AskOut m h cs o mb q w e w' := by
  obtain ⟨k, x, m', h', cs', mb', e1, e2, e3, e4, e5, e6, e7, e8, e9, e10⟩ := a
  exact ⟨k, x, m', h', cs', mb', e1, e2, e3, e4, e5, e6, e7, e8, (ONext.below hb).trans e9, e10⟩

theorem given_nob {w : World} {pv : Value} (h : NBs w pv) : Calls Try.prog 78 #[pv] w fun e w' => e = .returned (.bool false) ∧ w = w' := by
  rcases h with rfl | ⟨t, rfl, h0⟩
  · go_enter Try.func78, Try.ntmps78
    go_wp2
    go_ret
    exact ⟨rfl, rfl⟩
  · have heq : (binOp .eql 44 (.pointer none) (.pointer (some ⟨t, 0, none⟩))).run Try.prog w = .ok (.bool false) w := by kernel_rfl
    go_enter Try.func78, Try.ntmps78
    go_wp2
    go_ret
    exact ⟨rfl, rfl⟩

theorem refusal_nob {w : World} {pv : Value} (h : NBs w pv) (sl : Value) : Calls Try.prog 65 #[pv, sl] w fun e w' => e = .returned (.int .i64 1) ∧ w = w' := by
  have H := Lib.hid (given_nob h)
  clear h
  go_enter Try.func65, Try.ntmps65
  go_wp2_with fail
  refine H.out.mono ?_
  rintro e w' ⟨rfl, rfl⟩
  go_wp2_with fail
  go_ret
  exact ⟨rfl, rfl⟩

theorem ask_nob {w : World} {pv : Value} (h : NBs w pv) (kd : Int) (sl : Value) : Calls Try.prog 43 #[pv, .int .i64 kd, sl] w fun e w' => e = .returned (.tuple #[.int .i64 0, .int .i64 1]) ∧ w = w' := by
  have H := Lib.hid (refusal_nob h sl)
  clear h
  go_enter Try.func43, Try.ntmps43
  go_wp2_with fail
  refine H.out.mono ?_
  rintro e w' ⟨rfl, rfl⟩
  go_wp2_with fail
  go_ret2
  exact ⟨rfl, rfl⟩

theorem NBs.keep {w w' : World} {pv : Value} (h : NBs w pv) (hb : Below w.heap.size w w') : NBs w' pv := by
  rcases h with rfl | ⟨t, rfl, h0⟩
  · exact .inl rfl
  · exact .inr ⟨t, rfl, (hb.cell (p := ⟨t, 0, none⟩) (World.block_lt_of_cell? w ⟨t, 0, none⟩ h0)).trans h0⟩


theorem not_good {w : World} {m : Mem} {h : Hd} {cs : List Nd} {o : Nat} {mb : Option Nat} (r : OSt w m h cs o mb) (hV : 2 ^ h.V ≤ 900000) {a : Nat} (ha : At cs 0 a) :
    Calls Try.prog 21 #[.pointer (some ⟨o, 0, none⟩), .int .i64 a] w (AskOut m h cs o mb ⟨0, a, 0, 1⟩ w) := by
  have bw := (Below.refl w.heap.size w).alloc (Nat.le_refl _) (.cells #[.int .i64 a, .int .i64 0, .int .i64 1] 3)
  have hr := heap_alloc_new w (.cells #[.int .i64 a, .int .i64 0, .int .i64 1] 3)
  have AK := Lib.hid (ask_good3 (r.keep bw) hV (g := w.heap.size) (cp := 3) (row_lt hr) (fun q => by have := r.own_lt _ q; omega) (cell_of_row _ _ 0 _ _ _ hr) (cell_of_row _ _ 1 _ _ _ hr) (cell_of_row _ _ 2 _ _ _ hr) ⟨by show 0 < 2; omega, ha, (r.st.good.at0 (by omega)), (r.st.good.at1 (by omega))⟩)
  have BW := Lib.hid bw
  clear bw hr r hV ha
  go_enter Try.func21, Try.ntmps21
  go_wp2_with fail
  refine AK.out.mono ?_
  intro e w' hout
  have HO := Lib.hid (AskOut.pre BW.out hout)
  obtain ⟨k, x, m', h', cs', mb', rfl, -⟩ := hout
  clear AK
  go_wp2_with fail
  go_ret2
  exact HO.out

theorem not_bad {w : World} {m : Mem} {h : Hd} {cs : List Nd} {o : Nat} {mb : Option Nat} (r : OSt w m h cs o mb) (a : Int) (hbad : ([(a : Int), (0 : Int), (1 : Int)] : List Int).all (thereB cs) = false) :
    Calls Try.prog 21 #[.pointer (some ⟨o, 0, none⟩), .int .i64 a] w fun e w' => e = .returned (.tuple #[.int .i64 0, .int .i64 3]) ∧ Below w.heap.size w w' := by
  have bw := (Below.refl w.heap.size w).alloc (Nat.le_refl _) (.cells #[.int .i64 a, .int .i64 0, .int .i64 1] 3)
  have hr := heap_alloc_new w (.cells #[.int .i64 a, .int .i64 0, .int .i64 1] 3)
  have hx : ∀ (i : Nat) (x : Int), ([(a : Int), (0 : Int), (1 : Int)] : List Int)[i]? = some x → (w.alloc (.cells #[.int .i64 a, .int .i64 0, .int .i64 1] 3)).cell? ⟨w.heap.size, i, none⟩ = some (.int .i64 x) := by
    intro i x hx
    match i, x, hx with
    | 0, x, hx => injection hx with hx; rw [← hx]; exact cell_of_row _ _ 0 _ _ _ hr
    | 1, x, hx => injection hx with hx; rw [← hx]; exact cell_of_row _ _ 1 _ _ _ hr
    | 2, x, hx => injection hx with hx; rw [← hx]; exact cell_of_row _ _ 2 _ _ _ hr
    | i + 3, x, hx => simp at hx
  have AK := ask_bad (r.keep bw) (c := 3) (xs := [(a : Int), (0 : Int), (1 : Int)]) (by simp) (row_lt hr) hx hbad 0
  change Calls _ _ #[_, _, .slice _ 3 _] _ _ at AK
  have AK := Lib.hid AK
  have BW := Lib.hid bw
  clear bw hr r hbad hx
  go_enter Try.func21, Try.ntmps21
  go_wp2_with fail
  refine AK.out.mono ?_
  rintro e w' ⟨rfl, hb⟩
  have HB := Lib.hid (BW.out.trans (hb.mono BW.out.size))
  clear AK hb
  go_wp2_with fail
  go_ret2
  exact ⟨rfl, HB.out⟩

theorem not_nob {w : World} {pv : Value} (h : NBs w pv) (a : Int) :
    Calls Try.prog 21 #[pv, .int .i64 a] w fun e w' => e = .returned (.tuple #[.int .i64 0, .int .i64 1]) ∧ Below w.heap.size w w' := by
  have bw := (Below.refl w.heap.size w).alloc (Nat.le_refl _) (.cells #[.int .i64 a, .int .i64 0, .int .i64 1] 3)
  have AK := Lib.hid (fun sl => ask_nob (h.keep bw) 0 sl)
  have BW := Lib.hid bw
  clear bw h
  go_enter Try.func21, Try.ntmps21
  go_wp2_with fail
  refine (AK.out _).mono ?_
  rintro e w' ⟨rfl, rfl⟩
  clear AK
  go_wp2_with fail
  go_ret2
  exact ⟨rfl, BW.out⟩

theorem and_good {w : World} {m : Mem} {h : Hd} {cs : List Nd} {o : Nat} {mb : Option Nat} (r : OSt w m h cs o mb) (hV : 2 ^ h.V ≤ 900000) {a b : Nat} (ha : At cs 0 a) (hb : At cs 0 b) :
    Calls Try.prog 20 #[.pointer (some ⟨o, 0, none⟩), .int .i64 a, .int .i64 b] w (AskOut m h cs o mb ⟨0, a, b, 0⟩ w) := by
  have bw := (Below.refl w.heap.size w).alloc (Nat.le_refl _) (.cells #[.int .i64 a, .int .i64 b, .int .i64 0] 3)
  have hr := heap_alloc_new w (.cells #[.int .i64 a, .int .i64 b, .int .i64 0] 3)
  have AK := Lib.hid (ask_good3 (r.keep bw) hV (g := w.heap.size) (cp := 3) (row_lt hr) (fun q => by have := r.own_lt _ q; omega) (cell_of_row _ _ 0 _ _ _ hr) (cell_of_row _ _ 1 _ _ _ hr) (cell_of_row _ _ 2 _ _ _ hr) ⟨by show 0 < 2; omega, ha, hb, (r.st.good.at0 (by omega))⟩)
  have BW := Lib.hid bw
  clear bw hr r hV ha hb
  go_enter Try.func20, Try.ntmps20
  go_wp2_with fail
  refine AK.out.mono ?_
  intro e w' hout
  have HO := Lib.hid (AskOut.pre BW.out hout)
  obtain ⟨k, x, m', h', cs', mb', rfl, -⟩ := hout
  clear AK
  go_wp2_with fail
  go_ret2
  exact HO.out

theorem and_bad {w : World} {m : Mem} {h : Hd} {cs : List Nd} {o : Nat} {mb : Option Nat} (r : OSt w m h cs o mb) (a b : Int) (hbad : ([(a : Int), (b : Int), (0 : Int)] : List Int).all (thereB cs) = false) :
    Calls Try.prog 20 #[.pointer (some ⟨o, 0, none⟩), .int .i64 a, .int .i64 b] w fun e w' => e = .returned (.tuple #[.int .i64 0, .int .i64 3]) ∧ Below w.heap.size w w' := by
  have bw := (Below.refl w.heap.size w).alloc (Nat.le_refl _) (.cells #[.int .i64 a, .int .i64 b, .int .i64 0] 3)
  have hr := heap_alloc_new w (.cells #[.int .i64 a, .int .i64 b, .int .i64 0] 3)
  have hx : ∀ (i : Nat) (x : Int), ([(a : Int), (b : Int), (0 : Int)] : List Int)[i]? = some x → (w.alloc (.cells #[.int .i64 a, .int .i64 b, .int .i64 0] 3)).cell? ⟨w.heap.size, i, none⟩ = some (.int .i64 x) := by
    intro i x hx
    match i, x, hx with
    | 0, x, hx => injection hx with hx; rw [← hx]; exact cell_of_row _ _ 0 _ _ _ hr
    | 1, x, hx => injection hx with hx; rw [← hx]; exact cell_of_row _ _ 1 _ _ _ hr
    | 2, x, hx => injection hx with hx; rw [← hx]; exact cell_of_row _ _ 2 _ _ _ hr
    | i + 3, x, hx => simp at hx
  have AK := ask_bad (r.keep bw) (c := 3) (xs := [(a : Int), (b : Int), (0 : Int)]) (by simp) (row_lt hr) hx hbad 0
  change Calls _ _ #[_, _, .slice _ 3 _] _ _ at AK
  have AK := Lib.hid AK
  have BW := Lib.hid bw
  clear bw hr r hbad hx
  go_enter Try.func20, Try.ntmps20
  go_wp2_with fail
  refine AK.out.mono ?_
  rintro e w' ⟨rfl, hb⟩
  have HB := Lib.hid (BW.out.trans (hb.mono BW.out.size))
  clear AK hb
  go_wp2_with fail
  go_ret2
  exact ⟨rfl, HB.out⟩

theorem and_nob {w : World} {pv : Value} (h : NBs w pv) (a b : Int) :
    Calls Try.prog 20 #[pv, .int .i64 a, .int .i64 b] w fun e w' => e = .returned (.tuple #[.int .i64 0, .int .i64 1]) ∧ Below w.heap.size w w' := by
  have bw := (Below.refl w.heap.size w).alloc (Nat.le_refl _) (.cells #[.int .i64 a, .int .i64 b, .int .i64 0] 3)
  have AK := Lib.hid (fun sl => ask_nob (h.keep bw) 0 sl)
  have BW := Lib.hid bw
  clear bw h
  go_enter Try.func20, Try.ntmps20
  go_wp2_with fail
  refine (AK.out _).mono ?_
  rintro e w' ⟨rfl, rfl⟩
  clear AK
  go_wp2_with fail
  go_ret2
  exact ⟨rfl, BW.out⟩

theorem or_good {w : World} {m : Mem} {h : Hd} {cs : List Nd} {o : Nat} {mb : Option Nat} (r : OSt w m h cs o mb) (hV : 2 ^ h.V ≤ 900000) {a b : Nat} (ha : At cs 0 a) (hb : At cs 0 b) :
    Calls Try.prog 19 #[.pointer (some ⟨o, 0, none⟩), .int .i64 a, .int .i64 b] w (AskOut m h cs o mb ⟨0, a, 1, b⟩ w) := by
  have bw := (Below.refl w.heap.size w).alloc (Nat.le_refl _) (.cells #[.int .i64 a, .int .i64 1, .int .i64 b] 3)
  have hr := heap_alloc_new w (.cells #[.int .i64 a, .int .i64 1, .int .i64 b] 3)
  have AK := Lib.hid (ask_good3 (r.keep bw) hV (g := w.heap.size) (cp := 3) (row_lt hr) (fun q => by have := r.own_lt _ q; omega) (cell_of_row _ _ 0 _ _ _ hr) (cell_of_row _ _ 1 _ _ _ hr) (cell_of_row _ _ 2 _ _ _ hr) ⟨by show 0 < 2; omega, ha, (r.st.good.at1 (by omega)), hb⟩)
  have BW := Lib.hid bw
  clear bw hr r hV ha hb
  go_enter Try.func19, Try.ntmps19
  go_wp2_with fail
  refine AK.out.mono ?_
  intro e w' hout
  have HO := Lib.hid (AskOut.pre BW.out hout)
  obtain ⟨k, x, m', h', cs', mb', rfl, -⟩ := hout
  clear AK
  go_wp2_with fail
  go_ret2
  exact HO.out

theorem or_bad {w : World} {m : Mem} {h : Hd} {cs : List Nd} {o : Nat} {mb : Option Nat} (r : OSt w m h cs o mb) (a b : Int) (hbad : ([(a : Int), (1 : Int), (b : Int)] : List Int).all (thereB cs) = false) :
    Calls Try.prog 19 #[.pointer (some ⟨o, 0, none⟩), .int .i64 a, .int .i64 b] w fun e w' => e = .returned (.tuple #[.int .i64 0, .int .i64 3]) ∧ Below w.heap.size w w' := by
  have bw := (Below.refl w.heap.size w).alloc (Nat.le_refl _) (.cells #[.int .i64 a, .int .i64 1, .int .i64 b] 3)
  have hr := heap_alloc_new w (.cells #[.int .i64 a, .int .i64 1, .int .i64 b] 3)
  have hx : ∀ (i : Nat) (x : Int), ([(a : Int), (1 : Int), (b : Int)] : List Int)[i]? = some x → (w.alloc (.cells #[.int .i64 a, .int .i64 1, .int .i64 b] 3)).cell? ⟨w.heap.size, i, none⟩ = some (.int .i64 x) := by
    intro i x hx
    match i, x, hx with
    | 0, x, hx => injection hx with hx; rw [← hx]; exact cell_of_row _ _ 0 _ _ _ hr
    | 1, x, hx => injection hx with hx; rw [← hx]; exact cell_of_row _ _ 1 _ _ _ hr
    | 2, x, hx => injection hx with hx; rw [← hx]; exact cell_of_row _ _ 2 _ _ _ hr
    | i + 3, x, hx => simp at hx
  have AK := ask_bad (r.keep bw) (c := 3) (xs := [(a : Int), (1 : Int), (b : Int)]) (by simp) (row_lt hr) hx hbad 0
  change Calls _ _ #[_, _, .slice _ 3 _] _ _ at AK
  have AK := Lib.hid AK
  have BW := Lib.hid bw
  clear bw hr r hbad hx
  go_enter Try.func19, Try.ntmps19
  go_wp2_with fail
  refine AK.out.mono ?_
  rintro e w' ⟨rfl, hb⟩
  have HB := Lib.hid (BW.out.trans (hb.mono BW.out.size))
  clear AK hb
  go_wp2_with fail
  go_ret2
  exact ⟨rfl, HB.out⟩

theorem or_nob {w : World} {pv : Value} (h : NBs w pv) (a b : Int) :
    Calls Try.prog 19 #[pv, .int .i64 a, .int .i64 b] w fun e w' => e = .returned (.tuple #[.int .i64 0, .int .i64 1]) ∧ Below w.heap.size w w' := by
  have bw := (Below.refl w.heap.size w).alloc (Nat.le_refl _) (.cells #[.int .i64 a, .int .i64 1, .int .i64 b] 3)
  have AK := Lib.hid (fun sl => ask_nob (h.keep bw) 0 sl)
  have BW := Lib.hid bw
  clear bw h
  go_enter Try.func19, Try.ntmps19
  go_wp2_with fail
  refine (AK.out _).mono ?_
  rintro e w' ⟨rfl, rfl⟩
  clear AK
  go_wp2_with fail
  go_ret2
  exact ⟨rfl, BW.out⟩



end Go.Proofs.Ytkmffmlnondolaa
