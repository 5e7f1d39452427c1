/- Merged: CMark, CRow, CAsks, CPlaces, CMap, CBCounts, CCount, CSat, CSatY. -/
import Derived.Test.YtkmffmlnondolaaMQ
import Derived.Laws.EntriesVeiled
import Derived.Laws.AppendOwn
import Derived.Test.YtkmffmlnondolaaRows
import Derived.WalkKit
import Derived.ProofKit
import Derived.OpenShut
import Derived.Lib.Hide
import Derived.Deep.RegionHeld3

/- Layer 6 (count): Asks: what its closure marks. -/
namespace Go.Proofs.Ytkmffmlnondolaa
open Go.ChangeShapes Go.WideShapes Go.ChangeAt Go.RowKit Go.Maps

/-- The blocks of mark's variables: marks, the store, asked, mark; the set's, the row's. -/
structure MEnv where
  m : Nat
  s : Nat
  a : Nat
  f : Nat
  b : Nat
  r : Nat
def MEnv.fv (E : MEnv) : Value := .func (.func 46) #[] #[ptrV E.m, ptrV E.s, ptrV E.a, ptrV E.f]
def MEnv.own (E : MEnv) (i : Nat) : Prop := i = E.b ∨ i = E.r
def boolRow (l : List Bool) : Array Value := (l.map Value.bool).toArray

structure MSt (E : MEnv) (m : Mem) (h : Hd) (cs : List Nd) (M R : List Nat) (w : World) : Prop where
  st : St w m h cs
  set : KSet w E.b M
  row : w.heap[E.r]? = some (.cells (boolRow (askedRow h.V cs R)) 4)
  cm : w.cell? ⟨E.m, 0, none⟩ = some (.map (some E.b))
  ct : w.cell? ⟨E.s, 0, none⟩ = some (ptrV m.s)
  ca : w.cell? ⟨E.a, 0, none⟩ = some (.slice (some ⟨E.r, 0, none⟩) h.V h.V)
  cf : w.cell? ⟨E.f, 0, none⟩ = some E.fv
  far : ∀ i, m.own i → ¬ E.own i
  ne : E.m ≠ E.r ∧ E.s ≠ E.r ∧ E.a ≠ E.r ∧ E.f ≠ E.r
  base : 0 ∈ M ∧ 1 ∈ M
  is : ∀ x ∈ M, ∃ c, Is cs x c

section
variable {E : MEnv} {m : Mem} {h : Hd} {cs : List Nd} {M R : List Nat} {w w' : World}
theorem MSt.keep (s : MSt E m h cs M R w) (hb : Below w.heap.size w w') : MSt E m h cs M R w' :=
  ⟨s.st.keep hb, s.set.keep hb, (hb.block _ (row_lt s.row)).trans s.row, (hb.cell (World.block_lt_of_cell? w _ s.cm)).trans s.cm, (hb.cell (World.block_lt_of_cell? w _ s.ct)).trans s.ct, (hb.cell (World.block_lt_of_cell? w _ s.ca)).trans s.ca, (hb.cell (World.block_lt_of_cell? w _ s.cf)).trans s.cf, s.far, s.ne, s.base, s.is⟩

theorem MSt.add (s : MSt E m h cs M R w) {k : Nat} {c : Nd} (hk : Is cs k c) (hn : k ∉ M) :
    ∃ w', (Instr.mapUpdate 96 (.map (some E.b)) (.int .i64 (k : Int)) (.agg #[])).run Try.prog w = .ok () w' ∧ MSt E m h cs (k :: M) R w' ∧ Turn E.own w w' := by
  obtain ⟨w', hrun, s1, t1⟩ := s.set.add (k := k) (by have := hk.lt; have := s.st.lay.len; omega) hn
  have nr := s.set.not_row s.row
  have c1 := s.set.not_cell s.cm
  have c2 := s.set.not_cell s.ct
  have c3 := s.set.not_cell s.ca
  have c4 := s.set.not_cell s.cf
  refine ⟨w', hrun, ⟨s.st.apart t1 (fun i hi e => s.far i hi (.inl e)), s1, (t1.block _ (row_lt s.row) nr).trans s.row, t1.cell s.cm c1, t1.cell s.ct c2, t1.cell s.ca c3, t1.cell s.cf c4, s.far, s.ne, ⟨List.mem_cons_of_mem _ s.base.1, List.mem_cons_of_mem _ s.base.2⟩, ?_⟩, ?_⟩
  · intro x hx
    rcases List.mem_cons.1 hx with rfl | hx
    · exact ⟨c, hk⟩
    · exact s.is x hx
  · exact ⟨t1.os, t1.tape, t1.output, t1.size, fun i hi hno => t1.block i hi fun e => hno (.inl e)⟩

theorem MSt.tick {k : Nat} (s : MSt E m h cs (k :: M) M w) {c : Nd} {v : Nat} (h2 : 2 ≤ k) (hk : Is cs k c) (ev : c.asks = v) : MSt E m h cs (k :: M) (k :: M) (w.setCell ⟨E.r, v, none⟩ (.bool true)) ∧ Turn E.own w (w.setCell ⟨E.r, v, none⟩ (.bool true)) := by
  have ho := s.st.good.ok k c h2 hk
  have t1 : Turn (fun i => i = E.r) w (w.setCell ⟨E.r, v, none⟩ (.bool true)) := (Turn.refl (fun i => i = E.r) w).setCell (p := ⟨E.r, v, none⟩) (.inl rfl) (.bool true)
  have nr := s.set.not_row s.row
  refine ⟨⟨s.st.apart t1 (fun i hi e => s.far i hi (.inr e)), s.set.of (t1.block _ s.set.lt_b (fun e => nr e.symm)), ?_, t1.cell s.cm s.ne.1, t1.cell s.ct s.ne.2.1, t1.cell s.ca s.ne.2.2.1, t1.cell s.cf s.ne.2.2.2, s.far, s.ne, s.base, s.is⟩, ⟨t1.os, t1.tape, t1.output, t1.size, fun i hi hno => t1.block i hi fun e => hno (.inr e)⟩⟩
  rw [heap_setCell_same w E.r v _ _ _ s.row, askedRow_cons h2 hk ho.1 ho.2.1]
  unfold boolRow
  rw [List.map_set, ev]
  simp
end

def MOut (E : MEnv) (m : Mem) (h : Hd) (cs : List Nd) (M : List Nat) (k : Nat) (w : World) (e : Ending) (w' : World) : Prop :=
  ∃ M', e = .returned (.tuple #[]) ∧ Got cs M k M' ∧ MSt E m h cs M' M' w' ∧ Turn E.own w w'

set_option maxRecDepth 100000 in
set_option maxHeartbeats 4000000 in
theorem cmark_any {E : MEnv} {m : Mem} {h : Hd} {cs : List Nd} : ∀ (n : Nat) (M : List Nat) (w : World) (k : Nat) (c : Nd), MSt E m h cs M M w → Is cs k c → rk h.V c ≤ n → ClosedAt cs M c.asks →
    Calls Try.prog 46 #[.int .i64 (k : Int), ptrV E.m, ptrV E.s, ptrV E.a, ptrV E.f] w (MOut E m h cs M k w) := by
  intro n
  induction n using Nat.strongRecOn with
  | _ n ih =>
  intro M w k c s hk hn hcl
  have S := Lib.hid s
  have IS := Lib.hid hk
  have HN := Lib.hid hn
  have CL := Lib.hid hcl
  have IH := Lib.hid ih
  have g := s.st.good
  have cm := s.cm
  have hlk := s.set.look (k := k) (by have := hk.lt; have := s.st.lay.len; omega)
  by_cases hin : k ∈ M
  · have FIN : Hid (Got cs M k M) := Got.same g hk hcl hin s.set.nodup s.is
    rw [decide_eq_true hin] at hlk
    clear ih hk hn hcl s g hin
    unfold ptrV at *
    go_enter Try.func46, Try.ntmps46
    go_wp2_with fail
    go_end0
    have b1 : Below w.heap.size w (w.alloc (.cells #[] 64)) := (Below.refl _ _).alloc (Nat.le_refl _) _
    exact ⟨M, rfl, FIN.out, S.out.keep b1, Turn.of_below b1⟩
  · have h2 : 2 ≤ k := by
      rcases (by omega : k = 0 ∨ k = 1 ∨ 2 ≤ k) with rfl | rfl | h
      · exact absurd s.base.1 hin
      · exact absurd s.base.2 hin
      · exact h
    rw [decide_eq_false hin] at hlk
    have b1 : Below w.heap.size w (w.alloc (.cells #[] 64)) := (Below.refl _ _).alloc (Nat.le_refl _) _
    obtain ⟨w1, hmu, s1, t1⟩ := (s.keep b1).add hk hin
    have cm1 := (s.keep b1).cm
    obtain ⟨v, ev⟩ : ∃ v : Nat, c.asks = v := ⟨c.asks.toNat, by have := (g.ok k c h2 hk).1; omega⟩
    have ho := g.ok k c h2 hk
    have ND := node_yesB s1.st hk
    have cs1 := s1.ct
    rw [ev] at ND
    have ND := Lib.hid ND
    have S1 := Lib.hid s1
    have T1 : Hid (Turn E.own w w1) := (Turn.of_below b1).trans t1 fun i hi => .inl hi
    have EV := Lib.hid ev
    have H2 := Lib.hid h2
    have HI := Lib.hid hin
    have hv : (v : Int) < h.V := by omega
    have hv' : v < h.V := by omega
    obtain ⟨cl, il, ll⟩ := g.lo k c h2 hk
    obtain ⟨ch, ih', lh⟩ := g.hi k c h2 hk
    have rl := g.range il
    have rh := g.range ih'
    have HL : Hid (rk h.V cl < n) := by show _ < _; have := hn; unfold rk at this ⊢; omega
    have HH : Hid (rk h.V ch < n) := by show _ < _; have := hn; unfold rk at this ⊢; omega
    have IL := Lib.hid il
    have IHH := Lib.hid ih'
    have LL := Lib.hid ll
    have LH := Lib.hid lh
    have G := Lib.hid g
    clear ih hk hn hcl s g hin b1 s1 t1 ev h2 il ih' ll lh rl rh ho
    unfold ptrV at *
    go_enter Try.func46, Try.ntmps46
    go_wp2_with fail
    refine ND.out.mono ?_
    rintro e w2 ⟨rfl, hb2⟩
    have S2 := Lib.hid (S1.out.keep hb2)
    have T2 : Hid (Turn E.own w w2) := T1.out.below hb2
    clear cm cm1 hlk hmu cs1 hb2 S1 T1 ND
    have ca := S2.out.ca
    have crow : w2.cell? ⟨E.r, v, none⟩ = some (.bool (askedB cs M v)) := by
      rw [cell_of_row _ _ _ _ _ _ S2.out.row]
      unfold boolRow askedRow
      simp [hv']
    have frow : w2.frozen? ⟨E.r, v, none⟩ = false := frozen_of_row _ _ _ _ _ S2.out.row
    have cf := ((S2.out.tick H2.out IS.out EV.out).1).cf
    unfold MEnv.fv ptrV at cf
    go_wp2_with fail
    clear cf
    obtain ⟨s3, t3⟩ := S2.out.tick H2.out IS.out EV.out
    have cl3 : ClosedAt cs (k :: M) (c.asks + 1) := shut_cons IS.out CL.out
    have C1 := Lib.hid (IH.out _ HL.out (k :: M) _ c.low cl s3 IL.out (Nat.le_refl _) (cl3.mono LL.out))
    have T3 : Hid (Turn E.own w _) := T2.out.trans t3 fun i hi => .inl hi
    have CL3 := Lib.hid cl3
    clear crow frow ca s3 t3 cl3 S2 T2
    refine C1.out.mono ?_
    rintro e w4 ⟨M1, rfl, g1, s4, t4⟩
    have G1 := Lib.hid g1
    have S4 := Lib.hid s4
    have T4 : Hid (Turn E.own w w4) := T3.out.trans t4 fun i hi => .inl hi
    clear g1 s4 t4 C1 T3
    have cf := S4.out.cf
    unfold MEnv.fv ptrV at cf
    go_wp2_with fail
    clear cf
    have C2 := Lib.hid (IH.out _ HH.out M1 _ c.high ch S4.out IHH.out (Nat.le_refl _) ((G1.out.shut CL3.out).mono LH.out))
    refine C2.out.mono ?_
    rintro e w5 ⟨M2, rfl, g2, s5, t5⟩
    have G2 := Lib.hid g2
    have S5 := Lib.hid s5
    have T5 : Hid (Turn E.own w w5) := T4.out.trans t5 fun i hi => .inl hi
    clear g2 s5 t5 C2 T4
    go_wp2_with fail
    go_end0
    exact ⟨M2, rfl, Got.pre H2.out IS.out G1.out G2.out, S5.out, T5.out⟩
end Go.Proofs.Ytkmffmlnondolaa

/- Layer 6 (count): rows of numbers in memory. -/
namespace Go.Proofs.Ytkmffmlnondolaa
open Go.ChangeShapes Go.WideShapes Go.ChangeAt Go.RowKit Go.Maps

def nats (l : List Nat) : List Value := l.map fun (x : Nat) => .int .i64 (x : Int)
theorem nats_len (l : List Nat) : (nats l).length = l.length := by simp [nats]
theorem nats_get {l : List Nat} {i x : Nat} (h : l[i]? = some x) : (nats l)[i]? = some (.int .i64 (x : Int)) := by simp [nats, h]

/-- A row of ints that is the call's own. -/
abbrev NRow (w : World) (B : Nat) (v : Value) (l : List Nat) : Prop := w.ownsRow B 3 1 v l.length (nats l)

theorem NRow.rd {w : World} {B : Nat} {v : Value} {l : List Nat} (h : NRow w B v l) : ∃ A c, v = .slice A l.length c ∧ Rd w A (nats l) ∧ ∀ b off, A = some ⟨b, off, none⟩ → B ≤ b := by
  rcases h.2 with ⟨rfl, hx⟩ | ⟨g, cap, cur, rfl, hg, hr, hc, hm, hs, ht⟩
  · have hl : l = [] := List.eq_nil_of_length_eq_zero hx
    subst hl
    exact ⟨none, 0, rfl, .inl rfl, fun b off e => by cases e⟩
  · refine ⟨_, _, rfl, .inr ⟨g, 0, rfl, ?_, fun j u hu => ?_⟩, fun b off e => by injection e with e; injection e with e; omega⟩
    · rcases Nat.lt_or_ge g w.heap.size with h1 | h1
      · exact h1
      · rw [Array.getElem?_eq_none h1] at hr; cases hr
    · rw [Nat.zero_add]
      have hj : j < l.length := by
        have := (List.getElem?_eq_some_iff.1 hu).1
        simpa [nats] using this
      rw [← ht, List.getElem?_take, if_pos (by omega), Array.getElem?_toList] at hu
      unfold World.cell?
      rw [hr]
      exact hu
theorem NRow.keep {w w' : World} {B : Nat} {v : Value} {l : List Nat} (h : NRow w B v l) (hb : Below w.heap.size w w') : NRow w' B v l := by
  refine ⟨h.1, ?_⟩
  rcases h.2 with hx | ⟨g, cap, cur, rfl, hg, hr, hc⟩
  · exact .inl hx
  · refine .inr ⟨g, cap, cur, rfl, hg, (hb.block g ?_).trans hr, hc⟩
    rcases Nat.lt_or_ge g w.heap.size with h1 | h1
    · exact h1
    · rw [Array.getElem?_eq_none h1] at hr; cases hr
theorem NRow.nil (w : World) (B : Nat) : NRow w B (.slice none 0 0) [] := World.ownsRow_nil _ _ _ _
theorem NRow.lower {w : World} {B B' : Nat} {v : Value} {l : List Nat} (h : NRow w B v l) (hb : B' ≤ B) : NRow w B' v l := by
  refine ⟨h.1, ?_⟩
  rcases h.2 with hx | ⟨g, cap, cur, e, hg, hr⟩
  · exact .inl hx
  · exact .inr ⟨g, cap, cur, e, Nat.le_trans hb hg, hr⟩

theorem info_intC : (Try.prog.info? 3).map (fun i => (i.zero, i.size, i.bytes)) = some (some (.int .i64 0), 1, 8) := by kernel_rfl
theorem info_boolC : (Try.prog.info? 4).map (fun i => (i.zero, i.size, i.bytes)) = some (some (.bool false), 1, 1) := by kernel_rfl

theorem run_make_bools (N : Nat) (hN : N ≤ 1000000) (w : World) :
    (Instr.makeSlice 95 (.int .i64 (N : Int)) (.int .i64 (N : Int))).run Try.prog w = .ok (.slice (some ⟨w.heap.size, 0, none⟩) N N) (w.alloc (.cells (Array.replicate N (Value.bool false)) 4)) := by
  obtain ⟨i, hi, hz, hz1, hz2⟩ := info_parts info_boolC
  have hb : (i.bytes : Int) * (N : Int) ≤ 281474976710656 := by rw [hz2]; omega
  have hr := run_make (P := Try.prog) w 95 4 i _ Try.underlying95 hi hz .i64 .i64 N N (by omega) (by omega) hb (by omega)
  rw [hz1] at hr
  simp only [Int.toNat_natCast] at hr
  rw [Nat.mul_one] at hr
  have e : ∀ v : Value, Array.replicate N v = (List.replicate N v).toArray := fun v => by simp
  rw [e, ← toList_madeCells_one, Array.toArray_toList]
  exact hr
theorem run_make_ints (N : Nat) (hN : N ≤ 1000000) (w : World) :
    (Instr.makeSlice 27 (.int .i64 (N : Int)) (.int .i64 (N : Int))).run Try.prog w = .ok (.slice (some ⟨w.heap.size, 0, none⟩) N N) (w.alloc (.cells (Array.replicate N (Value.int .i64 0)) 3)) := by
  obtain ⟨i, hi, hz, hz1, hz2⟩ := info_parts info_intC
  have hb : (i.bytes : Int) * (N : Int) ≤ 281474976710656 := by rw [hz2]; omega
  have hr := run_make (P := Try.prog) w 27 3 i _ Try.underlying27 hi hz .i64 .i64 N N (by omega) (by omega) hb (by omega)
  rw [hz1] at hr
  simp only [Int.toNat_natCast] at hr
  rw [Nat.mul_one] at hr
  have e : ∀ v : Value, Array.replicate N v = (List.replicate N v).toArray := fun v => by simp
  rw [e, ← toList_madeCells_one, Array.toArray_toList]
  exact hr
theorem at_newC {w : World} {n : Nat} (o : Obj) (h : w.heap.size = n) : (w.alloc o).heap[n]? = some o := by rw [← h]; exact heap_alloc_new w o
theorem at_oldC {w : World} {i : Nat} {x : Obj} (o : Obj) (h : w.heap[i]? = some x) : (w.alloc o).heap[i]? = some x := (Below.heap_alloc w o i ((Array.getElem?_eq_some_iff.1 h).1)).trans h
end Go.Proofs.Ytkmffmlnondolaa

/- Layer 6 (count): Asks. -/
namespace Go.Proofs.Ytkmffmlnondolaa
open Go.ChangeShapes Go.WideShapes Go.ChangeAt Go.RowKit Go.Maps

def AsksOut (V : Nat) (cs : List Nd) (k : Nat) (w : World) (e : Ending) (w' : World) : Prop :=
  ∃ v p, e = .returned (.tuple #[v, .int .i64 0]) ∧ NRow w' w.heap.size v ((List.range V).filter p) ∧ (∀ u, u < V → (p u = true ↔ ∃ j d, Part cs k j ∧ 2 ≤ j ∧ Is cs j d ∧ d.asks = u)) ∧ Below w.heap.size w w'

theorem asked_got {cs : List Nd} {k : Nat} {M : List Nat} (g : Got cs [1, 0] k M) (u : Nat) : askedB cs M u = true ↔ ∃ j d, Part cs k j ∧ 2 ≤ j ∧ Is cs j d ∧ d.asks = u := by
  rw [askedB_iff g.is]
  constructor
  · rintro ⟨x, d, hx, h2, hd, e⟩
    rcases (g.mem x).1 hx with h | p
    · simp at h; omega
    · exact ⟨x, d, p, h2, hd, e⟩
  · rintro ⟨j, d, p, h2, hd, e⟩
    exact ⟨j, d, (g.mem j).2 (.inr p), h2, hd, e⟩

theorem shut_base (cs : List Nd) (a : Int) : ClosedAt cs [1, 0] a := fun x _ hx h2 => by simp at hx; omega

theorem filt_succ (p : Nat → Bool) (i : Nat) : (List.range (i + 1)).filter p = (List.range i).filter p ++ if p i then [i] else [] := by
  rw [List.range_succ, List.filter_append]
  simp only [List.filter_cons, List.filter_nil]
theorem filt_len (p : Nat → Bool) (i : Nat) : ((List.range i).filter p).length ≤ i := Nat.le_trans (List.length_filter_le _ _) (by simp)

theorem asks_world {w w1 w2 w3 : World} {m : Mem} {h : Hd} {cs : List Nd} (s : St w1 m h cs) (hlt : w.heap.size < w1.heap.size) (cs1 : w1.cell? ⟨w.heap.size, 0, none⟩ = some (.pointer (some ⟨m.s, 0, none⟩)))
    (k2 : KSet w3 (w1.heap.size + 1 + 1) [1, 0])
    (t1 : Turn (fun i => i = ((w1.alloc (.cells (Array.replicate h.V (Value.bool false)) 4)).alloc (.cells #[.slice (some ⟨w1.heap.size, 0, none⟩) h.V h.V] 95)).heap.size) (((w1.alloc (.cells (Array.replicate h.V (Value.bool false)) 4)).alloc (.cells #[.slice (some ⟨w1.heap.size, 0, none⟩) h.V h.V] 95)).alloc (.map #[] 0)) w2)
    (t2 : Turn (fun i => i = ((w1.alloc (.cells (Array.replicate h.V (Value.bool false)) 4)).alloc (.cells #[.slice (some ⟨w1.heap.size, 0, none⟩) h.V h.V] 95)).heap.size) w2 w3) :
    MSt ⟨w3.heap.size, w.heap.size, w1.heap.size + 1, w3.heap.size + 1, w1.heap.size + 1 + 1, w1.heap.size⟩ m h cs [1, 0] [1, 0]
      ((w3.alloc (.cells #[.map (some (w1.heap.size + 1 + 1))] 96)).alloc (.cells #[MEnv.fv ⟨w3.heap.size, w.heap.size, w1.heap.size + 1, w3.heap.size + 1, w1.heap.size + 1 + 1, w1.heap.size⟩] 97)) := by
  have z1 := t1.size
  have z2 := t2.size
  simp only [World.size_alloc] at z1 z2 t1 t2
  have t3 := t1.trans t2 fun i e => .inl e
  have b3 : Below w1.heap.size w1 ((w1.alloc (.cells (Array.replicate h.V (Value.bool false)) 4)).alloc (.cells #[.slice (some ⟨w1.heap.size, 0, none⟩) h.V h.V] 95)) := ((Below.refl _ _).alloc (by omega) _).alloc (by simp) _
  have b4 := b3.alloc (by simp; omega) (.map #[] 0)
  have b5 := Turn.to_below b4 t3 (fun i e => by rw [e]; omega) (by simp; omega)
  have b6 : Below w3.heap.size w3 ((w3.alloc (.cells #[.map (some (w1.heap.size + 1 + 1))] 96)).alloc (.cells #[MEnv.fv ⟨w3.heap.size, w.heap.size, w1.heap.size + 1, w3.heap.size + 1, w1.heap.size + 1 + 1, w1.heap.size⟩] 97)) := ((Below.refl _ _).alloc (by omega) _).alloc (by simp) _
  have own := s.own_lt
  have r1 : w3.heap[w1.heap.size]? = some (.cells (Array.replicate h.V (Value.bool false)) 4) := (t3.block _ (by simp; omega) (by omega)).trans (at_oldC _ (at_oldC _ (heap_alloc_new w1 _)))
  have r2 : w3.heap[w1.heap.size + 1]? = some (.cells #[.slice (some ⟨w1.heap.size, 0, none⟩) h.V h.V] 95) := (t3.block _ (by simp) (by omega)).trans (at_oldC _ (at_newC _ (by simp)))
  refine ⟨(s.keep b5).keep b6, k2.keep b6, ?_, ?_, ?_, ?_, ?_, ?_, ?_, by simp, ?_⟩
  · rw [askedRow_base, at_oldC _ (at_oldC _ r1)]
    unfold boolRow
    simp
  · exact cell_of_row _ _ 0 _ _ _ (at_oldC _ (heap_alloc_new w3 _))
  · rw [b6.cell (by show w.heap.size < _; have := b5.size; omega), b5.cell (by show w.heap.size < _; omega)]
    exact cs1
  · exact cell_of_row _ _ 0 _ _ _ (at_oldC _ (at_oldC _ r2))
  · exact cell_of_row _ _ 0 _ _ _ (at_newC _ (by simp))
  · rintro i hi (e | e)
    · have := own i hi; have e : i = w1.heap.size + 1 + 1 := e; omega
    · have := own i hi; have e : i = w1.heap.size := e; omega
  · show _ ≠ _ ∧ _ ≠ _ ∧ _ ≠ _ ∧ _ ≠ _
    simp only
    omega
  · intro x hx
    simp at hx
    rcases hx with rfl | rfl
    · obtain ⟨p, i1⟩ := s.good.is1; exact ⟨_, i1⟩
    · obtain ⟨p, i0⟩ := s.good.is0; exact ⟨_, i0⟩

set_option maxRecDepth 100000 in
set_option maxHeartbeats 4000000 in
theorem asks_any {w : World} {m : Mem} {h : Hd} {cs : List Nd} (s : St w m h cs) {k : Nat} {c : Nd} (hk : Is cs k c) :
    Calls Try.prog 24 #[ptrV m.s, .int .i64 (k : Int)] w (AsksOut h.V cs k w) := by
  have b0 : Below w.heap.size w (w.alloc (.cells #[ptrV m.s] 22)) := (Below.refl _ _).alloc (Nat.le_refl _) _
  have RF := Lib.hid (cref_yes (s.keep b0) hk)
  have S := Lib.hid s
  have IS := Lib.hid hk
  have B0 := Lib.hid b0
  have hV := s.V
  have hmk := run_make_bools h.V (by omega)
  clear s hk b0
  have hmf : ∀ (fn : Fn) (first cap : Array Value) (w : World), (Instr.makeFunc fn first cap).run Try.prog w = .ok (.func fn first cap) w := fun _ _ _ _ => rfl
  have hmm := @run_makeMap Try.prog
  unfold ptrV at *
  go_enter Try.func24, Try.ntmps24
  go_wp2_with fail
  refine RF.out.mono ?_
  rintro e w1 ⟨rfl, hb1⟩
  have S1 := Lib.hid ((S.out.keep B0.out).keep hb1)
  have B1 : Hid (Below w.heap.size w w1) := B0.out.trans (hb1.mono B0.out.size)
  have hlt1 : Hid (w.heap.size < w1.heap.size) := by show _ < _; have := hb1.size; simp at this; omega
  have cs1 : w1.cell? ⟨w.heap.size, 0, none⟩ = some (.pointer (some ⟨m.s, 0, none⟩)) := by
    rw [hb1.cell (by simp)]
    exact cell_of_row _ _ 0 _ _ _ (heap_alloc_new w _)
  have VS := Lib.hid (vars_store S1.out.lay)
  clear hb1 RF
  unfold ptrV at *
  go_wp2_with fail
  refine VS.out.mono ?_
  rintro e w' ⟨rfl, rfl⟩
  clear VS
  -- the set of 0 and 1
  have k0 := KSet.made ((w1.alloc (.cells (Array.replicate h.V (Value.bool false)) 4)).alloc (.cells #[.slice (some ⟨w1.heap.size, 0, none⟩) h.V h.V] 95))
  obtain ⟨w2, hr0, k1, t1⟩ := k0.add (k := 0) (by omega) (by simp)
  obtain ⟨w3, hr1, k2, t2⟩ := k1.add (k := 1) (by omega) (by simp)
  change Sem.run _ (Instr.mapUpdate _ _ (.int .i64 0) _) _ = _ at hr0
  change Sem.run _ (Instr.mapUpdate _ _ (.int .i64 1) _) _ = _ at hr1
  simp only [World.size_alloc] at hr0 hr1 k2
  obtain ⟨E, hE⟩ : ∃ E : MEnv, E = ⟨w3.heap.size, w.heap.size, w1.heap.size + 1, w3.heap.size + 1, w1.heap.size + 1 + 1, w1.heap.size⟩ := ⟨_, rfl⟩
  have S0 := Lib.hid (asks_world S1.out hlt1.out cs1 k2 t1 t2)
  obtain ⟨i0, hi, hz0, hz1, hz2⟩ := info_parts info_intC
  have HS := Lib.hid (hE.symm)
  rw [hE.symm] at S0
  have B3 : Hid (Below w.heap.size w ((w3.alloc (.cells #[.map (some (w1.heap.size + 1 + 1))] 96)).alloc (.cells #[E.fv] 97))) := by
    show Below _ _ _
    have hl := hlt1.out
    have z1 := t1.size
    have z2 := t2.size
    simp only [World.size_alloc] at z1 z2
    have b3 : Below w.heap.size w ((w1.alloc (.cells (Array.replicate h.V (Value.bool false)) 4)).alloc (.cells #[.slice (some ⟨w1.heap.size, 0, none⟩) h.V h.V] 95)) := (B1.out.alloc (by omega) _).alloc (by simp; omega) _
    have b4 := b3.alloc (by simp; omega) (.map #[] 0)
    have b5 := Turn.to_below b4 t1 (fun i e => by rw [e]; simp; omega) (by simp; omega)
    have b6 := Turn.to_below b5 t2 (fun i e => by rw [e]; simp; omega) (by omega)
    exact (b6.alloc (by omega) _).alloc (by simp; omega) _
  have CM := Lib.hid (cmark_any h.V [1, 0] _ k c S0.out IS.out (by unfold rk; have := S1.out.good.range IS.out; omega) (shut_base cs _))
  have e1 : E.m = w3.heap.size := by rw [hE]
  have e2 : E.s = w.heap.size := by rw [hE]
  have e3 : E.a = w1.heap.size + 1 := by rw [hE]
  have e4 : E.f = w3.heap.size + 1 := by rw [hE]
  have ev : E.fv = .func (.func 46) #[] #[ptrV w3.heap.size, ptrV w.heap.size, ptrV (w1.heap.size + 1), ptrV (w3.heap.size + 1)] := by unfold MEnv.fv; rw [e1, e2, e3, e4]
  rw [ev, e1, e2, e3, e4] at CM
  have EE : Hid (E.a = w1.heap.size + 1 ∧ (w.heap.size < E.b ∧ w.heap.size < E.r)) := by
    have hl := hlt1.out
    rw [hE]
    exact ⟨rfl, by show _ < _ + 1 + 1; omega, by show _ < _; omega⟩
  rw [ev] at B3
  clear hE k0 k1 k2 t1 t2 e1 e2 e3 e4 S0 B1 HS ev S hlt1
  unfold ptrV at *
  go_wp2_with fail
  refine CM.out.mono ?_
  rintro e w4 ⟨M, rfl, g4, s4, t4⟩
  have S4 := Lib.hid s4
  have G4 := Lib.hid g4
  have B4 : Hid (Below w.heap.size w w4) := Turn.to_below B3.out t4 (fun i e => by have := EE.out.2; rcases e with rfl | rfl <;> omega) B3.out.size
  clear g4 t4 s4 CM hr0 hr1 cs1 hmf hmm hmk
  have ca := S4.out.ca
  rw [EE.out.1] at ca
  have hV' : (h.V : Int) ≤ 256 := by omega
  go_wp2_with fail
  go_loopw [10, 11, 31] (fun lv _ iv wr => ∃ j : Nat, j ≤ h.V ∧ iv = .int .i64 j ∧ NRow wr w4.heap.size lv ((List.range j).filter (askedB cs M)) ∧ Below w4.heap.size w4 wr) (fun _ _ iv _ => h.V - (intOf iv).toNat)
  case atStart => exact ⟨0, Nat.zero_le _, rfl, NRow.nil _ _, Below.refl _ _⟩
  case round =>
    obtain ⟨j, hj, rfl, hown, hbel⟩ := hrel
    have hlf := filt_len (askedB cs M) j
    have s5 := S4.out.keep hbel
    have ca := s5.ca
    rw [EE.out.1] at ca
    by_cases hlt : j < h.V
    · have hlt' : (j : Int) < h.V := by omega
      have crow : wr.cell? ⟨E.r, j, none⟩ = some (.bool (askedB cs M j)) := by
        rw [cell_of_row _ _ _ _ _ _ s5.row]
        unfold boolRow askedRow
        simp [hlt]
      cases hb : askedB cs M j with
      | true =>
        rw [hb] at crow
        have LS : Hid ((List.range (j + 1)).filter (askedB cs M) = (List.range j).filter (askedB cs M) ++ [j]) := by show _ = _; rw [filt_succ, hb, if_pos rfl]
        have hsz := hbel.size
        clear hb s5
        go_wp2_with (at_builtin; refine wpList_append_own _ rfl _ _ 27 rfl w4.heap.size 3 i0 (.int .i64 0) 1 8 Try.underlying27 hi hz0 hz1 hz2 rfl (by decide) _ _ _ rfl (hown.alloc _) ⟨wr.heap.size, 0, none⟩ 1 1 [.int .i64 (j : Int)] rfl rfl ?c1 ?c2 ?c3 ?c4 ?c5 ?_)
        case c1 =>
          intro i u hu
          match i, hu with
          | 0, hu => simp at hu; subst hu; simp [Addr.add]
        case c2 => intro u hu; simp at hu; subst hu; rfl
        case c3 => unfold maxLen; omega
        case c4 => omega
        case c5 => simp; omega
        intro v' w5 hown' hgrow _
        have HO : Hid (NRow w5 w4.heap.size v' ((List.range (j + 1)).filter (askedB cs M))) := Lib.hid (by
          rw [LS.out]
          show w5.ownsRow _ _ _ v' ((List.range j).filter (askedB cs M) ++ [j]).length (((List.range j).filter (askedB cs M) ++ [j]).map fun (x : Nat) => Value.int .i64 (x : Int))
          simpa [nats] using hown')
        have hb1 : Below w4.heap.size w4 w5 := (hbel.alloc (by omega) _).grown hgrow (by simp; omega) (by
          intro g hg
          rcases hown.2 with ⟨rfl, _⟩ | ⟨g', cap, cur, rfl, hb, _⟩
          · simp [Value.ownBlock] at hg
          · simp [Value.ownBlock] at hg; omega)
        clear hown' hgrow hown hbel hlf
        go_wp2_with fail
        go_roundw
        case rel => exact ⟨j + 1, by omega, by go_num, HO.out, hb1⟩
        case measure => simp [intOf]; omega
      | false =>
        rw [hb] at crow
        have e : (List.range (j + 1)).filter (askedB cs M) = (List.range j).filter (askedB cs M) := by rw [filt_succ, hb, if_neg (by simp), List.append_nil]
        rw [← e] at hown
        have HO := Lib.hid hown
        clear hb hown hlf e s5
        go_wp2_with fail
        go_roundw
        case rel => exact ⟨j + 1, by omega, by go_num, HO.out, hbel⟩
        case measure => simp [intOf]; omega
    · obtain rfl : j = h.V := by omega
      have HO := Lib.hid hown
      have HB := Lib.hid hbel
      clear hown hlf s5 hbel
      go_wp2_with fail
      go_ret2
      exact ⟨_, _, rfl, HO.out.lower B4.out.size, fun u _ => asked_got G4.out u, B4.out.trans (HB.out.mono B4.out.size)⟩

set_option maxRecDepth 100000 in
theorem asks_no {w : World} {m : Mem} {h : Hd} {cs : List Nd} (s : St w m h cs) {k : Int} (hk : thereB cs k = false) :
    Calls Try.prog 24 #[ptrV m.s, .int .i64 k] w fun e w' => e = .returned (.tuple #[.slice none 0 0, .int .i64 3]) ∧ Below w.heap.size w w' := by
  have b0 : Below w.heap.size w (w.alloc (.cells #[ptrV m.s] 22)) := (Below.refl _ _).alloc (Nat.le_refl _) _
  have RF := Lib.hid (cref_no (s.keep b0).lay k hk)
  have B0 := Lib.hid b0
  clear s hk b0
  unfold ptrV at *
  go_enter Try.func24, Try.ntmps24
  go_wp2_with fail
  refine RF.out.mono ?_
  rintro e w1 ⟨rfl, rfl⟩
  clear RF
  go_wp2_with fail
  go_ret2
  exact ⟨rfl, B0.out⟩
set_option maxRecDepth 100000 in
theorem asks_nbs {w : World} {p : Option Addr} (s : ∀ w', Below w.heap.size w w' → NBs w' (.pointer p)) (k : Int) :
    Calls Try.prog 24 #[.pointer p, .int .i64 k] w fun e w' => e = .returned (.tuple #[.slice none 0 0, .int .i64 1]) ∧ Below w.heap.size w w' := by
  have b0 : Below w.heap.size w (w.alloc (.cells #[.pointer p] 22)) := (Below.refl _ _).alloc (Nat.le_refl _) _
  have RF := Lib.hid (cref_nbs (s _ b0) k)
  have B0 := Lib.hid b0
  clear s b0
  go_enter Try.func24, Try.ntmps24
  go_wp2_with fail
  refine RF.out.mono ?_
  rintro e w1 ⟨rfl, rfl⟩
  clear RF
  go_wp2_with fail
  go_ret2
  exact ⟨rfl, B0.out⟩
end Go.Proofs.Ytkmffmlnondolaa

/- Layer 6 (count): places: of each variable how many of a list are earlier. -/
namespace Go.Proofs.Ytkmffmlnondolaa
open Go.ChangeShapes Go.WideShapes Go.ChangeAt Go.RowKit Go.Maps

def rowOf (n : Nat) (f : Nat → Int) : Array Value := ((List.range n).map fun i => Value.int .i64 (f i)).toArray
theorem rowOf_get {n i : Nat} (f : Nat → Int) (h : i < n) : (rowOf n f)[i]? = some (.int .i64 (f i)) := by unfold rowOf; simp [h]
theorem rowOf_congr {n : Nat} {f g : Nat → Int} (h : ∀ i, i < n → f i = g i) : rowOf n f = rowOf n g := by
  unfold rowOf
  congr 1
  exact List.map_congr_left fun i hi => by rw [h i (List.mem_range.1 hi)]
theorem rowOf_set {n i : Nat} (f : Nat → Int) (x : Int) : (rowOf n f).setIfInBounds i (.int .i64 x) = rowOf n (fun j => if j = i then x else f j) := by
  unfold rowOf
  rw [List.setIfInBounds_toArray]
  congr 1
  refine List.ext_getElem? fun j => ?_
  by_cases h : j < n
  · by_cases e : i = j
    · subst e; rw [List.getElem?_set_self (by simpa using h)]; simp [h]
    · rw [List.getElem?_set_ne e]
      have e' : ¬ j = i := fun x => e x.symm
      simp [h, e']
  · rw [List.getElem?_eq_none (by simp; omega), List.getElem?_eq_none (by simp; omega)]
theorem rowOf_zero (n : Nat) : Array.replicate n (Value.int .i64 0) = rowOf n (fun _ => 0) := by
  unfold rowOf
  rw [← List.toArray_replicate]
  congr 1
  refine List.ext_getElem? fun j => ?_
  rw [List.getElem?_replicate, List.getElem?_map]
  by_cases h : j < n
  · rw [if_pos h, List.getElem?_range h]; rfl
  · rw [if_neg h, List.getElem?_eq_none (by simp; omega)]; rfl

def castL (ys : List Nat) : List Int := ys.map fun (x : Nat) => (x : Int)
def intsC (L : List Int) : List Value := L.map (Value.int .i64)
/-- The variables that a list names, each one of the store, none twice. -/
structure Lists (V : Nat) (L : List Int) (ys : List Nat) : Prop where
  eq : L = castL ys
  nodup : ys.Nodup
  lt : ∀ x ∈ ys, x < V

theorem castL_inj : ∀ {a b : List Nat}, castL a = castL b → a = b
  | [], [], _ => rfl
  | [], y :: b, h => by simp [castL] at h
  | x :: a, [], h => by simp [castL] at h
  | x :: a, y :: b, h => by
    simp only [castL, List.map_cons, List.cons.injEq] at h
    rw [castL_inj (a := a) (b := b) h.2, show x = y by omega]
theorem castL_len (a : List Nat) : (castL a).length = a.length := by simp [castL]
theorem castL_take (a : List Nat) (i : Nat) : (castL a).take i = castL (a.take i) := by simp [castL, List.map_take]

theorem Lists.next {V : Nat} {L : List Int} {ys : List Nat} {i v : Nat} (h : Lists V (L.take i) ys) (hi : L[i]? = some (v : Int)) (hv : v < V) (hn : v ∉ ys) : Lists V (L.take (i + 1)) (ys ++ [v]) := by
  refine ⟨?_, List.nodup_append.2 ⟨h.nodup, by simp, fun a ha b hb => by simp at hb; subst hb; rintro rfl; exact hn ha⟩, fun x hx => ?_⟩
  · rw [List.take_add_one, hi, h.eq]; simp [castL]
  · rcases List.mem_append.1 hx with hx | hx
    · exact h.lt x hx
    · simp at hx; omega
theorem Lists.bad {V : Nat} {L : List Int} {ys : List Nat} {i : Nat} {x : Int} (h : Lists V (L.take i) ys) (hi : L[i]? = some x) (hb : x < 0 ∨ (V : Int) ≤ x ∨ ∃ v : Nat, x = v ∧ v ∈ ys) : ¬ ∃ zs, Lists V L zs := by
  rintro ⟨zs, hz⟩
  have e : ys = zs.take i := castL_inj (by rw [← castL_take, ← hz.eq]; exact h.eq.symm)
  have hzi : ∃ v, zs[i]? = some v ∧ x = (v : Int) := by
    rw [hz.eq] at hi
    unfold castL at hi
    rw [List.getElem?_map] at hi
    cases hc : zs[i]? with
    | none => rw [hc] at hi; cases hi
    | some v => rw [hc] at hi; injection hi with hi; exact ⟨v, rfl, hi.symm⟩
  obtain ⟨v, hv, rfl⟩ := hzi
  have hlt := hz.lt v (List.mem_of_getElem? hv)
  rcases hb with h1 | h1 | ⟨u, h1, h2⟩
  · omega
  · omega
  · have hu : u = v := by omega
    subst hu
    rw [e] at h2
    obtain ⟨j, hj, hj2⟩ := List.mem_iff_getElem.1 h2
    have hj3 : j < i := by simp at hj; omega
    have h3 : zs[j]? = some u := by
      rw [← hj2, List.getElem_take]
      exact List.getElem?_eq_getElem _
    have := (List.getElem?_inj (by have := (List.getElem?_eq_some_iff.1 h3).1; exact this) hz.nodup).1 (h3.trans hv.symm)
    omega

def listedF (ys : List Nat) (v : Nat) : Int := if v ∈ ys then 1 else 0
def aheadF (ys : List Nat) (i v : Nat) : Int := if v ≤ i then (aheadN ys v : Nat) else 0

theorem aheadF_zero (ys : List Nat) (i : Nat) : aheadF ys 0 i = 0 := by
  unfold aheadF
  split
  · rename_i h
    obtain rfl : i = 0 := by omega
    rw [aheadN_zero]; rfl
  · rfl
theorem aheadF_sum {ys : List Nat} (h : ys.Nodup) (i : Nat) : aheadF ys i i + listedF ys i = aheadF ys (i + 1) (i + 1) := by
  unfold aheadF listedF
  rw [if_pos (Nat.le_refl _), if_pos (Nat.le_refl _), aheadN_succ h]
  split <;> simp
theorem aheadF_next (ys : List Nat) (i j : Nat) : (if j = i + 1 then aheadF ys (i + 1) (i + 1) else aheadF ys i j) = aheadF ys (i + 1) j := by
  by_cases e : j = i + 1
  · subst e; rw [if_pos rfl]
  · rw [if_neg e]
    unfold aheadF
    by_cases h : j ≤ i
    · rw [if_pos h, if_pos (by omega)]
    · rw [if_neg h, if_neg (by omega)]
theorem Lists.len {V : Nat} {L : List Int} {ys : List Nat} (h : Lists V L ys) : ys.length ≤ V := by
  have := sub_length ys (List.range V) h.nodup fun x hx => List.mem_range.2 (h.lt x hx)
  simpa using this
theorem aheadF_small {V : Nat} {L : List Int} {ys : List Nat} (h : Lists V L ys) (i : Nat) : 0 ≤ aheadF ys i i ∧ aheadF ys i i ≤ V ∧ 0 ≤ listedF ys i ∧ listedF ys i ≤ 1 := by
  have h1 := aheadN_le ys i
  have h2 := h.len
  unfold aheadF listedF
  rw [if_pos (Nat.le_refl _)]
  refine ⟨by omega, by omega, ?_, ?_⟩ <;> split <;> omega

def PlacesOut (V : Nat) (L : List Int) (w : World) (e : Ending) (w' : World) : Prop :=
  (∃ ys a, Lists V L ys ∧ e = .returned (.tuple #[.slice (some ⟨a, 0, none⟩) (V + 1) (V + 1), .int .i64 0]) ∧ w'.heap[a]? = some (.cells (rowOf (V + 1) fun v => (aheadN ys v : Nat)) 3) ∧ Below w.heap.size w w' ∧ w.heap.size ≤ a) ∨
  ((¬ ∃ ys, Lists V L ys) ∧ e = .returned (.tuple #[.slice none 0 0, .int .i64 1]) ∧ Below w.heap.size w w')

theorem set_below {B : Nat} {w w1 : World} (h : Below B w w1) {a : Nat} (ha : B ≤ a) (o : Nat) (v : Value) : Below B w (w1.setCell ⟨a, o, none⟩ v) :=
  ⟨h.os, h.tape, h.output, by simpa [World.setCell] using h.size, fun i hi => (Below.heap_setCell w1 ⟨a, o, none⟩ v i (by show i ≠ a; omega)).trans (h.block i hi)⟩

set_option maxRecDepth 100000 in
set_option maxHeartbeats 4000000 in
theorem places_any {w : World} {sv : Value} {V : Nat} (hV : V ≤ 256) (VC : Calls Try.prog 44 #[sv] w fun e w' => e = .returned (.int .i64 (V : Int)) ∧ w = w') {A : Option Addr} {L : List Int} {cap : Nat} (hr : Rd w A (intsC L)) (hl : L.length ≤ 1000) :
    Calls Try.prog 23 #[sv, .slice A L.length cap] w (PlacesOut V L w) := by
  have hmk := run_make_ints V (by omega)
  have hmk2 := run_make_ints (V + 1) (by omega)
  have hmk2 : ∀ w : World, (Instr.makeSlice 27 (.int .i64 ((V : Int) + 1)) (.int .i64 ((V : Int) + 1))).run Try.prog w = .ok (.slice (some ⟨w.heap.size, 0, none⟩) (V + 1) (V + 1)) (w.alloc (.cells (Array.replicate (V + 1) (Value.int .i64 0)) 3)) := fun w => by
    have := hmk2 w
    simpa using this
  have HR := Lib.hid hr
  have VC := Lib.hid VC
  clear hr
  go_enter Try.func23, Try.ntmps23
  go_wp2_with fail
  refine VC.out.mono ?_
  rintro e w' ⟨rfl, rfl⟩
  clear VC
  go_wp2_with fail
  go_loopw [8, 17] (fun _ iv wr => ∃ (i : Nat) (ys : List Nat), i ≤ L.length ∧ iv = .int .i64 i ∧ Lists V (L.take i) ys ∧ wr.heap[w.heap.size]? = some (.cells (rowOf V (listedF ys)) 3) ∧ Below w.heap.size w wr) (fun _ iv _ => L.length - (intOf iv).toNat)
  case atStart =>
    refine ⟨0, [], Nat.zero_le _, rfl, ⟨by simp [castL], List.nodup_nil, by simp⟩, ?_, (Below.refl _ _).alloc (Nat.le_refl _) _⟩
    rw [heap_alloc_new, rowOf_zero]
    congr 1
  case round =>
    obtain ⟨i, ys, hi, rfl, hys, hrow, hbel⟩ := hrel
    by_cases hlt : i < L.length
    · have hlt' : (i : Int) < L.length := by omega
      obtain ⟨x, hx⟩ : ∃ x, L[i]? = some x := ⟨_, List.getElem?_eq_getElem hlt⟩
      rcases HR.out with hnil | ⟨b, off, rfl, hb, hc⟩
      · exfalso
        have : L = [] := by simpa [intsC] using hnil
        rw [this] at hlt
        simp at hlt
      have cx : wr.cell? ⟨b, off + i, none⟩ = some (.int .i64 x) := by
        rw [hbel.cell (by exact hb)]
        exact hc i _ (by simp [intsC, hx])
      have HYS := Lib.hid hys
      have HRW := Lib.hid hrow
      have HB := Lib.hid hbel
      have HX := Lib.hid hx
      clear hys hrow hbel hx hb hc HR hmk hmk2
      by_cases h0 : x < 0
      · have BAD := Lib.hid (HYS.out.bad HX.out (.inl h0))
        go_wp2_with fail
        go_ret2
        exact .inr ⟨BAD.out, rfl, HB.out⟩
      · obtain ⟨v, rfl⟩ : ∃ v : Nat, x = v := ⟨x.toNat, by omega⟩
        clear h0
        by_cases hv : v < V
        · have hv' : (v : Int) < V := by omega
          have cv : wr.cell? ⟨w.heap.size, v, none⟩ = some (.int .i64 (listedF ys v)) := by
            rw [cell_of_row _ _ _ _ _ _ HRW.out, rowOf_get _ hv]
          have fv : wr.frozen? ⟨w.heap.size, v, none⟩ = false := frozen_of_row _ _ _ _ _ HRW.out
          by_cases hm : v ∈ ys
          · have BAD := Lib.hid (HYS.out.bad HX.out (.inr (.inr ⟨v, rfl, hm⟩)))
            have e1 : listedF ys v = 1 := if_pos hm
            rw [e1] at cv
            clear e1 hm
            go_wp2_with fail
            go_ret2
            exact .inr ⟨BAD.out, rfl, HB.out⟩
          · have e1 : listedF ys v = 0 := if_neg hm
            have NX := Lib.hid (HYS.out.next HX.out hv hm)
            have RW : Hid (rowOf V (fun j => if j = v then 1 else listedF ys j) = rowOf V (listedF (ys ++ [v]))) := rowOf_congr fun j _ => by
              unfold listedF
              by_cases e : j = v
              · subst e; rw [if_pos rfl, if_pos (by simp)]
              · rw [if_neg e]; simp [e]
            rw [e1] at cv
            clear e1 hm
            go_wp2_with fail
            go_roundw
            case rel =>
              refine ⟨i + 1, _, by omega, by go_num, NX.out, ?_, set_below HB.out (Nat.le_refl _) _ _⟩
              rw [heap_setCell_same _ _ _ _ _ _ HRW.out, rowOf_set, RW.out]
            case measure => simp [intOf]; omega
        · have BAD := Lib.hid (HYS.out.bad HX.out (.inr (.inl (by omega))))
          have hv' : (V : Int) ≤ v := by omega
          clear hv
          go_wp2_with fail
          go_ret2
          exact .inr ⟨BAD.out, rfl, HB.out⟩
    · obtain rfl : i = L.length := by omega
      have HYS := Lib.hid hys
      have HRW := Lib.hid hrow
      have HB := Lib.hid hbel
      clear hys hrow hbel HR hmk
      go_wp2_with fail
      have NE : Hid (w.heap.size < wr.heap.size) := by
        show _ < _
        rcases Nat.lt_or_ge w.heap.size wr.heap.size with h1 | h1
        · exact h1
        · have := HRW.out; rw [Array.getElem?_eq_none h1] at this; cases this
      obtain ⟨wq, rfl⟩ : ∃ q, q = wr := ⟨wr, rfl⟩
      go_loopw [10, 11, 49] (fun _ _ iv w2 => ∃ i : Nat, i ≤ V ∧ iv = .int .i64 i ∧ w2.heap[w.heap.size]? = some (.cells (rowOf V (listedF ys)) 3) ∧ w2.heap[wq.heap.size]? = some (.cells (rowOf (V + 1) (aheadF ys i)) 3) ∧ Below w.heap.size w w2) (fun _ _ iv _ => V - (intOf iv).toNat)
      case atStart =>
        refine ⟨0, Nat.zero_le _, rfl, at_oldC _ HRW.out, ?_, HB.out.alloc HB.out.size _⟩
        rw [heap_alloc_new, rowOf_zero, rowOf_congr (g := aheadF ys 0) (fun i _ => (aheadF_zero ys i).symm)]
      case round =>
        obtain ⟨i, hi, rfl, hrow, hah, hbel⟩ := hrel
        by_cases hlt : i < V
        · have hlt' : (i : Int) < V := by omega
          have c1 : wr.cell? ⟨w.heap.size, i, none⟩ = some (.int .i64 (listedF ys i)) := by rw [cell_of_row _ _ _ _ _ _ hrow, rowOf_get _ hlt]
          have c2 : wr.cell? ⟨wq.heap.size, i, none⟩ = some (.int .i64 (aheadF ys i i)) := by rw [cell_of_row _ _ _ _ _ _ hah, rowOf_get _ (by omega)]
          have c3 : wr.cell? ⟨wq.heap.size, i + 1, none⟩ = some (.int .i64 (aheadF ys i (i + 1))) := by rw [cell_of_row _ _ _ _ _ _ hah, rowOf_get _ (by omega)]
          have f3 : wr.frozen? ⟨wq.heap.size, i + 1, none⟩ = false := frozen_of_row _ _ _ _ _ hah
          have hs : aheadF ys i i + listedF ys i = aheadF ys (i + 1) (i + 1) := aheadF_sum HYS.out.nodup i
          have hz := aheadF_small HYS.out i
          have HS := Lib.hid hs
          have HRW2 := Lib.hid hrow
          have HA := Lib.hid hah
          have HB2 := Lib.hid hbel
          obtain ⟨y1, z1, y2, z2⟩ := hz
          clear hrow hah hbel hs
          go_wp2_with fail
          go_roundw
          case rel =>
            refine ⟨i + 1, by omega, by go_num, ?_, ?_, set_below HB2.out HB.out.size _ _⟩
            · rw [heap_setCell_other _ _ _ _ (by show w.heap.size ≠ wq.heap.size; have := NE.out; omega)]; exact HRW2.out
            · rw [heap_setCell_same _ _ _ _ _ _ HA.out, rowOf_set, HS.out, rowOf_congr (g := aheadF ys (i + 1)) (fun j _ => aheadF_next ys i j)]
          case measure => simp [intOf]; omega
        · obtain rfl : i = V := by omega
          have HA := Lib.hid hah
          have HB2 := Lib.hid hbel
          clear hrow hah hbel
          go_wp2_with fail
          go_ret2
          refine .inl ⟨ys, wq.heap.size, ?_, rfl, ?_, HB2.out, HB.out.size⟩
          · have := HYS.out; rwa [List.take_length] at this
          · rw [HA.out, rowOf_congr (f := aheadF ys i) (fun j hj => if_pos (by omega))]
end Go.Proofs.Ytkmffmlnondolaa

/- Layer 6 (count): a map of numbers in memory. -/
namespace Go.Proofs.Ytkmffmlnondolaa
open Go.ChangeShapes Go.WideShapes Go.ChangeAt Go.RowKit Go.Maps

/-- Block b is a map that has of each number of l what F says. -/
structure KMap (w : World) (b : Nat) (l : List Nat) (F : Nat → Int) : Prop where
  own : ∃ D : DataW Unit, w.ownsMap Try.prog 3 (plainElem Try.prog 3) b l.length D ∧ (∀ k : Nat, Maps.has D (.int .i64 k) = decide (k ∈ l)) ∧ ∀ k : Nat, k ∈ l → D.atKey (.int .i64 (k : Int)) (.lit (.int .i64 0)) = .lit (.int .i64 (F k))
  nodup : l.Nodup
  lt : ∀ x ∈ l, x < 1048576

section
variable {w w' : World} {b : Nat} {l : List Nat} {F : Nat → Int}
theorem KMap.len (h : KMap w b l F) : l.length ≤ 1048576 := by
  have := sub_length l (List.range 1048576) h.nodup fun x hx => List.mem_range.2 (h.lt x hx)
  rw [List.length_range] at this
  exact this
theorem KMap.lt_b (h : KMap w b l F) : b < w.heap.size := by
  obtain ⟨D, h1, _⟩ := h.own; exact h1.lt
theorem KMap.of (h : KMap w b l F) (e : w'.heap[b]? = w.heap[b]?) : KMap w' b l F := by
  obtain ⟨D, ⟨es, clock, h1, h2⟩, h3⟩ := h.own
  exact ⟨⟨D, ⟨es, clock, e.trans h1, h2⟩, h3⟩, h.nodup, h.lt⟩
theorem KMap.keep (h : KMap w b l F) (hb : Below w.heap.size w w') : KMap w' b l F := h.of (hb.block _ h.lt_b)
theorem KMap.made (w : World) (F : Nat → Int) : KMap (w.alloc (.map #[] 0)) w.heap.size [] F :=
  ⟨⟨.map [], World.ownsMap_made _ _ _ _, fun k => by simp [Maps.has], fun k hk => by cases hk⟩, List.nodup_nil, fun x h => by cases h⟩
theorem KMap.not_row (h : KMap w b l F) {g : Nat} {cs : Array Value} {t : TypeId} {fr : Nat × Nat} (hc : w.heap[g]? = some (.cells cs t fr)) : g ≠ b := by
  obtain ⟨D, ⟨es, clock, h1, h2⟩, h3⟩ := h.own
  rintro rfl
  rw [hc] at h1
  cases h1
theorem KMap.not_cell (h : KMap w b l F) {t : Nat} {v : Value} (hc : w.cell? ⟨t, 0, none⟩ = some v) : t ≠ b := by
  obtain ⟨D, ⟨es, clock, h1, h2⟩, h3⟩ := h.own
  rintro rfl
  unfold World.cell? at hc
  rw [h1] at hc
  cases hc

theorem KMap.look (h : KMap w b l F) {k : Nat} (hk : k < 1048576) :
    (k ∈ l ∧ (Instr.lookup 52 (.map (some b)) (.int .i64 (k : Int)) true).run Try.prog w = .ok (.tuple #[.int .i64 (F k), .bool true]) w) ∨
    (k ∉ l ∧ ∃ z : Int, (Instr.lookup 52 (.map (some b)) (.int .i64 (k : Int)) true).run Try.prog w = .ok (.tuple #[.int .i64 z, .bool false]) w) := by
  obtain ⟨D, h1, h2, h3⟩ := h.own
  have hz : (zeroValue 3).run Try.prog w = .ok (.int .i64 0) w := by kernel_rfl
  obtain ⟨v, ps, hrun, hv⟩ := World.ownsMap.look_ok h1 lawInt Try.underlying52 hz (plainElem_int Try.underlying3 (a := 0) (by decide)) (keyInt k hk)
  obtain ⟨c, rfl, hc, _⟩ := plainElem_int_inv Try.underlying3 hv
  have hc := congrArg Prod.fst hc
  rw [h2] at hrun
  by_cases hin : k ∈ l
  · rw [decide_eq_true hin] at hrun
    have hc : D.atKey (.int .i64 (k : Int)) (.lit (.int .i64 0)) = .lit (.int .i64 c) := hc
    rw [h3 k hin] at hc
    injection hc with hc
    injection hc with _ hc
    subst hc
    exact .inl ⟨hin, hrun⟩
  · rw [decide_eq_false hin] at hrun
    exact .inr ⟨hin, c, hrun⟩

set_option maxRecDepth 100000 in
theorem KMap.add (h : KMap w b l F) {k : Nat} (hk : k < 1048576) (hn : k ∉ l) (h0 : 0 ≤ F k) (h1 : F k < 9223372036854775808) :
    ∃ w', (Instr.mapUpdate 52 (.map (some b)) (.int .i64 (k : Int)) (.int .i64 (F k))).run Try.prog w = .ok () w' ∧ KMap w' b (k :: l) F ∧ Turn (fun i => i = b) w w' := by
  obtain ⟨D, d1, d2, d3⟩ := h.own
  have hl := h.len
  obtain ⟨w', hrun, r1, r2⟩ := World.ownsMap.update d1 lawInt Try.underlying52 (by unfold maxLen; omega) (keyInt k hk) (plainElem_int Try.underlying3 (a := F k) (WalkArith.wf_i64 (by omega)))
  have ht : Turn (fun i => i = b) w w' := (Turn.refl _ w).grown r2 (fun i e => .inl (by injection e with e; exact e.symm))
  have hi := d1.isMap
  refine ⟨w', hrun, ⟨⟨_, r1, fun j => ?_, fun j hj => ?_⟩, List.nodup_cons.2 ⟨hn, h.nodup⟩, ?_⟩, ht⟩
  · by_cases e : j = k
    · subst e; rw [has_put_same hi (by simp [WideAt.IsKeyLit])]; simp
    · rw [has_put_other (by simp; omega), d2]; simp [e]
  · by_cases e : j = k
    · subst e; exact Maps.atKey_put_same hi (lawInt.key (keyInt j hk)) _ _
    · have e' : (Lit.int .i64 (j : Int)) ≠ .int .i64 (k : Int) := by simp; omega
      refine (Maps.atKey_put_other e' _ _).trans (d3 j ?_)
      rcases List.mem_cons.1 hj with h | h
      · exact absurd h e
      · exact h
  · intro x hx
    rcases List.mem_cons.1 hx with rfl | hx
    · exact hk
    · exact h.lt x hx
end
end Go.Proofs.Ytkmffmlnondolaa

/- Contracts of the counts of layer 1 (bits): count, Add, Mul, Pow; and the law BitsTurns, BitsCounts. -/
namespace Go.Proofs.Ytkmffmlnondolaa
open Go.ChangeShapes Go.WideShapes Go.ChangeAt Go.RowKit

theorem ret_intC {k : IntKind} {a b : Int} (h : a = b) : Ending.returned (.int k a) = .returned (.int k b) := by rw [h]

theorem bits_count_any (n : Int) (w : World) :
    Calls Try.prog 48 #[.int .i64 n] w fun e w' => e = .returned (.int .i64 (clip n)) ∧ w = w' := by
  by_cases h : n < 0
  · go_enter Try.func48, Try.ntmps48
    go_wp2
    all_goals
      go_ret
      exact ⟨ret_intC (by unfold clip topC; rw [if_pos h]), rfl⟩
  · by_cases h2 : 4611686018427387903 < n
    · go_enter Try.func48, Try.ntmps48
      go_wp2
      all_goals
        go_ret
        exact ⟨ret_intC (by unfold clip topC; rw [if_neg (by omega), if_pos h2]), rfl⟩
    · go_enter Try.func48, Try.ntmps48
      go_wp2
      all_goals
        go_ret
        exact ⟨ret_intC (by unfold clip topC; rw [if_neg (by omega), if_neg (by omega)]), rfl⟩

theorem bits_add_any (a b : Int) (w : World) :
    Calls Try.prog 27 #[.int .i64 a, .int .i64 b] w fun e w' => e = .returned (.int .i64 (sadd a b)) ∧ w = w' := by
  have a1 := clip_lo a
  have a2 := clip_hi a
  have b1 := clip_lo b
  have b2 := clip_hi b
  go_enter Try.func27, Try.ntmps27
  go_wp2_with (go_at_call 48; refine (bits_count_any _ _).mono ?_; rintro e w' ⟨rfl, rfl⟩)
  go_ret
  exact ⟨rfl, rfl⟩

theorem bits_mul_any (a b : Int) (w : World) :
    Calls Try.prog 28 #[.int .i64 a, .int .i64 b] w fun e w' => e = .returned (.int .i64 (smul a b)) ∧ w = w' := by
  have a1 := clip_lo a
  have a2 := clip_hi a
  have b1 := clip_lo b
  have b2 := clip_hi b
  have hm := smul_eq (clip a) (clip b) a1 b1
  by_cases h : 0 < clip b ∧ (4611686018427387903 : Int) / clip b < clip a
  · rw [if_pos h] at hm
    have HM := Lib.hid hm
    clear hm
    obtain ⟨h1, h2⟩ := h
    go_enter Try.func28, Try.ntmps28
    go_wp2_with (go_at_call 48; refine (bits_count_any _ _).mono ?_; rintro e w' ⟨rfl, rfl⟩)
    go_ret
    exact ⟨ret_intC HM.out, rfl⟩
  · rw [if_neg h] at hm
    have hq : clip a * clip b ≤ 4611686018427387903 := by rw [hm]; exact clip_hi _
    have hq0 : 0 ≤ clip a * clip b := Int.mul_nonneg a1 b1
    have HM := Lib.hid hm
    clear hm
    by_cases h0 : 0 < clip b
    · have h1 : ¬ (4611686018427387903 : Int) / clip b < clip a := fun x => h ⟨h0, x⟩
      clear h
      go_enter Try.func28, Try.ntmps28
      go_wp2_with (go_at_call 48; refine (bits_count_any _ _).mono ?_; rintro e w' ⟨rfl, rfl⟩)
      go_ret
      exact ⟨ret_intC HM.out, rfl⟩
    · clear h
      go_enter Try.func28, Try.ntmps28
      go_wp2_with (go_at_call 48; refine (bits_count_any _ _).mono ?_; rintro e w' ⟨rfl, rfl⟩)
      go_ret
      exact ⟨ret_intC HM.out, rfl⟩

theorem pow_bd (n : Int) (h : n < 62) : (2 : Int) ^ n.toNat ≤ 2305843009213693952 := by
  have h1 : (2 : Nat) ^ n.toNat ≤ 2 ^ 61 := Nat.pow_le_pow_right (by omega) (by omega)
  have h2 : ((2 ^ n.toNat : Nat) : Int) ≤ ((2 ^ 61 : Nat) : Int) := Int.ofNat_le.2 h1
  rw [Int.natCast_pow] at h2
  exact h2

theorem bits_pow_any (n : Int) (w : World) :
    Calls Try.prog 29 #[.int .i64 n] w fun e w' => e = .returned (.int .i64 (spow n)) ∧ w = w' := by
  by_cases h : n < 0
  · go_enter Try.func29, Try.ntmps29
    go_wp2
    go_ret
    exact ⟨ret_intC (by unfold spow; rw [if_pos h]), rfl⟩
  · have hp := pow_bd n
    by_cases h2 : 62 ≤ n
    · clear hp
      go_enter Try.func29, Try.ntmps29
      go_wp2
      go_ret
      exact ⟨ret_intC (by unfold spow topC; rw [if_neg (by omega), if_pos h2]), rfl⟩
    · have hp1 := hp (by omega)
      have hp0 : (0 : Int) ≤ 2 ^ n.toNat := Int.pow_nonneg (by omega)
      have HW := Lib.hid (IntWalk.wrap64_in (2 ^ n.toNat) ⟨by omega, by omega⟩)
      clear hp hp1 hp0
      go_enter Try.func29, Try.ntmps29
      go_wp2
      go_ret
      exact ⟨ret_intC (by rw [HW.out]; unfold spow; rw [if_neg (by omega), if_neg (by omega)]), rfl⟩

end Go.Proofs.Ytkmffmlnondolaa

/- Layer 6 (count): Sat: what its closure counts. -/
namespace Go.Proofs.Ytkmffmlnondolaa
open Go.ChangeShapes Go.WideShapes Go.ChangeAt Go.RowKit Go.Maps

/-- A node's own count: of the values from what it asks on. -/
def ownC (V : Nat) (cs : List Nd) (ys : List Nat) (k : Nat) : Int := match cs[k]? with
  | some c => cntC V cs ys k c.asks.toNat
  | none => 0
theorem ownC_is {V : Nat} {cs : List Nd} {ys : List Nat} {k : Nat} {c : Nd} (h : Is cs k c) : ownC V cs ys k = cntC V cs ys k c.asks.toNat := by unfold ownC; rw [h.1]
theorem cntC_lo {V : Nat} {cs : List Nd} {ys : List Nat} {k u : Nat} : 0 ≤ cntC V cs ys k u := clip_lo _
theorem cntC_hi {V : Nat} {cs : List Nd} {ys : List Nat} {k u : Nat} : cntC V cs ys k u ≤ 4611686018427387903 := clip_hi _

/-- The blocks of count's variables: the store, found, count, ahead; found's map, the row of ahead. -/
structure SEnv where
  s : Nat
  f : Nat
  c : Nat
  a : Nat
  b : Nat
  r : Nat
def SEnv.fv (E : SEnv) : Value := .func (.func 25) #[] #[ptrV E.s, ptrV E.f, ptrV E.c, ptrV E.a]

structure SSt (E : SEnv) (m : Mem) (h : Hd) (cs : List Nd) (ys M : List Nat) (w : World) : Prop where
  st : St w m h cs
  map : KMap w E.b M (ownC h.V cs ys)
  row : w.heap[E.r]? = some (.cells (rowOf (h.V + 1) fun v => (aheadN ys v : Nat)) 3)
  ct : w.cell? ⟨E.s, 0, none⟩ = some (ptrV m.s)
  cm : w.cell? ⟨E.f, 0, none⟩ = some (.map (some E.b))
  cf : w.cell? ⟨E.c, 0, none⟩ = some E.fv
  ca : w.cell? ⟨E.a, 0, none⟩ = some (.slice (some ⟨E.r, 0, none⟩) (h.V + 1) (h.V + 1))
  far : ¬ m.own E.b
  base : 0 ∈ M ∧ 1 ∈ M
  is : ∀ x ∈ M, ∃ c, Is cs x c
  shut : ∀ a, ClosedAt cs M a

section
variable {E : SEnv} {m : Mem} {h : Hd} {cs : List Nd} {ys M : List Nat} {w w' : World}
theorem SSt.keep (s : SSt E m h cs ys M w) (hb : Below w.heap.size w w') : SSt E m h cs ys M w' :=
  ⟨s.st.keep hb, s.map.keep hb, (hb.block _ (row_lt s.row)).trans s.row, (hb.cell (World.block_lt_of_cell? w _ s.ct)).trans s.ct, (hb.cell (World.block_lt_of_cell? w _ s.cm)).trans s.cm, (hb.cell (World.block_lt_of_cell? w _ s.cf)).trans s.cf, (hb.cell (World.block_lt_of_cell? w _ s.ca)).trans s.ca, s.far, s.base, s.is, s.shut⟩
theorem SSt.cell (s : SSt E m h cs ys M w) {v : Nat} (hv : v ≤ h.V) : w.cell? ⟨E.r, v, none⟩ = some (.int .i64 (aheadN ys v : Nat)) := by
  rw [cell_of_row _ _ _ _ _ _ s.row, rowOf_get _ (by omega)]
theorem SSt.add (s : SSt E m h cs ys M w) {k : Nat} {c : Nd} (hk : Is cs k c) (hn : k ∉ M) (hsh : ∀ a, ClosedAt cs (k :: M) a) :
    ∃ w', (Instr.mapUpdate 52 (.map (some E.b)) (.int .i64 (k : Int)) (.int .i64 (cntC h.V cs ys k c.asks.toNat))).run Try.prog w = .ok () w' ∧ SSt E m h cs ys (k :: M) w' ∧ Turn (fun i => i = E.b) w w' := by
  have e := ownC_is (V := h.V) (ys := ys) hk
  have lo := cntC_lo (V := h.V) (cs := cs) (ys := ys) (k := k) (u := c.asks.toNat)
  have hi := cntC_hi (V := h.V) (cs := cs) (ys := ys) (k := k) (u := c.asks.toNat)
  obtain ⟨w', hrun, s1, t1⟩ := s.map.add (k := k) (by have := hk.lt; have := s.st.lay.len; omega) hn (by rw [e]; exact lo) (by rw [e]; omega)
  rw [e] at hrun
  have nr := s.map.not_row s.row
  refine ⟨w', hrun, ⟨s.st.apart t1 (fun i hi e => s.far (e ▸ hi)), s1, (t1.block _ (row_lt s.row) nr).trans s.row, t1.cell s.ct (s.map.not_cell s.ct), t1.cell s.cm (s.map.not_cell s.cm), t1.cell s.cf (s.map.not_cell s.cf), t1.cell s.ca (s.map.not_cell s.ca), s.far, ⟨List.mem_cons_of_mem _ s.base.1, List.mem_cons_of_mem _ s.base.2⟩, ?_, hsh⟩, t1⟩
  intro x hx
  rcases List.mem_cons.1 hx with rfl | hx
  · exact ⟨c, hk⟩
  · exact s.is x hx
end

/-- Every variable that the node is of is in the list. -/
def Has (cs : List Nd) (k : Nat) (ys : List Nat) : Prop := ∀ j d, Part cs k j → 2 ≤ j → Is cs j d → d.asks.toNat ∈ ys

def CntOut (E : SEnv) (m : Mem) (h : Hd) (cs : List Nd) (ys M : List Nat) (k u : Nat) (w : World) (e : Ending) (w' : World) : Prop :=
  ∃ M', e = .returned (.int .i64 (cntC h.V cs ys k u)) ∧ Got cs M k M' ∧ SSt E m h cs ys M' w' ∧ Turn (fun i => i = E.b) w w'

set_option maxRecDepth 100000 in
set_option maxHeartbeats 4000000 in
theorem ccount_any {E : SEnv} {m : Mem} {h : Hd} {cs : List Nd} {ys : List Nat} (hys : ys.Nodup) (hyl : ys.length ≤ 256) : ∀ (n : Nat) (M : List Nat) (w : World) (k : Nat) (c : Nd) (u : Nat) (fr : Int), SSt E m h cs ys M w → Is cs k c → rk h.V c ≤ n → Has cs k ys → (u : Int) ≤ c.asks → fr = (aheadN ys u : Nat) →
    Calls Try.prog 25 #[.int .i64 (k : Int), .int .i64 fr, ptrV E.s, ptrV E.f, ptrV E.c, ptrV E.a] w (CntOut E m h cs ys M k u w) := by
  intro n
  induction n using Nat.strongRecOn with
  | _ n ih =>
  intro M w k c u fr s hk hn hh hu hfr
  have g := s.st.good
  have hrg := g.range hk
  obtain ⟨v, ev⟩ : ∃ v : Nat, c.asks = v := ⟨c.asks.toNat, by omega⟩
  have evn : c.asks.toNat = v := by omega
  have hvV : v ≤ h.V := by omega
  obtain ⟨av, hav⟩ : ∃ av, av = aheadN ys v := ⟨_, rfl⟩
  obtain ⟨au, hau⟩ : ∃ au, au = aheadN ys u := ⟨_, rfl⟩
  have hmono := aheadN_mono ys (u := u) (v := v) (by omega)
  have hle := aheadN_le ys v
  have hav256 : av ≤ 256 := by omega
  have hauv : au ≤ av := by omega
  rw [← hau] at hfr
  have UP : Hid (smul (cntC h.V cs ys k v) (spow ((av : Int) - (au : Int))) = cntC h.V cs ys k u) := by
    show _ = _
    have := cntC_up (V := h.V) g hys hk hu
    rw [evn, ← hav, ← hau] at this
    exact this
  have ND := node_yesB s.st hk
  rw [ev] at ND
  have ND := Lib.hid ND
  have ct := s.ct
  have HV : Hid (h.V ≤ 256) := Lib.hid s.st.V
  have hV2 := s.st.V
  have hvV' : (v : Int) < h.V + 1 := by omega
  have S := Lib.hid s
  have IS := Lib.hid hk
  have HN := Lib.hid hn
  have HH := Lib.hid hh
  have IH := Lib.hid ih
  have AV := Lib.hid hav
  have G := Lib.hid g
  have EV := Lib.hid ev
  have EVN := Lib.hid evn
  have HKL : Hid (k < 1048576) := by show _ < _; have := hk.lt; have := s.st.lay.len; omega
  subst hfr
  clear ih hk hn hh hu s g hrg ev evn hmono hle hav hau
  unfold ptrV at *
  go_enter Try.func25, Try.ntmps25
  go_wp2_with fail
  refine ND.out.mono ?_
  rintro e w1 ⟨rfl, hb1⟩
  have S1 := Lib.hid (S.out.keep hb1)
  have B1 := Lib.hid hb1
  clear hb1 ND ct
  have cm := S1.out.cm
  rcases S1.out.map.look HKL.out with ⟨hin, hlk⟩ | ⟨hin, z, hlk⟩
  · have GOT : Hid (Got cs M k M) := Got.same G.out IS.out (S1.out.shut _) hin S1.out.map.nodup S1.out.is
    rw [ownC_is IS.out, EVN.out] at hlk
    have ca := S1.out.ca
    have cr := S1.out.cell hvV
    rw [← AV.out] at cr
    have lo := cntC_lo (V := h.V) (cs := cs) (ys := ys) (k := k) (u := v)
    have hi := cntC_hi (V := h.V) (cs := cs) (ys := ys) (k := k) (u := v)
    clear hin
    go_wp2_with (first | (go_at_call 29; refine (bits_pow_any _ _).mono ?_; rintro e w2 ⟨rfl, rfl⟩) | (go_at_call 28; refine (bits_mul_any _ _ _).mono ?_; rintro e w2 ⟨rfl, rfl⟩))
    go_ret
    exact ⟨M, congrArg (fun x => Ending.returned (.int .i64 x)) UP.out, GOT.out, S1.out, Turn.of_below B1.out⟩
  · have h2 : 2 ≤ k := by
      rcases (by omega : k = 0 ∨ k = 1 ∨ 2 ≤ k) with rfl | rfl | h
      · exact absurd S1.out.base.1 hin
      · exact absurd S1.out.base.2 hin
      · exact h
    have H2 := Lib.hid h2
    have HI := Lib.hid hin
    have ho := G.out.ok k c h2 IS.out
    obtain ⟨cl, il, ll⟩ := G.out.lo k c h2 IS.out
    obtain ⟨ch, ih', lh⟩ := G.out.hi k c h2 IS.out
    have rl := G.out.range il
    have rh := G.out.range ih'
    have HL : Hid (rk h.V cl < n) := by show _ < _; have := HN.out; unfold rk at this ⊢; omega
    have HHi : Hid (rk h.V ch < n) := by show _ < _; have := HN.out; unfold rk at this ⊢; omega
    have IL := Lib.hid il
    have IHH := Lib.hid ih'
    have LL : Hid (((v + 1 : Nat) : Int) ≤ cl.asks) := by show _ ≤ _; have := EV.out; omega
    have LH : Hid (((v + 1 : Nat) : Int) ≤ ch.asks) := by show _ ≤ _; have := EV.out; omega
    have HAL : Hid (Has cs c.low ys) := fun j d p => HH.out j d (.low h2 IS.out p)
    have HAH : Hid (Has cs c.high ys) := fun j d p => HH.out j d (.high h2 IS.out p)
    have vin : v ∈ ys := by have := HH.out k c (.self k) h2 IS.out; rwa [EVN.out] at this
    have AV1 : Hid (IntKind.i64.wrap ((av : Int) + 1) = (aheadN ys (v + 1) : Nat)) := by
      have hw : IntKind.i64.wrap ((av : Int) + 1) = (av : Int) + 1 := IntWalk.i64_in _ ⟨by omega, by omega⟩
      show _ = _
      rw [hw, aheadN_succ hys, if_pos vin, ← AV.out]; rfl
    have CN : Hid (sadd (cntC h.V cs ys c.low (v + 1)) (cntC h.V cs ys c.high (v + 1)) = cntC h.V cs ys k v) := by
      show _ = _
      have := cntC_node (V := h.V) G.out hys h2 IS.out (by rw [EVN.out]; exact vin)
      rwa [EVN.out] at this
    clear h2 hin il ll ih' lh rl rh ho vin
    go_wp2_with fail
    clear hlk
    have cf1 := S1.out.cf
    have ca1 := S1.out.ca
    have cr1 := S1.out.cell hvV
    rw [← AV.out] at cr1
    unfold SEnv.fv ptrV at cf1
    clear cm
    go_region_held3 (fun w' => w'.cell? ⟨E.c, 0, none⟩ = some (.func (.func 25) #[] #[.pointer (some ⟨E.s, 0, none⟩), .pointer (some ⟨E.f, 0, none⟩), .pointer (some ⟨E.c, 0, none⟩), .pointer (some ⟨E.a, 0, none⟩)]) ∧ w'.cell? ⟨E.a, 0, none⟩ = some (.slice (some ⟨E.r, 0, none⟩) (h.V + 1) (h.V + 1)) ∧ w'.cell? ⟨E.r, v, none⟩ = some (.int .i64 (av : Int)))
      (first | exact ⟨cf1, ca1, cr1⟩ | exact ⟨by assumption, by assumption, by assumption⟩ | go_keep)
      (first
        | (go_at_call 25; refine (IH.out _ HHi.out M1 _ c.high ch (v + 1) _ S2.out IHH.out (Nat.le_refl _) HAH.out LH.out AV1.out).mono ?_; rintro e w3 ⟨M2, rfl, g2, s3, t3⟩; have S3 := Lib.hid s3; have G2 := Lib.hid g2; have T3 : Hid (Turn (fun i => i = E.b) w w3) := Lib.hid (T2.out.trans t3 fun i hi => .inl hi); have cf3 := S3.out.cf; have ca3 := S3.out.ca; have cr3 := S3.out.cell hvV; rw [← AV.out] at cr3; unfold SEnv.fv ptrV at cf3; clear s3 g2 t3)
        | (go_at_call 25; refine (IH.out _ HL.out M _ c.low cl (v + 1) _ (S1.out.keep (below_drew _)) IL.out (Nat.le_refl _) HAL.out LL.out AV1.out).mono ?_; rintro e w2 ⟨M1, rfl, g1, s2, t2⟩; have S2 := Lib.hid s2; have G1 := Lib.hid g1; have T2 : Hid (Turn (fun i => i = E.b) w w2) := Lib.hid (((Turn.of_below B1.out).drew).trans t2 fun i hi => .inl hi); have cf2 := S2.out.cf; have ca2 := S2.out.ca; have cr2 := S2.out.cell hvV; rw [← AV.out] at cr2; unfold SEnv.fv ptrV at cf2; clear s2 g1 t2)
        | (go_at_call 27; refine (bits_add_any _ _ _).mono ?_; rintro e w4 ⟨rfl, rfl⟩))
    have GP := Got.post G.out H2.out IS.out HI.out G1.out G2.out
    have hsh : ∀ a, ClosedAt cs (k :: M2) a := fun a => GP.1.shut (S1.out.shut a)
    obtain ⟨w4, hmu, s4, t4⟩ := S3.out.add IS.out GP.2 hsh
    have cm3 := S3.out.cm
    rw [EVN.out, ← CN.out] at hmu
    have S4 := Lib.hid s4
    have T4 : Hid (Turn (fun i => i = E.b) w w4) := T3.out.trans t4 fun i hi => .inl hi
    have GOT := Lib.hid GP.1
    have ca4 := s4.ca
    have cr4 := s4.cell hvV
    rw [← AV.out] at cr4
    clear GP hsh s4 t4 cf1 ca1 cr1 cf2 ca2 cr2 cf3 ca3 cr3
    go_wp2_with (first | (go_at_call 29; refine (bits_pow_any _ _).mono ?_; rintro e w5 ⟨rfl, rfl⟩) | (go_at_call 28; refine (bits_mul_any _ _ _).mono ?_; rintro e w5 ⟨rfl, rfl⟩))
    go_ret
    exact ⟨k :: M2, congrArg (fun x => Ending.returned (.int .i64 x)) ((congrArg (fun x => smul x (spow ((av : Int) - (au : Int)))) CN.out).trans UP.out), GOT.out, S4.out, T4.out⟩
end Go.Proofs.Ytkmffmlnondolaa

/- Layer 6 (count): Sat. -/
namespace Go.Proofs.Ytkmffmlnondolaa
open Go.ChangeShapes Go.WideShapes Go.ChangeAt Go.RowKit Go.Maps

theorem vars_yes {w : World} {m : Mem} {h : Hd} {cs : List Nd} (s : St w m h cs) : Calls Try.prog 44 #[ptrV m.s] w fun e w' => e = .returned (.int .i64 (h.V : Int)) ∧ w = w' := vars_store s.lay

set_option maxRecDepth 100000 in
set_option maxHeartbeats 4000000 in
/-- What is no list of variables is refused. -/
theorem sat_bad {w : World} {p : Option Addr} {V : Nat} (hV : V ≤ 256) (VC : ∀ w', Below w.heap.size w w' → Calls Try.prog 44 #[.pointer p] w' fun e w'' => e = .returned (.int .i64 (V : Int)) ∧ w' = w'') (k : Int) {A : Option Addr} {L : List Int} {cap : Nat} (hr : Rd w A (intsC L)) (hl : L.length ≤ 1000) (hn : ¬ ∃ ys, Lists V L ys) :
    Calls Try.prog 10 #[.pointer p, .int .i64 k, .slice A L.length cap] w fun e w' => e = .returned (.tuple #[.int .i64 0, .int .i64 1]) ∧ Below w.heap.size w w' := by
  have b0 : Below w.heap.size w (w.alloc (.cells #[.pointer p] 22)) := (Below.refl _ _).alloc (Nat.le_refl _) _
  have PL := Lib.hid (places_any (cap := cap) hV (VC _ b0) (hr.keep b0) hl)
  have B0 := Lib.hid b0
  have HN := Lib.hid hn
  clear VC hr hl hn b0
  go_enter Try.func10, Try.ntmps10
  go_wp2_with fail
  refine PL.out.mono ?_
  rintro e w1 hout
  rcases hout with ⟨ys, a, hy, -⟩ | ⟨_, rfl, hb⟩
  · exact absurd ⟨ys, hy⟩ HN.out
  · have B1 : Hid (Below w.heap.size w w1) := B0.out.trans (hb.mono B0.out.size)
    clear hb PL
    go_wp2_with fail
    go_ret2
    exact ⟨rfl, B1.out.alloc B1.out.size _⟩

/-- The world where Asks has answered: the list's places lie in a row. -/
structure SPre (m : Mem) (h : Hd) (cs : List Nd) (ys : List Nat) (w : World) (b r : Nat) (w' : World) : Prop where
  st : St w' m h cs
  ct : w'.cell? ⟨w.heap.size, 0, none⟩ = some (ptrV m.s)
  ca : w'.cell? ⟨b, 0, none⟩ = some (.slice (some ⟨r, 0, none⟩) (h.V + 1) (h.V + 1))
  row : w'.heap[r]? = some (.cells (rowOf (h.V + 1) fun v => (aheadN ys v : Nat)) 3)
  below : Below w.heap.size w w'

theorem SPre.keep {m : Mem} {h : Hd} {cs : List Nd} {ys : List Nat} {w : World} {b r : Nat} {w1 w2 : World} (p : SPre m h cs ys w b r w1) (hb : Below w1.heap.size w1 w2) : SPre m h cs ys w b r w2 :=
  ⟨p.st.keep hb, (hb.cell (World.block_lt_of_cell? w1 _ p.ct)).trans p.ct, (hb.cell (World.block_lt_of_cell? w1 _ p.ca)).trans p.ca, (hb.block _ (row_lt p.row)).trans p.row, p.below.trans (hb.mono p.below.size)⟩

theorem SPre.made {m : Mem} {h : Hd} {cs : List Nd} {ys : List Nat} {w w1 : World} {a : Nat} (s : St w m h cs) (hb : Below (w.alloc (.cells #[ptrV m.s] 22)).heap.size (w.alloc (.cells #[ptrV m.s] 22)) w1) (hr : w1.heap[a]? = some (.cells (rowOf (h.V + 1) fun v => (aheadN ys v : Nat)) 3)) :
    SPre m h cs ys w w1.heap.size a (w1.alloc (.cells #[.slice (some ⟨a, 0, none⟩) (h.V + 1) (h.V + 1)] 27)) := by
  have b0 : Below w.heap.size w (w.alloc (.cells #[ptrV m.s] 22)) := (Below.refl _ _).alloc (Nat.le_refl _) _
  have b1 : Below w1.heap.size w1 (w1.alloc (.cells #[.slice (some ⟨a, 0, none⟩) (h.V + 1) (h.V + 1)] 27)) := (Below.refl _ _).alloc (Nat.le_refl _) _
  have hz := hb.size
  simp only [World.size_alloc] at hz
  refine ⟨((s.keep b0).keep hb).keep b1, ?_, cell_of_row _ _ 0 _ _ _ (heap_alloc_new w1 _), at_oldC _ hr, (b0.trans (hb.mono b0.size)).trans (b1.mono (by omega))⟩
  rw [b1.cell (by show w.heap.size < _; omega), hb.cell (by show w.heap.size < _; simp)]
  exact cell_of_row _ _ 0 _ _ _ (heap_alloc_new w _)

set_option maxRecDepth 100000 in
set_option maxHeartbeats 4000000 in
/-- What is no node is refused, behind the list. -/
theorem sat_none {w : World} {m : Mem} {h : Hd} {cs : List Nd} (s : St w m h cs) {k : Int} (hk : thereB cs k = false) {A : Option Addr} {L : List Int} {ys : List Nat} {cap : Nat} (hr : Rd w A (intsC L)) (hl : L.length ≤ 1000) (hy : Lists h.V L ys) :
    Calls Try.prog 10 #[ptrV m.s, .int .i64 k, .slice A L.length cap] w fun e w' => e = .returned (.tuple #[.int .i64 0, .int .i64 3]) ∧ Below w.heap.size w w' := by
  have b0 : Below w.heap.size w (w.alloc (.cells #[ptrV m.s] 22)) := (Below.refl _ _).alloc (Nat.le_refl _) _
  have PL := Lib.hid (places_any (cap := cap) s.V (vars_yes (s.keep b0)) (hr.keep b0) hl)
  have HY := Lib.hid hy
  have S := Lib.hid s
  have HK := Lib.hid hk
  clear hr hl hy b0 s hk
  unfold ptrV at *
  go_enter Try.func10, Try.ntmps10
  go_wp2_with fail
  refine PL.out.mono ?_
  rintro e w1 hout
  rcases hout with ⟨zs, a, hz, rfl, hrow, hb, ha⟩ | ⟨hno, _⟩
  · obtain rfl : ys = zs := castL_inj (HY.out.eq.symm.trans hz.eq)
    have P := Lib.hid (SPre.made S.out hb hrow)
    have hlt : w.heap.size < w1.heap.size := by have := hb.size; simp at this; omega
    have RF := Lib.hid (fun (w' : World) (l : Lay w' m h cs) => cref_no l k HK.out)
    have ct := P.out.ct
    have AN := Lib.hid (asks_no P.out.st HK.out)
    clear hz hrow hb ha PL RF
    unfold ptrV at *
    go_wp2_with fail
    refine AN.out.mono ?_
    rintro e w2 ⟨rfl, hb2⟩
    have B2 : Hid (Below w.heap.size w w2) := P.out.below.trans (hb2.mono P.out.below.size)
    clear hb2 AN ct
    go_wp2_with fail
    go_ret2
    exact ⟨rfl, B2.out⟩
  · exact absurd ⟨_, HY.out⟩ hno
end Go.Proofs.Ytkmffmlnondolaa

/- Layer 6 (count): Sat of a node. -/
namespace Go.Proofs.Ytkmffmlnondolaa
open Go.ChangeShapes Go.WideShapes Go.ChangeAt Go.RowKit Go.Maps

def SatOut (V : Nat) (cs : List Nd) (ys : List Nat) (k : Nat) (w : World) (e : Ending) (w' : World) : Prop :=
  ∃ n x : Int, e = .returned (.tuple #[.int .i64 n, .int .i64 x]) ∧ Below w.heap.size w w' ∧ ((Has cs k ys ∧ x = 0 ∧ n = cntC V cs ys k 0) ∨ (¬ Has cs k ys ∧ x = 1 ∧ n = 0))

theorem above_end {V : Nat} {L : List Int} {ys : List Nat} (h : Lists V L ys) : above ys V = [] := by
  unfold above
  rw [List.filter_eq_nil_iff]
  intro x hx
  have := h.lt x hx
  simp; omega

theorem sat_world {w w4 w5 w6 : World} {m : Mem} {h : Hd} {cs : List Nd} {ys : List Nat} {ab ar : Nat} (p : SPre m h cs ys w ab ar w4) (k2 : KMap w6 w4.heap.size [1, 0] (ownC h.V cs ys)) (t1 : Turn (fun i => i = w4.heap.size) (w4.alloc (.map #[] 0)) w5) (t2 : Turn (fun i => i = w4.heap.size) w5 w6) :
    SSt ⟨w.heap.size, w6.heap.size, w6.heap.size + 1, ab, w4.heap.size, ar⟩ m h cs ys [1, 0] ((w6.alloc (.cells #[.map (some w4.heap.size)] 52)).alloc (.cells #[SEnv.fv ⟨w.heap.size, w6.heap.size, w6.heap.size + 1, ab, w4.heap.size, ar⟩] 53)) ∧
      Below w.heap.size w ((w6.alloc (.cells #[.map (some w4.heap.size)] 52)).alloc (.cells #[SEnv.fv ⟨w.heap.size, w6.heap.size, w6.heap.size + 1, ab, w4.heap.size, ar⟩] 53)) := by
  have z1 := t1.size
  have z2 := t2.size
  have z3 := p.below.size
  simp only [World.size_alloc] at z1 z2
  have t3 := t1.trans t2 fun i e => .inl e
  have b4 : Below w4.heap.size w4 (w4.alloc (.map #[] 0)) := (Below.refl _ _).alloc (Nat.le_refl _) _
  have b5 : Below w4.heap.size w4 w6 := Turn.to_below b4 t3 (fun i e => by rw [e]; exact Nat.le_refl _) (by simp)
  have p6 := p.keep b5
  have b6 : Below w6.heap.size w6 ((w6.alloc (.cells #[.map (some w4.heap.size)] 52)).alloc (.cells #[SEnv.fv ⟨w.heap.size, w6.heap.size, w6.heap.size + 1, ab, w4.heap.size, ar⟩] 53)) := ((Below.refl _ _).alloc (by omega) _).alloc (by simp) _
  have p7 := p6.keep b6
  refine ⟨⟨p7.st, k2.keep b6, p7.row, p7.ct, cell_of_row _ _ 0 _ _ _ (at_oldC _ (heap_alloc_new w6 _)), cell_of_row _ _ 0 _ _ _ (at_newC _ (by simp)), p7.ca, ?_, by simp, ?_, ?_⟩, p7.below⟩
  · intro e
    have := p.st.own_lt _ e
    exact absurd this (Nat.lt_irrefl _)
  · intro x hx
    simp at hx
    rcases hx with rfl | rfl
    · obtain ⟨q, i1⟩ := p.st.good.is1; exact ⟨_, i1⟩
    · obtain ⟨q, i0⟩ := p.st.good.is0; exact ⟨_, i0⟩
  · exact fun a => shut_base cs a

set_option maxRecDepth 100000 in
set_option maxHeartbeats 4000000 in
theorem sat_yes {w : World} {m : Mem} {h : Hd} {cs : List Nd} (s : St w m h cs) {k : Nat} {c : Nd} (hk : Is cs k c) {A : Option Addr} {L : List Int} {ys : List Nat} {cap : Nat} (hr : Rd w A (intsC L)) (hl : L.length ≤ 1000) (hy : Lists h.V L ys) :
    Calls Try.prog 10 #[ptrV m.s, .int .i64 (k : Int), .slice A L.length cap] w (SatOut h.V cs ys k w) := by
  have b0 : Below w.heap.size w (w.alloc (.cells #[ptrV m.s] 22)) := (Below.refl _ _).alloc (Nat.le_refl _) _
  have PL := Lib.hid (places_any (cap := cap) s.V (vars_yes (s.keep b0)) (hr.keep b0) hl)
  have HY := Lib.hid hy
  have S := Lib.hid s
  have IS := Lib.hid hk
  clear hr hl hy b0 s hk
  have hmf : ∀ (fn : Fn) (first cap : Array Value) (w : World), (Instr.makeFunc fn first cap).run Try.prog w = .ok (.func fn first cap) w := fun _ _ _ _ => rfl
  have hmm := @run_makeMap Try.prog
  unfold ptrV at *
  go_enter Try.func10, Try.ntmps10
  go_wp2_with fail
  refine PL.out.mono ?_
  rintro e w1 hout
  obtain ⟨zs, a, hz, rfl, hrow, hb, ha⟩ := hout.resolve_right fun hno => hno.1 ⟨_, HY.out⟩
  obtain rfl : ys = zs := castL_inj (HY.out.eq.symm.trans hz.eq)
  have P := Lib.hid (SPre.made S.out hb hrow)
  have ct := P.out.ct
  have AN := Lib.hid (asks_any P.out.st IS.out)
  clear hz hrow hb ha PL
  unfold ptrV at *
  go_wp2_with fail
  refine AN.out.mono ?_
  rintro e w2 ⟨lv, p, rfl, hnr, hp, hb2⟩
  have P2 := Lib.hid (P.out.keep hb2)
  have LEN := filt_len p h.V
  have hV := S.out.V
  obtain ⟨lA, lc, rfl, hrd, -⟩ := hnr.rd
  have HRD := Lib.hid hrd
  have HP := Lib.hid hp
  clear hnr hb2 hrd hp AN P ct
  obtain ⟨l, hlist⟩ : ∃ l, l = (List.range h.V).filter p := ⟨_, rfl⟩
  rw [← hlist] at LEN HRD ⊢
  have HLI := Lib.hid hlist
  clear hlist
  go_wp2_with fail
  go_loopw [12, 35] (fun _ iv wr => ∃ i : Nat, i ≤ l.length ∧ iv = .int .i64 i ∧ (∀ x ∈ l.take i, x ∈ ys) ∧ Below w2.heap.size w2 wr) (fun _ iv _ => l.length - (intOf iv).toNat)
  case atStart => exact ⟨0, Nat.zero_le _, rfl, by simp, Below.refl _ _⟩
  case round =>
    obtain ⟨i, hi, rfl, hin, hbel⟩ := hrel
    have P3 := Lib.hid (P2.out.keep hbel)
    have HB := Lib.hid hbel
    have HIN := Lib.hid hin
    by_cases hlt : i < l.length
    · have hlt' : (i : Int) < l.length := by omega
      obtain ⟨x, hx⟩ : ∃ x, l[i]? = some x := ⟨_, List.getElem?_eq_getElem hlt⟩
      have hxm : x < h.V ∧ p x = true := by
        have := List.mem_of_getElem? hx
        rw [HLI.out, List.mem_filter, List.mem_range] at this
        exact this
      rcases HRD.out with hnil | ⟨b, off, rfl, hb, hc⟩
      · exfalso
        have : l = [] := by simpa [nats] using hnil
        rw [this] at hlt
        simp at hlt
      have cx : wr.cell? ⟨b, off + i, none⟩ = some (.int .i64 (x : Int)) := by
        rw [hbel.cell (by exact hb)]
        exact hc i _ (nats_get hx)
      have ca := P3.out.ca
      have c1 : wr.cell? ⟨a, x, none⟩ = some (.int .i64 (aheadN ys x : Nat)) := by rw [cell_of_row _ _ _ _ _ _ P3.out.row, rowOf_get _ (by omega)]
      have c2 : wr.cell? ⟨a, x + 1, none⟩ = some (.int .i64 (aheadN ys (x + 1) : Nat)) := by rw [cell_of_row _ _ _ _ _ _ P3.out.row, rowOf_get _ (by omega)]
      have hxv : (x : Int) < h.V := by omega
      have hxv' : (x : Int) + 1 < h.V + 1 := by omega
      have hx256 : (x : Int) ≤ 256 := by omega
      have hs := aheadN_succ HY.out.nodup x
      clear hb hc hin hbel
      by_cases hm : x ∈ ys
      · rw [if_pos hm] at hs
        rw [hs] at c2
        have NX : Hid (∀ y ∈ l.take (i + 1), y ∈ ys) := fun y hy => by
          rw [List.take_add_one, hx] at hy
          rcases List.mem_append.1 hy with h | h
          · exact HIN.out y h
          · simp at h; rw [h]; exact hm
        have hne : ((aheadN ys x : Nat) : Int) ≠ ((aheadN ys x + 1 : Nat) : Int) := by omega
        generalize aheadN ys x = q at c1 c2 hne
        clear hs hm hx
        go_wp2_with fail
        go_quiet (fail)
        go_wp2_with fail
        go_roundw
        case rel => exact ⟨i + 1, by omega, by go_num, NX.out, HB.out.trans ((below_drewN0 _ _).mono HB.out.size)⟩
        case measure => simp [intOf]; omega
      · rw [if_neg hm, Nat.add_zero] at hs
        rw [hs] at c2
        have NO : Hid (¬ Has cs k ys) := fun hh => by
          obtain ⟨j, d, p1, p2, p3, p4⟩ := (HP.out x hxm.1).1 hxm.2
          have := hh j d p1 p2 p3
          rw [p4] at this
          exact hm (by simpa using this)
        generalize aheadN ys x = q at c1 c2
        clear hs hm hx
        go_wp2_with fail
        go_quiet (fail)
        go_wp2_with fail
        go_ret2
        exact ⟨0, 1, rfl, P3.out.below.trans ((below_drewN0 _ _).mono P3.out.below.size), .inr ⟨NO.out, rfl, rfl⟩⟩
    · obtain rfl : i = l.length := by omega
      have HAS : Hid (Has cs k ys) := fun j d p1 p2 p3 => by
        have g := P3.out.st.good
        have ho := g.ok j d p2 p3
        have hpx := (HP.out d.asks.toNat (by omega)).2 ⟨j, d, p1, p2, p3, by omega⟩
        refine HIN.out _ ?_
        rw [List.take_length, HLI.out, List.mem_filter, List.mem_range]
        exact ⟨by omega, hpx⟩
      have F0 : ownC h.V cs ys 0 = 0 := by
        obtain ⟨q, i0⟩ := P3.out.st.good.is0
        rw [ownC_is i0]; exact cntC_zero
      have F1 : ownC h.V cs ys 1 = 1 := by
        obtain ⟨q, i1⟩ := P3.out.st.good.is1
        rw [ownC_is i1]; exact cntC_one (above_end HY.out)
      have k0 := KMap.made wr (ownC h.V cs ys)
      obtain ⟨w5, hr0, k1, t1⟩ := k0.add (k := 0) (by omega) (by simp) (by rw [F0]; omega) (by rw [F0]; omega)
      obtain ⟨w6, hr1, k2, t2⟩ := k1.add (k := 1) (by omega) (by simp) (by rw [F1]; omega) (by rw [F1]; omega)
      rw [F0] at hr0
      rw [F1] at hr1
      change Sem.run _ (Instr.mapUpdate _ _ (.int .i64 0) _) _ = _ at hr0
      change Sem.run _ (Instr.mapUpdate _ _ (.int .i64 1) _) _ = _ at hr1
      obtain ⟨s0, hbl⟩ := sat_world P3.out k2 t1 t2
      have hlen : ys.length ≤ 256 := by have := HY.out.len; omega
      have CC := ccount_any HY.out.nodup hlen h.V [1, 0] _ k c 0 0 s0 IS.out (by unfold rk; have := P3.out.st.good.range IS.out; omega) HAS.out (by have := P3.out.st.good.range IS.out; omega) (by rw [aheadN_zero]; rfl)
      have CC := Lib.hid CC
      have BL := Lib.hid hbl
      have S0 := Lib.hid s0
      have HZ : Hid (w.heap.size ≤ wr.heap.size) := P3.out.below.size
      clear k0 k1 k2 t1 t2 s0 hbl hin hbel F0 F1 HIN HLI HRD LEN P3
      unfold SEnv.fv ptrV at CC
      dsimp only at CC
      go_wp2_with fail
      refine CC.out.mono ?_
      rintro e w7 ⟨M, rfl, gt, s7, t7⟩
      have B7 : Hid (Below w.heap.size w w7) := Turn.to_below BL.out t7 (fun i e => by rw [e]; exact HZ.out) BL.out.size
      clear gt s7 t7 CC
      go_wp2_with fail
      go_ret2
      exact ⟨_, 0, rfl, B7.out, .inl ⟨HAS.out, rfl, rfl⟩⟩
end Go.Proofs.Ytkmffmlnondolaa
