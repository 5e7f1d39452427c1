/- Contracts of layer 3 (node): Pin, Unpin; a cell is stored. -/
import Derived.Test.YtfdebadmikmnaaaNSize
namespace Go.Proofs.Ytfdebadmikmnaaa
open Go.ChangeShapes Go.WideShapes Go.ChangeAt Go.RowKit

theorem list_set_same {α : Type} (l : List α) (i : Nat) (u : α) (hu : l[i]? = some u) : l.set i u = l := by
  apply List.ext_getElem?
  intro j
  rw [List.getElem?_set]
  by_cases hj : i = j
  · subst hj; rw [if_pos rfl, if_pos (List.getElem?_eq_some_iff.1 hu).1, hu]
  · rw [if_neg hj]

section
variable {w : World} {m : Mem} {h : Hd} {cs : List Nd}

theorem Lay.store1 (l : Lay w m h cs) {cs' : List Nd} (j : Nat) (u : Value) (he : flatN cs' = (flatN cs).set j u) (hl : cs'.length = cs.length) : Lay (w.setCell ⟨m.c, j, none⟩ u) m h cs' := by
  refine ⟨?_, ?_, l.st, l.sb, l.sc, l.ct, l.cb, by rw [hl]; exact l.len⟩
  · rw [heap_setCell_other _ _ _ _ l.sc, hl]; exact l.head
  · rw [hl, he]; exact (l.row.stored j u).1

theorem Lay.setPin (l : Lay w m h cs) {k : Nat} {c : Nd} (hc : cs[k]? = some c) (p : Nat) : Lay (w.setCell ⟨m.c, k * 4 + 3, none⟩ (.int .i64 p)) m h (cs.set k ⟨c.asks, c.low, c.high, p⟩) := by
  have hk := (List.getElem?_eq_some_iff.1 hc).1
  refine l.store1 _ _ ?_ (by simp)
  rw [flatN_set cs k _ hk]
  have g : ∀ o u, o < 4 → (cellsN c)[o]? = some u → (flatN cs)[k * 4 + o]? = some u := fun o u ho hu => (flatN_get cs k c o hc ho).trans hu
  rw [list_set_same _ (k * 4) _ (g 0 _ (by omega) rfl), list_set_same _ (k * 4 + 1) _ (g 1 _ (by omega) rfl), list_set_same _ (k * 4 + 2) _ (g 2 _ (by omega) rfl)]

theorem Lay.setC (l : Lay w m h cs) {k : Nat} (hk : k < cs.length) (q : Nd) :
    Lay ((((w.setCell ⟨m.c, k * 4, none⟩ (.int .i64 q.asks)).setCell ⟨m.c, k * 4 + 1, none⟩ (.int .i64 q.low)).setCell ⟨m.c, k * 4 + 2, none⟩ (.int .i64 q.high)).setCell ⟨m.c, k * 4 + 3, none⟩ (.int .i64 q.pins)) m h (cs.set k q) := by
  refine ⟨?_, ?_, l.st, l.sb, l.sc, l.ct, l.cb, by simpa using l.len⟩
  · rw [heap_setCell_other _ _ _ _ l.sc, heap_setCell_other _ _ _ _ l.sc, heap_setCell_other _ _ _ _ l.sc, heap_setCell_other _ _ _ _ l.sc, List.length_set]; exact l.head
  · rw [List.length_set, flatN_set cs k q hk]
    exact ((((((l.row.stored _ _).1).stored _ _).1).stored _ _).1.stored _ _).1

theorem grown_set (w : World) (s o : Nat) (u : Value) : w.grownBy (w.setCell ⟨s, o, none⟩ u) (some s) :=
  ⟨rfl, rfl, rfl, by simp, fun k _ hk => heap_setCell_other w ⟨s, o, none⟩ k u (fun e => hk (by simp [e]))⟩

theorem Lay.rowS (l : Lay w m h cs) (o : Nat) (u : Value) : (w.setCell ⟨m.s, o, none⟩ u).ownsRow 0 81 4 (.slice (some ⟨m.c, 0, none⟩) cs.length m.cap) cs.length (flatN cs) :=
  l.row.kept (grown_set w m.s o u) (.inr (by simp only [Value.ownBlock]; intro e; injection e with e; exact l.sc e.symm))

theorem Lay.setLf (l : Lay w m h cs) (x : Nat) {z : Int} (hz : z = x) : Lay (w.setCell ⟨m.s, 5, none⟩ (.int .i64 z)) m { h with lf := x } cs := by
  subst hz
  exact ⟨(heap_setCell_same w m.s 5 _ _ _ l.head).trans rfl, l.rowS _ _, l.st, l.sb, l.sc, l.ct, l.cb, l.len⟩
theorem Lay.setNodes (l : Lay w m h cs) (z : Int) : Lay (w.setCell ⟨m.s, 6, none⟩ (.int .i64 z)) m { h with nodes := z } cs :=
  ⟨(heap_setCell_same w m.s 6 _ _ _ l.head).trans rfl, l.rowS _ _, l.st, l.sb, l.sc, l.ct, l.cb, l.len⟩
theorem Lay.setMade (l : Lay w m h cs) (z : Int) : Lay (w.setCell ⟨m.s, 7, none⟩ (.int .i64 z)) m { h with made := z } cs :=
  ⟨(heap_setCell_same w m.s 7 _ _ _ l.head).trans rfl, l.rowS _ _, l.st, l.sb, l.sc, l.ct, l.cb, l.len⟩
theorem Lay.setSweeps (l : Lay w m h cs) (z : Int) : Lay (w.setCell ⟨m.s, 8, none⟩ (.int .i64 z)) m { h with sweeps := z } cs :=
  ⟨(heap_setCell_same w m.s 8 _ _ _ l.head).trans rfl, l.rowS _ _, l.st, l.sb, l.sc, l.ct, l.cb, l.len⟩
end

theorem pin_no {w : World} {m : Mem} {h : Hd} {cs : List Nd} (l : Lay w m h cs) (k : Int) (hk : thereB cs k = false) :
    Calls Try.prog 20 #[ptrV m.s, .int .i64 k] w fun e w' => e = .returned (.int .i64 3) ∧ w = w' := by
  have H := Lib.hid (refusal_no l k hk)
  clear hk
  unfold ptrV at *
  go_enter Try.func20, Try.ntmps20
  go_wp2_with fail
  refine H.out.mono ?_
  rintro e w' ⟨rfl, rfl⟩
  go_wp2_with fail
  go_ret
  exact ⟨rfl, rfl⟩

theorem pin_full {w : World} {m : Mem} {h : Hd} {cs : List Nd} (l : Lay w m h cs) {k : Nat} {c : Nd} (hk : Is cs k c) (hp : c.pins = 1073741824) :
    Calls Try.prog 20 #[ptrV m.s, .int .i64 k] w fun e w' => e = .returned (.int .i64 2) ∧ w = w' := by
  obtain ⟨_, _, _, c3, -⟩ := l.tops
  obtain ⟨_, _, _, d3⟩ := l.cells hk.1
  have hl := hk.lt
  rw [hp] at d3
  have d3 : w.cell? ⟨m.c, k * 4 + 3, none⟩ = some (.int .i64 1073741824) := d3
  have H := Lib.hid (refusal_yes l k (thereB_is hk))
  clear hk hp
  unfold ptrV at *
  go_enter Try.func20, Try.ntmps20
  go_wp2_with fail
  refine H.out.mono ?_
  rintro e w' ⟨rfl, rfl⟩
  go_wp2_with fail
  go_ret
  exact ⟨rfl, rfl⟩

def PinOut (m : Mem) (h : Hd) (cs : List Nd) (x : Int) (w : World) (e : Ending) (w' : World) : Prop := e = .returned (.int .i64 x) ∧ St w' m h cs ∧ Turn m.own w w'

theorem St.pinned {w : World} {m : Mem} {h : Hd} {cs : List Nd} (s : St w m h cs) {k : Nat} {c : Nd} (hk : Is cs k c) (p : Nat) (hp : p ≤ 1073741824) : St (w.setCell ⟨m.c, k * 4 + 3, none⟩ (.int .i64 p)) m h (cs.set k ⟨c.asks, c.low, c.high, p⟩) ∧ Turn m.own w (w.setCell ⟨m.c, k * 4 + 3, none⟩ (.int .i64 p)) := by
  obtain ⟨f, n, h1, h2⟩ := s.tab
  have ht : Turn (fun i => i = m.c) w (w.setCell ⟨m.c, k * 4 + 3, none⟩ (.int .i64 p)) 
    := by
    refine (Turn.refl (fun i => i = m.c) w).setCell ?_ _
    exact .inl rfl
  obtain ⟨ps, u, h5, h6, h7⟩ := h1
  refine ⟨⟨s.lay.setPin hk.1 p, ⟨f, n, ⟨ps, u, ⟨⟨(ht.block _ h5.lies.lt_t s.lay.ct.symm).trans h5.lies.head, (ht.block _ h5.lies.lt_b s.lay.cb.symm).trans h5.lies.row, h5.lies.ne⟩, h5.rep, h5.pow⟩, h6, h7⟩, h2.pin hk p⟩, s.good.pin hk hp, by rw [cnt_pin hk]; exact s.nodes, s.V, s.B, by rw [cnt_pin hk]; exact s.room, ?_⟩, (Turn.refl m.own w).setCell (Or.inl (Or.inr (Or.inr (Or.inr rfl)))) _⟩
  obtain ⟨l1, l2, l3⟩ := s.lf
  refine ⟨l1, by simpa using l2, fun i hi => ?_⟩
  obtain ⟨d, hd⟩ := l3 i hi
  obtain ⟨q, hq⟩ := Grow.pin hk p i d trivial hd
  exact ⟨_, hq⟩

theorem pin_yes {w : World} {m : Mem} {h : Hd} {cs : List Nd} (s : St w m h cs) {k : Nat} {c : Nd} (hk : Is cs k c) (hp : c.pins ≠ 1073741824) :
    Calls Try.prog 20 #[ptrV m.s, .int .i64 k] w (PinOut m h (cs.set k ⟨c.asks, c.low, c.high, c.pins + 1⟩) 0 w) := by
  obtain ⟨_, _, _, c3, -⟩ := s.lay.tops
  obtain ⟨_, _, _, d3⟩ := s.lay.cells hk.1
  obtain ⟨f1, f2⟩ := s.lay.free
  have hl := hk.lt
  have hpp := s.good.pins k c hk.1
  have hq : ((c.pins : Int) == 1073741824) = false := by simp; omega
  have hs := Lib.hid (s.pinned hk (c.pins + 1) (by omega))
  have H := Lib.hid (refusal_yes s.lay k (thereB_is hk))
  have hb : (c.pins : Int) ≤ 1073741824 := by omega
  clear hk hp hpp
  unfold ptrV at *
  go_enter Try.func20, Try.ntmps20
  go_wp2_with fail
  refine H.out.mono ?_
  rintro e w' ⟨rfl, rfl⟩
  go_wp2_with fail
  go_ret
  exact ⟨rfl, hs.out.1, hs.out.2⟩

end Go.Proofs.Ytfdebadmikmnaaa
