/- Merged: NAdd, NMk, NMarked, NSweep, NSem, NNob. -/
import Derived.Test.YtkmffmlnondolaaMB
import Derived.Deep.RegionLaw
import Derived.Deep.RegionHeld3

/- Contract of layer 3 (node): add. -/
namespace Go.Proofs.Ytkmffmlnondolaa
open Go.ChangeShapes Go.WideShapes Go.ChangeAt Go.RowKit

theorem cnt_full {cs : List Nd} (h : ∀ i, i < cs.length → ∃ c, Is cs i c) : cnt cs = cs.length := by
  unfold cnt
  rw [List.countP_eq_length]
  intro c hc
  obtain ⟨j, hj⟩ := List.getElem?_of_mem hc
  obtain ⟨d, hd⟩ := h j (List.getElem?_eq_some_iff.1 hj).1
  have := hd.1.symm.trans hj
  injection this with this
  subst this
  simpa using hd.2

theorem flatN_snoc (cs : List Nd) (c : Nd) : flatN (cs ++ [c]) = flatN cs ++ cellsN c := by unfold flatN; rw [List.flatMap_append]; simp

theorem St.tabs {w : World} {m : Mem} {h : Hd} {cs : List Nd} (s : St w m h cs) : m.t < w.heap.size ∧ m.b < w.heap.size := by
  obtain ⟨f, n, h1, _⟩ := s.tab
  exact ⟨h1.lt.1, h1.lt.2.1⟩

/-- What is known of the world while the least free number is looked for. -/
structure Seek (m : Mem) (h : Hd) (cs : List Nd) (f : Key → Option Int) (n x i : Nat) (c : Nd) (w0 wr : World) : Prop where
  lay : Lay wr m { h with lf := i } cs
  tab : Tab wr m.t m.b f n
  turn : Turn m.own w0 wr
  box : wr.heap[x]? = some (.cells #[.int .i64 c.asks, .int .i64 c.low, .int .i64 c.high, .int .i64 c.pins] 72 (0, 0))
  xs : w0.heap.size ≤ x
  own : ∀ j, m.own j → j < w0.heap.size
  two : 2 ≤ i
  le : i ≤ cs.length
  full : ∀ j, j < i → ∃ c, Is cs j c

theorem Seek.next {m : Mem} {h : Hd} {cs : List Nd} {f : Key → Option Int} {n x i : Nat} {c : Nd} {w0 wr : World} (k : Seek m h cs f n x i c w0 wr) {d : Nd} (hd : Is cs i d) {z : Int} (hz : z = (i + 1 : Nat)) : Seek m h cs f n x (i + 1) c w0 (wr.setCell ⟨m.s, 5, none⟩ (.int .i64 z)) := by
  have hs := k.own m.s (.inl rfl)
  refine ⟨k.lay.setLf (i + 1) hz, k.tab.of (heap_setCell_other _ _ _ _ (fun e => k.lay.st e.symm)) (heap_setCell_other _ _ _ _ (fun e => k.lay.sb e.symm)), k.turn.setCell (Or.inl (Or.inl rfl)) _, (heap_setCell_other _ _ _ _ (fun e => ?_)).trans k.box, k.xs, k.own, by have := k.two; omega, hd.lt, fun j hj => ?_⟩
  · have := k.xs; simp only at e; omega
  · by_cases e : j = i
    · subst e; exact ⟨d, hd⟩
    · exact k.full j (by omega)

def lfOf (s len : Nat) (w : World) : Nat := match w.cell? ⟨s, 5, none⟩ with | some v => len - (intOf v).toNat | none => 0
theorem Seek.lfOf {m : Mem} {h : Hd} {cs : List Nd} {f : Key → Option Int} {n x i : Nat} {c : Nd} {w0 wr : World} (k : Seek m h cs f n x i c w0 wr) : lfOf m.s cs.length wr = cs.length - i := by
  obtain ⟨_, _, _, _, _, c5, -⟩ := k.lay.tops
  unfold Go.Proofs.Ytkmffmlnondolaa.lfOf
  rw [c5]; rfl

def AddOut (m : Mem) (h : Hd) (cs : List Nd) (c : Nd) (w : World) (e : Ending) (w' : World) : Prop :=
  ∃ (k : Nat) (m' : Mem) (lf' : Nat), e = .returned (.int .i64 (k : Int)) ∧ St w' m' { h with lf := lf', nodes := cnt cs + 1, made := wrap64 (h.made + 1) } (addAt cs k c) ∧ Free cs k ∧ 2 ≤ k ∧ (∀ j, j < k → ∃ d, Is cs j d) ∧ Turn m.own w w' ∧ m'.s = m.s ∧ ∀ i, m'.own i → m.own i ∨ w.heap.size ≤ i

/-- What is known of the world once the node stands in its place. -/
structure Ins (m m2 : Mem) (h : Hd) (cs : List Nd) (f : Key → Option Int) (n x k : Nat) (c : Nd) (w0 wr : World) : Prop where
  lay : Lay wr m2 { h with lf := k } (addAt cs k c)
  tab : Tab wr m.t m.b f n
  turn : Turn m.own w0 wr
  box : wr.heap[x]? = some (.cells #[.int .i64 c.asks, .int .i64 c.low, .int .i64 c.high, .int .i64 c.pins] 72 (0, 0))
  xs : w0.heap.size ≤ x
  es : m2.s = m.s
  et : m2.t = m.t
  eb : m2.b = m.b
  ec : m2.c = m.c ∨ w0.heap.size ≤ m2.c

theorem Ins.keep {m m2 : Mem} {h : Hd} {cs : List Nd} {f : Key → Option Int} {n x k : Nat} {c : Nd} {w0 wr w' : World} (i : Ins m m2 h cs f n x k c w0 wr) (hb : Below wr.heap.size wr w') : Ins m m2 h cs f n x k c w0 w' := by
  have hx : x < wr.heap.size := by
    rcases Nat.lt_or_ge x wr.heap.size with h1 | h1
    · exact h1
    · have := i.box; rw [Array.getElem?_eq_none h1] at this; cases this
  exact ⟨i.lay.keep hb, i.tab.keep hb, i.turn.below hb, (hb.block _ hx).trans i.box, i.xs, i.es, i.et, i.eb, i.ec⟩

theorem Seek.ins_set {m : Mem} {h : Hd} {cs : List Nd} {f : Key → Option Int} {n x i : Nat} {v : Int} {a b : Nat} {c0 : Nd} {w0 wr : World} (k : Seek m h cs f n x i c0 w0 wr) (hc : c0 = ⟨v, a, b, 0⟩) (hlt : i < cs.length) (q : Int) (hq : q = 0) :
    Ins m m h cs f n x i ⟨v, a, b, 0⟩ w0 ((((wr.setCell ⟨m.c, i * 4, none⟩ (.int .i64 v)).setCell ⟨m.c, i * 4 + 1, none⟩ (.int .i64 a)).setCell ⟨m.c, i * 4 + 2, none⟩ (.int .i64 b)).setCell ⟨m.c, i * 4 + 3, none⟩ (.int .i64 q)).drew := by
  subst hc hq
  have hcs := k.own m.c (.inr (.inr (.inr rfl)))
  have hx := k.xs
  have e : addAt cs i ⟨v, a, b, 0⟩ = cs.set i ⟨v, a, b, 0⟩ := by unfold addAt; rw [if_neg (by omega)]
  have o : ∀ (W : World) (j : Nat) (u : Value) (z : Nat), z ≠ m.c → (W.setCell ⟨m.c, j, none⟩ u).heap[z]? = W.heap[z]? := fun W j u z hz => heap_setCell_other _ _ _ _ hz
  have oo : ∀ z, z ≠ m.c → ((((wr.setCell ⟨m.c, i * 4, none⟩ (.int .i64 v)).setCell ⟨m.c, i * 4 + 1, none⟩ (.int .i64 a)).setCell ⟨m.c, i * 4 + 2, none⟩ (.int .i64 b)).setCell ⟨m.c, i * 4 + 3, none⟩ (.int .i64 0)).heap[z]? = wr.heap[z]? := fun z hz => by rw [o _ _ _ _ hz, o _ _ _ _ hz, o _ _ _ _ hz, o _ _ _ _ hz]
  have own : Mem.own m m.c := .inr (.inr (.inr rfl))
  refine ⟨?_, ?_, ?_, ?_, k.xs, rfl, rfl, rfl, .inl rfl⟩
  · rw [e]
    exact (k.lay.setC hlt ⟨v, a, b, 0⟩).drew
  · exact k.tab.of (oo _ k.lay.ct.symm) (oo _ k.lay.cb.symm)
  · exact ((((k.turn.setCell (p := ⟨m.c, _, none⟩) (.inl own) _).setCell (p := ⟨m.c, _, none⟩) (.inl own) _).setCell (p := ⟨m.c, _, none⟩) (.inl own) _).setCell (p := ⟨m.c, _, none⟩) (.inl own) _).drew
  · exact (oo x (by omega)).trans k.box

theorem Seek.ins_app {m : Mem} {h : Hd} {cs : List Nd} {f : Key → Option Int} {n x i : Nat} {v : Int} {a b : Nat} {c0 : Nd} {w0 wr wr' w1 : World} (k : Seek m h cs f n x i c0 w0 wr) (hc : c0 = ⟨v, a, b, 0⟩) (he : i = cs.length) (hlen : cs.length < 1048576) {g cap : Nat}
    (hwr : Below wr.heap.size wr wr') (hown : w1.ownsRow 0 72 4 (.slice (some ⟨g, 0, none⟩) (i + 1) cap) (i + 1) (flatN cs ++ [.int .i64 v, .int .i64 a, .int .i64 b, .int .i64 0])) (hg : wr'.grownBy w1 (some m.c)) (hat : some m.c = some g ∨ wr.heap.size ≤ g) :
    Ins m ⟨m.s, m.t, m.b, g, cap⟩ h cs f n x i ⟨v, a, b, 0⟩ w0 (w1.setCell ⟨m.s, 3, none⟩ (.slice (some ⟨g, 0, none⟩) (i + 1) cap)) ∧
    w1.heap[m.s]? = wr.heap[m.s]? := by
  subst hc
  have hcs := k.own m.c (.inr (.inr (.inr rfl)))
  have hss := k.own m.s (.inl rfl)
  have hts := k.own m.t (.inr (.inl rfl))
  have hbs := k.own m.b (.inr (.inr (.inl rfl)))
  have hsz := k.turn.size
  have hx := k.xs
  have hxl : x < wr.heap.size := by
    rcases Nat.lt_or_ge x wr.heap.size with h1 | h1
    · exact h1
    · have := k.box; rw [Array.getElem?_eq_none h1] at this; cases this
  have fr : ∀ z, z < wr.heap.size → z ≠ m.c → w1.heap[z]? = wr.heap[z]? := fun z hz hn =>
    (hg.block z (Nat.lt_of_lt_of_le hz hwr.size) (by simpa using hn)).trans (hwr.block z hz)
  have hgne : g ≠ m.s ∧ g ≠ m.t ∧ g ≠ m.b := by
    rcases hat with h | h
    · injection h with h; subst h; exact ⟨k.lay.sc.symm, k.lay.ct, k.lay.cb⟩
    · omega
  have e : addAt cs i ⟨v, a, b, 0⟩ = cs ++ [⟨v, a, b, 0⟩] := by unfold addAt; rw [if_pos he]
  have fs := fr m.s (by omega) k.lay.sc
  have hhead := fs.trans k.lay.head
  have hl : (addAt cs i ⟨v, a, b, 0⟩).length = i + 1 := by rw [e]; simp; omega
  refine ⟨⟨⟨?_, ?_, k.lay.st, k.lay.sb, hgne.1.symm, hgne.2.1, hgne.2.2, by rw [hl]; omega⟩, ?_, ?_, ?_, k.xs, rfl, rfl, rfl, ?_⟩, fs⟩
  · rw [hl]
    exact (heap_setCell_same w1 m.s 3 _ _ _ hhead).trans rfl
  · rw [hl, e, flatN_snoc]
    exact hown.kept (grown_set w1 m.s 3 _) (.inr (by simp only [Value.ownBlock]; intro e; injection e with e; exact hgne.1 e))
  · exact k.tab.of ((heap_setCell_other _ _ _ _ k.lay.st.symm).trans (fr m.t (by omega) k.lay.ct.symm)) ((heap_setCell_other _ _ _ _ k.lay.sb.symm).trans (fr m.b (by omega) k.lay.cb.symm))
  · exact ((k.turn.below hwr).grown hg (fun z hz => .inl (by injection hz with hz; subst hz; exact .inr (.inr (.inr rfl))))).setCell (p := ⟨m.s, 3, none⟩) (.inl (.inl rfl)) _
  · exact (heap_setCell_other _ _ _ _ (by simp only; omega)).trans ((fr x hxl (by omega)).trans k.box)
  · rcases hat with h | h
    · injection h with h; exact .inl h.symm
    · exact .inr (Nat.le_trans hsz h)

theorem wrap64_small (z : Int) (h0 : 0 ≤ z) (h1 : z ≤ 1048577) : wrap64 z = z := IntWalk.wrap64_in z ⟨by omega, by omega⟩

/-- All is counted: the store, with its new node. -/
theorem add_done {w w2 w3 w4 : World} {m m2 : Mem} {h : Hd} {cs : List Nd} (s : St w m h cs) (hroom : cnt cs < h.B) {v : Int} {a b : Nat} (h0 : 0 ≤ v) (h1 : v < h.V) (hab : a ≠ b) (hl : ∃ l, Is cs a l ∧ v < l.asks) (hh : ∃ x, Is cs b x ∧ v < x.asks)
    (hn : ∀ j d, 2 ≤ j → Is cs j d → d.key ≠ ⟨v, a, b⟩) {f : Key → Option Int} {n x k b4 : Nat} (hkeys : Keys cs f n) (hk2 : 2 ≤ k) (hf : Free cs k) (hfull : ∀ j, j < k → ∃ d, Is cs j d) (i : Ins m m2 h cs f n x k ⟨v, a, b, 0⟩ w w2) (hb3 : Below w2.heap.size w2 w3)
    (htab4 : Tab w4 m.t b4 (fset f ⟨v, a, b⟩ (some (k : Int))) (n + 1)) (hb4 : b4 = m.b ∨ w3.heap.size ≤ b4) (hm4 : Mut m.t m.b w3 w4) :
    Lay w4 ⟨m.s, m.t, b4, m2.c, m2.cap⟩ { h with lf := k } (addAt cs k ⟨v, a, b, 0⟩) ∧
    AddOut m h cs ⟨v, a, b, 0⟩ w (.returned (.int .i64 (k : Int))) ((w4.setCell ⟨m.s, 6, none⟩ (.int .i64 (wrap64 (h.nodes + 1)))).setCell ⟨m.s, 7, none⟩ (.int .i64 (wrap64 (h.made + 1)))) := by
  have hB := s.B
  have hne : (v : Int) ≠ -1 := by omega
  have hi3 := i.keep hb3
  have ls := hi3.lay.lt_s
  have lc := hi3.lay.lt_c
  have e1 := hi3.es
  rw [e1] at ls
  have hsz := i.turn.size
  have hsz3 := hb3.size
  have own := s.own_lt
  have hl4 : Lay w4 ⟨m.s, m.t, b4, m2.c, m2.cap⟩ { h with lf := k } (addAt cs k ⟨v, a, b, 0⟩) := by
    have l4 := hi3.lay.of (w' := w4) (hm4.block _ hi3.lay.lt_s (by rw [e1]; exact s.lay.st) (by rw [e1]; exact s.lay.sb)) (hm4.block _ hi3.lay.lt_c (by rw [← hi3.et]; exact hi3.lay.ct) (by rw [← hi3.eb]; exact hi3.lay.cb))
    have l4s := l4.st
    have l4c := l4.ct
    have hd := l4.head
    rw [e1, hi3.et] at hd
    have sc4 := l4.sc
    have cb4 := l4.cb
    rw [e1] at sc4
    rw [hi3.et] at l4c
    rw [hi3.eb] at cb4
    refine ⟨hd, l4.row, s.lay.st, ?_, sc4, l4c, ?_, l4.len⟩
    · show m.s ≠ b4
      rcases hb4 with rfl | h
      · exact s.lay.sb
      · omega
    · show m2.c ≠ b4
      rcases hb4 with rfl | h
      · exact cb4
      · omega
  refine ⟨hl4, k, ⟨m.s, m.t, b4, m2.c, m2.cap⟩, k, rfl, ?_, hf, hk2, hfull, ?_, rfl, ?_⟩
  · have hc := addAt_cnt (c := ⟨v, a, b, 0⟩) hf hne
    have hc2 : cnt cs ≤ 1048576 := Nat.le_trans s.room s.B
    have en : wrap64 (h.nodes + 1) = (cnt cs : Int) + 1 := by rw [s.nodes]; exact wrap64_small _ (by omega) (by omega)
    rw [en]
    refine ⟨(hl4.setNodes _).setMade _, ⟨_, n + 1, htab4.of ?_ ?_, hkeys.add hk2 hf hne ?_⟩, s.good.add hk2 hf h0 h1 hab hl hh hn, by rw [hc]; rfl, s.V, s.B, by rw [hc]; exact hroom, hk2, ?_, ?_⟩
    · exact (heap_setCell_other _ _ _ _ s.lay.st.symm).trans (heap_setCell_other _ _ _ _ s.lay.st.symm)
    · exact (heap_setCell_other _ _ _ _ hl4.sb.symm).trans (heap_setCell_other _ _ _ _ hl4.sb.symm)
    · cases hq : f (Nd.key ⟨v, a, b, 0⟩) with
      | none => rfl
      | some z =>
        obtain ⟨j, d, hj, _, hd, he⟩ := (hkeys.says _ _).1 hq
        exact absurd he.symm (hn j d hj hd)
    · show k ≤ (addAt cs k ⟨v, a, b, 0⟩).length
      rcases Nat.lt_or_ge k (addAt cs k ⟨v, a, b, 0⟩).length with h | h
      · omega
      · have := addAt_get cs k ⟨v, a, b, 0⟩ hf.1 k
        rw [if_pos rfl, List.getElem?_eq_none h] at this; cases this
    · intro j hj
      obtain ⟨d, hd⟩ := hfull j hj
      exact ⟨d, addAt_is hf hd⟩
  · have ht4 : Turn m.own w3 w4 := Turn.of_mut hm4 (.inr (.inl rfl)) (.inr (.inr (.inl rfl)))
    exact ((hi3.turn.trans ht4 fun i hi => .inl hi).setCell (p := ⟨m.s, 6, none⟩) (.inl (.inl rfl)) _).setCell (p := ⟨m.s, 7, none⟩) (.inl (.inl rfl)) _
  · rintro j (rfl | rfl | rfl | rfl)
    · exact .inl (.inl rfl)
    · exact .inl (.inr (.inl rfl))
    · rcases hb4 with rfl | h
      · exact .inl (.inr (.inr (.inl rfl)))
      · exact .inr (by show _ ≤ _; omega)
    · rcases hi3.ec with h | h
      · exact .inl (.inr (.inr (.inr h)))
      · exact .inr h

theorem key4 (v : Int) (a b : Nat) (w : World) : Calls Try.prog 40 #[.agg #[.int .i64 v, .int .i64 a, .int .i64 b, .int .i64 0]] w fun e w' => e = .returned (.agg #[.int .i64 v, .int .i64 a, .int .i64 b]) ∧ Below w.heap.size w w' := key_any ⟨v, a, b, 0⟩ w

theorem put4 {w : World} {t b0 : Nat} {f : Key → Option Int} {n : Nat} (h : Tab w t b0 f n) (v : Int) (a b : Nat) (z : Int) (hk : f ⟨v, a, b⟩ = none) (hn : n < 1048576) :
    Calls Try.prog 63 #[.pointer (some ⟨t, 0, none⟩), .agg #[.int .i64 v, .int .i64 a, .int .i64 b], .int .i64 z] w (PutOut t b0 (fset f ⟨v, a, b⟩ (some z)) (n + 1) w) := put_new h ⟨v, a, b⟩ z hk hn

theorem Ins.reads {m m2 : Mem} {h : Hd} {cs : List Nd} {f : Key → Option Int} {n x k : Nat} {v : Int} {a b : Nat} {w0 wr : World} (i : Ins m m2 h cs f n x k ⟨v, a, b, 0⟩ w0 wr) :
    wr.cell? ⟨m.s, 4, none⟩ = some (.pointer (some ⟨m.t, 0, none⟩)) ∧ wr.cell? ⟨x, 0, none⟩ = some (.int .i64 v) ∧ wr.cell? ⟨x, 1, none⟩ = some (.int .i64 a) ∧ wr.cell? ⟨x, 2, none⟩ = some (.int .i64 b) ∧ wr.cell? ⟨x, 3, none⟩ = some (.int .i64 0) := by
  obtain ⟨_, _, _, _, c4, -⟩ := i.lay.tops
  rw [i.es, i.et] at c4
  exact ⟨c4, cell_of_row wr x 0 _ _ _ i.box, cell_of_row wr x 1 _ _ _ i.box, cell_of_row wr x 2 _ _ _ i.box, cell_of_row wr x 3 _ _ _ i.box⟩

theorem below_undrew {w w' : World} (h : Below w.drew.heap.size w.drew w') : Below w.heap.size w w' := ⟨h.os, h.tape, h.output, h.size, h.block⟩

theorem Ins.reads4 {m m2 : Mem} {h : Hd} {cs : List Nd} {f : Key → Option Int} {n x k : Nat} {v : Int} {a b : Nat} {w0 w3 w4 : World} (i : Ins m m2 h cs f n x k ⟨v, a, b, 0⟩ w0 w3) (hm4 : Mut m.t m.b w3 w4) (hst : m.s ≠ m.t) (hsb : m.s ≠ m.b) (own : ∀ i, m.own i → i < w0.heap.size) :
    w4.cell? ⟨m.s, 4, none⟩ = some (.pointer (some ⟨m.t, 0, none⟩)) ∧ w4.cell? ⟨x, 0, none⟩ = some (.int .i64 v) ∧ w4.cell? ⟨x, 1, none⟩ = some (.int .i64 a) ∧ w4.cell? ⟨x, 2, none⟩ = some (.int .i64 b) ∧ w4.cell? ⟨x, 3, none⟩ = some (.int .i64 0) := by
  obtain ⟨s0, s1, s2, s3, s4⟩ := i.reads
  have hx := i.xs
  have o1 := own m.t (.inr (.inl rfl))
  have o2 := own m.b (.inr (.inr (.inl rfl)))
  have k : ∀ (z o : Nat) (u : Value), z ≠ m.t → z ≠ m.b → w3.cell? ⟨z, o, none⟩ = some u → w4.cell? ⟨z, o, none⟩ = some u := fun z o u h1 h2 hu =>
    (World.cell?_of_block (a := ⟨z, o, none⟩) (hm4.block z (World.block_lt_of_cell? w3 _ hu) h1 h2)).trans hu
  exact ⟨k _ _ _ hst hsb s0, k _ _ _ (by omega) (by omega) s1, k _ _ _ (by omega) (by omega) s2, k _ _ _ (by omega) (by omega) s3, k _ _ _ (by omega) (by omega) s4⟩

set_option maxHeartbeats 1000000 in
set_option maxRecDepth 100000 in
theorem add_any_store {w : World} {m : Mem} {h : Hd} {cs : List Nd} (s : St w m h cs) (hroom : cnt cs < h.B) {v : Int} {a b : Nat} (h0 : 0 ≤ v) (h1 : v < h.V) (hab : a ≠ b) (hl : ∃ l, Is cs a l ∧ v < l.asks) (hh : ∃ x, Is cs b x ∧ v < x.asks)
    (hn : ∀ j d, 2 ≤ j → Is cs j d → d.key ≠ ⟨v, a, b⟩) :
    Calls Try.prog 42 #[ptrV m.s, cellV ⟨v, a, b, 0⟩] w (AddOut m h cs ⟨v, a, b, 0⟩ w) := by
  obtain ⟨f, n, htab, hkeys⟩ := s.tab
  obtain ⟨lf2, lfl, lff⟩ := s.lf
  have hseek : Seek m h cs f n w.heap.size h.lf ⟨v, a, b, 0⟩ w (w.alloc (.cells #[.int .i64 v, .int .i64 a, .int .i64 b, .int .i64 0] 72)) :=
    ⟨s.lay.alloc _, htab.keep ((Below.refl _ _).alloc (Nat.le_refl _) _), (Turn.refl _ _).alloc _, heap_alloc_new w _, Nat.le_refl _, s.own_lt, lf2, lfl, lff⟩
  have HS := Lib.hid s
  have HK := Lib.hid hkeys
  have HR := Lib.hid hroom
  have HN := Lib.hid hn
  have HAB := Lib.hid hab
  have HL := Lib.hid hl
  have HH := Lib.hid hh
  have H0 := Lib.hid h0
  have H1 := Lib.hid h1
  have hfn : f ⟨v, a, b⟩ = none := by
    cases hq : f ⟨v, a, b⟩ with
    | none => rfl
    | some z =>
      obtain ⟨j, d, hj, _, hd, he⟩ := (hkeys.says _ _).1 hq
      exact absurd he.symm (hn j d hj hd)
  have HFN := Lib.hid hfn
  have HNB : Hid (n < 1048576) := by
    have h1 := hkeys.count
    have h2 := s.B
    show n < 1048576
    omega
  clear s htab hkeys hroom hn hab hl hh h0 h1 lf2 lfl lff hfn
  show Calls Try.prog 42 #[.pointer (some ⟨m.s, 0, none⟩), .agg #[.int .i64 v, .int .i64 a, .int .i64 b, .int .i64 0]] w (AddOut m h cs ⟨v, a, b, 0⟩ w)
  go_enter Try.func42, Try.ntmps42
  go_wp2_with fail
  obtain ⟨x, hx⟩ : ∃ x, w.heap.size = x := ⟨_, rfl⟩
  rw [hx] at hseek ⊢
  have HX := Lib.hid hx
  clear hx
  go_loopw [11] (fun _ wr => ∃ i, Seek m h cs f n x i ⟨v, a, b, 0⟩ w wr) (fun _ wr => lfOf m.s cs.length wr)
  case atStart => exact ⟨_, hseek⟩
  case round =>
    clear hseek
    obtain ⟨i, hk⟩ := hrel
    obtain ⟨_, _, _, c3, c4, c5, c6, c7, -⟩ := hk.lay.tops
    obtain ⟨f1, f2⟩ := hk.lay.free
    have HT := Lib.hid (there_any hk.lay (i : Int))
    have hile := hk.le
    have hlen := hk.lay.len
    have hlen' : (i : Int) ≤ 1048576 := by omega
    clear hlen
    cases ht : thereB cs i with
    | true =>
      obtain ⟨_, d, hi, hd⟩ := thereB_true ht
      obtain rfl : i = _ := Int.ofNat.inj hi
      have NX := Lib.hid (hk.next hd (z := (i : Int) + 1) (by omega))
      have ML := Lib.hid hk.lfOf
      have HIL := Lib.hid hd.lt
      clear hd
      unfold ptrV at HT
      rw [ht] at HT
      clear ht
      go_wp2_with fail
      refine HT.out.mono ?_
      rintro e w' ⟨rfl, rfl⟩
      go_wp2_with fail
      exact ⟨⟨i + 1, NX.out⟩, by have := HIL.out; rw [NX.out.lfOf, ML.out]; omega⟩
    | false =>
      unfold ptrV at HT
      rw [ht] at HT
      have hfree : Free cs i := ⟨hile, fun c hc => by
        rcases Decidable.em (c.asks = -1) with h | h
        · exact h
        · rw [thereB_is ⟨hc, h⟩] at ht; cases ht⟩
      have HF := Lib.hid hfree
      have HTWO := Lib.hid hk.two
      have HFU := Lib.hid hk.full
      clear ht hfree
      have b0 := cell_of_row wr x 0 _ _ _ hk.box
      have b1 := cell_of_row wr x 1 _ _ _ hk.box
      have b2 := cell_of_row wr x 2 _ _ _ hk.box
      have b3 := cell_of_row wr x 3 _ _ _ hk.box
      simp at b0 b1 b2 b3
      by_cases he : i = cs.length
      · rw [← he] at c3
        have HE := Lib.hid he
        clear he
        go_wp2_with fail
        refine HT.out.mono ?_
        rintro e w' ⟨rfl, rfl⟩
        go_wp2_with fail
        obtain ⟨i0, hi0, hz0, hz1, hz2⟩ := info_parts info_cell
        have hlen := hk.lay.len
        have hcl : cs.length < 1048576 := by
          have h1 := HR.out
          have h2 := HS.out.B
          have h3 := cnt_full (cs := cs) (fun j hj => hk.full j (by have := HE.out; omega))
          omega
        have mx : i + 1 ≤ maxLen := by unfold maxLen; omega
        have mb : (i + 1) * 32 ≤ 140737488355328 := by omega
        have ROW : ((wr.alloc (.cells #[.int .i64 v, .int .i64 a, .int .i64 b, .int .i64 0] 72)).drew).ownsRow 0 72 4 (.slice (some ⟨m.c, 0, none⟩) i m.cap) i (flatN cs) := by
          have := hk.lay.row
          rw [← HE.out] at this
          exact (this.alloc _)
        have BW : Below wr.heap.size wr (wr.alloc (.cells #[.int .i64 v, .int .i64 a, .int .i64 b, .int .i64 0] 72)).drew := ((Below.refl _ _).alloc (Nat.le_refl _) _).drew
        have a3 : (wr.alloc (.cells #[.int .i64 v, .int .i64 a, .int .i64 b, .int .i64 0] 72)).cell? ⟨m.s, 3, none⟩ = some (.slice (some ⟨m.c, 0, none⟩) i m.cap) := by
          have := (hk.lay.alloc (.cells #[.int .i64 v, .int .i64 a, .int .i64 b, .int .i64 0] 72)).tops.2.2.2.1
          rw [← HE.out] at this
          exact this
        have HKK := Lib.hid hk
        have HCL := Lib.hid hcl
        have HROW := Lib.hid ROW
        have HBW := Lib.hid BW
        have HMX := Lib.hid mx
        have HMB := Lib.hid mb
        clear hk hlen hcl ROW BW mx mb
        go_region_law (first
          | (refine step_append_lies _ rfl (.tmp 34) (.tmp 36) 63 rfl 0 72 i0 _ 4 32 Try.underlying63 hi0 hz0 hz1 hz2 rfl (by omega) (.slice (some ⟨m.c, 0, none⟩) i m.cap) i (flatN cs) (by simp [Act.eval]) HROW.out ⟨wr.heap.size, 0, none⟩ 1 1 [.int .i64 v, .int .i64 a, .int .i64 b, .int .i64 0] (by simp [Act.eval]) (by rfl)
              (World.news_of_block (cs := #[.int .i64 v, .int .i64 a, .int .i64 b, .int .i64 0]) (t := 72) (fr := (0, 0)) (heap_alloc_new wr _)) (news4_one _ _ _ _) (by omega) HMX.out HMB.out (Nat.zero_le _) (wr.heap.size + 1) (by simp) ?_; intro g cap w1 hown hgrow hat hlt2; have hins0 := HKK.out.ins_app rfl HE.out HCL.out HBW.out hown hgrow (hat.imp id (fun h => by omega)); have c32 := cell_of_row w1 m.s 3 _ _ _ (hins0.2.trans HKK.out.lay.head); have f32 := frozen_of_row w1 m.s 3 _ _ (hins0.2.trans HKK.out.lay.head); have hins := hins0.1; clear hins0 hown hgrow hat hlt2))
        all_goals
          clear c3 c4 c5 c6 c7 f1 f2 b0 b1 b2 b3 a3
          go_wp2_with fail
          clear c32 f32
          revert hins
          generalize w1.setCell ⟨m.s, 3, none⟩ (.slice (some ⟨g, 0, none⟩) (i + 1) cap) = w2
          intro hins
          have HW := Lib.hid hins
          obtain ⟨s0, s1, s2, s3, s4⟩ := hins.reads
          clear hins
          go_region_held3 (fun w' => w'.cell? ⟨m.s, 4, none⟩ = some (.pointer (some ⟨m.t, 0, none⟩)) ∧ w'.cell? ⟨x, 0, none⟩ = some (.int .i64 v) ∧ w'.cell? ⟨x, 1, none⟩ = some (.int .i64 a) ∧ w'.cell? ⟨x, 2, none⟩ = some (.int .i64 b) ∧ w'.cell? ⟨x, 3, none⟩ = some (.int .i64 0))
            (first | exact ⟨s0, s1, s2, s3, s4⟩ | exact ⟨by assumption, by assumption, by assumption, by assumption, by assumption⟩ | go_keep)
            (first
              | (go_at_call 40; refine (key4 v a b _).mono ?_; rintro e w3 ⟨rfl, hb3⟩; have hb3 := Lib.hid (below_undrew hb3); have hi3 := Lib.hid (HW.out.keep hb3.out); obtain ⟨t0, t1, t2, t3, t4⟩ := hi3.out.reads)
              | (go_at_call 63; refine (put4 hi3.out.tab v a b _ HFN.out HNB.out).mono ?_; rintro e w4 ⟨rfl, b4, htab4, hb4, hm4⟩; obtain ⟨q0, q1, q2, q3, q4⟩ := hi3.out.reads4 hm4 HS.out.lay.st HS.out.lay.sb HS.out.own_lt; have htab4 := Lib.hid htab4; have hb4 := Lib.hid hb4; have hm4 := Lib.hid hm4))
          have AD := add_done HS.out HR.out H0.out H1.out HAB.out HL.out HH.out HN.out HK.out HTWO.out HF.out HFU.out HW.out hb3.out htab4.out hb4.out hm4.out
          have c6 : w4.cell? ⟨m.s, 6, none⟩ = some (.int .i64 h.nodes) := AD.1.tops.2.2.2.2.2.2.1
          have f6 : w4.frozen? ⟨m.s, 6, none⟩ = false := AD.1.free.1 6
          have c7 : (w4.setCell ⟨m.s, 6, none⟩ (.int .i64 (wrap64 (h.nodes + 1)))).cell? ⟨m.s, 7, none⟩ = some (.int .i64 h.made) := (AD.1.setNodes (wrap64 (h.nodes + 1))).tops.2.2.2.2.2.2.2.1
          have f7 : (w4.setCell ⟨m.s, 6, none⟩ (.int .i64 (wrap64 (h.nodes + 1)))).frozen? ⟨m.s, 7, none⟩ = false := (AD.1.setNodes (wrap64 (h.nodes + 1))).free.1 7
          have A1 := Lib.hid (add_any (y := 1) c6 f6)
          have A2 := Lib.hid (add_any (y := 1) c7 f7)
          have AD := Lib.hid AD.2
          clear c6 f6 c7 f7 q0 q1 q2 q3 q4 t0 t1 t2 t3 t4 s0 s1 s2 s3 s4
          go_wp2_with fail
          refine A1.out.mono ?_
          rintro e w5 ⟨rfl, rfl⟩
          go_wp2_with fail
          refine A2.out.mono ?_
          rintro e w6 ⟨rfl, rfl⟩
          go_wp2_with fail
          go_ret
          exact AD.out
      · have hlt : i < cs.length := by omega
        have hq : ((i : Int) == (cs.length : Int)) = false := by simp; omega
        obtain ⟨p, hp⟩ : ∃ p, cs[i]? = some p := ⟨_, List.getElem?_eq_getElem hlt⟩
        obtain ⟨d0, d1, d2, d3⟩ := hk.lay.cells hp
        clear he hp
        go_wp2_with fail
        refine HT.out.mono ?_
        rintro e w' ⟨rfl, rfl⟩
        go_wp2_with fail
        go_region
        go_wp2_with fail
        have hins := hk.ins_set rfl hlt 0 rfl
        clear hk c3 c4 c5 c6 c7 f1 f2 b0 b1 b2 b3 d0 d1 d2 d3 hlt hq
        revert hins
        generalize (((((wr.setCell ⟨m.c, i * 4, none⟩ (.int .i64 v)).setCell ⟨m.c, i * 4 + 1, none⟩ (.int .i64 a)).setCell ⟨m.c, i * 4 + 2, none⟩ (.int .i64 b)).setCell ⟨m.c, i * 4 + 3, none⟩ (.int .i64 0)).drew) = w2
        intro hins
        have HW := Lib.hid hins
        obtain ⟨s0, s1, s2, s3, s4⟩ := hins.reads
        clear hins
        go_region_held3 (fun w' => w'.cell? ⟨m.s, 4, none⟩ = some (.pointer (some ⟨m.t, 0, none⟩)) ∧ w'.cell? ⟨x, 0, none⟩ = some (.int .i64 v) ∧ w'.cell? ⟨x, 1, none⟩ = some (.int .i64 a) ∧ w'.cell? ⟨x, 2, none⟩ = some (.int .i64 b) ∧ w'.cell? ⟨x, 3, none⟩ = some (.int .i64 0))
          (first | exact ⟨s0, s1, s2, s3, s4⟩ | exact ⟨by assumption, by assumption, by assumption, by assumption, by assumption⟩ | go_keep)
          (first
            | (go_at_call 40; refine (key4 v a b _).mono ?_; rintro e w3 ⟨rfl, hb3⟩; have hb3 := Lib.hid (below_undrew hb3); have hi3 := Lib.hid (HW.out.keep hb3.out); obtain ⟨t0, t1, t2, t3, t4⟩ := hi3.out.reads)
            | (go_at_call 63; refine (put4 hi3.out.tab v a b _ HFN.out HNB.out).mono ?_; rintro e w4 ⟨rfl, b4, htab4, hb4, hm4⟩; obtain ⟨q0, q1, q2, q3, q4⟩ := hi3.out.reads4 hm4 HS.out.lay.st HS.out.lay.sb HS.out.own_lt; have htab4 := Lib.hid htab4; have hb4 := Lib.hid hb4; have hm4 := Lib.hid hm4))
        have AD := add_done HS.out HR.out H0.out H1.out HAB.out HL.out HH.out HN.out HK.out HTWO.out HF.out HFU.out HW.out hb3.out htab4.out hb4.out hm4.out
        have c6 : w4.cell? ⟨m.s, 6, none⟩ = some (.int .i64 h.nodes) := AD.1.tops.2.2.2.2.2.2.1
        have f6 : w4.frozen? ⟨m.s, 6, none⟩ = false := AD.1.free.1 6
        have c7 : (w4.setCell ⟨m.s, 6, none⟩ (.int .i64 (wrap64 (h.nodes + 1)))).cell? ⟨m.s, 7, none⟩ = some (.int .i64 h.made) := (AD.1.setNodes (wrap64 (h.nodes + 1))).tops.2.2.2.2.2.2.2.1
        have f7 : (w4.setCell ⟨m.s, 6, none⟩ (.int .i64 (wrap64 (h.nodes + 1)))).frozen? ⟨m.s, 7, none⟩ = false := (AD.1.setNodes (wrap64 (h.nodes + 1))).free.1 7
        have A1 := Lib.hid (add_any (y := 1) c6 f6)
        have A2 := Lib.hid (add_any (y := 1) c7 f7)
        have AD := Lib.hid AD.2
        clear c6 f6 c7 f7 q0 q1 q2 q3 q4 t0 t1 t2 t3 t4 s0 s1 s2 s3 s4
        go_wp2_with fail
        refine A1.out.mono ?_
        rintro e w5 ⟨rfl, rfl⟩
        go_wp2_with fail
        refine A2.out.mono ?_
        rintro e w6 ⟨rfl, rfl⟩
        go_wp2_with fail
        go_ret
        exact AD.out
end Go.Proofs.Ytkmffmlnondolaa

/- Contract of layer 3 (node): Mk. -/
namespace Go.Proofs.Ytkmffmlnondolaa
open Go.ChangeShapes Go.WideShapes Go.ChangeAt Go.RowKit

theorem mk_arg {w : World} {m : Mem} {h : Hd} {cs : List Nd} (l : Lay w m h cs) (v a b : Int) (hv : v < 0 ∨ h.V ≤ v ∨ behindB cs a v = false ∨ behindB cs b v = false) :
    Calls Try.prog 17 #[ptrV m.s, .int .i64 v, .int .i64 a, .int .i64 b] w fun e w' => e = .returned (.tuple #[.int .i64 0, .int .i64 1]) ∧ w = w' := by
  obtain ⟨_, c1, -⟩ := l.tops
  have H := Lib.hid (given_store l)
  have HA := Lib.hid (behind_any l a v)
  have HB := Lib.hid (behind_any l b v)
  unfold ptrV at *
  by_cases h0 : v < 0
  · clear hv
    go_enter Try.func17, Try.ntmps17
    go_wp2_with fail
    refine H.out.mono ?_
    rintro e w' ⟨rfl, rfl⟩
    go_wp2_with fail
    go_ret2
    exact ⟨rfl, rfl⟩
  · by_cases h1 : (h.V : Int) ≤ v
    · clear hv
      go_enter Try.func17, Try.ntmps17
      go_wp2_with fail
      refine H.out.mono ?_
      rintro e w' ⟨rfl, rfl⟩
      go_wp2_with fail
      go_ret2
      exact ⟨rfl, rfl⟩
    · cases ha : behindB cs a v with
      | false =>
        rw [ha] at HA
        clear hv ha
        go_enter Try.func17, Try.ntmps17
        go_wp2_with fail
        refine H.out.mono ?_
        rintro e w' ⟨rfl, rfl⟩
        go_wp2_with fail
        refine HA.out.mono ?_
        rintro e w' ⟨rfl, rfl⟩
        go_wp2_with fail
        go_ret2
        exact ⟨rfl, rfl⟩
      | true =>
        have hb : behindB cs b v = false := by
          rcases hv with h | h | h | h
          · omega
          · omega
          · rw [ha] at h; cases h
          · exact h
        rw [ha] at HA
        rw [hb] at HB
        clear hv ha hb
        go_enter Try.func17, Try.ntmps17
        go_wp2_with fail
        refine H.out.mono ?_
        rintro e w' ⟨rfl, rfl⟩
        go_wp2_with fail
        refine HA.out.mono ?_
        rintro e w' ⟨rfl, rfl⟩
        go_wp2_with fail
        refine HB.out.mono ?_
        rintro e w' ⟨rfl, rfl⟩
        go_wp2_with fail
        go_ret2
        exact ⟨rfl, rfl⟩

theorem mk_same {w : World} {m : Mem} {h : Hd} {cs : List Nd} (l : Lay w m h cs) {v : Int} {a : Nat} {c : Nd} (h0 : 0 ≤ v) (h1 : v < h.V) (ha : Is cs a c) (hv : v < c.asks) :
    Calls Try.prog 17 #[ptrV m.s, .int .i64 v, .int .i64 a, .int .i64 a] w fun e w' => e = .returned (.tuple #[.int .i64 a, .int .i64 0]) ∧ w = w' := by
  obtain ⟨_, c1, -⟩ := l.tops
  have H := Lib.hid (given_store l)
  have HA := behind_any l a v
  rw [behindB_is ha hv] at HA
  have HA := Lib.hid HA
  unfold ptrV at *
  clear ha hv
  go_enter Try.func17, Try.ntmps17
  go_wp2_with fail
  refine H.out.mono ?_
  rintro e w' ⟨rfl, rfl⟩
  go_wp2_with fail
  refine HA.out.mono ?_
  rintro e w' ⟨rfl, rfl⟩
  go_wp2_with fail
  refine HA.out.mono ?_
  rintro e w' ⟨rfl, rfl⟩
  go_wp2_with fail
  go_ret2
  exact ⟨rfl, rfl⟩

/-- Up to the asked table: what is known of the world. -/
structure Ask (m : Mem) (h : Hd) (cs : List Nd) (f : Key → Option Int) (n x : Nat) (v : Int) (a b : Nat) (w0 wr : World) : Prop where
  st : St wr m h cs
  tab : Tab wr m.t m.b f n
  below : Below w0.heap.size w0 wr
  box : wr.heap[x]? = some (.cells #[.int .i64 v, .int .i64 a, .int .i64 b, .int .i64 0] 72 (0, 0))

theorem Ask.keep {m : Mem} {h : Hd} {cs : List Nd} {f : Key → Option Int} {n x : Nat} {v : Int} {a b : Nat} {w0 wr w' : World} (i : Ask m h cs f n x v a b w0 wr) (hb : Below wr.heap.size wr w') : Ask m h cs f n x v a b w0 w' := by
  have hx : x < wr.heap.size := by
    rcases Nat.lt_or_ge x wr.heap.size with h1 | h1
    · exact h1
    · have := i.box; rw [Array.getElem?_eq_none h1] at this; cases this
  exact ⟨i.st.keep hb, i.tab.keep hb, i.below.trans (hb.mono i.below.size), (hb.block _ hx).trans i.box⟩

theorem Ask.reads {m : Mem} {h : Hd} {cs : List Nd} {f : Key → Option Int} {n x : Nat} {v : Int} {a b : Nat} {w0 wr : World} (i : Ask m h cs f n x v a b w0 wr) :
    wr.cell? ⟨m.s, 4, none⟩ = some (.pointer (some ⟨m.t, 0, none⟩)) ∧ wr.cell? ⟨x, 0, none⟩ = some (.int .i64 v) ∧ wr.cell? ⟨x, 1, none⟩ = some (.int .i64 a) ∧ wr.cell? ⟨x, 2, none⟩ = some (.int .i64 b) ∧ wr.cell? ⟨x, 3, none⟩ = some (.int .i64 0) := by
  obtain ⟨_, _, _, _, c4, -⟩ := i.st.lay.tops
  exact ⟨c4, cell_of_row wr x 0 _ _ _ i.box, cell_of_row wr x 1 _ _ _ i.box, cell_of_row wr x 2 _ _ _ i.box, cell_of_row wr x 3 _ _ _ i.box⟩

theorem get4_some {w : World} {t b0 : Nat} {f : Key → Option Int} {n : Nat} (h : Tab w t b0 f n) (v : Int) (a b : Nat) (z : Int) (hk : f ⟨v, a, b⟩ = some z) :
    Calls Try.prog 39 #[.pointer (some ⟨t, 0, none⟩), .agg #[.int .i64 v, .int .i64 a, .int .i64 b]] w fun e w' => e = .returned (.tuple #[.int .i64 z, .int .i64 0]) ∧ Below w.heap.size w w' := get_some h ⟨v, a, b⟩ z hk
theorem get4_none {w : World} {t b0 : Nat} {f : Key → Option Int} {n : Nat} (h : Tab w t b0 f n) (v : Int) (a b : Nat) (hk : f ⟨v, a, b⟩ = none) :
    Calls Try.prog 39 #[.pointer (some ⟨t, 0, none⟩), .agg #[.int .i64 v, .int .i64 a, .int .i64 b]] w fun e w' => e = .returned (.tuple #[.int .i64 0, .int .i64 3]) ∧ Below w.heap.size w w' := get_none h ⟨v, a, b⟩ hk

def MkFullOut (w : World) (e : Ending) (w' : World) : Prop := e = .returned (.tuple #[.int .i64 0, .int .i64 30]) ∧ Below w.heap.size w w'

def MkOut (m : Mem) (h : Hd) (cs : List Nd) (v : Int) (a b : Nat) (w : World) (e : Ending) (w' : World) : Prop :=
  ∃ (k : Nat) (m' : Mem) (lf' : Nat), e = .returned (.tuple #[.int .i64 (k : Int), .int .i64 0]) ∧ St w' m' { h with lf := lf', nodes := cnt cs + 1, made := wrap64 (h.made + 1) } (addAt cs k ⟨v, a, b, 0⟩) ∧ Free cs k ∧ 2 ≤ k ∧ (∀ j, j < k → ∃ d, Is cs j d) ∧
    Turn m.own w w' ∧ m'.s = m.s ∧ ∀ i, m'.own i → m.own i ∨ w.heap.size ≤ i

def MkNoneOut (m : Mem) (h : Hd) (cs : List Nd) (v : Int) (a b : Nat) (w : World) (e : Ending) (w' : World) : Prop := if cnt cs = h.B then MkFullOut w e w' else MkOut m h cs v a b w e w'

set_option maxHeartbeats 1000000 in
set_option maxRecDepth 100000 in
/-- The node that there is of these three. -/
theorem mk_old {w : World} {m : Mem} {h : Hd} {cs : List Nd} (s : St w m h cs) {v : Int} {a b k : Nat} {ca cb ck : Nd} (h0 : 0 ≤ v) (h1 : v < h.V) (ha : Is cs a ca) (hva : v < ca.asks) (hb : Is cs b cb) (hvb : v < cb.asks) (hab : a ≠ b)
    (hk2 : 2 ≤ k) (hk : Is cs k ck) (hkk : ck.key = ⟨v, a, b⟩) :
    Calls Try.prog 17 #[ptrV m.s, .int .i64 v, .int .i64 a, .int .i64 b] w fun e w' => e = .returned (.tuple #[.int .i64 k, .int .i64 0]) ∧ Below w.heap.size w w' := by
  obtain ⟨_, c1, -⟩ := s.lay.tops
  have H := Lib.hid (given_store s.lay)
  have HA := behind_any s.lay a v
  have HB := behind_any s.lay b v
  rw [behindB_is ha hva] at HA
  rw [behindB_is hb hvb] at HB
  have HA := Lib.hid HA
  have HB := Lib.hid HB
  obtain ⟨f, n, htab, hkeys⟩ := s.tab
  have hf : Hid (f ⟨v, a, b⟩ = some (k : Int)) := (hkeys.says _ _).2 ⟨k, ck, hk2, rfl, hk, hkk.symm⟩
  have hask : Ask m h cs f n w.heap.size v a b w (w.alloc (.cells #[.int .i64 v, .int .i64 a, .int .i64 b, .int .i64 0] 72)) :=
    ⟨s.keep ((Below.refl _ _).alloc (Nat.le_refl _) _), htab.keep ((Below.refl _ _).alloc (Nat.le_refl _) _), (Below.refl _ _).alloc (Nat.le_refl _) _, heap_alloc_new w _⟩
  have hne : ((a : Int) == (b : Int)) = false := by simp; omega
  unfold ptrV at *
  clear ha hva hb hvb htab hkeys hk hkk hk2 hab s
  go_enter Try.func17, Try.ntmps17
  go_wp2_with fail
  refine H.out.mono ?_
  rintro e w' ⟨rfl, rfl⟩
  go_wp2_with fail
  refine HA.out.mono ?_
  rintro e w' ⟨rfl, rfl⟩
  go_wp2_with fail
  refine HB.out.mono ?_
  rintro e w' ⟨rfl, rfl⟩
  go_wp2_with fail
  obtain ⟨x, hx⟩ : ∃ x, w.heap.size = x := ⟨_, rfl⟩
  rw [hx] at hask ⊢
  revert hask
  generalize w.alloc (.cells #[.int .i64 v, .int .i64 a, .int .i64 b, .int .i64 0] 72) = w1
  intro hask
  have HX := Lib.hid hx
  clear hx c1 hne
  obtain ⟨s0, s1, s2, s3, s4⟩ := hask.reads
  have HW := Lib.hid hask
  clear hask
  go_region_held3 (fun w' => w'.cell? ⟨m.s, 4, none⟩ = some (.pointer (some ⟨m.t, 0, none⟩)) ∧ w'.cell? ⟨x, 0, none⟩ = some (.int .i64 v) ∧ w'.cell? ⟨x, 1, none⟩ = some (.int .i64 a) ∧ w'.cell? ⟨x, 2, none⟩ = some (.int .i64 b) ∧ w'.cell? ⟨x, 3, none⟩ = some (.int .i64 0))
    (first | exact ⟨s0, s1, s2, s3, s4⟩ | exact ⟨by assumption, by assumption, by assumption, by assumption, by assumption⟩ | go_keep)
    (first
      | (go_at_call 40; refine (key4 v a b _).mono ?_; rintro e w3 ⟨rfl, hb3⟩; have hi3 := Lib.hid (HW.out.keep (below_undrew hb3)); obtain ⟨t0, t1, t2, t3, t4⟩ := hi3.out.reads; have hb3 := Lib.hid hb3)
      | (go_at_call 39; refine (get4_some hi3.out.tab v a b _ hf.out).mono ?_; rintro e w4 ⟨rfl, hb4⟩; have hi4 := Lib.hid (hi3.out.keep hb4); obtain ⟨q0, q1, q2, q3, q4⟩ := hi4.out.reads; have hb4 := Lib.hid hb4))
  go_wp2_with fail
  go_ret2
  exact ⟨rfl, hi4.out.below⟩

set_option maxHeartbeats 1000000 in
set_option maxRecDepth 100000 in
/-- There is no such node: a new one, or no room. -/
theorem mk_none {w : World} {m : Mem} {h : Hd} {cs : List Nd} (s : St w m h cs) {v : Int} {a b : Nat} {ca cb : Nd} (h0 : 0 ≤ v) (h1 : v < h.V) (ha : Is cs a ca) (hva : v < ca.asks) (hb : Is cs b cb) (hvb : v < cb.asks) (hab : a ≠ b)
    (hn : ∀ j d, 2 ≤ j → Is cs j d → d.key ≠ ⟨v, a, b⟩) :
    Calls Try.prog 17 #[ptrV m.s, .int .i64 v, .int .i64 a, .int .i64 b] w (MkNoneOut m h cs v a b w) := by
  obtain ⟨_, c1, -⟩ := s.lay.tops
  have H := Lib.hid (given_store s.lay)
  have HA := behind_any s.lay a v
  have HB := behind_any s.lay b v
  rw [behindB_is ha hva] at HA
  rw [behindB_is hb hvb] at HB
  have HA := Lib.hid HA
  have HB := Lib.hid HB
  obtain ⟨f, n, htab, hkeys⟩ := s.tab
  have hf : Hid (f ⟨v, a, b⟩ = none) := by
    show f ⟨v, a, b⟩ = none
    cases hq : f ⟨v, a, b⟩ with
    | none => rfl
    | some z =>
      obtain ⟨j, d, hj, _, hd, he⟩ := (hkeys.says _ _).1 hq
      exact absurd he.symm (hn j d hj hd)
  have hask : Ask m h cs f n w.heap.size v a b w (w.alloc (.cells #[.int .i64 v, .int .i64 a, .int .i64 b, .int .i64 0] 72)) :=
    ⟨s.keep ((Below.refl _ _).alloc (Nat.le_refl _) _), htab.keep ((Below.refl _ _).alloc (Nat.le_refl _) _), (Below.refl _ _).alloc (Nat.le_refl _) _, heap_alloc_new w _⟩
  have hne : ((a : Int) == (b : Int)) = false := by simp; omega
  have HAL : Hid (∃ l, Is cs a l ∧ v < l.asks) := ⟨ca, ha, hva⟩
  have HBL : Hid (∃ l, Is cs b l ∧ v < l.asks) := ⟨cb, hb, hvb⟩
  have HN := Lib.hid hn
  have HAB := Lib.hid hab
  unfold ptrV at *
  clear ha hva hb hvb htab hkeys hab s hn
  go_enter Try.func17, Try.ntmps17
  go_wp2_with fail
  refine H.out.mono ?_
  rintro e w' ⟨rfl, rfl⟩
  go_wp2_with fail
  refine HA.out.mono ?_
  rintro e w' ⟨rfl, rfl⟩
  go_wp2_with fail
  refine HB.out.mono ?_
  rintro e w' ⟨rfl, rfl⟩
  go_wp2_with fail
  obtain ⟨x, hx⟩ : ∃ x, w.heap.size = x := ⟨_, rfl⟩
  rw [hx] at hask ⊢
  revert hask
  generalize w.alloc (.cells #[.int .i64 v, .int .i64 a, .int .i64 b, .int .i64 0] 72) = w1
  intro hask
  have HX := Lib.hid hx
  clear hx c1 hne
  obtain ⟨s0, s1, s2, s3, s4⟩ := hask.reads
  have HW := Lib.hid hask
  clear hask
  go_region_held3 (fun w' => w'.cell? ⟨m.s, 4, none⟩ = some (.pointer (some ⟨m.t, 0, none⟩)) ∧ w'.cell? ⟨x, 0, none⟩ = some (.int .i64 v) ∧ w'.cell? ⟨x, 1, none⟩ = some (.int .i64 a) ∧ w'.cell? ⟨x, 2, none⟩ = some (.int .i64 b) ∧ w'.cell? ⟨x, 3, none⟩ = some (.int .i64 0))
    (first | exact ⟨s0, s1, s2, s3, s4⟩ | exact ⟨by assumption, by assumption, by assumption, by assumption, by assumption⟩ | go_keep)
    (first
      | (go_at_call 40; refine (key4 v a b _).mono ?_; rintro e w3 ⟨rfl, hb3⟩; have hi3 := Lib.hid (HW.out.keep (below_undrew hb3)); obtain ⟨t0, t1, t2, t3, t4⟩ := hi3.out.reads; have hb3 := Lib.hid hb3)
      | (go_at_call 39; refine (get4_none hi3.out.tab v a b hf.out).mono ?_; rintro e w4 ⟨rfl, hb4⟩; have hi4 := Lib.hid (hi3.out.keep hb4); obtain ⟨q0, q1, q2, q3, q4⟩ := hi4.out.reads; have hb4 := Lib.hid hb4))
  clear s0 s1 s2 s3 s4 t0 t1 t2 t3 t4 q0 q1 q2 q3 q4
  obtain ⟨_, _, c2, -⟩ := hi4.out.st.lay.tops
  obtain ⟨z, hz⟩ : ∃ z : Int, (h.B : Int) = z := ⟨_, rfl⟩
  rw [hz] at c2
  have hroom := hi4.out.st.room
  have hnodes := hi4.out.st.nodes
  have hbox := hi4.out.box
  by_cases hfull : cnt cs = h.B
  · have HFU := Lib.hid hfull
    have he : (h.nodes == z) = true := by rw [hnodes, hfull, hz]; simp
    clear hroom hnodes hbox hfull hz
    go_wp2_with fail
    go_quiet ((go_at_call 41; exact Calls.quiet_of_same ((len_store (m := m) (h := h) (cs := cs) (hi4.out.st.lay.drewN _)).mono fun _ _ hh => ⟨hh.1, hh.2.symm⟩)))
    go_wp2_with fail
    go_ret2
    unfold MkNoneOut
    rw [if_pos HFU.out]
    exact ⟨rfl, hi4.out.below.trans ((below_drewN0 w4 _).mono hi4.out.below.size)⟩
  · have HFU := Lib.hid hfull
    have he : (h.nodes == z) = false := by rw [hnodes, ← hz]; simp; omega
    have HR : Hid (cnt cs < h.B) := by show cnt cs < h.B; omega
    have b0 := cell_of_row w4 x 0 _ _ _ hbox
    have b1 := cell_of_row w4 x 1 _ _ _ hbox
    have b2 := cell_of_row w4 x 2 _ _ _ hbox
    have b3 := cell_of_row w4 x 3 _ _ _ hbox
    simp at b0 b1 b2 b3
    clear hroom hnodes hbox hfull hz
    go_wp2_with fail
    go_quiet ((go_at_call 41; exact Calls.quiet_of_same ((len_store (m := m) (h := h) (cs := cs) (hi4.out.st.lay.drewN _)).mono fun _ _ hh => ⟨hh.1, hh.2.symm⟩)))
    go_wp2_with fail
    refine (add_any_store (hi4.out.st.keep (below_drewN0 w4 _)) HR.out h0 h1 HAB.out HAL.out HBL.out HN.out).mono ?_
    rintro e w5 ⟨k, m', lf', rfl, hst, hf', hk2, hfu, htu, hs', hown⟩
    have HOUT : Hid (MkOut m h cs v a b w (.returned (.tuple #[.int .i64 k, .int .i64 0])) w5) := ⟨k, m', lf', rfl, hst, hf', hk2, hfu, (Turn.of_below (hi4.out.below.trans ((below_drewN0 w4 _).mono hi4.out.below.size))).trans htu (fun i hi => .inl hi), hs', fun i hi => (hown i hi).imp id (fun hh => Nat.le_trans hi4.out.below.size hh)⟩
    clear hst hf' hk2 hfu htu hs' hown
    go_wp2_with fail
    go_ret2
    unfold MkNoneOut
    rw [if_neg HFU.out]
    exact HOUT.out

end Go.Proofs.Ytkmffmlnondolaa

/- Contract of layer 3 (node): marked. -/
namespace Go.Proofs.Ytkmffmlnondolaa
open Go.ChangeShapes Go.WideShapes Go.ChangeAt Go.RowKit Go.Maps

end Go.Proofs.Ytkmffmlnondolaa

/- Contracts of layer 3 (node): drop, Sweep. -/
namespace Go.Proofs.Ytkmffmlnondolaa
open Go.ChangeShapes Go.WideShapes Go.ChangeAt Go.RowKit Go.Maps

end Go.Proofs.Ytkmffmlnondolaa

/- What Mk gives, by what nodes say; the laws' awake of layer 3 (node). -/
namespace Go.Proofs.Ytkmffmlnondolaa
open Go.ChangeShapes Go.WideShapes Go.ChangeAt Go.RowKit Go.Maps

/-- All nodes stay, with their pins. -/
def Ext (cs cs' : List Nd) : Prop := ∀ k c, Is cs k c → Is cs' k c
theorem Ext.refl (cs : List Nd) : Ext cs cs := fun _ _ h => h
theorem Ext.trans {a b c : List Nd} (h : Ext a b) (k : Ext b c) : Ext a c := fun i d hi => k i d (h i d hi)
theorem Ext.grow {cs cs' : List Nd} (h : Ext cs cs') : Grow cs cs' := fun k c _ hk => ⟨c.pins, h k c hk⟩
theorem Ext.says {V : Nat} {cs cs' : List Nd} (h : Ext cs cs') (g : NGood V cs) (g' : NGood V cs') (val : Nat → Bool) {k : Nat} {c : Nd} (hk : Is cs k c) : Says V cs' val k = Says V cs val k := h.grow.says g g' val hk

/-- New nodes have no pins. -/
def Fresh (cs cs' : List Nd) : Prop := ∀ i c, Is cs' i c → Is cs i c ∨ c.pins = 0
theorem Fresh.refl (cs : List Nd) : Fresh cs cs := fun _ _ h => .inl h
theorem Fresh.trans {a b c : List Nd} (h : Fresh a b) (k : Fresh b c) : Fresh a c := fun i d hd => (k i d hd).elim (h i d) .inr

/-- A store and what it owns, behind a call: its block is the same, what it owns now it owned, or is new. -/
structure Next (m m' : Mem) (w w' : World) : Prop where
  turn : Turn m.own w w'
  s : m'.s = m.s
  own : ∀ i, m'.own i → m.own i ∨ w.heap.size ≤ i

theorem Next.refl (m : Mem) (w : World) : Next m m w w := ⟨Turn.refl _ _, rfl, fun _ h => .inl h⟩
theorem Next.trans {m m1 m2 : Mem} {w w1 w2 : World} (h : Next m m1 w w1) (k : Next m1 m2 w1 w2) : Next m m2 w w2 :=
  ⟨h.turn.trans k.turn h.own, k.s.trans h.s, fun i hi => (k.own i hi).elim (h.own i) fun hh => .inr (Nat.le_trans h.turn.size hh)⟩
theorem Next.below {m : Mem} {w w' : World} (hb : Below w.heap.size w w') : Next m m w w' := ⟨Turn.of_below hb, rfl, fun _ h => .inl h⟩
/-- What the store does not own stays. -/
theorem Next.cell {m m' : Mem} {w w' : World} (h : Next m m' w w') {p : Addr} {v : Value} (hp : w.cell? p = some v) (hn : ¬ m.own p.block) : w'.cell? p = some v := h.turn.cell hp hn
theorem Next.not_own {m m' : Mem} {w w' : World} (h : Next m m' w w') {i : Nat} (hi : i < w.heap.size) (hn : ¬ m.own i) : ¬ m'.own i := fun hh => (h.own i hh).elim hn (by omega)
theorem Next.to_below {B : Nat} {m m' : Mem} {w0 w w' : World} (h : Next m m' w w') (hb : Below B w0 w) (ho : ∀ i, m.own i → B ≤ i) (hB : B ≤ w.heap.size) : Below B w0 w' ∧ ∀ i, m'.own i → B ≤ i :=
  ⟨Turn.to_below hb h.turn ho hB, fun i hi => (h.own i hi).elim (ho i) fun hh => Nat.le_trans hB hh⟩

def MkOk (m : Mem) (h : Hd) (cs : List Nd) (v a b : Nat) (w : World) (e : Ending) (w' : World) : Prop :=
  ∃ (k : Nat) (m' : Mem) (h' : Hd) (cs' : List Nd) (c : Nd), e = .returned (.tuple #[.int .i64 (k : Int), .int .i64 0]) ∧ St w' m' h' cs' ∧ Ext cs cs' ∧ Is cs' k c ∧ (v : Int) ≤ c.asks ∧
    (∀ val, Says h.V cs' val k = if val v then Says h.V cs val b else Says h.V cs val a) ∧ h'.V = h.V ∧ h'.B = h.B ∧ cnt cs' ≤ cnt cs + 1 ∧ Fresh cs cs' ∧ Next m m' w w'

def MkSem (m : Mem) (h : Hd) (cs : List Nd) (v a b : Nat) (w : World) (e : Ending) (w' : World) : Prop :=
  MkOk m h cs v a b w e w' ∨ (e = .returned (.tuple #[.int .i64 0, .int .i64 30]) ∧ Below w.heap.size w w' ∧ cnt cs = h.B)

theorem mk_sem {w : World} {m : Mem} {h : Hd} {cs : List Nd} (s : St w m h cs) {v a b : Nat} {ca cb : Nd} (h1 : v < h.V) (ha : Is cs a ca) (hva : (v : Int) < ca.asks) (hb : Is cs b cb) (hvb : (v : Int) < cb.asks) :
    Calls Try.prog 17 #[ptrV m.s, .int .i64 (v : Int), .int .i64 a, .int .i64 b] w (MkSem m h cs v a b w) := by
  have hv0 : (0 : Int) ≤ (v : Int) := by omega
  have hv1 : (v : Int) < h.V := by omega
  by_cases hab : a = b
  · subst hab
    refine (mk_same s.lay hv0 hv1 ha hva).mono ?_
    rintro e w' ⟨rfl, rfl⟩
    exact .inl ⟨a, m, h, cs, ca, rfl, s, Ext.refl _, ha, by omega, fun val => by simp, rfl, rfl, by omega, Fresh.refl _, Next.refl _ _⟩
  · rcases Classical.em (∃ k ck, 2 ≤ k ∧ Is cs k ck ∧ ck.key = ⟨v, a, b⟩) with ⟨k, ck, hk2, hk, hkk⟩ | hno
    · refine (mk_old s hv0 hv1 ha hva hb hvb hab hk2 hk hkk).mono ?_
      rintro e w' ⟨rfl, hbel⟩
      unfold Nd.key at hkk
      injection hkk with k1 k2 k3
      have k2 := Int.ofNat.inj k2
      have k3 := Int.ofNat.inj k3
      refine .inl ⟨k, m, h, cs, ck, rfl, s.keep hbel, Ext.refl _, hk, by omega, fun val => ?_, rfl, rfl, by omega, Fresh.refl _, Next.below hbel⟩
      rw [Says_step s.good val hk2 hk, k1, k2, k3, Int.toNat_natCast]
      by_cases hv : val v
      · rw [if_pos hv, if_pos hv]
      · rw [if_neg hv, if_neg hv]
    · refine (mk_none s hv0 hv1 ha hva hb hvb hab fun j d hj hd he => hno ⟨j, d, hj, hd, he⟩).mono ?_
      intro e w' hout
      unfold MkNoneOut at hout
      by_cases hf : cnt cs = h.B
      · rw [if_pos hf] at hout
        exact .inr ⟨hout.1, hout.2, hf⟩
      · rw [if_neg hf] at hout
        obtain ⟨k, m', lf', rfl, hst, hfree, hk2, hfu, htu, hs', hown⟩ := hout
        have hne : (v : Int) ≠ -1 := by omega
        have hx : Ext cs (addAt cs k ⟨v, a, b, 0⟩) := fun i d hd => addAt_is hfree hd
        have hk : Is (addAt cs k ⟨v, a, b, 0⟩) k ⟨v, a, b, 0⟩ := ⟨by rw [addAt_get cs k _ hfree.1, if_pos rfl], hne⟩
        have hfr : Fresh cs (addAt cs k ⟨v, a, b, 0⟩) := by
          intro i d hd
          have h1 := hd.1
          rw [addAt_get cs k _ hfree.1] at h1
          by_cases e : k = i
          · rw [if_pos e] at h1; injection h1 with h1; subst h1; exact .inr rfl
          · rw [if_neg e] at h1; exact .inl ⟨h1, hd.2⟩
        refine .inl ⟨k, m', _, _, _, rfl, hst, hx, hk, Int.le_refl _, fun val => ?_, rfl, rfl, by rw [addAt_cnt hfree hne]; exact Nat.le_refl _, hfr, htu, hs', hown⟩
        have g' : NGood h.V (addAt cs k ⟨v, a, b, 0⟩) := hst.good
        rw [Says_step g' val hk2 hk]
        show Says h.V _ val (if val (v : Int).toNat = true then b else a) = _
        rw [Int.toNat_natCast]
        by_cases hv : val v
        · rw [if_pos hv, if_pos hv, hx.says s.good g' val hb]
        · rw [if_neg hv, if_neg hv, hx.says s.good g' val ha]

theorem mk_room {w : World} {m : Mem} {h : Hd} {cs : List Nd} (s : St w m h cs) (hr : cnt cs < h.B) {v a b : Nat} {ca cb : Nd} (h1 : v < h.V) (ha : Is cs a ca) (hva : (v : Int) < ca.asks) (hb : Is cs b cb) (hvb : (v : Int) < cb.asks) :
    Calls Try.prog 17 #[ptrV m.s, .int .i64 (v : Int), .int .i64 a, .int .i64 b] w (MkOk m h cs v a b w) :=
  (mk_sem s h1 ha hva hb hvb).mono fun _ _ h => h.elim id fun hh => by omega

end Go.Proofs.Ytkmffmlnondolaa

/- Layer 3 (node): a store that nobody made. -/
namespace Go.Proofs.Ytkmffmlnondolaa
open Go.ChangeShapes Go.WideShapes Go.ChangeAt Go.RowKit

/-- A store that New did not give. -/
def NBs (w : World) (pv : Value) : Prop := pv = .pointer none ∨ ∃ t, pv = .pointer (some ⟨t, 0, none⟩) ∧ w.cell? ⟨t, 0, none⟩ = some (.pointer none)

theorem given_nbs {w : World} {pv : Value} (h : NBs w pv) : Calls Try.prog 37 #[pv] w fun e w' => e = .returned (.bool false) ∧ w = w' := by
  rcases h with rfl | ⟨t, rfl, h0⟩
  · go_enter Try.func37, Try.ntmps37
    go_wp2
    go_ret
    exact ⟨rfl, rfl⟩
  · have heq : (binOp .eql 22 (.pointer none) (.pointer (some ⟨t, 0, none⟩))).run Try.prog w = .ok (.bool false) w := by kernel_rfl
    go_enter Try.func37, Try.ntmps37
    go_wp2
    go_ret
    exact ⟨rfl, rfl⟩

theorem refusal_nbs {w : World} {pv : Value} (h : NBs w pv) (a : Int) : Calls Try.prog 47 #[pv, .int .i64 a] w fun e w' => e = .returned (.int .i64 1) ∧ w = w' := by
  have H := Lib.hid (given_nbs h)
  clear h
  go_enter Try.func47, Try.ntmps47
  go_wp2_with fail
  refine H.out.mono ?_
  rintro e w' ⟨rfl, rfl⟩
  go_wp2_with fail
  go_ret
  exact ⟨rfl, rfl⟩

theorem mk_nbs {w : World} {pv : Value} (h : NBs w pv) (a : Int) (b : Int) (c : Int) : Calls Try.prog 17 #[pv, .int .i64 a, .int .i64 b, .int .i64 c] w fun e w' => e = .returned (.tuple #[.int .i64 0, .int .i64 1]) ∧ w = w' := by
  have H := Lib.hid (given_nbs h)
  clear h
  go_enter Try.func17, Try.ntmps17
  go_wp2_with fail
  refine H.out.mono ?_
  rintro e w' ⟨rfl, rfl⟩
  go_wp2_with fail
  go_ret2
  exact ⟨rfl, rfl⟩

theorem node_nbs {w : World} {pv : Value} (h : NBs w pv) (a : Int) : Calls Try.prog 26 #[pv, .int .i64 a] w fun e w' => e = .returned (.tuple #[.int .i64 0, .int .i64 0, .int .i64 0, .int .i64 1]) ∧ w = w' := by
  have H := Lib.hid (refusal_nbs h a)
  clear h
  go_enter Try.func26, Try.ntmps26
  go_wp2_with fail
  refine H.out.mono ?_
  rintro e w' ⟨rfl, rfl⟩
  go_wp2_with fail
  exact bodyPost_ret (v := .tuple #[.int .i64 0, .int .i64 0, .int .i64 0, .int .i64 1]) (by simp [results, Try.results26, go_sem]) rfl ⟨rfl, rfl⟩






theorem len_nbs {w : World} {pv : Value} (h : NBs w pv) : Calls Try.prog 41 #[pv] w fun e w' => e = .returned (.int .i64 0) ∧ w = w' := by
  have H := Lib.hid (given_nbs h)
  clear h
  go_enter Try.func41, Try.ntmps41
  go_wp2_with fail
  refine H.out.mono ?_
  rintro e w' ⟨rfl, rfl⟩
  go_wp2_with fail
  go_ret
  exact ⟨rfl, rfl⟩


theorem sweeps_nbs {w : World} {pv : Value} (h : NBs w pv) : Calls Try.prog 81 #[pv] w fun e w' => e = .returned (.int .i64 0) ∧ w = w' := by
  have H := Lib.hid (given_nbs h)
  clear h
  go_enter Try.func81, Try.ntmps81
  go_wp2_with fail
  refine H.out.mono ?_
  rintro e w' ⟨rfl, rfl⟩
  go_wp2_with fail
  go_ret
  exact ⟨rfl, rfl⟩

theorem vars_nbs {w : World} {pv : Value} (h : NBs w pv) : Calls Try.prog 44 #[pv] w fun e w' => e = .returned (.int .i64 0) ∧ w = w' := by
  have H := Lib.hid (given_nbs h)
  clear h
  go_enter Try.func44, Try.ntmps44
  go_wp2_with fail
  refine H.out.mono ?_
  rintro e w' ⟨rfl, rfl⟩
  go_wp2_with fail
  go_ret
  exact ⟨rfl, rfl⟩

end Go.Proofs.Ytkmffmlnondolaa
