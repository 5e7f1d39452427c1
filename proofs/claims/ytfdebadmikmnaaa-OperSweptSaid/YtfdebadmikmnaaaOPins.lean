/- Layer 4's laws: pins and sweeps beneath operations. -/
import Derived.Test.YtfdebadmikmnaaaOperTables
namespace Go.Proofs.Ytfdebadmikmnaaa
open Go.ChangeShapes Go.WideShapes Go.ChangeAt Go.RowKit Go.Maps

section
variable {V : Nat} {cs cs' : List Nd} {u v : Int} {k : Nat} {q : Qu}
theorem At.grow (x : At cs u k) (h : Grow cs cs') : At cs' u k := by
  obtain ⟨c, h1, h2⟩ := x
  obtain ⟨p, h3⟩ := h k c trivial h1
  exact ⟨_, h3, h2⟩
theorem At.gback (x : At cs v k) (h : Grow cs cs') (y : At cs' u k) : At cs u k := by
  obtain ⟨c, h1, _⟩ := x
  obtain ⟨p, h3⟩ := h k c trivial h1
  obtain ⟨d, h4, h5⟩ := y
  obtain rfl := h3.same h4
  exact ⟨c, h1, h5⟩
theorem QAt.grow (x : QAt cs u q) (h : Grow cs cs') : QAt cs' u q := ⟨x.kind, x.a.grow h, x.b.grow h, x.c.grow h⟩
theorem QAt.gback (x : QAt cs v q) (h : Grow cs cs') (y : QAt cs' u q) : QAt cs u q := ⟨x.kind, x.a.gback h y.a, x.b.gback h y.b, x.c.gback h y.c⟩
theorem At.gsays (x : At cs u k) (h : Grow cs cs') (g : NGood V cs) (g' : NGood V cs') (val : Nat → Bool) : Says V cs' val k = Says V cs val k := by
  obtain ⟨c, h1, _⟩ := x; exact h.says g g' val h1
theorem QAt.gsem (x : QAt cs u q) (h : Grow cs cs') (g : NGood V cs) (g' : NGood V cs') (val : Nat → Bool) : qsem V cs' val q = qsem V cs val q := by
  unfold qsem; rw [x.a.gsays h g g', x.b.gsays h g g', x.c.gsays h g g']
theorem Told.grow (t : Told V cs q k) (h : Grow cs cs') (g : NGood V cs) (g' : NGood V cs') : Told V cs' q k := by
  obtain ⟨c, h1, h2⟩ := t.is
  obtain ⟨p, h3⟩ := h k c trivial h1
  exact ⟨t.at0.grow h, ⟨_, h3, fun u hu => h2 u (t.at0.gback h hu)⟩, fun val => by rw [h.says g g' val h1, t.says, t.at0.gsem h g g']⟩
theorem CGood.grow {D : DataW Unit} (t : CGood V cs D) (h : Grow cs cs') (g : NGood V cs) (g' : NGood V cs') : CGood V cs' D := by
  intro q l hl hh
  obtain ⟨k, h1, h2⟩ := t q l hl hh
  exact ⟨k, h1, h2.grow h g g'⟩
end

section
variable {w w' : World} {m : Mem} {h h' : Hd} {cs cs' : List Nd} {o : Nat} {mb : Option Nat}
theorem OSt.pin (r : OSt w m h cs o mb) (s' : St w' m h cs') (ht : Turn m.own w w') (hg : Grow cs cs') : OSt w' m h cs' o mb := by
  refine ⟨s', r.no, ?_⟩
  rcases r.cache with ⟨a, b, d⟩ | ⟨b, n, D, sw, c1, c2, c3, c4, c5, c6⟩
  · exact .inl ⟨a, b.of (ht.block o b.lt r.no), d⟩
  · exact .inr ⟨b, n, D, sw, c1, c2.of (ht.block o c2.lt r.no), c3.of (ht.block b c3.lt c4), c4, c5, fun e => (c6 e).grow hg r.st.good s'.good⟩
theorem OSt.sweep (r : OSt w m h cs o mb) (s' : St w' m h' cs') (ht : Turn m.own w w') (hs : h'.sweeps = h.sweeps + 1) : OSt w' m h' cs' o mb := by
  refine ⟨s', r.no, ?_⟩
  rcases r.cache with ⟨a, b, d⟩ | ⟨b, n, D, sw, c1, c2, c3, c4, c5, c6⟩
  · exact .inl ⟨a, b.of (ht.block o b.lt r.no), by omega⟩
  · exact .inr ⟨b, n, D, sw, c1, c2.of (ht.block o c2.lt r.no), c3.of (ht.block b c3.lt c4), c4, by omega, fun e => by omega⟩
end

/-- Node k has a pin, and says so many answers. -/
def PSay (cs : List Nd) (k a : Nat) : Prop := ∃ c, Is cs k c ∧ 1 ≤ c.pins ∧ ∀ val, Says 4 cs val k = bitZ (a : Int) (tix val 4 0 0)

theorem PSay.at {cs : List Nd} {k a : Nat} (p : PSay cs k a) (g : NGood 4 cs) : At cs 0 k := by
  obtain ⟨c, h1, _⟩ := p; exact ⟨c, h1, (g.range h1).1⟩
theorem PSay.says {cs : List Nd} {k a : Nat} (p : PSay cs k a) : ∀ val, Says 4 cs val k = bitZ (a : Int) (tix val 4 0 0) := by
  obtain ⟨c, _, _, h⟩ := p; exact h
theorem PSay.ext {cs cs' : List Nd} {k a : Nat} (p : PSay cs k a) (x : Ext cs cs') (g : NGood 4 cs) (g' : NGood 4 cs') : PSay cs' k a := by
  obtain ⟨c, h1, h2, h3⟩ := p
  exact ⟨c, x k c h1, h2, fun val => (x.says g g' val h1).trans (h3 val)⟩
theorem PSay.pin {cs : List Nd} {k a j : Nat} {d : Nd} (p : PSay cs k a) (hj : Is cs j d) (g : NGood 4 cs) (g' : NGood 4 (cs.set j ⟨d.asks, d.low, d.high, d.pins + 1⟩)) : PSay (cs.set j ⟨d.asks, d.low, d.high, d.pins + 1⟩) k a := by
  obtain ⟨c, h1, h2, h3⟩ := p
  by_cases e : j = k
  · subst e
    obtain rfl := hj.same h1
    exact ⟨⟨d.asks, d.low, d.high, d.pins + 1⟩, ⟨by rw [nget_set cs j j _ hj.lt, if_pos rfl], h1.2⟩, by show 1 ≤ d.pins + 1; omega, fun val => ((Grow.pin hj (d.pins + 1)).says g g' val h1).trans (h3 val)⟩
  · exact ⟨c, ⟨by rw [nget_set cs j k _ hj.lt, if_neg e]; exact h1.1, h1.2⟩, h2, fun val => ((Grow.pin hj (d.pins + 1)).says g g' val h1).trans (h3 val)⟩
theorem PSay.sweep {cs : List Nd} {k a : Nat} (p : PSay cs k a) (g : NGood 4 cs) : PSay (swept (roots 4 cs cs.length) cs) k a := by
  obtain ⟨c, h1, h2, h3⟩ := p
  have R := roots_spec g cs.length
  have hin : k ∈ roots 4 cs cs.length := (R.mem k).2 ⟨k, h1.lt, .inr ⟨c, h1.1, by omega⟩, .here _⟩
  exact ⟨c, swept_is.2 ⟨h1, hin⟩, h2, fun val => (Says_keep g (g.swept R) (M := fun x => x ∈ roots 4 cs cs.length) (fun x d hx hd => ⟨d.pins, swept_is.2 ⟨hd, hx⟩⟩) (fun x d hx h2 hd => R.closed x d hx h2 hd) val k c h1 hin).trans (h3 val)⟩

/-- What is known in the law: with it, how often it was swept, and how many pins a node has at the most. -/
structure PSt (W : World) (m : Mem) (h : Hd) (cs : List Nd) (o : Nat) (mb : Option Nat) (c n p lb : Nat) (x : Obj) (w : World) : Prop where
  l : LSt W 1000 m h cs o mb c w
  row : w.heap[lb]? = some x
  nl : ¬ oown o m mb lb
  sw : h.sweeps = n
  pins : ∀ i d, Is cs i d → d.pins ≤ p

section
variable {W : World} {m : Mem} {h : Hd} {cs : List Nd} {o : Nat} {mb : Option Nat} {c n p lb : Nat} {x : Obj} {w : World}

theorem PSt.keep (l : PSt W m h cs o mb c n p lb x w) {w' : World} (hb : Below w.heap.size w w') : PSt W m h cs o mb c n p lb x w' := ⟨l.l.keep hb, (hb.block lb (row_lt l.row)).trans l.row, l.nl, l.sw, l.pins⟩
theorem PSt.fresh (l : PSt W m h cs o mb c n p lb x w) {cs' : List Nd} (f : Fresh cs cs') : ∀ i d, Is cs' i d → d.pins ≤ p := fun i d hd => (f i d hd).elim (l.pins i d) (fun e => by omega)

theorem PSt.ask (l : PSt W m h cs o mb c n p lb x w) (hr : c + 15 ≤ 1000) {q : Qu} {e : Ending} {w' : World} (a : AskOut m h cs o mb q w e w') :
    ∃ (k : Nat) (m' : Mem) (h' : Hd) (cs' : List Nd) (mb' : Option Nat), e = .returned (.tuple #[.int .i64 (k : Int), .int .i64 0]) ∧ PSt W m' h' cs' o mb' (c + 15) n p lb x w' ∧ Ext cs cs' ∧ m'.s = m.s ∧ At cs' 0 k ∧ ∀ val, Says 4 cs' val k = qsem 4 cs val q := by
  obtain ⟨k, xe, m', h', cs', mb', rfl, os, ex, fr, v, b, s, cn, on, hout⟩ := a
  have hV := l.l.V
  have hB := l.l.B
  have hc := l.l.cnt
  rw [hV] at cn
  rcases hout with ⟨rfl, hat, hs⟩ | ⟨_, _, hb⟩
  · obtain ⟨b1, o1⟩ := on.to_below l.l.below l.l.own l.l.below.size
    rw [hV] at hs
    exact ⟨k, m', h', cs', mb', rfl, ⟨⟨os, v.trans hV, b.trans hB, by omega, b1, o1⟩, on.row l.row l.nl, on.not_own (row_lt l.row) l.nl, s.trans l.sw, l.fresh fr⟩, ex, on.s, hat, hs⟩
  · rw [hV] at hb
    omega

theorem PSt.make (l : PSt W m h cs o mb c n p lb x w) (hr : c + 15 ≤ 1000) {z : Int} {e : Ending} {w' : World} (a : MakeOut4 m h cs z w e w') :
    ∃ (k : Nat) (m' : Mem) (h' : Hd) (cs' : List Nd), e = .returned (.tuple #[.int .i64 (k : Int), .bool true]) ∧ PSt W m' h' cs' o mb (c + 15) n p lb x w' ∧ Ext cs cs' ∧ m'.s = m.s ∧ At cs' 0 k ∧ ∀ val, Says 4 cs' val k = bitZ z (tix val 4 0 0) := by
  obtain ⟨k, t, m', h', cs', rfl, st, ex, fr, v, b, s, cn, on, hout⟩ := a
  have hB := l.l.B
  have hc := l.l.cnt
  have cn : cnt cs' + 1 ≤ cnt cs + 16 := cn
  rcases hout with ⟨rfl, hat, hs⟩ | ⟨_, _, hb⟩
  · exact ⟨k, m', h', cs', rfl, ⟨l.l.next st ex v b s (by omega) on, (Next.onext (o := o) (mb := mb) on).row l.row l.nl, (Next.onext (o := o) (mb := mb) on).not_own (row_lt l.row) l.nl, s.trans l.sw, l.fresh fr⟩, ex, on.s, hat, hs⟩
  · have hb : h.B + 2 ≤ cnt cs + 16 := hb
    omega

def PinLaw (W : World) (m : Mem) (h : Hd) (cs : List Nd) (o : Nat) (mb : Option Nat) (c n p lb : Nat) (x : Obj) (k : Nat) (e : Ending) (w' : World) : Prop :=
  e = .returned (.int .i64 0) ∧ ∃ cs', PSt W m h cs' o mb c n (p + 1) lb x w' ∧ (∃ d, Is cs' k d ∧ 1 ≤ d.pins) ∧ (∀ j a, PSay cs j a → PSay cs' j a) ∧ Grow cs cs'

theorem PSt.pin (l : PSt W m h cs o mb c n p lb x w) (hp : p ≤ 1000) {k : Nat} {u : Int} (hk : At cs u k) : Calls Try.prog 20 #[ptrV m.s, .int .i64 k] w (PinLaw W m h cs o mb c n p lb x k) := by
  obtain ⟨d, hd, _⟩ := hk
  have hpd := l.pins k d hd
  refine (pin_yes l.l.ost.st hd (by omega)).mono ?_
  rintro e w' ⟨rfl, st, ht⟩
  have hg := Grow.pin hd (d.pins + 1)
  have g' : NGood 4 (cs.set k ⟨d.asks, d.low, d.high, d.pins + 1⟩) := l.l.V ▸ st.good
  have on : ONext o m mb m mb w w' := Next.onext ⟨ht, rfl, fun _ h => .inl h⟩
  obtain ⟨b1, o1⟩ := on.to_below l.l.below l.l.own l.l.below.size
  refine ⟨rfl, _, ⟨⟨l.l.ost.pin st ht hg, l.l.V, l.l.B, by rw [cnt_pin hd]; exact l.l.cnt, b1, o1⟩, on.row l.row l.nl, l.nl, l.sw, ?_⟩, ⟨⟨d.asks, d.low, d.high, d.pins + 1⟩, ⟨by rw [nget_set cs k k _ hd.lt, if_pos rfl], hd.2⟩, by show 1 ≤ d.pins + 1; omega⟩, fun j a h => h.pin hd l.l.good g', hg⟩
  intro i y hx
  have h1 := hx.1
  rw [nget_set cs k i _ hd.lt] at h1
  by_cases e : k = i
  · rw [if_pos e] at h1
    injection h1 with h1
    rw [← h1]
    show d.pins + 1 ≤ p + 1
    omega
  · rw [if_neg e] at h1
    have := l.pins i y ⟨h1, hx.2⟩
    omega

def SweepLaw (W : World) (m : Mem) (cs : List Nd) (o : Nat) (mb : Option Nat) (c n p lb : Nat) (x : Obj) (e : Ending) (w' : World) : Prop :=
  ∃ (r : Int) (h' : Hd) (cs' : List Nd), e = .returned (.int .i64 r) ∧ PSt W m h' cs' o mb c (n + 1) p lb x w' ∧ ∀ j a, PSay cs j a → PSay cs' j a

theorem PSt.sweep (l : PSt W m h cs o mb c n p lb x w) (hn : n ≤ 1000) : Calls Try.prog 21 #[ptrV m.s] w (SweepLaw W m cs o mb c n p lb x) := by
  refine (sweep_any l.l.ost.st).mono ?_
  rintro e w' ⟨rfl, st, ht⟩
  have hw : wrap64 (h.sweeps + 1) = h.sweeps + 1 := IntWalk.wrap64_in (h.sweeps + 1) ⟨by have := l.sw; omega, by have := l.sw; omega⟩
  rw [hw] at st
  have on : ONext o m mb m mb w w' := Next.onext ⟨ht, rfl, fun _ h => .inl h⟩
  obtain ⟨b1, o1⟩ := on.to_below l.l.below l.l.own l.l.below.size
  have hc := cnt_swept (roots h.V cs cs.length) cs
  have hs := l.sw
  refine ⟨_, _, _, rfl, ⟨⟨l.l.ost.sweep st ht rfl, l.l.V, l.l.B, by have := l.l.cnt; omega, b1, o1⟩, on.row l.row l.nl, l.nl, by show h.sweeps + 1 = ((n + 1 : Nat) : Int); omega, fun i d hd => l.pins i d (swept_is.1 hd).1⟩, fun j a hj => ?_⟩
  rw [l.l.V]
  exact hj.sweep l.l.good

/-- A variable that the store does not own is written. -/
theorem PSt.store (l : PSt W m h cs o mb c n p lb x w) (hl : W.heap.size ≤ lb) {w' : World} {y : Obj} (ht : Turn (fun i => i = lb) w w') (hy : w'.heap[lb]? = some y) : PSt W m h cs o mb c n p lb y w' := by
  have no : o ≠ lb := fun e => l.nl (.inr (.inl e.symm))
  refine ⟨⟨⟨l.l.ost.st.apart ht (fun i q e => l.nl (.inl (e ▸ q))), l.l.ost.no, ?_⟩, l.l.V, l.l.B, l.l.cnt, Turn.to_below l.l.below ht (fun i hi => by omega) l.l.below.size, l.l.own⟩, hy, l.nl, l.sw, l.pins⟩
  rcases l.l.ost.cache with ⟨a, b, d⟩ | ⟨b, n, D, sw, c1, c2, c3, c4, c5, c6⟩
  · exact .inl ⟨a, b.of (ht.block o b.lt no), d⟩
  · exact .inr ⟨b, n, D, sw, c1, c2.of (ht.block o c2.lt no), c3.of (ht.block b c3.lt (fun e => l.nl (.inr (.inr (by rw [c1, e]))))), c4, c5, c6⟩
end
end Go.Proofs.Ytfdebadmikmnaaa
