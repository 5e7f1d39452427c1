/- Plain facts on questions of nodes: what they say, how they are settled and split, and what is kept of them. -/
import Derived.Test.YtfdebadmikmnaaaNSem
namespace Go.Proofs.Ytfdebadmikmnaaa
open Go.ChangeShapes Go.WideShapes Go.ChangeAt Go.RowKit Go.Maps

/-- Nodes that are asked together: three as an Ite (0), two as a Xor (1). -/
structure Qu where
  kind : Nat
  a : Nat
  b : Nat
  c : Nat
  deriving DecidableEq

/-- Number k is a node that asks no variable ahead of u. -/
def At (cs : List Nd) (u : Int) (k : Nat) : Prop := ∃ c, Is cs k c ∧ u ≤ c.asks

theorem At.ext {cs cs' : List Nd} {u : Int} {k : Nat} (x : At cs u k) (h : Ext cs cs') : At cs' u k := by
  obtain ⟨c, h1, h2⟩ := x; exact ⟨c, h k c h1, h2⟩
theorem At.mono {cs : List Nd} {u v : Int} {k : Nat} (x : At cs u k) (h : v ≤ u) : At cs v k := by
  obtain ⟨c, h1, h2⟩ := x; exact ⟨c, h1, by omega⟩
theorem NGood.at0 {V : Nat} {cs : List Nd} (g : NGood V cs) {u : Int} (hu : u ≤ V) : At cs u 0 := by
  obtain ⟨p, h⟩ := g.is0; exact ⟨_, h, hu⟩
theorem NGood.at1 {V : Nat} {cs : List Nd} (g : NGood V cs) {u : Int} (hu : u ≤ V) : At cs u 1 := by
  obtain ⟨p, h⟩ := g.is1; exact ⟨_, h, hu⟩

structure QAt (cs : List Nd) (u : Int) (q : Qu) : Prop where
  kind : q.kind < 2
  a : At cs u q.a
  b : At cs u q.b
  c : At cs u q.c

theorem QAt.ext {cs cs' : List Nd} {u : Int} {q : Qu} (x : QAt cs u q) (h : Ext cs cs') : QAt cs' u q := ⟨x.kind, x.a.ext h, x.b.ext h, x.c.ext h⟩
theorem QAt.mono {cs : List Nd} {u v : Int} {q : Qu} (x : QAt cs u q) (h : v ≤ u) : QAt cs v q := ⟨x.kind, x.a.mono h, x.b.mono h, x.c.mono h⟩

/-- What a question says. -/
def qsem (V : Nat) (cs : List Nd) (val : Nat → Bool) (q : Qu) : Bool :=
  if q.kind = 1 then (Says V cs val q.a != Says V cs val q.b) else if Says V cs val q.a then Says V cs val q.b else Says V cs val q.c

theorem At.says {V : Nat} {cs cs' : List Nd} {u : Int} {k : Nat} (x : At cs u k) (h : Ext cs cs') (g : NGood V cs) (g' : NGood V cs') (val : Nat → Bool) : Says V cs' val k = Says V cs val k := by
  obtain ⟨c, h1, _⟩ := x; exact h.says g g' val h1
theorem QAt.sem {V : Nat} {cs cs' : List Nd} {u : Int} {q : Qu} (x : QAt cs u q) (h : Ext cs cs') (g : NGood V cs) (g' : NGood V cs') (val : Nat → Bool) : qsem V cs' val q = qsem V cs val q := by
  unfold qsem; rw [x.a.says h g g', x.b.says h g g', x.c.says h g g']

def setIte2 (a b c : Nat) : Qu × Nat × Bool :=
  if a = 0 then (⟨0, 0, 0, 0⟩, c, true)
  else if a = 1 then (⟨0, 0, 0, 0⟩, b, true)
  else if b = c then (⟨0, 0, 0, 0⟩, b, true)
  else if b = 1 ∧ c = 0 then (⟨0, 0, 0, 0⟩, a, true)
  else if c = 0 then (⟨0, min a b, max a b, 0⟩, 0, false)
  else if b = 1 then (⟨0, min a c, 1, max a c⟩, 0, false)
  else (⟨0, a, b, c⟩, 0, false)
def setIte (a b c : Nat) : Qu × Nat × Bool := setIte2 a (if a = b then 1 else b) (if a = c then 0 else c)
def setXor2 (x y : Nat) : Qu × Nat × Bool :=
  if x = y then (⟨0, 0, 0, 0⟩, 0, true)
  else if x = 0 then (⟨0, 0, 0, 0⟩, y, true)
  else if x = 1 then (⟨0, y, 0, 1⟩, 0, false)
  else (⟨1, x, y, 0⟩, 0, false)
def setXor (a b : Nat) : Qu × Nat × Bool := setXor2 (min a b) (max a b)
def settleQ (q : Qu) : Qu × Nat × Bool := if q.kind = 1 then setXor q.a q.b else setIte q.a q.b q.c

structure Settled (V : Nat) (cs : List Nd) (u : Int) (q : Qu) (r : Qu × Nat × Bool) : Prop where
  told : r.2.2 = true → At cs u r.2.1 ∧ ∀ val, Says V cs val r.2.1 = qsem V cs val q
  left : r.2.2 = false → QAt cs u r.1 ∧ (∀ val, qsem V cs val r.1 = qsem V cs val q) ∧ (2 ≤ r.1.a ∨ 2 ≤ r.1.b ∨ 2 ≤ r.1.c)

section
variable {V : Nat} {cs : List Nd} {u : Int}

theorem setIte2_ok {a b c : Nat} (ha : At cs u a) (hb : At cs u b) (hc : At cs u c) : Settled V cs u ⟨0, a, b, c⟩ (setIte2 a b c) := by
  have z0 := fun val => Says_zero (V := V) (cs := cs) val
  have z1 := fun val => Says_one (V := V) (cs := cs) val
  unfold setIte2
  by_cases h0 : a = 0
  · rw [if_pos h0]
    exact ⟨fun _ => ⟨hc, fun val => by simp [qsem, h0, z0]⟩, fun h => by cases h⟩
  rw [if_neg h0]
  by_cases h1 : a = 1
  · rw [if_pos h1]
    exact ⟨fun _ => ⟨hb, fun val => by simp [qsem, h1, z1]⟩, fun h => by cases h⟩
  rw [if_neg h1]
  by_cases h2 : b = c
  · rw [if_pos h2]
    exact ⟨fun _ => ⟨hb, fun val => by simp [qsem, h2]⟩, fun h => by cases h⟩
  rw [if_neg h2]
  by_cases h3 : b = 1 ∧ c = 0
  · rw [if_pos h3]
    refine ⟨fun _ => ⟨ha, fun val => ?_⟩, fun h => by cases h⟩
    simp only [qsem, h3.1, h3.2, z0, z1]
    cases Says V cs val a <;> rfl
  rw [if_neg h3]
  by_cases h4 : c = 0
  · rw [if_pos h4]
    subst h4
    refine ⟨fun h => (by cases h), fun _ => ?_⟩
    rcases Nat.le_total a b with h | h
    · rw [Nat.min_eq_left h, Nat.max_eq_right h]
      exact ⟨⟨by show 0 < 2; omega, ha, hb, hc⟩, fun val => rfl, .inl (by show 2 ≤ a; omega)⟩
    · rw [Nat.min_eq_right h, Nat.max_eq_left h]
      refine ⟨⟨by show 0 < 2; omega, hb, ha, hc⟩, fun val => ?_, .inr (.inl (by show 2 ≤ a; omega))⟩
      simp only [qsem, z0]
      cases Says V cs val a <;> cases Says V cs val b <;> rfl
  rw [if_neg h4]
  by_cases h5 : b = 1
  · rw [if_pos h5]
    subst h5
    refine ⟨fun h => (by cases h), fun _ => ?_⟩
    rcases Nat.le_total a c with h | h
    · rw [Nat.min_eq_left h, Nat.max_eq_right h]
      exact ⟨⟨by show 0 < 2; omega, ha, hb, hc⟩, fun val => rfl, .inl (by show 2 ≤ a; omega)⟩
    · rw [Nat.min_eq_right h, Nat.max_eq_left h]
      refine ⟨⟨by show 0 < 2; omega, hc, hb, ha⟩, fun val => ?_, .inr (.inr (by show 2 ≤ a; omega))⟩
      simp only [qsem, z1]
      cases Says V cs val a <;> cases Says V cs val c <;> rfl
  rw [if_neg h5]
  exact ⟨fun h => (by cases h), fun _ => ⟨⟨by show 0 < 2; omega, ha, hb, hc⟩, fun val => rfl, .inl (by show 2 ≤ a; omega)⟩⟩

theorem setIte_ok (g : NGood V cs) (hu : u ≤ V) {a b c : Nat} (ha : At cs u a) (hb : At cs u b) (hc : At cs u c) : Settled V cs u ⟨0, a, b, c⟩ (setIte a b c) := by
  have hb' : At cs u (if a = b then 1 else b) := by
    by_cases h : a = b
    · rw [if_pos h]; exact g.at1 hu
    · rw [if_neg h]; exact hb
  have hc' : At cs u (if a = c then 0 else c) := by
    by_cases h : a = c
    · rw [if_pos h]; exact g.at0 hu
    · rw [if_neg h]; exact hc
  have he : ∀ val, qsem V cs val ⟨0, a, if a = b then 1 else b, if a = c then 0 else c⟩ = qsem V cs val ⟨0, a, b, c⟩ := by
    intro val
    have z0 := Says_zero (V := V) (cs := cs) val
    have z1 := Says_one (V := V) (cs := cs) val
    simp only [qsem]
    by_cases h : a = b
    · by_cases h' : a = c
      · subst h; subst h'; simp only [if_true, z0, z1]
        cases Says V cs val a <;> rfl
      · subst h; simp only [if_true, if_neg h', z1]
        cases Says V cs val a <;> rfl
    · by_cases h' : a = c
      · subst h'; simp only [if_true, if_neg h, z0]
        cases Says V cs val a <;> rfl
      · simp only [if_neg h, if_neg h']
  obtain ⟨t, l⟩ := setIte2_ok ha hb' hc'
  refine ⟨fun h => ?_, fun h => ?_⟩
  · obtain ⟨x, y⟩ := t h; exact ⟨x, fun val => (y val).trans (he val)⟩
  · obtain ⟨x, y, z⟩ := l h; exact ⟨x, fun val => (y val).trans (he val), z⟩

theorem setXor2_ok (g : NGood V cs) (hu : u ≤ V) {x y : Nat} (hxy : x ≤ y) (hx : At cs u x) (hy : At cs u y) (c : Nat) : Settled V cs u ⟨1, x, y, c⟩ (setXor2 x y) := by
  have z0 := fun val => Says_zero (V := V) (cs := cs) val
  have z1 := fun val => Says_one (V := V) (cs := cs) val
  unfold setXor2
  by_cases h0 : x = y
  · rw [if_pos h0]
    exact ⟨fun _ => ⟨g.at0 hu, fun val => by simp [qsem, h0, z0]⟩, fun h => by cases h⟩
  rw [if_neg h0]
  by_cases h1 : x = 0
  · rw [if_pos h1]
    refine ⟨fun _ => ⟨hy, fun val => ?_⟩, fun h => by cases h⟩
    simp only [qsem, h1, z0]
    cases Says V cs val y <;> rfl
  rw [if_neg h1]
  by_cases h2 : x = 1
  · rw [if_pos h2]
    refine ⟨fun h => (by cases h), fun _ => ⟨⟨by show 0 < 2; omega, hy, g.at0 hu, g.at1 hu⟩, fun val => ?_, .inl (by show 2 ≤ y; omega)⟩⟩
    simp only [qsem, h2, z0, z1]
    cases Says V cs val y <;> rfl
  rw [if_neg h2]
  exact ⟨fun h => (by cases h), fun _ => ⟨⟨by show 1 < 2; omega, hx, hy, g.at0 hu⟩, fun val => rfl, .inl (by show 2 ≤ x; omega)⟩⟩

theorem settle_ok (g : NGood V cs) (hu : u ≤ V) {q : Qu} (hq : QAt cs u q) : Settled V cs u q (settleQ q) := by
  obtain ⟨kd, a, b, c⟩ := q
  obtain ⟨hk, ha, hb, hc⟩ := hq
  unfold settleQ
  by_cases h : kd = 1
  · subst h
    rw [if_pos rfl]
    show Settled V cs u ⟨1, a, b, c⟩ (setXor a b)
    unfold setXor
    rcases Nat.le_total a b with h | h
    · rw [Nat.min_eq_left h, Nat.max_eq_right h]
      exact setXor2_ok g hu h ha hb c
    · rw [Nat.min_eq_right h, Nat.max_eq_left h]
      have he : ∀ val, qsem V cs val ⟨1, b, a, c⟩ = qsem V cs val ⟨1, a, b, c⟩ := fun val => by
        simp only [qsem]
        cases Says V cs val a <;> cases Says V cs val b <;> rfl
      obtain ⟨t, l⟩ := setXor2_ok g hu h hb ha c
      refine ⟨fun h => ?_, fun h => ?_⟩
      · obtain ⟨x, y⟩ := t h; exact ⟨x, fun val => (y val).trans (he val)⟩
      · obtain ⟨x, y, z⟩ := l h; exact ⟨x, fun val => (y val).trans (he val), z⟩
  · have h0 : kd = 0 := by have : kd < 2 := hk; omega
    subst h0
    rw [if_neg (by show ¬ (0 : Nat) = 1; omega)]
    exact setIte_ok g hu ha hb hc

/-- What stands at a number. -/
def nd (cs : List Nd) (k : Nat) : Nd := (cs[k]?).getD Nd.gone
theorem Is.nd {k : Nat} {c : Nd} (h : Is cs k c) : nd cs k = c := by unfold Go.Proofs.Ytfdebadmikmnaaa.nd; rw [h.1]; rfl
theorem At.is {k : Nat} (x : At cs u k) : Is cs k (nd cs k) ∧ u ≤ (nd cs k).asks := by
  obtain ⟨c, h1, h2⟩ := x
  rw [h1.nd]; exact ⟨h1, h2⟩

/-- The first variable that a question hangs on. -/
def splitV (V : Nat) (cs : List Nd) (q : Qu) : Int := min (min (min (V : Int) (nd cs q.a).asks) (nd cs q.b).asks) (nd cs q.c).asks
def part (x : Bool) (v : Int) (cs : List Nd) (k : Nat) : Nat := if (nd cs k).asks = v then (if x then (nd cs k).high else (nd cs k).low) else k
/-- What is left of a question. -/
def half (x : Bool) (v : Int) (cs : List Nd) (q : Qu) : Qu := ⟨q.kind, part x v cs q.a, part x v cs q.b, part x v cs q.c⟩

theorem two_asks (g : NGood V cs) {k : Nat} (h2 : 2 ≤ k) (x : At cs u k) : 0 ≤ (nd cs k).asks ∧ (nd cs k).asks < V := by
  obtain ⟨h1, _⟩ := x.is
  have := g.ok k _ h2 h1
  exact ⟨this.1, this.2.1⟩

theorem splitV_range (g : NGood V cs) {q : Qu} (hq : QAt cs u q) (h2 : 2 ≤ q.a ∨ 2 ≤ q.b ∨ 2 ≤ q.c) : 0 ≤ splitV V cs q ∧ splitV V cs q < V ∧ u ≤ splitV V cs q := by
  have ra := g.range hq.a.is.1
  have rb := g.range hq.b.is.1
  have rc := g.range hq.c.is.1
  have ua := hq.a.is.2
  have ub := hq.b.is.2
  have uc := hq.c.is.2
  unfold splitV
  rcases h2 with h | h | h
  · have := two_asks g h hq.a; omega
  · have := two_asks g h hq.b; omega
  · have := two_asks g h hq.c; omega

theorem part_at (g : NGood V cs) {k : Nat} {v : Int} (hv : v < V) (x : At cs v k) (s : Bool) : At cs (v + 1) (part s v cs k) := by
  obtain ⟨h1, h2⟩ := x.is
  unfold part
  by_cases h : (nd cs k).asks = v
  · rw [if_pos h]
    have hk : 2 ≤ k := by
      rcases Nat.lt_or_ge k 2 with h3 | h3
      · have := (g.base h3 h1).1; omega
      · exact h3
    cases s with
    | true =>
      obtain ⟨d, hd, hl⟩ := g.hi k _ hk h1
      exact ⟨d, hd, by omega⟩
    | false =>
      obtain ⟨d, hd, hl⟩ := g.lo k _ hk h1
      exact ⟨d, hd, by omega⟩
  · rw [if_neg h]
    exact ⟨_, h1, by omega⟩

theorem part_says (g : NGood V cs) {k : Nat} {v : Int} (hv : v < V) (x : At cs v k) (val : Nat → Bool) : Says V cs val k = Says V cs val (part (val v.toNat) v cs k) := by
  obtain ⟨h1, h2⟩ := x.is
  unfold part
  by_cases h : (nd cs k).asks = v
  · rw [if_pos h]
    have hk : 2 ≤ k := by
      rcases Nat.lt_or_ge k 2 with h3 | h3
      · have := (g.base h3 h1).1; omega
      · exact h3
    rw [Says_step g val hk h1, h]
  · rw [if_neg h]

theorem QAt.split {q : Qu} (hq : QAt cs u q) : QAt cs (splitV V cs q) q := by
  have ha := hq.a.is.1
  have hb := hq.b.is.1
  have hc := hq.c.is.1
  unfold splitV
  exact ⟨hq.kind, ⟨_, ha, by omega⟩, ⟨_, hb, by omega⟩, ⟨_, hc, by omega⟩⟩

theorem half_at (g : NGood V cs) {q : Qu} {v : Int} (hv : v < V) (hq : QAt cs v q) (s : Bool) : QAt cs (v + 1) (half s v cs q) :=
  ⟨hq.kind, part_at g hv hq.a s, part_at g hv hq.b s, part_at g hv hq.c s⟩

theorem half_sem (g : NGood V cs) {q : Qu} {v : Int} (hv : v < V) (hq : QAt cs v q) (val : Nat → Bool) : qsem V cs val q = qsem V cs val (half (val v.toNat) v cs q) := by
  unfold qsem half
  dsimp only
  rw [← part_says g hv hq.a, ← part_says g hv hq.b, ← part_says g hv hq.c]

/-- A question is answered by node k, which asks no variable ahead of all that it hangs on. -/
structure Told (V : Nat) (cs : List Nd) (q : Qu) (k : Nat) : Prop where
  at0 : QAt cs 0 q
  is : ∃ c, Is cs k c ∧ ∀ u : Int, QAt cs u q → u ≤ c.asks
  says : ∀ val, Says V cs val k = qsem V cs val q

end

theorem QAt.back {cs cs' : List Nd} {u v : Int} {q : Qu} (hq : QAt cs v q) (hx : Ext cs cs') (h : QAt cs' u q) : QAt cs u q := by
  have hb : ∀ {k : Nat}, At cs v k → At cs' u k → At cs u k := by
    intro k h1 h2
    obtain ⟨c, i1, _⟩ := h1
    obtain ⟨d, i2, l2⟩ := h2
    obtain rfl := (hx k c i1).same i2
    exact ⟨_, i1, l2⟩
  exact ⟨h.kind, hb hq.a h.a, hb hq.b h.b, hb hq.c h.c⟩

theorem Told.ext {V : Nat} {cs cs' : List Nd} {q : Qu} {k : Nat} (t : Told V cs q k) (hx : Ext cs cs') (g : NGood V cs) (g' : NGood V cs') : Told V cs' q k := by
  obtain ⟨c, h1, h2⟩ := t.is
  exact ⟨t.at0.ext hx, ⟨c, hx k c h1, fun u hu => h2 u (t.at0.back hx hu)⟩, fun val => by rw [hx.says g g' val h1, t.says, t.at0.sem hx g g']⟩

theorem Told.at {V : Nat} {cs : List Nd} {q : Qu} {k : Nat} (t : Told V cs q k) {u : Int} (hu : QAt cs u q) : At cs u k := by
  obtain ⟨c, h1, h2⟩ := t.is
  exact ⟨c, h1, h2 u hu⟩
end Go.Proofs.Ytfdebadmikmnaaa
