/- Merged: QMemo, QFindA, QFindB, QFindC, QWorld, QRebA, QRebB, QRebC. -/
import Derived.Test.YtmbkkifopmbkaaaMF
import Derived.Test.YtmbkkifopmbkaaaMG
import Derived.Laws.EntriesVeiled

/- Layer 5 (quan): what was found on the way; what rebuild is given, and leaves: plain words. -/
namespace Go.Proofs.Ytmbkkifopmbkaaa
open Go.ChangeShapes Go.WideShapes Go.ChangeAt Go.RowKit Go.Maps

/-- A map from numbers to numbers. -/
abbrev IMap (w : World) (b n : Nat) (D : DataW Unit) : Prop := w.ownsMap Try.prog 3 (plainElem Try.prog 3) b n D

/-- What stands in it keeps a word. -/
def IGood (P : Nat → Nat → Prop) (D : DataW Unit) : Prop := ∀ k : Nat, Maps.has D (.int .i64 (k : Int)) = true → ∃ n : Nat, D.atKey (.int .i64 (k : Int)) (.lit (.int .i64 0)) = .lit (.int .i64 (n : Int)) ∧ P k n

theorem IGood.empty (P : Nat → Nat → Prop) : IGood P (.map []) := by
  intro k h
  simp [Maps.has] at h
theorem IGood.mono {P Q : Nat → Nat → Prop} {D : DataW Unit} (h : IGood P D) (hpq : ∀ k n, P k n → Q k n) : IGood Q D := fun k hk => by
  obtain ⟨n, h1, h2⟩ := h k hk
  exact ⟨n, h1, hpq k n h2⟩
theorem IGood.put {P : Nat → Nat → Prop} {D : DataW Unit} (h : IGood P D) (hm : Maps.IsMap D) {k n : Nat} (hk : k < 1048576) (p : P k n) : IGood P (D.put (.int .i64 (k : Int)) (.lit (.int .i64 (n : Int)))) := by
  intro j hj
  by_cases e : j = k
  · subst e
    exact ⟨n, Maps.atKey_put_same hm (lawInt.key (keyInt j hk)) _ _, p⟩
  · have e' : (Lit.int .i64 (j : Int)) ≠ .int .i64 (k : Int) := by simp; omega
    rw [Maps.has_put_other e'] at hj
    obtain ⟨i, h1, h2⟩ := h j hj
    exact ⟨i, (Maps.atKey_put_other e' _ _).trans h1, h2⟩

theorem IMap.of {w w' : World} {b n : Nat} {D : DataW Unit} (h : IMap w b n D) (e : w'.heap[b]? = w.heap[b]?) : IMap w' b n D := by
  obtain ⟨es, clock, h1, h2⟩ := h
  exact ⟨es, clock, e.trans h1, h2⟩
theorem IMap.made {w : World} {b : Nat} (h : w.heap[b]? = some (.map #[] 0)) : IMap w b 0 (.map []) := by
  have := World.ownsMap_made (H := Unit) w Try.prog 3 (plainElem Try.prog 3)
  obtain ⟨es, clock, h1, h2⟩ := this
  rw [heap_alloc_new] at h1
  injection h1 with h1
  injection h1 with e1 e2
  subst e1 e2
  exact ⟨#[], 0, h, h2⟩
theorem IMap.not_cell {w : World} {b n : Nat} {D : DataW Unit} (h : IMap w b n D) {t : Nat} {v : Value} (hc : w.cell? ⟨t, 0, none⟩ = some v) : t ≠ b := by
  obtain ⟨es, clock, h1, _⟩ := h
  rintro rfl
  unfold World.cell? at hc
  rw [h1] at hc
  cases hc

theorem IMap.look {P : Nat → Nat → Prop} {w : World} {b N : Nat} {D : DataW Unit} (cm : IMap w b N D) (cg : IGood P D) {k : Nat} (hk : k < 1048576) :
    (∃ n : Nat, P k n ∧ (Instr.lookup 86 (.map (some b)) (.int .i64 (k : Int)) true).run Try.prog w = .ok (.tuple #[.int .i64 (n : Int), .bool true]) w) ∨
    (∃ z : Int, (Instr.lookup 86 (.map (some b)) (.int .i64 (k : Int)) true).run Try.prog w = .ok (.tuple #[.int .i64 z, .bool false]) w) := by
  have hl := keyInt k hk
  have hz : (zeroValue 3).run Try.prog w = .ok (.int .i64 0) w := by kernel_rfl
  obtain ⟨v, ps, hrun, hv⟩ := World.ownsMap.look_ok cm lawInt Try.underlying86 hz (plainElem_int Try.underlying3 (a := 0) (by decide)) hl
  obtain ⟨c, rfl, hc, _⟩ := plainElem_int_inv Try.underlying3 hv
  have hc := congrArg Prod.fst hc
  cases hh : Maps.has D (.int .i64 (k : Int)) with
  | false => rw [hh] at hrun; exact .inr ⟨c, hrun⟩
  | true =>
    rw [hh] at hrun
    obtain ⟨n, h1, h2⟩ := cg k hh
    have hc : D.atKey (.int .i64 (k : Int)) (.lit (.int .i64 0)) = .lit (.int .i64 c) := hc
    rw [h1] at hc
    injection hc with hc
    injection hc with _ hc
    subst hc
    exact .inl ⟨n, h2, hrun⟩

set_option maxRecDepth 100000 in
theorem IMap.put {P : Nat → Nat → Prop} {w : World} {b N : Nat} {D : DataW Unit} (cm : IMap w b N D) (cg : IGood P D) (hn : N < 2000000) {k n : Nat} (hk : k < 1048576) (hv : n < 9223372036854775808) (p : P k n) :
    ∃ w', (Instr.mapUpdate 86 (.map (some b)) (.int .i64 (k : Int)) (.int .i64 (n : Int))).run Try.prog w = .ok () w' ∧ (∃ D', IMap w' b (N + 1) D' ∧ IGood P D') ∧ Turn (fun i => i = b) w w' := by
  obtain ⟨w', hrun, r1, r2⟩ := World.ownsMap.update cm lawInt Try.underlying86 (by unfold maxLen; omega) (keyInt k hk) (plainElem_int Try.underlying3 (a := (n : Int)) (WalkArith.wf_i64 (by omega)))
  have ht : Turn (fun i => i = b) w w' := (Turn.refl _ w).grown r2 (fun i e => .inl (by injection e with e; exact e.symm))
  exact ⟨w', hrun, ⟨_, r1, cg.put (World.ownsMap.isMap cm) hk p⟩, ht⟩

/-- What rebuild is asked: a source of nodes that stays, and what is made of them. -/
structure RebX where
  T : Type
  Inv : T → World → Prop
  own : T → Nat → Prop
  le : T → T → Prop
  num : T → Nat
  Res : T → Nat → Nat → Prop
  Full : T → Prop
  J : Nat
  V : Nat
  cs : List Nd
  Goes : Nat → Prop

structure RebX.Ok (X : RebX) (sv : Value) : Prop where
  good : NGood X.V X.cs
  small : X.cs.length ≤ 1048576
  keep : ∀ {s w w'} {P : Nat → Prop}, X.Inv s w → Turn P w w' → (∀ i, X.own s i → ¬ P i) → X.Inv s w'
  lt : ∀ {s w i}, X.Inv s w → X.own s i → i < w.heap.size
  node : ∀ {s w k c}, X.Inv s w → Is X.cs k c → Calls Try.prog 31 #[sv, .int .i64 (k : Int)] w fun e w' => e = .returned (.tuple #[.int .i64 c.asks, .int .i64 c.low, .int .i64 c.high, .int .i64 0]) ∧ Below w.heap.size w w'
  refl : ∀ s, X.le s s
  trans : ∀ {a b c}, X.le a b → X.le b c → X.le a c
  mono : ∀ {s s' w w' k n}, X.le s s' → X.Inv s w → X.Inv s' w' → X.Res s k n → X.Res s' k n
  fits : ∀ {s w k n}, X.Inv s w → X.Res s k n → n < 9223372036854775808

def ToldOut (X : RebX) (s : X.T) (k : Nat) (w : World) (e : Ending) (w' : World) : Prop :=
  ∃ (n : Nat) (b : Bool), e = .returned (.tuple #[.int .i64 (n : Int), .bool b]) ∧ Below w.heap.size w w' ∧ (b = true → X.Res s k n) ∧ (b = false → 2 ≤ k ∧ X.Goes k)

def JoinOut (X : RebX) (s : X.T) (k : Nat) (w : World) (e : Ending) (w' : World) : Prop :=
  ∃ (n : Nat) (x : Int) (s' : X.T), e = .returned (.tuple #[.int .i64 (n : Int), .int .i64 x]) ∧ X.Inv s' w' ∧ X.le s s' ∧ Turn (X.own s) w w' ∧ (∀ i, X.own s' i → X.own s i ∨ w.heap.size ≤ i) ∧ X.num s' ≤ X.num s + X.J ∧
    ((x = 0 ∧ X.Res s' k n) ∨ (x = 30 ∧ n = 0 ∧ X.Full s'))

/-- The blocks of find's variables: told, found, the store, find, join; and found's map. -/
structure Env where
  t : Nat
  f : Nat
  s : Nat
  d : Nat
  j : Nat
  b : Nat

def Env.fv (E : Env) : Value := .func (.func 49) #[] #[ptrV E.t, ptrV E.f, ptrV E.s, ptrV E.d, ptrV E.j]

structure FSt (X : RebX) (E : Env) (sv tv jv : Value) (s : X.T) (w : World) (N : Nat) : Prop where
  inv : X.Inv s w
  map : ∃ D, IMap w E.b N D ∧ IGood (X.Res s) D
  nb : ¬ X.own s E.b
  ct : w.cell? ⟨E.t, 0, none⟩ = some tv
  cf : w.cell? ⟨E.f, 0, none⟩ = some (.map (some E.b))
  cs : w.cell? ⟨E.s, 0, none⟩ = some sv
  cd : w.cell? ⟨E.d, 0, none⟩ = some E.fv
  cj : w.cell? ⟨E.j, 0, none⟩ = some jv
  nt : ¬ X.own s E.t
  nf : ¬ X.own s E.f
  ns : ¬ X.own s E.s
  nd : ¬ X.own s E.d
  nj : ¬ X.own s E.j

section
variable {X : RebX} {E : Env} {sv tv jv : Value} {s : X.T} {w w' : World} {N : Nat}

theorem cell_lt {w : World} {t : Nat} {v : Value} (h : w.cell? ⟨t, 0, none⟩ = some v) : t < w.heap.size := World.block_lt_of_cell? w ⟨t, 0, none⟩ h

theorem FSt.step (ok : X.Ok sv) (f : FSt X E sv tv jv s w N) {s' : X.T} (ht : Turn (X.own s) w w') (hi : X.Inv s' w') (hle : X.le s s') (ho : ∀ i, X.own s' i → X.own s i ∨ w.heap.size ≤ i) : FSt X E sv tv jv s' w' N := by
  obtain ⟨D, m1, m2⟩ := f.map
  have no : ∀ {i v}, w.cell? ⟨i, 0, none⟩ = some v → ¬ X.own s i → ¬ X.own s' i := fun hc hn hh => (ho _ hh).elim hn fun q => by have := cell_lt hc; omega
  exact ⟨hi, ⟨D, m1.of (ht.block _ m1.lt f.nb), m2.mono fun k n p => ok.mono hle f.inv hi p⟩, fun hh => (ho _ hh).elim f.nb fun q => by have := m1.lt; omega,
    ht.cell f.ct f.nt, ht.cell f.cf f.nf, ht.cell f.cs f.ns, ht.cell f.cd f.nd, ht.cell f.cj f.nj, no f.ct f.nt, no f.cf f.nf, no f.cs f.ns, no f.cd f.nd, no f.cj f.nj⟩

theorem FSt.keep (ok : X.Ok sv) (f : FSt X E sv tv jv s w N) (hb : Below w.heap.size w w') : FSt X E sv tv jv s w' N :=
  f.step ok (Turn.of_below hb) (ok.keep (P := fun _ => False) f.inv (Turn.of_below hb) (fun _ _ h => h)) (ok.refl s) (fun _ h => .inl h)

theorem FSt.look (ok : X.Ok sv) (f : FSt X E sv tv jv s w N) {k : Nat} {c : Nd} (hk : Is X.cs k c) :
    (∃ n : Nat, X.Res s k n ∧ (Instr.lookup 86 (.map (some E.b)) (.int .i64 (k : Int)) true).run Try.prog w = .ok (.tuple #[.int .i64 (n : Int), .bool true]) w) ∨
    (∃ z : Int, (Instr.lookup 86 (.map (some E.b)) (.int .i64 (k : Int)) true).run Try.prog w = .ok (.tuple #[.int .i64 z, .bool false]) w) := by
  obtain ⟨D, m1, m2⟩ := f.map
  exact m1.look m2 (by have := hk.lt; have := ok.small; omega)

set_option maxRecDepth 100000 in
theorem FSt.put (ok : X.Ok sv) (f : FSt X E sv tv jv s w N) (hn : N < 2000000) {k n : Nat} {c : Nd} (hk : Is X.cs k c) (p : X.Res s k n) :
    ∃ w', (Instr.mapUpdate 86 (.map (some E.b)) (.int .i64 (k : Int)) (.int .i64 (n : Int))).run Try.prog w = .ok () w' ∧ FSt X E sv tv jv s w' (N + 1) ∧ Turn (fun i => i = E.b) w w' := by
  obtain ⟨D, m1, m2⟩ := f.map
  obtain ⟨w', hrun, hm, ht⟩ := m1.put m2 hn (by have := hk.lt; have := ok.small; omega) (ok.fits f.inv p) p
  exact ⟨w', hrun, ⟨ok.keep f.inv ht (fun i hi e => f.nb (e ▸ hi)), hm, f.nb, ht.cell f.ct (m1.not_cell f.ct), ht.cell f.cf (m1.not_cell f.cf), ht.cell f.cs (m1.not_cell f.cs), ht.cell f.cd (m1.not_cell f.cd), ht.cell f.cj (m1.not_cell f.cj), f.nt, f.nf, f.ns, f.nd, f.nj⟩, ht⟩
end

/-- Of what was there, A and b may have turned; what is owned now was owned, or is new. -/
structure Move (A A' : Nat → Prop) (b : Nat) (w w' : World) : Prop where
  turn : Turn (fun i => A i ∨ i = b) w w'
  own : ∀ i, A' i → A i ∨ w.heap.size ≤ i

theorem Move.below {A : Nat → Prop} {b : Nat} {w w' : World} (hb : Below w.heap.size w w') : Move A A b w w' := ⟨Turn.of_below hb, fun _ h => .inl h⟩
theorem Move.of {A A' : Nat → Prop} {b : Nat} {w w' : World} (ht : Turn A w w') (ho : ∀ i, A' i → A i ∨ w.heap.size ≤ i) : Move A A' b w w' :=
  ⟨⟨ht.os, ht.tape, ht.output, ht.size, fun i hi hn => ht.block i hi fun q => hn (.inl q)⟩, ho⟩
theorem Move.put {A : Nat → Prop} {b : Nat} {w w' : World} (ht : Turn (fun i => i = b) w w') : Move A A b w w' :=
  ⟨⟨ht.os, ht.tape, ht.output, ht.size, fun i hi hn => ht.block i hi fun q => hn (.inr q)⟩, fun _ h => .inl h⟩
theorem Move.trans {A A1 A2 : Nat → Prop} {b : Nat} {w w1 w2 : World} (h : Move A A1 b w w1) (k : Move A1 A2 b w1 w2) : Move A A2 b w w2 :=
  ⟨h.turn.trans k.turn fun i hi => hi.elim (fun q => (h.own i q).imp .inl id) (fun q => .inl (.inr q)), fun i hi => (k.own i hi).elim (h.own i) fun q => .inr (Nat.le_trans h.turn.size q)⟩

/-- What a call of find leaves: it has made so many at the most. -/
def FOut (X : RebX) (E : Env) (sv tv jv : Value) (s : X.T) (N n k : Nat) (w : World) (e : Ending) (w' : World) : Prop :=
  ∃ (r : Nat) (x : Int) (s' : X.T) (N' : Nat), e = .returned (.tuple #[.int .i64 (r : Int), .int .i64 x]) ∧ FSt X E sv tv jv s' w' N' ∧ X.le s s' ∧ Move (X.own s) (X.own s') E.b w w' ∧
    X.num s' + X.J ≤ X.num s + X.J * 2 ^ n ∧ N' + 1 ≤ N + 2 ^ n ∧ ((x = 0 ∧ X.Res s' k r) ∨ (x = 30 ∧ r = 0 ∧ X.Full s'))

theorem FOut.same {X : RebX} {E : Env} {sv tv jv : Value} {s : X.T} {N n k r : Nat} {w w' : World} (ok : X.Ok sv) (f : FSt X E sv tv jv s w N) (hb : Below w.heap.size w w') (hr : X.Res s k r) :
    FOut X E sv tv jv s N n k w (.returned (.tuple #[.int .i64 (r : Int), .int .i64 0])) w' := by
  have h1 := Nat.one_le_two_pow (n := n)
  have h2 := Nat.mul_le_mul_left X.J h1
  exact ⟨r, 0, s, N, rfl, f.keep ok hb, ok.refl s, Move.below hb, by omega, by omega, .inl ⟨rfl, hr⟩⟩
end Go.Proofs.Ytmbkkifopmbkaaa

/- Layer 5 (quan): rebuild, as Restrict asks it: what find gives. -/
namespace Go.Proofs.Ytmbkkifopmbkaaa
open Go.ChangeShapes Go.WideShapes Go.ChangeAt Go.RowKit Go.Maps

set_option maxRecDepth 100000 in
set_option maxHeartbeats 4000000 in
theorem find_anyA {X : RebX} {E : Env} {sv : Value} {p1 p2 p3 ms : Nat} (ok : X.Ok sv)
    (TC : ∀ (s : X.T) (w : World) (k : Nat) (c : Nd), X.Inv s w → Is X.cs k c → Calls Try.prog 30 #[.int .i64 (k : Int), ptrV p1, ptrV p2, ptrV p3] w (ToldOut X s k w))
    (JC : ∀ (s : X.T) (w : World) (k a b : Nat) (c : Nd), X.Inv s w → Is X.cs k c → 2 ≤ k → X.Goes k → X.Res s c.low a → X.Res s c.high b → Calls Try.prog 33 #[ptrV ms, .int .i64 c.asks, .int .i64 (a : Int), .int .i64 (b : Int)] w (JoinOut X s k w)) :
    ∀ (n : Nat) (s : X.T) (w : World) (N k : Nat) (c : Nd), FSt X E sv (.func (.func 30) #[] #[ptrV p1, ptrV p2, ptrV p3]) (.func (.func 33) #[ptrV ms] #[]) s w N → Is X.cs k c → rk X.V c ≤ n → N + 2 ^ n ≤ 2000000 →
      Calls Try.prog 49 #[.int .i64 (k : Int), ptrV E.t, ptrV E.f, ptrV E.s, ptrV E.d, ptrV E.j] w (FOut X E sv (.func (.func 30) #[] #[ptrV p1, ptrV p2, ptrV p3]) (.func (.func 33) #[ptrV ms] #[]) s N n k w) := by
  intro n
  induction n using Nat.strongRecOn with
  | _ n ih =>
  intro s w N k c f hk hn hN
  have FF := Lib.hid f
  have OK := Lib.hid ok
  have IS := Lib.hid hk
  have HN := Lib.hid hn
  have HNN := Lib.hid hN
  have IH := Lib.hid ih
  have JJ := Lib.hid JC
  have T := Lib.hid (TC s w k c f.inv hk)
  have ct := f.ct
  clear TC JC ih hk hn hN ok f
  unfold ptrV at *
  go_enter Try.func49, Try.ntmps49
  go_wp2_with fail
  refine T.out.mono ?_
  rintro e w1 ⟨n0, b, rfl, hb1, ht, hf⟩
  clear T ct
  cases b with
  | true =>
    have R := Lib.hid (ht rfl)
    have B1 := Lib.hid hb1
    clear ht hf hb1
    go_wp2_with fail
    go_ret2
    exact FOut.same OK.out FF.out B1.out R.out
  | false =>
    obtain ⟨h2, hg⟩ := hf rfl
    have H2 := Lib.hid h2
    have GG := Lib.hid hg
    have F1 := Lib.hid (FF.out.keep OK.out hb1)
    have B1 := Lib.hid hb1
    clear ht hf hb1 h2 hg
    have cf := F1.out.cf
    rcases F1.out.look OK.out IS.out with ⟨r, hr, hlk⟩ | ⟨z, hlk⟩
    · have R := Lib.hid hr
      clear hr
      go_wp2_with fail
      go_ret2
      exact FOut.same OK.out FF.out B1.out (OK.out.mono (OK.out.refl s) F1.out.inv FF.out.inv R.out)
    · have cs := F1.out.cs
      have ND := Lib.hid (OK.out.node F1.out.inv IS.out)
      go_wp2_with fail
      refine ND.out.mono ?_
      rintro e w2 ⟨rfl, hb2⟩
      have F2 := Lib.hid (F1.out.keep OK.out hb2)
      have B2 := Lib.hid (B1.out.trans (hb2.mono B1.out.size))
      clear cf hlk cs ND hb2 F1 B1
      have cd := F2.out.cd
      unfold Env.fv ptrV at cd
      go_wp2_with fail
      clear cd
      obtain ⟨cl, il, ll⟩ := OK.out.good.lo k c H2.out IS.out
      obtain ⟨ch, ih, lh⟩ := OK.out.good.hi k c H2.out IS.out
      have ho := OK.out.good.ok k c H2.out IS.out
      have rl := OK.out.good.range il
      have rh := OK.out.good.range ih
      obtain ⟨n', hn'⟩ : ∃ n', n = n' + 1 := ⟨n - 1, by have := HN.out; unfold rk at this; omega⟩
      subst hn'
      have P2 : Hid (2 ^ (n' + 1) = 2 ^ n' + 2 ^ n') := by show _ = _; rw [Nat.pow_succ]; omega
      have P1 := Lib.hid (Nat.one_le_two_pow (n := n'))
      have PJ : Hid (X.J * 2 ^ (n' + 1) = X.J * 2 ^ n' + X.J * 2 ^ n') := by show _ = _; rw [P2.out, Nat.mul_add]
      have HL : Hid (rk X.V cl ≤ n') := by show _ ≤ _; have := HN.out; unfold rk at this ⊢; omega
      have HH : Hid (rk X.V ch ≤ n') := by show _ ≤ _; have := HN.out; unfold rk at this ⊢; omega
      have IL := Lib.hid il
      have IHH := Lib.hid ih
      have C1 := Lib.hid (IH.out n' (by omega) s w2 N c.low cl F2.out il HL.out (by have := HNN.out; have := P2.out; have := P1.out; omega))
      clear il ll ih lh ho rl rh
      refine C1.out.mono ?_
      rintro e w3 ⟨r1, x1, s1, N1, rfl, f3, le3, v3, m3, n3, hout⟩
      have F3 := Lib.hid f3
      have LE3 := Lib.hid le3
      have V3 := Lib.hid v3
      have M3 := Lib.hid m3
      have N3 := Lib.hid n3
      clear f3 le3 v3 m3 n3 C1
      rcases hout with ⟨rfl, hr⟩ | ⟨rfl, rfl, hfull⟩
      · have R1 := Lib.hid hr
        have cd := F3.out.cd
        unfold Env.fv ptrV at cd
        clear hr
        go_wp2_with fail
        clear cd
        have C2 := Lib.hid (IH.out n' (by omega) s1 w3 N1 c.high ch F3.out IHH.out HH.out (by have := HNN.out; have := P2.out; have := N3.out; have := P1.out; omega))
        refine C2.out.mono ?_
        rintro e w4 ⟨r2, x2, s2, N2, rfl, f4, le4, v4, m4, n4, hout⟩
        have F4 := Lib.hid f4
        have LE4 := Lib.hid le4
        have V4 := Lib.hid v4
        have M4 := Lib.hid m4
        have N4 := Lib.hid n4
        clear f4 le4 v4 m4 n4 C2
        rcases hout with ⟨rfl, hr⟩ | ⟨rfl, rfl, hfull⟩
        · have R2 := Lib.hid hr
          have cj := F4.out.cj
          have JO := Lib.hid (JJ.out s2 w4 k r1 r2 c F4.out.inv IS.out H2.out GG.out (OK.out.mono LE4.out F3.out.inv F4.out.inv R1.out) hr)
          clear hr
          unfold ptrV at *
          go_wp2_with fail
          refine JO.out.mono ?_
          rintro e w5 ⟨r, x, s3, rfl, i5, le5, t5, o5, m5, hout⟩
          have F5 := Lib.hid (F4.out.step OK.out t5 i5 le5 o5)
          have LE5 := Lib.hid le5
          have V5 : Hid (Move (X.own s2) (X.own s3) E.b w4 w5) := Move.of t5 o5
          have M5 := Lib.hid m5
          clear i5 le5 t5 o5 m5 JO cj
          rcases hout with ⟨rfl, hr⟩ | ⟨rfl, rfl, hfull⟩
          · have R := Lib.hid hr
            have cf := F5.out.cf
            obtain ⟨w6, hmu, f6, t6⟩ := F5.out.put OK.out (by have := HNN.out; have := P2.out; have := P1.out; have := N3.out; have := N4.out; omega) IS.out hr
            have F6 := Lib.hid f6
            have V6 : Hid (Move (X.own s3) (X.own s3) E.b w5 w6) := Move.put t6
            clear hr f6 t6
            go_wp2_with fail
            go_ret2
            have P2' := P2.out
            have P1' := P1.out
            have PJ' := PJ.out
            have M3' := M3.out
            have N3' := N3.out
            have M4' := M4.out
            have N4' := N4.out
            have M5' := M5.out
            exact ⟨r, 0, s3, N2 + 1, rfl, F6.out, OK.out.trans (OK.out.trans LE3.out LE4.out) LE5.out, ((((Move.below B2.out).trans V3.out).trans V4.out).trans V5.out).trans V6.out, by omega, by omega, .inl ⟨rfl, OK.out.mono (OK.out.refl s3) F5.out.inv F6.out.inv R.out⟩⟩
          · have FU := Lib.hid hfull
            clear hfull
            go_wp2_with fail
            go_ret2
            have P2' := P2.out
            have P1' := P1.out
            have PJ' := PJ.out
            have M3' := M3.out
            have N3' := N3.out
            have M4' := M4.out
            have N4' := N4.out
            have M5' := M5.out
            exact ⟨0, 30, s3, N2, rfl, F5.out, OK.out.trans (OK.out.trans LE3.out LE4.out) LE5.out, (((Move.below B2.out).trans V3.out).trans V4.out).trans V5.out, by omega, by omega, .inr ⟨rfl, rfl, FU.out⟩⟩
        · have FU := Lib.hid hfull
          clear hfull
          go_wp2_with fail
          go_ret2
          have P2' := P2.out
          have P1' := P1.out
          have PJ' := PJ.out
          have M3' := M3.out
          have N3' := N3.out
          have M4' := M4.out
          have N4' := N4.out
          exact ⟨0, 30, s2, N2, rfl, F4.out, OK.out.trans LE3.out LE4.out, ((Move.below B2.out).trans V3.out).trans V4.out, by omega, by omega, .inr ⟨rfl, rfl, FU.out⟩⟩
      · have FU := Lib.hid hfull
        clear hfull
        go_wp2_with fail
        go_ret2
        have P2' := P2.out
        have P1' := P1.out
        have PJ' := PJ.out
        have M3' := M3.out
        have N3' := N3.out
        have Q := Nat.mul_le_mul_left X.J P1'
        exact ⟨0, 30, s1, N1, rfl, F3.out, LE3.out, (Move.below B2.out).trans V3.out, by omega, by omega, .inr ⟨rfl, rfl, FU.out⟩⟩
end Go.Proofs.Ytmbkkifopmbkaaa

/- Layer 5 (quan): rebuild, as keep asks it: what find gives. -/
namespace Go.Proofs.Ytmbkkifopmbkaaa
open Go.ChangeShapes Go.WideShapes Go.ChangeAt Go.RowKit Go.Maps

set_option maxRecDepth 100000 in
set_option maxHeartbeats 4000000 in
theorem find_anyB {X : RebX} {E : Env} {sv : Value} {ms : Nat} (ok : X.Ok sv)
    (TC : ∀ (s : X.T) (w : World) (k : Nat) (c : Nd), X.Inv s w → Is X.cs k c → Calls Try.prog 42 #[.int .i64 (k : Int)] w (ToldOut X s k w))
    (JC : ∀ (s : X.T) (w : World) (k a b : Nat) (c : Nd), X.Inv s w → Is X.cs k c → 2 ≤ k → X.Goes k → X.Res s c.low a → X.Res s c.high b → Calls Try.prog 33 #[ptrV ms, .int .i64 c.asks, .int .i64 (a : Int), .int .i64 (b : Int)] w (JoinOut X s k w)) :
    ∀ (n : Nat) (s : X.T) (w : World) (N k : Nat) (c : Nd), FSt X E sv (.func (.func 42) #[] #[]) (.func (.func 33) #[ptrV ms] #[]) s w N → Is X.cs k c → rk X.V c ≤ n → N + 2 ^ n ≤ 2000000 →
      Calls Try.prog 49 #[.int .i64 (k : Int), ptrV E.t, ptrV E.f, ptrV E.s, ptrV E.d, ptrV E.j] w (FOut X E sv (.func (.func 42) #[] #[]) (.func (.func 33) #[ptrV ms] #[]) s N n k w) := by
  intro n
  induction n using Nat.strongRecOn with
  | _ n ih =>
  intro s w N k c f hk hn hN
  have FF := Lib.hid f
  have OK := Lib.hid ok
  have IS := Lib.hid hk
  have HN := Lib.hid hn
  have HNN := Lib.hid hN
  have IH := Lib.hid ih
  have JJ := Lib.hid JC
  have T := Lib.hid (TC s w k c f.inv hk)
  have ct := f.ct
  clear TC JC ih hk hn hN ok f
  unfold ptrV at *
  go_enter Try.func49, Try.ntmps49
  go_wp2_with fail
  refine T.out.mono ?_
  rintro e w1 ⟨n0, b, rfl, hb1, ht, hf⟩
  clear T ct
  cases b with
  | true =>
    have R := Lib.hid (ht rfl)
    have B1 := Lib.hid hb1
    clear ht hf hb1
    go_wp2_with fail
    go_ret2
    exact FOut.same OK.out FF.out B1.out R.out
  | false =>
    obtain ⟨h2, hg⟩ := hf rfl
    have H2 := Lib.hid h2
    have GG := Lib.hid hg
    have F1 := Lib.hid (FF.out.keep OK.out hb1)
    have B1 := Lib.hid hb1
    clear ht hf hb1 h2 hg
    have cf := F1.out.cf
    rcases F1.out.look OK.out IS.out with ⟨r, hr, hlk⟩ | ⟨z, hlk⟩
    · have R := Lib.hid hr
      clear hr
      go_wp2_with fail
      go_ret2
      exact FOut.same OK.out FF.out B1.out (OK.out.mono (OK.out.refl s) F1.out.inv FF.out.inv R.out)
    · have cs := F1.out.cs
      have ND := Lib.hid (OK.out.node F1.out.inv IS.out)
      go_wp2_with fail
      refine ND.out.mono ?_
      rintro e w2 ⟨rfl, hb2⟩
      have F2 := Lib.hid (F1.out.keep OK.out hb2)
      have B2 := Lib.hid (B1.out.trans (hb2.mono B1.out.size))
      clear cf hlk cs ND hb2 F1 B1
      have cd := F2.out.cd
      unfold Env.fv ptrV at cd
      go_wp2_with fail
      clear cd
      obtain ⟨cl, il, ll⟩ := OK.out.good.lo k c H2.out IS.out
      obtain ⟨ch, ih, lh⟩ := OK.out.good.hi k c H2.out IS.out
      have ho := OK.out.good.ok k c H2.out IS.out
      have rl := OK.out.good.range il
      have rh := OK.out.good.range ih
      obtain ⟨n', hn'⟩ : ∃ n', n = n' + 1 := ⟨n - 1, by have := HN.out; unfold rk at this; omega⟩
      subst hn'
      have P2 : Hid (2 ^ (n' + 1) = 2 ^ n' + 2 ^ n') := by show _ = _; rw [Nat.pow_succ]; omega
      have P1 := Lib.hid (Nat.one_le_two_pow (n := n'))
      have PJ : Hid (X.J * 2 ^ (n' + 1) = X.J * 2 ^ n' + X.J * 2 ^ n') := by show _ = _; rw [P2.out, Nat.mul_add]
      have HL : Hid (rk X.V cl ≤ n') := by show _ ≤ _; have := HN.out; unfold rk at this ⊢; omega
      have HH : Hid (rk X.V ch ≤ n') := by show _ ≤ _; have := HN.out; unfold rk at this ⊢; omega
      have IL := Lib.hid il
      have IHH := Lib.hid ih
      have C1 := Lib.hid (IH.out n' (by omega) s w2 N c.low cl F2.out il HL.out (by have := HNN.out; have := P2.out; have := P1.out; omega))
      clear il ll ih lh ho rl rh
      refine C1.out.mono ?_
      rintro e w3 ⟨r1, x1, s1, N1, rfl, f3, le3, v3, m3, n3, hout⟩
      have F3 := Lib.hid f3
      have LE3 := Lib.hid le3
      have V3 := Lib.hid v3
      have M3 := Lib.hid m3
      have N3 := Lib.hid n3
      clear f3 le3 v3 m3 n3 C1
      rcases hout with ⟨rfl, hr⟩ | ⟨rfl, rfl, hfull⟩
      · have R1 := Lib.hid hr
        have cd := F3.out.cd
        unfold Env.fv ptrV at cd
        clear hr
        go_wp2_with fail
        clear cd
        have C2 := Lib.hid (IH.out n' (by omega) s1 w3 N1 c.high ch F3.out IHH.out HH.out (by have := HNN.out; have := P2.out; have := N3.out; have := P1.out; omega))
        refine C2.out.mono ?_
        rintro e w4 ⟨r2, x2, s2, N2, rfl, f4, le4, v4, m4, n4, hout⟩
        have F4 := Lib.hid f4
        have LE4 := Lib.hid le4
        have V4 := Lib.hid v4
        have M4 := Lib.hid m4
        have N4 := Lib.hid n4
        clear f4 le4 v4 m4 n4 C2
        rcases hout with ⟨rfl, hr⟩ | ⟨rfl, rfl, hfull⟩
        · have R2 := Lib.hid hr
          have cj := F4.out.cj
          have JO := Lib.hid (JJ.out s2 w4 k r1 r2 c F4.out.inv IS.out H2.out GG.out (OK.out.mono LE4.out F3.out.inv F4.out.inv R1.out) hr)
          clear hr
          unfold ptrV at *
          go_wp2_with fail
          refine JO.out.mono ?_
          rintro e w5 ⟨r, x, s3, rfl, i5, le5, t5, o5, m5, hout⟩
          have F5 := Lib.hid (F4.out.step OK.out t5 i5 le5 o5)
          have LE5 := Lib.hid le5
          have V5 : Hid (Move (X.own s2) (X.own s3) E.b w4 w5) := Move.of t5 o5
          have M5 := Lib.hid m5
          clear i5 le5 t5 o5 m5 JO cj
          rcases hout with ⟨rfl, hr⟩ | ⟨rfl, rfl, hfull⟩
          · have R := Lib.hid hr
            have cf := F5.out.cf
            obtain ⟨w6, hmu, f6, t6⟩ := F5.out.put OK.out (by have := HNN.out; have := P2.out; have := P1.out; have := N3.out; have := N4.out; omega) IS.out hr
            have F6 := Lib.hid f6
            have V6 : Hid (Move (X.own s3) (X.own s3) E.b w5 w6) := Move.put t6
            clear hr f6 t6
            go_wp2_with fail
            go_ret2
            have P2' := P2.out
            have P1' := P1.out
            have PJ' := PJ.out
            have M3' := M3.out
            have N3' := N3.out
            have M4' := M4.out
            have N4' := N4.out
            have M5' := M5.out
            exact ⟨r, 0, s3, N2 + 1, rfl, F6.out, OK.out.trans (OK.out.trans LE3.out LE4.out) LE5.out, ((((Move.below B2.out).trans V3.out).trans V4.out).trans V5.out).trans V6.out, by omega, by omega, .inl ⟨rfl, OK.out.mono (OK.out.refl s3) F5.out.inv F6.out.inv R.out⟩⟩
          · have FU := Lib.hid hfull
            clear hfull
            go_wp2_with fail
            go_ret2
            have P2' := P2.out
            have P1' := P1.out
            have PJ' := PJ.out
            have M3' := M3.out
            have N3' := N3.out
            have M4' := M4.out
            have N4' := N4.out
            have M5' := M5.out
            exact ⟨0, 30, s3, N2, rfl, F5.out, OK.out.trans (OK.out.trans LE3.out LE4.out) LE5.out, (((Move.below B2.out).trans V3.out).trans V4.out).trans V5.out, by omega, by omega, .inr ⟨rfl, rfl, FU.out⟩⟩
        · have FU := Lib.hid hfull
          clear hfull
          go_wp2_with fail
          go_ret2
          have P2' := P2.out
          have P1' := P1.out
          have PJ' := PJ.out
          have M3' := M3.out
          have N3' := N3.out
          have M4' := M4.out
          have N4' := N4.out
          exact ⟨0, 30, s2, N2, rfl, F4.out, OK.out.trans LE3.out LE4.out, ((Move.below B2.out).trans V3.out).trans V4.out, by omega, by omega, .inr ⟨rfl, rfl, FU.out⟩⟩
      · have FU := Lib.hid hfull
        clear hfull
        go_wp2_with fail
        go_ret2
        have P2' := P2.out
        have P1' := P1.out
        have PJ' := PJ.out
        have M3' := M3.out
        have N3' := N3.out
        have Q := Nat.mul_le_mul_left X.J P1'
        exact ⟨0, 30, s1, N1, rfl, F3.out, LE3.out, (Move.below B2.out).trans V3.out, by omega, by omega, .inr ⟨rfl, rfl, FU.out⟩⟩
end Go.Proofs.Ytmbkkifopmbkaaa

/- Layer 5 (quan): rebuild, as Rename asks it: what find gives. -/
namespace Go.Proofs.Ytmbkkifopmbkaaa
open Go.ChangeShapes Go.WideShapes Go.ChangeAt Go.RowKit Go.Maps

set_option maxRecDepth 100000 in
set_option maxHeartbeats 4000000 in
theorem find_anyC {X : RebX} {E : Env} {sv : Value} {p1 p2 : Nat} (ok : X.Ok sv)
    (TC : ∀ (s : X.T) (w : World) (k : Nat) (c : Nd), X.Inv s w → Is X.cs k c → Calls Try.prog 42 #[.int .i64 (k : Int)] w (ToldOut X s k w))
    (JC : ∀ (s : X.T) (w : World) (k a b : Nat) (c : Nd), X.Inv s w → Is X.cs k c → 2 ≤ k → X.Goes k → X.Res s c.low a → X.Res s c.high b → Calls Try.prog 40 #[.int .i64 c.asks, .int .i64 (a : Int), .int .i64 (b : Int), ptrV p1, ptrV p2] w (JoinOut X s k w)) :
    ∀ (n : Nat) (s : X.T) (w : World) (N k : Nat) (c : Nd), FSt X E sv (.func (.func 42) #[] #[]) (.func (.func 40) #[] #[ptrV p1, ptrV p2]) s w N → Is X.cs k c → rk X.V c ≤ n → N + 2 ^ n ≤ 2000000 →
      Calls Try.prog 49 #[.int .i64 (k : Int), ptrV E.t, ptrV E.f, ptrV E.s, ptrV E.d, ptrV E.j] w (FOut X E sv (.func (.func 42) #[] #[]) (.func (.func 40) #[] #[ptrV p1, ptrV p2]) s N n k w) := by
  intro n
  induction n using Nat.strongRecOn with
  | _ n ih =>
  intro s w N k c f hk hn hN
  have FF := Lib.hid f
  have OK := Lib.hid ok
  have IS := Lib.hid hk
  have HN := Lib.hid hn
  have HNN := Lib.hid hN
  have IH := Lib.hid ih
  have JJ := Lib.hid JC
  have T := Lib.hid (TC s w k c f.inv hk)
  have ct := f.ct
  clear TC JC ih hk hn hN ok f
  unfold ptrV at *
  go_enter Try.func49, Try.ntmps49
  go_wp2_with fail
  refine T.out.mono ?_
  rintro e w1 ⟨n0, b, rfl, hb1, ht, hf⟩
  clear T ct
  cases b with
  | true =>
    have R := Lib.hid (ht rfl)
    have B1 := Lib.hid hb1
    clear ht hf hb1
    go_wp2_with fail
    go_ret2
    exact FOut.same OK.out FF.out B1.out R.out
  | false =>
    obtain ⟨h2, hg⟩ := hf rfl
    have H2 := Lib.hid h2
    have GG := Lib.hid hg
    have F1 := Lib.hid (FF.out.keep OK.out hb1)
    have B1 := Lib.hid hb1
    clear ht hf hb1 h2 hg
    have cf := F1.out.cf
    rcases F1.out.look OK.out IS.out with ⟨r, hr, hlk⟩ | ⟨z, hlk⟩
    · have R := Lib.hid hr
      clear hr
      go_wp2_with fail
      go_ret2
      exact FOut.same OK.out FF.out B1.out (OK.out.mono (OK.out.refl s) F1.out.inv FF.out.inv R.out)
    · have cs := F1.out.cs
      have ND := Lib.hid (OK.out.node F1.out.inv IS.out)
      go_wp2_with fail
      refine ND.out.mono ?_
      rintro e w2 ⟨rfl, hb2⟩
      have F2 := Lib.hid (F1.out.keep OK.out hb2)
      have B2 := Lib.hid (B1.out.trans (hb2.mono B1.out.size))
      clear cf hlk cs ND hb2 F1 B1
      have cd := F2.out.cd
      unfold Env.fv ptrV at cd
      go_wp2_with fail
      clear cd
      obtain ⟨cl, il, ll⟩ := OK.out.good.lo k c H2.out IS.out
      obtain ⟨ch, ih, lh⟩ := OK.out.good.hi k c H2.out IS.out
      have ho := OK.out.good.ok k c H2.out IS.out
      have rl := OK.out.good.range il
      have rh := OK.out.good.range ih
      obtain ⟨n', hn'⟩ : ∃ n', n = n' + 1 := ⟨n - 1, by have := HN.out; unfold rk at this; omega⟩
      subst hn'
      have P2 : Hid (2 ^ (n' + 1) = 2 ^ n' + 2 ^ n') := by show _ = _; rw [Nat.pow_succ]; omega
      have P1 := Lib.hid (Nat.one_le_two_pow (n := n'))
      have PJ : Hid (X.J * 2 ^ (n' + 1) = X.J * 2 ^ n' + X.J * 2 ^ n') := by show _ = _; rw [P2.out, Nat.mul_add]
      have HL : Hid (rk X.V cl ≤ n') := by show _ ≤ _; have := HN.out; unfold rk at this ⊢; omega
      have HH : Hid (rk X.V ch ≤ n') := by show _ ≤ _; have := HN.out; unfold rk at this ⊢; omega
      have IL := Lib.hid il
      have IHH := Lib.hid ih
      have C1 := Lib.hid (IH.out n' (by omega) s w2 N c.low cl F2.out il HL.out (by have := HNN.out; have := P2.out; have := P1.out; omega))
      clear il ll ih lh ho rl rh
      refine C1.out.mono ?_
      rintro e w3 ⟨r1, x1, s1, N1, rfl, f3, le3, v3, m3, n3, hout⟩
      have F3 := Lib.hid f3
      have LE3 := Lib.hid le3
      have V3 := Lib.hid v3
      have M3 := Lib.hid m3
      have N3 := Lib.hid n3
      clear f3 le3 v3 m3 n3 C1
      rcases hout with ⟨rfl, hr⟩ | ⟨rfl, rfl, hfull⟩
      · have R1 := Lib.hid hr
        have cd := F3.out.cd
        unfold Env.fv ptrV at cd
        clear hr
        go_wp2_with fail
        clear cd
        have C2 := Lib.hid (IH.out n' (by omega) s1 w3 N1 c.high ch F3.out IHH.out HH.out (by have := HNN.out; have := P2.out; have := N3.out; have := P1.out; omega))
        refine C2.out.mono ?_
        rintro e w4 ⟨r2, x2, s2, N2, rfl, f4, le4, v4, m4, n4, hout⟩
        have F4 := Lib.hid f4
        have LE4 := Lib.hid le4
        have V4 := Lib.hid v4
        have M4 := Lib.hid m4
        have N4 := Lib.hid n4
        clear f4 le4 v4 m4 n4 C2
        rcases hout with ⟨rfl, hr⟩ | ⟨rfl, rfl, hfull⟩
        · have R2 := Lib.hid hr
          have cj := F4.out.cj
          have JO := Lib.hid (JJ.out s2 w4 k r1 r2 c F4.out.inv IS.out H2.out GG.out (OK.out.mono LE4.out F3.out.inv F4.out.inv R1.out) hr)
          clear hr
          unfold ptrV at *
          go_wp2_with fail
          refine JO.out.mono ?_
          rintro e w5 ⟨r, x, s3, rfl, i5, le5, t5, o5, m5, hout⟩
          have F5 := Lib.hid (F4.out.step OK.out t5 i5 le5 o5)
          have LE5 := Lib.hid le5
          have V5 : Hid (Move (X.own s2) (X.own s3) E.b w4 w5) := Move.of t5 o5
          have M5 := Lib.hid m5
          clear i5 le5 t5 o5 m5 JO cj
          rcases hout with ⟨rfl, hr⟩ | ⟨rfl, rfl, hfull⟩
          · have R := Lib.hid hr
            have cf := F5.out.cf
            obtain ⟨w6, hmu, f6, t6⟩ := F5.out.put OK.out (by have := HNN.out; have := P2.out; have := P1.out; have := N3.out; have := N4.out; omega) IS.out hr
            have F6 := Lib.hid f6
            have V6 : Hid (Move (X.own s3) (X.own s3) E.b w5 w6) := Move.put t6
            clear hr f6 t6
            go_wp2_with fail
            go_ret2
            have P2' := P2.out
            have P1' := P1.out
            have PJ' := PJ.out
            have M3' := M3.out
            have N3' := N3.out
            have M4' := M4.out
            have N4' := N4.out
            have M5' := M5.out
            exact ⟨r, 0, s3, N2 + 1, rfl, F6.out, OK.out.trans (OK.out.trans LE3.out LE4.out) LE5.out, ((((Move.below B2.out).trans V3.out).trans V4.out).trans V5.out).trans V6.out, by omega, by omega, .inl ⟨rfl, OK.out.mono (OK.out.refl s3) F5.out.inv F6.out.inv R.out⟩⟩
          · have FU := Lib.hid hfull
            clear hfull
            go_wp2_with fail
            go_ret2
            have P2' := P2.out
            have P1' := P1.out
            have PJ' := PJ.out
            have M3' := M3.out
            have N3' := N3.out
            have M4' := M4.out
            have N4' := N4.out
            have M5' := M5.out
            exact ⟨0, 30, s3, N2, rfl, F5.out, OK.out.trans (OK.out.trans LE3.out LE4.out) LE5.out, (((Move.below B2.out).trans V3.out).trans V4.out).trans V5.out, by omega, by omega, .inr ⟨rfl, rfl, FU.out⟩⟩
        · have FU := Lib.hid hfull
          clear hfull
          go_wp2_with fail
          go_ret2
          have P2' := P2.out
          have P1' := P1.out
          have PJ' := PJ.out
          have M3' := M3.out
          have N3' := N3.out
          have M4' := M4.out
          have N4' := N4.out
          exact ⟨0, 30, s2, N2, rfl, F4.out, OK.out.trans LE3.out LE4.out, ((Move.below B2.out).trans V3.out).trans V4.out, by omega, by omega, .inr ⟨rfl, rfl, FU.out⟩⟩
      · have FU := Lib.hid hfull
        clear hfull
        go_wp2_with fail
        go_ret2
        have P2' := P2.out
        have P1' := P1.out
        have PJ' := PJ.out
        have M3' := M3.out
        have N3' := N3.out
        have Q := Nat.mul_le_mul_left X.J P1'
        exact ⟨0, 30, s1, N1, rfl, F3.out, LE3.out, (Move.below B2.out).trans V3.out, by omega, by omega, .inr ⟨rfl, rfl, FU.out⟩⟩
end Go.Proofs.Ytmbkkifopmbkaaa

/- Layer 5 (quan): what rebuild leaves; the world in which find is called first. -/
namespace Go.Proofs.Ytmbkkifopmbkaaa
open Go.ChangeShapes Go.WideShapes Go.ChangeAt Go.RowKit Go.Maps

def RbOut (X : RebX) (s : X.T) (n k : Nat) (w : World) (e : Ending) (w' : World) : Prop :=
  ∃ (r : Nat) (x : Int) (s' : X.T), e = .returned (.tuple #[.int .i64 (r : Int), .int .i64 x]) ∧ X.Inv s' w' ∧ X.le s s' ∧ Turn (X.own s) w w' ∧ (∀ i, X.own s' i → X.own s i ∨ w.heap.size ≤ i) ∧
    X.num s' + X.J ≤ X.num s + X.J * 2 ^ n ∧ ((x = 0 ∧ X.Res s' k r) ∨ (x = 30 ∧ r = 0 ∧ X.Full s'))

theorem at_new {w : World} {n : Nat} (o : Obj) (h : w.heap.size = n) : (w.alloc o).heap[n]? = some o := by rw [← h]; exact heap_alloc_new w o
theorem at_old {w : World} {i : Nat} {x : Obj} (o : Obj) (h : w.heap[i]? = some x) : (w.alloc o).heap[i]? = some x := (Below.heap_alloc w o i (row_lt h)).trans h

def envOf (n : Nat) : Env := ⟨n + 1, n + 1 + 1 + 1 + 1, n, n + 1 + 1 + 1 + 1 + 1, n + 1 + 1, n + 1 + 1 + 1⟩
def envW (w : World) (sv tv jv : Value) : World :=
  ((((((w.alloc (.cells #[sv] 22)).alloc (.cells #[tv] 77)).alloc (.cells #[jv] 79)).alloc (.map #[] 0)).alloc
    (.cells #[.map (some (w.heap.size + 1 + 1 + 1))] 86)).alloc (.cells #[(envOf w.heap.size).fv] 104))

theorem envW_st {X : RebX} {sv tv jv : Value} {s : X.T} {w : World} (ok : X.Ok sv) (hi : X.Inv s w) : FSt X (envOf w.heap.size) sv tv jv s (envW w sv tv jv) 0 ∧ Below w.heap.size w (envW w sv tv jv) := by
  have own := fun i => ok.lt (i := i) hi
  have b6 : Below w.heap.size w (envW w sv tv jv) := by
    unfold envW
    exact ((((((Below.refl w.heap.size w).alloc (Nat.le_refl _) _).alloc (by simp) _).alloc (by simp; omega) _).alloc (by simp; omega) _).alloc (by simp; omega) _).alloc (by simp; omega) _
  refine ⟨?_, b6⟩
  have inv := ok.keep (P := fun _ => False) hi (Turn.of_below b6) (fun _ _ h => h)
  have r1 := at_old (.cells #[(envOf w.heap.size).fv] 104) (at_old (.cells #[.map (some (w.heap.size + 1 + 1 + 1))] 86) (at_old (.map #[] 0) (at_old (.cells #[jv] 79) (at_old (.cells #[tv] 77) (heap_alloc_new w (.cells #[sv] 22))))))
  have r2 := at_old (.cells #[(envOf w.heap.size).fv] 104) (at_old (.cells #[.map (some (w.heap.size + 1 + 1 + 1))] 86) (at_old (.map #[] 0) (at_old (.cells #[jv] 79) (at_new (n := w.heap.size + 1) (w := w.alloc (.cells #[sv] 22)) (.cells #[tv] 77) (by simp)))))
  have r3 := at_old (.cells #[(envOf w.heap.size).fv] 104) (at_old (.cells #[.map (some (w.heap.size + 1 + 1 + 1))] 86) (at_old (.map #[] 0) (at_new (n := w.heap.size + 1 + 1) (w := (w.alloc (.cells #[sv] 22)).alloc (.cells #[tv] 77)) (.cells #[jv] 79) (by simp))))
  have r4 := at_old (.cells #[(envOf w.heap.size).fv] 104) (at_old (.cells #[.map (some (w.heap.size + 1 + 1 + 1))] 86) (at_new (n := w.heap.size + 1 + 1 + 1) (w := ((w.alloc (.cells #[sv] 22)).alloc (.cells #[tv] 77)).alloc (.cells #[jv] 79)) (.map #[] 0) (by simp)))
  have r5 := at_old (.cells #[(envOf w.heap.size).fv] 104) (at_new (n := w.heap.size + 1 + 1 + 1 + 1) (w := (((w.alloc (.cells #[sv] 22)).alloc (.cells #[tv] 77)).alloc (.cells #[jv] 79)).alloc (.map #[] 0)) (.cells #[.map (some (w.heap.size + 1 + 1 + 1))] 86) (by simp))
  have r6 := at_new (n := w.heap.size + 1 + 1 + 1 + 1 + 1) (w := ((((w.alloc (.cells #[sv] 22)).alloc (.cells #[tv] 77)).alloc (.cells #[jv] 79)).alloc (.map #[] 0)).alloc (.cells #[.map (some (w.heap.size + 1 + 1 + 1))] 86)) (.cells #[(envOf w.heap.size).fv] 104) (by simp)
  have no : ∀ j, ¬ X.own s (w.heap.size + j) := fun j q => by have := own _ q; omega
  exact ⟨inv, ⟨_, IMap.made r4, IGood.empty _⟩, no 3, cell_of_row _ _ 0 _ _ _ r2, cell_of_row _ _ 0 _ _ _ r5, cell_of_row _ _ 0 _ _ _ r1, cell_of_row _ _ 0 _ _ _ r6, cell_of_row _ _ 0 _ _ _ r3, no 1, no 4, no 0, no 5, no 2⟩

theorem RbOut.of {X : RebX} {E : Env} {sv tv jv : Value} {s : X.T} {n k : Nat} {w w1 w2 : World} {e : Ending} (hb : Below w.heap.size w w1) (hE : w.heap.size ≤ E.b) (f : FOut X E sv tv jv s 0 n k w1 e w2) : RbOut X s n k w e w2 := by
  obtain ⟨r, x, s', N', e1, f2, le, mv, m, -, hout⟩ := f
  refine ⟨r, x, s', e1, f2.inv, le, (Turn.of_below hb).trans mv.turn ?_, fun i hi => (mv.own i hi).imp id fun q => Nat.le_trans hb.size q, m, hout⟩
  rintro i (q | rfl)
  · exact .inl q
  · exact .inr hE

theorem RbOut.pre {X : RebX} {s : X.T} {n k : Nat} {w w1 w2 : World} {e : Ending} (hb : Below w.heap.size w w1) (f : RbOut X s n k w1 e w2) : RbOut X s n k w e w2 := by
  obtain ⟨r, x, s', e1, i, le, t, ow, m, hout⟩ := f
  exact ⟨r, x, s', e1, i, le, (Turn.of_below hb).trans t (fun i h => .inl h), fun i hi => (ow i hi).imp id fun q => Nat.le_trans hb.size q, m, hout⟩
end Go.Proofs.Ytmbkkifopmbkaaa

/- Layer 5 (quan): rebuild, as Restrict asks it. -/
namespace Go.Proofs.Ytmbkkifopmbkaaa
open Go.ChangeShapes Go.WideShapes Go.ChangeAt Go.RowKit Go.Maps

set_option maxRecDepth 100000 in
set_option maxHeartbeats 4000000 in
theorem rebuild_anyA {X : RebX} {ss : Nat} {p1 p2 p3 ms : Nat} (ok : X.Ok (ptrV ss))
    (TC : ∀ (s : X.T) (w : World) (k : Nat) (c : Nd), X.Inv s w → Is X.cs k c → Calls Try.prog 30 #[.int .i64 (k : Int), ptrV p1, ptrV p2, ptrV p3] w (ToldOut X s k w))
    (JC : ∀ (s : X.T) (w : World) (k a b : Nat) (c : Nd), X.Inv s w → Is X.cs k c → 2 ≤ k → X.Goes k → X.Res s c.low a → X.Res s c.high b → Calls Try.prog 33 #[ptrV ms, .int .i64 c.asks, .int .i64 (a : Int), .int .i64 (b : Int)] w (JoinOut X s k w))
    {n : Nat} {s : X.T} {w : World} {k : Nat} {c : Nd} (hi : X.Inv s w) (hk : Is X.cs k c) (hn : rk X.V c ≤ n) (hN : 2 ^ n ≤ 2000000) :
      Calls Try.prog 32 #[ptrV ss, .int .i64 (k : Int), (.func (.func 30) #[] #[ptrV p1, ptrV p2, ptrV p3]), (.func (.func 33) #[ptrV ms] #[])] w (RbOut X s n k w) := by
  have FI := fun E N w' f => find_anyA (E := E) ok TC JC n s w' N k c f hk hn
  have hmf : ∀ (fn : Fn) (first cap : Array Value) (w : World), (Instr.makeFunc fn first cap).run Try.prog w = .ok (.func fn first cap) w := fun _ _ _ _ => rfl
  have hmm := @run_makeMap Try.prog
  have FI := Lib.hid FI
  have II := Lib.hid hi
  have OK := Lib.hid ok
  have HN := Lib.hid hN
  clear TC JC hn hN ok hi
  unfold ptrV
  obtain ⟨f0, hb0⟩ := envW_st (tv := (.func (.func 30) #[] #[ptrV p1, ptrV p2, ptrV p3])) (jv := (.func (.func 33) #[ptrV ms] #[])) OK.out II.out
  have C := Lib.hid (FI.out _ _ _ f0 (by have := HN.out; omega))
  have B0 := Lib.hid hb0
  clear f0 hb0 FI II OK HN
  unfold envW envOf Env.fv ptrV at C B0
  go_enter Try.func32, Try.ntmps32
  go_wp2_with fail
  refine C.out.mono ?_
  intro e w2 hout
  have HO := Lib.hid (RbOut.of B0.out (by show _ ≤ w.heap.size + 1 + 1 + 1; omega) hout)
  obtain ⟨r, x, s', N', rfl, -⟩ := hout
  clear C B0
  go_wp2_with fail
  go_ret2
  exact HO.out
end Go.Proofs.Ytmbkkifopmbkaaa

/- Layer 5 (quan): rebuild, as keep asks it. -/
namespace Go.Proofs.Ytmbkkifopmbkaaa
open Go.ChangeShapes Go.WideShapes Go.ChangeAt Go.RowKit Go.Maps

set_option maxRecDepth 100000 in
set_option maxHeartbeats 4000000 in
theorem rebuild_anyB {X : RebX} {ss : Nat} {ms : Nat} (ok : X.Ok (ptrV ss))
    (TC : ∀ (s : X.T) (w : World) (k : Nat) (c : Nd), X.Inv s w → Is X.cs k c → Calls Try.prog 42 #[.int .i64 (k : Int)] w (ToldOut X s k w))
    (JC : ∀ (s : X.T) (w : World) (k a b : Nat) (c : Nd), X.Inv s w → Is X.cs k c → 2 ≤ k → X.Goes k → X.Res s c.low a → X.Res s c.high b → Calls Try.prog 33 #[ptrV ms, .int .i64 c.asks, .int .i64 (a : Int), .int .i64 (b : Int)] w (JoinOut X s k w))
    {n : Nat} {s : X.T} {w : World} {k : Nat} {c : Nd} (hi : X.Inv s w) (hk : Is X.cs k c) (hn : rk X.V c ≤ n) (hN : 2 ^ n ≤ 2000000) :
      Calls Try.prog 32 #[ptrV ss, .int .i64 (k : Int), (.func (.func 42) #[] #[]), (.func (.func 33) #[ptrV ms] #[])] w (RbOut X s n k w) := by
  have FI := fun E N w' f => find_anyB (E := E) ok TC JC n s w' N k c f hk hn
  have hmf : ∀ (fn : Fn) (first cap : Array Value) (w : World), (Instr.makeFunc fn first cap).run Try.prog w = .ok (.func fn first cap) w := fun _ _ _ _ => rfl
  have hmm := @run_makeMap Try.prog
  have FI := Lib.hid FI
  have II := Lib.hid hi
  have OK := Lib.hid ok
  have HN := Lib.hid hN
  clear TC JC hn hN ok hi
  unfold ptrV
  obtain ⟨f0, hb0⟩ := envW_st (tv := (.func (.func 42) #[] #[])) (jv := (.func (.func 33) #[ptrV ms] #[])) OK.out II.out
  have C := Lib.hid (FI.out _ _ _ f0 (by have := HN.out; omega))
  have B0 := Lib.hid hb0
  clear f0 hb0 FI II OK HN
  unfold envW envOf Env.fv ptrV at C B0
  go_enter Try.func32, Try.ntmps32
  go_wp2_with fail
  refine C.out.mono ?_
  intro e w2 hout
  have HO := Lib.hid (RbOut.of B0.out (by show _ ≤ w.heap.size + 1 + 1 + 1; omega) hout)
  obtain ⟨r, x, s', N', rfl, -⟩ := hout
  clear C B0
  go_wp2_with fail
  go_ret2
  exact HO.out
end Go.Proofs.Ytmbkkifopmbkaaa

/- Layer 5 (quan): rebuild, as Rename asks it. -/
namespace Go.Proofs.Ytmbkkifopmbkaaa
open Go.ChangeShapes Go.WideShapes Go.ChangeAt Go.RowKit Go.Maps

set_option maxRecDepth 100000 in
set_option maxHeartbeats 4000000 in
theorem rebuild_anyC {X : RebX} {ss : Nat} {p1 p2 : Nat} (ok : X.Ok (ptrV ss))
    (TC : ∀ (s : X.T) (w : World) (k : Nat) (c : Nd), X.Inv s w → Is X.cs k c → Calls Try.prog 42 #[.int .i64 (k : Int)] w (ToldOut X s k w))
    (JC : ∀ (s : X.T) (w : World) (k a b : Nat) (c : Nd), X.Inv s w → Is X.cs k c → 2 ≤ k → X.Goes k → X.Res s c.low a → X.Res s c.high b → Calls Try.prog 40 #[.int .i64 c.asks, .int .i64 (a : Int), .int .i64 (b : Int), ptrV p1, ptrV p2] w (JoinOut X s k w))
    {n : Nat} {s : X.T} {w : World} {k : Nat} {c : Nd} (hi : X.Inv s w) (hk : Is X.cs k c) (hn : rk X.V c ≤ n) (hN : 2 ^ n ≤ 2000000) :
      Calls Try.prog 32 #[ptrV ss, .int .i64 (k : Int), (.func (.func 42) #[] #[]), (.func (.func 40) #[] #[ptrV p1, ptrV p2])] w (RbOut X s n k w) := by
  have FI := fun E N w' f => find_anyC (E := E) ok TC JC n s w' N k c f hk hn
  have hmf : ∀ (fn : Fn) (first cap : Array Value) (w : World), (Instr.makeFunc fn first cap).run Try.prog w = .ok (.func fn first cap) w := fun _ _ _ _ => rfl
  have hmm := @run_makeMap Try.prog
  have FI := Lib.hid FI
  have II := Lib.hid hi
  have OK := Lib.hid ok
  have HN := Lib.hid hN
  clear TC JC hn hN ok hi
  unfold ptrV
  obtain ⟨f0, hb0⟩ := envW_st (tv := (.func (.func 42) #[] #[])) (jv := (.func (.func 40) #[] #[ptrV p1, ptrV p2])) OK.out II.out
  have C := Lib.hid (FI.out _ _ _ f0 (by have := HN.out; omega))
  have B0 := Lib.hid hb0
  clear f0 hb0 FI II OK HN
  unfold envW envOf Env.fv ptrV at C B0
  go_enter Try.func32, Try.ntmps32
  go_wp2_with fail
  refine C.out.mono ?_
  intro e w2 hout
  have HO := Lib.hid (RbOut.of B0.out (by show _ ≤ w.heap.size + 1 + 1 + 1; omega) hout)
  obtain ⟨r, x, s', N', rfl, -⟩ := hout
  clear C B0
  go_wp2_with fail
  go_ret2
  exact HO.out
end Go.Proofs.Ytmbkkifopmbkaaa
