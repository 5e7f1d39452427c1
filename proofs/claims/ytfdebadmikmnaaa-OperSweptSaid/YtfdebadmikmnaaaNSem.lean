/- What Mk gives, by what nodes say; the laws' awake of layer 3 (node). -/
import Derived.Test.YtfdebadmikmnaaaNSweep
namespace Go.Proofs.Ytfdebadmikmnaaa
open Go.ChangeShapes Go.WideShapes Go.ChangeAt Go.RowKit Go.Maps

/-- All nodes stay, with their pins. -/
def Ext (cs cs' : List Nd) : Prop := ∀ k c, Is cs k c → Is cs' k c
theorem Ext.refl (cs : List Nd) : Ext cs cs := fun _ _ h => h
theorem Ext.trans {a b c : List Nd} (h : Ext a b) (k : Ext b c) : Ext a c := fun i d hi => k i d (h i d hi)
theorem Ext.grow {cs cs' : List Nd} (h : Ext cs cs') : Grow cs cs' := fun k c _ hk => ⟨c.pins, h k c hk⟩
theorem Ext.says {V : Nat} {cs cs' : List Nd} (h : Ext cs cs') (g : NGood V cs) (g' : NGood V cs') (val : Nat → Bool) {k : Nat} {c : Nd} (hk : Is cs k c) : Says V cs' val k = Says V cs val k := h.grow.says g g' val hk

/-- New nodes have no pins. -/
def Fresh (cs cs' : List Nd) : Prop := ∀ i c, Is cs' i c → Is cs i c ∨ c.pins = 0
theorem Fresh.refl (cs : List Nd) : Fresh cs cs := fun _ _ h => .inl h
theorem Fresh.trans {a b c : List Nd} (h : Fresh a b) (k : Fresh b c) : Fresh a c := fun i d hd => (k i d hd).elim (h i d) .inr

/-- A store and what it owns, behind a call: its block is the same, what it owns now it owned, or is new. -/
structure Next (m m' : Mem) (w w' : World) : Prop where
  turn : Turn m.own w w'
  s : m'.s = m.s
  own : ∀ i, m'.own i → m.own i ∨ w.heap.size ≤ i

theorem Next.refl (m : Mem) (w : World) : Next m m w w := ⟨Turn.refl _ _, rfl, fun _ h => .inl h⟩
theorem Next.trans {m m1 m2 : Mem} {w w1 w2 : World} (h : Next m m1 w w1) (k : Next m1 m2 w1 w2) : Next m m2 w w2 :=
  ⟨h.turn.trans k.turn h.own, k.s.trans h.s, fun i hi => (k.own i hi).elim (h.own i) fun hh => .inr (Nat.le_trans h.turn.size hh)⟩
theorem Next.below {m : Mem} {w w' : World} (hb : Below w.heap.size w w') : Next m m w w' := ⟨Turn.of_below hb, rfl, fun _ h => .inl h⟩
/-- What the store does not own stays. -/
theorem Next.cell {m m' : Mem} {w w' : World} (h : Next m m' w w') {p : Addr} {v : Value} (hp : w.cell? p = some v) (hn : ¬ m.own p.block) : w'.cell? p = some v := h.turn.cell hp hn
theorem Next.not_own {m m' : Mem} {w w' : World} (h : Next m m' w w') {i : Nat} (hi : i < w.heap.size) (hn : ¬ m.own i) : ¬ m'.own i := fun hh => (h.own i hh).elim hn (by omega)
theorem Next.to_below {B : Nat} {m m' : Mem} {w0 w w' : World} (h : Next m m' w w') (hb : Below B w0 w) (ho : ∀ i, m.own i → B ≤ i) (hB : B ≤ w.heap.size) : Below B w0 w' ∧ ∀ i, m'.own i → B ≤ i :=
  ⟨Turn.to_below hb h.turn ho hB, fun i hi => (h.own i hi).elim (ho i) fun hh => Nat.le_trans hB hh⟩

def MkOk (m : Mem) (h : Hd) (cs : List Nd) (v a b : Nat) (w : World) (e : Ending) (w' : World) : Prop :=
  ∃ (k : Nat) (m' : Mem) (h' : Hd) (cs' : List Nd) (c : Nd), e = .returned (.tuple #[.int .i64 (k : Int), .int .i64 0]) ∧ St w' m' h' cs' ∧ Ext cs cs' ∧ Is cs' k c ∧ (v : Int) ≤ c.asks ∧
    (∀ val, Says h.V cs' val k = if val v then Says h.V cs val b else Says h.V cs val a) ∧ h'.V = h.V ∧ h'.B = h.B ∧ cnt cs' ≤ cnt cs + 1 ∧ Fresh cs cs' ∧ Next m m' w w'

def MkSem (m : Mem) (h : Hd) (cs : List Nd) (v a b : Nat) (w : World) (e : Ending) (w' : World) : Prop :=
  MkOk m h cs v a b w e w' ∨ (e = .returned (.tuple #[.int .i64 0, .int .i64 30]) ∧ Below w.heap.size w w' ∧ cnt cs = h.B)

theorem mk_sem {w : World} {m : Mem} {h : Hd} {cs : List Nd} (s : St w m h cs) {v a b : Nat} {ca cb : Nd} (h1 : v < h.V) (ha : Is cs a ca) (hva : (v : Int) < ca.asks) (hb : Is cs b cb) (hvb : (v : Int) < cb.asks) :
    Calls Try.prog 29 #[ptrV m.s, .int .i64 (v : Int), .int .i64 a, .int .i64 b] w (MkSem m h cs v a b w) := by
  have hv0 : (0 : Int) ≤ (v : Int) := by omega
  have hv1 : (v : Int) < h.V := by omega
  by_cases hab : a = b
  · subst hab
    refine (mk_same s.lay hv0 hv1 ha hva).mono ?_
    rintro e w' ⟨rfl, rfl⟩
    exact .inl ⟨a, m, h, cs, ca, rfl, s, Ext.refl _, ha, by omega, fun val => by simp, rfl, rfl, by omega, Fresh.refl _, Next.refl _ _⟩
  · rcases Classical.em (∃ k ck, 2 ≤ k ∧ Is cs k ck ∧ ck.key = ⟨v, a, b⟩) with ⟨k, ck, hk2, hk, hkk⟩ | hno
    · refine (mk_old s hv0 hv1 ha hva hb hvb hab hk2 hk hkk).mono ?_
      rintro e w' ⟨rfl, hbel⟩
      unfold Nd.key at hkk
      injection hkk with k1 k2 k3
      have k2 := Int.ofNat.inj k2
      have k3 := Int.ofNat.inj k3
      refine .inl ⟨k, m, h, cs, ck, rfl, s.keep hbel, Ext.refl _, hk, by omega, fun val => ?_, rfl, rfl, by omega, Fresh.refl _, Next.below hbel⟩
      rw [Says_step s.good val hk2 hk, k1, k2, k3, Int.toNat_natCast]
      by_cases hv : val v
      · rw [if_pos hv, if_pos hv]
      · rw [if_neg hv, if_neg hv]
    · refine (mk_none s hv0 hv1 ha hva hb hvb hab fun j d hj hd he => hno ⟨j, d, hj, hd, he⟩).mono ?_
      intro e w' hout
      unfold MkNoneOut at hout
      by_cases hf : cnt cs = h.B
      · rw [if_pos hf] at hout
        exact .inr ⟨hout.1, hout.2, hf⟩
      · rw [if_neg hf] at hout
        obtain ⟨k, m', lf', rfl, hst, hfree, hk2, hfu, htu, hs', hown⟩ := hout
        have hne : (v : Int) ≠ -1 := by omega
        have hx : Ext cs (addAt cs k ⟨v, a, b, 0⟩) := fun i d hd => addAt_is hfree hd
        have hk : Is (addAt cs k ⟨v, a, b, 0⟩) k ⟨v, a, b, 0⟩ := ⟨by rw [addAt_get cs k _ hfree.1, if_pos rfl], hne⟩
        have hfr : Fresh cs (addAt cs k ⟨v, a, b, 0⟩) := by
          intro i d hd
          have h1 := hd.1
          rw [addAt_get cs k _ hfree.1] at h1
          by_cases e : k = i
          · rw [if_pos e] at h1; injection h1 with h1; subst h1; exact .inr rfl
          · rw [if_neg e] at h1; exact .inl ⟨h1, hd.2⟩
        refine .inl ⟨k, m', _, _, _, rfl, hst, hx, hk, Int.le_refl _, fun val => ?_, rfl, rfl, by rw [addAt_cnt hfree hne]; exact Nat.le_refl _, hfr, htu, hs', hown⟩
        have g' : NGood h.V (addAt cs k ⟨v, a, b, 0⟩) := hst.good
        rw [Says_step g' val hk2 hk]
        show Says h.V _ val (if val (v : Int).toNat = true then b else a) = _
        rw [Int.toNat_natCast]
        by_cases hv : val v
        · rw [if_pos hv, if_pos hv, hx.says s.good g' val hb]
        · rw [if_neg hv, if_neg hv, hx.says s.good g' val ha]

theorem mk_room {w : World} {m : Mem} {h : Hd} {cs : List Nd} (s : St w m h cs) (hr : cnt cs < h.B) {v a b : Nat} {ca cb : Nd} (h1 : v < h.V) (ha : Is cs a ca) (hva : (v : Int) < ca.asks) (hb : Is cs b cb) (hvb : (v : Int) < cb.asks) :
    Calls Try.prog 29 #[ptrV m.s, .int .i64 (v : Int), .int .i64 a, .int .i64 b] w (MkOk m h cs v a b w) :=
  (mk_sem s h1 ha hva hb hvb).mono fun _ _ h => h.elim id fun hh => by omega

end Go.Proofs.Ytfdebadmikmnaaa
