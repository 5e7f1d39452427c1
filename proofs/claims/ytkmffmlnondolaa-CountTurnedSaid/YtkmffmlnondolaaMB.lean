/- Merged: NPlain, NMark, NBase, NEval, NSize, NPin, NNew. -/
import Derived.Test.YtkmffmlnondolaaMA
import Derived.Laws.LoneSync
import Derived.Maps.OwnSet
import Derived.Maps.Views
import Derived.Deep.AppendLies

/- Plain facts on nodes of decision diagrams: lists alone, no program. -/
namespace Go.Proofs.Ytkmffmlnondolaa

/-- What stands at a number: what it asks (-1: no node stands there), low, high, its pins. -/
structure Nd where
  asks : Int
  low : Nat
  high : Nat
  pins : Nat

def Nd.gone : Nd := ⟨-1, 0, 0, 0⟩
def Nd.key (c : Nd) : Key := ⟨c.asks, c.low, c.high⟩

/-- Number k is a node: c. -/
def Is (cs : List Nd) (k : Nat) (c : Nd) : Prop := cs[k]? = some c ∧ c.asks ≠ -1

theorem Is.lt {cs : List Nd} {k : Nat} {c : Nd} (h : Is cs k c) : k < cs.length := (List.getElem?_eq_some_iff.1 h.1).1
theorem Is.same {cs : List Nd} {k : Nat} {c d : Nd} (h : Is cs k c) (h' : Is cs k d) : c = d := by
  have := h.1.symm.trans h'.1
  injection this

structure NGood (V : Nat) (cs : List Nd) : Prop where
  c0 : ∃ p, cs[0]? = some ⟨V, 0, 0, p⟩
  c1 : ∃ p, cs[1]? = some ⟨V, 1, 1, p⟩
  gone : ∀ (k : Nat) (c : Nd), cs[k]? = some c → c.asks = -1 → c = Nd.gone
  ok : ∀ k c, 2 ≤ k → Is cs k c → 0 ≤ c.asks ∧ c.asks < V ∧ c.low ≠ c.high
  lo : ∀ k c, 2 ≤ k → Is cs k c → ∃ l, Is cs c.low l ∧ c.asks < l.asks
  hi : ∀ k c, 2 ≤ k → Is cs k c → ∃ h, Is cs c.high h ∧ c.asks < h.asks
  uniq : ∀ k j c d, 2 ≤ k → 2 ≤ j → Is cs k c → Is cs j d → c.key = d.key → k = j
  pins : ∀ (k : Nat) (c : Nd), cs[k]? = some c → c.pins ≤ 1073741824

section
variable {V : Nat} {cs : List Nd}

theorem NGood.is0 (g : NGood V cs) : ∃ p, Is cs 0 ⟨V, 0, 0, p⟩ := by
  obtain ⟨p, h⟩ := g.c0; exact ⟨p, h, by show (V : Int) ≠ -1; omega⟩
theorem NGood.is1 (g : NGood V cs) : ∃ p, Is cs 1 ⟨V, 1, 1, p⟩ := by
  obtain ⟨p, h⟩ := g.c1; exact ⟨p, h, by show (V : Int) ≠ -1; omega⟩
theorem NGood.len (g : NGood V cs) : 2 ≤ cs.length := by
  obtain ⟨p, h⟩ := g.is1; have := h.lt; omega

theorem NGood.base (g : NGood V cs) {k : Nat} {c : Nd} (hk : k < 2) (h : Is cs k c) : c.asks = V ∧ c.low = k ∧ c.high = k := by
  have : k = 0 ∨ k = 1 := by omega
  rcases this with rfl | rfl
  · obtain ⟨p, h0⟩ := g.is0; obtain rfl := h.same h0; exact ⟨rfl, rfl, rfl⟩
  · obtain ⟨p, h0⟩ := g.is1; obtain rfl := h.same h0; exact ⟨rfl, rfl, rfl⟩

theorem NGood.range (g : NGood V cs) {k : Nat} {c : Nd} (h : Is cs k c) : 0 ≤ c.asks ∧ c.asks ≤ V := by
  by_cases hk : k < 2
  · have := (g.base hk h).1; omega
  · have := g.ok k c (by omega) h; omega

/-- How many variables are from what a node asks on. -/
def rk (V : Nat) (c : Nd) : Nat := (V - c.asks).toNat

theorem NGood.ind (g : NGood V cs) {P : Nat → Prop} (h0 : P 0) (h1 : P 1) (hs : ∀ k c, 2 ≤ k → Is cs k c → P c.low → P c.high → P k) : ∀ k c, Is cs k c → P k := by
  have aux : ∀ n k c, Is cs k c → rk V c ≤ n → P k := by
    intro n
    induction n with
    | zero =>
      intro k c h hr
      by_cases hk : k < 2
      · have : k = 0 ∨ k = 1 := by omega
        rcases this with rfl | rfl
        · exact h0
        · exact h1
      · have := g.ok k c (by omega) h
        unfold rk at hr; omega
    | succ n ih =>
      intro k c h hr
      by_cases hk : k < 2
      · have : k = 0 ∨ k = 1 := by omega
        rcases this with rfl | rfl
        · exact h0
        · exact h1
      · have := g.ok k c (by omega) h
        obtain ⟨l, hl, hl2⟩ := g.lo k c (by omega) h
        obtain ⟨m, hm, hm2⟩ := g.hi k c (by omega) h
        unfold rk at hr
        exact hs k c (by omega) h (ih _ l hl (by unfold rk; omega)) (ih _ m hm (by unfold rk; omega))
  intro k c h
  exact aux _ k c h (Nat.le_refl _)

/-- What a node says of values. -/
def says (cs : List Nd) (val : Nat → Bool) : Nat → Nat → Bool
  | 0, k => k == 1
  | n + 1, k => if k < 2 then k == 1 else says cs val n (match cs[k]? with | some c => if val c.asks.toNat then c.high else c.low | none => 0)

theorem says_stable (g : NGood V cs) (val : Nat → Bool) : ∀ n m k c, Is cs k c → rk V c ≤ n → rk V c ≤ m → says cs val n k = says cs val m k := by
  intro n
  induction n with
  | zero =>
    intro m k c h h1 h2
    have hk : k < 2 := by
      rcases Nat.lt_or_ge k 2 with hk | hk
      · exact hk
      · have := g.ok k c hk h; unfold rk at h1; omega
    cases m with
    | zero => rfl
    | succ m => simp [says, hk]
  | succ n ih =>
    intro m k c h h1 h2
    by_cases hk : k < 2
    · cases m with
      | zero => simp [says, hk]
      | succ m => simp [says, hk]
    · have ho := g.ok k c (by omega) h
      cases m with
      | zero => unfold rk at h2; omega
      | succ m =>
        obtain ⟨l, hl, hl2⟩ := g.lo k c (by omega) h
        obtain ⟨r, hr, hr2⟩ := g.hi k c (by omega) h
        unfold says
        rw [if_neg hk, if_neg hk]
        simp only [h.1]
        unfold rk at h1 h2
        by_cases hv : val c.asks.toNat
        · rw [if_pos hv]; exact ih m _ r hr (by unfold rk; omega) (by unfold rk; omega)
        · rw [if_neg hv]; exact ih m _ l hl (by unfold rk; omega) (by unfold rk; omega)

def Says (V : Nat) (cs : List Nd) (val : Nat → Bool) (k : Nat) : Bool := says cs val V k

theorem Says_zero (val : Nat → Bool) : Says V cs val 0 = false := by unfold Says; cases V <;> rfl
theorem Says_one (val : Nat → Bool) : Says V cs val 1 = true := by unfold Says; cases V <;> rfl

theorem Says_step (g : NGood V cs) (val : Nat → Bool) {k : Nat} {c : Nd} (hk : 2 ≤ k) (h : Is cs k c) : Says V cs val k = Says V cs val (if val c.asks.toNat then c.high else c.low) := by
  have ho := g.ok k c hk h
  obtain ⟨l, hl, hl2⟩ := g.lo k c (by omega) h
  obtain ⟨r, hr, hr2⟩ := g.hi k c (by omega) h
  unfold Says
  obtain ⟨n, rfl⟩ : ∃ n, V = n + 1 := ⟨V - 1, by omega⟩
  conv => lhs; unfold says
  rw [if_neg (by omega)]
  simp only [h.1]
  by_cases hv : val c.asks.toNat
  · rw [if_pos hv]; exact says_stable g val n (n + 1) _ r hr (by unfold rk; omega) (by unfold rk; omega)
  · rw [if_neg hv]; exact says_stable g val n (n + 1) _ l hl (by unfold rk; omega) (by unfold rk; omega)

theorem Says_agree (g : NGood V cs) {val val' : Nat → Bool} : ∀ k c, Is cs k c → (∀ c, Is cs k c → ∀ i : Nat, c.asks ≤ i → val i = val' i) → Says V cs val k = Says V cs val' k := by
  refine g.ind (P := fun k => (∀ c, Is cs k c → ∀ i : Nat, c.asks ≤ i → val i = val' i) → Says V cs val k = Says V cs val' k) ?_ ?_ ?_
  · intro _; rw [Says_zero, Says_zero]
  · intro _; rw [Says_one, Says_one]
  · intro k c hk h il ih ha
    have ho := g.ok k c hk h
    obtain ⟨l, hl, hl2⟩ := g.lo k c (by omega) h
    obtain ⟨r, hr, hr2⟩ := g.hi k c (by omega) h
    rw [Says_step g val hk h, Says_step g val' hk h, ← ha c h c.asks.toNat (by omega)]
    by_cases hv : val c.asks.toNat
    · rw [if_pos hv]; exact ih fun d hd i hi => by obtain rfl := hr.same hd; exact ha c h i (by omega)
    · rw [if_neg hv]; exact il fun d hd i hi => by obtain rfl := hl.same hd; exact ha c h i (by omega)

def upd (val : Nat → Bool) (a : Nat) (x : Bool) : Nat → Bool := fun i => if i = a then x else val i

theorem Says_upd (g : NGood V cs) {k : Nat} {c : Nd} (h : Is cs k c) (val : Nat → Bool) (a : Nat) (x : Bool) (ha : (a : Int) < c.asks) : Says V cs (upd val a x) k = Says V cs val k :=
  Says_agree g k c h fun d hd i hi => by
    obtain rfl := h.same hd
    unfold upd; rw [if_neg (by omega)]

theorem Says_low (g : NGood V cs) {k : Nat} {c : Nd} (hk : 2 ≤ k) (h : Is cs k c) (val : Nat → Bool) : Says V cs val c.low = Says V cs (upd val c.asks.toNat false) k := by
  have ho := g.ok k c hk h
  obtain ⟨l, hl, hl2⟩ := g.lo k c (by omega) h
  rw [Says_step g _ hk h]
  have : upd val c.asks.toNat false c.asks.toNat = false := by simp [upd]
  rw [this, if_neg (by simp), Says_upd g hl val _ _ (by omega)]
theorem Says_high (g : NGood V cs) {k : Nat} {c : Nd} (hk : 2 ≤ k) (h : Is cs k c) (val : Nat → Bool) : Says V cs val c.high = Says V cs (upd val c.asks.toNat true) k := by
  have ho := g.ok k c hk h
  obtain ⟨l, hl, hl2⟩ := g.hi k c (by omega) h
  rw [Says_step g _ hk h]
  have : upd val c.asks.toNat true c.asks.toNat = true := by simp [upd]
  rw [this, if_pos rfl, Says_upd g hl val _ _ (by omega)]

theorem canon_part (g : NGood V cs) {k j : Nat} {c d : Nd} (hk : Is cs k c) (hj : Is cs j d) (hlt : c.asks < d.asks) (he : ∀ val, Says V cs val k = Says V cs val j)
    (ih : ∀ k' j' c' d', Is cs k' c' → Is cs j' d' → rk V c' < rk V c → rk V d' < rk V c → (∀ val, Says V cs val k' = Says V cs val j') → k' = j') : False := by
  have hr := g.range hj
  have hk2 : 2 ≤ k := by
    rcases Nat.lt_or_ge k 2 with h | h
    · have := (g.base h hk).1; omega
    · exact h
  have ho := g.ok k c hk2 hk
  obtain ⟨l, hl, hl2⟩ := g.lo k c (by omega) hk
  obtain ⟨r, hr, hr2⟩ := g.hi k c (by omega) hk
  have e1 : c.low = j := ih _ _ l d hl hj (by unfold rk; omega) (by unfold rk; omega) fun val => by
    rw [Says_low g hk2 hk, he, Says_upd g hj _ _ _ (by omega)]
  have e2 : c.high = j := ih _ _ r d hr hj (by unfold rk; omega) (by unfold rk; omega) fun val => by
    rw [Says_high g hk2 hk, he, Says_upd g hj _ _ _ (by omega)]
  exact ho.2.2 (e1.trans e2.symm)

/-- WHAT SAYS THE SAME IS ONE NODE. -/
theorem canon (g : NGood V cs) {k j : Nat} {c d : Nd} (hk : Is cs k c) (hj : Is cs j d) (he : ∀ val, Says V cs val k = Says V cs val j) : k = j := by
  have aux : ∀ n k j c d, Is cs k c → Is cs j d → rk V c ≤ n → rk V d ≤ n → (∀ val, Says V cs val k = Says V cs val j) → k = j := by
    intro n
    induction n with
    | zero =>
      intro k j c d hk hj h1 h2 he
      have lt : ∀ k c, Is cs k c → rk V c ≤ 0 → k < 2 := fun k c hk h1 => by
        rcases Nat.lt_or_ge k 2 with h | h
        · exact h
        · have := g.ok k c h hk; unfold rk at h1; omega
      have a := lt k c hk h1
      have b := lt j d hj h2
      have e := he fun _ => false
      have : k = 0 ∨ k = 1 := by omega
      have : j = 0 ∨ j = 1 := by omega
      rcases ‹k = 0 ∨ k = 1› with rfl | rfl <;> rcases ‹j = 0 ∨ j = 1› with rfl | rfl
      · rfl
      · rw [Says_zero, Says_one] at e; cases e
      · rw [Says_zero, Says_one] at e; cases e
      · rfl
    | succ n ih =>
      intro k j c d hk hj h1 h2 he
      rcases Int.lt_trichotomy c.asks d.asks with h | h | h
      · exact (canon_part g hk hj h he fun k' j' c' d' a b r1 r2 e => ih k' j' c' d' a b (by omega) (by omega) e).elim
      · by_cases hk2 : k < 2
        · have b1 := g.base hk2 hk
          have hj2 : j < 2 := by
            rcases Nat.lt_or_ge j 2 with h' | h'
            · exact h'
            · have := g.ok j d h' hj; omega
          have e := he fun _ => false
          have : k = 0 ∨ k = 1 := by omega
          have : j = 0 ∨ j = 1 := by omega
          rcases ‹k = 0 ∨ k = 1› with rfl | rfl <;> rcases ‹j = 0 ∨ j = 1› with rfl | rfl
          · rfl
          · rw [Says_zero, Says_one] at e; cases e
          · rw [Says_zero, Says_one] at e; cases e
          · rfl
        · have hj2 : ¬ j < 2 := fun h' => by
            have := g.base h' hj; have := g.ok k c (by omega) hk; omega
          have ho := g.ok k c (by omega) hk
          obtain ⟨l, hl, hl2⟩ := g.lo k c (by omega) hk
          obtain ⟨r, hr, hr2⟩ := g.hi k c (by omega) hk
          obtain ⟨l', hl', hl2'⟩ := g.lo j d (by omega) hj
          obtain ⟨r', hr', hr2'⟩ := g.hi j d (by omega) hj
          unfold rk at h1 h2
          have e1 : c.low = d.low := ih _ _ l l' hl hl' (by unfold rk; omega) (by unfold rk; omega) fun val => by
            rw [Says_low g (by omega) hk, Says_low g (by omega) hj, he, h]
          have e2 : c.high = d.high := ih _ _ r r' hr hr' (by unfold rk; omega) (by unfold rk; omega) fun val => by
            rw [Says_high g (by omega) hk, Says_high g (by omega) hj, he, h]
          exact g.uniq k j c d (by omega) (by omega) hk hj (by unfold Nd.key; rw [h, e1, e2])
      · exact (canon_part g hj hk h (fun val => (he val).symm) fun k' j' c' d' a b r1 r2 e => ih k' j' c' d' a b (by omega) (by omega) e).elim
  exact aux (rk V c + rk V d) k j c d hk hj (by omega) (by omega) he

/-- Of numbers in M, nodes are what they were, but for pins. -/
def Keep (M : Nat → Prop) (cs cs' : List Nd) : Prop := ∀ k c, M k → Is cs k c → ∃ p, Is cs' k ⟨c.asks, c.low, c.high, p⟩
def Closed (M : Nat → Prop) (cs : List Nd) : Prop := ∀ k c, M k → 2 ≤ k → Is cs k c → M c.low ∧ M c.high

theorem Says_keep {cs' : List Nd} {M : Nat → Prop} (g : NGood V cs) (g' : NGood V cs') (hK : Keep M cs cs') (hM : Closed M cs) (val : Nat → Bool) : ∀ k c, Is cs k c → M k → Says V cs' val k = Says V cs val k := by
  refine g.ind (P := fun k => M k → Says V cs' val k = Says V cs val k) ?_ ?_ ?_
  · intro _; rw [Says_zero, Says_zero]
  · intro _; rw [Says_one, Says_one]
  · intro k c hk h il ih hm
    obtain ⟨p, hp⟩ := hK k c hm h
    obtain ⟨m1, m2⟩ := hM k c hm hk h
    rw [Says_step g val hk h, Says_step g' val hk hp]
    show Says V cs' val (if val c.asks.toNat then c.high else c.low) = _
    by_cases hv : val c.asks.toNat
    · rw [if_pos hv]; exact ih m2
    · rw [if_neg hv]; exact il m1
end

/-- A store grows: all nodes stay. -/
def Grow (cs cs' : List Nd) : Prop := Keep (fun _ => True) cs cs'
theorem Grow.refl (cs : List Nd) : Grow cs cs := fun _ c _ h => ⟨c.pins, h⟩
theorem Grow.trans {a b c : List Nd} (h : Grow a b) (k : Grow b c) : Grow a c := fun i d _ hi => by
  obtain ⟨p, hp⟩ := h i d trivial hi
  obtain ⟨q, hq⟩ := k i _ trivial hp
  exact ⟨q, hq⟩
theorem Grow.says {V : Nat} {cs cs' : List Nd} (h : Grow cs cs') (g : NGood V cs) (g' : NGood V cs') (val : Nat → Bool) {k : Nat} {c : Nd} (hk : Is cs k c) : Says V cs' val k = Says V cs val k :=
  Says_keep g g' h (fun _ _ _ _ _ => ⟨trivial, trivial⟩) val k c hk trivial

/-- How many nodes there are. -/
def cnt (cs : List Nd) : Nat := cs.countP fun c => decide (c.asks ≠ -1)

theorem ncount_set (g : Nd → Bool) (ps : List Nd) (x : Nat) (p q : Nd) (hx : ps[x]? = some q) : (ps.set x p).countP g + (if g q then 1 else 0) = ps.countP g + (if g p then 1 else 0) := by
  induction ps generalizing x with
  | nil => simp at hx
  | cons a r ih =>
    cases x with
    | zero =>
      simp at hx; subst hx
      simp only [List.set_cons_zero, List.countP_cons]; omega
    | succ x =>
      simp at hx
      have := ih x hx
      simp only [List.set_cons_succ, List.countP_cons]; omega

theorem nget_set (ps : List Nd) (x i : Nat) (p : Nd) (hx : x < ps.length) : (ps.set x p)[i]? = if x = i then some p else ps[i]? := by
  rw [List.getElem?_set]
  by_cases h : x = i
  · subst h; rw [if_pos rfl, if_pos hx, if_pos rfl]
  · rw [if_neg h, if_neg h]

/-- A node at the least free number. -/
def addAt (cs : List Nd) (k : Nat) (c : Nd) : List Nd := if k = cs.length then cs ++ [c] else cs.set k c

theorem addAt_get (cs : List Nd) (k : Nat) (c : Nd) (hk : k ≤ cs.length) (i : Nat) : (addAt cs k c)[i]? = if k = i then some c else cs[i]? := by
  unfold addAt
  by_cases h : k = cs.length
  · rw [if_pos h]
    by_cases hi : i < cs.length
    · rw [List.getElem?_append_left hi, if_neg (by omega)]
    · rw [List.getElem?_append_right (by omega)]
      by_cases e : k = i
      · rw [if_pos e, show i - cs.length = 0 by omega]; rfl
      · rw [if_neg e, List.getElem?_eq_none (by simp; omega), List.getElem?_eq_none (by omega)]
  · rw [if_neg h, nget_set _ _ _ _ (by omega)]

/-- Number k is free. -/
def Free (cs : List Nd) (k : Nat) : Prop := k ≤ cs.length ∧ ∀ c, cs[k]? = some c → c.asks = -1

theorem addAt_is {cs : List Nd} {k : Nat} {c : Nd} (hf : Free cs k) {i : Nat} {d : Nd} (h : Is cs i d) : Is (addAt cs k c) i d := by
  refine ⟨?_, h.2⟩
  rw [addAt_get cs k c hf.1]
  by_cases e : k = i
  · subst e; exact absurd (hf.2 d h.1) h.2
  · rw [if_neg e]; exact h.1

theorem addAt_cnt {cs : List Nd} {k : Nat} {c : Nd} (hf : Free cs k) (hc : c.asks ≠ -1) : cnt (addAt cs k c) = cnt cs + 1 := by
  unfold cnt addAt
  by_cases h : k = cs.length
  · rw [if_pos h, List.countP_append]; simp [hc]
  · rw [if_neg h]
    have hl : k < cs.length := by have := hf.1; omega
    have hg : cs[k]? = some cs[k] := List.getElem?_eq_getElem hl
    have := ncount_set (fun c => decide (c.asks ≠ -1)) cs k c cs[k] hg
    have h1 := hf.2 _ hg
    simp only [h1] at this
    simpa [hc] using this

theorem NGood.add {V : Nat} {cs : List Nd} (g : NGood V cs) {k : Nat} (hk : 2 ≤ k) (hf : Free cs k) {v : Int} {a b : Nat} (h0 : 0 ≤ v) (h1 : v < V) (hab : a ≠ b) (hl : ∃ l, Is cs a l ∧ v < l.asks) (hh : ∃ h, Is cs b h ∧ v < h.asks)
    (hn : ∀ j d, 2 ≤ j → Is cs j d → d.key ≠ ⟨v, a, b⟩) : NGood V (addAt cs k ⟨v, a, b, 0⟩) := by
  have get := addAt_get cs k ⟨v, a, b, 0⟩ hf.1
  have split : ∀ i d, Is (addAt cs k ⟨v, a, b, 0⟩) i d → (i = k ∧ d = ⟨v, a, b, 0⟩) ∨ Is cs i d := by
    intro i d h
    have h1 := h.1
    rw [get] at h1
    by_cases e : k = i
    · rw [if_pos e] at h1; injection h1 with h1; exact .inl ⟨e.symm, h1.symm⟩
    · rw [if_neg e] at h1; exact .inr ⟨h1, h.2⟩
  refine ⟨?_, ?_, ?_, ?_, ?_, ?_, ?_, ?_⟩
  · obtain ⟨p, h⟩ := g.is0; exact ⟨p, (addAt_is hf h).1⟩
  · obtain ⟨p, h⟩ := g.is1; exact ⟨p, (addAt_is hf h).1⟩
  · intro i c h e
    rw [get] at h
    by_cases e2 : k = i
    · rw [if_pos e2] at h; injection h with h; subst h; simp only at e; omega
    · rw [if_neg e2] at h; exact g.gone i c h e
  · intro i c hi h
    rcases split i c h with ⟨rfl, rfl⟩ | h
    · exact ⟨h0, h1, hab⟩
    · exact g.ok i c hi h
  · intro i c hi h
    rcases split i c h with ⟨rfl, rfl⟩ | h
    · obtain ⟨l, hl, hv⟩ := hl; exact ⟨l, addAt_is hf hl, hv⟩
    · obtain ⟨l, hl, hv⟩ := g.lo i c hi h; exact ⟨l, addAt_is hf hl, hv⟩
  · intro i c hi h
    rcases split i c h with ⟨rfl, rfl⟩ | h
    · obtain ⟨l, hl, hv⟩ := hh; exact ⟨l, addAt_is hf hl, hv⟩
    · obtain ⟨l, hl, hv⟩ := g.hi i c hi h; exact ⟨l, addAt_is hf hl, hv⟩
  · intro i j c d hi hj h h' e
    rcases split i c h with ⟨rfl, rfl⟩ | h2
    · rcases split j d h' with ⟨rfl, rfl⟩ | h3
      · rfl
      · exact absurd e.symm (hn j d hj h3)
    · rcases split j d h' with ⟨rfl, rfl⟩ | h3
      · exact absurd e (hn i c hi h2)
      · exact g.uniq i j c d hi hj h2 h3 e
  · intro i c h
    rw [get] at h
    by_cases e2 : k = i
    · rw [if_pos e2] at h; injection h with h; subst h; show 0 ≤ _; omega
    · rw [if_neg e2] at h; exact g.pins i c h

theorem Grow.add {cs : List Nd} {k : Nat} {c : Nd} (hf : Free cs k) : Grow cs (addAt cs k c) := fun _ d _ h => ⟨d.pins, addAt_is hf h⟩

/-- The table's keys: f finds nodes; n are there beside 0 and 1. -/
structure Keys (cs : List Nd) (f : Key → Option Int) (n : Nat) : Prop where
  says : ∀ (q : Key) (v : Int), f q = some v ↔ ∃ (k : Nat) (c : Nd), 2 ≤ k ∧ v = (k : Int) ∧ Is cs k c ∧ q = c.key
  count : n + 2 = cnt cs

theorem Keys.none {cs : List Nd} {f : Key → Option Int} {n : Nat} (h : Keys cs f n) {q : Key} (hq : f q = none) : ∀ j d, 2 ≤ j → Is cs j d → d.key ≠ q := by
  intro j d hj hd e
  have := (h.says q j).2 ⟨j, d, hj, rfl, hd, e.symm⟩
  rw [hq] at this; cases this

theorem Keys.add {cs : List Nd} {f : Key → Option Int} {n : Nat} (h : Keys cs f n) {k : Nat} (hk : 2 ≤ k) (hf : Free cs k) {c : Nd} (hc : c.asks ≠ -1) (hn : f c.key = .none) : Keys (addAt cs k c) (fset f c.key (some (k : Int))) (n + 1) := by
  refine ⟨fun q v => ?_, by rw [addAt_cnt hf hc, ← h.count]⟩
  have get := addAt_get cs k c hf.1
  unfold fset
  by_cases e : q = c.key
  · subst e
    rw [if_pos rfl]
    constructor
    · intro e; injection e with e
      exact ⟨k, c, hk, e.symm, ⟨by rw [get, if_pos rfl], hc⟩, rfl⟩
    · rintro ⟨j, d, hj, rfl, hd, he⟩
      by_cases e : k = j
      · rw [e]
      · have h1 := hd.1
        rw [get, if_neg e] at h1
        exact absurd he.symm (h.none hn j d hj ⟨h1, hd.2⟩)
  · rw [if_neg e, h.says]
    constructor
    · rintro ⟨j, d, hj, rfl, hd, he⟩; exact ⟨j, d, hj, rfl, addAt_is hf hd, he⟩
    · rintro ⟨j, d, hj, rfl, hd, he⟩
      have h1 := hd.1
      rw [get] at h1
      by_cases e2 : k = j
      · rw [if_pos e2] at h1; injection h1 with h1; subst h1; exact absurd he e
      · rw [if_neg e2] at h1; exact ⟨j, d, hj, rfl, ⟨h1, hd.2⟩, he⟩

/-- Pins alone turn. -/
theorem NGood.pin {V : Nat} {cs : List Nd} (g : NGood V cs) {k : Nat} {c : Nd} (h : Is cs k c) {p : Nat} (hp : p ≤ 1073741824) : NGood V (cs.set k ⟨c.asks, c.low, c.high, p⟩) := by
  have get := fun i => nget_set cs k i ⟨c.asks, c.low, c.high, p⟩ h.lt
  have fwd : ∀ i d, Is cs i d → ∃ q, Is (cs.set k ⟨c.asks, c.low, c.high, p⟩) i ⟨d.asks, d.low, d.high, q⟩ := by
    intro i d hd
    by_cases e : k = i
    · subst e
      obtain rfl := h.same hd
      exact ⟨p, by rw [get, if_pos rfl], hd.2⟩
    · exact ⟨d.pins, by rw [get, if_neg e]; exact hd.1, hd.2⟩
  have bwd : ∀ i d, Is (cs.set k ⟨c.asks, c.low, c.high, p⟩) i d → ∃ q, Is cs i ⟨d.asks, d.low, d.high, q⟩ := by
    intro i d hd
    have h1 := hd.1
    rw [get] at h1
    by_cases e : k = i
    · subst e
      rw [if_pos rfl] at h1; injection h1 with h1; subst h1
      exact ⟨c.pins, h⟩
    · rw [if_neg e] at h1; exact ⟨d.pins, h1, hd.2⟩
  refine ⟨?_, ?_, ?_, ?_, ?_, ?_, ?_, ?_⟩
  · obtain ⟨q, h⟩ := g.is0; obtain ⟨q', h'⟩ := fwd _ _ h; exact ⟨q', h'.1⟩
  · obtain ⟨q, h⟩ := g.is1; obtain ⟨q', h'⟩ := fwd _ _ h; exact ⟨q', h'.1⟩
  · intro i d h1 e
    rw [get] at h1
    by_cases e2 : k = i
    · rw [if_pos e2] at h1; injection h1 with h1; subst h1; exact absurd e h.2
    · rw [if_neg e2] at h1; exact g.gone i d h1 e
  · intro i d hi hd; obtain ⟨q, hq⟩ := bwd i d hd; have := g.ok i _ hi hq; exact this
  · intro i d hi hd
    obtain ⟨q, hq⟩ := bwd i d hd
    obtain ⟨l, hl, hv⟩ := g.lo i _ hi hq
    obtain ⟨q', h'⟩ := fwd _ _ hl
    exact ⟨_, h', hv⟩
  · intro i d hi hd
    obtain ⟨q, hq⟩ := bwd i d hd
    obtain ⟨l, hl, hv⟩ := g.hi i _ hi hq
    obtain ⟨q', h'⟩ := fwd _ _ hl
    exact ⟨_, h', hv⟩
  · intro i j d d' hi hj hd hd' e
    obtain ⟨q, hq⟩ := bwd i d hd
    obtain ⟨q', hq'⟩ := bwd j d' hd'
    have := g.uniq i j _ _ hi hj hq hq' e
    exact this
  · intro i d h1
    rw [get] at h1
    by_cases e2 : k = i
    · rw [if_pos e2] at h1; injection h1 with h1; subst h1; exact hp
    · rw [if_neg e2] at h1; exact g.pins i d h1

theorem Grow.pin {cs : List Nd} {k : Nat} {c : Nd} (h : Is cs k c) (p : Nat) : Grow cs (cs.set k ⟨c.asks, c.low, c.high, p⟩) := by
  have get := fun i => nget_set cs k i ⟨c.asks, c.low, c.high, p⟩ h.lt
  intro i d _ hd
  by_cases e : k = i
  · subst e
    obtain rfl := h.same hd
    exact ⟨p, by rw [get, if_pos rfl], hd.2⟩
  · exact ⟨d.pins, by rw [get, if_neg e]; exact hd.1, hd.2⟩

theorem cnt_pin {cs : List Nd} {k : Nat} {c : Nd} (h : Is cs k c) (p : Nat) : cnt (cs.set k ⟨c.asks, c.low, c.high, p⟩) = cnt cs := by
  unfold cnt
  have := ncount_set (fun c => decide (c.asks ≠ -1)) cs k ⟨c.asks, c.low, c.high, p⟩ c h.1
  simpa using this

theorem Keys.pin {cs : List Nd} {f : Key → Option Int} {n : Nat} (hk : Keys cs f n) {k : Nat} {c : Nd} (h : Is cs k c) (p : Nat) : Keys (cs.set k ⟨c.asks, c.low, c.high, p⟩) f n := by
  refine ⟨fun q v => ?_, by rw [cnt_pin h]; exact hk.count⟩
  have get := fun i => nget_set cs k i ⟨c.asks, c.low, c.high, p⟩ h.lt
  rw [hk.says]
  constructor
  · rintro ⟨j, d, hj, rfl, hd, rfl⟩
    obtain ⟨q, hq⟩ := Grow.pin h p j d trivial hd
    exact ⟨j, _, hj, rfl, hq, rfl⟩
  · rintro ⟨j, d, hj, rfl, hd, rfl⟩
    have h1 := hd.1
    rw [get] at h1
    by_cases e : k = j
    · subst e; rw [if_pos rfl] at h1; injection h1 with h1; subst h1; exact ⟨_, c, hj, rfl, h, rfl⟩
    · rw [if_neg e] at h1; exact ⟨j, d, hj, rfl, ⟨h1, hd.2⟩, rfl⟩
end Go.Proofs.Ytkmffmlnondolaa

/- Plain facts on what a node is of, and on sweeping: lists alone, no program. -/
namespace Go.Proofs.Ytkmffmlnondolaa

/-- What node k is of. -/
inductive Reach (cs : List Nd) : Nat → Nat → Prop
  | here (k : Nat) : Reach cs k k
  | low {k x : Nat} {c : Nd} : 2 ≤ k → Is cs k c → Reach cs c.low x → Reach cs k x
  | high {k x : Nat} {c : Nd} : 2 ≤ k → Is cs k c → Reach cs c.high x → Reach cs k x

/-- Marks with those of node k. -/
def mark (cs : List Nd) : Nat → List Nat → Nat → List Nat
  | 0, m, _ => m
  | n + 1, m, k => if k ∈ m then m else match cs[k]? with
    | some c => mark cs n (mark cs n (k :: m) c.low) c.high
    | none => m

/-- Of marked nodes that ask a or later ones, low and high are marked. -/
def ClosedAt (cs : List Nd) (m : List Nat) (a : Int) : Prop := ∀ x c, x ∈ m → 2 ≤ x → Is cs x c → a ≤ c.asks → c.low ∈ m ∧ c.high ∈ m

theorem ClosedAt.mono {cs : List Nd} {m : List Nat} {a b : Int} (h : ClosedAt cs m a) (hab : a ≤ b) : ClosedAt cs m b := fun x c hx h2 hc hb => h x c hx h2 hc (by omega)

theorem closed_reach {V : Nat} {cs : List Nd} (g : NGood V cs) {m : List Nat} {k x : Nat} (hr : Reach cs k x) : ∀ c, Is cs k c → ClosedAt cs m c.asks → k ∈ m → x ∈ m := by
  induction hr with
  | here k => intro c _ _ h; exact h
  | low hk hc _ ih =>
    intro d hd hcl hm
    obtain rfl := hc.same hd
    obtain ⟨l, hl, hl2⟩ := g.lo _ _ hk hc
    exact ih l hl (hcl.mono (by omega)) (hcl _ _ hm hk hc (Int.le_refl _)).1
  | high hk hc _ ih =>
    intro d hd hcl hm
    obtain rfl := hc.same hd
    obtain ⟨l, hl, hl2⟩ := g.hi _ _ hk hc
    exact ih l hl (hcl.mono (by omega)) (hcl _ _ hm hk hc (Int.le_refl _)).2

structure Marked (cs : List Nd) (m : List Nat) (k : Nat) (m' : List Nat) : Prop where
  nodup : m.Nodup → m'.Nodup
  mem : ∀ x, x ∈ m' ↔ x ∈ m ∨ Reach cs k x
  closed : ∀ a c, Is cs k c → a ≤ c.asks → ClosedAt cs m a → ClosedAt cs m' a
  nodes : (∀ x ∈ m, ∃ c, Is cs x c) → ∀ x ∈ m', ∃ c, Is cs x c

theorem mark_spec {V : Nat} {cs : List Nd} (g : NGood V cs) : ∀ n k c m, Is cs k c → rk V c + 1 ≤ n → ClosedAt cs m c.asks → Marked cs m k (mark cs n m k) := by
  intro n
  induction n with
  | zero => intro k c m _ h; omega
  | succ n ih =>
    intro k c m hc hn hcl
    by_cases hk : k ∈ m
    · have e : mark cs (n + 1) m k = m := by unfold mark; rw [if_pos hk]
      rw [e]
      exact ⟨fun h => h, fun x => ⟨.inl, fun h => h.elim id fun hr => closed_reach g hr c hc hcl hk⟩, fun a _ _ _ h => h, fun h => h⟩
    · have e : mark cs (n + 1) m k = mark cs n (mark cs n (k :: m) c.low) c.high := by
        conv => lhs; unfold mark
        rw [if_neg hk]; simp only [hc.1]
      rw [e]
      by_cases hb : k < 2
      · obtain ⟨e0, e1, e2⟩ := g.base hb hc
        rw [e1, e2]
        have in1 : ∀ n, mark cs n (k :: m) k = k :: m := by
          intro n; cases n with
          | zero => rfl
          | succ n => unfold mark; rw [if_pos (by simp)]
        rw [in1, in1]
        have hr : ∀ x, Reach cs k x → x = k := by
          intro x hr
          cases hr with
          | here => rfl
          | low h => omega
          | high h => omega
        refine ⟨fun h => List.nodup_cons.2 ⟨hk, h⟩, fun x => ?_, ?_, ?_⟩
        · rw [List.mem_cons]
          constructor
          · rintro (rfl | h)
            · exact .inr (.here _)
            · exact .inl h
          · rintro (h | h)
            · exact .inr h
            · exact .inl (hr x h)
        · intro a d hd ha hcl2 x y hx h2 hy hay
          rcases List.mem_cons.1 hx with rfl | hx
          · omega
          · have := hcl2 x y hx h2 hy hay
            exact ⟨List.mem_cons_of_mem _ this.1, List.mem_cons_of_mem _ this.2⟩
        · intro hm x hx
          rcases List.mem_cons.1 hx with rfl | hx
          · exact ⟨c, hc⟩
          · exact hm x hx
      · have ho := g.ok k c (by omega) hc
        obtain ⟨l, hl, hl2⟩ := g.lo k c (by omega) hc
        obtain ⟨r, hr, hr2⟩ := g.hi k c (by omega) hc
        have hcl1 : ClosedAt cs (k :: m) (c.asks + 1) := by
          intro x y hx h2 hy hay
          rcases List.mem_cons.1 hx with rfl | hx
          · obtain rfl := hc.same hy; omega
          · have := hcl x y hx h2 hy (by omega)
            exact ⟨List.mem_cons_of_mem _ this.1, List.mem_cons_of_mem _ this.2⟩
        unfold rk at hn
        have M1 := ih c.low l (k :: m) hl (by unfold rk; omega) (hcl1.mono (by omega))
        have hcl2 := M1.closed (c.asks + 1) l hl (by omega) hcl1
        have M2 := ih c.high r _ hr (by unfold rk; omega) (hcl2.mono (by omega))
        have hcl3 := M2.closed (c.asks + 1) r hr (by omega) hcl2
        have hin : ∀ x, x ∈ k :: m → x ∈ mark cs n (mark cs n (k :: m) c.low) c.high := fun x hx => (M2.mem x).2 (.inl ((M1.mem x).2 (.inl hx)))
        refine ⟨fun h => M2.nodup (M1.nodup (List.nodup_cons.2 ⟨hk, h⟩)), fun x => ?_, ?_, ?_⟩
        · rw [M2.mem, M1.mem, List.mem_cons]
          constructor
          · rintro (((rfl | h) | h) | h)
            · exact .inr (.here _)
            · exact .inl h
            · exact .inr (.low (by omega) hc h)
            · exact .inr (.high (by omega) hc h)
          · rintro (h | h)
            · exact .inl (.inl (.inr h))
            · cases h with
              | here => exact .inl (.inl (.inl rfl))
              | low _ hd h => obtain rfl := hc.same hd; exact .inl (.inr h)
              | high _ hd h => obtain rfl := hc.same hd; exact .inr h
        · intro a d hd ha hcla x y hx h2 hy hay
          obtain rfl := hc.same hd
          by_cases hge : c.asks + 1 ≤ y.asks
          · exact hcl3 x y hx h2 hy hge
          · rcases (M2.mem x).1 hx with h | h
            · rcases (M1.mem x).1 h with h | h
              · rcases List.mem_cons.1 h with rfl | h
                · obtain rfl := hc.same hy
                  exact ⟨(M2.mem _).2 (.inl ((M1.mem _).2 (.inr (.here _)))), (M2.mem _).2 (.inr (.here _))⟩
                · have := hcla x y h h2 hy hay
                  exact ⟨hin _ (List.mem_cons_of_mem _ this.1), hin _ (List.mem_cons_of_mem _ this.2)⟩
              · exact absurd (reach_asks g h l hl y hy) (by omega)
            · exact absurd (reach_asks g h r hr y hy) (by omega)
        · intro hm
          refine M2.nodes (M1.nodes ?_)
          intro x hx
          rcases List.mem_cons.1 hx with rfl | hx
          · exact ⟨c, hc⟩
          · exact hm x hx
where
  reach_asks {V : Nat} {cs : List Nd} (g : NGood V cs) {k x : Nat} (hr : Reach cs k x) : ∀ c, Is cs k c → ∀ d, Is cs x d → c.asks ≤ d.asks := by
    induction hr with
    | here k => intro c hc d hd; obtain rfl := hc.same hd; omega
    | low hk hc _ ih =>
      intro d hd e he
      obtain rfl := hc.same hd
      obtain ⟨l, hl, hl2⟩ := g.lo _ _ hk hc
      have := ih l hl e he; omega
    | high hk hc _ ih =>
      intro d hd e he
      obtain rfl := hc.same hd
      obtain ⟨l, hl, hl2⟩ := g.hi _ _ hk hc
      have := ih l hl e he; omega

/-- All that a node is of. -/
def allOf (V : Nat) (cs : List Nd) (k : Nat) : List Nat := mark cs (V + 1) [] k

theorem closed_nil (cs : List Nd) (a : Int) : ClosedAt cs [] a := fun x _ hx => by cases hx

theorem rk_le {V : Nat} {cs : List Nd} (g : NGood V cs) {k : Nat} {c : Nd} (h : Is cs k c) : rk V c + 1 ≤ V + 1 := by
  have := g.range h; unfold rk; omega

theorem allOf_spec {V : Nat} {cs : List Nd} (g : NGood V cs) {k : Nat} {c : Nd} (h : Is cs k c) : Marked cs [] k (allOf V cs k) := mark_spec g _ k c [] h (rk_le g h) (closed_nil _ _)

/-- Marks of what stays. -/
def roots (V : Nat) (cs : List Nd) : Nat → List Nat
  | 0 => []
  | i + 1 => if i < 2 ∨ (∃ c, cs[i]? = some c ∧ 0 < c.pins) then mark cs (V + 1) (roots V cs i) i else roots V cs i

instance (cs : List Nd) (i : Nat) : Decidable (∃ c, cs[i]? = some c ∧ 0 < c.pins) :=
  match h : cs[i]? with
  | some c => if h2 : 0 < c.pins then isTrue ⟨c, rfl, h2⟩ else isFalse fun ⟨d, e, h3⟩ => h2 (by injection e with e; rw [e]; exact h3)
  | none => isFalse fun ⟨_, e, _⟩ => by cases e

/-- A node that stays by itself: 0, 1, or one with a pin. -/
def Root (cs : List Nd) (i : Nat) : Prop := i < 2 ∨ ∃ c, cs[i]? = some c ∧ 0 < c.pins

theorem root_is {V : Nat} {cs : List Nd} (g : NGood V cs) {i : Nat} (h : Root cs i) : ∃ c, Is cs i c := by
  rcases h with h | ⟨c, hc, hp⟩
  · have : i = 0 ∨ i = 1 := by omega
    rcases this with rfl | rfl
    · obtain ⟨p, h⟩ := g.is0; exact ⟨_, h⟩
    · obtain ⟨p, h⟩ := g.is1; exact ⟨_, h⟩
  · refine ⟨c, hc, fun e => ?_⟩
    have := g.gone i c hc e
    rw [this] at hp
    exact absurd hp (by simp [Nd.gone])

structure Roots (cs : List Nd) (n : Nat) (m : List Nat) : Prop where
  nodup : m.Nodup
  mem : ∀ x, x ∈ m ↔ ∃ i, i < n ∧ Root cs i ∧ Reach cs i x
  closed : ∀ x c, x ∈ m → 2 ≤ x → Is cs x c → c.low ∈ m ∧ c.high ∈ m
  nodes : ∀ x ∈ m, ∃ c, Is cs x c

theorem roots_spec {V : Nat} {cs : List Nd} (g : NGood V cs) : ∀ n, Roots cs n (roots V cs n) := by
  intro n
  induction n with
  | zero => exact ⟨List.nodup_nil, fun x => ⟨fun h => (by cases h), fun ⟨i, hi, _⟩ => absurd hi (by omega)⟩, fun x _ h => (by cases h), fun x h => (by cases h)⟩
  | succ n ih =>
    unfold roots
    by_cases h : n < 2 ∨ (∃ c, cs[n]? = some c ∧ 0 < c.pins)
    · rw [if_pos h]
      obtain ⟨c, hc⟩ := root_is g h
      have hcl : ∀ a, ClosedAt cs (roots V cs n) a := fun a x d hx h2 hd _ => ih.closed x d hx h2 hd
      have M := mark_spec g (V + 1) n c (roots V cs n) hc (rk_le g hc) (hcl _)
      refine ⟨M.nodup ih.nodup, fun x => ?_, ?_, M.nodes ih.nodes⟩
      · rw [M.mem, ih.mem]
        constructor
        · rintro (⟨i, hi, hr, hx⟩ | hx)
          · exact ⟨i, by omega, hr, hx⟩
          · exact ⟨n, by omega, h, hx⟩
        · rintro ⟨i, hi, hr, hx⟩
          by_cases e : i = n
          · subst e; exact .inr hx
          · exact .inl ⟨i, by omega, hr, hx⟩
      · intro x d hx h2 hd
        have := M.closed (-1) c hc (by have := g.range hc; omega) (hcl _)
        exact this x d hx h2 hd (by have := g.range hd; omega)
    · rw [if_neg h]
      refine ⟨ih.nodup, fun x => ?_, ih.closed, ih.nodes⟩
      rw [ih.mem]
      constructor
      · rintro ⟨i, hi, hr, hx⟩; exact ⟨i, by omega, hr, hx⟩
      · rintro ⟨i, hi, hr, hx⟩
        by_cases e : i = n
        · subst e; exact absurd hr h
        · exact ⟨i, by omega, hr, hx⟩

/-- The first i places without what is not marked; how many nodes these were; behind the last marked one. -/
def sweepTo (m : List Nat) (cs : List Nd) : Nat → List Nd
  | 0 => cs
  | i + 1 => if i ∈ m then sweepTo m cs i else (sweepTo m cs i).set i Nd.gone
def goneTo (m : List Nat) (cs : List Nd) : Nat → Nat
  | 0 => 0
  | i + 1 => goneTo m cs i + if i ∈ m then 0 else match cs[i]? with
    | some c => if c.asks = -1 then 0 else 1
    | none => 0
def endTo (m : List Nat) : Nat → Nat
  | 0 => 0
  | i + 1 => if i ∈ m then i + 1 else endTo m i

def swept (m : List Nat) (cs : List Nd) : List Nd := (sweepTo m cs cs.length).take (endTo m cs.length)

theorem sweepTo_length (m : List Nat) (cs : List Nd) : ∀ i, (sweepTo m cs i).length = cs.length := by
  intro i
  induction i with
  | zero => rfl
  | succ i ih => unfold sweepTo; split <;> simp [ih]

theorem sweepTo_get (m : List Nat) (cs : List Nd) : ∀ i, i ≤ cs.length → ∀ k, (sweepTo m cs i)[k]? = if k < i ∧ k ∉ m then some Nd.gone else cs[k]? := by
  intro i
  induction i with
  | zero => intro _ k; rw [if_neg (by omega)]; rfl
  | succ i ih =>
    intro hi k
    unfold sweepTo
    by_cases h : i ∈ m
    · rw [if_pos h, ih (by omega)]
      by_cases hk : k < i ∧ k ∉ m
      · rw [if_pos hk, if_pos ⟨by omega, hk.2⟩]
      · rw [if_neg hk, if_neg]
        rintro ⟨h1, h2⟩
        by_cases e : k = i
        · subst e; exact h2 h
        · exact hk ⟨by omega, h2⟩
    · rw [if_neg h, nget_set _ _ _ _ (by rw [sweepTo_length]; omega), ih (by omega)]
      by_cases e : i = k
      · subst e; rw [if_pos rfl, if_pos ⟨by omega, h⟩]
      · rw [if_neg e]
        by_cases hk : k < i ∧ k ∉ m
        · rw [if_pos hk, if_pos ⟨by omega, hk.2⟩]
        · rw [if_neg hk, if_neg]
          rintro ⟨h1, h2⟩
          exact hk ⟨by omega, h2⟩

theorem endTo_le (m : List Nat) : ∀ n, endTo m n ≤ n := by
  intro n
  induction n with
  | zero => exact Nat.le_refl _
  | succ n ih => unfold endTo; split <;> omega

theorem endTo_gt (m : List Nat) : ∀ n x, x ∈ m → x < n → x < endTo m n := by
  intro n
  induction n with
  | zero => intro x _ h; omega
  | succ n ih =>
    intro x hx hn
    unfold endTo
    split
    · exact hn
    · rename_i h
      by_cases e : x = n
      · subst e; exact absurd hx h
      · exact ih x hx (by omega)

/-- What stays of the first i places. -/
theorem sweepTo_is {m : List Nat} {cs : List Nd} {i : Nat} (hi : i ≤ cs.length) {k : Nat} {c : Nd} : Is (sweepTo m cs i) k c ↔ Is cs k c ∧ (i ≤ k ∨ k ∈ m) := by
  unfold Is
  rw [sweepTo_get m cs i hi]
  by_cases h : k < i ∧ k ∉ m
  · rw [if_pos h]
    constructor
    · rintro ⟨h1, h2⟩; injection h1 with h1; subst h1; exact absurd rfl h2
    · rintro ⟨_, h1 | h1⟩
      · omega
      · exact absurd h1 h.2
  · rw [if_neg h]
    constructor
    · intro h1
      refine ⟨h1, ?_⟩
      by_cases hk : k < i
      · by_cases hm : k ∈ m
        · exact .inr hm
        · exact absurd ⟨hk, hm⟩ h
      · exact .inl (by omega)
    · rintro ⟨h1, _⟩; exact h1

theorem swept_is {m : List Nat} {cs : List Nd} {k : Nat} {c : Nd} : Is (swept m cs) k c ↔ Is cs k c ∧ k ∈ m := by
  unfold swept
  have e : ∀ c, Is ((sweepTo m cs cs.length).take (endTo m cs.length)) k c ↔ Is (sweepTo m cs cs.length) k c ∧ k < endTo m cs.length := by
    intro c
    unfold Is
    rw [List.getElem?_take]
    by_cases h : k < endTo m cs.length
    · rw [if_pos h]; exact ⟨fun x => ⟨x, h⟩, fun x => x.1⟩
    · rw [if_neg h]; exact ⟨fun x => (by cases x.1), fun x => absurd x.2 h⟩
  rw [e, sweepTo_is (Nat.le_refl _)]
  constructor
  · rintro ⟨⟨h1, h2⟩, _⟩
    have := h1.lt
    exact ⟨h1, h2.resolve_left (by omega)⟩
  · rintro ⟨h1, h2⟩
    exact ⟨⟨h1, .inr h2⟩, endTo_gt m _ _ h2 h1.lt⟩

theorem swept_get {m : List Nat} {cs : List Nd} {k : Nat} {c : Nd} (h : (swept m cs)[k]? = some c) : c = Nd.gone ∨ cs[k]? = some c := by
  unfold swept at h
  rw [List.getElem?_take] at h
  split at h
  · rw [sweepTo_get m cs _ (Nat.le_refl _)] at h
    split at h
    · injection h with h; exact .inl h.symm
    · exact .inr h
  · cases h

theorem NGood.swept {V : Nat} {cs : List Nd} (g : NGood V cs) {m : List Nat} (r : Roots cs cs.length m) : NGood V (swept m cs) := by
  have hl := g.len
  have root : ∀ i, i < 2 → i ∈ m := fun i hi => (r.mem i).2 ⟨i, by omega, .inl hi, .here _⟩
  refine ⟨?_, ?_, ?_, ?_, ?_, ?_, ?_, ?_⟩
  · obtain ⟨p, h⟩ := g.is0; exact ⟨p, (swept_is.2 ⟨h, root 0 (by omega)⟩).1⟩
  · obtain ⟨p, h⟩ := g.is1; exact ⟨p, (swept_is.2 ⟨h, root 1 (by omega)⟩).1⟩
  · intro k c h e
    rcases swept_get h with h | h
    · exact h
    · exact g.gone k c h e
  · intro k c hk h; exact g.ok k c hk (swept_is.1 h).1
  · intro k c hk h
    obtain ⟨h1, h2⟩ := swept_is.1 h
    obtain ⟨l, hl, hl2⟩ := g.lo k c hk h1
    exact ⟨l, swept_is.2 ⟨hl, (r.closed k c h2 hk h1).1⟩, hl2⟩
  · intro k c hk h
    obtain ⟨h1, h2⟩ := swept_is.1 h
    obtain ⟨l, hl, hl2⟩ := g.hi k c hk h1
    exact ⟨l, swept_is.2 ⟨hl, (r.closed k c h2 hk h1).2⟩, hl2⟩
  · intro k j c d hk hj h h' e
    exact g.uniq k j c d hk hj (swept_is.1 h).1 (swept_is.1 h').1 e
  · intro k c h
    rcases swept_get h with h | h
    · rw [h]; exact Nat.zero_le _
    · exact g.pins k c h

/-- The nodes, by their numbers. -/
def nodesOf (cs : List Nd) : List Nat := (List.range cs.length).filter fun k => match cs[k]? with | some c => decide (c.asks ≠ -1) | none => false

theorem mem_nodesOf (cs : List Nd) (k : Nat) : k ∈ nodesOf cs ↔ ∃ c, Is cs k c := by
  unfold nodesOf
  rw [List.mem_filter, List.mem_range]
  constructor
  · rintro ⟨h1, h2⟩
    have hg : cs[k]? = some cs[k] := List.getElem?_eq_getElem h1
    rw [hg] at h2
    exact ⟨cs[k], hg, by simpa using h2⟩
  · rintro ⟨c, h⟩
    refine ⟨h.lt, ?_⟩
    rw [h.1]; simpa using h.2

theorem nodup_nodesOf (cs : List Nd) : (nodesOf cs).Nodup := List.Nodup.sublist List.filter_sublist List.nodup_range

theorem length_nodesOf (cs : List Nd) : (nodesOf cs).length = cnt cs := by
  have e : cs = (List.range cs.length).map fun k => (cs[k]?).getD Nd.gone := by
    apply List.ext_getElem?
    intro k
    rw [List.getElem?_map]
    by_cases h : k < cs.length
    · rw [List.getElem?_range h]
      show _ = some ((cs[k]?).getD Nd.gone)
      rw [List.getElem?_eq_getElem h]; rfl
    · rw [List.getElem?_eq_none (by omega), List.getElem?_eq_none (by simp; omega)]; rfl
  unfold cnt nodesOf
  conv => rhs; rw [e, List.countP_map]
  rw [List.countP_eq_length_filter]
  congr 1
  apply List.filter_congr
  intro k hk
  rw [List.mem_range] at hk
  have hg : cs[k]? = some cs[k] := List.getElem?_eq_getElem hk
  simp only [Function.comp]
  simp [hg]

theorem sub_length : ∀ (l l' : List Nat), l.Nodup → (∀ x ∈ l, x ∈ l') → l.length ≤ l'.length := by
  intro l
  induction l with
  | nil => intro l' _ _; exact Nat.zero_le _
  | cons a r ih =>
    intro l' hn hs
    obtain ⟨h1, h2⟩ := List.nodup_cons.1 hn
    have ha := hs a (by simp)
    have := ih (l'.erase a) h2 fun x hx => by
      have hne : x ≠ a := fun e => h1 (e ▸ hx)
      exact (List.mem_erase_of_ne hne).2 (hs x (by simp [hx]))
    rw [List.length_erase_of_mem ha] at this
    have : 0 < l'.length := List.length_pos_of_mem ha
    simp only [List.length_cons]; omega

theorem same_length {l l' : List Nat} (h : l.Nodup) (h' : l'.Nodup) (e : ∀ x, x ∈ l ↔ x ∈ l') : l.length = l'.length :=
  Nat.le_antisymm (sub_length l l' h fun x hx => (e x).1 hx) (sub_length l' l h' fun x hx => (e x).2 hx)

theorem cnt_eq {cs : List Nd} {m : List Nat} (hm : m.Nodup) (h : ∀ k, k ∈ m ↔ ∃ c, Is cs k c) : cnt cs = m.length := by
  rw [← length_nodesOf]
  exact same_length (nodup_nodesOf cs) hm fun x => by rw [mem_nodesOf, h]

theorem cnt_sweepTo (m : List Nat) (cs : List Nd) : ∀ i, i ≤ cs.length → cnt (sweepTo m cs i) + goneTo m cs i = cnt cs := by
  intro i
  induction i with
  | zero => intro _; rfl
  | succ i ih =>
    intro hi
    have := ih (by omega)
    unfold sweepTo goneTo
    by_cases h : i ∈ m
    · rw [if_pos h, if_pos h]; exact this
    · rw [if_neg h, if_neg h]
      have hg : cs[i]? = some cs[i] := List.getElem?_eq_getElem (by omega)
      have hg2 : (sweepTo m cs i)[i]? = some cs[i] := by rw [sweepTo_get m cs i (by omega), if_neg (by omega), hg]
      have hs := ncount_set (fun c => decide (c.asks ≠ -1)) (sweepTo m cs i) i Nd.gone _ hg2
      have h2 : (decide (Nd.gone.asks ≠ -1)) = false := by decide
      rw [hg]
      unfold cnt at *
      simp only [h2] at hs
      by_cases e : cs[i].asks = -1
      · simp [e] at hs ⊢; simp at this; omega
      · simp [e] at hs ⊢; simp at this; omega

theorem cnt_take (cs : List Nd) (e : Nat) (h : ∀ k c, Is cs k c → k < e) : cnt (cs.take e) = cnt cs := by
  unfold cnt
  conv => rhs; rw [← List.take_append_drop e cs, List.countP_append]
  have : List.countP (fun c : Nd => decide (c.asks ≠ -1)) (cs.drop e) = 0 := by
    rw [List.countP_eq_zero]
    intro c hc
    obtain ⟨j, hj⟩ := List.getElem?_of_mem hc
    rw [List.getElem?_drop] at hj
    by_cases ha : c.asks = -1
    · simp [ha]
    · have := h _ c ⟨hj, ha⟩; omega
  omega

theorem cnt_swept (m : List Nat) (cs : List Nd) : cnt (swept m cs) + goneTo m cs cs.length = cnt cs := by
  unfold swept
  rw [cnt_take]
  · exact cnt_sweepTo m cs _ (Nat.le_refl _)
  · intro k c h
    obtain ⟨h1, h2⟩ := (sweepTo_is (Nat.le_refl _)).1 h
    have := h1.lt
    exact endTo_gt m _ _ (h2.resolve_left (by omega)) h1.lt

theorem Keys.drop {cs : List Nd} {f : Key → Option Int} {n : Nat} (h : Keys cs f (n + 1)) {k : Nat} {c : Nd} (hc : Is cs k c) (hu : ∀ j d, 2 ≤ j → Is cs j d → d.key = c.key → j = k) : Keys (cs.set k Nd.gone) (fset f c.key .none) n := by
  have get := fun i => nget_set cs k i Nd.gone hc.lt
  refine ⟨fun q v => ?_, ?_⟩
  · unfold fset
    by_cases e : q = c.key
    · subst e
      rw [if_pos rfl]
      constructor
      · intro h; cases h
      · rintro ⟨j, d, hj, rfl, hd, he⟩
        have h1 := hd.1
        rw [get] at h1
        by_cases e : k = j
        · rw [if_pos e] at h1; injection h1 with h1; subst h1; exact absurd rfl hd.2
        · rw [if_neg e] at h1; exact absurd (hu j d hj ⟨h1, hd.2⟩ he.symm).symm e
    · rw [if_neg e, h.says]
      constructor
      · rintro ⟨j, d, hj, rfl, hd, rfl⟩
        have hne : ¬ k = j := fun e2 => by subst e2; exact e (by rw [hc.same hd])
        exact ⟨j, d, hj, rfl, ⟨by rw [get, if_neg hne]; exact hd.1, hd.2⟩, rfl⟩
      · rintro ⟨j, d, hj, rfl, hd, rfl⟩
        have h1 := hd.1
        rw [get] at h1
        by_cases e : k = j
        · rw [if_pos e] at h1; injection h1 with h1; subst h1; exact absurd rfl hd.2
        · rw [if_neg e] at h1; exact ⟨j, d, hj, rfl, ⟨h1, hd.2⟩, rfl⟩
  · have := ncount_set (fun c => decide (c.asks ≠ -1)) cs k Nd.gone c hc.1
    have h2 : (decide (Nd.gone.asks ≠ -1)) = false := by decide
    have h3 : (decide (c.asks ≠ -1)) = true := by simpa using hc.2
    rw [h2, h3] at this
    have h4 := h.count
    unfold cnt at *
    simp at this h4 ⊢; omega

theorem Keys.take {cs : List Nd} {f : Key → Option Int} {n : Nat} (h : Keys cs f n) (e : Nat) (he : ∀ k c, Is cs k c → k < e) : Keys (cs.take e) f n := by
  have hs : ∀ k c, Is (cs.take e) k c ↔ Is cs k c := by
    intro k c
    constructor
    · intro hk
      have h1 := hk.1
      rw [List.getElem?_take] at h1
      split at h1
      · exact ⟨h1, hk.2⟩
      · cases h1
    · intro hk
      exact ⟨by rw [List.getElem?_take, if_pos (he k c hk)]; exact hk.1, hk.2⟩
  refine ⟨fun q v => ?_, by rw [cnt_take cs e he]; exact h.count⟩
  rw [h.says]
  constructor
  · rintro ⟨j, d, hj, hv, hd, hq⟩; exact ⟨j, d, hj, hv, (hs j d).2 hd, hq⟩
  · rintro ⟨j, d, hj, hv, hd, hq⟩; exact ⟨j, d, hj, hv, (hs j d).1 hd, hq⟩
end Go.Proofs.Ytkmffmlnondolaa

/- Contracts of layer 3 (node): where a store lies; given, there, refusal, behind, key, the counters, Node. -/
namespace Go.Proofs.Ytkmffmlnondolaa
open Go.ChangeShapes Go.WideShapes Go.ChangeAt Go.RowKit

theorem info_store : (Try.prog.info? 70).map (fun i => (i.size, i.bytes)) = some (9, 88) := by kernel_rfl
theorem info_cell : (Try.prog.info? 72).map (fun i => (i.zero, i.size, i.bytes)) = some (some (.agg #[.int .i64 0, .int .i64 0, .int .i64 0, .int .i64 0]), 4, 32) := by kernel_rfl
theorem info_a64 : (Try.prog.info? 68).map (fun i => (i.size, i.bytes)) = some (1, 8) := by kernel_rfl

/-- Where a store lies: its own block, its table's two, its cells' one with room for so many. -/
structure Mem where
  s : Nat
  t : Nat
  b : Nat
  c : Nat
  cap : Nat

/-- A store's numbers. -/
structure Hd where
  V : Nat
  B : Nat
  lf : Nat
  nodes : Int
  made : Int
  sweeps : Int

def cellsN (c : Nd) : List Value := [.int .i64 c.asks, .int .i64 c.low, .int .i64 c.high, .int .i64 c.pins]
def flatN (cs : List Nd) : List Value := cs.flatMap cellsN
def ptrV (s : Nat) : Value := .pointer (some ⟨s, 0, none⟩)

structure Lay (w : World) (m : Mem) (h : Hd) (cs : List Nd) : Prop where
  head : w.heap[m.s]? = some (.cells #[.pointer (some ⟨m.s, 0, none⟩), .int .i64 h.V, .int .i64 h.B, .slice (some ⟨m.c, 0, none⟩) cs.length m.cap, .pointer (some ⟨m.t, 0, none⟩), .int .i64 h.lf, .int .i64 h.nodes, .int .i64 h.made, .int .i64 h.sweeps] 70 (0, 0))
  row : w.ownsRow 0 72 4 (.slice (some ⟨m.c, 0, none⟩) cs.length m.cap) cs.length (flatN cs)
  st : m.s ≠ m.t
  sb : m.s ≠ m.b
  sc : m.s ≠ m.c
  ct : m.c ≠ m.t
  cb : m.c ≠ m.b
  len : cs.length ≤ 1048576

theorem flatN_length (cs : List Nd) : (flatN cs).length = cs.length * 4 := by
  induction cs with
  | nil => rfl
  | cons p r ih =>
    show (cellsN p ++ flatN r).length = _
    rw [List.length_append, ih]; simp [cellsN]; omega

theorem flatN_get (cs : List Nd) : ∀ (x : Nat) (p : Nd) (c : Nat), cs[x]? = some p → c < 4 → (flatN cs)[x * 4 + c]? = (cellsN p)[c]? := by
  induction cs with
  | nil => intro x p c h; simp at h
  | cons q r ih =>
    intro x p c h hc
    show (cellsN q ++ flatN r)[x * 4 + c]? = _
    have hl : (cellsN q).length = 4 := rfl
    cases x with
    | zero =>
      simp at h
      subst h
      rw [List.getElem?_append_left (by omega)]
      simp
    | succ x =>
      simp at h
      rw [List.getElem?_append_right (by omega), hl, ← ih x p c h hc]
      congr 1; omega

theorem flatN_set (cs : List Nd) : ∀ (x : Nat) (q : Nd), x < cs.length → flatN (cs.set x q) =
    ((((flatN cs).set (x * 4) (.int .i64 q.asks)).set (x * 4 + 1) (.int .i64 q.low)).set (x * 4 + 2) (.int .i64 q.high)).set (x * 4 + 3) (.int .i64 q.pins) := by
  induction cs with
  | nil => intro x q h; simp at h
  | cons p r ih =>
    intro x q h
    cases x with
    | zero => rfl
    | succ x =>
      have hs : ∀ (l : List Value) (c : Nat) (v : Value), (cellsN p ++ l).set ((x + 1) * 4 + c) v = cellsN p ++ l.set (x * 4 + c) v := by
        intro l c v
        have hl : (cellsN p).length = 4 := rfl
        rw [List.set_append_right _ _ (by omega), hl]
        congr 2; omega
      have e := ih x q (by simpa using h)
      show cellsN p ++ flatN (r.set x q) = _
      rw [e]
      show _ = (((((cellsN p ++ flatN r).set ((x + 1) * 4 + 0) _).set ((x + 1) * 4 + 1) _).set _ _).set _ _)
      rw [hs, hs, hs, hs]
      rfl

section
variable {w : World} {m : Mem} {h : Hd} {cs : List Nd}

theorem Lay.lt_s (l : Lay w m h cs) : m.s < w.heap.size := by
  rcases Nat.lt_or_ge m.s w.heap.size with h1 | h1
  · exact h1
  · have := l.head; rw [Array.getElem?_eq_none h1] at this; cases this
theorem Lay.lt_c (l : Lay w m h cs) : m.c < w.heap.size := (l.row.lt m.c rfl).2

theorem Lay.tops (l : Lay w m h cs) :
    w.cell? ⟨m.s, 0, none⟩ = some (.pointer (some ⟨m.s, 0, none⟩)) ∧ w.cell? ⟨m.s, 1, none⟩ = some (.int .i64 h.V) ∧ w.cell? ⟨m.s, 2, none⟩ = some (.int .i64 h.B) ∧ w.cell? ⟨m.s, 3, none⟩ = some (.slice (some ⟨m.c, 0, none⟩) cs.length m.cap) ∧
    w.cell? ⟨m.s, 4, none⟩ = some (.pointer (some ⟨m.t, 0, none⟩)) ∧ w.cell? ⟨m.s, 5, none⟩ = some (.int .i64 h.lf) ∧ w.cell? ⟨m.s, 6, none⟩ = some (.int .i64 h.nodes) ∧ w.cell? ⟨m.s, 7, none⟩ = some (.int .i64 h.made) ∧ w.cell? ⟨m.s, 8, none⟩ = some (.int .i64 h.sweeps) :=
  ⟨cell_of_row w m.s 0 _ _ _ l.head, cell_of_row w m.s 1 _ _ _ l.head, cell_of_row w m.s 2 _ _ _ l.head, cell_of_row w m.s 3 _ _ _ l.head, cell_of_row w m.s 4 _ _ _ l.head, cell_of_row w m.s 5 _ _ _ l.head, cell_of_row w m.s 6 _ _ _ l.head, cell_of_row w m.s 7 _ _ _ l.head, cell_of_row w m.s 8 _ _ _ l.head⟩

theorem Lay.free (l : Lay w m h cs) : (∀ o, w.frozen? ⟨m.s, o, none⟩ = false) ∧ (∀ o, w.frozen? ⟨m.c, o, none⟩ = false) :=
  ⟨fun o => frozen_of_row w m.s o _ _ l.head, fun o => l.row.frozenAt o⟩

theorem Lay.cells (l : Lay w m h cs) {x : Nat} {p : Nd} (hx : cs[x]? = some p) :
    w.cell? ⟨m.c, x * 4, none⟩ = some (.int .i64 p.asks) ∧ w.cell? ⟨m.c, x * 4 + 1, none⟩ = some (.int .i64 p.low) ∧ w.cell? ⟨m.c, x * 4 + 2, none⟩ = some (.int .i64 p.high) ∧ w.cell? ⟨m.c, x * 4 + 3, none⟩ = some (.int .i64 p.pins) := by
  have hl := (List.getElem?_eq_some_iff.1 hx).1
  have hc : ∀ c, c < 4 → w.cell? ⟨m.c, x * 4 + c, none⟩ = (cellsN p)[c]? := by
    intro c hc
    rw [l.row.cellAt _ (by omega)]
    exact flatN_get cs x p c hx hc
  exact ⟨hc 0 (by omega), hc 1 (by omega), hc 2 (by omega), hc 3 (by omega)⟩

/-- The store's two blocks stay: it lies as it did. -/
theorem Lay.of (l : Lay w m h cs) {w' : World} (h1 : w'.heap[m.s]? = w.heap[m.s]?) (h2 : w'.heap[m.c]? = w.heap[m.c]?) : Lay w' m h cs := by
  refine ⟨h1.trans l.head, ?_, l.st, l.sb, l.sc, l.ct, l.cb, l.len⟩
  obtain ⟨r1, r2⟩ := l.row
  refine ⟨r1, ?_⟩
  rcases r2 with r2 | ⟨g, cap, cur, e, r3, r4, r5⟩
  · exact .inl r2
  · refine .inr ⟨g, cap, cur, e, r3, ?_, r5⟩
    simp only [Value.slice.injEq, Option.some.injEq, Addr.mk.injEq, and_true] at e
    rw [← e.1] at r4 ⊢
    exact h2.trans r4

theorem Lay.keep (l : Lay w m h cs) {w' : World} (hb : Below w.heap.size w w') : Lay w' m h cs := l.of (hb.block _ l.lt_s) (hb.block _ l.lt_c)
theorem Lay.alloc (l : Lay w m h cs) (o : Obj) : Lay (w.alloc o) m h cs := l.of (Below.heap_alloc w o _ l.lt_s) (Below.heap_alloc w o _ l.lt_c)
theorem Lay.drew (l : Lay w m h cs) : Lay w.drew m h cs := l.of rfl rfl
theorem Lay.drewN (l : Lay w m h cs) (q : Nat) : Lay (w.drewN q) m h cs := l.of rfl rfl
end

/-- Of what was there, own blocks alone may have turned. -/
structure Turn (own : Nat → Prop) (w w' : World) : Prop where
  os : w'.os = w.os
  tape : w'.tape = w.tape
  output : w'.output = w.output
  size : w.heap.size ≤ w'.heap.size
  block : ∀ i, i < w.heap.size → ¬ own i → w'.heap[i]? = w.heap[i]?

section
variable {own : Nat → Prop} {w w1 w2 : World}
theorem Turn.refl (own : Nat → Prop) (w : World) : Turn own w w := ⟨rfl, rfl, rfl, Nat.le_refl _, fun _ _ _ => rfl⟩
theorem Turn.alloc (h : Turn own w w1) (o : Obj) : Turn own w (w1.alloc o) :=
  ⟨h.os, h.tape, h.output, Nat.le_trans h.size (by simp), fun i hi h1 => (Below.heap_alloc w1 o i (Nat.lt_of_lt_of_le hi h.size)).trans (h.block i hi h1)⟩
theorem Turn.setCell (h : Turn own w w1) {p : Addr} (hp : own p.block ∨ w.heap.size ≤ p.block) (v : Value) : Turn own w (w1.setCell p v) :=
  ⟨h.os, h.tape, h.output, by simpa [World.setCell] using h.size, fun i hi h1 => (Below.heap_setCell w1 p v i (by
    rintro rfl
    rcases hp with hp | hp
    · exact h1 hp
    · omega)).trans (h.block i hi h1)⟩
theorem Turn.drew (h : Turn own w w1) : Turn own w w1.drew := ⟨h.os, h.tape, h.output, h.size, h.block⟩
theorem Turn.drewN (h : Turn own w w1) (q : Nat) : Turn own w (w1.drewN q) := ⟨h.os, h.tape, h.output, h.size, h.block⟩
theorem Turn.below (h : Turn own w w1) (k : Below w1.heap.size w1 w2) : Turn own w w2 :=
  ⟨k.os.trans h.os, k.tape.trans h.tape, k.output.trans h.output, Nat.le_trans h.size k.size, fun i hi h1 => (k.block i (Nat.lt_of_lt_of_le hi h.size)).trans (h.block i hi h1)⟩
theorem Turn.trans {own' : Nat → Prop} (h : Turn own w w1) (k : Turn own' w1 w2) (hb : ∀ i, own' i → own i ∨ w.heap.size ≤ i) : Turn own w w2 :=
  ⟨k.os.trans h.os, k.tape.trans h.tape, k.output.trans h.output, Nat.le_trans h.size k.size, fun i hi h1 => (k.block i (Nat.lt_of_lt_of_le hi h.size) (fun h2 => (hb i h2).elim h1 (by omega))).trans (h.block i hi h1)⟩
theorem Turn.grown (h : Turn own w w1) {row : Option Nat} (k : w1.grownBy w2 row) (hb : ∀ i, row = some i → own i ∨ w.heap.size ≤ i) : Turn own w w2 :=
  ⟨k.os.trans h.os, k.tape.trans h.tape, k.output.trans h.output, Nat.le_trans h.size k.size, fun i hi h1 => (k.block i (Nat.lt_of_lt_of_le hi h.size) (fun h2 => (hb i h2.symm).elim h1 (by omega))).trans (h.block i hi h1)⟩
theorem Turn.of_mut {t b : Nat} (k : Mut t b w w1) (ht : own t) (hb : own b) : Turn own w w1 :=
  ⟨k.os, k.tape, k.output, k.size, fun i hi h1 => k.block i hi (fun e => h1 (e ▸ ht)) (fun e => h1 (e ▸ hb))⟩
theorem Turn.of_below (k : Below w.heap.size w w1) : Turn own w w1 := (Turn.refl own w).below k
theorem Turn.to_below {B : Nat} (h : Below B w w1) (k : Turn own w1 w2) (ho : ∀ i, own i → B ≤ i) (hB : B ≤ w1.heap.size) : Below B w w2 :=
  ⟨k.os.trans h.os, k.tape.trans h.tape, k.output.trans h.output, Nat.le_trans h.size k.size, fun i hi => (k.block i (by omega) (fun h2 => by have := ho i h2; omega)).trans (h.block i hi)⟩
theorem Turn.cell (h : Turn own w w1) {p : Addr} {v : Value} (hp : w.cell? p = some v) (hn : ¬ own p.block) : w1.cell? p = some v :=
  (World.cell?_of_block (h.block p.block (World.block_lt_of_cell? w p hp) hn)).trans hp
end

theorem given_store {w : World} {m : Mem} {h : Hd} {cs : List Nd} (l : Lay w m h cs) : Calls Try.prog 37 #[ptrV m.s] w fun e w' => e = .returned (.bool true) ∧ w = w' := by
  obtain ⟨c0, -⟩ := l.tops
  unfold ptrV
  have hi : ∃ i, Try.prog.info? 70 = some i ∧ i.size = 9 := by
    have h := info_store
    cases hc : Try.prog.info? 70 with
    | none => rw [hc] at h; cases h
    | some i => rw [hc] at h; injection h with h; injection h with h _; exact ⟨i, rfl, h⟩
  obtain ⟨j, hj, _⟩ := hi
  have heq := run_eql_ptr_same (P := Try.prog) w ⟨m.s, 0, none⟩ Try.underlying22 hj
  go_enter Try.func37, Try.ntmps37
  go_wp2
  go_ret
  exact ⟨rfl, rfl⟩

/-- Is a number a node's? -/
def thereB (cs : List Nd) (k : Int) : Bool := decide (0 ≤ k) && match cs[k.toNat]? with | some c => decide (c.asks ≠ -1) | none => false

theorem thereB_true {cs : List Nd} {k : Int} (h : thereB cs k = true) : ∃ (n : Nat) (c : Nd), k = n ∧ Is cs n c := by
  unfold thereB at h
  rw [Bool.and_eq_true] at h
  obtain ⟨h1, h2⟩ := h
  have h1 : 0 ≤ k := by simpa using h1
  cases hc : cs[k.toNat]? with
  | none => rw [hc] at h2; cases h2
  | some c => rw [hc] at h2; exact ⟨k.toNat, c, by omega, hc, by simpa using h2⟩
theorem thereB_is {cs : List Nd} {n : Nat} {c : Nd} (h : Is cs n c) : thereB cs n = true := by
  unfold thereB
  rw [show ((n : Int).toNat) = n from rfl, h.1]
  simpa using h.2

theorem there_any {w : World} {m : Mem} {h : Hd} {cs : List Nd} (l : Lay w m h cs) (k : Int) :
    Calls Try.prog 59 #[ptrV m.s, .int .i64 k] w fun e w' => e = .returned (.bool (thereB cs k)) ∧ w = w' := by
  obtain ⟨_, _, _, c3, -⟩ := l.tops
  unfold ptrV
  by_cases h0 : 0 ≤ k
  · obtain ⟨n, rfl⟩ : ∃ n : Nat, k = n := ⟨k.toNat, by omega⟩
    by_cases h1 : n < cs.length
    · obtain ⟨c, hc⟩ : ∃ c, cs[n]? = some c := ⟨_, List.getElem?_eq_getElem h1⟩
      obtain ⟨d0, -⟩ := l.cells hc
      by_cases h2 : c.asks = -1
      · have e : thereB cs n = false := by unfold thereB; rw [show ((n : Int).toNat) = n from rfl, hc]; simp [h2]
        rw [e]
        have HC := Lib.hid hc
        clear hc e
        go_enter Try.func59, Try.ntmps59
        go_wp2
        go_ret
        exact ⟨rfl, rfl⟩
      · have e : thereB cs n = true := thereB_is ⟨hc, h2⟩
        rw [e]
        have HC := Lib.hid hc
        have h3 : (c.asks != -1) = true := by simpa using h2
        clear hc e h2
        go_enter Try.func59, Try.ntmps59
        go_wp2
        go_ret
        exact ⟨rfl, rfl⟩
    · have e : thereB cs n = false := by unfold thereB; rw [show ((n : Int).toNat) = n from rfl, List.getElem?_eq_none (by omega)]; simp
      rw [e]
      clear e
      go_enter Try.func59, Try.ntmps59
      go_wp2
      go_ret
      exact ⟨rfl, rfl⟩
  · have e : thereB cs k = false := by unfold thereB; simp [h0]
    rw [e]
    clear e
    go_enter Try.func59, Try.ntmps59
    go_wp2
    go_ret
    exact ⟨rfl, rfl⟩

theorem refusal_no {w : World} {m : Mem} {h : Hd} {cs : List Nd} (l : Lay w m h cs) (k : Int) (hk : thereB cs k = false) :
    Calls Try.prog 47 #[ptrV m.s, .int .i64 k] w fun e w' => e = .returned (.int .i64 3) ∧ w = w' := by
  have H := Lib.hid (given_store l)
  have H2 := Lib.hid (there_any l k)
  have HK := Lib.hid hk
  clear hk
  unfold ptrV at *
  go_enter Try.func47, Try.ntmps47
  go_wp2_with fail
  refine H.out.mono ?_
  rintro e w' ⟨rfl, rfl⟩
  go_wp2_with fail
  refine H2.out.mono ?_
  rintro e w' ⟨rfl, rfl⟩
  rw [HK.out]
  go_wp2_with fail
  go_ret
  exact ⟨rfl, rfl⟩

theorem refusal_yes {w : World} {m : Mem} {h : Hd} {cs : List Nd} (l : Lay w m h cs) (k : Int) (hk : thereB cs k = true) :
    Calls Try.prog 47 #[ptrV m.s, .int .i64 k] w fun e w' => e = .returned (.int .i64 0) ∧ w = w' := by
  have H := Lib.hid (given_store l)
  have H2 := Lib.hid (there_any l k)
  have HK := Lib.hid hk
  clear hk
  unfold ptrV at *
  go_enter Try.func47, Try.ntmps47
  go_wp2_with fail
  refine H.out.mono ?_
  rintro e w' ⟨rfl, rfl⟩
  go_wp2_with fail
  refine H2.out.mono ?_
  rintro e w' ⟨rfl, rfl⟩
  rw [HK.out]
  go_wp2_with fail
  go_ret
  exact ⟨rfl, rfl⟩

/-- Does a number's node ask a later variable than v? -/
def behindB (cs : List Nd) (k v : Int) : Bool := thereB cs k && match cs[k.toNat]? with | some c => decide (v < c.asks) | none => false

theorem behindB_true {cs : List Nd} {k v : Int} (h : behindB cs k v = true) : ∃ (n : Nat) (c : Nd), k = n ∧ Is cs n c ∧ v < c.asks := by
  unfold behindB at h
  rw [Bool.and_eq_true] at h
  obtain ⟨n, c, rfl, hc⟩ := thereB_true h.1
  have h2 := h.2
  rw [show ((n : Int).toNat) = n from rfl, hc.1] at h2
  exact ⟨n, c, rfl, hc, by simpa using h2⟩
theorem behindB_is {cs : List Nd} {n : Nat} {c : Nd} {v : Int} (h : Is cs n c) (hv : v < c.asks) : behindB cs n v = true := by
  unfold behindB
  rw [thereB_is h, show ((n : Int).toNat) = n from rfl, h.1]
  simpa using hv

theorem behind_any {w : World} {m : Mem} {h : Hd} {cs : List Nd} (l : Lay w m h cs) (k v : Int) :
    Calls Try.prog 38 #[ptrV m.s, .int .i64 k, .int .i64 v] w fun e w' => e = .returned (.bool (behindB cs k v)) ∧ w = w' := by
  obtain ⟨_, _, _, c3, -⟩ := l.tops
  have H2 := Lib.hid (there_any l k)
  cases hk : thereB cs k with
  | false =>
    have e : behindB cs k v = false := by unfold behindB; rw [hk]; rfl
    rw [e]
    have HK := Lib.hid hk
    clear hk e
    unfold ptrV at *
    go_enter Try.func38, Try.ntmps38
    go_wp2_with fail
    refine H2.out.mono ?_
    rintro e w' ⟨rfl, rfl⟩
    rw [HK.out]
    go_wp2_with fail
    go_ret
    exact ⟨rfl, rfl⟩
  | true =>
    obtain ⟨n, c, rfl, hc⟩ := thereB_true hk
    have hl := hc.lt
    obtain ⟨d0, -⟩ := l.cells hc.1
    have HK := Lib.hid hk
    clear hk
    by_cases hv : v < c.asks
    · have e : behindB cs n v = true := behindB_is hc hv
      rw [e]
      have HC := Lib.hid hc
      clear hc e
      unfold ptrV at *
      go_enter Try.func38, Try.ntmps38
      go_wp2_with fail
      refine H2.out.mono ?_
      rintro e w' ⟨rfl, rfl⟩
      rw [HK.out]
      go_wp2_with fail
      go_ret
      exact ⟨rfl, rfl⟩
    · have e : behindB cs n v = false := by
        unfold behindB
        rw [show ((n : Int).toNat) = n from rfl, hc.1]
        simp [hv]
      rw [e]
      have HC := Lib.hid hc
      have hd : decide (v < c.asks) = false := by simpa using hv
      clear hc e
      unfold ptrV at *
      go_enter Try.func38, Try.ntmps38
      go_wp2_with fail
      refine H2.out.mono ?_
      rintro e w' ⟨rfl, rfl⟩
      rw [HK.out]
      go_wp2_with fail
      go_ret
      exact ⟨rfl, rfl⟩

def cellV (c : Nd) : Value := .agg #[.int .i64 c.asks, .int .i64 c.low, .int .i64 c.high, .int .i64 c.pins]

theorem key_any (c : Nd) (w : World) : Calls Try.prog 40 #[cellV c] w fun e w' => e = .returned (keyV c.key) ∧ Below w.heap.size w w' := by
  unfold cellV keyV Nd.key
  go_enter Try.func40, Try.ntmps40
  go_wp2
  exact bodyPost_ret (v := .agg #[.int .i64 c.asks, .int .i64 c.low, .int .i64 c.high]) (by simp [results, Try.results40, go_sem]) rfl ⟨rfl, (((Below.refl _ _).alloc (Nat.le_refl _) _).alloc (by simp) _)⟩

theorem load_any {w : World} {s o : Nat} {x : Int} (hc : w.cell? ⟨s, o, none⟩ = some (.int .i64 x)) :
    Calls Try.prog 62 #[.pointer (some ⟨s, o, none⟩)] w fun e w' => e = .returned (.int .i64 x) ∧ w = w' := by
  have hl := run_call_load (P := Try.prog) Try.func73 (by kernel_rfl) (by kernel_rfl) (by kernel_rfl) .i64 (by kernel_rfl) hc
  go_enter Try.func62, Try.ntmps62
  go_wp2
  go_ret
  exact ⟨rfl, rfl⟩

theorem add_any {w : World} {s o : Nat} {x y : Int} (hc : w.cell? ⟨s, o, none⟩ = some (.int .i64 x)) (hz : w.frozen? ⟨s, o, none⟩ = false) :
    Calls Try.prog 64 #[.pointer (some ⟨s, o, none⟩), .int .i64 y] w fun e w' => e = .returned (.int .i64 (wrap64 (x + y))) ∧ w' = w.setCell ⟨s, o, none⟩ (.int .i64 (wrap64 (x + y))) := by
  have hl := run_call_add (P := Try.prog) Try.func77 (by kernel_rfl) (by kernel_rfl) (by kernel_rfl) .i64 (by kernel_rfl) hc hz (y := y) (s := wrap64 (x + y)) (by simp [go_sem, wrap64, IntKind.wrap_i64])
  go_enter Try.func64, Try.ntmps64
  go_wp2
  go_ret
  exact ⟨rfl, rfl⟩

theorem store_any {w : World} {s o : Nat} {x : Value} {y : Int} (hc : w.cell? ⟨s, o, none⟩ = some x) (hz : w.frozen? ⟨s, o, none⟩ = false) :
    Calls Try.prog 36 #[.pointer (some ⟨s, o, none⟩), .int .i64 y] w fun e w' => e = .returned (.tuple #[]) ∧ w' = w.setCell ⟨s, o, none⟩ (.int .i64 y) := by
  have hl := run_call_store (P := Try.prog) Try.func58 (by kernel_rfl) (by kernel_rfl) (by kernel_rfl) (by kernel_rfl) hc hz (k := .i64) (y := y)
  go_enter Try.func36, Try.ntmps36
  go_wp2
  go_end0
  exact ⟨rfl, rfl⟩

/-- The counters, and how many variables. -/
theorem len_store {w : World} {m : Mem} {h : Hd} {cs : List Nd} (l : Lay w m h cs) : Calls Try.prog 41 #[ptrV m.s] w fun e w' => e = .returned (.int .i64 h.nodes) ∧ w = w' := by
  obtain ⟨_, _, _, _, _, _, c6, _, _⟩ := l.tops
  have H := Lib.hid (given_store l)
  have H2 := Lib.hid (load_any c6)
  clear c6
  unfold ptrV at *
  go_enter Try.func41, Try.ntmps41
  go_wp2_with fail
  refine H.out.mono ?_
  rintro e w' ⟨rfl, rfl⟩
  go_wp2_with fail
  refine H2.out.mono ?_
  rintro e w' ⟨rfl, rfl⟩
  go_wp2_with fail
  go_ret
  exact ⟨rfl, rfl⟩


theorem sweeps_store {w : World} {m : Mem} {h : Hd} {cs : List Nd} (l : Lay w m h cs) : Calls Try.prog 81 #[ptrV m.s] w fun e w' => e = .returned (.int .i64 h.sweeps) ∧ w = w' := by
  obtain ⟨_, _, _, _, _, _, _, _, c8⟩ := l.tops
  have H := Lib.hid (given_store l)
  have H2 := Lib.hid (load_any c8)
  clear c8
  unfold ptrV at *
  go_enter Try.func81, Try.ntmps81
  go_wp2_with fail
  refine H.out.mono ?_
  rintro e w' ⟨rfl, rfl⟩
  go_wp2_with fail
  refine H2.out.mono ?_
  rintro e w' ⟨rfl, rfl⟩
  go_wp2_with fail
  go_ret
  exact ⟨rfl, rfl⟩

theorem vars_store {w : World} {m : Mem} {h : Hd} {cs : List Nd} (l : Lay w m h cs) : Calls Try.prog 44 #[ptrV m.s] w fun e w' => e = .returned (.int .i64 h.V) ∧ w = w' := by
  obtain ⟨_, c1, -⟩ := l.tops
  have H := Lib.hid (given_store l)
  unfold ptrV at *
  go_enter Try.func44, Try.ntmps44
  go_wp2_with fail
  refine H.out.mono ?_
  rintro e w' ⟨rfl, rfl⟩
  go_wp2_with fail
  go_ret
  exact ⟨rfl, rfl⟩

theorem node_no {w : World} {m : Mem} {h : Hd} {cs : List Nd} (l : Lay w m h cs) (k : Int) (hk : thereB cs k = false) :
    Calls Try.prog 26 #[ptrV m.s, .int .i64 k] w fun e w' => e = .returned (.tuple #[.int .i64 0, .int .i64 0, .int .i64 0, .int .i64 3]) ∧ w = w' := by
  have H := Lib.hid (refusal_no l k hk)
  clear hk
  unfold ptrV at *
  go_enter Try.func26, Try.ntmps26
  go_wp2_with fail
  refine H.out.mono ?_
  rintro e w' ⟨rfl, rfl⟩
  go_wp2_with fail
  exact bodyPost_ret (v := .tuple #[.int .i64 0, .int .i64 0, .int .i64 0, .int .i64 3]) (by simp [results, Try.results26, go_sem]) rfl ⟨rfl, rfl⟩

theorem node_yes {w : World} {m : Mem} {h : Hd} {cs : List Nd} (l : Lay w m h cs) {k : Nat} {c : Nd} (hk : Is cs k c) :
    Calls Try.prog 26 #[ptrV m.s, .int .i64 k] w fun e w' => e = .returned (.tuple #[.int .i64 c.asks, .int .i64 c.low, .int .i64 c.high, .int .i64 0]) ∧ ∃ q, w' = w.drewN q := by
  obtain ⟨_, _, _, c3, -⟩ := l.tops
  obtain ⟨d0, d1, d2, -⟩ := l.cells hk.1
  have hl := hk.lt
  have H := Lib.hid (refusal_yes l k (thereB_is hk))
  clear hk
  unfold ptrV at *
  go_enter Try.func26, Try.ntmps26
  go_wp2_with fail
  refine H.out.mono ?_
  rintro e w' ⟨rfl, rfl⟩
  go_wp2_with fail
  go_quiet (fail)
  go_wp2_with fail
  exact bodyPost_ret (v := .tuple #[.int .i64 c.asks, .int .i64 c.low, .int .i64 c.high, .int .i64 0]) (by simp [results, Try.results26, go_sem]) rfl ⟨rfl, _, rfl⟩

end Go.Proofs.Ytkmffmlnondolaa

/- Contract of layer 3 (node): Eval; what a store is. -/
namespace Go.Proofs.Ytkmffmlnondolaa
open Go.ChangeShapes Go.WideShapes Go.ChangeAt Go.RowKit

/-- A store, as New gives it and its calls leave it. -/
structure St (w : World) (m : Mem) (h : Hd) (cs : List Nd) : Prop where
  lay : Lay w m h cs
  tab : ∃ f n, Tab w m.t m.b f n ∧ Keys cs f n
  good : NGood h.V cs
  nodes : h.nodes = cnt cs
  V : h.V ≤ 256
  B : h.B ≤ 1048576
  room : cnt cs ≤ h.B
  lf : 2 ≤ h.lf ∧ h.lf ≤ cs.length ∧ ∀ i, i < h.lf → ∃ c, Is cs i c

theorem St.keep {w w' : World} {m : Mem} {h : Hd} {cs : List Nd} (s : St w m h cs) (hb : Below w.heap.size w w') : St w' m h cs := by
  obtain ⟨f, n, h1, h2⟩ := s.tab
  exact ⟨s.lay.keep hb, ⟨f, n, h1.keep hb, h2⟩, s.good, s.nodes, s.V, s.B, s.room, s.lf⟩

theorem below_drew (w : World) : Below w.heap.size w w.drew := ⟨rfl, rfl, rfl, Nat.le_refl _, fun _ _ => rfl⟩
theorem below_drewN0 (w : World) (q : Nat) : Below w.heap.size w (w.drewN q) := ⟨rfl, rfl, rfl, Nat.le_refl _, fun _ _ => rfl⟩

/-- A store's blocks. -/
def Mem.own (m : Mem) (i : Nat) : Prop := i = m.s ∨ i = m.t ∨ i = m.b ∨ i = m.c

theorem St.own_lt {w : World} {m : Mem} {h : Hd} {cs : List Nd} (s : St w m h cs) : ∀ i, m.own i → i < w.heap.size := by
  obtain ⟨f, n, h1, _⟩ := s.tab
  have := h1.lt
  rintro i (rfl | rfl | rfl | rfl)
  · exact s.lay.lt_s
  · exact this.1
  · exact this.2.1
  · exact s.lay.lt_c

/-- A store stays as it is, while what is not its own turns. -/
theorem St.apart {w w' : World} {m : Mem} {h : Hd} {cs : List Nd} (s : St w m h cs) {own : Nat → Prop} (hm : Turn own w w') (hn : ∀ i, m.own i → ¬ own i) : St w' m h cs := by
  obtain ⟨f, n, h1, h2⟩ := s.tab
  have hlt := s.own_lt
  have hb : ∀ i, m.own i → w'.heap[i]? = w.heap[i]? := fun i hi => hm.block i (hlt i hi) (hn i hi)
  obtain ⟨ps, u, h5, h6, h7⟩ := h1
  exact ⟨s.lay.of (hb _ (.inl rfl)) (hb _ (.inr (.inr (.inr rfl)))), ⟨f, n, ⟨ps, u, ⟨⟨(hb _ (.inr (.inl rfl))).trans h5.lies.head, (hb _ (.inr (.inr (.inl rfl)))).trans h5.lies.row, h5.lies.ne⟩, h5.rep, h5.pow⟩, h6, h7⟩, h2⟩, s.good, s.nodes, s.V, s.B, s.room, s.lf⟩

/-- The values that a list gives to variables; missing ones are false. -/
def valOf (vs : List Bool) (i : Nat) : Bool := vs[i]?.getD false

def rkOf (V : Nat) (cs : List Nd) (k : Nat) : Nat := match cs[k]? with | some c => rk V c | none => 0
theorem rkOf_is {V : Nat} {cs : List Nd} {k : Nat} {c : Nd} (h : Is cs k c) : rkOf V cs k = rk V c := by unfold rkOf; rw [h.1]

def EvRel (V : Nat) (cs : List Nd) (x : Bool) (vs : List Bool) (kv : Value) : Prop := ∃ k c, Is cs k c ∧ kv = .int .i64 k ∧ Hid (Says V cs (valOf vs) k = x)

theorem ev_next {V : Nat} {cs : List Nd} {x : Bool} {vs : List Bool} {k : Nat} {c : Nd} (g : NGood V cs) (hk : 2 ≤ k) (hc : Is cs k c) (hx : Says V cs (valOf vs) k = x) {j : Nat} (hj : j = if valOf vs c.asks.toNat then c.high else c.low) :
    EvRel V cs x vs (.int .i64 (j : Int)) ∧ rkOf V cs (intOf (.int .i64 (j : Int))).toNat < rkOf V cs (intOf (.int .i64 (k : Int))).toNat := by
  have ho := g.ok k c hk hc
  obtain ⟨l, hl, hl2⟩ := g.lo k c hk hc
  obtain ⟨r, hr, hr2⟩ := g.hi k c hk hc
  rw [Says_step g _ hk hc, ← hj] at hx
  obtain ⟨d, hd, hd2⟩ : ∃ d, Is cs j d ∧ c.asks < d.asks := by
    rw [hj]
    by_cases hv : valOf vs c.asks.toNat
    · rw [if_pos hv]; exact ⟨r, hr, hr2⟩
    · rw [if_neg hv]; exact ⟨l, hl, hl2⟩
  refine ⟨⟨j, d, hd, rfl, hx⟩, ?_⟩
  show rkOf V cs ((j : Int)).toNat < rkOf V cs ((k : Int)).toNat
  rw [Int.toNat_natCast, Int.toNat_natCast, rkOf_is hd, rkOf_is hc]
  unfold rk; omega

end Go.Proofs.Ytkmffmlnondolaa

/- Contracts of layer 3 (node): mark, Size, Pin, Unpin. -/
namespace Go.Proofs.Ytkmffmlnondolaa
open Go.ChangeShapes Go.WideShapes Go.ChangeAt Go.RowKit Go.Maps

theorem lawInt : Keyed Try.prog 3 := int_keyed Try.underlying3

theorem keyInt (k : Nat) (hk : k < 1048576) : keyOf Try.prog 3 (.int .i64 (k : Int)) = some (.int .i64 (k : Int)) :=
  keyOf_int_mk Try.underlying3 (WalkArith.wf_i64 (by omega))


theorem Lay.turn {w w' : World} {m : Mem} {h : Hd} {cs : List Nd} (l : Lay w m h cs) {own : Nat → Prop} (ht : Turn own w w') (h1 : ¬ own m.s) (h2 : ¬ own m.c) : Lay w' m h cs :=
  l.of (ht.block _ l.lt_s h1) (ht.block _ l.lt_c h2)



end Go.Proofs.Ytkmffmlnondolaa

/- Contracts of layer 3 (node): Pin, Unpin; a cell is stored. -/
namespace Go.Proofs.Ytkmffmlnondolaa
open Go.ChangeShapes Go.WideShapes Go.ChangeAt Go.RowKit

theorem list_set_same {α : Type} (l : List α) (i : Nat) (u : α) (hu : l[i]? = some u) : l.set i u = l := by
  apply List.ext_getElem?
  intro j
  rw [List.getElem?_set]
  by_cases hj : i = j
  · subst hj; rw [if_pos rfl, if_pos (List.getElem?_eq_some_iff.1 hu).1, hu]
  · rw [if_neg hj]

section
variable {w : World} {m : Mem} {h : Hd} {cs : List Nd}

theorem Lay.store1 (l : Lay w m h cs) {cs' : List Nd} (j : Nat) (u : Value) (he : flatN cs' = (flatN cs).set j u) (hl : cs'.length = cs.length) : Lay (w.setCell ⟨m.c, j, none⟩ u) m h cs' := by
  refine ⟨?_, ?_, l.st, l.sb, l.sc, l.ct, l.cb, by rw [hl]; exact l.len⟩
  · rw [heap_setCell_other _ _ _ _ l.sc, hl]; exact l.head
  · rw [hl, he]; exact (l.row.stored j u).1

theorem Lay.setPin (l : Lay w m h cs) {k : Nat} {c : Nd} (hc : cs[k]? = some c) (p : Nat) : Lay (w.setCell ⟨m.c, k * 4 + 3, none⟩ (.int .i64 p)) m h (cs.set k ⟨c.asks, c.low, c.high, p⟩) := by
  have hk := (List.getElem?_eq_some_iff.1 hc).1
  refine l.store1 _ _ ?_ (by simp)
  rw [flatN_set cs k _ hk]
  have g : ∀ o u, o < 4 → (cellsN c)[o]? = some u → (flatN cs)[k * 4 + o]? = some u := fun o u ho hu => (flatN_get cs k c o hc ho).trans hu
  rw [list_set_same _ (k * 4) _ (g 0 _ (by omega) rfl), list_set_same _ (k * 4 + 1) _ (g 1 _ (by omega) rfl), list_set_same _ (k * 4 + 2) _ (g 2 _ (by omega) rfl)]

theorem Lay.setC (l : Lay w m h cs) {k : Nat} (hk : k < cs.length) (q : Nd) :
    Lay ((((w.setCell ⟨m.c, k * 4, none⟩ (.int .i64 q.asks)).setCell ⟨m.c, k * 4 + 1, none⟩ (.int .i64 q.low)).setCell ⟨m.c, k * 4 + 2, none⟩ (.int .i64 q.high)).setCell ⟨m.c, k * 4 + 3, none⟩ (.int .i64 q.pins)) m h (cs.set k q) := by
  refine ⟨?_, ?_, l.st, l.sb, l.sc, l.ct, l.cb, by simpa using l.len⟩
  · rw [heap_setCell_other _ _ _ _ l.sc, heap_setCell_other _ _ _ _ l.sc, heap_setCell_other _ _ _ _ l.sc, heap_setCell_other _ _ _ _ l.sc, List.length_set]; exact l.head
  · rw [List.length_set, flatN_set cs k q hk]
    exact ((((((l.row.stored _ _).1).stored _ _).1).stored _ _).1.stored _ _).1

theorem grown_set (w : World) (s o : Nat) (u : Value) : w.grownBy (w.setCell ⟨s, o, none⟩ u) (some s) :=
  ⟨rfl, rfl, rfl, by simp, fun k _ hk => heap_setCell_other w ⟨s, o, none⟩ k u (fun e => hk (by simp [e]))⟩

theorem Lay.rowS (l : Lay w m h cs) (o : Nat) (u : Value) : (w.setCell ⟨m.s, o, none⟩ u).ownsRow 0 72 4 (.slice (some ⟨m.c, 0, none⟩) cs.length m.cap) cs.length (flatN cs) :=
  l.row.kept (grown_set w m.s o u) (.inr (by simp only [Value.ownBlock]; intro e; injection e with e; exact l.sc e.symm))

theorem Lay.setLf (l : Lay w m h cs) (x : Nat) {z : Int} (hz : z = x) : Lay (w.setCell ⟨m.s, 5, none⟩ (.int .i64 z)) m { h with lf := x } cs := by
  subst hz
  exact ⟨(heap_setCell_same w m.s 5 _ _ _ l.head).trans rfl, l.rowS _ _, l.st, l.sb, l.sc, l.ct, l.cb, l.len⟩
theorem Lay.setNodes (l : Lay w m h cs) (z : Int) : Lay (w.setCell ⟨m.s, 6, none⟩ (.int .i64 z)) m { h with nodes := z } cs :=
  ⟨(heap_setCell_same w m.s 6 _ _ _ l.head).trans rfl, l.rowS _ _, l.st, l.sb, l.sc, l.ct, l.cb, l.len⟩
theorem Lay.setMade (l : Lay w m h cs) (z : Int) : Lay (w.setCell ⟨m.s, 7, none⟩ (.int .i64 z)) m { h with made := z } cs :=
  ⟨(heap_setCell_same w m.s 7 _ _ _ l.head).trans rfl, l.rowS _ _, l.st, l.sb, l.sc, l.ct, l.cb, l.len⟩
theorem Lay.setSweeps (l : Lay w m h cs) (z : Int) : Lay (w.setCell ⟨m.s, 8, none⟩ (.int .i64 z)) m { h with sweeps := z } cs :=
  ⟨(heap_setCell_same w m.s 8 _ _ _ l.head).trans rfl, l.rowS _ _, l.st, l.sb, l.sc, l.ct, l.cb, l.len⟩
end


end Go.Proofs.Ytkmffmlnondolaa

/- Contract of layer 3 (node): New. -/
namespace Go.Proofs.Ytkmffmlnondolaa
open Go.ChangeShapes Go.WideShapes Go.ChangeAt Go.RowKit

/-- The first j of the nodes 0 and 1. -/
def firstN (V j : Nat) : List Nd := ([⟨V, 0, 0, 0⟩, ⟨V, 1, 1, 0⟩] : List Nd).take j

theorem firstN_length (V j : Nat) (hj : j ≤ 2) : (firstN V j).length = j := by unfold firstN; simp; omega
theorem firstN_next (V j : Nat) (hj : j < 2) : flatN (firstN V (j + 1)) = flatN (firstN V j) ++ [.int .i64 V, .int .i64 j, .int .i64 j, .int .i64 0] := by
  match j, hj with
  | 0, _ => rfl
  | 1, _ => rfl

theorem news4_one (a b c d : Int) : ∀ u ∈ [Value.int .i64 a, .int .i64 b, .int .i64 c, .int .i64 d], u.oneCell' = true := by simp [Value.oneCell']

/-- A store that is being made. -/
structure Half3 (V B s t b : Nat) (w0 : World) (j : Nat) (v : Value) (wr : World) : Prop where
  head : wr.heap[s]? = some (.cells #[.pointer (some ⟨s, 0, none⟩), .int .i64 V, .int .i64 B, v, .pointer (some ⟨t, 0, none⟩), .int .i64 2, .int .i64 0, .int .i64 0, .int .i64 0] 70 (0, 0))
  row : wr.ownsRow w0.heap.size 72 4 v j (flatN (firstN V j))
  far : ∀ g, v.ownBlock = some g → g ≠ s ∧ g ≠ t ∧ g ≠ b
  tab : Tab wr t b (fun _ => none) 0
  below : Below w0.heap.size w0 wr
  st : s ≠ t
  sb : s ≠ b
  ss : w0.heap.size ≤ s
  ts : w0.heap.size ≤ t
  bs : w0.heap.size ≤ b

theorem Half3.lt {V B s t b : Nat} {w0 wr : World} {j : Nat} {v : Value} (h : Half3 V B s t b w0 j v wr) : s < wr.heap.size := by
  rcases Nat.lt_or_ge s wr.heap.size with h1 | h1
  · exact h1
  · have := h.head; rw [Array.getElem?_eq_none h1] at this; cases this

theorem Tab.of {w w' : World} {t b : Nat} {f : Key → Option Int} {n : Nat} (h : Tab w t b f n) (h1 : w'.heap[t]? = w.heap[t]?) (h2 : w'.heap[b]? = w.heap[b]?) : Tab w' t b f n := by
  obtain ⟨ps, u, h5, h6, h7⟩ := h
  exact ⟨ps, u, ⟨⟨h1.trans h5.lies.head, h2.trans h5.lies.row, h5.lies.ne⟩, h5.rep, h5.pow⟩, h6, h7⟩

/-- Behind the append: what is known of the world. -/
theorem Half3.grown {V B s t b : Nat} {w0 wr w1 : World} {j : Nat} {v : Value} (h : Half3 V B s t b w0 j v wr) {o : Obj} (hg : (wr.alloc o).grownBy w1 v.ownBlock) {g : Nat} (hat : v.ownBlock = some g ∨ g = wr.heap.size + 1) :
    w1.heap[s]? = some (.cells #[.pointer (some ⟨s, 0, none⟩), .int .i64 V, .int .i64 B, v, .pointer (some ⟨t, 0, none⟩), .int .i64 2, .int .i64 0, .int .i64 0, .int .i64 0] 70 (0, 0)) ∧
    Tab w1 t b (fun _ => none) 0 ∧ Below w0.heap.size w0 w1 ∧ g ≠ s ∧ g ≠ t ∧ g ≠ b := by
  have hs := h.lt
  have htab := h.tab.lt
  have hsz := h.below.size
  have fr : ∀ i, i < wr.heap.size → some i ≠ v.ownBlock → w1.heap[i]? = wr.heap[i]? := fun i hi hn =>
    (hg.block i (by simp; omega) hn).trans (Below.heap_alloc wr o i hi)
  have ne : ∀ i, (∀ g, v.ownBlock = some g → g ≠ i) → some i ≠ v.ownBlock := fun i hn e => hn i e.symm rfl
  refine ⟨(fr s hs (ne s fun g hg => (h.far g hg).1)).trans h.head, h.tab.of (fr t htab.1 (ne t fun g hg => (h.far g hg).2.1)) (fr b htab.2.1 (ne b fun g hg => (h.far g hg).2.2)), ?_, ?_⟩
  · exact (h.below.alloc hsz _).grown hg (by simp; omega) fun k hk => (h.row.lt k hk).1
  · rcases hat with hat | rfl
    · exact h.far g hat
    · omega

theorem Half3.next {V B s t b : Nat} {w0 wr w1 : World} {j : Nat} {v : Value} (h : Half3 V B s t b w0 j v wr) (hj : j < 2) {g cap : Nat}
    (hd : w1.heap[s]? = some (.cells #[.pointer (some ⟨s, 0, none⟩), .int .i64 V, .int .i64 B, v, .pointer (some ⟨t, 0, none⟩), .int .i64 2, .int .i64 0, .int .i64 0, .int .i64 0] 70 (0, 0)))
    (htab : Tab w1 t b (fun _ => none) 0) (hbel : Below w0.heap.size w0 w1) (hgs : g ≠ s) (hgt : g ≠ t) (hgb : g ≠ b)
    (hown : w1.ownsRow w0.heap.size 72 4 (.slice (some ⟨g, 0, none⟩) (j + 1) cap) (j + 1) (flatN (firstN V j) ++ [.int .i64 V, .int .i64 j, .int .i64 j, .int .i64 0])) :
    Half3 V B s t b w0 (j + 1) (.slice (some ⟨g, 0, none⟩) (j + 1) cap) (w1.setCell ⟨s, 3, none⟩ (.slice (some ⟨g, 0, none⟩) (j + 1) cap)) := by
  refine ⟨(heap_setCell_same w1 s 3 _ _ _ hd).trans rfl, ?_, ?_, ?_, ?_, h.st, h.sb, h.ss, h.ts, h.bs⟩
  · rw [firstN_next V j hj]
    exact hown.kept (grown_set w1 s 3 _) (.inr (by simp only [Value.ownBlock]; intro e; injection e with e; exact hgs e))
  · intro g' hg'
    simp only [Value.ownBlock] at hg'
    injection hg' with hg'
    subst hg'
    exact ⟨hgs, hgt, hgb⟩
  · exact htab.of (heap_setCell_other _ _ _ _ (fun e => h.st e.symm)) (heap_setCell_other _ _ _ _ (fun e => h.sb e.symm))
  · exact hbel.setCell h.ss _

def NewRel (V B s t b : Nat) (w0 : World) (iv : Value) (wr : World) : Prop := ∃ (j : Nat) (v : Value), j ≤ 2 ∧ iv = .int .i64 j ∧ Half3 V B s t b w0 j v wr

def NewSt (V B : Nat) (w : World) (e : Ending) (w' : World) : Prop :=
  ∃ m, e = .returned (.tuple #[ptrV m.s, .int .i64 0]) ∧ St w' m ⟨V, B, 2, 2, 0, 0⟩ [⟨V, 0, 0, 0⟩, ⟨V, 1, 1, 0⟩] ∧ Below w.heap.size w w' ∧ ∀ i, m.own i → w.heap.size ≤ i

theorem first_good (V : Nat) : NGood V [⟨V, 0, 0, 0⟩, ⟨V, 1, 1, 0⟩] := by
  have two : ∀ k c, 2 ≤ k → ¬ Is [⟨V, 0, 0, 0⟩, ⟨V, 1, 1, 0⟩] k c := fun k c hk h => by have := h.lt; simp at this; omega
  have all : ∀ (k : Nat) c, ([⟨V, 0, 0, 0⟩, ⟨V, 1, 1, 0⟩] : List Nd)[k]? = some c → c.asks = V ∧ c.pins = 0 := by
    intro k c h
    match k with
    | 0 => simp at h; subst h; exact ⟨rfl, rfl⟩
    | 1 => simp at h; subst h; exact ⟨rfl, rfl⟩
    | k + 2 => simp at h
  refine ⟨⟨0, rfl⟩, ⟨0, rfl⟩, fun k c h e => ?_, fun k c hk h => absurd h (two k c hk), fun k c hk h => absurd h (two k c hk), fun k c hk h => absurd h (two k c hk), fun k j c d hk _ h _ _ => absurd h (two k c hk), fun k c h => ?_⟩
  · have := (all k c h).1; omega
  · have := (all k c h).2; omega

theorem first_keys (V : Nat) : Keys [⟨V, 0, 0, 0⟩, ⟨V, 1, 1, 0⟩] (fun _ => none) 0 := by
  have c : cnt [⟨V, 0, 0, 0⟩, ⟨V, 1, 1, 0⟩] = 2 := by
    have h : ¬ ((V : Int) = -1) := by omega
    unfold cnt; simp [h]
  refine ⟨fun q v => ⟨fun h => (by cases h), ?_⟩, c.symm⟩
  rintro ⟨k, c, hk, _, h, _⟩
  have := h.lt; simp at this; omega

theorem first_st {V B s t b g cap : Nat} {w0 w : World} (hV : V ≤ 256) (hB : B ≤ 1048576) (hB2 : 2 ≤ B) (h : Half3 V B s t b w0 2 (.slice (some ⟨g, 0, none⟩) 2 cap) w) :
    St (w.setCell ⟨s, 6, none⟩ (.int .i64 2)) ⟨s, t, b, g, cap⟩ ⟨V, B, 2, 2, 0, 0⟩ [⟨V, 0, 0, 0⟩, ⟨V, 1, 1, 0⟩] ∧ Below w0.heap.size w0 (w.setCell ⟨s, 6, none⟩ (.int .i64 2)) ∧ ∀ i, Mem.own ⟨s, t, b, g, cap⟩ i → w0.heap.size ≤ i := by
  obtain ⟨g1, g2, g3⟩ := h.far g rfl
  have hrow0 : w.ownsRow 0 72 4 (.slice (some ⟨g, 0, none⟩) 2 cap) 2 (flatN (firstN V 2)) := by
    obtain ⟨r1, r2⟩ := h.row
    refine ⟨r1, ?_⟩
    rcases r2 with r2 | ⟨g', c', cur, e, _, r3⟩
    · exact .inl r2
    · exact .inr ⟨g', c', cur, e, Nat.zero_le _, r3⟩
  have l : Lay w ⟨s, t, b, g, cap⟩ ⟨V, B, 2, 0, 0, 0⟩ [⟨V, 0, 0, 0⟩, ⟨V, 1, 1, 0⟩] := ⟨h.head, hrow0, h.st, h.sb, g1.symm, g2, g3, by simp⟩
  have gk := first_good V
  have c := (first_keys V).count
  refine ⟨⟨l.setNodes 2, ⟨_, 0, h.tab.of (heap_setCell_other _ _ _ _ (fun e => h.st e.symm)) (heap_setCell_other _ _ _ _ (fun e => h.sb e.symm)), first_keys V⟩, gk, by rw [← c]; rfl, hV, hB, by rw [← c]; exact hB2, by show 2 ≤ 2; omega, by show 2 ≤ 2; omega, fun i hi => ?_⟩, h.below.setCell h.ss _, ?_⟩
  · have hi : i < 2 := hi
    have : i = 0 ∨ i = 1 := by omega
    rcases this with rfl | rfl
    · obtain ⟨p, h⟩ := gk.is0; exact ⟨_, h⟩
    · obtain ⟨p, h⟩ := gk.is1; exact ⟨_, h⟩
  · rintro i (rfl | rfl | rfl | rfl)
    · exact h.ss
    · exact h.ts
    · exact h.bs
    · exact (h.row.lt _ rfl).1

set_option maxHeartbeats 1000000 in
set_option maxRecDepth 100000 in
theorem newst_yes (V B : Nat) (hV : V ≤ 256) (hB : B ≤ 1048576) (hB2 : 2 ≤ B) (w : World) : Calls Try.prog 16 #[.int .i64 V, .int .i64 B] w (NewSt V B w) := by
  obtain ⟨i0, hi, hz0, hz1, hz2⟩ := info_parts info_cell
  have HI := Lib.hid hi
  have HZ0 := Lib.hid hz0
  have HZ1 := Lib.hid hz1
  have HZ2 := Lib.hid hz2
  clear hi hz0 hz1 hz2
  have v0 : ¬ (V : Int) < 0 := by omega
  have v1 : (V : Int) ≤ 256 := by omega
  obtain ⟨z, hz⟩ : ∃ z : Int, (B : Int) = z := ⟨_, rfl⟩
  have b0 : ¬ z < 2 := by omega
  have b1 : decide ((1048576 : Int) < z) = false := by simp; omega
  rw [hz]
  have HV := Lib.hid hV
  have HB := Lib.hid hB
  have HB2 := Lib.hid hB2
  have HZ := Lib.hid hz
  clear hV hB hB2 hz
  go_enter Try.func16, Try.ntmps16
  go_wp2_with fail
  refine (new_tab _).mono ?_
  rintro e w1 ⟨t, b, rfl, htab, hb1, ht, hb⟩
  have hs1 := hb1.size
  go_wp2_with fail
  have hh : Half3 V B w1.heap.size t b w 0 (.slice none 0 0) (w1.alloc (.cells #[.pointer (some ⟨w1.heap.size, 0, none⟩), .int .i64 V, .int .i64 z, .slice none 0 0, .pointer (some ⟨t, 0, none⟩), .int .i64 2, .int .i64 0, .int .i64 0, .int .i64 0] 70)) := by
    have htl := htab.lt
    rw [← HZ.out]
    exact ⟨heap_alloc_new w1 _, World.ownsRow_nil _ _ _ _, fun g hg => (by cases hg), htab.keep ((Below.refl _ _).alloc (Nat.le_refl _) _), hb1.alloc hs1 _, by omega, by omega, hs1, ht, hb⟩
  have HT := Lib.hid htab
  obtain ⟨s, hs⟩ : ∃ s, w1.heap.size = s := ⟨_, rfl⟩
  rw [hs] at hh ⊢
  clear htab hb1 hs1 hs ht hb
  go_loopw [7, 31] (fun _ iv wr => NewRel V B s t b w iv wr) (fun _ iv _ => 2 - (intOf iv).toNat)
  case atStart => exact ⟨0, _, by omega, rfl, hh⟩
  case round =>
    clear hh
    obtain ⟨j, v, hj, rfl, hh⟩ := hrel
    have c3 := cell_of_row wr s 3 _ _ _ hh.head
    have f3 := frozen_of_row wr s 3 _ _ hh.head
    have hslt := hh.lt
    simp at c3
    by_cases hlt : j < 2
    · have mx : Hid (j + 1 ≤ maxLen) := by show _ ≤ _; unfold maxLen; omega
      have mb : Hid ((j + 1) * 32 ≤ 140737488355328) := by show _ ≤ _; omega
      have NX := Lib.hid (fun w1 => @Half3.next V B s t b w wr w1 j v hh hlt)
      have GR := Lib.hid (fun w1 o => @Half3.grown V B s t b w wr w1 j v hh o)
      have ROW := Lib.hid hh.row
      have bs := Lib.hid hh.below.size
      go_wp2_with (at_builtin; refine wpList_append_lies _ rfl (.tmp 38) (.tmp 43) 63 rfl w.heap.size 72 i0 _ 4 32 Try.underlying63 HI.out HZ0.out HZ1.out HZ2.out rfl (by omega) v j (flatN (firstN V j)) rfl (ROW.out.alloc _) ⟨wr.heap.size, 0, none⟩ 1 1 [.int .i64 V, .int .i64 j, .int .i64 j, .int .i64 0] rfl rfl (World.news_of_block (cs := #[.int .i64 V, .int .i64 j, .int .i64 j, .int .i64 0]) (t := 72) (fr := (0, 0)) (heap_alloc_new wr _)) (news4_one _ _ _ _) (by omega) mx.out mb.out (by have := bs.out; simp; omega) (wr.heap.size + 1) (by simp) ?_; intro g cap w2 hown hgrow hat hlt2; obtain ⟨hd, htab2, hbel2, hgs, hgt, hgb⟩ := GR.out _ _ hgrow hat; have c32 := cell_of_row w2 s 3 _ _ _ hd; have f32 := frozen_of_row w2 s 3 _ _ hd; have HD := Lib.hid hd; have HO := Lib.hid hown; clear hgrow hat hd hown c3 f3)
      go_roundw
      case rel => exact ⟨j + 1, _, by omega, by go_num, NX.out _ HD.out htab2 hbel2 hgs hgt hgb HO.out⟩
      case measure => simp [intOf]; omega
    · obtain rfl : j = 2 := by omega
      obtain ⟨g, cap, hv, _, _⟩ := hh.row.form (by omega)
      subst hv
      have FS := Lib.hid (first_st HV.out HB.out HB2.out hh)
      have c6 := cell_of_row wr s 6 _ _ _ hh.head
      have f6 := frozen_of_row wr s 6 _ _ hh.head
      have H := Lib.hid (store_any (y := 2) c6 f6)
      clear c3 f3
      go_wp2_with fail
      refine H.out.mono ?_
      rintro e w2 ⟨rfl, hw2⟩
      have HW := Lib.hid hw2
      clear hw2
      go_wp2_with fail
      go_ret2
      refine ⟨⟨s, t, b, g, cap⟩, rfl, ?_⟩
      rw [HW.out]
      exact FS.out

set_option maxRecDepth 100000 in
theorem newst_no (v z : Int) (h : v < 0 ∨ 256 < v ∨ z < 2 ∨ 1048576 < z) (w : World) : Calls Try.prog 16 #[.int .i64 v, .int .i64 z] w fun e w' => e = .returned (.tuple #[.pointer none, .int .i64 1]) ∧ w = w' := by
  by_cases h0 : v < 0
  · clear h
    go_enter Try.func16, Try.ntmps16
    go_wp2_with fail
    go_ret2
    exact ⟨rfl, rfl⟩
  · by_cases h1 : 256 < v
    · clear h
      go_enter Try.func16, Try.ntmps16
      go_wp2_with fail
      go_ret2
      exact ⟨rfl, rfl⟩
    · by_cases h2 : z < 2
      · clear h
        go_enter Try.func16, Try.ntmps16
        go_wp2_with fail
        go_ret2
        exact ⟨rfl, rfl⟩
      · have h3 : 1048576 < z := by omega
        clear h
        go_enter Try.func16, Try.ntmps16
        go_wp2_with fail
        go_ret2
        exact ⟨rfl, rfl⟩
end Go.Proofs.Ytkmffmlnondolaa
