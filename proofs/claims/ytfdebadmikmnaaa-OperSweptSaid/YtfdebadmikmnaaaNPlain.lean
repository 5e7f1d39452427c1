/- Plain facts on nodes of decision diagrams: lists alone, no program. -/
import Derived.Test.YtfdebadmikmnaaaHPlain
namespace Go.Proofs.Ytfdebadmikmnaaa

/-- What stands at a number: what it asks (-1: no node stands there), low, high, its pins. -/
structure Nd where
  asks : Int
  low : Nat
  high : Nat
  pins : Nat

def Nd.gone : Nd := ⟨-1, 0, 0, 0⟩
def Nd.key (c : Nd) : Key := ⟨c.asks, c.low, c.high⟩

/-- Number k is a node: c. -/
def Is (cs : List Nd) (k : Nat) (c : Nd) : Prop := cs[k]? = some c ∧ c.asks ≠ -1

theorem Is.lt {cs : List Nd} {k : Nat} {c : Nd} (h : Is cs k c) : k < cs.length := (List.getElem?_eq_some_iff.1 h.1).1
theorem Is.same {cs : List Nd} {k : Nat} {c d : Nd} (h : Is cs k c) (h' : Is cs k d) : c = d := by
  have := h.1.symm.trans h'.1
  injection this

structure NGood (V : Nat) (cs : List Nd) : Prop where
  c0 : ∃ p, cs[0]? = some ⟨V, 0, 0, p⟩
  c1 : ∃ p, cs[1]? = some ⟨V, 1, 1, p⟩
  gone : ∀ (k : Nat) (c : Nd), cs[k]? = some c → c.asks = -1 → c = Nd.gone
  ok : ∀ k c, 2 ≤ k → Is cs k c → 0 ≤ c.asks ∧ c.asks < V ∧ c.low ≠ c.high
  lo : ∀ k c, 2 ≤ k → Is cs k c → ∃ l, Is cs c.low l ∧ c.asks < l.asks
  hi : ∀ k c, 2 ≤ k → Is cs k c → ∃ h, Is cs c.high h ∧ c.asks < h.asks
  uniq : ∀ k j c d, 2 ≤ k → 2 ≤ j → Is cs k c → Is cs j d → c.key = d.key → k = j
  pins : ∀ (k : Nat) (c : Nd), cs[k]? = some c → c.pins ≤ 1073741824

section
variable {V : Nat} {cs : List Nd}

theorem NGood.is0 (g : NGood V cs) : ∃ p, Is cs 0 ⟨V, 0, 0, p⟩ := by
  obtain ⟨p, h⟩ := g.c0; exact ⟨p, h, by show (V : Int) ≠ -1; omega⟩
theorem NGood.is1 (g : NGood V cs) : ∃ p, Is cs 1 ⟨V, 1, 1, p⟩ := by
  obtain ⟨p, h⟩ := g.c1; exact ⟨p, h, by show (V : Int) ≠ -1; omega⟩
theorem NGood.len (g : NGood V cs) : 2 ≤ cs.length := by
  obtain ⟨p, h⟩ := g.is1; have := h.lt; omega

theorem NGood.base (g : NGood V cs) {k : Nat} {c : Nd} (hk : k < 2) (h : Is cs k c) : c.asks = V ∧ c.low = k ∧ c.high = k := by
  have : k = 0 ∨ k = 1 := by omega
  rcases this with rfl | rfl
  · obtain ⟨p, h0⟩ := g.is0; obtain rfl := h.same h0; exact ⟨rfl, rfl, rfl⟩
  · obtain ⟨p, h0⟩ := g.is1; obtain rfl := h.same h0; exact ⟨rfl, rfl, rfl⟩

theorem NGood.range (g : NGood V cs) {k : Nat} {c : Nd} (h : Is cs k c) : 0 ≤ c.asks ∧ c.asks ≤ V := by
  by_cases hk : k < 2
  · have := (g.base hk h).1; omega
  · have := g.ok k c (by omega) h; omega

/-- How many variables are from what a node asks on. -/
def rk (V : Nat) (c : Nd) : Nat := (V - c.asks).toNat

theorem NGood.ind (g : NGood V cs) {P : Nat → Prop} (h0 : P 0) (h1 : P 1) (hs : ∀ k c, 2 ≤ k → Is cs k c → P c.low → P c.high → P k) : ∀ k c, Is cs k c → P k := by
  have aux : ∀ n k c, Is cs k c → rk V c ≤ n → P k := by
    intro n
    induction n with
    | zero =>
      intro k c h hr
      by_cases hk : k < 2
      · have : k = 0 ∨ k = 1 := by omega
        rcases this with rfl | rfl
        · exact h0
        · exact h1
      · have := g.ok k c (by omega) h
        unfold rk at hr; omega
    | succ n ih =>
      intro k c h hr
      by_cases hk : k < 2
      · have : k = 0 ∨ k = 1 := by omega
        rcases this with rfl | rfl
        · exact h0
        · exact h1
      · have := g.ok k c (by omega) h
        obtain ⟨l, hl, hl2⟩ := g.lo k c (by omega) h
        obtain ⟨m, hm, hm2⟩ := g.hi k c (by omega) h
        unfold rk at hr
        exact hs k c (by omega) h (ih _ l hl (by unfold rk; omega)) (ih _ m hm (by unfold rk; omega))
  intro k c h
  exact aux _ k c h (Nat.le_refl _)

/-- What a node says of values. -/
def says (cs : List Nd) (val : Nat → Bool) : Nat → Nat → Bool
  | 0, k => k == 1
  | n + 1, k => if k < 2 then k == 1 else says cs val n (match cs[k]? with | some c => if val c.asks.toNat then c.high else c.low | none => 0)

theorem says_stable (g : NGood V cs) (val : Nat → Bool) : ∀ n m k c, Is cs k c → rk V c ≤ n → rk V c ≤ m → says cs val n k = says cs val m k := by
  intro n
  induction n with
  | zero =>
    intro m k c h h1 h2
    have hk : k < 2 := by
      rcases Nat.lt_or_ge k 2 with hk | hk
      · exact hk
      · have := g.ok k c hk h; unfold rk at h1; omega
    cases m with
    | zero => rfl
    | succ m => simp [says, hk]
  | succ n ih =>
    intro m k c h h1 h2
    by_cases hk : k < 2
    · cases m with
      | zero => simp [says, hk]
      | succ m => simp [says, hk]
    · have ho := g.ok k c (by omega) h
      cases m with
      | zero => unfold rk at h2; omega
      | succ m =>
        obtain ⟨l, hl, hl2⟩ := g.lo k c (by omega) h
        obtain ⟨r, hr, hr2⟩ := g.hi k c (by omega) h
        unfold says
        rw [if_neg hk, if_neg hk]
        simp only [h.1]
        unfold rk at h1 h2
        by_cases hv : val c.asks.toNat
        · rw [if_pos hv]; exact ih m _ r hr (by unfold rk; omega) (by unfold rk; omega)
        · rw [if_neg hv]; exact ih m _ l hl (by unfold rk; omega) (by unfold rk; omega)

def Says (V : Nat) (cs : List Nd) (val : Nat → Bool) (k : Nat) : Bool := says cs val V k

theorem Says_zero (val : Nat → Bool) : Says V cs val 0 = false := by unfold Says; cases V <;> rfl
theorem Says_one (val : Nat → Bool) : Says V cs val 1 = true := by unfold Says; cases V <;> rfl

theorem Says_step (g : NGood V cs) (val : Nat → Bool) {k : Nat} {c : Nd} (hk : 2 ≤ k) (h : Is cs k c) : Says V cs val k = Says V cs val (if val c.asks.toNat then c.high else c.low) := by
  have ho := g.ok k c hk h
  obtain ⟨l, hl, hl2⟩ := g.lo k c (by omega) h
  obtain ⟨r, hr, hr2⟩ := g.hi k c (by omega) h
  unfold Says
  obtain ⟨n, rfl⟩ : ∃ n, V = n + 1 := ⟨V - 1, by omega⟩
  conv => lhs; unfold says
  rw [if_neg (by omega)]
  simp only [h.1]
  by_cases hv : val c.asks.toNat
  · rw [if_pos hv]; exact says_stable g val n (n + 1) _ r hr (by unfold rk; omega) (by unfold rk; omega)
  · rw [if_neg hv]; exact says_stable g val n (n + 1) _ l hl (by unfold rk; omega) (by unfold rk; omega)

theorem Says_agree (g : NGood V cs) {val val' : Nat → Bool} : ∀ k c, Is cs k c → (∀ c, Is cs k c → ∀ i : Nat, c.asks ≤ i → val i = val' i) → Says V cs val k = Says V cs val' k := by
  refine g.ind (P := fun k => (∀ c, Is cs k c → ∀ i : Nat, c.asks ≤ i → val i = val' i) → Says V cs val k = Says V cs val' k) ?_ ?_ ?_
  · intro _; rw [Says_zero, Says_zero]
  · intro _; rw [Says_one, Says_one]
  · intro k c hk h il ih ha
    have ho := g.ok k c hk h
    obtain ⟨l, hl, hl2⟩ := g.lo k c (by omega) h
    obtain ⟨r, hr, hr2⟩ := g.hi k c (by omega) h
    rw [Says_step g val hk h, Says_step g val' hk h, ← ha c h c.asks.toNat (by omega)]
    by_cases hv : val c.asks.toNat
    · rw [if_pos hv]; exact ih fun d hd i hi => by obtain rfl := hr.same hd; exact ha c h i (by omega)
    · rw [if_neg hv]; exact il fun d hd i hi => by obtain rfl := hl.same hd; exact ha c h i (by omega)

def upd (val : Nat → Bool) (a : Nat) (x : Bool) : Nat → Bool := fun i => if i = a then x else val i

theorem Says_upd (g : NGood V cs) {k : Nat} {c : Nd} (h : Is cs k c) (val : Nat → Bool) (a : Nat) (x : Bool) (ha : (a : Int) < c.asks) : Says V cs (upd val a x) k = Says V cs val k :=
  Says_agree g k c h fun d hd i hi => by
    obtain rfl := h.same hd
    unfold upd; rw [if_neg (by omega)]

theorem Says_low (g : NGood V cs) {k : Nat} {c : Nd} (hk : 2 ≤ k) (h : Is cs k c) (val : Nat → Bool) : Says V cs val c.low = Says V cs (upd val c.asks.toNat false) k := by
  have ho := g.ok k c hk h
  obtain ⟨l, hl, hl2⟩ := g.lo k c (by omega) h
  rw [Says_step g _ hk h]
  have : upd val c.asks.toNat false c.asks.toNat = false := by simp [upd]
  rw [this, if_neg (by simp), Says_upd g hl val _ _ (by omega)]
theorem Says_high (g : NGood V cs) {k : Nat} {c : Nd} (hk : 2 ≤ k) (h : Is cs k c) (val : Nat → Bool) : Says V cs val c.high = Says V cs (upd val c.asks.toNat true) k := by
  have ho := g.ok k c hk h
  obtain ⟨l, hl, hl2⟩ := g.hi k c (by omega) h
  rw [Says_step g _ hk h]
  have : upd val c.asks.toNat true c.asks.toNat = true := by simp [upd]
  rw [this, if_pos rfl, Says_upd g hl val _ _ (by omega)]

theorem canon_part (g : NGood V cs) {k j : Nat} {c d : Nd} (hk : Is cs k c) (hj : Is cs j d) (hlt : c.asks < d.asks) (he : ∀ val, Says V cs val k = Says V cs val j)
    (ih : ∀ k' j' c' d', Is cs k' c' → Is cs j' d' → rk V c' < rk V c → rk V d' < rk V c → (∀ val, Says V cs val k' = Says V cs val j') → k' = j') : False := by
  have hr := g.range hj
  have hk2 : 2 ≤ k := by
    rcases Nat.lt_or_ge k 2 with h | h
    · have := (g.base h hk).1; omega
    · exact h
  have ho := g.ok k c hk2 hk
  obtain ⟨l, hl, hl2⟩ := g.lo k c (by omega) hk
  obtain ⟨r, hr, hr2⟩ := g.hi k c (by omega) hk
  have e1 : c.low = j := ih _ _ l d hl hj (by unfold rk; omega) (by unfold rk; omega) fun val => by
    rw [Says_low g hk2 hk, he, Says_upd g hj _ _ _ (by omega)]
  have e2 : c.high = j := ih _ _ r d hr hj (by unfold rk; omega) (by unfold rk; omega) fun val => by
    rw [Says_high g hk2 hk, he, Says_upd g hj _ _ _ (by omega)]
  exact ho.2.2 (e1.trans e2.symm)

/-- WHAT SAYS THE SAME IS ONE NODE. -/
theorem canon (g : NGood V cs) {k j : Nat} {c d : Nd} (hk : Is cs k c) (hj : Is cs j d) (he : ∀ val, Says V cs val k = Says V cs val j) : k = j := by
  have aux : ∀ n k j c d, Is cs k c → Is cs j d → rk V c ≤ n → rk V d ≤ n → (∀ val, Says V cs val k = Says V cs val j) → k = j := by
    intro n
    induction n with
    | zero =>
      intro k j c d hk hj h1 h2 he
      have lt : ∀ k c, Is cs k c → rk V c ≤ 0 → k < 2 := fun k c hk h1 => by
        rcases Nat.lt_or_ge k 2 with h | h
        · exact h
        · have := g.ok k c h hk; unfold rk at h1; omega
      have a := lt k c hk h1
      have b := lt j d hj h2
      have e := he fun _ => false
      have : k = 0 ∨ k = 1 := by omega
      have : j = 0 ∨ j = 1 := by omega
      rcases ‹k = 0 ∨ k = 1› with rfl | rfl <;> rcases ‹j = 0 ∨ j = 1› with rfl | rfl
      · rfl
      · rw [Says_zero, Says_one] at e; cases e
      · rw [Says_zero, Says_one] at e; cases e
      · rfl
    | succ n ih =>
      intro k j c d hk hj h1 h2 he
      rcases Int.lt_trichotomy c.asks d.asks with h | h | h
      · exact (canon_part g hk hj h he fun k' j' c' d' a b r1 r2 e => ih k' j' c' d' a b (by omega) (by omega) e).elim
      · by_cases hk2 : k < 2
        · have b1 := g.base hk2 hk
          have hj2 : j < 2 := by
            rcases Nat.lt_or_ge j 2 with h' | h'
            · exact h'
            · have := g.ok j d h' hj; omega
          have e := he fun _ => false
          have : k = 0 ∨ k = 1 := by omega
          have : j = 0 ∨ j = 1 := by omega
          rcases ‹k = 0 ∨ k = 1› with rfl | rfl <;> rcases ‹j = 0 ∨ j = 1› with rfl | rfl
          · rfl
          · rw [Says_zero, Says_one] at e; cases e
          · rw [Says_zero, Says_one] at e; cases e
          · rfl
        · have hj2 : ¬ j < 2 := fun h' => by
            have := g.base h' hj; have := g.ok k c (by omega) hk; omega
          have ho := g.ok k c (by omega) hk
          obtain ⟨l, hl, hl2⟩ := g.lo k c (by omega) hk
          obtain ⟨r, hr, hr2⟩ := g.hi k c (by omega) hk
          obtain ⟨l', hl', hl2'⟩ := g.lo j d (by omega) hj
          obtain ⟨r', hr', hr2'⟩ := g.hi j d (by omega) hj
          unfold rk at h1 h2
          have e1 : c.low = d.low := ih _ _ l l' hl hl' (by unfold rk; omega) (by unfold rk; omega) fun val => by
            rw [Says_low g (by omega) hk, Says_low g (by omega) hj, he, h]
          have e2 : c.high = d.high := ih _ _ r r' hr hr' (by unfold rk; omega) (by unfold rk; omega) fun val => by
            rw [Says_high g (by omega) hk, Says_high g (by omega) hj, he, h]
          exact g.uniq k j c d (by omega) (by omega) hk hj (by unfold Nd.key; rw [h, e1, e2])
      · exact (canon_part g hj hk h (fun val => (he val).symm) fun k' j' c' d' a b r1 r2 e => ih k' j' c' d' a b (by omega) (by omega) e).elim
  exact aux (rk V c + rk V d) k j c d hk hj (by omega) (by omega) he

/-- Of numbers in M, nodes are what they were, but for pins. -/
def Keep (M : Nat → Prop) (cs cs' : List Nd) : Prop := ∀ k c, M k → Is cs k c → ∃ p, Is cs' k ⟨c.asks, c.low, c.high, p⟩
def Closed (M : Nat → Prop) (cs : List Nd) : Prop := ∀ k c, M k → 2 ≤ k → Is cs k c → M c.low ∧ M c.high

theorem Says_keep {cs' : List Nd} {M : Nat → Prop} (g : NGood V cs) (g' : NGood V cs') (hK : Keep M cs cs') (hM : Closed M cs) (val : Nat → Bool) : ∀ k c, Is cs k c → M k → Says V cs' val k = Says V cs val k := by
  refine g.ind (P := fun k => M k → Says V cs' val k = Says V cs val k) ?_ ?_ ?_
  · intro _; rw [Says_zero, Says_zero]
  · intro _; rw [Says_one, Says_one]
  · intro k c hk h il ih hm
    obtain ⟨p, hp⟩ := hK k c hm h
    obtain ⟨m1, m2⟩ := hM k c hm hk h
    rw [Says_step g val hk h, Says_step g' val hk hp]
    show Says V cs' val (if val c.asks.toNat then c.high else c.low) = _
    by_cases hv : val c.asks.toNat
    · rw [if_pos hv]; exact ih m2
    · rw [if_neg hv]; exact il m1
end

/-- A store grows: all nodes stay. -/
def Grow (cs cs' : List Nd) : Prop := Keep (fun _ => True) cs cs'
theorem Grow.refl (cs : List Nd) : Grow cs cs := fun _ c _ h => ⟨c.pins, h⟩
theorem Grow.trans {a b c : List Nd} (h : Grow a b) (k : Grow b c) : Grow a c := fun i d _ hi => by
  obtain ⟨p, hp⟩ := h i d trivial hi
  obtain ⟨q, hq⟩ := k i _ trivial hp
  exact ⟨q, hq⟩
theorem Grow.says {V : Nat} {cs cs' : List Nd} (h : Grow cs cs') (g : NGood V cs) (g' : NGood V cs') (val : Nat → Bool) {k : Nat} {c : Nd} (hk : Is cs k c) : Says V cs' val k = Says V cs val k :=
  Says_keep g g' h (fun _ _ _ _ _ => ⟨trivial, trivial⟩) val k c hk trivial

/-- How many nodes there are. -/
def cnt (cs : List Nd) : Nat := cs.countP fun c => decide (c.asks ≠ -1)

theorem ncount_set (g : Nd → Bool) (ps : List Nd) (x : Nat) (p q : Nd) (hx : ps[x]? = some q) : (ps.set x p).countP g + (if g q then 1 else 0) = ps.countP g + (if g p then 1 else 0) := by
  induction ps generalizing x with
  | nil => simp at hx
  | cons a r ih =>
    cases x with
    | zero =>
      simp at hx; subst hx
      simp only [List.set_cons_zero, List.countP_cons]; omega
    | succ x =>
      simp at hx
      have := ih x hx
      simp only [List.set_cons_succ, List.countP_cons]; omega

theorem nget_set (ps : List Nd) (x i : Nat) (p : Nd) (hx : x < ps.length) : (ps.set x p)[i]? = if x = i then some p else ps[i]? := by
  rw [List.getElem?_set]
  by_cases h : x = i
  · subst h; rw [if_pos rfl, if_pos hx, if_pos rfl]
  · rw [if_neg h, if_neg h]

/-- A node at the least free number. -/
def addAt (cs : List Nd) (k : Nat) (c : Nd) : List Nd := if k = cs.length then cs ++ [c] else cs.set k c

theorem addAt_get (cs : List Nd) (k : Nat) (c : Nd) (hk : k ≤ cs.length) (i : Nat) : (addAt cs k c)[i]? = if k = i then some c else cs[i]? := by
  unfold addAt
  by_cases h : k = cs.length
  · rw [if_pos h]
    by_cases hi : i < cs.length
    · rw [List.getElem?_append_left hi, if_neg (by omega)]
    · rw [List.getElem?_append_right (by omega)]
      by_cases e : k = i
      · rw [if_pos e, show i - cs.length = 0 by omega]; rfl
      · rw [if_neg e, List.getElem?_eq_none (by simp; omega), List.getElem?_eq_none (by omega)]
  · rw [if_neg h, nget_set _ _ _ _ (by omega)]

/-- Number k is free. -/
def Free (cs : List Nd) (k : Nat) : Prop := k ≤ cs.length ∧ ∀ c, cs[k]? = some c → c.asks = -1

theorem addAt_is {cs : List Nd} {k : Nat} {c : Nd} (hf : Free cs k) {i : Nat} {d : Nd} (h : Is cs i d) : Is (addAt cs k c) i d := by
  refine ⟨?_, h.2⟩
  rw [addAt_get cs k c hf.1]
  by_cases e : k = i
  · subst e; exact absurd (hf.2 d h.1) h.2
  · rw [if_neg e]; exact h.1

theorem addAt_cnt {cs : List Nd} {k : Nat} {c : Nd} (hf : Free cs k) (hc : c.asks ≠ -1) : cnt (addAt cs k c) = cnt cs + 1 := by
  unfold cnt addAt
  by_cases h : k = cs.length
  · rw [if_pos h, List.countP_append]; simp [hc]
  · rw [if_neg h]
    have hl : k < cs.length := by have := hf.1; omega
    have hg : cs[k]? = some cs[k] := List.getElem?_eq_getElem hl
    have := ncount_set (fun c => decide (c.asks ≠ -1)) cs k c cs[k] hg
    have h1 := hf.2 _ hg
    simp only [h1] at this
    simpa [hc] using this

theorem NGood.add {V : Nat} {cs : List Nd} (g : NGood V cs) {k : Nat} (hk : 2 ≤ k) (hf : Free cs k) {v : Int} {a b : Nat} (h0 : 0 ≤ v) (h1 : v < V) (hab : a ≠ b) (hl : ∃ l, Is cs a l ∧ v < l.asks) (hh : ∃ h, Is cs b h ∧ v < h.asks)
    (hn : ∀ j d, 2 ≤ j → Is cs j d → d.key ≠ ⟨v, a, b⟩) : NGood V (addAt cs k ⟨v, a, b, 0⟩) := by
  have get := addAt_get cs k ⟨v, a, b, 0⟩ hf.1
  have split : ∀ i d, Is (addAt cs k ⟨v, a, b, 0⟩) i d → (i = k ∧ d = ⟨v, a, b, 0⟩) ∨ Is cs i d := by
    intro i d h
    have h1 := h.1
    rw [get] at h1
    by_cases e : k = i
    · rw [if_pos e] at h1; injection h1 with h1; exact .inl ⟨e.symm, h1.symm⟩
    · rw [if_neg e] at h1; exact .inr ⟨h1, h.2⟩
  refine ⟨?_, ?_, ?_, ?_, ?_, ?_, ?_, ?_⟩
  · obtain ⟨p, h⟩ := g.is0; exact ⟨p, (addAt_is hf h).1⟩
  · obtain ⟨p, h⟩ := g.is1; exact ⟨p, (addAt_is hf h).1⟩
  · intro i c h e
    rw [get] at h
    by_cases e2 : k = i
    · rw [if_pos e2] at h; injection h with h; subst h; simp only at e; omega
    · rw [if_neg e2] at h; exact g.gone i c h e
  · intro i c hi h
    rcases split i c h with ⟨rfl, rfl⟩ | h
    · exact ⟨h0, h1, hab⟩
    · exact g.ok i c hi h
  · intro i c hi h
    rcases split i c h with ⟨rfl, rfl⟩ | h
    · obtain ⟨l, hl, hv⟩ := hl; exact ⟨l, addAt_is hf hl, hv⟩
    · obtain ⟨l, hl, hv⟩ := g.lo i c hi h; exact ⟨l, addAt_is hf hl, hv⟩
  · intro i c hi h
    rcases split i c h with ⟨rfl, rfl⟩ | h
    · obtain ⟨l, hl, hv⟩ := hh; exact ⟨l, addAt_is hf hl, hv⟩
    · obtain ⟨l, hl, hv⟩ := g.hi i c hi h; exact ⟨l, addAt_is hf hl, hv⟩
  · intro i j c d hi hj h h' e
    rcases split i c h with ⟨rfl, rfl⟩ | h2
    · rcases split j d h' with ⟨rfl, rfl⟩ | h3
      · rfl
      · exact absurd e.symm (hn j d hj h3)
    · rcases split j d h' with ⟨rfl, rfl⟩ | h3
      · exact absurd e (hn i c hi h2)
      · exact g.uniq i j c d hi hj h2 h3 e
  · intro i c h
    rw [get] at h
    by_cases e2 : k = i
    · rw [if_pos e2] at h; injection h with h; subst h; show 0 ≤ _; omega
    · rw [if_neg e2] at h; exact g.pins i c h

theorem Grow.add {cs : List Nd} {k : Nat} {c : Nd} (hf : Free cs k) : Grow cs (addAt cs k c) := fun _ d _ h => ⟨d.pins, addAt_is hf h⟩

/-- The table's keys: f finds nodes; n are there beside 0 and 1. -/
structure Keys (cs : List Nd) (f : Key → Option Int) (n : Nat) : Prop where
  says : ∀ (q : Key) (v : Int), f q = some v ↔ ∃ (k : Nat) (c : Nd), 2 ≤ k ∧ v = (k : Int) ∧ Is cs k c ∧ q = c.key
  count : n + 2 = cnt cs

theorem Keys.none {cs : List Nd} {f : Key → Option Int} {n : Nat} (h : Keys cs f n) {q : Key} (hq : f q = none) : ∀ j d, 2 ≤ j → Is cs j d → d.key ≠ q := by
  intro j d hj hd e
  have := (h.says q j).2 ⟨j, d, hj, rfl, hd, e.symm⟩
  rw [hq] at this; cases this

theorem Keys.add {cs : List Nd} {f : Key → Option Int} {n : Nat} (h : Keys cs f n) {k : Nat} (hk : 2 ≤ k) (hf : Free cs k) {c : Nd} (hc : c.asks ≠ -1) (hn : f c.key = .none) : Keys (addAt cs k c) (fset f c.key (some (k : Int))) (n + 1) := by
  refine ⟨fun q v => ?_, by rw [addAt_cnt hf hc, ← h.count]⟩
  have get := addAt_get cs k c hf.1
  unfold fset
  by_cases e : q = c.key
  · subst e
    rw [if_pos rfl]
    constructor
    · intro e; injection e with e
      exact ⟨k, c, hk, e.symm, ⟨by rw [get, if_pos rfl], hc⟩, rfl⟩
    · rintro ⟨j, d, hj, rfl, hd, he⟩
      by_cases e : k = j
      · rw [e]
      · have h1 := hd.1
        rw [get, if_neg e] at h1
        exact absurd he.symm (h.none hn j d hj ⟨h1, hd.2⟩)
  · rw [if_neg e, h.says]
    constructor
    · rintro ⟨j, d, hj, rfl, hd, he⟩; exact ⟨j, d, hj, rfl, addAt_is hf hd, he⟩
    · rintro ⟨j, d, hj, rfl, hd, he⟩
      have h1 := hd.1
      rw [get] at h1
      by_cases e2 : k = j
      · rw [if_pos e2] at h1; injection h1 with h1; subst h1; exact absurd he e
      · rw [if_neg e2] at h1; exact ⟨j, d, hj, rfl, ⟨h1, hd.2⟩, he⟩

/-- Pins alone turn. -/
theorem NGood.pin {V : Nat} {cs : List Nd} (g : NGood V cs) {k : Nat} {c : Nd} (h : Is cs k c) {p : Nat} (hp : p ≤ 1073741824) : NGood V (cs.set k ⟨c.asks, c.low, c.high, p⟩) := by
  have get := fun i => nget_set cs k i ⟨c.asks, c.low, c.high, p⟩ h.lt
  have fwd : ∀ i d, Is cs i d → ∃ q, Is (cs.set k ⟨c.asks, c.low, c.high, p⟩) i ⟨d.asks, d.low, d.high, q⟩ := by
    intro i d hd
    by_cases e : k = i
    · subst e
      obtain rfl := h.same hd
      exact ⟨p, by rw [get, if_pos rfl], hd.2⟩
    · exact ⟨d.pins, by rw [get, if_neg e]; exact hd.1, hd.2⟩
  have bwd : ∀ i d, Is (cs.set k ⟨c.asks, c.low, c.high, p⟩) i d → ∃ q, Is cs i ⟨d.asks, d.low, d.high, q⟩ := by
    intro i d hd
    have h1 := hd.1
    rw [get] at h1
    by_cases e : k = i
    · subst e
      rw [if_pos rfl] at h1; injection h1 with h1; subst h1
      exact ⟨c.pins, h⟩
    · rw [if_neg e] at h1; exact ⟨d.pins, h1, hd.2⟩
  refine ⟨?_, ?_, ?_, ?_, ?_, ?_, ?_, ?_⟩
  · obtain ⟨q, h⟩ := g.is0; obtain ⟨q', h'⟩ := fwd _ _ h; exact ⟨q', h'.1⟩
  · obtain ⟨q, h⟩ := g.is1; obtain ⟨q', h'⟩ := fwd _ _ h; exact ⟨q', h'.1⟩
  · intro i d h1 e
    rw [get] at h1
    by_cases e2 : k = i
    · rw [if_pos e2] at h1; injection h1 with h1; subst h1; exact absurd e h.2
    · rw [if_neg e2] at h1; exact g.gone i d h1 e
  · intro i d hi hd; obtain ⟨q, hq⟩ := bwd i d hd; have := g.ok i _ hi hq; exact this
  · intro i d hi hd
    obtain ⟨q, hq⟩ := bwd i d hd
    obtain ⟨l, hl, hv⟩ := g.lo i _ hi hq
    obtain ⟨q', h'⟩ := fwd _ _ hl
    exact ⟨_, h', hv⟩
  · intro i d hi hd
    obtain ⟨q, hq⟩ := bwd i d hd
    obtain ⟨l, hl, hv⟩ := g.hi i _ hi hq
    obtain ⟨q', h'⟩ := fwd _ _ hl
    exact ⟨_, h', hv⟩
  · intro i j d d' hi hj hd hd' e
    obtain ⟨q, hq⟩ := bwd i d hd
    obtain ⟨q', hq'⟩ := bwd j d' hd'
    have := g.uniq i j _ _ hi hj hq hq' e
    exact this
  · intro i d h1
    rw [get] at h1
    by_cases e2 : k = i
    · rw [if_pos e2] at h1; injection h1 with h1; subst h1; exact hp
    · rw [if_neg e2] at h1; exact g.pins i d h1

theorem Grow.pin {cs : List Nd} {k : Nat} {c : Nd} (h : Is cs k c) (p : Nat) : Grow cs (cs.set k ⟨c.asks, c.low, c.high, p⟩) := by
  have get := fun i => nget_set cs k i ⟨c.asks, c.low, c.high, p⟩ h.lt
  intro i d _ hd
  by_cases e : k = i
  · subst e
    obtain rfl := h.same hd
    exact ⟨p, by rw [get, if_pos rfl], hd.2⟩
  · exact ⟨d.pins, by rw [get, if_neg e]; exact hd.1, hd.2⟩

theorem cnt_pin {cs : List Nd} {k : Nat} {c : Nd} (h : Is cs k c) (p : Nat) : cnt (cs.set k ⟨c.asks, c.low, c.high, p⟩) = cnt cs := by
  unfold cnt
  have := ncount_set (fun c => decide (c.asks ≠ -1)) cs k ⟨c.asks, c.low, c.high, p⟩ c h.1
  simpa using this

theorem Keys.pin {cs : List Nd} {f : Key → Option Int} {n : Nat} (hk : Keys cs f n) {k : Nat} {c : Nd} (h : Is cs k c) (p : Nat) : Keys (cs.set k ⟨c.asks, c.low, c.high, p⟩) f n := by
  refine ⟨fun q v => ?_, by rw [cnt_pin h]; exact hk.count⟩
  have get := fun i => nget_set cs k i ⟨c.asks, c.low, c.high, p⟩ h.lt
  rw [hk.says]
  constructor
  · rintro ⟨j, d, hj, rfl, hd, rfl⟩
    obtain ⟨q, hq⟩ := Grow.pin h p j d trivial hd
    exact ⟨j, _, hj, rfl, hq, rfl⟩
  · rintro ⟨j, d, hj, rfl, hd, rfl⟩
    have h1 := hd.1
    rw [get] at h1
    by_cases e : k = j
    · subst e; rw [if_pos rfl] at h1; injection h1 with h1; subst h1; exact ⟨_, c, hj, rfl, h, rfl⟩
    · rw [if_neg e] at h1; exact ⟨j, d, hj, rfl, ⟨h1, hd.2⟩, rfl⟩
end Go.Proofs.Ytfdebadmikmnaaa
