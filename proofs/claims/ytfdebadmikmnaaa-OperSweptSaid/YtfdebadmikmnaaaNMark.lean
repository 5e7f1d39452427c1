/- Plain facts on what a node is of, and on sweeping: lists alone, no program. -/
import Derived.Test.YtfdebadmikmnaaaNPlain
namespace Go.Proofs.Ytfdebadmikmnaaa

/-- What node k is of. -/
inductive Reach (cs : List Nd) : Nat → Nat → Prop
  | here (k : Nat) : Reach cs k k
  | low {k x : Nat} {c : Nd} : 2 ≤ k → Is cs k c → Reach cs c.low x → Reach cs k x
  | high {k x : Nat} {c : Nd} : 2 ≤ k → Is cs k c → Reach cs c.high x → Reach cs k x

/-- Marks with those of node k. -/
def mark (cs : List Nd) : Nat → List Nat → Nat → List Nat
  | 0, m, _ => m
  | n + 1, m, k => if k ∈ m then m else match cs[k]? with
    | some c => mark cs n (mark cs n (k :: m) c.low) c.high
    | none => m

/-- Of marked nodes that ask a or later ones, low and high are marked. -/
def ClosedAt (cs : List Nd) (m : List Nat) (a : Int) : Prop := ∀ x c, x ∈ m → 2 ≤ x → Is cs x c → a ≤ c.asks → c.low ∈ m ∧ c.high ∈ m

theorem ClosedAt.mono {cs : List Nd} {m : List Nat} {a b : Int} (h : ClosedAt cs m a) (hab : a ≤ b) : ClosedAt cs m b := fun x c hx h2 hc hb => h x c hx h2 hc (by omega)

theorem closed_reach {V : Nat} {cs : List Nd} (g : NGood V cs) {m : List Nat} {k x : Nat} (hr : Reach cs k x) : ∀ c, Is cs k c → ClosedAt cs m c.asks → k ∈ m → x ∈ m := by
  induction hr with
  | here k => intro c _ _ h; exact h
  | low hk hc _ ih =>
    intro d hd hcl hm
    obtain rfl := hc.same hd
    obtain ⟨l, hl, hl2⟩ := g.lo _ _ hk hc
    exact ih l hl (hcl.mono (by omega)) (hcl _ _ hm hk hc (Int.le_refl _)).1
  | high hk hc _ ih =>
    intro d hd hcl hm
    obtain rfl := hc.same hd
    obtain ⟨l, hl, hl2⟩ := g.hi _ _ hk hc
    exact ih l hl (hcl.mono (by omega)) (hcl _ _ hm hk hc (Int.le_refl _)).2

structure Marked (cs : List Nd) (m : List Nat) (k : Nat) (m' : List Nat) : Prop where
  nodup : m.Nodup → m'.Nodup
  mem : ∀ x, x ∈ m' ↔ x ∈ m ∨ Reach cs k x
  closed : ∀ a c, Is cs k c → a ≤ c.asks → ClosedAt cs m a → ClosedAt cs m' a
  nodes : (∀ x ∈ m, ∃ c, Is cs x c) → ∀ x ∈ m', ∃ c, Is cs x c

theorem mark_spec {V : Nat} {cs : List Nd} (g : NGood V cs) : ∀ n k c m, Is cs k c → rk V c + 1 ≤ n → ClosedAt cs m c.asks → Marked cs m k (mark cs n m k) := by
  intro n
  induction n with
  | zero => intro k c m _ h; omega
  | succ n ih =>
    intro k c m hc hn hcl
    by_cases hk : k ∈ m
    · have e : mark cs (n + 1) m k = m := by unfold mark; rw [if_pos hk]
      rw [e]
      exact ⟨fun h => h, fun x => ⟨.inl, fun h => h.elim id fun hr => closed_reach g hr c hc hcl hk⟩, fun a _ _ _ h => h, fun h => h⟩
    · have e : mark cs (n + 1) m k = mark cs n (mark cs n (k :: m) c.low) c.high := by
        conv => lhs; unfold mark
        rw [if_neg hk]; simp only [hc.1]
      rw [e]
      by_cases hb : k < 2
      · obtain ⟨e0, e1, e2⟩ := g.base hb hc
        rw [e1, e2]
        have in1 : ∀ n, mark cs n (k :: m) k = k :: m := by
          intro n; cases n with
          | zero => rfl
          | succ n => unfold mark; rw [if_pos (by simp)]
        rw [in1, in1]
        have hr : ∀ x, Reach cs k x → x = k := by
          intro x hr
          cases hr with
          | here => rfl
          | low h => omega
          | high h => omega
        refine ⟨fun h => List.nodup_cons.2 ⟨hk, h⟩, fun x => ?_, ?_, ?_⟩
        · rw [List.mem_cons]
          constructor
          · rintro (rfl | h)
            · exact .inr (.here _)
            · exact .inl h
          · rintro (h | h)
            · exact .inr h
            · exact .inl (hr x h)
        · intro a d hd ha hcl2 x y hx h2 hy hay
          rcases List.mem_cons.1 hx with rfl | hx
          · omega
          · have := hcl2 x y hx h2 hy hay
            exact ⟨List.mem_cons_of_mem _ this.1, List.mem_cons_of_mem _ this.2⟩
        · intro hm x hx
          rcases List.mem_cons.1 hx with rfl | hx
          · exact ⟨c, hc⟩
          · exact hm x hx
      · have ho := g.ok k c (by omega) hc
        obtain ⟨l, hl, hl2⟩ := g.lo k c (by omega) hc
        obtain ⟨r, hr, hr2⟩ := g.hi k c (by omega) hc
        have hcl1 : ClosedAt cs (k :: m) (c.asks + 1) := by
          intro x y hx h2 hy hay
          rcases List.mem_cons.1 hx with rfl | hx
          · obtain rfl := hc.same hy; omega
          · have := hcl x y hx h2 hy (by omega)
            exact ⟨List.mem_cons_of_mem _ this.1, List.mem_cons_of_mem _ this.2⟩
        unfold rk at hn
        have M1 := ih c.low l (k :: m) hl (by unfold rk; omega) (hcl1.mono (by omega))
        have hcl2 := M1.closed (c.asks + 1) l hl (by omega) hcl1
        have M2 := ih c.high r _ hr (by unfold rk; omega) (hcl2.mono (by omega))
        have hcl3 := M2.closed (c.asks + 1) r hr (by omega) hcl2
        have hin : ∀ x, x ∈ k :: m → x ∈ mark cs n (mark cs n (k :: m) c.low) c.high := fun x hx => (M2.mem x).2 (.inl ((M1.mem x).2 (.inl hx)))
        refine ⟨fun h => M2.nodup (M1.nodup (List.nodup_cons.2 ⟨hk, h⟩)), fun x => ?_, ?_, ?_⟩
        · rw [M2.mem, M1.mem, List.mem_cons]
          constructor
          · rintro (((rfl | h) | h) | h)
            · exact .inr (.here _)
            · exact .inl h
            · exact .inr (.low (by omega) hc h)
            · exact .inr (.high (by omega) hc h)
          · rintro (h | h)
            · exact .inl (.inl (.inr h))
            · cases h with
              | here => exact .inl (.inl (.inl rfl))
              | low _ hd h => obtain rfl := hc.same hd; exact .inl (.inr h)
              | high _ hd h => obtain rfl := hc.same hd; exact .inr h
        · intro a d hd ha hcla x y hx h2 hy hay
          obtain rfl := hc.same hd
          by_cases hge : c.asks + 1 ≤ y.asks
          · exact hcl3 x y hx h2 hy hge
          · rcases (M2.mem x).1 hx with h | h
            · rcases (M1.mem x).1 h with h | h
              · rcases List.mem_cons.1 h with rfl | h
                · obtain rfl := hc.same hy
                  exact ⟨(M2.mem _).2 (.inl ((M1.mem _).2 (.inr (.here _)))), (M2.mem _).2 (.inr (.here _))⟩
                · have := hcla x y h h2 hy hay
                  exact ⟨hin _ (List.mem_cons_of_mem _ this.1), hin _ (List.mem_cons_of_mem _ this.2)⟩
              · exact absurd (reach_asks g h l hl y hy) (by omega)
            · exact absurd (reach_asks g h r hr y hy) (by omega)
        · intro hm
          refine M2.nodes (M1.nodes ?_)
          intro x hx
          rcases List.mem_cons.1 hx with rfl | hx
          · exact ⟨c, hc⟩
          · exact hm x hx
where
  reach_asks {V : Nat} {cs : List Nd} (g : NGood V cs) {k x : Nat} (hr : Reach cs k x) : ∀ c, Is cs k c → ∀ d, Is cs x d → c.asks ≤ d.asks := by
    induction hr with
    | here k => intro c hc d hd; obtain rfl := hc.same hd; omega
    | low hk hc _ ih =>
      intro d hd e he
      obtain rfl := hc.same hd
      obtain ⟨l, hl, hl2⟩ := g.lo _ _ hk hc
      have := ih l hl e he; omega
    | high hk hc _ ih =>
      intro d hd e he
      obtain rfl := hc.same hd
      obtain ⟨l, hl, hl2⟩ := g.hi _ _ hk hc
      have := ih l hl e he; omega

/-- All that a node is of. -/
def allOf (V : Nat) (cs : List Nd) (k : Nat) : List Nat := mark cs (V + 1) [] k

theorem closed_nil (cs : List Nd) (a : Int) : ClosedAt cs [] a := fun x _ hx => by cases hx

theorem rk_le {V : Nat} {cs : List Nd} (g : NGood V cs) {k : Nat} {c : Nd} (h : Is cs k c) : rk V c + 1 ≤ V + 1 := by
  have := g.range h; unfold rk; omega

theorem allOf_spec {V : Nat} {cs : List Nd} (g : NGood V cs) {k : Nat} {c : Nd} (h : Is cs k c) : Marked cs [] k (allOf V cs k) := mark_spec g _ k c [] h (rk_le g h) (closed_nil _ _)

/-- Marks of what stays. -/
def roots (V : Nat) (cs : List Nd) : Nat → List Nat
  | 0 => []
  | i + 1 => if i < 2 ∨ (∃ c, cs[i]? = some c ∧ 0 < c.pins) then mark cs (V + 1) (roots V cs i) i else roots V cs i

instance (cs : List Nd) (i : Nat) : Decidable (∃ c, cs[i]? = some c ∧ 0 < c.pins) :=
  match h : cs[i]? with
  | some c => if h2 : 0 < c.pins then isTrue ⟨c, rfl, h2⟩ else isFalse fun ⟨d, e, h3⟩ => h2 (by injection e with e; rw [e]; exact h3)
  | none => isFalse fun ⟨_, e, _⟩ => by cases e

/-- A node that stays by itself: 0, 1, or one with a pin. -/
def Root (cs : List Nd) (i : Nat) : Prop := i < 2 ∨ ∃ c, cs[i]? = some c ∧ 0 < c.pins

theorem root_is {V : Nat} {cs : List Nd} (g : NGood V cs) {i : Nat} (h : Root cs i) : ∃ c, Is cs i c := by
  rcases h with h | ⟨c, hc, hp⟩
  · have : i = 0 ∨ i = 1 := by omega
    rcases this with rfl | rfl
    · obtain ⟨p, h⟩ := g.is0; exact ⟨_, h⟩
    · obtain ⟨p, h⟩ := g.is1; exact ⟨_, h⟩
  · refine ⟨c, hc, fun e => ?_⟩
    have := g.gone i c hc e
    rw [this] at hp
    exact absurd hp (by simp [Nd.gone])

structure Roots (cs : List Nd) (n : Nat) (m : List Nat) : Prop where
  nodup : m.Nodup
  mem : ∀ x, x ∈ m ↔ ∃ i, i < n ∧ Root cs i ∧ Reach cs i x
  closed : ∀ x c, x ∈ m → 2 ≤ x → Is cs x c → c.low ∈ m ∧ c.high ∈ m
  nodes : ∀ x ∈ m, ∃ c, Is cs x c

theorem roots_spec {V : Nat} {cs : List Nd} (g : NGood V cs) : ∀ n, Roots cs n (roots V cs n) := by
  intro n
  induction n with
  | zero => exact ⟨List.nodup_nil, fun x => ⟨fun h => (by cases h), fun ⟨i, hi, _⟩ => absurd hi (by omega)⟩, fun x _ h => (by cases h), fun x h => (by cases h)⟩
  | succ n ih =>
    unfold roots
    by_cases h : n < 2 ∨ (∃ c, cs[n]? = some c ∧ 0 < c.pins)
    · rw [if_pos h]
      obtain ⟨c, hc⟩ := root_is g h
      have hcl : ∀ a, ClosedAt cs (roots V cs n) a := fun a x d hx h2 hd _ => ih.closed x d hx h2 hd
      have M := mark_spec g (V + 1) n c (roots V cs n) hc (rk_le g hc) (hcl _)
      refine ⟨M.nodup ih.nodup, fun x => ?_, ?_, M.nodes ih.nodes⟩
      · rw [M.mem, ih.mem]
        constructor
        · rintro (⟨i, hi, hr, hx⟩ | hx)
          · exact ⟨i, by omega, hr, hx⟩
          · exact ⟨n, by omega, h, hx⟩
        · rintro ⟨i, hi, hr, hx⟩
          by_cases e : i = n
          · subst e; exact .inr hx
          · exact .inl ⟨i, by omega, hr, hx⟩
      · intro x d hx h2 hd
        have := M.closed (-1) c hc (by have := g.range hc; omega) (hcl _)
        exact this x d hx h2 hd (by have := g.range hd; omega)
    · rw [if_neg h]
      refine ⟨ih.nodup, fun x => ?_, ih.closed, ih.nodes⟩
      rw [ih.mem]
      constructor
      · rintro ⟨i, hi, hr, hx⟩; exact ⟨i, by omega, hr, hx⟩
      · rintro ⟨i, hi, hr, hx⟩
        by_cases e : i = n
        · subst e; exact absurd hr h
        · exact ⟨i, by omega, hr, hx⟩

/-- The first i places without what is not marked; how many nodes these were; behind the last marked one. -/
def sweepTo (m : List Nat) (cs : List Nd) : Nat → List Nd
  | 0 => cs
  | i + 1 => if i ∈ m then sweepTo m cs i else (sweepTo m cs i).set i Nd.gone
def goneTo (m : List Nat) (cs : List Nd) : Nat → Nat
  | 0 => 0
  | i + 1 => goneTo m cs i + if i ∈ m then 0 else match cs[i]? with
    | some c => if c.asks = -1 then 0 else 1
    | none => 0
def endTo (m : List Nat) : Nat → Nat
  | 0 => 0
  | i + 1 => if i ∈ m then i + 1 else endTo m i

def swept (m : List Nat) (cs : List Nd) : List Nd := (sweepTo m cs cs.length).take (endTo m cs.length)

theorem sweepTo_length (m : List Nat) (cs : List Nd) : ∀ i, (sweepTo m cs i).length = cs.length := by
  intro i
  induction i with
  | zero => rfl
  | succ i ih => unfold sweepTo; split <;> simp [ih]

theorem sweepTo_get (m : List Nat) (cs : List Nd) : ∀ i, i ≤ cs.length → ∀ k, (sweepTo m cs i)[k]? = if k < i ∧ k ∉ m then some Nd.gone else cs[k]? := by
  intro i
  induction i with
  | zero => intro _ k; rw [if_neg (by omega)]; rfl
  | succ i ih =>
    intro hi k
    unfold sweepTo
    by_cases h : i ∈ m
    · rw [if_pos h, ih (by omega)]
      by_cases hk : k < i ∧ k ∉ m
      · rw [if_pos hk, if_pos ⟨by omega, hk.2⟩]
      · rw [if_neg hk, if_neg]
        rintro ⟨h1, h2⟩
        by_cases e : k = i
        · subst e; exact h2 h
        · exact hk ⟨by omega, h2⟩
    · rw [if_neg h, nget_set _ _ _ _ (by rw [sweepTo_length]; omega), ih (by omega)]
      by_cases e : i = k
      · subst e; rw [if_pos rfl, if_pos ⟨by omega, h⟩]
      · rw [if_neg e]
        by_cases hk : k < i ∧ k ∉ m
        · rw [if_pos hk, if_pos ⟨by omega, hk.2⟩]
        · rw [if_neg hk, if_neg]
          rintro ⟨h1, h2⟩
          exact hk ⟨by omega, h2⟩

theorem endTo_le (m : List Nat) : ∀ n, endTo m n ≤ n := by
  intro n
  induction n with
  | zero => exact Nat.le_refl _
  | succ n ih => unfold endTo; split <;> omega

theorem endTo_gt (m : List Nat) : ∀ n x, x ∈ m → x < n → x < endTo m n := by
  intro n
  induction n with
  | zero => intro x _ h; omega
  | succ n ih =>
    intro x hx hn
    unfold endTo
    split
    · exact hn
    · rename_i h
      by_cases e : x = n
      · subst e; exact absurd hx h
      · exact ih x hx (by omega)

/-- What stays of the first i places. -/
theorem sweepTo_is {m : List Nat} {cs : List Nd} {i : Nat} (hi : i ≤ cs.length) {k : Nat} {c : Nd} : Is (sweepTo m cs i) k c ↔ Is cs k c ∧ (i ≤ k ∨ k ∈ m) := by
  unfold Is
  rw [sweepTo_get m cs i hi]
  by_cases h : k < i ∧ k ∉ m
  · rw [if_pos h]
    constructor
    · rintro ⟨h1, h2⟩; injection h1 with h1; subst h1; exact absurd rfl h2
    · rintro ⟨_, h1 | h1⟩
      · omega
      · exact absurd h1 h.2
  · rw [if_neg h]
    constructor
    · intro h1
      refine ⟨h1, ?_⟩
      by_cases hk : k < i
      · by_cases hm : k ∈ m
        · exact .inr hm
        · exact absurd ⟨hk, hm⟩ h
      · exact .inl (by omega)
    · rintro ⟨h1, _⟩; exact h1

theorem swept_is {m : List Nat} {cs : List Nd} {k : Nat} {c : Nd} : Is (swept m cs) k c ↔ Is cs k c ∧ k ∈ m := by
  unfold swept
  have e : ∀ c, Is ((sweepTo m cs cs.length).take (endTo m cs.length)) k c ↔ Is (sweepTo m cs cs.length) k c ∧ k < endTo m cs.length := by
    intro c
    unfold Is
    rw [List.getElem?_take]
    by_cases h : k < endTo m cs.length
    · rw [if_pos h]; exact ⟨fun x => ⟨x, h⟩, fun x => x.1⟩
    · rw [if_neg h]; exact ⟨fun x => (by cases x.1), fun x => absurd x.2 h⟩
  rw [e, sweepTo_is (Nat.le_refl _)]
  constructor
  · rintro ⟨⟨h1, h2⟩, _⟩
    have := h1.lt
    exact ⟨h1, h2.resolve_left (by omega)⟩
  · rintro ⟨h1, h2⟩
    exact ⟨⟨h1, .inr h2⟩, endTo_gt m _ _ h2 h1.lt⟩

theorem swept_get {m : List Nat} {cs : List Nd} {k : Nat} {c : Nd} (h : (swept m cs)[k]? = some c) : c = Nd.gone ∨ cs[k]? = some c := by
  unfold swept at h
  rw [List.getElem?_take] at h
  split at h
  · rw [sweepTo_get m cs _ (Nat.le_refl _)] at h
    split at h
    · injection h with h; exact .inl h.symm
    · exact .inr h
  · cases h

theorem NGood.swept {V : Nat} {cs : List Nd} (g : NGood V cs) {m : List Nat} (r : Roots cs cs.length m) : NGood V (swept m cs) := by
  have hl := g.len
  have root : ∀ i, i < 2 → i ∈ m := fun i hi => (r.mem i).2 ⟨i, by omega, .inl hi, .here _⟩
  refine ⟨?_, ?_, ?_, ?_, ?_, ?_, ?_, ?_⟩
  · obtain ⟨p, h⟩ := g.is0; exact ⟨p, (swept_is.2 ⟨h, root 0 (by omega)⟩).1⟩
  · obtain ⟨p, h⟩ := g.is1; exact ⟨p, (swept_is.2 ⟨h, root 1 (by omega)⟩).1⟩
  · intro k c h e
    rcases swept_get h with h | h
    · exact h
    · exact g.gone k c h e
  · intro k c hk h; exact g.ok k c hk (swept_is.1 h).1
  · intro k c hk h
    obtain ⟨h1, h2⟩ := swept_is.1 h
    obtain ⟨l, hl, hl2⟩ := g.lo k c hk h1
    exact ⟨l, swept_is.2 ⟨hl, (r.closed k c h2 hk h1).1⟩, hl2⟩
  · intro k c hk h
    obtain ⟨h1, h2⟩ := swept_is.1 h
    obtain ⟨l, hl, hl2⟩ := g.hi k c hk h1
    exact ⟨l, swept_is.2 ⟨hl, (r.closed k c h2 hk h1).2⟩, hl2⟩
  · intro k j c d hk hj h h' e
    exact g.uniq k j c d hk hj (swept_is.1 h).1 (swept_is.1 h').1 e
  · intro k c h
    rcases swept_get h with h | h
    · rw [h]; exact Nat.zero_le _
    · exact g.pins k c h

/-- The nodes, by their numbers. -/
def nodesOf (cs : List Nd) : List Nat := (List.range cs.length).filter fun k => match cs[k]? with | some c => decide (c.asks ≠ -1) | none => false

theorem mem_nodesOf (cs : List Nd) (k : Nat) : k ∈ nodesOf cs ↔ ∃ c, Is cs k c := by
  unfold nodesOf
  rw [List.mem_filter, List.mem_range]
  constructor
  · rintro ⟨h1, h2⟩
    have hg : cs[k]? = some cs[k] := List.getElem?_eq_getElem h1
    rw [hg] at h2
    exact ⟨cs[k], hg, by simpa using h2⟩
  · rintro ⟨c, h⟩
    refine ⟨h.lt, ?_⟩
    rw [h.1]; simpa using h.2

theorem nodup_nodesOf (cs : List Nd) : (nodesOf cs).Nodup := List.Nodup.sublist List.filter_sublist List.nodup_range

theorem length_nodesOf (cs : List Nd) : (nodesOf cs).length = cnt cs := by
  have e : cs = (List.range cs.length).map fun k => (cs[k]?).getD Nd.gone := by
    apply List.ext_getElem?
    intro k
    rw [List.getElem?_map]
    by_cases h : k < cs.length
    · rw [List.getElem?_range h]
      show _ = some ((cs[k]?).getD Nd.gone)
      rw [List.getElem?_eq_getElem h]; rfl
    · rw [List.getElem?_eq_none (by omega), List.getElem?_eq_none (by simp; omega)]; rfl
  unfold cnt nodesOf
  conv => rhs; rw [e, List.countP_map]
  rw [List.countP_eq_length_filter]
  congr 1
  apply List.filter_congr
  intro k hk
  rw [List.mem_range] at hk
  have hg : cs[k]? = some cs[k] := List.getElem?_eq_getElem hk
  simp only [Function.comp]
  simp [hg]

theorem sub_length : ∀ (l l' : List Nat), l.Nodup → (∀ x ∈ l, x ∈ l') → l.length ≤ l'.length := by
  intro l
  induction l with
  | nil => intro l' _ _; exact Nat.zero_le _
  | cons a r ih =>
    intro l' hn hs
    obtain ⟨h1, h2⟩ := List.nodup_cons.1 hn
    have ha := hs a (by simp)
    have := ih (l'.erase a) h2 fun x hx => by
      have hne : x ≠ a := fun e => h1 (e ▸ hx)
      exact (List.mem_erase_of_ne hne).2 (hs x (by simp [hx]))
    rw [List.length_erase_of_mem ha] at this
    have : 0 < l'.length := List.length_pos_of_mem ha
    simp only [List.length_cons]; omega

theorem same_length {l l' : List Nat} (h : l.Nodup) (h' : l'.Nodup) (e : ∀ x, x ∈ l ↔ x ∈ l') : l.length = l'.length :=
  Nat.le_antisymm (sub_length l l' h fun x hx => (e x).1 hx) (sub_length l' l h' fun x hx => (e x).2 hx)

theorem cnt_eq {cs : List Nd} {m : List Nat} (hm : m.Nodup) (h : ∀ k, k ∈ m ↔ ∃ c, Is cs k c) : cnt cs = m.length := by
  rw [← length_nodesOf]
  exact same_length (nodup_nodesOf cs) hm fun x => by rw [mem_nodesOf, h]

theorem cnt_sweepTo (m : List Nat) (cs : List Nd) : ∀ i, i ≤ cs.length → cnt (sweepTo m cs i) + goneTo m cs i = cnt cs := by
  intro i
  induction i with
  | zero => intro _; rfl
  | succ i ih =>
    intro hi
    have := ih (by omega)
    unfold sweepTo goneTo
    by_cases h : i ∈ m
    · rw [if_pos h, if_pos h]; exact this
    · rw [if_neg h, if_neg h]
      have hg : cs[i]? = some cs[i] := List.getElem?_eq_getElem (by omega)
      have hg2 : (sweepTo m cs i)[i]? = some cs[i] := by rw [sweepTo_get m cs i (by omega), if_neg (by omega), hg]
      have hs := ncount_set (fun c => decide (c.asks ≠ -1)) (sweepTo m cs i) i Nd.gone _ hg2
      have h2 : (decide (Nd.gone.asks ≠ -1)) = false := by decide
      rw [hg]
      unfold cnt at *
      simp only [h2] at hs
      by_cases e : cs[i].asks = -1
      · simp [e] at hs ⊢; simp at this; omega
      · simp [e] at hs ⊢; simp at this; omega

theorem cnt_take (cs : List Nd) (e : Nat) (h : ∀ k c, Is cs k c → k < e) : cnt (cs.take e) = cnt cs := by
  unfold cnt
  conv => rhs; rw [← List.take_append_drop e cs, List.countP_append]
  have : List.countP (fun c : Nd => decide (c.asks ≠ -1)) (cs.drop e) = 0 := by
    rw [List.countP_eq_zero]
    intro c hc
    obtain ⟨j, hj⟩ := List.getElem?_of_mem hc
    rw [List.getElem?_drop] at hj
    by_cases ha : c.asks = -1
    · simp [ha]
    · have := h _ c ⟨hj, ha⟩; omega
  omega

theorem cnt_swept (m : List Nat) (cs : List Nd) : cnt (swept m cs) + goneTo m cs cs.length = cnt cs := by
  unfold swept
  rw [cnt_take]
  · exact cnt_sweepTo m cs _ (Nat.le_refl _)
  · intro k c h
    obtain ⟨h1, h2⟩ := (sweepTo_is (Nat.le_refl _)).1 h
    have := h1.lt
    exact endTo_gt m _ _ (h2.resolve_left (by omega)) h1.lt

theorem Keys.drop {cs : List Nd} {f : Key → Option Int} {n : Nat} (h : Keys cs f (n + 1)) {k : Nat} {c : Nd} (hc : Is cs k c) (hu : ∀ j d, 2 ≤ j → Is cs j d → d.key = c.key → j = k) : Keys (cs.set k Nd.gone) (fset f c.key .none) n := by
  have get := fun i => nget_set cs k i Nd.gone hc.lt
  refine ⟨fun q v => ?_, ?_⟩
  · unfold fset
    by_cases e : q = c.key
    · subst e
      rw [if_pos rfl]
      constructor
      · intro h; cases h
      · rintro ⟨j, d, hj, rfl, hd, he⟩
        have h1 := hd.1
        rw [get] at h1
        by_cases e : k = j
        · rw [if_pos e] at h1; injection h1 with h1; subst h1; exact absurd rfl hd.2
        · rw [if_neg e] at h1; exact absurd (hu j d hj ⟨h1, hd.2⟩ he.symm).symm e
    · rw [if_neg e, h.says]
      constructor
      · rintro ⟨j, d, hj, rfl, hd, rfl⟩
        have hne : ¬ k = j := fun e2 => by subst e2; exact e (by rw [hc.same hd])
        exact ⟨j, d, hj, rfl, ⟨by rw [get, if_neg hne]; exact hd.1, hd.2⟩, rfl⟩
      · rintro ⟨j, d, hj, rfl, hd, rfl⟩
        have h1 := hd.1
        rw [get] at h1
        by_cases e : k = j
        · rw [if_pos e] at h1; injection h1 with h1; subst h1; exact absurd rfl hd.2
        · rw [if_neg e] at h1; exact ⟨j, d, hj, rfl, ⟨h1, hd.2⟩, rfl⟩
  · have := ncount_set (fun c => decide (c.asks ≠ -1)) cs k Nd.gone c hc.1
    have h2 : (decide (Nd.gone.asks ≠ -1)) = false := by decide
    have h3 : (decide (c.asks ≠ -1)) = true := by simpa using hc.2
    rw [h2, h3] at this
    have h4 := h.count
    unfold cnt at *
    simp at this h4 ⊢; omega

theorem Keys.take {cs : List Nd} {f : Key → Option Int} {n : Nat} (h : Keys cs f n) (e : Nat) (he : ∀ k c, Is cs k c → k < e) : Keys (cs.take e) f n := by
  have hs : ∀ k c, Is (cs.take e) k c ↔ Is cs k c := by
    intro k c
    constructor
    · intro hk
      have h1 := hk.1
      rw [List.getElem?_take] at h1
      split at h1
      · exact ⟨h1, hk.2⟩
      · cases h1
    · intro hk
      exact ⟨by rw [List.getElem?_take, if_pos (he k c hk)]; exact hk.1, hk.2⟩
  refine ⟨fun q v => ?_, by rw [cnt_take cs e he]; exact h.count⟩
  rw [h.says]
  constructor
  · rintro ⟨j, d, hj, hv, hd, hq⟩; exact ⟨j, d, hj, hv, (hs j d).2 hd, hq⟩
  · rintro ⟨j, d, hj, hv, hd, hq⟩; exact ⟨j, d, hj, hv, (hs j d).1 hd, hq⟩
end Go.Proofs.Ytfdebadmikmnaaa
