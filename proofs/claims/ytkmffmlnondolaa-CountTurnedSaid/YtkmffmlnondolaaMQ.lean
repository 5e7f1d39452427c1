/- Merged: CNum, CPart, CBPlain, CGot, CSet. -/
import Derived.Test.YtkmffmlnondolaaMG
import Derived.Test.YtkmffmlnondolaaMB
import Derived.Test.YtkmffmlnondolaaMC
import Derived.Maps.OwnSet
import Derived.Maps.Views

/- Counting: for how many values of a list of variables a function says true; rows of the numbers for which sixteen answers say true. Plain: no walk. -/
namespace Go.Proofs.Ytkmffmlnondolaa

/-- For how many values of the variables of a list. -/
def cntN (f : (Nat → Bool) → Bool) : List Nat → (Nat → Bool) → Nat
  | [], val => if f val then 1 else 0
  | v :: r, val => cntN f r (upd val v false) + cntN f r (upd val v true)

theorem upd_comm {val : Nat → Bool} {v w : Nat} {a b : Bool} (h : v ≠ w) : upd (upd val v a) w b = upd (upd val w b) v a := by
  funext i
  unfold upd
  by_cases h1 : i = w
  · rw [if_pos h1]; subst h1; rw [if_neg (fun e => h e.symm), if_pos rfl]
  · rw [if_neg h1]
    by_cases h2 : i = v
    · rw [if_pos h2, if_pos h2]
    · rw [if_neg h2, if_neg h2, if_neg h1]
theorem upd_twice {val : Nat → Bool} {v : Nat} {a b : Bool} : upd (upd val v a) v b = upd val v b := by
  funext i
  unfold upd
  by_cases h : i = v
  · rw [if_pos h, if_pos h]
  · rw [if_neg h, if_neg h, if_neg h]

theorem cntN_congr {f g : (Nat → Bool) → Bool} (h : ∀ val, f val = g val) : ∀ l val, cntN f l val = cntN g l val
  | [], val => by unfold cntN; rw [h]
  | v :: r, val => by unfold cntN; rw [cntN_congr h r, cntN_congr h r]

theorem cntN_le (f : (Nat → Bool) → Bool) : ∀ l val, cntN f l val ≤ 2 ^ l.length
  | [], val => by unfold cntN; split <;> simp
  | v :: r, val => by
    have h1 := cntN_le f r (upd val v false)
    have h2 := cntN_le f r (upd val v true)
    unfold cntN
    rw [List.length_cons, Nat.pow_succ]
    omega

theorem cntN_none {f : (Nat → Bool) → Bool} (h : ∀ val, f val = false) : ∀ l val, cntN f l val = 0
  | [], val => by unfold cntN; rw [h]; rfl
  | v :: r, val => by unfold cntN; rw [cntN_none h r, cntN_none h r]
theorem cntN_all {f : (Nat → Bool) → Bool} (h : ∀ val, f val = true) : ∀ l val, cntN f l val = 2 ^ l.length
  | [], val => by unfold cntN; rw [h]; rfl
  | v :: r, val => by unfold cntN; rw [cntN_all h r, cntN_all h r, List.length_cons, Nat.pow_succ]; omega

/-- A function that does not hang on a variable. -/
def Idle (f : (Nat → Bool) → Bool) (v : Nat) : Prop := ∀ val b, f (upd val v b) = f val

theorem Idle.count {f : (Nat → Bool) → Bool} {v : Nat} (h : Idle f v) : ∀ l val b, cntN f l (upd val v b) = cntN f l val
  | [], val, b => by unfold cntN; rw [h]
  | w :: r, val, b => by
    unfold cntN
    by_cases e : v = w
    · subst e; rw [upd_twice, upd_twice]
    · rw [upd_comm e, upd_comm e, h.count r, h.count r]
theorem Idle.skip {f : (Nat → Bool) → Bool} {v : Nat} (h : Idle f v) (r : List Nat) (val : Nat → Bool) : cntN f (v :: r) val = 2 * cntN f r val := by
  show cntN f r (upd val v false) + cntN f r (upd val v true) = _
  rw [h.count, h.count]
  omega
theorem idle_many {f : (Nat → Bool) → Bool} : ∀ (s r : List Nat), (∀ v ∈ s, Idle f v) → ∀ val, cntN f (s ++ r) val = 2 ^ s.length * cntN f r val
  | [], r, _, val => by simp
  | v :: s, r, h, val => by
    rw [List.cons_append, (h v (by simp)).skip, idle_many s r (fun w hw => h w (by simp [hw])), List.length_cons, Nat.pow_succ]
    rw [Nat.mul_comm (2 ^ s.length) 2, Nat.mul_assoc]

theorem cntN_swap {f : (Nat → Bool) → Bool} {v w : Nat} (r : List Nat) (h : v ≠ w) (val : Nat → Bool) : cntN f (v :: w :: r) val = cntN f (w :: v :: r) val := by
  simp only [cntN]
  rw [upd_comm (a := false) (b := false) h, upd_comm (a := false) (b := true) h, upd_comm (a := true) (b := false) h, upd_comm (a := true) (b := true) h]
  omega
theorem cntN_perm {f : (Nat → Bool) → Bool} {l l' : List Nat} (h : l.Perm l') : l.Nodup → ∀ val, cntN f l val = cntN f l' val := by
  induction h with
  | nil => intro _ _; rfl
  | cons v _ ih => intro hn val; unfold cntN; rw [ih (List.nodup_cons.1 hn).2, ih (List.nodup_cons.1 hn).2]
  | swap v w r =>
    intro hn val
    exact cntN_swap r (fun e => (List.nodup_cons.1 hn).1 (by rw [e]; simp)) val
  | trans h1 _ ih1 ih2 => intro hn val; rw [ih1 hn, ih2 (h1.nodup_iff.1 hn)]

/-- Where all that the function hangs on is in the list, the values before do not matter. -/
theorem cntN_val {f : (Nat → Bool) → Bool} : ∀ (l : List Nat) (val val' : Nat → Bool), (∀ u u' : Nat → Bool, (∀ i, i ∈ l → u i = u' i) → (∀ i, i ∉ l → u i = val i ∧ u' i = val' i) → f u = f u') → cntN f l val = cntN f l val'
  | [], val, val', h => by unfold cntN; rw [h val val' (by simp) (by simp)]
  | v :: r, val, val', h => by
    have hs : ∀ b, cntN f r (upd val v b) = cntN f r (upd val' v b) := fun b => by
      refine cntN_val r _ _ fun u u' h1 h2 => h u u' (fun i hi => ?_) fun i hi => ?_
      · by_cases hr : i ∈ r
        · exact h1 i hr
        · obtain ⟨e1, e2⟩ := h2 i hr
          have e : i = v := by rcases List.mem_cons.1 hi with e | e; exact e; exact absurd e hr
          rw [e1, e2]; unfold upd; rw [if_pos e, if_pos e]
      · have hv : i ≠ v := fun e => hi (by simp [e])
        obtain ⟨e1, e2⟩ := h2 i (fun e => hi (by simp [e]))
        unfold upd at e1 e2
        rw [if_neg hv] at e1 e2
        exact ⟨e1, e2⟩
    unfold cntN
    rw [hs, hs]

theorem cntN_upd {f : (Nat → Bool) → Bool} {v : Nat} {b : Bool} : ∀ (l : List Nat), v ∉ l → ∀ val, cntN (fun val => f (upd val v b)) l val = cntN f l (upd val v b)
  | [], _, val => rfl
  | w :: r, h, val => by
    have hw : v ≠ w := fun e => h (by simp [e])
    have hr : v ∉ r := fun e => h (by simp [e])
    unfold cntN
    rw [cntN_upd r hr, cntN_upd r hr, upd_comm hw, upd_comm hw]

theorem cntN_split (f : (Nat → Bool) → Bool) {v : Nat} {r : List Nat} (h : v ∉ r) (val : Nat → Bool) : cntN f (v :: r) val = cntN (fun val => f (upd val v false)) r val + cntN (fun val => f (upd val v true)) r val := by
  rw [cntN_upd r h, cntN_upd r h]; rfl

/-- Two functions: one or the other, and both. -/
theorem cntN_or_and (f g : (Nat → Bool) → Bool) : ∀ l val, cntN (fun val => f val || g val) l val + cntN (fun val => f val && g val) l val = cntN f l val + cntN g l val
  | [], val => by unfold cntN; cases f val <;> cases g val <;> rfl
  | v :: r, val => by
    have h1 := cntN_or_and f g r (upd val v false)
    have h2 := cntN_or_and f g r (upd val v true)
    unfold cntN
    omega
theorem cntN_not (f : (Nat → Bool) → Bool) : ∀ l val, cntN f l val + cntN (fun val => !f val) l val = 2 ^ l.length
  | [], val => by unfold cntN; cases f val <;> rfl
  | v :: r, val => by
    have h1 := cntN_not f r (upd val v false)
    have h2 := cntN_not f r (upd val v true)
    unfold cntN
    rw [List.length_cons, Nat.pow_succ]
    omega

variable {V : Nat} {cs : List Nd}
/-- A node's count by its parts. -/
theorem cntN_node (g : NGood V cs) {k : Nat} {c : Nd} (hk : 2 ≤ k) (h : Is cs k c) {r : List Nat} (hr : c.asks.toNat ∉ r) (val : Nat → Bool) :
    cntN (fun val => Says V cs val k) (c.asks.toNat :: r) val = cntN (fun val => Says V cs val c.low) r val + cntN (fun val => Says V cs val c.high) r val := by
  rw [cntN_split _ hr]
  congr 1
  · exact cntN_congr (fun val => (Says_low g hk h val).symm) r val
  · exact cntN_congr (fun val => (Says_high g hk h val).symm) r val
theorem says_idle (g : NGood V cs) {k : Nat} {c : Nd} (h : Is cs k c) {v : Nat} (hv : (v : Int) < c.asks) : Idle (fun val => Says V cs val k) v := fun val b => Says_upd g h val v b hv

/-- The numbers for which bits say true. -/
def truesL (a : Int) (i : Nat) : List Nat := (List.range i).filter fun n => bitZ a n
theorem truesL_succ (a : Int) (i : Nat) : truesL a (i + 1) = truesL a i ++ if bitZ a i then [i] else [] := by
  unfold truesL
  rw [List.range_succ, List.filter_append]
  simp only [List.filter_cons, List.filter_nil]
theorem truesL_len (a : Int) (i : Nat) : (truesL a i).length ≤ i := by
  unfold truesL
  exact Nat.le_trans (List.length_filter_le _ _) (by simp)
theorem truesL_mem {a : Int} {i n : Nat} : n ∈ truesL a i ↔ n < i ∧ bitZ a n = true := by
  unfold truesL
  rw [List.mem_filter, List.mem_range]

theorem cntN_bits (a : Int) (val : Nat → Bool) : cntN (fun val => bitZ a (tix val 4 0 0)) [0, 1, 2, 3] val = (truesL a 16).length := by
  have e : ∀ x, (if bitZ a x = true then [x] else []).length = if bitZ a x = true then 1 else 0 := fun x => by split <;> rfl
  have h0 : (truesL a 0).length = 0 := rfl
  have hs : ∀ i, (truesL a (i + 1)).length = (truesL a i).length + if bitZ a i = true then 1 else 0 := fun i => by rw [truesL_succ, List.length_append, e]
  rw [hs 15, hs 14, hs 13, hs 12, hs 11, hs 10, hs 9, hs 8, hs 7, hs 6, hs 5, hs 4, hs 3, hs 2, hs 1, hs 0, h0]
  simp only [cntN, tix, upd]
  simp
  omega
end Go.Proofs.Ytkmffmlnondolaa

/- What a node is of: the variables on which its answers hang, and the ways from it to 1. Plain: no walk. -/
namespace Go.Proofs.Ytkmffmlnondolaa

/-- The nodes that a node is made of, itself among them. -/
inductive Part (cs : List Nd) : Nat → Nat → Prop
  | self (k : Nat) : Part cs k k
  | low {k j : Nat} {c : Nd} : 2 ≤ k → Is cs k c → Part cs c.low j → Part cs k j
  | high {k j : Nat} {c : Nd} : 2 ≤ k → Is cs k c → Part cs c.high j → Part cs k j

variable {V : Nat} {cs : List Nd}

theorem Part.trans {k j i : Nat} (p : Part cs k j) (q : Part cs j i) : Part cs k i := by
  induction p with
  | self => exact q
  | low hk h _ ih => exact .low hk h (ih q)
  | high hk h _ ih => exact .high hk h (ih q)
theorem Part.is (g : NGood V cs) {k j : Nat} (p : Part cs k j) : ∀ {c : Nd}, Is cs k c → ∃ d, Is cs j d ∧ c.asks ≤ d.asks := by
  induction p with
  | self => intro c h; exact ⟨c, h, Int.le_refl _⟩
  | low hk h _ ih =>
    intro c hc
    obtain rfl := h.same hc
    obtain ⟨l, hl, hl2⟩ := g.lo _ _ hk h
    obtain ⟨d, hd, hd2⟩ := ih hl
    exact ⟨d, hd, by omega⟩
  | high hk h _ ih =>
    intro c hc
    obtain rfl := h.same hc
    obtain ⟨l, hl, hl2⟩ := g.hi _ _ hk h
    obtain ⟨d, hd, hd2⟩ := ih hl
    exact ⟨d, hd, by omega⟩

/-- Some values tell the variable. -/
def Hangs (f : (Nat → Bool) → Bool) (v : Nat) : Prop := ∃ val, f (upd val v false) ≠ f (upd val v true)

theorem Hangs.not_idle {f : (Nat → Bool) → Bool} {v : Nat} (h : Hangs f v) : ¬ Idle f v := by
  obtain ⟨val, h⟩ := h
  intro i
  exact h (by rw [i, i])

theorem Part.hangs (g : NGood V cs) {k j : Nat} (p : Part cs k j) : ∀ {c d : Nd}, Is cs k c → 2 ≤ j → Is cs j d → Hangs (fun val => Says V cs val k) d.asks.toNat := by
  induction p with
  | self k =>
    intro c d hc hj hd
    obtain ⟨l, hl, _⟩ := g.lo _ _ hj hd
    obtain ⟨r, hr, _⟩ := g.hi _ _ hj hd
    refine Classical.byContradiction fun hn => (g.ok _ _ hj hd).2.2 (canon g hl hr fun val => ?_)
    rw [Says_low g hj hd, Says_high g hj hd]
    exact Classical.byContradiction fun e => hn ⟨val, e⟩
  | @low k1 j1 c1 hk h p ih =>
    intro c d hc hj hd
    have e0 := hc.same h
    obtain ⟨l, hl, hl2⟩ := g.lo _ _ hk h
    obtain ⟨d', hd', hle⟩ := p.is g hl
    obtain rfl := hd.same hd'
    obtain ⟨val, hv⟩ := ih hl hj hd
    have h0 := (g.ok _ _ hk h).1
    refine ⟨upd val c1.asks.toNat false, fun e => hv ?_⟩
    show Says V cs _ _ = Says V cs _ _
    rw [Says_low g hk h, Says_low g hk h, upd_comm (v := d.asks.toNat) (w := c1.asks.toNat) (a := false) (by omega), upd_comm (v := d.asks.toNat) (w := c1.asks.toNat) (a := true) (by omega)]
    exact e
  | @high k1 j1 c1 hk h p ih =>
    intro c d hc hj hd
    have e0 := hc.same h
    obtain ⟨l, hl, hl2⟩ := g.hi _ _ hk h
    obtain ⟨d', hd', hle⟩ := p.is g hl
    obtain rfl := hd.same hd'
    obtain ⟨val, hv⟩ := ih hl hj hd
    have h0 := (g.ok _ _ hk h).1
    refine ⟨upd val c1.asks.toNat true, fun e => hv ?_⟩
    show Says V cs _ _ = Says V cs _ _
    rw [Says_high g hk h, Says_high g hk h, upd_comm (v := d.asks.toNat) (w := c1.asks.toNat) (a := false) (by omega), upd_comm (v := d.asks.toNat) (w := c1.asks.toNat) (a := true) (by omega)]
    exact e

theorem part_idle (g : NGood V cs) (v : Nat) : ∀ k c, Is cs k c → (∀ j d, Part cs k j → 2 ≤ j → Is cs j d → d.asks ≠ v) → Idle (fun val => Says V cs val k) v := by
  refine g.ind (P := fun k => (∀ j d, Part cs k j → 2 ≤ j → Is cs j d → d.asks ≠ v) → Idle (fun val => Says V cs val k) v) ?_ ?_ ?_
  · intro _ val b; show Says _ _ _ _ = Says _ _ _ _; rw [Says_zero, Says_zero]
  · intro _ val b; show Says _ _ _ _ = Says _ _ _ _; rw [Says_one, Says_one]
  · intro k c hk h il ih ha val b
    have h0 := (g.ok k c hk h).1
    have hne := ha k c (.self k) hk h
    show Says V cs _ k = Says V cs _ k
    have e : upd val v b c.asks.toNat = val c.asks.toNat := by unfold upd; rw [if_neg (by omega)]
    rw [Says_step g _ hk h, Says_step g _ hk h, e]
    split
    · exact ih (fun j d p => ha j d (.high hk h p)) val b
    · exact il (fun j d p => ha j d (.low hk h p)) val b

/-- A variable is asked by what the node is of just if the node's answers hang on it. -/
theorem asked_iff (g : NGood V cs) {k v : Nat} {c : Nd} (h : Is cs k c) : (∃ j d, Part cs k j ∧ 2 ≤ j ∧ Is cs j d ∧ d.asks = v) ↔ ¬ Idle (fun val => Says V cs val k) v := by
  constructor
  · rintro ⟨j, d, p, hj, hd, rfl'⟩
    have e : v = d.asks.toNat := by omega
    rw [e]
    exact (p.hangs g h hj hd).not_idle
  · intro hn
    refine Classical.byContradiction fun ha => hn (part_idle g v k c h fun j d p hj hd e => ha ⟨j, d, p, hj, hd, e⟩)

/-- The ways from a node to 1, as rows: of each variable 0, 1, or 2 where it is not asked; those by low ahead. -/
inductive Ways (V : Nat) (cs : List Nd) : Nat → List (List Int) → Prop
  | zero : Ways V cs 0 []
  | one : Ways V cs 1 [List.replicate V 2]
  | node {k : Nat} {c : Nd} {l h : List (List Int)} : 2 ≤ k → Is cs k c → Ways V cs c.low l → Ways V cs c.high h → Ways V cs k (l.map (fun r => r.set c.asks.toNat 0) ++ h.map (fun r => r.set c.asks.toNat 1))

theorem Ways.ex (g : NGood V cs) : ∀ k c, Is cs k c → ∃ l, Ways V cs k l :=
  g.ind (P := fun k => ∃ l, Ways V cs k l) ⟨_, .zero⟩ ⟨_, .one⟩ fun _ _ hk h ⟨_, hl⟩ ⟨_, hr⟩ => ⟨_, .node hk h hl hr⟩

theorem Ways.same {k : Nat} {l : List (List Int)} (h : Ways V cs k l) : ∀ {l'}, Ways V cs k l' → l = l' := by
  induction h with
  | zero => intro l' h'; cases h' with
    | zero => rfl
    | node hk => omega
  | one => intro l' h'; cases h' with
    | one => rfl
    | node hk => omega
  | node hk hc _ _ il ih => intro l' h'; cases h' with
    | zero => omega
    | one => omega
    | node _ hc' hl hh =>
      obtain rfl := hc.same hc'
      rw [il hl, ih hh]

theorem Ways.len {k : Nat} {l : List (List Int)} (h : Ways V cs k l) : ∀ r ∈ l, r.length = V := by
  induction h with
  | zero => intro r hr; cases hr
  | one => intro r hr; simp at hr; rw [hr]; simp
  | node _ _ _ _ il ih =>
    intro r hr
    rw [List.mem_append, List.mem_map, List.mem_map] at hr
    rcases hr with ⟨s, hs, rfl⟩ | ⟨s, hs, rfl⟩
    · rw [List.length_set]; exact il s hs
    · rw [List.length_set]; exact ih s hs

/-- Nothing ahead of what the node asks stands in its ways. -/
theorem Ways.free (g : NGood V cs) {k : Nat} {l : List (List Int)} (h : Ways V cs k l) : ∀ {c : Nd}, Is cs k c → ∀ r ∈ l, ∀ i : Nat, (i : Int) < c.asks → r[i]? = some 2 := by
  induction h with
  | zero => intro c _ r hr; cases hr
  | one =>
    intro c hc r hr i hi
    simp at hr
    have := (g.base (by omega) hc).1
    rw [hr, List.getElem?_replicate, if_pos (by omega)]
  | node hk h _ _ il ih =>
    intro c hc r hr i hi
    obtain rfl := h.same hc
    obtain ⟨a, ha, ha2⟩ := g.lo _ _ hk h
    obtain ⟨b, hb, hb2⟩ := g.hi _ _ hk h
    rw [List.mem_append, List.mem_map, List.mem_map] at hr
    rcases hr with ⟨s, hs, rfl⟩ | ⟨s, hs, rfl⟩
    · rw [List.getElem?_set_ne (by omega)]; exact il ha s hs i (by omega)
    · rw [List.getElem?_set_ne (by omega)]; exact ih hb s hs i (by omega)

/-- A row has a value, if each of its places is open or has what is said. -/
def fits (val : Nat → Bool) : Nat → List Int → Bool
  | _, [] => true
  | i, x :: r => (x == 2 || x == if val i then 1 else 0) && fits val (i + 1) r

theorem fits_set {val : Nat → Bool} : ∀ (r : List Int) (i a : Nat) (x : Int), r[a]? = some 2 → fits val i (r.set a x) = ((x == 2 || x == if val (i + a) then 1 else 0) && fits val i r)
  | [], i, a, x, h => by simp at h
  | y :: r, i, 0, x, h => by
    simp at h
    subst h
    simp [fits]
  | y :: r, i, a + 1, x, h => by
    have h' : r[a]? = some 2 := by simpa using h
    rw [List.set_cons_succ]
    unfold fits
    rw [fits_set r (i + 1) a x h', show i + 1 + a = i + (a + 1) by omega]
    cases (y == 2 || y == if val i then 1 else 0) <;> simp

theorem fits_open {val : Nat → Bool} : ∀ (n i : Nat), fits val i (List.replicate n 2) = true
  | 0, i => rfl
  | n + 1, i => by rw [List.replicate_succ]; unfold fits; rw [fits_open n]; rfl

/-- Each value for which the node says true has just one way; others none. -/
theorem Ways.fit (g : NGood V cs) (val : Nat → Bool) {k : Nat} {l : List (List Int)} (h : Ways V cs k l) : (l.filter (fits val 0)).length = if Says V cs val k then 1 else 0 := by
  induction h with
  | zero => rw [Says_zero]; rfl
  | one => rw [Says_one, List.filter_cons, if_pos (fits_open _ _)]; rfl
  | @node k c l h hk hc hl hh il ih =>
    have ho := g.ok _ _ hk hc
    obtain ⟨a, ha, ha2⟩ := g.lo _ _ hk hc
    obtain ⟨b, hb, hb2⟩ := g.hi _ _ hk hc
    have e0 : (l.map (fun r => r.set c.asks.toNat 0)).filter (fits val 0) = ((l.filter (fun r => (!val c.asks.toNat) && fits val 0 r)).map fun r => r.set c.asks.toNat 0) := by
      rw [List.filter_map]
      congr 1
      refine List.filter_congr fun r hr => ?_
      show fits val 0 (r.set c.asks.toNat 0) = _
      rw [fits_set _ _ _ _ (hl.free g ha r hr _ (by omega)), Nat.zero_add]
      cases val c.asks.toNat <;> simp
    have e1 : (h.map (fun r => r.set c.asks.toNat 1)).filter (fits val 0) = ((h.filter (fun r => val c.asks.toNat && fits val 0 r)).map fun r => r.set c.asks.toNat 1) := by
      rw [List.filter_map]
      congr 1
      refine List.filter_congr fun r hr => ?_
      show fits val 0 (r.set c.asks.toNat 1) = _
      rw [fits_set _ _ _ _ (hh.free g hb r hr _ (by omega)), Nat.zero_add]
      cases val c.asks.toNat <;> simp
    rw [List.filter_append, e0, e1, List.length_append, List.length_map, List.length_map, Says_step g val hk hc]
    cases val c.asks.toNat with
    | true => rw [show l.filter (fun r => (!true) && fits val 0 r) = [] from List.filter_eq_nil_iff.2 (by simp)]; simpa using ih
    | false => rw [show h.filter (fun r => false && fits val 0 r) = [] from List.filter_eq_nil_iff.2 (by simp)]; simpa using il
end Go.Proofs.Ytkmffmlnondolaa

/- Plain facts on counts: the sum and the product of two counts, none above the greatest one. -/
namespace Go.Proofs.Ytkmffmlnondolaa

def topC : Int := 4611686018427387903
def clip (n : Int) : Int := if n < 0 then 0 else if topC < n then topC else n
def sadd (a b : Int) : Int := clip (clip a + clip b)
def smul (a b : Int) : Int := clip (clip a * clip b)
def spow (n : Int) : Int := if n < 0 then 1 else if 62 ≤ n then topC else 2 ^ n.toNat

theorem clip_lo (n : Int) : 0 ≤ clip n := by unfold clip topC; split <;> (try split) <;> omega
theorem clip_hi (n : Int) : clip n ≤ 4611686018427387903 := by unfold clip topC; split <;> (try split) <;> omega
theorem clip_of {n : Int} (h : 0 ≤ n) (h2 : n ≤ 4611686018427387903) : clip n = n := by
  unfold clip topC; rw [if_neg (by omega), if_neg (by omega)]
theorem clip_big {n : Int} (h : 4611686018427387903 ≤ n) : clip n = 4611686018427387903 := by
  unfold clip topC; rw [if_neg (by omega)]; split <;> omega
theorem clip_neg {n : Int} (h : n ≤ 0) : clip n = 0 := by
  unfold clip topC; split
  · rfl
  · rw [if_neg (by omega)]; omega
theorem clip_cnt (n : Int) : clip (clip n) = clip n := clip_of (clip_lo n) (clip_hi n)

theorem sadd_comm (a b : Int) : sadd a b = sadd b a := by unfold sadd; rw [Int.add_comm]
theorem smul_comm (a b : Int) : smul a b = smul b a := by unfold smul; rw [Int.mul_comm]
theorem clip_sadd (a b : Int) : clip (sadd a b) = sadd a b := clip_cnt _
theorem clip_smul (a b : Int) : clip (smul a b) = smul a b := clip_cnt _

/-- A count of a count plus something that is not below 0. -/
theorem clip_add (x y : Int) (hx : 0 ≤ x) (hy : 0 ≤ y) : clip (clip x + y) = clip (x + y) := by
  by_cases h : x ≤ 4611686018427387903
  · rw [clip_of hx h]
  · rw [clip_big (n := x) (by omega), clip_big (by omega), clip_big (by omega)]
theorem clip_mul (x y : Int) (hx : 0 ≤ x) (hy : 0 ≤ y) : clip (clip x * y) = clip (x * y) := by
  by_cases h : x ≤ 4611686018427387903
  · rw [clip_of hx h]
  · rw [clip_big (n := x) (by omega)]
    by_cases h0 : y = 0
    · subst h0; simp
    · have h1 : 1 ≤ y := by omega
      have h2 : (4611686018427387903 : Int) * 1 ≤ 4611686018427387903 * y := Int.mul_le_mul_of_nonneg_left h1 (by omega)
      have h3 : (4611686018427387903 : Int) * y ≤ x * y := Int.mul_le_mul_of_nonneg_right (by omega) hy
      rw [clip_big (by omega), clip_big (by omega)]

theorem sadd_assoc (a b c : Int) : sadd (sadd a b) c = sadd a (sadd b c) := by
  have h1 : sadd (sadd a b) c = clip (clip a + clip b + clip c) := by
    show clip (clip (clip (clip a + clip b)) + clip c) = _
    rw [clip_cnt, clip_add _ _ (by have := clip_lo a; have := clip_lo b; omega) (clip_lo c)]
  have h2 : sadd a (sadd b c) = clip (clip a + clip b + clip c) := by
    show clip (clip a + clip (clip (clip b + clip c))) = _
    rw [clip_cnt, Int.add_comm, clip_add _ _ (by have := clip_lo b; have := clip_lo c; omega) (clip_lo a)]
    congr 1; omega
  rw [h1, h2]
theorem smul_assoc (a b c : Int) : smul (smul a b) c = smul a (smul b c) := by
  have h1 : smul (smul a b) c = clip (clip a * clip b * clip c) := by
    show clip (clip (clip (clip a * clip b)) * clip c) = _
    rw [clip_cnt, clip_mul _ _ (Int.mul_nonneg (clip_lo a) (clip_lo b)) (clip_lo c)]
  have h2 : smul a (smul b c) = clip (clip a * clip b * clip c) := by
    show clip (clip a * clip (clip (clip b * clip c))) = _
    rw [clip_cnt, Int.mul_comm, clip_mul _ _ (Int.mul_nonneg (clip_lo b) (clip_lo c)) (clip_lo a), Int.mul_comm, Int.mul_assoc]
  rw [h1, h2]
theorem sdist (a b c : Int) : smul (sadd a b) c = sadd (smul a c) (smul b c) := by
  have h1 : smul (sadd a b) c = clip (clip a * clip c + clip b * clip c) := by
    show clip (clip (clip (clip a + clip b)) * clip c) = _
    rw [clip_cnt, clip_mul _ _ (by have := clip_lo a; have := clip_lo b; omega) (clip_lo c), Int.add_mul]
  have h2 : sadd (smul a c) (smul b c) = clip (clip a * clip c + clip b * clip c) := by
    show clip (clip (clip (clip a * clip c)) + clip (clip (clip b * clip c))) = _
    rw [clip_cnt, clip_cnt, clip_add _ _ (Int.mul_nonneg (clip_lo a) (clip_lo c)) (clip_lo _), Int.add_comm, clip_add _ _ (Int.mul_nonneg (clip_lo b) (clip_lo c)) (Int.mul_nonneg (clip_lo a) (clip_lo c)), Int.add_comm]
  rw [h1, h2]
theorem sunit (a : Int) : sadd a 0 = smul a 1 := by
  unfold sadd smul; rw [clip_of (n := 0) (by omega) (by omega), clip_of (n := 1) (by omega) (by omega)]; simp

/-- The product as the program reckons it: the greatest count where a division says so. -/
theorem smul_eq (a b : Int) (ha : 0 ≤ a) (hb : 0 ≤ b) :
    (if 0 < b ∧ (4611686018427387903 : Int) / b < a then (4611686018427387903 : Int) else a * b) = clip (a * b) := by
  split
  · rename_i h
    rw [clip_big]
    have h1 := (Int.ediv_lt_iff_lt_mul h.1).1 h.2
    omega
  · rename_i h
    rw [clip_of (Int.mul_nonneg ha hb)]
    by_cases h0 : 0 < b
    · have h1 : a ≤ 4611686018427387903 / b := by
        have : ¬ (4611686018427387903 : Int) / b < a := fun x => h ⟨h0, x⟩
        omega
      exact (Int.le_ediv_iff_mul_le h0).1 h1
    · have : b = 0 := by omega
      subst this; simp

theorem sadd_clip {x y : Int} (hx : 0 ≤ x) (hy : 0 ≤ y) : sadd (clip x) (clip y) = clip (x + y) := by
  unfold sadd
  rw [clip_cnt, clip_cnt, clip_add _ _ hx (clip_lo y), Int.add_comm, clip_add _ _ hy hx, Int.add_comm]
theorem smul_clip {x y : Int} (hx : 0 ≤ x) (hy : 0 ≤ y) : smul (clip x) (clip y) = clip (x * y) := by
  unfold smul
  rw [clip_cnt, clip_cnt, clip_mul _ _ hx (clip_lo y), Int.mul_comm, clip_mul _ _ hy hx, Int.mul_comm]
theorem spow_clip (n : Nat) : spow n = clip ((2 ^ n : Nat) : Int) := by
  unfold spow
  rw [if_neg (by omega)]
  by_cases h : 62 ≤ (n : Int)
  · rw [if_pos h]
    have h1 : 2 ^ 62 ≤ 2 ^ n := Nat.pow_le_pow_right (by omega) (by omega)
    rw [clip_big (by omega)]
    rfl
  · rw [if_neg h]
    have h1 : 2 ^ n ≤ 2 ^ 61 := Nat.pow_le_pow_right (by omega) (by omega)
    have e : (2 : Int) ^ (n : Int).toNat = ((2 ^ n : Nat) : Int) := by simp
    rw [e]
    generalize 2 ^ n = p at *
    exact (clip_of (by omega) (by omega)).symm
end Go.Proofs.Ytkmffmlnondolaa

/- What is marked behind a node's being gone into; how many values of variables from one on. Plain: no walk. -/
namespace Go.Proofs.Ytkmffmlnondolaa
variable {V : Nat} {cs : List Nd}

/-- What a list has behind a node's being gone into. -/
structure Got (cs : List Nd) (M : List Nat) (k : Nat) (M' : List Nat) : Prop where
  nodup : M'.Nodup
  mem : ∀ x, x ∈ M' ↔ x ∈ M ∨ Part cs k x
  is : ∀ x ∈ M', ∃ c, Is cs x c

theorem part_in (g : NGood V cs) {M : List Nat} {k x : Nat} (p : Part cs k x) : ∀ c, Is cs k c → ClosedAt cs M c.asks → k ∈ M → x ∈ M := by
  induction p with
  | self k => intro c _ _ h; exact h
  | low hk hc _ ih =>
    intro d hd hcl hm
    obtain rfl := hc.same hd
    obtain ⟨l, hl, hl2⟩ := g.lo _ _ hk hc
    exact ih l hl (hcl.mono (by omega)) (hcl _ _ hm hk hc (Int.le_refl _)).1
  | high hk hc _ ih =>
    intro d hd hcl hm
    obtain rfl := hc.same hd
    obtain ⟨l, hl, hl2⟩ := g.hi _ _ hk hc
    exact ih l hl (hcl.mono (by omega)) (hcl _ _ hm hk hc (Int.le_refl _)).2

theorem Got.same (g : NGood V cs) {M : List Nat} {k : Nat} {c : Nd} (hc : Is cs k c) (hcl : ClosedAt cs M c.asks) (hk : k ∈ M) (hn : M.Nodup) (hi : ∀ x ∈ M, ∃ c, Is cs x c) : Got cs M k M :=
  ⟨hn, fun _ => ⟨.inl, fun h => h.elim id fun p => part_in g p c hc hcl hk⟩, hi⟩

theorem Got.shut {M M' : List Nat} {k : Nat} {a : Int} (h : Got cs M k M') (hcl : ClosedAt cs M a) : ClosedAt cs M' a := by
  intro x c hx h2 hc ha
  rcases (h.mem x).1 hx with hm | p
  · exact ⟨(h.mem _).2 (.inl (hcl x c hm h2 hc ha).1), (h.mem _).2 (.inl (hcl x c hm h2 hc ha).2)⟩
  · exact ⟨(h.mem _).2 (.inr (p.trans (.low h2 hc (.self _)))), (h.mem _).2 (.inr (p.trans (.high h2 hc (.self _))))⟩

theorem shut_cons {M : List Nat} {k : Nat} {c : Nd} (hc : Is cs k c) (hcl : ClosedAt cs M c.asks) : ClosedAt cs (k :: M) (c.asks + 1) := by
  intro x y hx h2 hy hay
  rcases List.mem_cons.1 hx with rfl | hx
  · obtain rfl := hc.same hy; omega
  · have := hcl x y hx h2 hy (by omega)
    exact ⟨List.mem_cons_of_mem _ this.1, List.mem_cons_of_mem _ this.2⟩

theorem part_iff {k x : Nat} {c : Nd} (hk : 2 ≤ k) (hc : Is cs k c) : Part cs k x ↔ x = k ∨ Part cs c.low x ∨ Part cs c.high x := by
  constructor
  · intro p
    cases p with
    | self => exact .inl rfl
    | low _ hd p => obtain rfl := hc.same hd; exact .inr (.inl p)
    | high _ hd p => obtain rfl := hc.same hd; exact .inr (.inr p)
  · rintro (rfl | p | p)
    · exact .self _
    · exact .low hk hc p
    · exact .high hk hc p

/-- The node first, then low, then high. -/
theorem Got.pre {M M1 M2 : List Nat} {k : Nat} {c : Nd} (hk : 2 ≤ k) (hc : Is cs k c) (h1 : Got cs (k :: M) c.low M1) (h2 : Got cs M1 c.high M2) : Got cs M k M2 := by
  refine ⟨h2.nodup, fun x => ?_, h2.is⟩
  rw [h2.mem, h1.mem, part_iff hk hc, List.mem_cons]
  constructor
  · rintro (((h | h) | h) | h)
    · exact .inr (.inl h)
    · exact .inl h
    · exact .inr (.inr (.inl h))
    · exact .inr (.inr (.inr h))
  · rintro (h | h | h | h)
    · exact .inl (.inl (.inr h))
    · exact .inl (.inl (.inl h))
    · exact .inl (.inr h)
    · exact .inr h

/-- Low, then high, then the node. -/
theorem Got.post (g : NGood V cs) {M M1 M2 : List Nat} {k : Nat} {c : Nd} (hk : 2 ≤ k) (hc : Is cs k c) (hm : k ∉ M) (h1 : Got cs M c.low M1) (h2 : Got cs M1 c.high M2) : Got cs M k (k :: M2) ∧ k ∉ M2 := by
  have hkm : k ∉ M2 := by
    intro h
    rw [h2.mem, h1.mem] at h
    obtain ⟨l, hl, hl2⟩ := g.lo _ _ hk hc
    obtain ⟨r, hr, hr2⟩ := g.hi _ _ hk hc
    rcases h with (h | h) | h
    · exact hm h
    · obtain ⟨d, hd, hd2⟩ := h.is g hl
      obtain rfl := hc.same hd
      omega
    · obtain ⟨d, hd, hd2⟩ := h.is g hr
      obtain rfl := hc.same hd
      omega
  refine ⟨⟨List.nodup_cons.2 ⟨hkm, h2.nodup⟩, fun x => ?_, fun x hx => ?_⟩, hkm⟩
  · rw [List.mem_cons, h2.mem, h1.mem, part_iff hk hc]
    constructor
    · rintro (h | (h | h) | h)
      · exact .inr (.inl h)
      · exact .inl h
      · exact .inr (.inr (.inl h))
      · exact .inr (.inr (.inr h))
    · rintro (h | h | h | h)
      · exact .inr (.inl (.inl h))
      · exact .inl h
      · exact .inr (.inl (.inr h))
      · exact .inr (.inr h)
  · rcases List.mem_cons.1 hx with rfl | hx
    · exact ⟨c, hc⟩
    · exact h2.is x hx

theorem got_len {M : List Nat} (hn : M.Nodup) (hi : ∀ x ∈ M, ∃ c, Is cs x c) : M.length ≤ cs.length := by
  have := sub_length M (List.range cs.length) hn fun x hx => by
    obtain ⟨c, hc⟩ := hi x hx
    exact List.mem_range.2 hc.lt
  simpa using this

/-- The variables that marked nodes ask. -/
def askedB (cs : List Nd) (M : List Nat) (v : Nat) : Bool := M.any fun x => decide (2 ≤ x) && match cs[x]? with
  | some d => decide (d.asks = (v : Int))
  | none => false
theorem askedB_iff {M : List Nat} (hi : ∀ x ∈ M, ∃ c, Is cs x c) {v : Nat} : askedB cs M v = true ↔ ∃ x d, x ∈ M ∧ 2 ≤ x ∧ Is cs x d ∧ d.asks = v := by
  unfold askedB
  rw [List.any_eq_true]
  constructor
  · rintro ⟨x, hx, h⟩
    obtain ⟨c, hc⟩ := hi x hx
    rw [hc.1] at h
    simp at h
    exact ⟨x, c, hx, h.1, hc, h.2⟩
  · rintro ⟨x, d, hx, h2, hd, e⟩
    refine ⟨x, hx, ?_⟩
    rw [hd.1]
    simp [h2, e]
theorem askedB_cons {M : List Nat} {k v : Nat} {c : Nd} (hk : 2 ≤ k) (hc : Is cs k c) : askedB cs (k :: M) v = (decide (c.asks = (v : Int)) || askedB cs M v) := by
  unfold askedB
  rw [List.any_cons, hc.1]
  simp [hk]
theorem askedB_base (v : Nat) : askedB cs [1, 0] v = false := by
  unfold askedB
  simp
def askedRow (V : Nat) (cs : List Nd) (M : List Nat) : List Bool := (List.range V).map (askedB cs M)
theorem askedRow_base : askedRow V cs [1, 0] = List.replicate V false := by
  unfold askedRow
  refine List.ext_getElem? fun i => ?_
  rw [List.getElem?_map, List.getElem?_replicate]
  by_cases h : i < V
  · rw [List.getElem?_range h, if_pos h]; simp [askedB_base]
  · rw [if_neg h, List.getElem?_eq_none (by simp; omega)]; rfl
theorem askedRow_cons {M : List Nat} {k : Nat} {c : Nd} (hk : 2 ≤ k) (hc : Is cs k c) (h0 : 0 ≤ c.asks) (hV : c.asks < V) : askedRow V cs (k :: M) = (askedRow V cs M).set c.asks.toNat true := by
  unfold askedRow
  refine List.ext_getElem? fun i => ?_
  by_cases e : c.asks.toNat = i
  · subst e
    rw [List.getElem?_set_self (by simp; omega), List.getElem?_map, List.getElem?_range (by omega)]
    simp [askedB_cons hk hc]
    omega
  · rw [List.getElem?_set_ne e, List.getElem?_map, List.getElem?_map]
    by_cases h : i < V
    · rw [List.getElem?_range h]
      simp [askedB_cons hk hc]
      omega
    · rw [List.getElem?_eq_none (by simp; omega)]; rfl

/-- Those of a list that are earlier; those from one on. -/
def aheadN (L : List Nat) (v : Nat) : Nat := (L.filter fun x => decide (x < v)).length
def above (L : List Nat) (u : Nat) : List Nat := L.filter fun x => decide (u ≤ x)

theorem aheadN_zero (L : List Nat) : aheadN L 0 = 0 := by unfold aheadN; simp
theorem above_zero (L : List Nat) : above L 0 = L := by unfold above; simp
theorem aheadN_le (L : List Nat) (v : Nat) : aheadN L v ≤ L.length := List.length_filter_le _ _
theorem aheadN_mono (L : List Nat) {u v : Nat} (h : u ≤ v) : aheadN L u ≤ aheadN L v := by
  unfold aheadN
  induction L with
  | nil => simp
  | cons x r ih =>
    rw [List.filter_cons, List.filter_cons]
    by_cases h1 : x < u
    · rw [if_pos (by simpa using h1), if_pos (by simp; omega), List.length_cons, List.length_cons]; omega
    · rw [if_neg (by simpa using h1)]
      split
      · rw [List.length_cons]; omega
      · exact ih
/-- How many are between two places. -/
theorem aheadN_mid (L : List Nat) {u v : Nat} (h : u ≤ v) : ((above L u).filter fun x => decide (x < v)).length = aheadN L v - aheadN L u := by
  have : ((above L u).filter fun x => decide (x < v)).length + aheadN L u = aheadN L v := by
    unfold aheadN above
    induction L with
    | nil => simp
    | cons x r ih =>
      rw [List.filter_cons, List.filter_cons, List.filter_cons]
      by_cases h1 : x < u
      · rw [if_neg (by simp; omega), if_pos (by simpa using h1), if_pos (by simp; omega), List.length_cons, List.length_cons]; omega
      · rw [if_pos (by simp; omega), if_neg (by simpa using h1), List.filter_cons]
        by_cases h2 : x < v
        · rw [if_pos (by simpa using h2), if_pos (by simpa using h2), List.length_cons, List.length_cons]; omega
        · rw [if_neg (by simpa using h2), if_neg (by simpa using h2)]; exact ih
  omega
theorem above_above (L : List Nat) {u v : Nat} (h : u ≤ v) : (above L u).filter (fun x => !decide (x < v)) = above L v := by
  unfold above
  rw [List.filter_filter]
  refine List.filter_congr fun x _ => ?_
  by_cases h1 : v ≤ x
  · simp [h1]; omega
  · simp [h1]
theorem above_mem {L : List Nat} {u x : Nat} : x ∈ above L u ↔ x ∈ L ∧ u ≤ x := by unfold above; rw [List.mem_filter]; simp
theorem above_nodup {L : List Nat} (h : L.Nodup) (u : Nat) : (above L u).Nodup := h.filter _

/-- From an earlier place on: so many times as many for each variable between. -/
theorem count_up (g : NGood V cs) {L : List Nat} (hL : L.Nodup) {k u : Nat} {c : Nd} (hc : Is cs k c) (hu : (u : Int) ≤ c.asks) (val : Nat → Bool) :
    cntN (fun val => Says V cs val k) (above L u) val = 2 ^ (aheadN L c.asks.toNat - aheadN L u) * cntN (fun val => Says V cs val k) (above L c.asks.toNat) val := by
  have hp : (above L u).Perm ((above L u).filter (fun x => decide (x < c.asks.toNat)) ++ (above L u).filter (fun x => !decide (x < c.asks.toNat))) := (List.filter_append_perm (fun x => decide (x < c.asks.toNat)) (above L u)).symm
  rw [cntN_perm hp (above_nodup hL u), idle_many, aheadN_mid L (by omega), above_above L (by omega)]
  intro v hv
  rw [List.mem_filter] at hv
  have := hv.2
  simp at this
  exact says_idle g hc (by omega)

theorem above_cons {L : List Nat} (hL : L.Nodup) {v : Nat} (hv : v ∈ L) : (above L v).Perm (v :: above L (v + 1)) := by
  have h1 : v ∈ above L v := above_mem.2 ⟨hv, Nat.le_refl _⟩
  have h2 := List.perm_cons_erase h1
  have h3 : (above L v).erase v = above L (v + 1) := by
    rw [(above_nodup hL v).erase_eq_filter]
    unfold above
    rw [List.filter_filter]
    refine List.filter_congr fun x _ => ?_
    by_cases e : x = v
    · subst e; simp
    · by_cases h : v ≤ x
      · have : v + 1 ≤ x := by omega
        simp [h, this, e]
      · have : ¬ v + 1 ≤ x := by omega
        simp [h, this]
  rw [h3] at h2
  exact h2

/-- A node's count, from what it asks on. -/
theorem count_node (g : NGood V cs) {L : List Nat} (hL : L.Nodup) {k : Nat} {c : Nd} (hk : 2 ≤ k) (hc : Is cs k c) (hv : c.asks.toNat ∈ L) (val : Nat → Bool) :
    cntN (fun val => Says V cs val k) (above L c.asks.toNat) val = cntN (fun val => Says V cs val c.low) (above L (c.asks.toNat + 1)) val + cntN (fun val => Says V cs val c.high) (above L (c.asks.toNat + 1)) val := by
  rw [cntN_perm (above_cons hL hv) (above_nodup hL _)]
  exact cntN_node g hk hc (fun h => by have := (above_mem.1 h).2; omega) val

theorem aheadN_succ {L : List Nat} (hL : L.Nodup) (v : Nat) : aheadN L (v + 1) = aheadN L v + if v ∈ L then 1 else 0 := by
  unfold aheadN
  induction L with
  | nil => simp
  | cons x r ih =>
    have hn := List.nodup_cons.1 hL
    rw [List.filter_cons, List.filter_cons]
    by_cases e : x = v
    · subst e
      rw [if_pos (by simp), if_neg (by simp), if_pos (by simp), List.length_cons, ih hn.2, if_neg hn.1]
    · have e' : (v ∈ x :: r) = (v ∈ r) := by
        rw [List.mem_cons]
        exact propext ⟨fun h => h.elim (fun h => absurd h.symm e) id, .inr⟩
      by_cases h : x < v
      · rw [if_pos (by simp; omega), if_pos (by simpa using h), List.length_cons, List.length_cons, ih hn.2]
        simp only [e']
        omega
      · rw [if_neg (by simp; omega), if_neg (by simpa using h), ih hn.2]
        simp only [e']

/-- The count of a node's values, from a place on, not above the greatest. -/
def cntC (V : Nat) (cs : List Nd) (L : List Nat) (k u : Nat) : Int := clip ((cntN (fun val => Says V cs val k) (above L u) (fun _ => false) : Nat) : Int)
def val0 : Nat → Bool := fun _ => false

theorem cntC_up (g : NGood V cs) {L : List Nat} (hL : L.Nodup) {k u : Nat} {c : Nd} (hc : Is cs k c) (hu : (u : Int) ≤ c.asks) :
    smul (cntC V cs L k c.asks.toNat) (spow ((aheadN L c.asks.toNat : Nat) - (aheadN L u : Nat) : Int)) = cntC V cs L k u := by
  have h1 := aheadN_mono L (u := u) (v := c.asks.toNat) (by omega)
  rw [show ((aheadN L c.asks.toNat : Nat) - (aheadN L u : Nat) : Int) = ((aheadN L c.asks.toNat - aheadN L u : Nat) : Int) by omega, spow_clip]
  unfold cntC
  rw [smul_clip (by omega) (Int.natCast_nonneg _), count_up g hL hc hu, Int.mul_comm, ← Int.natCast_mul]
theorem cntC_node (g : NGood V cs) {L : List Nat} (hL : L.Nodup) {k : Nat} {c : Nd} (hk : 2 ≤ k) (hc : Is cs k c) (hv : c.asks.toNat ∈ L) :
    sadd (cntC V cs L c.low (c.asks.toNat + 1)) (cntC V cs L c.high (c.asks.toNat + 1)) = cntC V cs L k c.asks.toNat := by
  unfold cntC
  rw [sadd_clip (by omega) (by omega), count_node g hL hk hc hv]
  congr 1
theorem cntC_zero {L : List Nat} {u : Nat} : cntC V cs L 0 u = 0 := by
  unfold cntC
  rw [cntN_none fun val => Says_zero val]
  rfl
theorem cntC_one {L : List Nat} {u : Nat} (h : above L u = []) : cntC V cs L 1 u = 1 := by
  unfold cntC
  rw [h]
  simp only [cntN, Says_one]
  rfl
end Go.Proofs.Ytkmffmlnondolaa

/- Layer 6 (count): a set of numbers in memory; what is asked of a store: its refusal, what a number's node is. -/
namespace Go.Proofs.Ytkmffmlnondolaa
open Go.ChangeShapes Go.WideShapes Go.ChangeAt Go.RowKit Go.Maps

theorem zeroUnitC (w : World) : (zeroValue 64).run Try.prog w = .ok (.agg #[]) w := by kernel_rfl

/-- Block b is the set of the numbers l. -/
structure KSet (w : World) (b : Nat) (l : List Nat) : Prop where
  own : ∃ D : DataW Unit, w.ownsMap Try.prog 3 unitElem b l.length D ∧ (∀ k : Nat, Maps.has D (.int .i64 k) = decide (k ∈ l)) ∧ Maps.size D = l.length
  nodup : l.Nodup
  lt : ∀ x ∈ l, x < 1048576

theorem KSet.len {w : World} {b : Nat} {l : List Nat} (h : KSet w b l) : l.length ≤ 1048576 := by
  have := sub_length l (List.range 1048576) h.nodup fun x hx => List.mem_range.2 (h.lt x hx)
  rw [List.length_range] at this
  exact this
theorem KSet.lt_b {w : World} {b : Nat} {l : List Nat} (h : KSet w b l) : b < w.heap.size := by
  obtain ⟨D, h1, _⟩ := h.own; exact h1.lt
theorem KSet.of {w w' : World} {b : Nat} {l : List Nat} (h : KSet w b l) (e : w'.heap[b]? = w.heap[b]?) : KSet w' b l := by
  obtain ⟨D, ⟨es, clock, h1, h2⟩, h3⟩ := h.own
  exact ⟨⟨D, ⟨es, clock, e.trans h1, h2⟩, h3⟩, h.nodup, h.lt⟩
theorem KSet.keep {w w' : World} {b : Nat} {l : List Nat} (h : KSet w b l) (hb : Below w.heap.size w w') : KSet w' b l := h.of (hb.block _ h.lt_b)
theorem KSet.made (w : World) : KSet (w.alloc (.map #[] 0)) w.heap.size [] :=
  ⟨⟨.map [], World.ownsMap_made _ _ _ _, fun k => by simp [Maps.has], rfl⟩, List.nodup_nil, fun x h => by cases h⟩
theorem KSet.not_row {w : World} {b g : Nat} {l : List Nat} {cs : Array Value} {t : TypeId} {fr : Nat × Nat} (h : KSet w b l) (hc : w.heap[g]? = some (.cells cs t fr)) : g ≠ b := by
  obtain ⟨D, ⟨es, clock, h1, h2⟩, h3⟩ := h.own
  rintro rfl
  rw [hc] at h1
  cases h1
theorem KSet.not_cell {w : World} {b : Nat} {l : List Nat} (h : KSet w b l) {t : Nat} {v : Value} (hc : w.cell? ⟨t, 0, none⟩ = some v) : t ≠ b := by
  obtain ⟨D, ⟨es, clock, h1, h2⟩, h3⟩ := h.own
  rintro rfl
  unfold World.cell? at hc
  rw [h1] at hc
  cases hc

theorem KSet.look {w : World} {b : Nat} {l : List Nat} (h : KSet w b l) {k : Nat} (hk : k < 1048576) :
    (Instr.lookup 96 (.map (some b)) (.int .i64 (k : Int)) true).run Try.prog w = .ok (.tuple #[.agg #[], .bool (decide (k ∈ l))]) w := by
  obtain ⟨D, h1, h2, _⟩ := h.own
  obtain ⟨v, ps, hrun, hv⟩ := World.ownsMap.look_ok h1 lawInt Try.underlying96 (zeroUnitC w) unitElem_mk (keyInt k hk)
  obtain ⟨rfl, _⟩ := unitElem_inv hv
  rw [hrun, h2]

set_option maxRecDepth 100000 in
theorem KSet.add {w : World} {b : Nat} {l : List Nat} (h : KSet w b l) {k : Nat} (hk : k < 1048576) (hn : k ∉ l) :
    ∃ w', (Instr.mapUpdate 96 (.map (some b)) (.int .i64 (k : Int)) (.agg #[])).run Try.prog w = .ok () w' ∧ KSet w' b (k :: l) ∧ Turn (fun i => i = b) w w' := by
  obtain ⟨D, h1, h2, h3⟩ := h.own
  have hl := h.len
  obtain ⟨w', hrun, r1, r2⟩ := World.ownsMap.update h1 lawInt Try.underlying96 (by unfold maxLen; omega) (keyInt k hk) unitElem_mk
  have ht : Turn (fun i => i = b) w w' := (Turn.refl _ w).grown r2 (fun i e => .inl (by injection e with e; exact e.symm))
  have hi := h1.isMap
  have hy := h1.tidy lawInt
  refine ⟨w', hrun, ⟨⟨_, r1, fun j => ?_, ?_⟩, List.nodup_cons.2 ⟨hn, h.nodup⟩, ?_⟩, ht⟩
  · by_cases e : j = k
    · subst e; rw [has_put_same hi (by simp [WideAt.IsKeyLit])]; simp
    · rw [has_put_other (by simp; omega), h2]; simp [e]
  · rw [size_put hy, h2, h3]; simp [hn]
  · intro x hx
    rcases List.mem_cons.1 hx with rfl | hx
    · exact hk
    · exact h.lt x hx

theorem node_yesB {w : World} {m : Mem} {h : Hd} {cs : List Nd} (s : St w m h cs) {k : Nat} {c : Nd} (hk : Is cs k c) :
    Calls Try.prog 26 #[ptrV m.s, .int .i64 k] w fun e w' => e = .returned (.tuple #[.int .i64 c.asks, .int .i64 c.low, .int .i64 c.high, .int .i64 0]) ∧ Below w.heap.size w w' :=
  (node_yes s.lay hk).mono fun e w' ⟨h1, q, h2⟩ => ⟨h1, by rw [h2]; exact below_drewN0 w q⟩

/-- Why a number is refused: 0 where it is a node's. -/
theorem cref_yes {w : World} {m : Mem} {h : Hd} {cs : List Nd} (s : St w m h cs) {k : Nat} {c : Nd} (hk : Is cs k c) :
    Calls Try.prog 45 #[ptrV m.s, .int .i64 k] w fun e w' => e = .returned (.int .i64 0) ∧ Below w.heap.size w w' := by
  have H := Lib.hid (node_yesB s hk)
  clear s hk
  unfold ptrV at *
  go_enter Try.func45, Try.ntmps45
  go_wp2_with fail
  refine H.out.mono ?_
  rintro e w' ⟨rfl, hb⟩
  clear H
  go_wp2_with fail
  go_ret
  exact ⟨rfl, hb⟩
theorem cref_no {w : World} {m : Mem} {h : Hd} {cs : List Nd} (l : Lay w m h cs) (k : Int) (hk : thereB cs k = false) :
    Calls Try.prog 45 #[ptrV m.s, .int .i64 k] w fun e w' => e = .returned (.int .i64 3) ∧ w = w' := by
  have H := Lib.hid (node_no l k hk)
  clear l hk
  unfold ptrV at *
  go_enter Try.func45, Try.ntmps45
  go_wp2_with fail
  refine H.out.mono ?_
  rintro e w' ⟨rfl, rfl⟩
  clear H
  go_wp2_with fail
  go_ret
  exact ⟨rfl, rfl⟩
theorem cref_nbs {w : World} {pv : Value} (h : NBs w pv) (k : Int) :
    Calls Try.prog 45 #[pv, .int .i64 k] w fun e w' => e = .returned (.int .i64 1) ∧ w = w' := by
  have H := Lib.hid (node_nbs h k)
  clear h
  go_enter Try.func45, Try.ntmps45
  go_wp2_with fail
  refine H.out.mono ?_
  rintro e w' ⟨rfl, rfl⟩
  clear H
  go_wp2_with fail
  go_ret
  exact ⟨rfl, rfl⟩
end Go.Proofs.Ytkmffmlnondolaa
