/- Plain facts on tables with open places: lists alone, no program. -/
import Derived.Below
namespace Go.Proofs.Ytfdebadmikmnaaa

/-- A key: three numbers. -/
structure Key where
  a : Int
  b : Int
  c : Int
  deriving DecidableEq

/-- A place: 0 free, 1 taken, 2 dropped; its key; its value. -/
structure Pl where
  st : Nat
  k : Key
  v : Int

/-- The place is as New lays it. -/
def Pl.zero : Pl := ⟨0, ⟨0, 0, 0⟩, 0⟩

def full (p : Pl) : Bool := p.st == 1
def used (p : Pl) : Bool := p.st != 0

/-- Whoever has a key stands on its way, and nothing on the way ahead of it is free; no key stands twice. -/
structure Good (h : Key → Nat) (ps : List Pl) : Prop where
  path : ∀ (k : Key) (v : Int) (j : Nat), j < ps.length → ps[(h k + j) % ps.length]? = some ⟨1, k, v⟩ → ∀ i, i < j → ∃ p, ps[(h k + i) % ps.length]? = some p ∧ p.st ≠ 0
  uniq : ∀ (i j : Nat) (k : Key) (v v' : Int), ps[i]? = some ⟨1, k, v⟩ → ps[j]? = some ⟨1, k, v'⟩ → i = j

/-- The places say f of keys; n keys are there; u places are not free. -/
structure Rep (h : Key → Nat) (ps : List Pl) (f : Key → Option Int) (n u : Nat) : Prop where
  good : Good h ps
  says : ∀ k v, f k = some v ↔ ∃ i : Nat, ps[i]? = some ⟨1, k, v⟩
  keys : ps.countP full = n
  uses : ps.countP used = u

theorem full_used (ps : List Pl) : ps.countP full ≤ ps.countP used := by
  apply List.countP_mono_left
  intro p _ h
  simp [full] at h
  simp [used, h]

theorem Rep.le {h : Key → Nat} {ps : List Pl} {f : Key → Option Int} {n u : Nat} (r : Rep h ps f n u) : n ≤ u := by
  rw [← r.keys, ← r.uses]; exact full_used ps

theorem Rep.len {h : Key → Nat} {ps : List Pl} {f : Key → Option Int} {n u : Nat} (r : Rep h ps f n u) : u ≤ ps.length := by
  rw [← r.uses]; exact List.countP_le_length

/-- Some place is free. -/
theorem some_free (ps : List Pl) (h : ps.countP used < ps.length) : ∃ (i : Nat) (p : Pl), ps[i]? = some p ∧ p.st = 0 := by
  refine Classical.byContradiction fun hn => ?_
  have : ps.countP used = ps.length := by
    rw [List.countP_eq_length]
    intro p hp
    obtain ⟨i, hi⟩ := List.getElem?_of_mem hp
    simp only [used, bne_iff_ne]
    intro h0
    exact hn ⟨i, p, hi, h0⟩
  omega

/-- Every place is on a key's way. -/
theorem on_way (a x m : Nat) (hx : x < m) : ∃ j, j < m ∧ (a + j) % m = x := by
  refine ⟨(x + m - a % m) % m, Nat.mod_lt _ (by omega), ?_⟩
  have h1 : a % m < m := Nat.mod_lt _ (by omega)
  rw [Nat.add_mod, Nat.mod_mod]
  by_cases h : a % m ≤ x
  · have : (x + m - a % m) % m = x - a % m := by
      rw [show x + m - a % m = (x - a % m) + m by omega, Nat.add_mod_right, Nat.mod_eq_of_lt (by omega)]
    rw [this, Nat.mod_eq_of_lt (by omega)]; omega
  · have : (x + m - a % m) % m = x + m - a % m := Nat.mod_eq_of_lt (by omega)
    rw [this, show a % m + (x + m - a % m) = x + m by omega, Nat.add_mod_right, Nat.mod_eq_of_lt hx]

/-- Two steps of one way that end at one place are one step. -/
theorem way_inj (a i j m : Nat) (hi : i < m) (hj : j < m) (h : (a + i) % m = (a + j) % m) : i = j := by
  have hm : 0 < m := by omega
  have e1 := Nat.mod_add_div (a + i) m
  have e2 := Nat.mod_add_div (a + j) m
  rw [h] at e1
  generalize (a + j) % m = r at *
  generalize (a + i) / m = q1 at *
  generalize (a + j) / m = q2 at *
  rcases Nat.lt_trichotomy q1 q2 with h1 | h1 | h1
  · have : m * (q1 + 1) ≤ m * q2 := Nat.mul_le_mul_left _ (by omega)
    rw [Nat.mul_add] at this; omega
  · subst h1; omega
  · have : m * (q2 + 1) ≤ m * q1 := Nat.mul_le_mul_left _ (by omega)
    rw [Nat.mul_add] at this; omega

theorem way_next (a j m : Nat) : ((a + j) % m + 1) % m = (a + (j + 1)) % m := by
  rw [Nat.mod_add_mod]; rfl

/-- The first j places of a key's way are neither free nor the key's. -/
def Walked (ps : List Pl) (a : Nat) (k : Key) (j : Nat) : Prop :=
  ∀ i, i < j → ∃ p, ps[(a + i) % ps.length]? = some p ∧ p.st ≠ 0 ∧ ¬ (p.st = 1 ∧ p.k = k)

theorem Walked.zero (ps : List Pl) (a : Nat) (k : Key) : Walked ps a k 0 := fun i hi => absurd hi (by omega)

theorem Walked.next {ps : List Pl} {a : Nat} {k : Key} {j : Nat} (h : Walked ps a k j) {p : Pl} (hp : ps[(a + j) % ps.length]? = some p) (h0 : p.st ≠ 0) (h1 : ¬ (p.st = 1 ∧ p.k = k)) : Walked ps a k (j + 1) := by
  intro i hi
  by_cases e : i = j
  · subst e; exact ⟨p, hp, h0, h1⟩
  · exact h i (by omega)

theorem Walked.lt {ps : List Pl} {a : Nat} {k : Key} {j : Nat} (h : Walked ps a k j) (hf : ps.countP used < ps.length) : j < ps.length := by
  obtain ⟨x, p, hx, h0⟩ := some_free ps hf
  obtain ⟨i, hi, e⟩ := on_way a x ps.length (List.getElem?_eq_some_iff.1 hx).1
  rcases Nat.lt_or_ge i j with hij | hij
  · obtain ⟨p', hp', h0', _⟩ := h i hij
    rw [e, hx] at hp'
    injection hp' with hp'
    subst hp'
    exact absurd h0 h0'
  · omega

/-- What find tells: where the key stands, or where it may be put. -/
def Found (h : Key → Nat) (ps : List Pl) (k : Key) (at' : Nat) (there : Bool) : Prop :=
  if there then ∃ v, ps[at']? = some ⟨1, k, v⟩
  else ∃ j i, j < ps.length ∧ i ≤ j ∧ Walked ps (h k) k j ∧ (∃ p, ps[(h k + j) % ps.length]? = some p ∧ p.st = 0) ∧ at' = (h k + i) % ps.length ∧ (∃ p, ps[at']? = some p ∧ p.st ≠ 1)

theorem Rep.none_of {h : Key → Nat} {ps : List Pl} {f : Key → Option Int} {n u : Nat} (r : Rep h ps f n u) {k : Key} {j : Nat} (hj : j < ps.length) (hw : Walked ps (h k) k j)
    (hf : ∃ p, ps[(h k + j) % ps.length]? = some p ∧ p.st = 0) : f k = none := by
  cases hfk : f k with
  | none => rfl
  | some v =>
    exfalso
    obtain ⟨x, hx⟩ := (r.says k v).1 hfk
    obtain ⟨i, hi, e⟩ := on_way (h k) x ps.length (List.getElem?_eq_some_iff.1 hx).1
    rw [← e] at hx
    obtain ⟨p, hp, h0⟩ := hf
    rcases Nat.lt_trichotomy i j with hij | hij | hij
    · obtain ⟨p', hp', _, hn⟩ := hw i hij
      rw [hx] at hp'
      injection hp' with hp'
      subst hp'
      exact hn ⟨rfl, rfl⟩
    · subst hij
      rw [hx] at hp
      injection hp with hp
      subst hp
      exact absurd h0 (by simp)
    · obtain ⟨p', hp', h0'⟩ := r.good.path k v i hi hx j hij
      rw [hp] at hp'
      injection hp' with hp'
      subst hp'
      exact h0' h0

theorem Rep.found_none {h : Key → Nat} {ps : List Pl} {f : Key → Option Int} {n u : Nat} (r : Rep h ps f n u) {k : Key} {x : Nat} (hf : Found h ps k x false) : f k = none := by
  simp only [Found, Bool.false_eq_true, if_false] at hf
  obtain ⟨j, i, hj, hij, hw, hfree, _⟩ := hf
  exact r.none_of hj hw hfree

theorem Rep.found_some {h : Key → Nat} {ps : List Pl} {f : Key → Option Int} {n u : Nat} (r : Rep h ps f n u) {k : Key} {x : Nat} (hf : Found h ps k x true) : ∃ v, f k = some v ∧ ps[x]? = some ⟨1, k, v⟩ := by
  simp only [Found, if_true] at hf
  obtain ⟨v, hv⟩ := hf
  exact ⟨v, (r.says k v).2 ⟨x, hv⟩, hv⟩

def fset (f : Key → Option Int) (k : Key) (v : Option Int) : Key → Option Int := fun k' => if k' = k then v else f k'

theorem get_set (ps : List Pl) (x i : Nat) (p : Pl) (hx : x < ps.length) : (ps.set x p)[i]? = if x = i then some p else ps[i]? := by
  rw [List.getElem?_set]
  by_cases h : x = i
  · subst h; simp [hx]
  · simp [h]

theorem count_set (g : Pl → Bool) (ps : List Pl) (x : Nat) (p q : Pl) (hx : ps[x]? = some q) : (ps.set x p).countP g + (if g q then 1 else 0) = ps.countP g + (if g p then 1 else 0) := by
  induction ps generalizing x with
  | nil => simp at hx
  | cons a r ih =>
    cases x with
    | zero =>
      simp at hx
      subst hx
      simp only [List.set_cons_zero, List.countP_cons]
      omega
    | succ x =>
      simp at hx
      have := ih x hx
      simp only [List.set_cons_succ, List.countP_cons]
      omega

/-- A key that is not there is put where find says. -/
theorem Rep.put_new {h : Key → Nat} {ps : List Pl} {f : Key → Option Int} {n u : Nat} (r : Rep h ps f n u) {k : Key} {x : Nat} (v : Int) (hf : Found h ps k x false) :
    ∃ p, ps[x]? = some p ∧ (p.st = 0 ∨ p.st ≠ 0 ∧ p.st ≠ 1) ∧ Rep h (ps.set x ⟨1, k, v⟩) (fset f k (some v)) (n + 1) (if p.st = 0 then u + 1 else u) := by
  have hfk := r.found_none hf
  simp only [Found, Bool.false_eq_true, if_false] at hf
  obtain ⟨j, i, hj, hij, hw, hfree, hxe, q, hq, hq1⟩ := hf
  have hx : x < ps.length := (List.getElem?_eq_some_iff.1 hq).1
  have hno : ∀ (y : Nat) (v' : Int), ps[y]? ≠ some ⟨1, k, v'⟩ := fun y v' e => by
    have := (r.says k v').2 ⟨y, e⟩
    rw [hfk] at this; cases this
  refine ⟨q, hq, ?_, ⟨⟨?_, ?_⟩, ?_, ?_, ?_⟩⟩
  · omega
  · intro k' v' j' hj' hp i' hi'
    rw [List.length_set] at hj' hp ⊢
    rw [get_set _ _ _ _ hx] at hp ⊢
    by_cases e : x = (h k' + i') % ps.length
    · rw [if_pos e]; exact ⟨_, rfl, by simp⟩
    · rw [if_neg e]
      by_cases e2 : x = (h k' + j') % ps.length
      · rw [if_pos e2] at hp
        injection hp with hp
        injection hp with _ hk hv
        subst hk
        have : i = j' := way_inj _ _ _ _ (by omega) hj' (hxe.symm.trans e2)
        subst this
        obtain ⟨p, hp, h0, _⟩ := hw i' (by omega)
        exact ⟨p, hp, h0⟩
      · rw [if_neg e2] at hp
        exact r.good.path k' v' j' hj' hp i' hi'
  · intro i1 j1 k' v1 v2 h1 h2
    rw [get_set _ _ _ _ hx] at h1 h2
    by_cases e1 : x = i1 <;> by_cases e2 : x = j1
    · omega
    · rw [if_pos e1] at h1; rw [if_neg e2] at h2
      injection h1 with h1; injection h1 with _ hk _; subst hk
      exact absurd h2 (hno _ _)
    · rw [if_neg e1] at h1; rw [if_pos e2] at h2
      injection h2 with h2; injection h2 with _ hk _; subst hk
      exact absurd h1 (hno _ _)
    · rw [if_neg e1] at h1; rw [if_neg e2] at h2
      exact r.good.uniq i1 j1 k' v1 v2 h1 h2
  · intro k' v'
    unfold fset
    by_cases e : k' = k
    · subst e
      rw [if_pos rfl]
      constructor
      · intro he; injection he with he; subst he
        exact ⟨x, by rw [get_set _ _ _ _ hx, if_pos rfl]⟩
      · rintro ⟨y, hy⟩
        rw [get_set _ _ _ _ hx] at hy
        by_cases ey : x = y
        · rw [if_pos ey] at hy; injection hy with hy; injection hy with _ _ hv; rw [hv]
        · rw [if_neg ey] at hy; exact absurd hy (hno _ _)
    · rw [if_neg e, r.says k' v']
      constructor
      · rintro ⟨y, hy⟩
        refine ⟨y, ?_⟩
        rw [get_set _ _ _ _ hx]
        by_cases ey : x = y
        · subst ey; rw [hq] at hy; injection hy with hy; subst hy; exact absurd rfl hq1
        · rw [if_neg ey]; exact hy
      · rintro ⟨y, hy⟩
        refine ⟨y, ?_⟩
        rw [get_set _ _ _ _ hx] at hy
        by_cases ey : x = y
        · rw [if_pos ey] at hy; injection hy with hy; injection hy with _ hk _; exact absurd hk.symm e
        · rw [if_neg ey] at hy; exact hy
  · have := count_set full ps x ⟨1, k, v⟩ q hq
    have hk := r.keys
    have h1 : full q = false := by simp [full, hq1]
    have h2 : full ⟨1, k, v⟩ = true := by simp [full]
    rw [h1, h2] at this
    simp at this; omega
  · have := count_set used ps x ⟨1, k, v⟩ q hq
    have hk := r.uses
    have h2 : used ⟨1, k, v⟩ = true := by simp [used]
    rw [h2] at this
    by_cases e : q.st = 0
    · have h1 : used q = false := by simp [used, e]
      rw [h1] at this; rw [if_pos e]; simp at this; omega
    · have h1 : used q = true := by simp [used, e]
      rw [h1] at this; rw [if_neg e]; simp at this; omega

/-- A taken place stays taken by the key, with another value; or is dropped. -/
theorem Rep.set_old {h : Key → Nat} {ps : List Pl} {f : Key → Option Int} {n u : Nat} (r : Rep h ps f n u) {k : Key} {x : Nat} {v : Int} (hx : ps[x]? = some ⟨1, k, v⟩) (v' : Int) :
    Rep h (ps.set x ⟨1, k, v'⟩) (fset f k (some v')) n u := by
  have hl : x < ps.length := (List.getElem?_eq_some_iff.1 hx).1
  refine ⟨⟨?_, ?_⟩, ?_, ?_, ?_⟩
  · intro k1 v1 j hj hp i hi
    rw [List.length_set] at hj hp ⊢
    rw [get_set _ _ _ _ hl] at hp ⊢
    by_cases e : x = (h k1 + i) % ps.length
    · rw [if_pos e]; exact ⟨_, rfl, by simp⟩
    · rw [if_neg e]
      by_cases e2 : x = (h k1 + j) % ps.length
      · rw [if_pos e2] at hp
        injection hp with hp; injection hp with _ hk _
        subst hk
        exact r.good.path k v j hj (by rw [← e2]; exact hx) i hi
      · rw [if_neg e2] at hp
        exact r.good.path k1 v1 j hj hp i hi
  · have key : ∀ (i : Nat) (k1 : Key) (v1 : Int), (ps.set x ⟨1, k, v'⟩)[i]? = some ⟨1, k1, v1⟩ → ∃ v2, ps[i]? = some ⟨1, k1, v2⟩ := by
      intro i k1 v1 h1
      rw [get_set _ _ _ _ hl] at h1
      by_cases e : x = i
      · rw [if_pos e] at h1; injection h1 with h1; injection h1 with _ hk _; subst hk; subst e; exact ⟨_, hx⟩
      · rw [if_neg e] at h1; exact ⟨_, h1⟩
    intro i j k1 v1 v2 h1 h2
    obtain ⟨_, h1⟩ := key _ _ _ h1
    obtain ⟨_, h2⟩ := key _ _ _ h2
    exact r.good.uniq _ _ _ _ _ h1 h2
  · intro k1 v1
    unfold fset
    by_cases e : k1 = k
    · subst e
      rw [if_pos rfl]
      constructor
      · intro he; injection he with he; subst he
        exact ⟨x, by rw [get_set _ _ _ _ hl, if_pos rfl]⟩
      · rintro ⟨y, hy⟩
        rw [get_set _ _ _ _ hl] at hy
        by_cases ey : x = y
        · rw [if_pos ey] at hy; injection hy with hy; injection hy with _ _ hv; rw [hv]
        · rw [if_neg ey] at hy; exact absurd (r.good.uniq _ _ _ _ _ hx hy) ey
    · rw [if_neg e, r.says k1 v1]
      constructor
      · rintro ⟨y, hy⟩
        refine ⟨y, ?_⟩
        rw [get_set _ _ _ _ hl]
        by_cases ey : x = y
        · subst ey; rw [hx] at hy; injection hy with hy; injection hy with _ hk _; exact absurd hk.symm e
        · rw [if_neg ey]; exact hy
      · rintro ⟨y, hy⟩
        refine ⟨y, ?_⟩
        rw [get_set _ _ _ _ hl] at hy
        by_cases ey : x = y
        · rw [if_pos ey] at hy; injection hy with hy; injection hy with _ hk _; exact absurd hk.symm e
        · rw [if_neg ey] at hy; exact hy
  · have := count_set full ps x ⟨1, k, v'⟩ _ hx
    have hk := r.keys
    have h1 : full ⟨1, k, v'⟩ = true := rfl
    have h2 : full ⟨1, k, v⟩ = true := rfl
    rw [h1, h2] at this; omega
  · have := count_set used ps x ⟨1, k, v'⟩ _ hx
    have hk := r.uses
    have h1 : used ⟨1, k, v'⟩ = true := rfl
    have h2 : used ⟨1, k, v⟩ = true := rfl
    rw [h1, h2] at this; omega

theorem Rep.drop {h : Key → Nat} {ps : List Pl} {f : Key → Option Int} {n u : Nat} (r : Rep h ps f n u) {k : Key} {x : Nat} {v : Int} (hx : ps[x]? = some ⟨1, k, v⟩) (q : Key) (z : Int) :
    Rep h (ps.set x ⟨2, q, z⟩) (fset f k none) (n - 1) u ∧ 1 ≤ n := by
  have hl : x < ps.length := (List.getElem?_eq_some_iff.1 hx).1
  have key : ∀ (i : Nat) (k1 : Key) (v1 : Int), (ps.set x ⟨2, q, z⟩)[i]? = some ⟨1, k1, v1⟩ → ps[i]? = some ⟨1, k1, v1⟩ ∧ x ≠ i := by
    intro i k1 v1 h1
    rw [get_set _ _ _ _ hl] at h1
    by_cases e : x = i
    · rw [if_pos e] at h1; injection h1 with h1; injection h1 with hs _ _; omega
    · rw [if_neg e] at h1; exact ⟨h1, e⟩
  have hc := count_set full ps x ⟨2, q, z⟩ _ hx
  have hk := r.keys
  have hf1 : full ⟨2, q, z⟩ = false := rfl
  have hf2 : full ⟨1, k, v⟩ = true := rfl
  rw [hf1, hf2] at hc
  simp only [if_true, Bool.false_eq_true, if_false] at hc
  refine ⟨⟨⟨?_, ?_⟩, ?_, ?_, ?_⟩, by omega⟩
  · intro k1 v1 j hj hp i hi
    rw [List.length_set] at hj hp ⊢
    obtain ⟨hp, _⟩ := key _ _ _ hp
    rw [get_set _ _ _ _ hl]
    by_cases e : x = (h k1 + i) % ps.length
    · rw [if_pos e]; exact ⟨_, rfl, by simp⟩
    · rw [if_neg e]; exact r.good.path k1 v1 j hj hp i hi
  · intro i j k1 v1 v2 h1 h2
    exact r.good.uniq _ _ _ _ _ (key _ _ _ h1).1 (key _ _ _ h2).1
  · intro k1 v1
    unfold fset
    by_cases e : k1 = k
    · subst e
      rw [if_pos rfl]
      constructor
      · intro he; cases he
      · rintro ⟨y, hy⟩
        obtain ⟨hy, hne⟩ := key _ _ _ hy
        exact absurd (r.good.uniq _ _ _ _ _ hx hy) hne
    · rw [if_neg e, r.says k1 v1]
      constructor
      · rintro ⟨y, hy⟩
        refine ⟨y, ?_⟩
        rw [get_set _ _ _ _ hl]
        by_cases ey : x = y
        · subst ey; rw [hx] at hy; injection hy with hy; injection hy with _ hk _; exact absurd hk.symm e
        · rw [if_neg ey]; exact hy
      · rintro ⟨y, hy⟩
        exact ⟨y, (key _ _ _ hy).1⟩
  · omega
  · have := count_set used ps x ⟨2, q, z⟩ _ hx
    have hk := r.uses
    have h1 : used ⟨2, q, z⟩ = true := rfl
    have h2 : used ⟨1, k, v⟩ = true := rfl
    rw [h1, h2] at this; omega

theorem Rep.new (h : Key → Nat) (m : Nat) : Rep h (List.replicate m Pl.zero) (fun _ => none) 0 0 := by
  have hz : ∀ (i : Nat) (p : Pl), (List.replicate m Pl.zero)[i]? = some p → p = Pl.zero := by
    intro i p hp
    have := List.mem_of_getElem? hp
    exact (List.mem_replicate.1 this).2
  refine ⟨⟨?_, ?_⟩, ?_, ?_, ?_⟩
  · intro k v j _ hp
    have := hz _ _ hp
    injection this with h0 _ _; omega
  · intro i j k v v' h1 _
    have := hz _ _ h1
    injection this with h0 _ _; omega
  · intro k v
    constructor
    · intro h; cases h
    · rintro ⟨i, hi⟩
      have := hz _ _ hi
      injection this with h0 _ _; omega
  · rw [List.countP_replicate]; simp [full, Pl.zero]
  · rw [List.countP_replicate]; simp [used, Pl.zero]

end Go.Proofs.Ytfdebadmikmnaaa
