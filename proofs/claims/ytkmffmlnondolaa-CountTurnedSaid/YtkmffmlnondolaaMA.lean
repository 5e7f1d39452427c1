/- Merged: Rd, HPlain, HBase, HOps, HReb, HTab, HPut. -/
import Derived.Test.YtkmffmlnondolaaRows
import Derived.WalkKit
import Derived.ProofKit
import Derived.OpenShut
import Derived.Deep.Grids
import Derived.Below
import Derived.Lib.Hide
import Derived.LaidEqlPtr
import Derived.Deep.QuietTactic
import Derived.BigQuiet
import Derived.IntWalk
import Derived.Laws.StructEq
import Derived.Laws.BitsLemmas
import Derived.Outline
import Derived.RegionTactic
import Derived.ChangeAlike
import Derived.Laws.MakeOwn
import Derived.Laws.Entries

/- Words for memory, for all layers: a slice that reads as a list of cells, each of one cell. -/
namespace Go.Proofs.Ytkmffmlnondolaa
open Go.ChangeShapes Go.WideShapes Go.ChangeAt Go.RowKit

/-- The slice value '.slice A n c' reads as the cells xs: it is empty, or its cells lie in one block that is there. -/
def Rd (w : World) (A : Option Addr) (xs : List Value) : Prop :=
  xs = [] ∨ ∃ b off, A = some ⟨b, off, none⟩ ∧ b < w.heap.size ∧ ∀ j u, xs[j]? = some u → w.cell? ⟨b, off + j, none⟩ = some u

theorem Rd.keep {w w' : World} {A : Option Addr} {xs : List Value} (h : Rd w A xs) (hb : Below w.heap.size w w') : Rd w' A xs := by
  rcases h with h | ⟨b, off, hA, hlt, hc⟩
  · exact .inl h
  · exact .inr ⟨b, off, hA, Nat.lt_of_lt_of_le hlt hb.size, fun j u hu => (hb.cell (p := ⟨b, off + j, none⟩) hlt).trans (hc j u hu)⟩

theorem lt_of_cell {w : World} {b off : Nat} {u : Value} (h : w.cell? ⟨b, off, none⟩ = some u) : b < w.heap.size := by
  rcases Nat.lt_or_ge b w.heap.size with h1 | h1
  · exact h1
  · have : w.heap[b]? = none := Array.getElem?_eq_none h1
    simp [World.cell?, this] at h

/-- A slice of bools that came in reads as a list of bools. -/
theorem rd_bools {H : Type} {enc : TypeId × Value → H} {P : Program} {w : World} {t e : TypeId} {A : Option Addr} {n c : Nat} {d : DataW H} {ps : List MemPlace}
    (ht : P.underlying t = some (.slice e)) (he : P.underlying e = some .bool) (hc : P.cellsOf e = 1) (h : DataW.Trod enc P w 0 (fun _ => true) true t (.slice A n c) d ps) :
    ∃ l : List Bool, l.length = n ∧ n ≤ 9223372036854775807 ∧ Rd w A (l.map Value.bool) := by
  obtain ⟨fuel, hf⟩ := h
  rcases Deep.open_bools ht he hc hf with ⟨hcs, _⟩ | ⟨a, l, c', B, hcs, _, hl, hm, _, hcell⟩
  · simp [Value.cells] at hcs
    obtain ⟨rfl, rfl, rfl⟩ := hcs
    exact ⟨[], rfl, by omega, .inl rfl⟩
  · simp [Value.cells] at hcs
    obtain ⟨rfl, rfl, rfl⟩ := hcs
    unfold maxLen at hm
    refine ⟨(List.range n).map B, by simp, by omega, ?_⟩
    by_cases h0 : n = 0
    · subst h0; exact .inl rfl
    · obtain ⟨b, off, sp⟩ := a
      have h1 := hcell 0 (by omega)
      have hsp : sp = none := by simpa [Addr.add] using World.cell?_spot h1
      subst hsp
      have h2 : ∀ i, i < c → w.cell? ⟨b, off + i, none⟩ = some (.bool (B i)) := by
        intro i hi
        have h3 := hcell i hi
        by_cases hz : i = 0
        · subst hz; simpa [Addr.add] using h3
        · simpa [Addr.add, hz] using h3
      refine .inr ⟨b, off, rfl, lt_of_cell (h2 0 (by omega)), fun j u hu => ?_⟩
      rw [List.getElem?_map, List.getElem?_map] at hu
      have hj : j < n := by
        rcases Nat.lt_or_ge j n with h | h
        · exact h
        · rw [List.getElem?_eq_none (by simpa using h)] at hu; simp at hu
      rw [List.getElem?_range hj] at hu
      rw [h2 j (by omega)]
      simpa using hu

end Go.Proofs.Ytkmffmlnondolaa

/- Plain facts on tables with open places: lists alone, no program. -/
namespace Go.Proofs.Ytkmffmlnondolaa

/-- A key: three numbers. -/
structure Key where
  a : Int
  b : Int
  c : Int
  deriving DecidableEq

/-- A place: 0 free, 1 taken, 2 dropped; its key; its value. -/
structure Pl where
  st : Nat
  k : Key
  v : Int

/-- The place is as New lays it. -/
def Pl.zero : Pl := ⟨0, ⟨0, 0, 0⟩, 0⟩

def full (p : Pl) : Bool := p.st == 1
def used (p : Pl) : Bool := p.st != 0

/-- Whoever has a key stands on its way, and nothing on the way ahead of it is free; no key stands twice. -/
structure Good (h : Key → Nat) (ps : List Pl) : Prop where
  path : ∀ (k : Key) (v : Int) (j : Nat), j < ps.length → ps[(h k + j) % ps.length]? = some ⟨1, k, v⟩ → ∀ i, i < j → ∃ p, ps[(h k + i) % ps.length]? = some p ∧ p.st ≠ 0
  uniq : ∀ (i j : Nat) (k : Key) (v v' : Int), ps[i]? = some ⟨1, k, v⟩ → ps[j]? = some ⟨1, k, v'⟩ → i = j

/-- The places say f of keys; n keys are there; u places are not free. -/
structure Rep (h : Key → Nat) (ps : List Pl) (f : Key → Option Int) (n u : Nat) : Prop where
  good : Good h ps
  says : ∀ k v, f k = some v ↔ ∃ i : Nat, ps[i]? = some ⟨1, k, v⟩
  keys : ps.countP full = n
  uses : ps.countP used = u

theorem full_used (ps : List Pl) : ps.countP full ≤ ps.countP used := by
  apply List.countP_mono_left
  intro p _ h
  simp [full] at h
  simp [used, h]

theorem Rep.le {h : Key → Nat} {ps : List Pl} {f : Key → Option Int} {n u : Nat} (r : Rep h ps f n u) : n ≤ u := by
  rw [← r.keys, ← r.uses]; exact full_used ps

theorem Rep.len {h : Key → Nat} {ps : List Pl} {f : Key → Option Int} {n u : Nat} (r : Rep h ps f n u) : u ≤ ps.length := by
  rw [← r.uses]; exact List.countP_le_length

/-- Some place is free. -/
theorem some_free (ps : List Pl) (h : ps.countP used < ps.length) : ∃ (i : Nat) (p : Pl), ps[i]? = some p ∧ p.st = 0 := by
  refine Classical.byContradiction fun hn => ?_
  have : ps.countP used = ps.length := by
    rw [List.countP_eq_length]
    intro p hp
    obtain ⟨i, hi⟩ := List.getElem?_of_mem hp
    simp only [used, bne_iff_ne]
    intro h0
    exact hn ⟨i, p, hi, h0⟩
  omega

/-- Every place is on a key's way. -/
theorem on_way (a x m : Nat) (hx : x < m) : ∃ j, j < m ∧ (a + j) % m = x := by
  refine ⟨(x + m - a % m) % m, Nat.mod_lt _ (by omega), ?_⟩
  have h1 : a % m < m := Nat.mod_lt _ (by omega)
  rw [Nat.add_mod, Nat.mod_mod]
  by_cases h : a % m ≤ x
  · have : (x + m - a % m) % m = x - a % m := by
      rw [show x + m - a % m = (x - a % m) + m by omega, Nat.add_mod_right, Nat.mod_eq_of_lt (by omega)]
    rw [this, Nat.mod_eq_of_lt (by omega)]; omega
  · have : (x + m - a % m) % m = x + m - a % m := Nat.mod_eq_of_lt (by omega)
    rw [this, show a % m + (x + m - a % m) = x + m by omega, Nat.add_mod_right, Nat.mod_eq_of_lt hx]

/-- Two steps of one way that end at one place are one step. -/
theorem way_inj (a i j m : Nat) (hi : i < m) (hj : j < m) (h : (a + i) % m = (a + j) % m) : i = j := by
  have hm : 0 < m := by omega
  have e1 := Nat.mod_add_div (a + i) m
  have e2 := Nat.mod_add_div (a + j) m
  rw [h] at e1
  generalize (a + j) % m = r at *
  generalize (a + i) / m = q1 at *
  generalize (a + j) / m = q2 at *
  rcases Nat.lt_trichotomy q1 q2 with h1 | h1 | h1
  · have : m * (q1 + 1) ≤ m * q2 := Nat.mul_le_mul_left _ (by omega)
    rw [Nat.mul_add] at this; omega
  · subst h1; omega
  · have : m * (q2 + 1) ≤ m * q1 := Nat.mul_le_mul_left _ (by omega)
    rw [Nat.mul_add] at this; omega

theorem way_next (a j m : Nat) : ((a + j) % m + 1) % m = (a + (j + 1)) % m := by
  rw [Nat.mod_add_mod]; rfl

/-- The first j places of a key's way are neither free nor the key's. -/
def Walked (ps : List Pl) (a : Nat) (k : Key) (j : Nat) : Prop :=
  ∀ i, i < j → ∃ p, ps[(a + i) % ps.length]? = some p ∧ p.st ≠ 0 ∧ ¬ (p.st = 1 ∧ p.k = k)

theorem Walked.zero (ps : List Pl) (a : Nat) (k : Key) : Walked ps a k 0 := fun i hi => absurd hi (by omega)

theorem Walked.next {ps : List Pl} {a : Nat} {k : Key} {j : Nat} (h : Walked ps a k j) {p : Pl} (hp : ps[(a + j) % ps.length]? = some p) (h0 : p.st ≠ 0) (h1 : ¬ (p.st = 1 ∧ p.k = k)) : Walked ps a k (j + 1) := by
  intro i hi
  by_cases e : i = j
  · subst e; exact ⟨p, hp, h0, h1⟩
  · exact h i (by omega)

theorem Walked.lt {ps : List Pl} {a : Nat} {k : Key} {j : Nat} (h : Walked ps a k j) (hf : ps.countP used < ps.length) : j < ps.length := by
  obtain ⟨x, p, hx, h0⟩ := some_free ps hf
  obtain ⟨i, hi, e⟩ := on_way a x ps.length (List.getElem?_eq_some_iff.1 hx).1
  rcases Nat.lt_or_ge i j with hij | hij
  · obtain ⟨p', hp', h0', _⟩ := h i hij
    rw [e, hx] at hp'
    injection hp' with hp'
    subst hp'
    exact absurd h0 h0'
  · omega

/-- What find tells: where the key stands, or where it may be put. -/
def Found (h : Key → Nat) (ps : List Pl) (k : Key) (at' : Nat) (there : Bool) : Prop :=
  if there then ∃ v, ps[at']? = some ⟨1, k, v⟩
  else ∃ j i, j < ps.length ∧ i ≤ j ∧ Walked ps (h k) k j ∧ (∃ p, ps[(h k + j) % ps.length]? = some p ∧ p.st = 0) ∧ at' = (h k + i) % ps.length ∧ (∃ p, ps[at']? = some p ∧ p.st ≠ 1)

theorem Rep.none_of {h : Key → Nat} {ps : List Pl} {f : Key → Option Int} {n u : Nat} (r : Rep h ps f n u) {k : Key} {j : Nat} (hj : j < ps.length) (hw : Walked ps (h k) k j)
    (hf : ∃ p, ps[(h k + j) % ps.length]? = some p ∧ p.st = 0) : f k = none := by
  cases hfk : f k with
  | none => rfl
  | some v =>
    exfalso
    obtain ⟨x, hx⟩ := (r.says k v).1 hfk
    obtain ⟨i, hi, e⟩ := on_way (h k) x ps.length (List.getElem?_eq_some_iff.1 hx).1
    rw [← e] at hx
    obtain ⟨p, hp, h0⟩ := hf
    rcases Nat.lt_trichotomy i j with hij | hij | hij
    · obtain ⟨p', hp', _, hn⟩ := hw i hij
      rw [hx] at hp'
      injection hp' with hp'
      subst hp'
      exact hn ⟨rfl, rfl⟩
    · subst hij
      rw [hx] at hp
      injection hp with hp
      subst hp
      exact absurd h0 (by simp)
    · obtain ⟨p', hp', h0'⟩ := r.good.path k v i hi hx j hij
      rw [hp] at hp'
      injection hp' with hp'
      subst hp'
      exact h0' h0

theorem Rep.found_none {h : Key → Nat} {ps : List Pl} {f : Key → Option Int} {n u : Nat} (r : Rep h ps f n u) {k : Key} {x : Nat} (hf : Found h ps k x false) : f k = none := by
  simp only [Found, Bool.false_eq_true, if_false] at hf
  obtain ⟨j, i, hj, hij, hw, hfree, _⟩ := hf
  exact r.none_of hj hw hfree

theorem Rep.found_some {h : Key → Nat} {ps : List Pl} {f : Key → Option Int} {n u : Nat} (r : Rep h ps f n u) {k : Key} {x : Nat} (hf : Found h ps k x true) : ∃ v, f k = some v ∧ ps[x]? = some ⟨1, k, v⟩ := by
  simp only [Found, if_true] at hf
  obtain ⟨v, hv⟩ := hf
  exact ⟨v, (r.says k v).2 ⟨x, hv⟩, hv⟩

def fset (f : Key → Option Int) (k : Key) (v : Option Int) : Key → Option Int := fun k' => if k' = k then v else f k'

theorem get_set (ps : List Pl) (x i : Nat) (p : Pl) (hx : x < ps.length) : (ps.set x p)[i]? = if x = i then some p else ps[i]? := by
  rw [List.getElem?_set]
  by_cases h : x = i
  · subst h; simp [hx]
  · simp [h]

theorem count_set (g : Pl → Bool) (ps : List Pl) (x : Nat) (p q : Pl) (hx : ps[x]? = some q) : (ps.set x p).countP g + (if g q then 1 else 0) = ps.countP g + (if g p then 1 else 0) := by
  induction ps generalizing x with
  | nil => simp at hx
  | cons a r ih =>
    cases x with
    | zero =>
      simp at hx
      subst hx
      simp only [List.set_cons_zero, List.countP_cons]
      omega
    | succ x =>
      simp at hx
      have := ih x hx
      simp only [List.set_cons_succ, List.countP_cons]
      omega

/-- A key that is not there is put where find says. -/
theorem Rep.put_new {h : Key → Nat} {ps : List Pl} {f : Key → Option Int} {n u : Nat} (r : Rep h ps f n u) {k : Key} {x : Nat} (v : Int) (hf : Found h ps k x false) :
    ∃ p, ps[x]? = some p ∧ (p.st = 0 ∨ p.st ≠ 0 ∧ p.st ≠ 1) ∧ Rep h (ps.set x ⟨1, k, v⟩) (fset f k (some v)) (n + 1) (if p.st = 0 then u + 1 else u) := by
  have hfk := r.found_none hf
  simp only [Found, Bool.false_eq_true, if_false] at hf
  obtain ⟨j, i, hj, hij, hw, hfree, hxe, q, hq, hq1⟩ := hf
  have hx : x < ps.length := (List.getElem?_eq_some_iff.1 hq).1
  have hno : ∀ (y : Nat) (v' : Int), ps[y]? ≠ some ⟨1, k, v'⟩ := fun y v' e => by
    have := (r.says k v').2 ⟨y, e⟩
    rw [hfk] at this; cases this
  refine ⟨q, hq, ?_, ⟨⟨?_, ?_⟩, ?_, ?_, ?_⟩⟩
  · omega
  · intro k' v' j' hj' hp i' hi'
    rw [List.length_set] at hj' hp ⊢
    rw [get_set _ _ _ _ hx] at hp ⊢
    by_cases e : x = (h k' + i') % ps.length
    · rw [if_pos e]; exact ⟨_, rfl, by simp⟩
    · rw [if_neg e]
      by_cases e2 : x = (h k' + j') % ps.length
      · rw [if_pos e2] at hp
        injection hp with hp
        injection hp with _ hk hv
        subst hk
        have : i = j' := way_inj _ _ _ _ (by omega) hj' (hxe.symm.trans e2)
        subst this
        obtain ⟨p, hp, h0, _⟩ := hw i' (by omega)
        exact ⟨p, hp, h0⟩
      · rw [if_neg e2] at hp
        exact r.good.path k' v' j' hj' hp i' hi'
  · intro i1 j1 k' v1 v2 h1 h2
    rw [get_set _ _ _ _ hx] at h1 h2
    by_cases e1 : x = i1 <;> by_cases e2 : x = j1
    · omega
    · rw [if_pos e1] at h1; rw [if_neg e2] at h2
      injection h1 with h1; injection h1 with _ hk _; subst hk
      exact absurd h2 (hno _ _)
    · rw [if_neg e1] at h1; rw [if_pos e2] at h2
      injection h2 with h2; injection h2 with _ hk _; subst hk
      exact absurd h1 (hno _ _)
    · rw [if_neg e1] at h1; rw [if_neg e2] at h2
      exact r.good.uniq i1 j1 k' v1 v2 h1 h2
  · intro k' v'
    unfold fset
    by_cases e : k' = k
    · subst e
      rw [if_pos rfl]
      constructor
      · intro he; injection he with he; subst he
        exact ⟨x, by rw [get_set _ _ _ _ hx, if_pos rfl]⟩
      · rintro ⟨y, hy⟩
        rw [get_set _ _ _ _ hx] at hy
        by_cases ey : x = y
        · rw [if_pos ey] at hy; injection hy with hy; injection hy with _ _ hv; rw [hv]
        · rw [if_neg ey] at hy; exact absurd hy (hno _ _)
    · rw [if_neg e, r.says k' v']
      constructor
      · rintro ⟨y, hy⟩
        refine ⟨y, ?_⟩
        rw [get_set _ _ _ _ hx]
        by_cases ey : x = y
        · subst ey; rw [hq] at hy; injection hy with hy; subst hy; exact absurd rfl hq1
        · rw [if_neg ey]; exact hy
      · rintro ⟨y, hy⟩
        refine ⟨y, ?_⟩
        rw [get_set _ _ _ _ hx] at hy
        by_cases ey : x = y
        · rw [if_pos ey] at hy; injection hy with hy; injection hy with _ hk _; exact absurd hk.symm e
        · rw [if_neg ey] at hy; exact hy
  · have := count_set full ps x ⟨1, k, v⟩ q hq
    have hk := r.keys
    have h1 : full q = false := by simp [full, hq1]
    have h2 : full ⟨1, k, v⟩ = true := by simp [full]
    rw [h1, h2] at this
    simp at this; omega
  · have := count_set used ps x ⟨1, k, v⟩ q hq
    have hk := r.uses
    have h2 : used ⟨1, k, v⟩ = true := by simp [used]
    rw [h2] at this
    by_cases e : q.st = 0
    · have h1 : used q = false := by simp [used, e]
      rw [h1] at this; rw [if_pos e]; simp at this; omega
    · have h1 : used q = true := by simp [used, e]
      rw [h1] at this; rw [if_neg e]; simp at this; omega

/-- A taken place stays taken by the key, with another value; or is dropped. -/
theorem Rep.set_old {h : Key → Nat} {ps : List Pl} {f : Key → Option Int} {n u : Nat} (r : Rep h ps f n u) {k : Key} {x : Nat} {v : Int} (hx : ps[x]? = some ⟨1, k, v⟩) (v' : Int) :
    Rep h (ps.set x ⟨1, k, v'⟩) (fset f k (some v')) n u := by
  have hl : x < ps.length := (List.getElem?_eq_some_iff.1 hx).1
  refine ⟨⟨?_, ?_⟩, ?_, ?_, ?_⟩
  · intro k1 v1 j hj hp i hi
    rw [List.length_set] at hj hp ⊢
    rw [get_set _ _ _ _ hl] at hp ⊢
    by_cases e : x = (h k1 + i) % ps.length
    · rw [if_pos e]; exact ⟨_, rfl, by simp⟩
    · rw [if_neg e]
      by_cases e2 : x = (h k1 + j) % ps.length
      · rw [if_pos e2] at hp
        injection hp with hp; injection hp with _ hk _
        subst hk
        exact r.good.path k v j hj (by rw [← e2]; exact hx) i hi
      · rw [if_neg e2] at hp
        exact r.good.path k1 v1 j hj hp i hi
  · have key : ∀ (i : Nat) (k1 : Key) (v1 : Int), (ps.set x ⟨1, k, v'⟩)[i]? = some ⟨1, k1, v1⟩ → ∃ v2, ps[i]? = some ⟨1, k1, v2⟩ := by
      intro i k1 v1 h1
      rw [get_set _ _ _ _ hl] at h1
      by_cases e : x = i
      · rw [if_pos e] at h1; injection h1 with h1; injection h1 with _ hk _; subst hk; subst e; exact ⟨_, hx⟩
      · rw [if_neg e] at h1; exact ⟨_, h1⟩
    intro i j k1 v1 v2 h1 h2
    obtain ⟨_, h1⟩ := key _ _ _ h1
    obtain ⟨_, h2⟩ := key _ _ _ h2
    exact r.good.uniq _ _ _ _ _ h1 h2
  · intro k1 v1
    unfold fset
    by_cases e : k1 = k
    · subst e
      rw [if_pos rfl]
      constructor
      · intro he; injection he with he; subst he
        exact ⟨x, by rw [get_set _ _ _ _ hl, if_pos rfl]⟩
      · rintro ⟨y, hy⟩
        rw [get_set _ _ _ _ hl] at hy
        by_cases ey : x = y
        · rw [if_pos ey] at hy; injection hy with hy; injection hy with _ _ hv; rw [hv]
        · rw [if_neg ey] at hy; exact absurd (r.good.uniq _ _ _ _ _ hx hy) ey
    · rw [if_neg e, r.says k1 v1]
      constructor
      · rintro ⟨y, hy⟩
        refine ⟨y, ?_⟩
        rw [get_set _ _ _ _ hl]
        by_cases ey : x = y
        · subst ey; rw [hx] at hy; injection hy with hy; injection hy with _ hk _; exact absurd hk.symm e
        · rw [if_neg ey]; exact hy
      · rintro ⟨y, hy⟩
        refine ⟨y, ?_⟩
        rw [get_set _ _ _ _ hl] at hy
        by_cases ey : x = y
        · rw [if_pos ey] at hy; injection hy with hy; injection hy with _ hk _; exact absurd hk.symm e
        · rw [if_neg ey] at hy; exact hy
  · have := count_set full ps x ⟨1, k, v'⟩ _ hx
    have hk := r.keys
    have h1 : full ⟨1, k, v'⟩ = true := rfl
    have h2 : full ⟨1, k, v⟩ = true := rfl
    rw [h1, h2] at this; omega
  · have := count_set used ps x ⟨1, k, v'⟩ _ hx
    have hk := r.uses
    have h1 : used ⟨1, k, v'⟩ = true := rfl
    have h2 : used ⟨1, k, v⟩ = true := rfl
    rw [h1, h2] at this; omega

theorem Rep.drop {h : Key → Nat} {ps : List Pl} {f : Key → Option Int} {n u : Nat} (r : Rep h ps f n u) {k : Key} {x : Nat} {v : Int} (hx : ps[x]? = some ⟨1, k, v⟩) (q : Key) (z : Int) :
    Rep h (ps.set x ⟨2, q, z⟩) (fset f k none) (n - 1) u ∧ 1 ≤ n := by
  have hl : x < ps.length := (List.getElem?_eq_some_iff.1 hx).1
  have key : ∀ (i : Nat) (k1 : Key) (v1 : Int), (ps.set x ⟨2, q, z⟩)[i]? = some ⟨1, k1, v1⟩ → ps[i]? = some ⟨1, k1, v1⟩ ∧ x ≠ i := by
    intro i k1 v1 h1
    rw [get_set _ _ _ _ hl] at h1
    by_cases e : x = i
    · rw [if_pos e] at h1; injection h1 with h1; injection h1 with hs _ _; omega
    · rw [if_neg e] at h1; exact ⟨h1, e⟩
  have hc := count_set full ps x ⟨2, q, z⟩ _ hx
  have hk := r.keys
  have hf1 : full ⟨2, q, z⟩ = false := rfl
  have hf2 : full ⟨1, k, v⟩ = true := rfl
  rw [hf1, hf2] at hc
  simp only [if_true, Bool.false_eq_true, if_false] at hc
  refine ⟨⟨⟨?_, ?_⟩, ?_, ?_, ?_⟩, by omega⟩
  · intro k1 v1 j hj hp i hi
    rw [List.length_set] at hj hp ⊢
    obtain ⟨hp, _⟩ := key _ _ _ hp
    rw [get_set _ _ _ _ hl]
    by_cases e : x = (h k1 + i) % ps.length
    · rw [if_pos e]; exact ⟨_, rfl, by simp⟩
    · rw [if_neg e]; exact r.good.path k1 v1 j hj hp i hi
  · intro i j k1 v1 v2 h1 h2
    exact r.good.uniq _ _ _ _ _ (key _ _ _ h1).1 (key _ _ _ h2).1
  · intro k1 v1
    unfold fset
    by_cases e : k1 = k
    · subst e
      rw [if_pos rfl]
      constructor
      · intro he; cases he
      · rintro ⟨y, hy⟩
        obtain ⟨hy, hne⟩ := key _ _ _ hy
        exact absurd (r.good.uniq _ _ _ _ _ hx hy) hne
    · rw [if_neg e, r.says k1 v1]
      constructor
      · rintro ⟨y, hy⟩
        refine ⟨y, ?_⟩
        rw [get_set _ _ _ _ hl]
        by_cases ey : x = y
        · subst ey; rw [hx] at hy; injection hy with hy; injection hy with _ hk _; exact absurd hk.symm e
        · rw [if_neg ey]; exact hy
      · rintro ⟨y, hy⟩
        exact ⟨y, (key _ _ _ hy).1⟩
  · omega
  · have := count_set used ps x ⟨2, q, z⟩ _ hx
    have hk := r.uses
    have h1 : used ⟨2, q, z⟩ = true := rfl
    have h2 : used ⟨1, k, v⟩ = true := rfl
    rw [h1, h2] at this; omega

theorem Rep.new (h : Key → Nat) (m : Nat) : Rep h (List.replicate m Pl.zero) (fun _ => none) 0 0 := by
  have hz : ∀ (i : Nat) (p : Pl), (List.replicate m Pl.zero)[i]? = some p → p = Pl.zero := by
    intro i p hp
    have := List.mem_of_getElem? hp
    exact (List.mem_replicate.1 this).2
  refine ⟨⟨?_, ?_⟩, ?_, ?_, ?_⟩
  · intro k v j _ hp
    have := hz _ _ hp
    injection this with h0 _ _; omega
  · intro i j k v v' h1 _
    have := hz _ _ h1
    injection this with h0 _ _; omega
  · intro k v
    constructor
    · intro h; cases h
    · rintro ⟨i, hi⟩
      have := hz _ _ hi
      injection this with h0 _ _; omega
  · rw [List.countP_replicate]; simp [full, Pl.zero]
  · rw [List.countP_replicate]; simp [used, Pl.zero]

end Go.Proofs.Ytkmffmlnondolaa

/- Contracts of layer 2 (hash): given, mix, Len. -/
namespace Go.Proofs.Ytkmffmlnondolaa
open Go.ChangeShapes Go.WideShapes Go.ChangeAt Go.RowKit

def keyV (k : Key) : Value := .agg #[.int .i64 k.a, .int .i64 k.b, .int .i64 k.c]

theorem info_table : (Try.prog.info? 110).map (fun i => (i.zero, i.size, i.bytes)) = some (some (.agg #[.pointer none, .slice none 0 0, .int .i64 0, .int .i64 0]), 4, 48) := by kernel_rfl
theorem info_place : (Try.prog.info? 117).map (fun i => (i.zero, i.size, i.bytes)) = some (some (.agg #[.int .i64 0, .int .i64 0, .int .i64 0, .int .i64 0, .int .i64 0]), 5, 40) := by kernel_rfl

theorem given_nil (w : World) : Calls Try.prog 60 #[.pointer none] w fun e w' => e = .returned (.bool false) ∧ w = w' := by
  go_enter Try.func60, Try.ntmps60
  go_wp2
  go_ret
  exact ⟨rfl, rfl⟩

theorem given_yes (t : Nat) (w : World) (h0 : w.cell? ⟨t, 0, none⟩ = some (.pointer (some ⟨t, 0, none⟩))) : Calls Try.prog 60 #[.pointer (some ⟨t, 0, none⟩)] w fun e w' => e = .returned (.bool true) ∧ w = w' := by
  obtain ⟨j, hj, _⟩ := info_parts info_table
  have heq := run_eql_ptr_same (P := Try.prog) w ⟨t, 0, none⟩ Try.underlying61 hj
  go_enter Try.func60, Try.ntmps60
  go_wp2
  go_ret
  exact ⟨rfl, rfl⟩

theorem given_no (t : Nat) (w : World) (h0 : w.cell? ⟨t, 0, none⟩ = some (.pointer none)) : Calls Try.prog 60 #[.pointer (some ⟨t, 0, none⟩)] w fun e w' => e = .returned (.bool false) ∧ w = w' := by
  have heq : (binOp .eql 61 (.pointer none) (.pointer (some ⟨t, 0, none⟩))).run Try.prog w = .ok (.bool false) w := by kernel_rfl
  go_enter Try.func60, Try.ntmps60
  go_wp2
  go_ret
  exact ⟨rfl, rfl⟩

def mmul (x : Int) : Int := IntKind.u64.wrap (bits BinOp.xor IntKind.u64 x (x / 4294967296) * 15485907386658061715)
def mfin (y : Int) : Int := bits BinOp.xor IntKind.u64 y (y / 4294967296)
def mstep (h n : Int) : Int := mfin (mmul (mmul (bits BinOp.xor IntKind.u64 h (IntKind.u64.wrap n))))
def mixTo (k : Key) : Nat → Int
  | 0 => 0
  | 1 => mstep 0 k.a
  | 2 => mstep (mstep 0 k.a) k.b
  | _ => mstep (mstep (mstep 0 k.a) k.b) k.c

theorem mix_any (k : Key) (w : World) : Calls Try.prog 72 #[keyV k] w fun e w' => e = .returned (.int .u64 (mixTo k 3)) ∧ Below w.heap.size w w' := by
  unfold keyV
  obtain ⟨a, b, c⟩ := k
  have i0 : ∀ w, (Instr.index 75 (.agg #[.int .i64 a, .int .i64 b, .int .i64 c]) (.int .i64 0)).run Try.prog w = .ok (.int .i64 a) w := fun _ => by kernel_rfl
  have i1 : ∀ w, (Instr.index 75 (.agg #[.int .i64 a, .int .i64 b, .int .i64 c]) (.int .i64 1)).run Try.prog w = .ok (.int .i64 b) w := fun _ => by kernel_rfl
  have i2 : ∀ w, (Instr.index 75 (.agg #[.int .i64 a, .int .i64 b, .int .i64 c]) (.int .i64 2)).run Try.prog w = .ok (.int .i64 c) w := fun _ => by kernel_rfl
  go_enter Try.func72, Try.ntmps72
  go_wp2
  go_loop [3, 7] (fun h i => ∃ j : Nat, j ≤ 3 ∧ i = .int .i64 j ∧ h = .int .u64 (mixTo ⟨a, b, c⟩ j)) (fun _ i => 3 - (intOf i).toNat)
  case atStart => exact ⟨0, by omega, rfl, rfl⟩
  case round =>
    obtain ⟨j, hj, rfl, rfl⟩ := hrel
    match j, hj with
    | 0, _ =>
      go_wp2
      go_round
      case rel => exact ⟨1, by omega, rfl, rfl⟩
      case measure => simp [intOf]
    | 1, _ =>
      go_wp2
      go_round
      case rel => exact ⟨2, by omega, rfl, rfl⟩
      case measure => simp [intOf]
    | 2, _ =>
      go_wp2
      go_round
      case rel => exact ⟨3, by omega, rfl, rfl⟩
      case measure => simp [intOf]
    | 3, _ =>
      go_wp2
      go_ret
      exact ⟨rfl, (Below.refl _ _).alloc (Nat.le_refl _) _⟩

/-- Where a key's way begins among m places. -/
def home (m : Nat) (k : Key) : Nat := (bits BinOp.and IntKind.i64 (wrap64 (mixTo k 3)) ((m : Int) - 1)).toNat

theorem ofInt_i64 (a : Nat) (ha : a < 9223372036854775808) : (BitVec.ofInt 64 (a : Int)).toNat = a := by
  rw [BitVec.ofInt_natCast, BitVec.toNat_ofNat]; exact Nat.mod_eq_of_lt (by omega)

theorem and_home (z : Int) (m : Nat) (h1 : 1 ≤ m) (h2 : m ≤ 1000000000) : ∃ a : Nat, a < m ∧ bits BinOp.and IntKind.i64 z ((m : Int) - 1) = (a : Int) := by
  refine ⟨(BitVec.ofInt 64 z).toNat &&& (m - 1), ?_, ?_⟩
  · have := Nat.and_le_right (n := (BitVec.ofInt 64 z).toNat) (m := m - 1)
    omega
  · have hx := Nat.and_le_right (n := (BitVec.ofInt 64 z).toNat) (m := m - 1)
    rw [show ((m : Int) - 1) = ((m - 1 : Nat) : Int) by omega]
    show IntKind.i64.wrap ((BitVec.ofInt 64 z &&& BitVec.ofInt 64 ((m - 1 : Nat) : Int)).toNat : Int) = _
    rw [BitVec.toNat_and, ofInt_i64 (m - 1) (by omega), IntKind.wrap_i64]
    omega

theorem home_eq (k : Key) (m : Nat) (h1 : 1 ≤ m) (h2 : m ≤ 1000000000) : bits BinOp.and IntKind.i64 (wrap64 (mixTo k 3)) ((m : Int) - 1) = ((home m k : Nat) : Int) ∧ home m k < m := by
  obtain ⟨a, ha, e⟩ := and_home (wrap64 (mixTo k 3)) m h1 h2
  have : home m k = a := by unfold home; rw [e]; rfl
  rw [this]; exact ⟨e, ha⟩

theorem wraps_i64 (n : Int) (h0 : 0 ≤ n) (h1 : n < 2 ^ 63) : IntKind.i64.wrap n = n := by rw [IntKind.wrap_i64]; omega

/-- The next place of a way, by the mask. -/
theorem and_next (x e : Nat) (h : x < 2 ^ e) (he : e ≤ 30) : bits BinOp.and IntKind.i64 ((x : Int) + 1) (((2 ^ e : Nat) : Int) - 1) = (((x + 1) % 2 ^ e : Nat) : Int) := by
  have h1 : (2 : Nat) ^ e ≤ 2 ^ 30 := Nat.pow_le_pow_right (by omega) he
  have h2 := bits_mask .i64 63 (by decide) wraps_i64 e (by omega) ((x : Int) + 1) (by omega) (by omega)
  have h3 : ((2 ^ e : Nat) : Int) = (2 : Int) ^ e := by rw [Int.natCast_pow]; rfl
  rw [h3, h2, ← h3, Int.natCast_emod, Int.natCast_add]
  rfl

theorem way_back (a j m : Nat) (ha : a < m) (hj : j < m) : ((a + j) % m + m - a) % m = j := by
  by_cases h : a + j < m
  · rw [Nat.mod_eq_of_lt h, show a + j + m - a = j + m by omega, Nat.add_mod_right, Nat.mod_eq_of_lt hj]
  · have : (a + j) % m = a + j - m := by
      rw [Nat.mod_eq_sub_mod (by omega), Nat.mod_eq_of_lt (by omega)]
    rw [this, show a + j - m + m - a = j by omega, Nat.mod_eq_of_lt hj]

/-- The cells of a place; of places. -/
def cellsOf (p : Pl) : List Value := [.int .i64 p.st, .int .i64 p.k.a, .int .i64 p.k.b, .int .i64 p.k.c, .int .i64 p.v]
def cellsAll (ps : List Pl) : List Value := ps.flatMap cellsOf

/-- The table at block t, with its places in block b. -/
structure Lies (w : World) (t b : Nat) (ps : List Pl) (n u : Nat) : Prop where
  head : w.heap[t]? = some (.cells #[.pointer (some ⟨t, 0, none⟩), .slice (some ⟨b, 0, none⟩) ps.length ps.length, .int .i64 n, .int .i64 u] 110 (0, 0))
  row : w.heap[b]? = some (.cells (cellsAll ps).toArray 117 (0, 0))
  ne : t ≠ b

theorem cellsAll_length (ps : List Pl) : (cellsAll ps).length = ps.length * 5 := by
  induction ps with
  | nil => rfl
  | cons p r ih =>
    show (cellsOf p ++ cellsAll r).length = _
    rw [List.length_append, ih]; simp [cellsOf]; omega

theorem cellsAll_get (ps : List Pl) : ∀ (x : Nat) (p : Pl) (c : Nat), ps[x]? = some p → c < 5 → (cellsAll ps)[x * 5 + c]? = (cellsOf p)[c]? := by
  induction ps with
  | nil => intro x p c h; simp at h
  | cons q r ih =>
    intro x p c h hc
    show (cellsOf q ++ cellsAll r)[x * 5 + c]? = _
    have hl : (cellsOf q).length = 5 := rfl
    cases x with
    | zero =>
      simp at h
      subst h
      rw [List.getElem?_append_left (by omega)]
      simp
    | succ x =>
      simp at h
      rw [List.getElem?_append_right (by omega), hl, ← ih x p c h hc]
      congr 1; omega

theorem Lies.lt_t {w : World} {t b : Nat} {ps : List Pl} {n u : Nat} (h : Lies w t b ps n u) : t < w.heap.size := by
  rcases Nat.lt_or_ge t w.heap.size with h1 | h1
  · exact h1
  · have := h.head; rw [Array.getElem?_eq_none h1] at this; cases this

theorem Lies.lt_b {w : World} {t b : Nat} {ps : List Pl} {n u : Nat} (h : Lies w t b ps n u) : b < w.heap.size := by
  rcases Nat.lt_or_ge b w.heap.size with h1 | h1
  · exact h1
  · have := h.row; rw [Array.getElem?_eq_none h1] at this; cases this

theorem Lies.keep {w w' : World} {t b : Nat} {ps : List Pl} {n u : Nat} (h : Lies w t b ps n u) (hb : Below w.heap.size w w') : Lies w' t b ps n u :=
  ⟨(hb.block t h.lt_t).trans h.head, (hb.block b h.lt_b).trans h.row, h.ne⟩

theorem Lies.cells {w : World} {t b : Nat} {ps : List Pl} {n u : Nat} (h : Lies w t b ps n u) {x : Nat} {p : Pl} (hx : ps[x]? = some p) :
    w.cell? ⟨b, x * 5, none⟩ = some (.int .i64 p.st) ∧ w.cell? ⟨b, x * 5 + 1, none⟩ = some (.int .i64 p.k.a) ∧ w.cell? ⟨b, x * 5 + 2, none⟩ = some (.int .i64 p.k.b) ∧
    w.cell? ⟨b, x * 5 + 3, none⟩ = some (.int .i64 p.k.c) ∧ w.cell? ⟨b, x * 5 + 4, none⟩ = some (.int .i64 p.v) := by
  have hc : ∀ c, c < 5 → w.cell? ⟨b, x * 5 + c, none⟩ = (cellsOf p)[c]? := by
    intro c hc
    rw [cell_of_row w b _ _ _ _ h.row, List.getElem?_toArray]
    exact cellsAll_get ps x p c hx hc
  exact ⟨hc 0 (by omega), hc 1 (by omega), hc 2 (by omega), hc 3 (by omega), hc 4 (by omega)⟩

theorem Lies.tops {w : World} {t b : Nat} {ps : List Pl} {n u : Nat} (h : Lies w t b ps n u) :
    w.cell? ⟨t, 0, none⟩ = some (.pointer (some ⟨t, 0, none⟩)) ∧ w.cell? ⟨t, 1, none⟩ = some (.slice (some ⟨b, 0, none⟩) ps.length ps.length) ∧ w.cell? ⟨t, 2, none⟩ = some (.int .i64 n) ∧ w.cell? ⟨t, 3, none⟩ = some (.int .i64 u) :=
  ⟨cell_of_row w t 0 _ _ _ h.head, cell_of_row w t 1 _ _ _ h.head, cell_of_row w t 2 _ _ _ h.head, cell_of_row w t 3 _ _ _ h.head⟩

theorem eqKey (a b : Key) (w : World) : (Op.equalIn 10000 75 (.agg #[.int .i64 a.a, .int .i64 a.b, .int .i64 a.c]) (.agg #[.int .i64 b.a, .int .i64 b.b, .int .i64 b.c])).run Try.prog w = .ok (decide (a = b)) w := by
  have u3 := Try.underlying3
  have a3 := Try.isAgg3
  have z3 := Try.sizeOf3
  rw [show (10000 : Nat) = 9999 + 1 from rfl, Op.equalIn]
  simp only [Sem.run_bind, run_underlying Try.underlying75, Result.andThen_ok]
  simp only [Std.Legacy.Range.forIn_eq_forIn_range', Std.Legacy.Range.size, Nat.sub_zero, Nat.add_sub_cancel, Nat.div_one, List.range'_succ, List.range'_zero, List.forIn_cons, List.forIn_nil]
  go_simp
  obtain ⟨a1, a2, a3⟩ := a
  obtain ⟨b1, b2, b3⟩ := b
  by_cases h1 : a1 = b1 <;> by_cases h2 : a2 = b2 <;> by_cases h3 : a3 = b3 <;> simp [h1, h2, h3]

/-- Slots 7 and 8 at a round's head: the spare place, and the place that is looked at. -/
def FindRel (ps : List Pl) (a : Nat) (k : Key) (w1 : World) (sp ix : Value) (wr : World) : Prop :=
  ∃ (j q x : Nat) (s : Int), j < ps.length ∧ Walked ps a k j ∧ Hid (x = (a + j) % ps.length) ∧ x < ps.length ∧ ix = .int .i64 x ∧ sp = .int .i64 s ∧ -1 ≤ s ∧ wr = w1.drewN q ∧
    (0 ≤ s → ∃ i, i < j ∧ s = (((a + i) % ps.length : Nat) : Int) ∧ ∃ p, ps[(a + i) % ps.length]? = some p ∧ p.st ≠ 1)

theorem box_cells {w w1 : World} {k : Key} {T : TypeId} (hb : Below (w.alloc (.cells #[.int .i64 k.a, .int .i64 k.b, .int .i64 k.c] T)).heap.size (w.alloc (.cells #[.int .i64 k.a, .int .i64 k.b, .int .i64 k.c] T)) w1) :
    w1.cell? ⟨w.heap.size, 0, none⟩ = some (.int .i64 k.a) ∧ w1.cell? ⟨w.heap.size, 1, none⟩ = some (.int .i64 k.b) ∧ w1.cell? ⟨w.heap.size, 2, none⟩ = some (.int .i64 k.c) := by
  have h : w1.heap[w.heap.size]? = some (.cells #[.int .i64 k.a, .int .i64 k.b, .int .i64 k.c] T (0, 0)) := (hb.block w.heap.size (by simp)).trans (heap_alloc_new w _)
  exact ⟨cell_of_row w1 _ 0 _ _ _ h, cell_of_row w1 _ 1 _ _ _ h, cell_of_row w1 _ 2 _ _ _ h⟩

def FindOut (ps : List Pl) (k : Key) (w : World) (e : Ending) (w' : World) : Prop :=
  ∃ (x : Nat) (there : Bool), e = .returned (.tuple #[.int .i64 x, .bool there]) ∧ x < ps.length ∧ Found (home ps.length) ps k x there ∧ Below w.heap.size w w'

theorem below_drewN {B : Nat} {a w : World} (h : Below B a w) (n : Nat) : Below B a (w.drewN n) := ⟨h.os, h.tape, h.output, h.size, h.block⟩

/-- The measure of a round: how much of the way is left. -/
def left (m a x : Nat) : Nat := m - (x + m - a) % m

theorem left_lt (m a j : Nat) (ha : a < m) (hj : j + 1 < m) : left m a ((a + (j + 1)) % m) < left m a ((a + j) % m) := by
  unfold left
  rw [way_back a j m ha (by omega), way_back a (j + 1) m ha hj]; omega

theorem find_next {ps : List Pl} {a : Nat} {k : Key} {w1 : World} {j q x : Nat} {s s' : Int} {p : Pl} {pw : Nat} (ha : a < ps.length) (hf : ps.countP used < ps.length) (hpw : ps.length = 2 ^ pw) (hpw2 : pw ≤ 30)
    (hw : Walked ps a k j) (hx : x = (a + j) % ps.length) (hxl : x < ps.length) (hp : ps[x]? = some p) (h0 : p.st ≠ 0) (h1 : ¬ (p.st = 1 ∧ p.k = k)) (hs : -1 ≤ s')
    (hsp : 0 ≤ s → ∃ i, i < j ∧ s = (((a + i) % ps.length : Nat) : Int) ∧ ∃ p, ps[(a + i) % ps.length]? = some p ∧ p.st ≠ 1)
    (hss : s' = s ∨ s' = x ∧ p.st ≠ 1) :
    FindRel ps a k w1 (.int .i64 s') (.int .i64 (bits BinOp.and IntKind.i64 ((x : Int) + 1) ((ps.length : Int) - 1))) (w1.drewN q) ∧
    left ps.length a (intOf (.int .i64 (bits BinOp.and IntKind.i64 ((x : Int) + 1) ((ps.length : Int) - 1)))).toNat < left ps.length a (intOf (.int .i64 (x : Int))).toNat := by
  have hn : bits BinOp.and IntKind.i64 ((x : Int) + 1) ((ps.length : Int) - 1) = (((a + (j + 1)) % ps.length : Nat) : Int) := by
    have := and_next x pw (by omega) hpw2
    rw [← hpw] at this
    rw [this, hx, way_next]
  have hw' : Walked ps a k (j + 1) := hw.next (by rw [← hx]; exact hp) h0 h1
  have hj' := hw'.lt hf
  rw [hn]
  refine ⟨⟨j + 1, q, _, s', hj', hw', rfl, Nat.mod_lt _ (by omega), rfl, rfl, hs, rfl, ?_⟩, ?_⟩
  · intro h
    rcases hss with rfl | ⟨rfl, h2⟩
    · obtain ⟨i, hi, e, r⟩ := hsp h
      exact ⟨i, by omega, e, r⟩
    · exact ⟨j, by omega, by rw [hx], p, by rw [← hx]; exact hp, h2⟩
  · show left ps.length a (((a + (j + 1)) % ps.length : Nat) : Int).toNat < left ps.length a (x : Int).toNat
    rw [hx]
    exact left_lt _ _ _ ha hj'

theorem find_here {ps : List Pl} {k : Key} {x : Nat} {p : Pl} (hp : ps[x]? = some p) (h0 : p.st = 1) (hk : p.k = k) : Found (home ps.length) ps k x true := by
  obtain ⟨st, k', v⟩ := p
  simp only at h0 hk
  subst h0 hk
  simp only [Found, if_true]
  exact ⟨v, hp⟩

theorem find_end {ps : List Pl} {k : Key} {j x : Nat} {p : Pl} (hj : j < ps.length) (hw : Walked ps (home ps.length k) k j) (hx : x = (home ps.length k + j) % ps.length) (hp : ps[x]? = some p) (h0 : p.st = 0) : Found (home ps.length) ps k x false := by
  simp only [Found, Bool.false_eq_true, if_false]
  exact ⟨j, j, hj, Nat.le_refl _, hw, ⟨p, by rw [← hx]; exact hp, h0⟩, hx, p, hp, by omega⟩

theorem find_spare {ps : List Pl} {k : Key} {j x : Nat} {p : Pl} {s : Int} (hj : j < ps.length) (hw : Walked ps (home ps.length k) k j) (hx : x = (home ps.length k + j) % ps.length) (hp : ps[x]? = some p) (h0 : p.st = 0) (hs : 0 ≤ s)
    (hsp : 0 ≤ s → ∃ i, i < j ∧ s = (((home ps.length k + i) % ps.length : Nat) : Int) ∧ ∃ p, ps[(home ps.length k + i) % ps.length]? = some p ∧ p.st ≠ 1) : ∃ y : Nat, s = (y : Int) ∧ y < ps.length ∧ Found (home ps.length) ps k y false := by
  obtain ⟨i, hi, e, r⟩ := hsp hs
  refine ⟨_, e, Nat.mod_lt _ (by omega), ?_⟩
  simp only [Found, Bool.false_eq_true, if_false]
  exact ⟨j, i, hj, by omega, hw, ⟨p, by rw [← hx]; exact hp, h0⟩, rfl, r⟩

theorem find_any (k : Key) (t b : Nat) (ps : List Pl) (n u : Nat) (w : World) (h : Lies w t b ps n u) (pw : Nat) (hpw : ps.length = 2 ^ pw) (hpw2 : pw ≤ 23) (hf : ps.countP used < ps.length) :
    Calls Try.prog 61 #[.pointer (some ⟨t, 0, none⟩), keyV k] w (FindOut ps k w) := by
  unfold keyV
  have hl : ps.length ≤ 8388608 := by
    rw [hpw]; exact Nat.pow_le_pow_right (n := 2) (by omega) hpw2
  have hl1 : 1 ≤ ps.length := by omega
  obtain ⟨_, c1, _, _⟩ := h.tops
  obtain ⟨hae, hal⟩ := home_eq k ps.length hl1 (by omega)
  obtain ⟨a, ha⟩ : ∃ a, home ps.length k = a := ⟨_, rfl⟩
  have HA := Lib.hid ha
  rw [ha] at hae hal
  have HAE := Lib.hid hae
  have HPW := Lib.hid hpw
  have HF := Lib.hid hf
  have ht := h.lt_t
  clear ha hae hpw hf
  go_enter Try.func61, Try.ntmps61
  go_wp2_with fail
  refine (mix_any k _).mono ?_
  rintro e w1 ⟨rfl, hb⟩
  have h1 := h.keep (((Below.refl _ _).alloc (Nat.le_refl _) _).trans (hb.mono (by simp)))
  have hbel : Below w.heap.size w w1 := ((Below.refl _ _).alloc (Nat.le_refl _) _).trans (hb.mono (by simp))
  clear c1 ht
  obtain ⟨_, c1, _, _⟩ := h1.tops
  obtain ⟨k0, k1, k2⟩ := box_cells hb
  go_wp2_with fail
  rw [HAE.out]
  go_loopw [7, 8] (FindRel ps a k w1) (fun _ ix _ => left ps.length a (intOf ix).toNat)
  case atStart => exact ⟨0, 0, a, -1, by omega, Walked.zero _ _ _, Lib.hid (by rw [Nat.add_zero, Nat.mod_eq_of_lt hal]), hal, rfl, rfl, by omega, rfl, fun h => absurd h (by omega)⟩
  case round =>
    obtain ⟨j, q, x, s, hj, hw, hx, hxl, rfl, rfl, hs, rfl, hsp⟩ := hrel
    obtain ⟨p, hp⟩ : ∃ p, ps[x]? = some p := ⟨_, List.getElem?_eq_getElem hxl⟩
    obtain ⟨d0, d1, d2, d3, d4⟩ := h1.cells hp
    have HP := Lib.hid hp
    have HS := Lib.hid hsp
    clear hp hsp
    by_cases h0 : p.st = 1
    · by_cases hk : p.k = k
      · have he : ∀ w, (Op.equalIn 10000 75 (.agg #[.int .i64 k.a, .int .i64 k.b, .int .i64 k.c]) (.agg #[.int .i64 k.a, .int .i64 k.b, .int .i64 k.c])).run Try.prog w = .ok true w := fun w => by rw [eqKey, decide_eq_true rfl]
        have HK := Lib.hid hk
        rw [h0] at d0
        have H0 := Lib.hid h0
        rw [hk] at d1 d2 d3
        clear hk h0
        go_wp2_with fail
        go_quiet (fail)
        go_wp2_with fail
        go_ret2
        exact ⟨x, true, rfl, hxl, find_here HP.out H0.out HK.out, below_drewN (below_drewN hbel _) _⟩
      · have he : ∀ w, (Op.equalIn 10000 75 (.agg #[.int .i64 p.k.a, .int .i64 p.k.b, .int .i64 p.k.c]) (.agg #[.int .i64 k.a, .int .i64 k.b, .int .i64 k.c])).run Try.prog w = .ok false w := fun w => by rw [eqKey, decide_eq_false hk]
        have HK := Lib.hid hk
        rw [h0] at d0
        have H0 := Lib.hid h0
        clear hk h0
        go_wp2_with fail
        go_quiet (fail)
        go_wp2_with fail
        exact find_next hal HF.out HPW.out (by omega) hw hx hxl HP.out (by rw [H0.out]; omega) (fun h => HK.out h.2) hs HS.out (.inl rfl)
    · by_cases h2 : p.st = 2
      · rw [h2] at d0
        have H2 := Lib.hid h2
        clear h0 h2
        by_cases hs0 : s < 0
        · go_wp2_with fail
          go_quiet (fail)
          go_wp2_with fail
          exact find_next hal HF.out HPW.out (by omega) hw hx hxl HP.out (by rw [H2.out]; omega) (fun h => by have := H2.out; omega) (by omega) HS.out (.inr ⟨rfl, by rw [H2.out]; omega⟩)
        · go_wp2_with fail
          go_quiet (fail)
          go_wp2_with fail
          exact find_next hal HF.out HPW.out (by omega) hw hx hxl HP.out (by rw [H2.out]; omega) (fun h => by have := H2.out; omega) hs HS.out (.inl rfl)
      · by_cases h3 : p.st = 0
        · rw [h3] at d0
          have H3 := Lib.hid h3
          clear h0 h2 h3
          by_cases hs0 : s < 0
          · go_wp2_with fail
            go_ret2
            have ha := HA.out
            subst ha
            exact ⟨x, false, rfl, hxl, find_end hj hw hx HP.out H3.out, below_drewN hbel _⟩
          · have ha := HA.out
            subst ha
            obtain ⟨y, rfl, hyl, hy⟩ := find_spare hj hw hx HP.out H3.out (by omega) HS.out
            have HY := Lib.hid hy
            clear hy
            go_wp2_with fail
            go_ret2
            exact ⟨y, false, rfl, hyl, HY.out, below_drewN hbel _⟩
        · obtain ⟨y, hy⟩ : ∃ y : Int, (p.st : Int) = y := ⟨_, rfl⟩
          have y0 : (y != 0) = true := by simp; omega
          have y1 : (y == 1) = false := by simp; omega
          have y2 : (y == 2) = false := by simp; omega
          rw [hy] at d0
          have HY := Lib.hid hy
          have H3 := Lib.hid h3
          have H0 := Lib.hid h0
          clear h0 h2 h3 hy
          go_wp2_with fail
          go_quiet (fail)
          go_wp2_with fail
          exact find_next hal HF.out HPW.out (by omega) hw hx hxl HP.out H3.out (fun h => H0.out h.1) hs HS.out (.inl rfl)
end Go.Proofs.Ytkmffmlnondolaa

/- Contracts of layer 2 (hash): set, crowded, rebuild, empty, New. -/
namespace Go.Proofs.Ytkmffmlnondolaa
open Go.ChangeShapes Go.WideShapes Go.ChangeAt Go.RowKit

def placeV (p : Pl) : Value := .agg #[.int .i64 p.st, .int .i64 p.k.a, .int .i64 p.k.b, .int .i64 p.k.c, .int .i64 p.v]

theorem Lies.free {w : World} {t b : Nat} {ps : List Pl} {n u : Nat} (h : Lies w t b ps n u) : (∀ o, w.frozen? ⟨t, o, none⟩ = false) ∧ (∀ o, w.frozen? ⟨b, o, none⟩ = false) :=
  ⟨fun o => frozen_of_row w t o _ _ h.head, fun o => frozen_of_row w b o _ _ h.row⟩

/-- Of what was there, blocks t and b alone may have turned. -/
structure Mut (t b : Nat) (w w' : World) : Prop where
  os : w'.os = w.os
  tape : w'.tape = w.tape
  output : w'.output = w.output
  size : w.heap.size ≤ w'.heap.size
  block : ∀ i, i < w.heap.size → i ≠ t → i ≠ b → w'.heap[i]? = w.heap[i]?

theorem Mut.refl (t b : Nat) (w : World) : Mut t b w w := ⟨rfl, rfl, rfl, Nat.le_refl _, fun _ _ _ _ => rfl⟩
theorem Mut.alloc {t b : Nat} {w w1 : World} (h : Mut t b w w1) (o : Obj) : Mut t b w (w1.alloc o) :=
  ⟨h.os, h.tape, h.output, Nat.le_trans h.size (by simp), fun i hi h1 h2 => (Below.heap_alloc w1 o i (Nat.lt_of_lt_of_le hi h.size)).trans (h.block i hi h1 h2)⟩
theorem Mut.setCell {t b : Nat} {w w1 : World} (h : Mut t b w w1) {p : Addr} (hp : p.block = t ∨ p.block = b ∨ w.heap.size ≤ p.block) (v : Value) : Mut t b w (w1.setCell p v) :=
  ⟨h.os, h.tape, h.output, by simpa [World.setCell] using h.size, fun i hi h1 h2 => (Below.heap_setCell w1 p v i (by rcases hp with hp | hp | hp <;> omega)).trans (h.block i hi h1 h2)⟩
theorem Mut.drew {t b : Nat} {w w1 : World} (h : Mut t b w w1) : Mut t b w w1.drew := ⟨h.os, h.tape, h.output, h.size, h.block⟩
theorem Mut.drewN {t b : Nat} {w w1 : World} (h : Mut t b w w1) (q : Nat) : Mut t b w (w1.drewN q) := ⟨h.os, h.tape, h.output, h.size, h.block⟩
theorem Mut.below {t b : Nat} {w w1 w2 : World} (h : Mut t b w w1) (k : Below w1.heap.size w1 w2) : Mut t b w w2 :=
  ⟨k.os.trans h.os, k.tape.trans h.tape, k.output.trans h.output, Nat.le_trans h.size k.size, fun i hi h1 h2 => (k.block i (Nat.lt_of_lt_of_le hi h.size)).trans (h.block i hi h1 h2)⟩
theorem Mut.trans {t b b' : Nat} {w w1 w2 : World} (h : Mut t b w w1) (k : Mut t b' w1 w2) (hb : b' = b ∨ w.heap.size ≤ b') : Mut t b w w2 :=
  ⟨k.os.trans h.os, k.tape.trans h.tape, k.output.trans h.output, Nat.le_trans h.size k.size, fun i hi h1 h2 => (k.block i (Nat.lt_of_lt_of_le hi h.size) h1 (by rcases hb with rfl | hb <;> omega)).trans (h.block i hi h1 h2)⟩
theorem Mut.to_below {B t b : Nat} {w w1 w2 : World} (h : Below B w w1) (k : Mut t b w1 w2) (ht : B ≤ t) (hb : B ≤ b) (hB : B ≤ w1.heap.size) : Below B w w2 :=
  ⟨k.os.trans h.os, k.tape.trans h.tape, k.output.trans h.output, Nat.le_trans h.size k.size, fun i hi => (k.block i (by omega) (by omega) (by omega)).trans (h.block i hi)⟩

theorem cellsAll_set (ps : List Pl) : ∀ (x : Nat) (q : Pl), x < ps.length → cellsAll (ps.set x q) =
    (((((cellsAll ps).set (x * 5) (.int .i64 q.st)).set (x * 5 + 1) (.int .i64 q.k.a)).set (x * 5 + 2) (.int .i64 q.k.b)).set (x * 5 + 3) (.int .i64 q.k.c)).set (x * 5 + 4) (.int .i64 q.v) := by
  induction ps with
  | nil => intro x q h; simp at h
  | cons p r ih =>
    intro x q h
    cases x with
    | zero => rfl
    | succ x =>
      have hs : ∀ (l : List Value) (c : Nat) (v : Value), (cellsOf p ++ l).set ((x + 1) * 5 + c) v = cellsOf p ++ l.set (x * 5 + c) v := by
        intro l c v
        have hl : (cellsOf p).length = 5 := rfl
        rw [List.set_append_right _ _ (by omega), hl]
        congr 2; omega
      have e := ih x q (by simpa using h)
      show cellsOf p ++ cellsAll (r.set x q) = _
      rw [e]
      show _ = ((((((cellsOf p ++ cellsAll r).set ((x + 1) * 5 + 0) _).set ((x + 1) * 5 + 1) _).set _ _).set _ _).set _ _)
      rw [hs, hs, hs, hs, hs]
      rfl

theorem Lies.drew {w : World} {t b : Nat} {ps : List Pl} {n u : Nat} (h : Lies w t b ps n u) : Lies w.drew t b ps n u := ⟨h.head, h.row, h.ne⟩
theorem Lies.drewN {w : World} {t b : Nat} {ps : List Pl} {n u : Nat} (h : Lies w t b ps n u) (q : Nat) : Lies (w.drewN q) t b ps n u := ⟨h.head, h.row, h.ne⟩
theorem Lies.alloc {w : World} {t b : Nat} {ps : List Pl} {n u : Nat} (h : Lies w t b ps n u) (o : Obj) : Lies (w.alloc o) t b ps n u :=
  ⟨(Below.heap_alloc w o t h.lt_t).trans h.head, (Below.heap_alloc w o b h.lt_b).trans h.row, h.ne⟩
theorem Lies.setN {w : World} {t b : Nat} {ps : List Pl} {n u : Nat} (h : Lies w t b ps n u) {n' : Nat} {z : Int} (hz : z = n') : Lies (w.setCell ⟨t, 2, none⟩ (.int .i64 z)) t b ps n' u := by
  subst hz
  exact ⟨(heap_setCell_same w t 2 _ _ _ h.head).trans rfl, (heap_setCell_other w _ b _ h.ne.symm).trans h.row, h.ne⟩
theorem Lies.setU {w : World} {t b : Nat} {ps : List Pl} {n u : Nat} (h : Lies w t b ps n u) {u' : Nat} {z : Int} (hz : z = u') : Lies (w.setCell ⟨t, 3, none⟩ (.int .i64 z)) t b ps n u' := by
  subst hz
  exact ⟨(heap_setCell_same w t 3 _ _ _ h.head).trans rfl, (heap_setCell_other w _ b _ h.ne.symm).trans h.row, h.ne⟩
theorem Lies.setP {w : World} {t b : Nat} {ps : List Pl} {n u : Nat} (h : Lies w t b ps n u) {x : Nat} (hx : x < ps.length) (q : Pl) :
    Lies (((((w.setCell ⟨b, x * 5, none⟩ (.int .i64 q.st)).setCell ⟨b, x * 5 + 1, none⟩ (.int .i64 q.k.a)).setCell ⟨b, x * 5 + 2, none⟩ (.int .i64 q.k.b)).setCell ⟨b, x * 5 + 3, none⟩ (.int .i64 q.k.c)).setCell ⟨b, x * 5 + 4, none⟩ (.int .i64 q.v)) t b (ps.set x q) n u := by
  have e : ∀ (W : World) (i : Nat) (v : Value) (l : List Value), W.heap[b]? = some (.cells l.toArray 117 (0, 0)) → (W.setCell ⟨b, i, none⟩ v).heap[b]? = some (.cells (l.set i v).toArray 117 (0, 0)) := by
    intro W i v l hW
    rw [heap_setCell_same W b i _ _ _ hW, List.setIfInBounds_toArray]
  refine ⟨?_, ?_, h.ne⟩
  · rw [heap_setCell_other _ _ t _ h.ne, heap_setCell_other _ _ t _ h.ne, heap_setCell_other _ _ t _ h.ne, heap_setCell_other _ _ t _ h.ne, heap_setCell_other _ _ t _ h.ne, List.length_set]
    exact h.head
  · rw [cellsAll_set ps x q hx]
    exact e _ _ _ _ (e _ _ _ _ (e _ _ _ _ (e _ _ _ _ (e _ _ _ _ h.row))))

theorem crowded_any (t b : Nat) (ps : List Pl) (n u : Nat) (w : World) (h : Lies w t b ps n u) (hl : ps.length ≤ 8388608) (hu : u ≤ 8388608) :
    Calls Try.prog 74 #[.pointer (some ⟨t, 0, none⟩)] w fun e w' => e = .returned (.bool (decide (3 * (ps.length : Int) < 4 * ((u : Int) + 1)))) ∧ Below w.heap.size w w' := by
  obtain ⟨_, c1, _, c3⟩ := h.tops
  go_enter Try.func74, Try.ntmps74
  go_wp2
  go_quiet (fail)
  go_wp2
  go_ret
  exact ⟨rfl, below_drewN (Below.refl _ _) _⟩

def SetOut (t b : Nat) (ps : List Pl) (n u : Nat) (w : World) (e : Ending) (w' : World) : Prop :=
  e = .returned (.tuple #[]) ∧ Lies w' t b ps n u ∧ Mut t b w w'

theorem set_any (t b : Nat) (ps : List Pl) (n u x : Nat) (p q : Pl) (w : World) (h : Lies w t b ps n u) (_ : ps.length ≤ 8388608) (hu : u ≤ 8388608) (hn : n ≤ 8388608) (hx : ps[x]? = some p) :
    Calls Try.prog 76 #[.pointer (some ⟨t, 0, none⟩), .int .i64 x, placeV q] w (SetOut t b (ps.set x q) (n + 1) (if p.st = 0 then u + 1 else u) w) := by
  obtain ⟨_, c1, c2, c3⟩ := h.tops
  obtain ⟨d0, d1, d2, d3, d4⟩ := h.cells hx
  obtain ⟨f1, f2⟩ := h.free
  have hxl : x < ps.length := (List.getElem?_eq_some_iff.1 hx).1
  have ht := h.lt_t
  have hb := h.lt_b
  have hne := h.ne
  unfold placeV
  clear hx
  by_cases h0 : p.st = 0
  · rw [h0] at d0
    rw [if_pos h0]
    clear h0
    go_enter Try.func76, Try.ntmps76
    go_wp2
    go_region
    go_wp2
    go_end0
    refine ⟨rfl, ((((h.setU (u' := u + 1) (by omega)).setP hxl q).setN (n' := n + 1) (by omega)).alloc _).drew, ?_⟩
    exact (((((((((Mut.refl t b w).setCell (.inl rfl) _).setCell (.inr (.inl rfl)) _).setCell (.inr (.inl rfl)) _).setCell (.inr (.inl rfl)) _).setCell (.inr (.inl rfl)) _).setCell (.inr (.inl rfl)) _).setCell (.inl rfl) _).alloc _).drew
  · rw [if_neg h0]
    obtain ⟨y, hy⟩ : ∃ y : Int, (p.st : Int) = y := ⟨_, rfl⟩
    have y0 : (y == 0) = false := by simp; omega
    rw [hy] at d0
    clear h0 hy
    go_enter Try.func76, Try.ntmps76
    go_wp2
    go_region
    go_wp2
    go_end0
    refine ⟨rfl, (((h.setP hxl q).setN (n' := n + 1) (by omega)).alloc _).drew, ?_⟩
    exact ((((((((Mut.refl t b w).setCell (.inr (.inl rfl)) _).setCell (.inr (.inl rfl)) _).setCell (.inr (.inl rfl)) _).setCell (.inr (.inl rfl)) _).setCell (.inr (.inl rfl)) _).setCell (.inl rfl) _).alloc _).drew

/-- The table with its places: what they say, how many keys, and how many places are not free. -/
structure Full (w : World) (t b : Nat) (ps : List Pl) (f : Key → Option Int) (n u : Nat) : Prop where
  lies : Lies w t b ps n u
  rep : Rep (home ps.length) ps f n u
  pow : ∃ pw, ps.length = 2 ^ pw ∧ 3 ≤ pw ∧ pw ≤ 22

theorem Full.len {w : World} {t b : Nat} {ps : List Pl} {f : Key → Option Int} {n u : Nat} (h : Full w t b ps f n u) : 8 ≤ ps.length ∧ ps.length ≤ 4194304 := by
  obtain ⟨pw, e, h1, h2⟩ := h.pow
  rw [e]
  have a1 : 2 ^ 3 ≤ 2 ^ pw := Nat.pow_le_pow_right (by omega) h1
  have a2 : 2 ^ pw ≤ 2 ^ 22 := Nat.pow_le_pow_right (by omega) h2
  omega

theorem find_full {w : World} {t b : Nat} {ps : List Pl} {f : Key → Option Int} {n u : Nat} (h : Full w t b ps f n u) (hu : u < ps.length) (k : Key) :
    Calls Try.prog 61 #[.pointer (some ⟨t, 0, none⟩), keyV k] w (FindOut ps k w) := by
  obtain ⟨pw, e, h1, h2⟩ := h.pow
  exact find_any k t b ps n u w h.lies pw e (by omega) (by rw [h.rep.uses]; exact hu)

def rows0 (m : Nat) : List Pl := List.replicate m Pl.zero

theorem cells_rows0 (m : Nat) : cellsAll (rows0 m) = List.replicate (m * 5) (.int .i64 0) := by
  unfold rows0
  induction m with
  | zero => rfl
  | succ m ih =>
    rw [List.replicate_succ]
    show cellsOf Pl.zero ++ cellsAll (List.replicate m Pl.zero) = _
    rw [ih, show (m + 1) * 5 = 5 + m * 5 by omega, ← List.replicate_append_replicate]
    rfl

theorem cells_zero (m : Nat) : madeCells (Value.agg #[.int .i64 0, .int .i64 0, .int .i64 0, .int .i64 0, .int .i64 0]).cells (m * 5) = (cellsAll (rows0 m)).toArray := by
  rw [cells_rows0]
  apply Array.ext
  · simp [size_madeCells]
  · intro i h1 h2
    have hi : i % 5 < 5 := Nat.mod_lt _ (by omega)
    simp only [madeCells, Array.getElem_map, Array.getElem_range, List.getElem_toArray, List.getElem_replicate, Value.cells]
    show (#[Value.int .i64 0, .int .i64 0, .int .i64 0, .int .i64 0, .int .i64 0])[i % 5]! = _
    generalize i % 5 = r at hi
    match r, hi with
    | 0, _ => rfl
    | 1, _ => rfl
    | 2, _ => rfl
    | 3, _ => rfl
    | 4, _ => rfl

theorem run_make_places (m : Nat) (hm : m ≤ 8388608) (w : World) :
    (Instr.makeSlice 108 (.int .i64 (m : Int)) (.int .i64 (m : Int))).run Try.prog w = .ok (.slice (some ⟨w.heap.size, 0, none⟩) m m) (w.alloc (.cells (cellsAll (rows0 m)).toArray 117)) := by
  obtain ⟨i, hi, hz, hz1, hz2⟩ := info_parts info_place
  have hb : (i.bytes : Int) * (m : Int) ≤ 281474976710656 := by rw [hz2]; omega
  have hr := run_make (P := Try.prog) w 108 117 i _ Try.underlying108 hi hz .i64 .i64 m m (by omega) (by omega) hb (by omega)
  rw [hz1] at hr
  simp only [Int.toNat_natCast] at hr
  rw [cells_zero] at hr
  exact hr

/-- The table is as one that is new. -/
def NewOut (t : Nat) (w : World) (e : Ending) (w' : World) : Prop :=
  e = .returned (.tuple #[]) ∧ Mut t t w w' ∧ Full w' t w.heap.size (rows0 8) (fun _ => none) 0 0

theorem full_new {w : World} {t b m pw : Nat} (h : Lies w t b (rows0 m) 0 0) (e : m = 2 ^ pw) (h1 : 3 ≤ pw) (h2 : pw ≤ 22) : Full w t b (rows0 m) (fun _ => none) 0 0 :=
  ⟨h, Rep.new _ m, pw, by rw [rows0, List.length_replicate]; exact e, h1, h2⟩

theorem size_setCell (w : World) (p : Addr) (v : Value) : (w.setCell p v).heap.size = w.heap.size := by simp [World.setCell]

/-- A table's block with new places. -/
theorem lies_made {w : World} {t m : Nat} {x1 x2 x3 : Value} {L : Array Value} (h : w.heap[t]? = some (.cells #[.pointer (some ⟨t, 0, none⟩), x1, x2, x3] 110 (0, 0))) (hL : (cellsAll (rows0 m)).toArray = L) :
    Lies ((((w.setCell ⟨t, 1, none⟩ (.slice (some ⟨w.heap.size, 0, none⟩) m m)).setCell ⟨t, 2, none⟩ (.int .i64 0)).setCell ⟨t, 3, none⟩ (.int .i64 0)).alloc (.cells L 117)) t w.heap.size (rows0 m) 0 0 := by
  have ht : t < w.heap.size := by
    rcases Nat.lt_or_ge t w.heap.size with h1 | h1
    · exact h1
    · rw [Array.getElem?_eq_none h1] at h; cases h
  have h1 := heap_setCell_same w t 1 _ _ (.slice (some ⟨w.heap.size, 0, none⟩) m m) h
  have h2 := heap_setCell_same _ t 2 _ _ (.int .i64 0) h1
  have h3 := heap_setCell_same _ t 3 _ _ (.int .i64 0) h2
  refine ⟨?_, ?_, by omega⟩
  · rw [Below.heap_alloc _ _ _ (by simp only [size_setCell]; omega), h3]
    simp [rows0]
  · have e : (((w.setCell ⟨t, 1, none⟩ (.slice (some ⟨w.heap.size, 0, none⟩) m m)).setCell ⟨t, 2, none⟩ (.int .i64 0)).setCell ⟨t, 3, none⟩ (.int .i64 0)).heap.size = w.heap.size := by simp only [size_setCell]
    have hn := heap_alloc_new (((w.setCell ⟨t, 1, none⟩ (.slice (some ⟨w.heap.size, 0, none⟩) m m)).setCell ⟨t, 2, none⟩ (.int .i64 0)).setCell ⟨t, 3, none⟩ (.int .i64 0)) (.cells L 117)
    rw [e] at hn
    rw [hn, hL]

theorem mut_made {w : World} {t : Nat} (b : Nat) {v1 v2 v3 : Value} (o : Obj) : Mut t b w ((((w.setCell ⟨t, 1, none⟩ v1).setCell ⟨t, 2, none⟩ v2).setCell ⟨t, 3, none⟩ v3).alloc o) :=
  ((((Mut.refl t b w).setCell (.inl rfl) _).setCell (.inl rfl) _).setCell (.inl rfl) _).alloc _

theorem empty_any (t : Nat) (x1 x2 x3 : Value) (w : World) (h : w.heap[t]? = some (.cells #[.pointer (some ⟨t, 0, none⟩), x1, x2, x3] 110 (0, 0))) :
    Calls Try.prog 57 #[.pointer (some ⟨t, 0, none⟩)] w (NewOut t w) := by
  have c0 := cell_of_row w t 0 _ _ _ h
  have c1 := cell_of_row w t 1 _ _ _ h
  have c2 := cell_of_row w t 2 _ _ _ h
  have c3 := cell_of_row w t 3 _ _ _ h
  have f1 := fun o => frozen_of_row w t o _ _ h
  have hmk := run_make_places 8 (by omega)
  have hmk : ∀ w : World, (Instr.makeSlice 108 (.int .i64 8) (.int .i64 8)).run Try.prog w = .ok (.slice (some ⟨w.heap.size, 0, none⟩) 8 8) (w.alloc (.cells (cellsAll (rows0 8)).toArray 117)) := hmk
  have ht : t < w.heap.size := by
    rcases Nat.lt_or_ge t w.heap.size with h1 | h1
    · exact h1
    · rw [Array.getElem?_eq_none h1] at h; cases h
  have HH := Lib.hid h
  clear h
  simp at c0 c1 c2 c3
  obtain ⟨L, hL⟩ : ∃ L, (cellsAll (rows0 8)).toArray = L := ⟨_, rfl⟩
  rw [hL] at hmk
  have HL := Lib.hid hL
  clear hL
  go_enter Try.func57, Try.ntmps57
  go_wp2
  go_end0
  exact ⟨rfl, mut_made t _, full_new (lies_made HH.out HL.out) (pw := 3) rfl (by omega) (by omega)⟩

/-- New gives a table without keys. -/
def MadeOut (w : World) (e : Ending) (w' : World) : Prop :=
  ∃ t b, e = .returned (.pointer (some ⟨t, 0, none⟩)) ∧ Full w' t b (rows0 8) (fun _ => none) 0 0 ∧ Below w.heap.size w w' ∧ w.heap.size ≤ t ∧ w.heap.size ≤ b

theorem new_any (w : World) : Calls Try.prog 35 #[] w (MadeOut w) := by
  go_enter Try.func35, Try.ntmps35
  go_wp2_with fail
  refine (empty_any w.heap.size _ _ _ _ (heap_alloc_new w _)).mono ?_
  rintro e w1 ⟨rfl, hm, hf⟩
  have hb : Below w.heap.size w w1 := Mut.to_below ((Below.refl _ _).alloc (Nat.le_refl _) _) hm (Nat.le_refl _) (Nat.le_refl _) (by simp)
  go_wp2_with fail
  go_ret
  exact ⟨_, _, rfl, hf, hb, Nat.le_refl _, by simp⟩

end Go.Proofs.Ytkmffmlnondolaa

/- Contract of layer 2 (hash): rebuild. -/
namespace Go.Proofs.Ytkmffmlnondolaa
open Go.ChangeShapes Go.WideShapes Go.ChangeAt Go.RowKit

/-- The first i of the old places have been put into the new ones. -/
structure Half (ps : List Pl) (i : Nat) (f : Key → Option Int) (n : Nat) : Prop where
  says : ∀ k v, f k = some v ↔ ∃ j : Nat, j < i ∧ ps[j]? = some ⟨1, k, v⟩
  count : n = (ps.take i).countP full

theorem Half.zero (ps : List Pl) : Half ps 0 (fun _ => none) 0 :=
  ⟨fun k v => ⟨fun h => (by cases h), fun ⟨j, hj, _⟩ => absurd hj (by omega)⟩, by simp⟩

theorem take_count (ps : List Pl) (i : Nat) (p : Pl) (hp : ps[i]? = some p) : (ps.take (i + 1)).countP full = (ps.take i).countP full + if full p then 1 else 0 := by
  have hi : i < ps.length := (List.getElem?_eq_some_iff.1 hp).1
  have he : ps[i] = p := (List.getElem?_eq_some_iff.1 hp).2
  rw [List.take_succ_eq_append_getElem hi, List.countP_append, he]
  simp

theorem Half.skip {ps : List Pl} {i : Nat} {f : Key → Option Int} {n : Nat} (h : Half ps i f n) {p : Pl} (hp : ps[i]? = some p) (h1 : p.st ≠ 1) : Half ps (i + 1) f n := by
  refine ⟨fun k v => ?_, ?_⟩
  · rw [h.says]
    constructor
    · rintro ⟨j, hj, e⟩; exact ⟨j, by omega, e⟩
    · rintro ⟨j, hj, e⟩
      refine ⟨j, ?_, e⟩
      rcases Nat.lt_or_ge j i with h2 | h2
      · exact h2
      · obtain rfl : j = i := by omega
        rw [hp] at e; injection e with e; subst e; exact absurd rfl h1
  · rw [take_count ps i p hp, ← h.count]
    simp [full, h1]

theorem Half.fresh {h : Key → Nat} {ps : List Pl} {i : Nat} {f : Key → Option Int} {n : Nat} (hh : Half ps i f n) (g : Good h ps) {k : Key} {v : Int} (hp : ps[i]? = some ⟨1, k, v⟩) : f k = none := by
  cases hf : f k with
  | none => rfl
  | some v' =>
    obtain ⟨j, hj, e⟩ := (hh.says k v').1 hf
    have := g.uniq _ _ _ _ _ e hp
    omega

theorem Half.next {h : Key → Nat} {ps : List Pl} {i : Nat} {f : Key → Option Int} {n : Nat} (hh : Half ps i f n) (g : Good h ps) {k : Key} {v : Int} (hp : ps[i]? = some ⟨1, k, v⟩) : Half ps (i + 1) (fset f k (some v)) (n + 1) := by
  refine ⟨fun k' v' => ?_, ?_⟩
  · unfold fset
    by_cases e : k' = k
    · subst e
      rw [if_pos rfl]
      constructor
      · intro e; injection e with e; subst e; exact ⟨i, by omega, hp⟩
      · rintro ⟨j, hj, e⟩
        have := g.uniq _ _ _ _ _ e hp
        subst this
        rw [hp] at e; injection e with e; injection e with _ _ e; rw [e]
    · rw [if_neg e, hh.says]
      constructor
      · rintro ⟨j, hj, e⟩; exact ⟨j, by omega, e⟩
      · rintro ⟨j, hj, e2⟩
        refine ⟨j, ?_, e2⟩
        rcases Nat.lt_or_ge j i with h2 | h2
        · exact h2
        · obtain rfl : j = i := by omega
          rw [hp] at e2; injection e2 with e2; injection e2 with _ e2 _; exact absurd e2.symm e
  · rw [take_count ps i _ hp, ← hh.count]; rfl

theorem Half.all {h : Key → Nat} {ps : List Pl} {f f' : Key → Option Int} {n n' u : Nat} (r : Rep h ps f n u) (hh : Half ps ps.length f' n') : f' = f ∧ n' = n := by
  refine ⟨funext fun k => Option.ext fun v => ?_, ?_⟩
  · rw [hh.says, r.says]
    constructor
    · rintro ⟨j, _, e⟩; exact ⟨j, e⟩
    · rintro ⟨j, e⟩; exact ⟨j, (List.getElem?_eq_some_iff.1 e).1, e⟩
  · rw [hh.count, List.take_length, r.keys]

theorem Half.le {h : Key → Nat} {ps : List Pl} {f f' : Key → Option Int} {n n' u i : Nat} (r : Rep h ps f n u) (hh : Half ps i f' n') : n' ≤ n := by
  rw [hh.count, ← r.keys]
  exact List.Sublist.countP_le (List.take_sublist _ _)

/-- The old places, where they were. -/
def Old (w : World) (b : Nat) (ps : List Pl) : Prop := w.heap[b]? = some (.cells (cellsAll ps).toArray 117 (0, 0))

theorem Old.cells {w : World} {b : Nat} {ps : List Pl} (h : Old w b ps) {x : Nat} {p : Pl} (hx : ps[x]? = some p) :
    w.cell? ⟨b, x * 5, none⟩ = some (.int .i64 p.st) ∧ w.cell? ⟨b, x * 5 + 1, none⟩ = some (.int .i64 p.k.a) ∧ w.cell? ⟨b, x * 5 + 2, none⟩ = some (.int .i64 p.k.b) ∧
    w.cell? ⟨b, x * 5 + 3, none⟩ = some (.int .i64 p.k.c) ∧ w.cell? ⟨b, x * 5 + 4, none⟩ = some (.int .i64 p.v) := by
  have hc : ∀ c, c < 5 → w.cell? ⟨b, x * 5 + c, none⟩ = (cellsOf p)[c]? := by
    intro c hc
    rw [cell_of_row w b _ _ _ _ h, List.getElem?_toArray]
    exact cellsAll_get ps x p c hx hc
  exact ⟨hc 0 (by omega), hc 1 (by omega), hc 2 (by omega), hc 3 (by omega), hc 4 (by omega)⟩

theorem Old.lt {w : World} {b : Nat} {ps : List Pl} (h : Old w b ps) : b < w.heap.size := by
  rcases Nat.lt_or_ge b w.heap.size with h1 | h1
  · exact h1
  · unfold Old at h; rw [Array.getElem?_eq_none h1] at h; cases h

theorem Old.below {w w' : World} {b : Nat} {ps : List Pl} (h : Old w b ps) (hb : Below w.heap.size w w') : Old w' b ps := (hb.block b h.lt).trans h
theorem Old.mut {w w' : World} {b t b' : Nat} {ps : List Pl} (h : Old w b ps) (hb : Mut t b' w w') (h1 : b ≠ t) (h2 : b ≠ b') : Old w' b ps := (hb.block b h.lt h1 h2).trans h

/-- A round's head in rebuild. -/
def RebRel (t b m : Nat) (ps : List Pl) (w : World) (ix : Value) (wr : World) : Prop :=
  ∃ (i : Nat) (ps' : List Pl) (f' : Key → Option Int) (n' : Nat), i ≤ ps.length ∧ ix = .int .i64 i ∧ Full wr t w.heap.size ps' f' n' n' ∧ Hid (ps'.length = m) ∧ Half ps i f' n' ∧ Old wr b ps ∧ Mut t b w wr

def RebOut (t b : Nat) (f : Key → Option Int) (n : Nat) (w : World) (e : Ending) (w' : World) : Prop :=
  ∃ b' ps', e = .returned (.tuple #[]) ∧ Full w' t b' ps' f n n ∧ 2 * (n + 1) ≤ ps'.length ∧ w.heap.size ≤ b' ∧ Mut t b w w'

theorem Full.keep {w w' : World} {t b : Nat} {ps : List Pl} {f : Key → Option Int} {n u : Nat} (h : Full w t b ps f n u) (hb : Below w.heap.size w w') : Full w' t b ps f n u :=
  ⟨h.lies.keep hb, h.rep, h.pow⟩

theorem reb_next {t b m i x n' : Nat} {ps ps' : List Pl} {w wr w2 w3 : World} {k : Key} {v : Int} {f f' : Key → Option Int} {n u : Nat} {q : Pl} (r : Rep (home ps.length) ps f n u) (hbw : b < w.heap.size) (hne : t ≠ b)
    (hp : ps[i]? = some ⟨1, k, v⟩) (hfull : Full wr t w.heap.size ps' f' n' n') (hlen : ps'.length = m) (hhalf : Half ps i f' n') (hold : Old w2 b ps) (hmut : Mut t b w wr) (hb2 : Below wr.heap.size wr w2)
    (hq1 : q.st = 0 ∨ q.st ≠ 0 ∧ q.st ≠ 1) (hrep : Rep (home ps'.length) (ps'.set x ⟨1, k, v⟩) (fset f' k (some v)) (n' + 1) (if q.st = 0 then n' + 1 else n'))
    (hl : Lies w3 t w.heap.size (ps'.set x ⟨1, k, v⟩) (n' + 1) (if q.st = 0 then n' + 1 else n')) (hm : Mut t w.heap.size w2 w3) :
    RebRel t b m ps w (.int .i64 ((i : Int) + 1)) w3 := by
  have hu : (if q.st = 0 then n' + 1 else n') = n' + 1 := by
    rcases hq1 with h | ⟨h, _⟩
    · rw [if_pos h]
    · have := hrep.le; rw [if_neg h] at this; omega
  rw [hu] at hrep hl
  have hi : i < ps.length := (List.getElem?_eq_some_iff.1 hp).1
  refine ⟨i + 1, _, _, n' + 1, hi, by go_num, ⟨hl, by rw [List.length_set]; exact hrep, by rw [List.length_set]; exact hfull.pow⟩, Lib.hid (by rw [List.length_set]; exact hlen), hhalf.next r.good hp, hold.mut hm hne.symm (by omega), ?_⟩
  exact (hmut.below hb2).trans hm (.inr (Nat.le_refl _))

theorem rebuild_any {t b : Nat} {ps : List Pl} {f : Key → Option Int} {n u : Nat} {w : World} (h : Full w t b ps f n u) (hn : n < 1048576) :
    Calls Try.prog 75 #[.pointer (some ⟨t, 0, none⟩)] w (RebOut t b f n w) := by
  obtain ⟨c0, c1, c2, c3⟩ := h.lies.tops
  obtain ⟨hl1, hl2⟩ := h.len
  obtain ⟨f1, f2⟩ := h.lies.free
  have ht := h.lies.lt_t
  have hne := h.lies.ne
  go_enter Try.func75, Try.ntmps75
  go_wp2
  go_loop [2] (fun s => ∃ (pw m : Nat), Hid (m = 2 ^ pw) ∧ 3 ≤ pw ∧ pw ≤ 22 ∧ 8 ≤ m ∧ m ≤ 4194304 ∧ s = .int .i64 m) (fun s => 2 * (n + 1) - (intOf s).toNat)
  case atStart => exact ⟨3, 8, rfl, by omega, by omega, by omega, by omega, rfl⟩
  case round =>
    obtain ⟨pw, m, hm, hp1, hp2, hm1, hm2, rfl⟩ := hrel
    by_cases hlt : m < 2 * (n + 1)
    · have hlt' : (m : Int) < 2 * ((n : Int) + 1) := by omega
      go_wp2
      go_round
      case rel =>
        have hm := hm.out
        have hp3 : pw ≤ 20 := by
          rcases Nat.lt_or_ge 20 pw with h1 | h1
          · have : 2 ^ 21 ≤ 2 ^ pw := Nat.pow_le_pow_right (by omega) h1
            omega
          · exact h1
        exact ⟨pw + 1, m * 2, by show _ = _; rw [hm, Nat.pow_succ], by omega, by omega, by omega, by omega, by go_num⟩
      case measure => simp [intOf]; omega
    · have hlt' : ¬ (m : Int) < 2 * ((n : Int) + 1) := by omega
      have hmk := run_make_places m (by omega)
      obtain ⟨L, hL⟩ : ∃ L, (cellsAll (rows0 m)).toArray = L := ⟨_, rfl⟩
      rw [hL] at hmk
      have HL := Lib.hid hL
      clear hL
      go_wp2
      have hlies := lies_made (t := t) (m := m) h.lies.head HL.out
      have hfull := full_new hlies hm.out hp1 (by omega)
      have hold : Old _ b ps := Old.mut (t := t) (b' := w.heap.size) h.lies.row (mut_made w.heap.size (.cells L 117) (v1 := .slice (some ⟨w.heap.size, 0, none⟩) m m) (v2 := .int .i64 0) (v3 := .int .i64 0)) hne.symm (by have := h.lies.lt_b; omega)
      have hmut : Mut t b w _ := mut_made b (.cells L 117) (v1 := .slice (some ⟨w.heap.size, 0, none⟩) m m) (v2 := .int .i64 0) (v3 := .int .i64 0)
      go_loopw [34] (RebRel t b m ps w) (fun ix _ => ps.length - (intOf ix).toNat)
      case atStart => exact ⟨0, _, _, 0, Nat.zero_le _, rfl, hfull, Lib.hid (by simp [rows0]), Half.zero ps, hold, hmut⟩
      case round =>
        clear hlies hfull hold hmut
        obtain ⟨i, ps', f', n', hi, rfl, hfull, hlen, hhalf, hold, hmut⟩ := hrel
        by_cases hlt2 : i < ps.length
        · obtain ⟨p, hp⟩ : ∃ p, ps[i]? = some p := ⟨_, List.getElem?_eq_getElem hlt2⟩
          obtain ⟨d0, d1, d2, d3, d4⟩ := hold.cells hp
          have HP := Lib.hid hp
          clear hp
          by_cases h1 : p.st = 1
          · obtain ⟨st, k, v⟩ := p
            simp only at h1
            subst h1
            have hn' := hhalf.le h.rep
            have hfr := hhalf.fresh h.rep.good HP.out
            have HF := Lib.hid hfr
            have hu' : n' < ps'.length := by have := hlen.out; omega
            have hp8 := hfull.len.2
            have F1 := Lib.hid hfull
            clear hfr
            go_wp2_with fail
            refine (find_full F1.out hu' k).mono ?_
            rintro e w2 ⟨x, there, rfl, hx, hfound, hb2⟩
            have hold2 := hold.below hb2
            obtain ⟨g0, g1, g2, g3, g4⟩ := hold2.cells HP.out
            cases there with
            | true =>
              obtain ⟨v', hv, _⟩ := F1.out.rep.found_some hfound
              rw [HF.out] at hv
              cases hv
            | false =>
              obtain ⟨q, hq, hq1, hrep⟩ := F1.out.rep.put_new v hfound
              have hul := F1.out.rep.len
              have HQ := Lib.hid hq
              have HR := Lib.hid hrep
              have HQ1 := Lib.hid hq1
              clear hq hrep hq1 hfound
              go_wp2_with fail
              refine (set_any t w.heap.size ps' n' n' x q ⟨1, k, v⟩ _ (F1.out.lies.keep hb2) (by omega) (by omega) (by omega) HQ.out).mono ?_
              rintro e w3 ⟨rfl, hl3, hm3⟩
              go_wp2_with fail
              go_roundw
              case rel => exact reb_next h.rep h.lies.lt_b hne HP.out F1.out hlen.out hhalf hold2 hmut hb2 HQ1.out HR.out hl3 hm3
              case measure => simp [intOf]; omega
          · obtain ⟨y, hy⟩ : ∃ y : Int, (p.st : Int) = y := ⟨_, rfl⟩
            have y1 : (y == 1) = false := by simp; omega
            rw [hy] at d0
            have HN := Lib.hid (hhalf.skip HP.out h1)
            clear h1 hy
            go_wp2_with fail
            go_roundw
            case rel => exact ⟨i + 1, ps', f', n', hlt2, by go_num, hfull, hlen, HN.out, hold, hmut⟩
            case measure => simp [intOf]; omega
        · go_wp2_with fail
          go_end0
          obtain rfl : i = ps.length := by omega
          obtain ⟨rfl, rfl⟩ := hhalf.all h.rep
          exact ⟨_, ps', rfl, hfull, by have := hlen.out; omega, Nat.le_refl _, hmut⟩
end Go.Proofs.Ytkmffmlnondolaa

/- Contracts of layer 2 (hash): Put, Get, Drop, Len, Clear. -/
namespace Go.Proofs.Ytkmffmlnondolaa
open Go.ChangeShapes Go.WideShapes Go.ChangeAt Go.RowKit

/-- The table at block t, its places in block b, says f of keys; n keys are there. -/
def Tab (w : World) (t b : Nat) (f : Key → Option Int) (n : Nat) : Prop :=
  ∃ ps u, Full w t b ps f n u ∧ 4 * u ≤ 3 * ps.length ∧ n ≤ 1048576

theorem Tab.keep {w w' : World} {t b : Nat} {f : Key → Option Int} {n : Nat} (h : Tab w t b f n) (hb : Below w.heap.size w w') : Tab w' t b f n := by
  obtain ⟨ps, u, h1, h2, h3⟩ := h
  exact ⟨ps, u, h1.keep hb, h2, h3⟩

theorem Tab.lt {w : World} {t b : Nat} {f : Key → Option Int} {n : Nat} (h : Tab w t b f n) : t < w.heap.size ∧ b < w.heap.size ∧ n ≤ 1048576 := by
  obtain ⟨ps, u, h1, _, h3⟩ := h
  exact ⟨h1.lies.lt_t, h1.lies.lt_b, h3⟩

/-- A table stays as it is, while another one turns. -/
theorem Tab.apart {w w' : World} {t b t' b' : Nat} {f : Key → Option Int} {n : Nat} (h : Tab w t b f n) (hm : Mut t' b' w w') (h1 : t ≠ t') (h2 : t ≠ b') (h3 : b ≠ t') (h4 : b ≠ b') : Tab w' t b f n := by
  obtain ⟨ps, u, h5, h6, h7⟩ := h
  exact ⟨ps, u, ⟨⟨(hm.block t h5.lies.lt_t h1 h2).trans h5.lies.head, (hm.block b h5.lies.lt_b h3 h4).trans h5.lies.row, h5.lies.ne⟩, h5.rep, h5.pow⟩, h6, h7⟩

theorem new_tab (w : World) : Calls Try.prog 35 #[] w fun e w' => ∃ t b, e = .returned (.pointer (some ⟨t, 0, none⟩)) ∧ Tab w' t b (fun _ => none) 0 ∧ Below w.heap.size w w' ∧ w.heap.size ≤ t ∧ w.heap.size ≤ b :=
  (new_any w).mono fun _ _ ⟨t, b, he, hf, hb, h1, h2⟩ => ⟨t, b, he, ⟨_, _, hf, by omega, by omega⟩, hb, h1, h2⟩



theorem get_none {w : World} {t b : Nat} {f : Key → Option Int} {n : Nat} (h : Tab w t b f n) (k : Key) (hk : f k = none) :
    Calls Try.prog 39 #[.pointer (some ⟨t, 0, none⟩), keyV k] w fun e w' => e = .returned (.tuple #[.int .i64 0, .int .i64 3]) ∧ Below w.heap.size w w' := by
  obtain ⟨ps, u, h1, h2, _⟩ := h
  have hl := h1.len
  have hu : u < ps.length := by omega
  have h1a := h1.keep ((Below.refl w.heap.size w).alloc (Nat.le_refl _) (.cells #[.int .i64 k.a, .int .i64 k.b, .int .i64 k.c] 75))
  obtain ⟨c0, c1, c2, c3⟩ := h1a.lies.tops
  have H := Lib.hid (given_yes t _ c0)
  have H2 := Lib.hid (find_full h1a hu k)
  have HK := Lib.hid hk
  have HF := Lib.hid h1
  clear hk c0 c1 c2 c3
  unfold keyV
  go_enter Try.func39, Try.ntmps39
  go_wp2_with fail
  refine H.out.mono ?_
  rintro e w' ⟨rfl, rfl⟩
  go_wp2_with fail
  refine H2.out.mono ?_
  rintro e w2 ⟨x, there, rfl, hx, hfound, hb2⟩
  cases there with
  | true =>
    obtain ⟨v', hv, _⟩ := HF.out.rep.found_some hfound
    rw [HK.out] at hv
    cases hv
  | false =>
    clear hfound
    go_wp2_with fail
    go_ret2
    exact ⟨rfl, ((Below.refl _ _).alloc (Nat.le_refl _) _).trans (hb2.mono (by simp))⟩

theorem get_some {w : World} {t b : Nat} {f : Key → Option Int} {n : Nat} (h : Tab w t b f n) (k : Key) (v : Int) (hk : f k = some v) :
    Calls Try.prog 39 #[.pointer (some ⟨t, 0, none⟩), keyV k] w fun e w' => e = .returned (.tuple #[.int .i64 v, .int .i64 0]) ∧ Below w.heap.size w w' := by
  obtain ⟨ps, u, h1, h2, _⟩ := h
  have hl := h1.len
  have hu : u < ps.length := by omega
  have h1a := h1.keep ((Below.refl w.heap.size w).alloc (Nat.le_refl _) (.cells #[.int .i64 k.a, .int .i64 k.b, .int .i64 k.c] 75))
  obtain ⟨c0, c1, c2, c3⟩ := h1a.lies.tops
  have H := Lib.hid (given_yes t _ c0)
  have H2 := Lib.hid (find_full h1a hu k)
  have HK := Lib.hid hk
  have HF := Lib.hid h1
  have HF1 := Lib.hid h1a
  clear hk c0 c1 c2 c3
  unfold keyV
  go_enter Try.func39, Try.ntmps39
  go_wp2_with fail
  refine H.out.mono ?_
  rintro e w' ⟨rfl, rfl⟩
  go_wp2_with fail
  refine H2.out.mono ?_
  rintro e w2 ⟨x, there, rfl, hx, hfound, hb2⟩
  cases there with
  | false =>
    have := HF.out.rep.found_none hfound
    rw [HK.out] at this
    cases this
  | true =>
    obtain ⟨v', hv, hp⟩ := HF.out.rep.found_some hfound
    rw [HK.out] at hv
    obtain rfl : v = v' := by injection hv
    have hl2 := HF1.out.lies.keep hb2
    obtain ⟨c0, c1, c2, c3⟩ := hl2.tops
    obtain ⟨d0, d1, d2, d3, d4⟩ := hl2.cells hp
    clear hfound hv hp
    go_wp2_with fail
    go_ret2
    exact ⟨rfl, ((Below.refl _ _).alloc (Nat.le_refl _) _).trans (hb2.mono (by simp))⟩

end Go.Proofs.Ytkmffmlnondolaa

/- Contracts of layer 2 (hash): Drop, Put. -/
namespace Go.Proofs.Ytkmffmlnondolaa
open Go.ChangeShapes Go.WideShapes Go.ChangeAt Go.RowKit


def PutOut (t b : Nat) (f : Key → Option Int) (n : Nat) (w : World) (e : Ending) (w' : World) : Prop :=
  e = .returned (.int .i64 0) ∧ ∃ b', Tab w' t b' f n ∧ (b' = b ∨ w.heap.size ≤ b') ∧ Mut t b w w'

theorem Lies.setV {w : World} {t b : Nat} {ps : List Pl} {n u : Nat} (h : Lies w t b ps n u) {x : Nat} {k : Key} {v : Int} (hp : ps[x]? = some ⟨1, k, v⟩) (v' : Int) :
    Lies (w.setCell ⟨b, x * 5 + 4, none⟩ (.int .i64 v')) t b (ps.set x ⟨1, k, v'⟩) n u := by
  have hx : x < ps.length := (List.getElem?_eq_some_iff.1 hp).1
  refine ⟨?_, ?_, h.ne⟩
  · rw [heap_setCell_other _ _ t _ h.ne, List.length_set]; exact h.head
  · rw [heap_setCell_same w b _ _ _ _ h.row, List.setIfInBounds_toArray, cellsAll_set ps x ⟨1, k, v'⟩ hx]
    have e : ∀ (l : List Value) (i : Nat) (u : Value), l[i]? = some u → l.set i u = l := by
      intro l i u hu
      apply List.ext_getElem?
      intro j
      rw [List.getElem?_set]
      by_cases hj : i = j
      · subst hj; rw [if_pos rfl, if_pos (List.getElem?_eq_some_iff.1 hu).1, hu]
      · rw [if_neg hj]
    have hc : ∀ c u, c < 5 → (cellsOf ⟨1, k, v⟩)[c]? = some u → (cellsAll ps)[x * 5 + c]? = some u := fun c u hc hu => (cellsAll_get ps x _ c hp hc).trans hu
    rw [e (cellsAll ps) (x * 5) _ (hc 0 _ (by omega) rfl), e (cellsAll ps) (x * 5 + 1) _ (hc 1 _ (by omega) rfl), e (cellsAll ps) (x * 5 + 2) _ (hc 2 _ (by omega) rfl), e (cellsAll ps) (x * 5 + 3) _ (hc 3 _ (by omega) rfl)]

theorem put_old {w : World} {t b : Nat} {f : Key → Option Int} {n : Nat} (h : Tab w t b f n) (k : Key) (v v' : Int) (hk : f k = some v) :
    Calls Try.prog 63 #[.pointer (some ⟨t, 0, none⟩), keyV k, .int .i64 v'] w (PutOut t b (fset f k (some v')) n w) := by
  obtain ⟨ps, u, h1, h2, hn⟩ := h
  have hl := h1.len
  have hu : u < ps.length := by omega
  have hb1 := (Below.refl w.heap.size w).alloc (Nat.le_refl _) (.cells #[.int .i64 k.a, .int .i64 k.b, .int .i64 k.c] 75)
  have h1a := h1.keep hb1
  obtain ⟨c0, c1, c2, c3⟩ := h1a.lies.tops
  have H := Lib.hid (given_yes t _ c0)
  have H2 := Lib.hid (find_full h1a hu k)
  have HK := Lib.hid hk
  have HF := Lib.hid h1
  have HF1 := Lib.hid h1a
  clear hk c0 c1 c2 c3
  unfold keyV
  go_enter Try.func63, Try.ntmps63
  go_wp2_with fail
  refine H.out.mono ?_
  rintro e w' ⟨rfl, rfl⟩
  go_wp2_with fail
  refine H2.out.mono ?_
  rintro e w2 ⟨x, there, rfl, hx, hfound, hb2⟩
  cases there with
  | false =>
    have := HF.out.rep.found_none hfound
    rw [HK.out] at this
    cases this
  | true =>
    obtain ⟨v1, hv, hp⟩ := HF.out.rep.found_some hfound
    rw [HK.out] at hv
    obtain rfl : v = v1 := by injection hv
    have hrep := HF.out.rep.set_old hp v'
    have hl2 := HF1.out.lies.keep hb2
    obtain ⟨c0, c1, c2, c3⟩ := hl2.tops
    obtain ⟨d0, d1, d2, d3, d4⟩ := hl2.cells hp
    obtain ⟨f1, f2⟩ := hl2.free
    have hne := h1.lies.ne
    have HR := Lib.hid hrep
    have HP := Lib.hid hp
    clear hfound hv hp hrep
    go_wp2_with fail
    go_ret
    have hm0 : Mut t b w w2 := (Mut.refl t b w).below (hb1.trans (hb2.mono (by simp)))
    have hlen : (ps.set x ⟨1, k, v'⟩).length = ps.length := List.length_set
    refine ⟨rfl, b, ⟨ps.set x ⟨1, k, v'⟩, u, ⟨hl2.setV HP.out v', by rw [hlen]; exact HR.out, by rw [hlen]; exact h1.pow⟩, by rw [hlen]; exact h2, by omega⟩, .inl rfl, ?_⟩
    exact hm0.setCell (.inr (.inl rfl)) _

theorem put_new {w : World} {t b : Nat} {f : Key → Option Int} {n : Nat} (h : Tab w t b f n) (k : Key) (v : Int) (hk : f k = none) (hn : n < 1048576) :
    Calls Try.prog 63 #[.pointer (some ⟨t, 0, none⟩), keyV k, .int .i64 v] w (PutOut t b (fset f k (some v)) (n + 1) w) := by
  obtain ⟨ps, u, h1, h2, _⟩ := h
  have hl := h1.len
  have hu : u < ps.length := by omega
  have hnu := h1.rep.le
  have hb1 := (Below.refl w.heap.size w).alloc (Nat.le_refl _) (.cells #[.int .i64 k.a, .int .i64 k.b, .int .i64 k.c] 75)
  have h1a := h1.keep hb1
  obtain ⟨c0, c1, c2, c3⟩ := h1a.lies.tops
  have H := Lib.hid (given_yes t _ c0)
  have H2 := Lib.hid (find_full h1a hu k)
  have HK := Lib.hid hk
  have HF := Lib.hid h1
  have HF1 := Lib.hid h1a
  clear hk c0 c1 c2 c3
  unfold keyV
  go_enter Try.func63, Try.ntmps63
  go_wp2_with fail
  refine H.out.mono ?_
  rintro e w' ⟨rfl, rfl⟩
  go_wp2_with fail
  refine H2.out.mono ?_
  rintro e w2 ⟨x, there, rfl, hx, hfound, hb2⟩
  cases there with
  | true =>
    obtain ⟨v', hv, _⟩ := HF.out.rep.found_some hfound
    rw [HK.out] at hv
    cases hv
  | false =>
    obtain ⟨k0, k1, k2⟩ := box_cells hb2
    have hm0 : Mut t b w w2 := (Mut.refl t b w).below (hb1.trans (hb2.mono (by simp)))
    have h2f := HF1.out.keep hb2
    obtain ⟨c0, c1, c2, c3⟩ := h2f.lies.tops
    have H3 := Lib.hid (crowded_any t b ps n u w2 h2f.lies (by omega) (by omega))
    have hn1 : ((n : Int) == 1048576) = false := by simp; omega
    have HX := Lib.hid hfound
    clear hfound
    go_wp2_with fail
    refine H3.out.mono ?_
    rintro e w3 ⟨rfl, hb3⟩
    by_cases hcr : 3 * (ps.length : Int) < 4 * ((u : Int) + 1)
    · have h3f := h2f.keep hb3
      have hlt := h1.lies.lt_t
      have hlb := h1.lies.lt_b
      have hs3 := hb3.size
      have hs2 := hb2.size
      have hs1 := hb1.size
      have hs : w.heap.size < w2.heap.size := by simp at hs2; omega
      have box : ∀ w' : World, w'.heap[w.heap.size]? = w2.heap[w.heap.size]? → w'.cell? ⟨w.heap.size, 0, none⟩ = some (.int .i64 k.a) ∧ w'.cell? ⟨w.heap.size, 1, none⟩ = some (.int .i64 k.b) ∧ w'.cell? ⟨w.heap.size, 2, none⟩ = some (.int .i64 k.c) := by
        intro w' hw'
        exact ⟨(World.cell?_of_block (w := w2) (a := ⟨w.heap.size, 0, none⟩) hw').trans k0, (World.cell?_of_block (w := w2) (a := ⟨w.heap.size, 1, none⟩) hw').trans k1, (World.cell?_of_block (w := w2) (a := ⟨w.heap.size, 2, none⟩) hw').trans k2⟩
      have BX := Lib.hid box
      have H4 := Lib.hid (rebuild_any h3f hn)
      clear box k0 k1 k2
      go_wp2_with fail
      refine H4.out.mono ?_
      rintro e w4 ⟨b4, ps4, rfl, h4f, hl4, hb4, hm4⟩
      have hk4 : w4.heap[w.heap.size]? = w2.heap[w.heap.size]? := (hm4.block w.heap.size (by omega) (by omega) (by omega)).trans (hb3.block _ hs)
      obtain ⟨g0, g1, g2⟩ := BX.out w4 hk4
      have hl4' := h4f.len
      have hu4 : n < ps4.length := by omega
      have F4 := Lib.hid h4f
      have K4 := Lib.hid hk4
      clear hk4
      go_wp2_with fail
      refine (find_full F4.out hu4 k).mono ?_
      rintro e w5 ⟨y, there, rfl, hy, hfound, hb5⟩
      cases there with
      | true =>
        obtain ⟨v', hv, _⟩ := F4.out.rep.found_some hfound
        rw [HK.out] at hv
        cases hv
      | false =>
        obtain ⟨p, hp, hp1, hrep⟩ := F4.out.rep.put_new v hfound
        have h5f := F4.out.keep hb5
        have hs4 := hm4.size
        have hk5 : w5.heap[w.heap.size]? = w2.heap[w.heap.size]? := (hb5.block w.heap.size (by omega)).trans K4.out
        clear g0 g1 g2
        obtain ⟨g0, g1, g2⟩ := BX.out w5 hk5
        have HP := Lib.hid hp
        have HR := Lib.hid hrep
        have F5 := Lib.hid h5f
        clear hp hp1 hrep hk5 hfound h5f
        go_wp2_with fail
        refine (set_any t b4 ps4 n n y p ⟨1, k, v⟩ _ F5.out.lies (by omega) (by omega) (by omega) HP.out).mono ?_
        rintro e w6 ⟨rfl, hl6, hm6⟩
        go_wp2_with fail
        go_ret
        have hlen : (ps4.set y ⟨1, k, v⟩).length = ps4.length := List.length_set
        have h3m : Mut t b w w5 := ((hm0.below hb3).trans hm4 (.inl rfl)).below hb5
        refine ⟨rfl, b4, ⟨ps4.set y ⟨1, k, v⟩, _, ⟨hl6, by rw [hlen]; exact HR.out, by rw [hlen]; exact h4f.pow⟩, ?_, by omega⟩, .inr (by omega), h3m.trans hm6 (.inr (by omega))⟩
        rw [hlen]
        split <;> omega
    · obtain ⟨p, hp, hp1, hrep⟩ := HF.out.rep.put_new v HX.out
      have h3f := h2f.keep hb3
      have hlt := h1.lies.lt_t
      have hlb := h1.lies.lt_b
      have hs3 := hb3.size
      have hs2 := hb2.size
      have hs1 := hb1.size
      obtain ⟨g0, g1, g2⟩ : w3.cell? ⟨w.heap.size, 0, none⟩ = some (.int .i64 k.a) ∧ w3.cell? ⟨w.heap.size, 1, none⟩ = some (.int .i64 k.b) ∧ w3.cell? ⟨w.heap.size, 2, none⟩ = some (.int .i64 k.c) := by
        have hs : w.heap.size < w2.heap.size := by simp at hs2; omega
        exact ⟨(hb3.cell (p := ⟨w.heap.size, 0, none⟩) hs).trans k0, (hb3.cell (p := ⟨w.heap.size, 1, none⟩) hs).trans k1, (hb3.cell (p := ⟨w.heap.size, 2, none⟩) hs).trans k2⟩
      have HP := Lib.hid hp
      have HP1 := Lib.hid hp1
      have HR := Lib.hid hrep
      clear hp hp1 hrep k0 k1 k2
      go_wp2_with fail
      refine (set_any t b ps n u x p ⟨1, k, v⟩ _ h3f.lies (by omega) (by omega) (by omega) HP.out).mono ?_
      rintro e w4 ⟨rfl, hl4, hm4⟩
      go_wp2_with fail
      go_ret
      have hlen : (ps.set x ⟨1, k, v⟩).length = ps.length := List.length_set
      have h3m : Mut t b w w3 := hm0.below hb3
      refine ⟨rfl, b, ⟨ps.set x ⟨1, k, v⟩, _, ⟨hl4, by rw [hlen]; exact HR.out, by rw [hlen]; exact h1.pow⟩, ?_, by omega⟩, .inl rfl, h3m.trans hm4 (.inl rfl)⟩
      rw [hlen]
      split <;> omega
end Go.Proofs.Ytkmffmlnondolaa
