/- Layer 2: two tables that have the same keys have as many; two tables side by side; keys in slices. -/
import Derived.Test.YtldgdlndacocdaaHArgs
namespace Go.Proofs.Ytldgdlndacocdaa
open Go.ChangeShapes Go.WideShapes Go.ChangeAt Go.RowKit

def keysIn (ps : List Pl) : List Key := (ps.filter full).map (·.k)

theorem keysIn_length (ps : List Pl) : (keysIn ps).length = ps.countP full := by
  rw [keysIn, List.length_map, ← List.countP_eq_length_filter]

theorem mem_keysIn (ps : List Pl) (k : Key) : k ∈ keysIn ps ↔ ∃ (i : Nat) (v : Int), ps[i]? = some ⟨1, k, v⟩ := by
  unfold keysIn
  rw [List.mem_map]
  constructor
  · rintro ⟨p, hp, rfl⟩
    obtain ⟨hp, h1⟩ := List.mem_filter.1 hp
    obtain ⟨i, hi⟩ := List.getElem?_of_mem hp
    obtain ⟨st, k, v⟩ := p
    simp [full] at h1
    subst h1
    exact ⟨i, v, hi⟩
  · rintro ⟨i, v, h⟩
    exact ⟨⟨1, k, v⟩, List.mem_filter.2 ⟨List.mem_of_getElem? h, rfl⟩, rfl⟩

theorem nodup_keysIn (ps : List Pl) : (∀ (i j : Nat) (k : Key) (v v' : Int), ps[i]? = some ⟨1, k, v⟩ → ps[j]? = some ⟨1, k, v'⟩ → i = j) → (keysIn ps).Nodup := by
  induction ps with
  | nil => intro _; exact List.nodup_nil
  | cons p r ih =>
    intro hu
    have hr : (keysIn r).Nodup := ih fun i j k v v' h1 h2 => by
      have := hu (i + 1) (j + 1) k v v' (by simpa using h1) (by simpa using h2)
      omega
    unfold keysIn at hr ⊢
    rw [List.filter_cons]
    by_cases h : full p = true
    · rw [if_pos h, List.map_cons, List.nodup_cons]
      refine ⟨fun hm => ?_, hr⟩
      obtain ⟨j, v, hj⟩ := (mem_keysIn r p.k).1 hm
      obtain ⟨st, k, v0⟩ := p
      simp [full] at h
      subst h
      have := hu 0 (j + 1) k v0 v (by simp) (by simpa using hj)
      omega
    · rw [if_neg h]; exact hr

theorem Rep.same_count {h h' : Key → Nat} {ps ps' : List Pl} {f f' : Key → Option Int} {n n' u u' : Nat} (r : Rep h ps f n u) (r' : Rep h' ps' f' n' u') (he : ∀ k, f k = none ↔ f' k = none) : n = n' := by
  rw [← r.keys, ← r'.keys, ← keysIn_length, ← keysIn_length]
  apply List.Perm.length_eq
  rw [List.perm_ext_iff_of_nodup (nodup_keysIn ps r.good.uniq) (nodup_keysIn ps' r'.good.uniq)]
  have key : ∀ (g : Key → Nat) (qs : List Pl) (f : Key → Option Int) (n u : Nat), Rep g qs f n u → ∀ k, k ∈ keysIn qs ↔ f k ≠ none := by
    intro g qs f n u r k
    rw [mem_keysIn]
    constructor
    · rintro ⟨i, v, hi⟩
      rw [(r.says k v).2 ⟨i, hi⟩]; simp
    · intro hk
      cases hf : f k with
      | none => exact absurd hf hk
      | some v =>
        obtain ⟨i, hi⟩ := (r.says k v).1 hf
        exact ⟨i, v, hi⟩
  intro k
  rw [key _ _ _ _ _ r, key _ _ _ _ _ r']
  exact not_congr (he k)

theorem Tab.same_count {w w' : World} {t b t' b' : Nat} {f f' : Key → Option Int} {n n' : Nat} (h : Tab w t b f n) (h' : Tab w' t' b' f' n') (he : ∀ k, f k = none ↔ f' k = none) : n = n' := by
  obtain ⟨ps, u, h1, _, _⟩ := h
  obtain ⟨ps', u', h2, _, _⟩ := h'
  exact h1.rep.same_count h2.rep he

/-! ### Two tables -/
/-- Tables at s and t, apart from one another; block x (if o says what it is) is none of theirs. -/
structure Two (B : Nat) (W : World) (s t : Nat) (f : Key → Option Int) (n : Nat) (g : Key → Option Int) (m : Nat) (x : Nat) (o : Option Obj) (w : World) : Prop where
  bel : Below B W w
  sz : B ≤ w.heap.size
  tabs : ∃ a b, Tab w s a f n ∧ Tab w t b g m ∧ s ≠ t ∧ s ≠ b ∧ a ≠ t ∧ a ≠ b ∧ B ≤ s ∧ B ≤ t ∧ B ≤ a ∧ B ≤ b ∧ (o = none ∨ (w.heap[x]? = o ∧ x < w.heap.size ∧ x ≠ s ∧ x ≠ t ∧ x ≠ a ∧ x ≠ b))

section
variable {B : Nat} {W : World} {s t : Nat} {f g : Key → Option Int} {n m x : Nat} {o : Option Obj} {w w' : World}

theorem Two.swap (h : Two B W s t f n g m x o w) : Two B W t s g m f n x o w := by
  obtain ⟨h1, h2, a, b, h3, h4, h5, h6, h7, h8, h9, h10, h11, h12, h13⟩ := h
  exact ⟨h1, h2, b, a, h4, h3, h5.symm, h7.symm, h6.symm, h8.symm, h10, h9, h12, h11, h13.imp id fun ⟨e1, e2, e3, e4, e5, e6⟩ => ⟨e1, e2, e4, e3, e6, e5⟩⟩

theorem Two.keep (h : Two B W s t f n g m x o w) (hb : Below w.heap.size w w') : Two B W s t f n g m x o w' := by
  obtain ⟨h1, h2, a, b, h3, h4, h5, h6, h7, h8, h9, h10, h11, h12, h13⟩ := h
  exact ⟨h1.trans (hb.mono h2), Nat.le_trans h2 hb.size, a, b, h3.keep hb, h4.keep hb, h5, h6, h7, h8, h9, h10, h11, h12, h13.imp id fun ⟨e1, e2, e⟩ => ⟨(hb.block _ e2).trans e1, Nat.lt_of_lt_of_le e2 hb.size, e⟩⟩

theorem Two.drew (h : Two B W s t f n g m x o w) : Two B W s t f n g m x o w.drew := h.keep (Below.refl _ _).drew

theorem Two.alloc (h : Two B W s t f n g m x o w) (q : Obj) : Two B W s t f n g m w.heap.size (some q) (w.alloc q) := by
  obtain ⟨h1, h2, a, b, h3, h4, h5, h6, h7, h8, h9, h10, h11, h12, _⟩ := h
  obtain ⟨l1, l2, _⟩ := h3.lt
  obtain ⟨l3, l4, _⟩ := h4.lt
  have hb : Below w.heap.size w (w.alloc q) := (Below.refl _ _).alloc (Nat.le_refl _) q
  exact ⟨h1.trans (hb.mono h2), Nat.le_trans h2 hb.size, a, b, h3.keep hb, h4.keep hb, h5, h6, h7, h8, h9, h10, h11, h12, .inr ⟨heap_alloc_new w q, by simp, by omega, by omega, by omega, by omega⟩⟩

/-- The first table is put into. -/
def Put2 (B : Nat) (W : World) (s t : Nat) (f : Key → Option Int) (g : Key → Option Int) (m n x : Nat) (o : Option Obj) (e : Ending) (w' : World) : Prop :=
  e = .returned (.int .i64 0) ∧ ∃ n', n' ≤ n + 1 ∧ Two B W s t f n' g m x o w'

theorem put2 (h : Two B W s t f n g m x o w) (hn : n < 1048576) (k : Key) (v : Int) :
    Calls Try.prog 11 #[.pointer (some ⟨s, 0, none⟩), keyV k, .int .i64 v] w (Put2 B W s t (fset f k (some v)) g m n x o) := by
  obtain ⟨h1, h2, a, b, h3, h4, h5, h6, h7, h8, h9, h10, h11, h12, h13⟩ := h
  obtain ⟨l1, l2, _⟩ := h4.lt
  have fin : ∀ (n' : Nat) (e : Ending) (w' : World), n' ≤ n + 1 → PutOut s a (fset f k (some v)) n' w e w' → Put2 B W s t (fset f k (some v)) g m n x o e w' := by
    rintro n' e w' hn' ⟨he, a', hT, ha, hm⟩
    have hB : B ≤ a' := by rcases ha with rfl | ha <;> omega
    refine ⟨he, n', hn', Mut.to_below h1 hm h9 h11 h2, Nat.le_trans h2 hm.size, a', b, hT, h4.apart hm h5.symm h7.symm h6.symm h8.symm, h5, h6, ?_, ?_, h9, h10, hB, h12, ?_⟩
    · rcases ha with rfl | ha <;> omega
    · rcases ha with rfl | ha <;> omega
    · refine h13.imp id fun ⟨e1, e2, e3, e4, e5, e6⟩ => ⟨(hm.block x e2 e3 e5).trans e1, Nat.lt_of_lt_of_le e2 hm.size, e3, e4, ?_, e6⟩
      rcases ha with rfl | ha <;> omega
  cases hk : f k with
  | none => exact (put_new h3 k v hk hn).mono fun e w' hp => fin _ e w' (Nat.le_refl _) hp
  | some v0 => exact (put_old h3 k v0 v hk).mono fun e w' hp => fin _ e w' (by omega) hp

theorem get2 (h : Two B W s t f n g m x o w) (k : Key) (v : Int) (hk : f k = some v) :
    Calls Try.prog 12 #[.pointer (some ⟨s, 0, none⟩), keyV k] w fun e w' => e = .returned (.tuple #[.int .i64 v, .int .i64 0]) ∧ Two B W s t f n g m x o w' ∧ Below w.heap.size w w' := by
  have h0 := h
  obtain ⟨h1, h2, a, b, h3, _⟩ := h
  exact (get_some h3 k v hk).mono fun e w' ⟨he, hb⟩ => ⟨he, h0.keep hb, hb⟩

theorem get2n (h : Two B W s t f n g m x o w) (k : Key) (hk : f k = none) :
    Calls Try.prog 12 #[.pointer (some ⟨s, 0, none⟩), keyV k] w fun e w' => e = .returned (.tuple #[.int .i64 0, .int .i64 3]) ∧ Two B W s t f n g m x o w' ∧ Below w.heap.size w w' := by
  have h0 := h
  obtain ⟨h1, h2, a, b, h3, _⟩ := h
  exact (get_none h3 k hk).mono fun e w' ⟨he, hb⟩ => ⟨he, h0.keep hb, hb⟩

theorem len2 (h : Two B W s t f n g m x o w) : Calls Try.prog 17 #[.pointer (some ⟨s, 0, none⟩)] w fun e w' => e = .returned (.int .i64 n) ∧ w = w' := by
  obtain ⟨h1, h2, a, b, h3, _⟩ := h
  exact len_any h3

def Clear2 (B : Nat) (W : World) (s t : Nat) (g : Key → Option Int) (m x : Nat) (o : Option Obj) (e : Ending) (w' : World) : Prop :=
  e = .returned (.int .i64 0) ∧ Two B W s t (fun _ => none) 0 g m x o w'

theorem clear2 (h : Two B W s t f n g m x o w) : Calls Try.prog 16 #[.pointer (some ⟨s, 0, none⟩)] w (Clear2 B W s t g m x o) := by
  obtain ⟨h1, h2, a, b, h3, h4, h5, h6, h7, h8, h9, h10, h11, h12, h13⟩ := h
  obtain ⟨l1, l2, _⟩ := h4.lt
  refine (clear_any h3).mono ?_
  rintro e w' ⟨he, a', hT, ha, hm⟩
  refine ⟨he, Mut.to_below h1 hm h9 h11 h2, Nat.le_trans h2 hm.size, a', b, hT, h4.apart hm h5.symm h7.symm h6.symm h8.symm, h5, h6, by omega, by omega, h9, h10, by omega, h12, ?_⟩
  exact h13.imp id fun ⟨e1, e2, e3, e4, e5, e6⟩ => ⟨(hm.block x e2 e3 e5).trans e1, Nat.lt_of_lt_of_le e2 hm.size, e3, e4, by omega, e6⟩

theorem Two.count (h : Two B W s t f n g m x o w) (he : ∀ k, f k = none ↔ g k = none) : n = m := by
  obtain ⟨_, _, a, b, h3, h4, _⟩ := h
  exact h3.same_count h4 he

/-- Two new tables. -/
theorem two_new {w1 w2 : World} {a b : Nat} (hB : W.heap.size = B) (h1 : Tab w1 s a (fun _ => none) 0) (hb1 : Below W.heap.size W w1) (hs : W.heap.size ≤ s) (ha : W.heap.size ≤ a)
    (h2 : Tab w2 t b (fun _ => none) 0) (hb2 : Below w1.heap.size w1 w2) (ht : w1.heap.size ≤ t) (hb : w1.heap.size ≤ b) : Two B W s t (fun _ => none) 0 (fun _ => none) 0 0 none w2 := by
  subst hB
  obtain ⟨l1, l2, _⟩ := h1.lt
  have z := hb1.size
  exact ⟨hb1.trans (hb2.mono z), Nat.le_trans z hb2.size, a, b, h1.keep hb2, h2, by omega, by omega, by omega, by omega, hs, by omega, ha, by omega, .inl rfl⟩
end

end Go.Proofs.Ytldgdlndacocdaa
