/- Layer 2: a table beside the document's. -/
import Derived.Test.YtldgdlndacocdaaHRPut
namespace Go.Proofs.Ytldgdlndacocdaa
open Go.ChangeShapes Go.WideShapes Go.ChangeAt Go.RowKit

/-- The table says what the document's does. -/
structure Match (f : Key → Option Int) (L : List (Key × Int)) (n : Nat) : Prop where
  says : ∀ k v, f k = some v ↔ (k, v) ∈ L
  nodup : (L.map (·.1)).Nodup
  count : n = L.length

theorem Match.nil : Match (fun _ => none) [] 0 := ⟨fun k v => by simp, by simp, rfl⟩

theorem nodup_idx {L : List (Key × Int)} (h : (L.map (·.1)).Nodup) {i j : Nat} {x y : Key × Int} (hi : L[i]? = some x) (hj : L[j]? = some y) (hk : x.1 = y.1) : i = j := by
  induction L generalizing i j with
  | nil => simp at hi
  | cons a r ih =>
    rw [List.map_cons, List.nodup_cons] at h
    cases i with
    | zero =>
      cases j with
      | zero => rfl
      | succ j =>
        simp at hi hj
        subst hi
        exact absurd (by rw [hk]; exact List.mem_map.2 ⟨y, List.mem_of_getElem? hj, rfl⟩) h.1
    | succ i =>
      cases j with
      | zero =>
        simp at hi hj
        subst hj
        exact absurd (by rw [← hk]; exact List.mem_map.2 ⟨x, List.mem_of_getElem? hi, rfl⟩) h.1
      | succ j =>
        simp at hi hj
        rw [ih h.2 hi hj]

/-- The key's place; it is the length if the key isn't there. -/
theorem Match.place {f : Key → Option Int} {L : List (Key × Int)} {n : Nat} (h : Match f L n) (k : Key) :
    ∃ j, PlaceAt L k j ∧ ((f k = none ∧ j = L.length) ∨ ∃ v, f k = some v ∧ L[j]? = some (k, v)) := by
  cases hk : f k with
  | none =>
    refine ⟨L.length, ⟨Nat.le_refl _, ?_, ?_⟩, .inl ⟨rfl, rfl⟩⟩
    · intro i x _ hx e
      have : (k, x.2) ∈ L := by rw [← e]; exact List.mem_of_getElem? hx
      rw [← h.says, hk] at this
      cases this
    · intro x hx
      rw [List.getElem?_eq_none (Nat.le_refl _)] at hx
      cases hx
  | some v =>
    obtain ⟨j, hj⟩ := List.getElem?_of_mem ((h.says k v).1 hk)
    have hl : j < L.length := (List.getElem?_eq_some_iff.1 hj).1
    refine ⟨j, ⟨by omega, ?_, ?_⟩, .inr ⟨v, rfl, hj⟩⟩
    · intro i x hi hx e
      have := nodup_idx h.nodup hx hj e
      omega
    · intro x hx
      rw [hj] at hx
      injection hx with hx
      rw [← hx]

theorem Match.none_drop {f : Key → Option Int} {L : List (Key × Int)} {n j : Nat} (h : Match f L n) (hj : j = L.length) : Match f (L.eraseIdx j) n := by
  rw [List.eraseIdx_of_length_le (by omega)]; exact h

theorem Match.some_drop {f : Key → Option Int} {L : List (Key × Int)} {n j : Nat} {k : Key} {v : Int} (h : Match f L n) (hj : L[j]? = some (k, v)) : Match (fset f k none) (L.eraseIdx j) (n - 1) := by
  have hl : j < L.length := (List.getElem?_eq_some_iff.1 hj).1
  refine ⟨fun k' v' => ?_, ?_, ?_⟩
  · rw [List.mem_eraseIdx_iff_getElem?]
    unfold fset
    by_cases e : k' = k
    · subst e
      rw [if_pos rfl]
      constructor
      · intro h; cases h
      · rintro ⟨i, hi, hx⟩
        exact absurd (nodup_idx h.nodup hx hj rfl) hi
    · rw [if_neg e, h.says]
      constructor
      · intro hm
        obtain ⟨i, hi⟩ := List.getElem?_of_mem hm
        refine ⟨i, ?_, hi⟩
        rintro rfl
        rw [hj] at hi
        injection hi with hi
        injection hi with hi _
        exact e hi.symm
      · rintro ⟨i, _, hx⟩
        exact List.mem_of_getElem? hx
  · exact List.Sublist.nodup ((List.eraseIdx_sublist L j).map _) h.nodup
  · rw [List.length_eraseIdx_of_lt hl, h.count]

theorem Match.put {f : Key → Option Int} {L : List (Key × Int)} {n : Nat} {k : Key} (v : Int) (h : Match f L n) (hk : f k = none) : Match (fset f k (some v)) (L ++ [(k, v)]) (n + 1) := by
  refine ⟨fun k' v' => ?_, ?_, by simp [h.count]⟩
  · rw [List.mem_append, ← h.says]
    unfold fset
    by_cases e : k' = k
    · subst e
      rw [if_pos rfl, hk]
      simp [eq_comm]
    · rw [if_neg e]
      simp [e]
  · rw [List.map_append, List.nodup_append]
    refine ⟨h.nodup, by simp, ?_⟩
    rintro a ha b hb rfl
    simp at hb
    subst hb
    obtain ⟨x, hx, rfl⟩ := List.mem_map.1 ha
    have : f x.1 = some x.2 := (h.says _ _).2 hx
    rw [hk] at this
    cases this

theorem fset_fset (f : Key → Option Int) (k : Key) (a b : Option Int) : fset (fset f k a) k b = fset f k b := by
  funext q
  unfold fset
  by_cases h : q = k
  · rw [if_pos h, if_pos h]
  · rw [if_neg h, if_neg h, if_neg h]

/-- What Put does to both. -/
theorem Match.put_any {f : Key → Option Int} {L : List (Key × Int)} {n j : Nat} {k : Key} (v : Int) (h : Match f L n) (hj : (f k = none ∧ j = L.length) ∨ ∃ v, f k = some v ∧ L[j]? = some (k, v)) :
    Match (fset f k (some v)) (L.eraseIdx j ++ [(k, v)]) (if f k = none then n + 1 else n) := by
  rcases hj with ⟨h1, h2⟩ | ⟨v0, h1, h2⟩
  · rw [if_pos h1]
    exact (h.none_drop h2).put v h1
  · rw [h1, if_neg (by simp)]
    have hl : j < L.length := (List.getElem?_eq_some_iff.1 h2).1
    have h3 := (h.some_drop h2).put (k := k) v (by unfold fset; rw [if_pos rfl])
    rw [fset_fset] at h3
    have : n - 1 + 1 = n := by have := h.count; omega
    rw [this] at h3
    exact h3

/-! ### What a table's turn leaves alone -/
theorem Tab.heads {w : World} {s b : Nat} {f : Key → Option Int} {n : Nat} (h : Tab w s b f n) : (∃ cs, w.heap[s]? = some (.cells cs 53 (0, 0))) ∧ ∃ cs, w.heap[b]? = some (.cells cs 62 (0, 0)) := by
  obtain ⟨ps, u, h1, _, _⟩ := h
  exact ⟨⟨_, h1.lies.head⟩, ⟨_, h1.lies.row⟩⟩

theorem heap_ne {w : World} {g g' : Nat} {cs cs' : Array Value} {T T' : TypeId} {fr fr' : Nat × Nat} (h : w.heap[g]? = some (.cells cs T fr)) (h' : w.heap[g']? = some (.cells cs' T' fr')) (hne : T ≠ T') : g ≠ g' := by
  rintro rfl
  rw [h] at h'
  injection h' with h'
  injection h' with _ ht
  exact hne ht

theorem keepM {w w' : World} {s b g : Nat} {f : Key → Option Int} {n : Nat} {cs : Array Value} {T : TypeId} (hT : Tab w s b f n) (hm : Mut s b w w') (hg : w.heap[g]? = some (.cells cs T (0, 0))) (h1 : T ≠ 53) (h2 : T ≠ 62) : w'.heap[g]? = some (.cells cs T (0, 0)) := by
  obtain ⟨⟨_, e1⟩, ⟨_, e2⟩⟩ := hT.heads
  exact (hm.block g (Array.getElem?_eq_some_iff.1 hg).1 (heap_ne hg e1 h1) (heap_ne hg e2 h2)).trans hg

theorem ownM {w w' : World} {s b base size m : Nat} {f : Key → Option Int} {n : Nat} {v : Value} {xs : List Value} {T : TypeId} (hT : Tab w s b f n) (hm : Mut s b w w') (h : w.ownsRow base T size v m xs) (h1 : T ≠ 53) (h2 : T ≠ 62) : w'.ownsRow base T size v m xs := by
  refine ⟨h.1, ?_⟩
  rcases h.2 with e | ⟨g, cap, cur, e1, e2, e3, e4⟩
  · exact .inl e
  · exact .inr ⟨g, cap, cur, e1, e2, keepM hT hm e3 h1 h2, e4⟩

theorem RT.mut {w w' : World} {s b : Nat} {f : Key → Option Int} {n : Nat} {vK vV : Value} {L : List (Key × Int)} (h : RT w vK vV L) (hT : Tab w s b f n) (hm : Mut s b w w') : RT w' vK vV L :=
  ⟨ownM hT hm h.ks (by decide) (by decide), ownM hT hm h.vs (by decide) (by decide), h.k0, h.v0⟩

theorem Tab.set2 {w : World} {s b g : Nat} {f : Key → Option Int} {n : Nat} {cs : Array Value} {u0 u1 : Value} (h : Tab w s b f n) (hg : w.heap[g]? = some (.cells cs 28 (0, 0))) : Tab ((w.setCell ⟨g, 0, none⟩ u0).setCell ⟨g, 1, none⟩ u1) s b f n := by
  obtain ⟨⟨_, e1⟩, ⟨_, e2⟩⟩ := h.heads
  have n1 : s ≠ g := (heap_ne hg e1 (by decide)).symm
  have n2 : b ≠ g := (heap_ne hg e2 (by decide)).symm
  exact h.apart (t' := g) (b' := g) (((Mut.refl g g w).setCell (.inl rfl) _).setCell (.inl rfl) _) n1 n1 n2 n2

/-- All that stands between two calls. -/
structure PS (B : Nat) (W : World) (s gq : Nat) (f : Key → Option Int) (n : Nat) (L : List (Key × Int)) (vK vV : Value) (w : World) : Prop where
  bel : Below B W w
  sz : B ≤ w.heap.size
  sB : B ≤ s
  qB : B ≤ gq
  tab : ∃ b, Tab w s b f n ∧ B ≤ b
  rt : RT w vK vV L
  q : w.heap[gq]? = some (.cells #[vK, vV] 28 (0, 0))

theorem PS.keep {B : Nat} {W : World} {s gq : Nat} {f : Key → Option Int} {n : Nat} {L : List (Key × Int)} {vK vV : Value} {w w' : World} (h : PS B W s gq f n L vK vV w) (hb : Below w.heap.size w w') : PS B W s gq f n L vK vV w' := by
  obtain ⟨h1, h2, h3, h4, ⟨b, h5, h6⟩, h7, h8⟩ := h
  exact ⟨h1.trans (hb.mono h2), Nat.le_trans h2 hb.size, h3, h4, ⟨b, h5.keep hb, h6⟩, h7.below hb, (hb.block gq (Array.getElem?_eq_some_iff.1 h8).1).trans h8⟩

/-- The table turns; the document's new lists, which lie beside, are put in its place. -/
theorem PS.turn {B : Nat} {W : World} {s gq b b' : Nat} {f f' : Key → Option Int} {n n' : Nat} {L L' : List (Key × Int)} {vK vV u0 u1 : Value} {w w' : World} (h : PS B W s gq f n L vK vV w) (hT : Tab w s b f n) (hB : B ≤ b) (hR : RT w u0 u1 L')
    (hT' : Tab w' s b' f' n') (hb' : B ≤ b') (hm : Mut s b w w') : PS B W s gq f' n' L' u0 u1 ((w'.setCell ⟨gq, 0, none⟩ u0).setCell ⟨gq, 1, none⟩ u1) := by
  have hq := keepM hT hm h.q (by decide) (by decide)
  have hq1 := heap_setCell_same w' gq 0 _ _ u0 hq
  have hq2 := heap_setCell_same _ gq 1 _ _ u1 hq1
  exact ⟨((Mut.to_below h.bel hm h.sB hB h.sz).setCell h.qB _).setCell h.qB _, by rw [size_setCell, size_setCell]; exact Nat.le_trans h.sz hm.size, h.sB, h.qB, ⟨b', hT'.set2 hq, hb'⟩, (hR.mut hT hm).far2 hq, hq2⟩

end Go.Proofs.Ytldgdlndacocdaa
