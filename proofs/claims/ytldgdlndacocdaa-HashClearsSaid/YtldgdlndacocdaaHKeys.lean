/- Layer 2: a slice of keys that came in reads as a list of keys. -/
import Derived.Test.YtldgdlndacocdaaHCount
namespace Go.Proofs.Ytldgdlndacocdaa
open Go.ChangeShapes Go.WideShapes Go.ChangeAt Go.RowKit

/-- The slice reads as keys; it lies below block B. -/
def RdK (B : Nat) (w : World) (A : Option Addr) (ks : List Key) : Prop :=
  ks = [] ∨ ∃ b off, A = some ⟨b, off, none⟩ ∧ b < B ∧ ∀ (j : Nat) (k : Key), ks[j]? = some k →
    w.cell? ⟨b, off + j * 3, none⟩ = some (.int .i64 k.a) ∧ w.cell? ⟨b, off + j * 3 + 1, none⟩ = some (.int .i64 k.b) ∧ w.cell? ⟨b, off + j * 3 + 2, none⟩ = some (.int .i64 k.c)

theorem RdK.keep {B : Nat} {w w' : World} {A : Option Addr} {ks : List Key} (h : RdK B w A ks) (hb : Below B w w') : RdK B w' A ks := by
  rcases h with h | ⟨b, off, hA, hlt, hc⟩
  · exact .inl h
  · refine .inr ⟨b, off, hA, hlt, fun j k hk => ?_⟩
    obtain ⟨h0, h1, h2⟩ := hc j k hk
    exact ⟨(hb.cell (p := ⟨b, _, none⟩) hlt).trans h0, (hb.cell (p := ⟨b, _, none⟩) hlt).trans h1, (hb.cell (p := ⟨b, _, none⟩) hlt).trans h2⟩

theorem cells_sliceKey : Try.prog.underlying 25 = some (.slice 29) := by kernel_rfl

theorem arg_keys {H : Type} {enc : TypeId × Value → H} {w : World} {r : Reach} {b0 : Nat} {v : Value} {d : DataW H} {p : List MemPlace}
    (h : DataW.Trod enc Try.prog w 0 (fun _ => true) true 25 v d p) (hv : Value.okWide Try.prog w r b0 25 v) :
    ∃ (A : Option Addr) (ks : List Key) (c : Nat), v = .slice A ks.length c ∧ ks.length ≤ 9223372036854775807 ∧ RdK w.heap.size w A ks := by
  obtain ⟨A, n, c, rfl⟩ := okWide_slice Try.underlying25 hv
  obtain ⟨fuel, hf⟩ := h
  simp only [Value.cells] at hf
  rcases Go.Deep.open_slice Try.underlying25 hf with ⟨hcs, _⟩ | ⟨a, len, cap, m, q, D, Pl, hcs, _, hl, hm, hmm, _, hi⟩
  · simp at hcs
    obtain ⟨rfl, rfl, rfl⟩ := hcs
    exact ⟨none, [], 0, rfl, by simp, .inl rfl⟩
  · simp at hcs
    obtain ⟨rfl, rfl, rfl⟩ := hcs
    simp at hmm
    subst hmm
    unfold maxLen at hm
    rw [cells_key] at hi
    have hk : ∀ i : Nat, ∃ k : Key, i < m → w.cell? (a.add (i * 3)) = some (.int .i64 k.a) ∧ w.cell? ((a.add (i * 3)).add 1) = some (.int .i64 k.b) ∧ w.cell? ((a.add (i * 3)).add 2) = some (.int .i64 k.c) := by
      intro i
      by_cases hlt : i < m
      · obtain ⟨cs', hc, ht⟩ := hi i hlt
        obtain ⟨k, rfl⟩ := trod_key ht
        obtain ⟨_, _, hat⟩ := World.cells?_some hc
        exact ⟨k, fun _ => ⟨by have := hat 0 (by omega); simpa [Addr.add, keyC] using this, by simpa [keyC] using hat 1 (by omega), by simpa [keyC] using hat 2 (by omega)⟩⟩
      · exact ⟨⟨0, 0, 0⟩, fun h => absurd h hlt⟩
    obtain ⟨K, hK⟩ := Classical.axiomOfChoice hk
    refine ⟨some a, (List.range n).map K, m, by simp, by simp; omega, ?_⟩
    by_cases h0 : n = 0
    · subst h0; exact .inl rfl
    · obtain ⟨b, off, sp⟩ := a
      have h1 := (hK 0 (by omega)).1
      have hsp : sp = none := by simpa [Addr.add] using World.cell?_spot h1
      subst hsp
      have hb : b < w.heap.size := block_lt_of_cell (a := ⟨b, off, none⟩) (by simpa [Addr.add] using h1)
      refine .inr ⟨b, off, rfl, hb, fun j k hj => ?_⟩
      rw [List.getElem?_map] at hj
      have hjn : j < n := by
        rcases Nat.lt_or_ge j n with h | h
        · exact h
        · rw [List.getElem?_eq_none (by simpa using h)] at hj; simp at hj
      rw [List.getElem?_range hjn] at hj
      simp at hj
      subst hj
      obtain ⟨e0, e1, e2⟩ := hK j (by omega)
      by_cases hz : j = 0
      · subst hz
        simp [Addr.add] at e0 e1 e2
        exact ⟨by simpa using e0, by simpa using e1, by simpa using e2⟩
      · have hz3 : ¬ j * 3 = 0 := by omega
        simp only [Addr.add, hz3, if_false] at e0 e1 e2
        exact ⟨e0, e1, e2⟩

/-- A table of keys, each with its first number. -/
def fOf (l : List Key) : Key → Option Int := fun k => if k ∈ l then some k.a else none

theorem fOf_nil : fOf [] = fun _ => none := by funext k; simp [fOf]
theorem fOf_snoc (l : List Key) (k : Key) : fset (fOf l) k (some k.a) = fOf (l ++ [k]) := by
  funext q
  unfold fset fOf
  by_cases h : q = k
  · subst h; simp
  · rw [if_neg h]; simp [h]
theorem fOf_in {l : List Key} {k : Key} (h : k ∈ l) : fOf l k = some k.a := by unfold fOf; rw [if_pos h]

end Go.Proofs.Ytldgdlndacocdaa
