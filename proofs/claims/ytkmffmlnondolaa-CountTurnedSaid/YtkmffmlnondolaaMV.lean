/- Merged: CFst. -/
import Derived.Test.YtkmffmlnondolaaMU

/- Layer 6 (count): First. -/
namespace Go.Proofs.Ytkmffmlnondolaa
open Go.ChangeShapes Go.WideShapes Go.ChangeAt Go.RowKit Go.Maps

/-- Of n variables: values that are no earlier than others, false ahead of true, variable by variable. -/
def LexGe (y val : Nat → Bool) (n : Nat) : Prop := (∀ i, i < n → val i = y i) ∨ ∃ i, i < n ∧ (∀ j, j < i → val j = y j) ∧ y i = false ∧ val i = true

theorem LexGe.more {y val : Nat → Bool} {n : Nat} (h : LexGe y val n) : ∀ n', n ≤ n' → (∀ i, n ≤ i → i < n' → y i = false) → LexGe y val n' := by
  intro n' hn
  induction n' with
  | zero => intro _; obtain rfl : n = 0 := by omega
            exact h
  | succ m ih =>
    intro hy
    by_cases e : n = m + 1
    · rw [← e]; exact h
    · rcases ih (by omega) (fun i h1 h2 => hy i h1 (by omega)) with h1 | ⟨i, h1, h2⟩
      · cases hv : val m with
        | false =>
          refine .inl fun i hi => ?_
          by_cases e2 : i = m
          · rw [e2, hv, hy m (by omega) (by omega)]
          · exact h1 i (by omega)
        | true => exact .inr ⟨m, by omega, h1, hy m (by omega) (by omega), hv⟩
      · exact .inr ⟨i, by omega, h2⟩

structure FstSt (V : Nat) (cs : List Nd) (k j : Nat) (d : Nd) (y : List Bool) : Prop where
  is : Is cs j d
  ne : j ≠ 0
  len : y.length = V
  open' : ∀ i : Nat, d.asks ≤ i → valOf y i = false
  same : ∀ val, (∀ i : Nat, (i : Int) < d.asks → val i = valOf y i) → Says V cs val k = Says V cs val j
  least : ∀ val, Says V cs val k = true → LexGe (valOf y) val d.asks.toNat

theorem valOf_set {y : List Bool} {v : Nat} (hv : v < y.length) (b : Bool) (i : Nat) : valOf (y.set v b) i = if i = v then b else valOf y i := by
  unfold valOf
  by_cases e : i = v
  · subst e; rw [if_pos rfl, List.getElem?_set_self hv]; rfl
  · rw [if_neg e, List.getElem?_set_ne (fun x => e x.symm)]
theorem valOf_none (V i : Nat) : valOf (List.replicate V false) i = false := by
  unfold valOf
  rw [List.getElem?_replicate]
  split <;> rfl

section
variable {V : Nat} {cs : List Nd} {k j : Nat} {d : Nd} {y : List Bool}
theorem FstSt.start {c : Nd} (hc : Is cs k c) (h0 : k ≠ 0) : FstSt V cs k k c (List.replicate V false) :=
  ⟨hc, h0, by simp, fun i _ => valOf_none V i, fun _ _ => rfl, fun val _ => LexGe.more (n := 0) (.inl fun i h => by omega) _ (by omega) fun i _ _ => valOf_none V i⟩

theorem FstSt.low (s : FstSt V cs k j d y) (g : NGood V cs) (h2 : 2 ≤ j) (hl : d.low ≠ 0) : ∃ d', FstSt V cs k d.low d' y ∧ d.asks < d'.asks := by
  obtain ⟨d', i', l'⟩ := g.lo j d h2 s.is
  have ho := g.ok j d h2 s.is
  refine ⟨d', ⟨i', hl, s.len, fun i hi => s.open' i (by omega), fun val hv => ?_, fun val hv => ?_⟩, l'⟩
  · rw [s.same val (fun i hi => hv i (by omega)), Says_step g val h2 s.is, hv d.asks.toNat (by omega), s.open' d.asks.toNat (by omega)]
    simp
  · rcases s.least val hv with h1 | ⟨i, h1, h3⟩
    · exact LexGe.more (n := d.asks.toNat) (.inl h1) _ (by omega) fun i h4 _ => s.open' i (by omega)
    · exact .inr ⟨i, by omega, h3⟩

theorem FstSt.high (s : FstSt V cs k j d y) (g : NGood V cs) (h2 : 2 ≤ j) (hl : d.low = 0) : ∃ d', FstSt V cs k d.high d' (y.set d.asks.toNat true) ∧ d.asks < d'.asks := by
  obtain ⟨d', i', l'⟩ := g.hi j d h2 s.is
  have ho := g.ok j d h2 s.is
  have hv : d.asks.toNat < y.length := by rw [s.len]; omega
  refine ⟨d', ⟨i', fun e => ho.2.2 (by rw [hl, e]), by rw [List.length_set]; exact s.len, fun i hi => ?_, fun val hval => ?_, fun val hval => ?_⟩, l'⟩
  · rw [valOf_set hv, if_neg (by omega)]; exact s.open' i (by omega)
  · have e1 := hval d.asks.toNat (by omega)
    rw [valOf_set hv, if_pos rfl] at e1
    rw [s.same val (fun i hi => by have := hval i (by omega); rwa [valOf_set hv, if_neg (by omega)] at this), Says_step g val h2 s.is, e1]
    simp
  · have key : LexGe (valOf (y.set d.asks.toNat true)) val (d.asks.toNat + 1) := by
      rcases s.least val hval with h1 | ⟨i, h1, h3, h4, h5⟩
      · have e1 := s.same val fun i hi => h1 i (by omega)
        rw [hval, Says_step g val h2 s.is, hl] at e1
        have e2 : val d.asks.toNat = true := by
          cases hx : val d.asks.toNat with
          | true => rfl
          | false => rw [hx, if_neg (by simp), Says_zero] at e1; cases e1
        refine .inl fun i hi => ?_
        rw [valOf_set hv]
        by_cases e : i = d.asks.toNat
        · rw [if_pos e, e, e2]
        · rw [if_neg e]; exact h1 i (by omega)
      · refine .inr ⟨i, by omega, fun m hm => ?_, ?_, h5⟩
        · rw [valOf_set hv, if_neg (by omega)]; exact h3 m hm
        · rw [valOf_set hv, if_neg (by omega)]; exact h4
    exact key.more _ (by omega) fun i h4 _ => by rw [valOf_set hv, if_neg (by omega)]; exact s.open' i (by omega)
end

def FirstOut (V : Nat) (cs : List Nd) (k : Nat) (w : World) (e : Ending) (w' : World) : Prop :=
  ∃ (r : Nat) (y : List Bool), e = .returned (.tuple #[.slice (some ⟨r, 0, none⟩) V V, .int .i64 0]) ∧ w'.heap[r]? = some (.cells (boolRow y) 4) ∧ Below w.heap.size w w' ∧ y.length = V ∧ Says V cs (valOf y) k = true ∧ ∀ val, Says V cs val k = true → LexGe (valOf y) val V

theorem fst_cell {w : World} {r v : Nat} {y : List Bool} (h : w.heap[r]? = some (.cells (boolRow y) 4)) (hv : v < y.length) : ∃ b : Bool, w.cell? ⟨r, v, none⟩ = some (.bool b) := by
  refine ⟨y[v], ?_⟩
  rw [cell_of_row _ _ _ _ _ _ h]
  unfold boolRow
  simp [hv]
theorem fst_set {w : World} {r v : Nat} {y : List Bool} (h : w.heap[r]? = some (.cells (boolRow y) 4)) (b : Bool) : (w.setCell ⟨r, v, none⟩ (.bool b)).heap[r]? = some (.cells (boolRow (y.set v b)) 4) := by
  rw [heap_setCell_same _ _ _ _ _ _ h]
  unfold boolRow
  rw [List.map_set]
  simp

end Go.Proofs.Ytkmffmlnondolaa
