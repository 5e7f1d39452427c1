/- Layer 7 (lay): words for memory. -/
import Derived.Test.YtimpfeadpcjlgaaDoorRd
import Derived.Laws.AppendOwn
import Derived.Below
import Derived.LoopTactic
import Derived.BigQuiet
import Derived.Lib.Hide
import Derived.Deep.RegionHeld3
import Derived.Deep.AppendLies
import Derived.Laws.EntriesVeiled
import Derived.StillTailTactics
import Derived.Maps.Views
import Derived.Maps.OwnSet
namespace Go.Proofs.YtimpfeadpcjlgaaDoor
open Go.ChangeShapes Go.WideShapes Go.ChangeAt Go.RowKit Go.Maps

theorem row_lt {w : World} {k : Nat} {o : Obj} (h : w.heap[k]? = some o) : k < w.heap.size := by
  rcases Nat.lt_or_ge k w.heap.size with h1 | h1
  · exact h1
  · rw [Array.getElem?_eq_none h1] at h; cases h
theorem below_drewN0 (w : World) (n : Nat) : Below w.heap.size w (w.drewN n) := by
  induction n with
  | zero => exact Below.refl _ _
  | succ n ih => exact ih.drew

def nats (l : List Nat) : List Value := l.map fun (x : Nat) => .int .i64 (x : Int)
theorem nats_len (l : List Nat) : (nats l).length = l.length := by simp [nats]
theorem nats_get {l : List Nat} {i x : Nat} (h : l[i]? = some x) : (nats l)[i]? = some (.int .i64 (x : Int)) := by simp [nats, h]

/-- Domains, as names and sizes. -/
abbrev Doms := List (ByteArray × Int)

/-- A slice of domains reads as a list. -/
def DRd (w : World) (A : Option Addr) (l : Doms) : Prop :=
  l = [] ∨ ∃ b off, A = some ⟨b, off, none⟩ ∧ b < w.heap.size ∧ ∀ i s n, l[i]? = some (s, n) → w.cell? ⟨b, off + i * 2, none⟩ = some (.string s) ∧ w.cell? ⟨b, off + i * 2 + 1, none⟩ = some (.int .i64 n)
theorem DRd.keep {w w' : World} {A : Option Addr} {l : Doms} (h : DRd w A l) (hb : Below w.heap.size w w') : DRd w' A l := by
  rcases h with h | ⟨b, off, hA, hlt, hc⟩
  · exact .inl h
  · exact .inr ⟨b, off, hA, Nat.lt_of_lt_of_le hlt hb.size, fun i s n hi => ⟨(hb.cell (p := ⟨b, _, none⟩) hlt).trans (hc i s n hi).1, (hb.cell (p := ⟨b, _, none⟩) hlt).trans (hc i s n hi).2⟩⟩
end Go.Proofs.YtimpfeadpcjlgaaDoor
