/- Layer 2: a slice of calls that came in reads as a list. -/
import Derived.Test.YtldgdlndacocdaaHPlay
namespace Go.Proofs.Ytldgdlndacocdaa
open Go.ChangeShapes Go.WideShapes Go.ChangeAt Go.RowKit

/-- A call: its kind, its key, its number. -/
structure OpT where
  kind : Int
  key : Key
  n : Int

def opC (o : OpT) : List Value := [.int .i64 o.kind, .int .i64 o.key.a, .int .i64 o.key.b, .int .i64 o.key.c, .int .i64 o.n]

def RdO (B : Nat) (w : World) (A : Option Addr) (os : List OpT) : Prop :=
  os = [] ∨ ∃ b off, A = some ⟨b, off, none⟩ ∧ b < B ∧ ∀ (j : Nat) (o : OpT), os[j]? = some o →
    w.cell? ⟨b, off + j * 5, none⟩ = some (.int .i64 o.kind) ∧ w.cell? ⟨b, off + j * 5 + 1, none⟩ = some (.int .i64 o.key.a) ∧ w.cell? ⟨b, off + j * 5 + 2, none⟩ = some (.int .i64 o.key.b) ∧
    w.cell? ⟨b, off + j * 5 + 3, none⟩ = some (.int .i64 o.key.c) ∧ w.cell? ⟨b, off + j * 5 + 4, none⟩ = some (.int .i64 o.n)

theorem cells_op : Try.prog.cellsOf 31 = 5 := by kernel_rfl

section
variable {H : Type} {enc : TypeId × Value → H} {w : World} {base : Nat} {spare : Nat → Bool} {held : Bool}

theorem trod_op {fuel : Nat} {cs : List Value} {x : DataW H × List MemPlace} (h : DataW.trod enc Try.prog w base spare held fuel 31 cs = some x) : ∃ o : OpT, cs = opC o := by
  obtain ⟨ys, n', _, _, hl, hyl, hf⟩ := DataW.trod_struct Try.underlying31 h
  rw [cells_op] at hl
  have h0 := hf 0 _ rfl
  have h1 := hf 1 _ rfl
  have h2 := hf 2 _ rfl
  simp at h0 h1 h2
  have hy : ys.length = 3 := hyl
  rw [cells_int, List.getElem?_eq_getElem (by omega)] at h0 h2
  rw [cells_key, List.getElem?_eq_getElem (by omega)] at h1
  match cs, hl with
  | [c0, c1, c2, c3, c4], _ =>
    obtain ⟨a, e0, _⟩ := DataW.trod_int Try.underlying3 h0
    obtain ⟨k, e1⟩ := trod_key h1
    obtain ⟨b, e2, _⟩ := DataW.trod_int Try.underlying3 h2
    simp [keyC] at e0 e1 e2
    obtain ⟨e10, e11, e12⟩ := e1
    exact ⟨⟨a, k, b⟩, by rw [e0, e10, e11, e12, e2]; rfl⟩
end

theorem arg_ops {H : Type} {enc : TypeId × Value → H} {w : World} {r : Reach} {b0 : Nat} {v : Value} {d : DataW H} {p : List MemPlace}
    (h : DataW.Trod enc Try.prog w 0 (fun _ => true) true 22 v d p) (hv : Value.okWide Try.prog w r b0 22 v) :
    ∃ (A : Option Addr) (os : List OpT) (c : Nat), v = .slice A os.length c ∧ os.length ≤ 9223372036854775807 ∧ RdO w.heap.size w A os := by
  obtain ⟨A, n, c, rfl⟩ := okWide_slice Try.underlying22 hv
  obtain ⟨fuel, hf⟩ := h
  simp only [Value.cells] at hf
  rcases Go.Deep.open_slice Try.underlying22 hf with ⟨hcs, _⟩ | ⟨a, len, cap, m, q, D, Pl, hcs, _, hl, hm, hmm, _, hi⟩
  · simp at hcs
    obtain ⟨rfl, rfl, rfl⟩ := hcs
    exact ⟨none, [], 0, rfl, by simp, .inl rfl⟩
  · simp at hcs
    obtain ⟨rfl, rfl, rfl⟩ := hcs
    simp at hmm
    subst hmm
    unfold maxLen at hm
    rw [cells_op] at hi
    have hk : ∀ i : Nat, ∃ o : OpT, i < m → ∀ c, c < 5 → w.cell? ((a.add (i * 5)).add c) = (opC o)[c]? := by
      intro i
      by_cases hlt : i < m
      · obtain ⟨cs', hc, ht⟩ := hi i hlt
        obtain ⟨o, rfl⟩ := trod_op ht
        obtain ⟨_, _, hat⟩ := World.cells?_some hc
        exact ⟨o, fun _ c hc => hat c hc⟩
      · exact ⟨⟨0, ⟨0, 0, 0⟩, 0⟩, fun h => absurd h hlt⟩
    obtain ⟨K, hK⟩ := Classical.axiomOfChoice hk
    refine ⟨some a, (List.range n).map K, m, by simp, by simp; omega, ?_⟩
    by_cases h0 : n = 0
    · subst h0; exact .inl rfl
    · obtain ⟨b, off, sp⟩ := a
      have h1 : w.cell? ⟨b, off, sp⟩ = some (.int .i64 (K 0).kind) := by
        have := hK 0 (by omega) 0 (by omega)
        simpa [Addr.add, opC] using this
      have hsp : sp = none := by simpa using World.cell?_spot h1
      subst hsp
      have hb : b < w.heap.size := block_lt_of_cell (a := ⟨b, off, none⟩) h1
      refine .inr ⟨b, off, rfl, hb, fun j o hj => ?_⟩
      rw [List.getElem?_map] at hj
      have hjn : j < n := by
        rcases Nat.lt_or_ge j n with h | h
        · exact h
        · rw [List.getElem?_eq_none (by simpa using h)] at hj; simp at hj
      rw [List.getElem?_range hjn] at hj
      simp at hj
      subst hj
      have hat : ∀ c, c < 5 → w.cell? ⟨b, off + j * 5 + c, none⟩ = (opC (K j))[c]? := by
        intro c hc
        have := hK j (by omega) c hc
        rw [← this]
        congr 1
        unfold Addr.add
        split <;> split <;> simp_all <;> omega
      exact ⟨hat 0 (by omega), hat 1 (by omega), hat 2 (by omega), hat 3 (by omega), hat 4 (by omega)⟩

end Go.Proofs.Ytldgdlndacocdaa
