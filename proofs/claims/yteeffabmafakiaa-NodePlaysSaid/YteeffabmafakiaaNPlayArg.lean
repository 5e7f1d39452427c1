/- Layer 3: a slice of calls that came in reads as a list. -/
import Derived.Test.YteeffabmafakiaaNPlaySweep
namespace Go.Proofs.Yteeffabmafakiaa
open Go.ChangeShapes Go.WideShapes Go.ChangeAt Go.RowKit

/-- A call: its kind, its three numbers, its values. -/
structure OpN where
  kind : Int
  a : Int
  b : Int
  c : Int
  A : Option Addr
  vs : List Bool
  cap : Nat

def opN (o : OpN) : List Value := [.int .i64 o.kind, .int .i64 o.a, .int .i64 o.b, .int .i64 o.c, .slice o.A o.vs.length o.cap]

def RdN (B : Nat) (w : World) (A : Option Addr) (os : List OpN) : Prop :=
  os = [] ∨ ∃ b off, A = some ⟨b, off, none⟩ ∧ b < B ∧ ∀ (j : Nat) (o : OpN), os[j]? = some o →
    (w.cell? ⟨b, off + j * 5, none⟩ = some (.int .i64 o.kind) ∧ w.cell? ⟨b, off + j * 5 + 1, none⟩ = some (.int .i64 o.a) ∧ w.cell? ⟨b, off + j * 5 + 2, none⟩ = some (.int .i64 o.b) ∧
    w.cell? ⟨b, off + j * 5 + 3, none⟩ = some (.int .i64 o.c) ∧ w.cell? ⟨b, off + j * 5 + 4, none⟩ = some (.slice o.A o.vs.length o.cap)) ∧ Rd w o.A (o.vs.map Value.bool) ∧ o.vs.length ≤ 9223372036854775807

theorem cells_opn : Try.prog.cellsOf 37 = 5 := by kernel_rfl
theorem cells_intn : Try.prog.cellsOf 3 = 1 := by kernel_rfl
theorem cells_sln : Try.prog.cellsOf 35 = 1 := by kernel_rfl

section
variable {H : Type} {enc : TypeId × Value → H} {w : World}

set_option maxRecDepth 100000 in
theorem trod_opn {fuel : Nat} {cs : List Value} {x : DataW H × List MemPlace} (h : DataW.trod enc Try.prog w 0 (fun _ => true) true fuel 37 cs = some x) : ∃ o : OpN, cs = opN o ∧ Rd w o.A (o.vs.map Value.bool) ∧ o.vs.length ≤ 9223372036854775807 := by
  obtain ⟨ys, n', _, _, hl, hyl, hf⟩ := DataW.trod_struct Try.underlying37 h
  rw [cells_opn] at hl
  have h0 := hf 0 _ rfl
  have h1 := hf 1 _ rfl
  have h2 := hf 2 _ rfl
  have h3 := hf 3 _ rfl
  have h4 := hf 4 _ rfl
  simp at h0 h1 h2 h3 h4
  have hy : ys.length = 5 := hyl
  rw [cells_intn, List.getElem?_eq_getElem (by omega)] at h0 h1 h2 h3
  rw [cells_sln, List.getElem?_eq_getElem (by omega)] at h4
  match cs, hl with
  | [c0, c1, c2, c3, c4], _ =>
    obtain ⟨a0, e0, _⟩ := DataW.trod_int Try.underlying3 h0
    obtain ⟨a1, e1, _⟩ := DataW.trod_int Try.underlying3 h1
    obtain ⟨a2, e2, _⟩ := DataW.trod_int Try.underlying3 h2
    obtain ⟨a3, e3, _⟩ := DataW.trod_int Try.underlying3 h3
    simp at e0 e1 e2 e3
    simp at h4
    rcases Go.Deep.open_slice Try.underlying35 h4 with ⟨hcs, _⟩ | ⟨a, len, cap, m, q, D, Pl, hcs, _, _, _, hmm, _, _⟩
    · simp at hcs
      exact ⟨⟨a0, a1, a2, a3, none, [], 0⟩, by rw [e0, e1, e2, e3, hcs]; rfl, .inl rfl, Nat.zero_le _⟩
    · simp at hcs
      subst hcs
      obtain ⟨l, hl1, hl2, hrd⟩ := rd_bools Try.underlying35 Try.underlying4 (by kernel_rfl) (show DataW.Trod enc Try.prog w 0 (fun _ => true) true 35 (.slice (some a) len cap) _ _ from ⟨_, h4⟩)
      exact ⟨⟨a0, a1, a2, a3, some a, l, cap⟩, by rw [e0, e1, e2, e3]; unfold opN; simp only [hl1], hrd, by simp only [hl1]; exact hl2⟩
end

set_option maxRecDepth 100000 in
theorem arg_opn {H : Type} {enc : TypeId × Value → H} {w : World} {r : Go.Reach} {b0 : Nat} {v : Value} {d : DataW H} {p : List MemPlace}
    (h : DataW.Trod enc Try.prog w 0 (fun _ => true) true 22 v d p) (hv : Value.okWide Try.prog w r b0 22 v) :
    ∃ (A : Option Addr) (os : List OpN) (c : Nat), v = .slice A os.length c ∧ os.length ≤ 9223372036854775807 ∧ RdN w.heap.size w A os := by
  obtain ⟨A, n, c, rfl⟩ := okWide_slice Try.underlying22 hv
  obtain ⟨fuel, hf⟩ := h
  simp only [Value.cells] at hf
  rcases Go.Deep.open_slice Try.underlying22 hf with ⟨hcs, _⟩ | ⟨a, len, cap, m, q, D, Pl, hcs, _, hl, hm, hmm, _, hi⟩
  · simp at hcs
    obtain ⟨rfl, rfl, rfl⟩ := hcs
    exact ⟨none, [], 0, rfl, Nat.zero_le _, .inl rfl⟩
  · simp at hcs
    obtain ⟨rfl, rfl, rfl⟩ := hcs
    simp at hmm
    subst hmm
    unfold maxLen at hm
    rw [cells_opn] at hi
    have hk : ∀ i : Nat, ∃ o : OpN, i < m → (∀ c, c < 5 → w.cell? ((a.add (i * 5)).add c) = (opN o)[c]?) ∧ Rd w o.A (o.vs.map Value.bool) ∧ o.vs.length ≤ 9223372036854775807 := by
      intro i
      by_cases hlt : i < m
      · obtain ⟨cs', hc, ht⟩ := hi i hlt
        obtain ⟨o, rfl, h1, h2⟩ := trod_opn ht
        obtain ⟨_, _, hat⟩ := World.cells?_some hc
        exact ⟨o, fun _ => ⟨fun c hc => hat c hc, h1, h2⟩⟩
      · exact ⟨⟨0, 0, 0, 0, none, [], 0⟩, fun h => absurd h hlt⟩
    obtain ⟨K, hK⟩ := Classical.axiomOfChoice hk
    have hlen : ((List.range n).map K).length = n := by rw [List.length_map, List.length_range]
    refine ⟨some a, (List.range n).map K, m, by rw [hlen], by rw [hlen]; omega, ?_⟩
    by_cases h0 : n = 0
    · subst h0; exact .inl rfl
    · obtain ⟨b, off, sp⟩ := a
      have h1 : w.cell? ⟨b, off, sp⟩ = some (.int .i64 (K 0).kind) := by
        have := (hK 0 (by omega)).1 0 (by omega)
        simpa [Addr.add, opN] using this
      have hsp : sp = none := by simpa using World.cell?_spot h1
      subst hsp
      have hb : b < w.heap.size := block_lt_of_cell (a := ⟨b, off, none⟩) h1
      refine .inr ⟨b, off, rfl, hb, fun j o hj => ?_⟩
      rw [List.getElem?_map] at hj
      have hjn : j < n := by
        rcases Nat.lt_or_ge j n with h | h
        · exact h
        · rw [List.getElem?_eq_none (by simpa using h)] at hj; simp at hj
      rw [List.getElem?_range hjn] at hj
      simp at hj
      subst hj
      have hat : ∀ c, c < 5 → w.cell? ⟨b, off + j * 5 + c, none⟩ = (opN (K j))[c]? := by
        intro c hc
        have := (hK j (by omega)).1 c hc
        rw [← this]
        congr 1
        unfold Addr.add
        split <;> split <;> simp_all <;> omega
      exact ⟨⟨hat 0 (by omega), hat 1 (by omega), hat 2 (by omega), hat 3 (by omega), hat 4 (by omega)⟩, (hK j (by omega)).2⟩

end Go.Proofs.Yteeffabmafakiaa
