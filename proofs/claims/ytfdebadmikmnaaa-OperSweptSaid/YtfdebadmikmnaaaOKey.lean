/- Layer 4 (oper): the cache: a map by questions, and what is known of it. -/
import Derived.Test.YtfdebadmikmnaaaOSplit
import Derived.Test.YtfdebadmikmnaaaODo
import Derived.DeepKeys4
import Derived.Test.YtfdebadmikmnaaaNSize
namespace Go.Proofs.Ytfdebadmikmnaaa
open Go.ChangeShapes Go.WideShapes Go.ChangeAt Go.RowKit Go.Maps

set_option maxRecDepth 100000 in
theorem laidOutP : laidOutB Try.prog = true := by kernel_rfl
theorem rowQ : (98 : TypeId) < Try.prog.types.size := of_decide_eq_true (by kernel_rfl)
theorem wideQ : (match Try.prog.underlying 98 with | some (.array _ _) | some (.struct _) => true | _ => false) = true := by rw [Try.underlying98]
set_option maxRecDepth 100000 in
theorem lawQ : Keyed Try.prog 98 := Keyed.of_law (deep_law_laid laidOutP (m := 4) (by omega) rowQ (by kernel_rfl) wideQ)
set_option maxRecDepth 100000 in
theorem deepQ : Try.prog.keyType 98 = true := by kernel_rfl
theorem cellsQ : Try.prog.cellsOf 98 = 4 := by kernel_rfl
theorem cellsA : Try.prog.cellsOf 22 = 3 := by kernel_rfl
theorem cellsI : Try.prog.cellsOf 3 = 1 := by kernel_rfl
theorem cellsK : Try.prog.cellsOf 79 = 1 := by kernel_rfl
set_option maxRecDepth 100000 in
theorem deepE : ∃ d, Try.prog.types.size + 1 = d + 4 := ⟨Try.prog.types.size - 3, by have : 100 ≤ Try.prog.types.size := of_decide_eq_true (by kernel_rfl); omega⟩

def Fits (q : Qu) : Prop := q.kind < 2 ∧ q.a < 9223372036854775808 ∧ q.b < 9223372036854775808 ∧ q.c < 9223372036854775808

theorem kl_int {d : Nat} {t : TypeId} {n : Int} (hu : Try.prog.underlying t = some (.int .i64)) (hw : (Lit.int .i64 n).wf = true) : Try.prog.keyLits (d + 1) t [.int .i64 n] = some [.int .i64 n] := by
  unfold Program.keyLits
  rw [hu]
  simp [hw]

theorem kl_arr {d : Nat} {a b c : Int} (ha : (Lit.int .i64 a).wf = true) (hb : (Lit.int .i64 b).wf = true) (hc : (Lit.int .i64 c).wf = true) : Try.prog.keyLits (d + 2) 22 [.int .i64 a, .int .i64 b, .int .i64 c] = some [.int .i64 a, .int .i64 b, .int .i64 c] := by
  have la := kl_int (d := d) Try.underlying3 ha
  have lb := kl_int (d := d) Try.underlying3 hb
  have lc := kl_int (d := d) Try.underlying3 hc
  unfold Program.keyLits
  rw [Try.underlying22]
  simp [cellsA, cellsI, List.range_succ, List.range_zero, la, lb, lc]

theorem kl_q {d : Nat} {k a b c : Int} (hk : (Lit.int .i64 k).wf = true) (ha : (Lit.int .i64 a).wf = true) (hb : (Lit.int .i64 b).wf = true) (hc : (Lit.int .i64 c).wf = true) : Try.prog.keyLits (d + 3) 98 [.int .i64 k, .int .i64 a, .int .i64 b, .int .i64 c] = some [.int .i64 k, .int .i64 a, .int .i64 b, .int .i64 c] := by
  have lk := kl_int (d := d + 1) Try.underlying79 hk
  have la := kl_arr (d := d) ha hb hc
  unfold Program.keyLits
  rw [Try.underlying98]
  simp [cellsQ, cellsA, cellsK, lk, la]

set_option maxRecDepth 100000 in
theorem key_some {q : Qu} (h : Fits q) : ∃ l, keyOf Try.prog 98 (quV q) = some l := by
  obtain ⟨d, hd⟩ := deepE
  obtain ⟨h0, h1, h2, h3⟩ := h
  have w0 : (Lit.int .i64 (q.kind : Int)).wf = true := WalkArith.wf_i64 (by omega)
  have w1 : (Lit.int .i64 (q.a : Int)).wf = true := WalkArith.wf_i64 (by omega)
  have w2 : (Lit.int .i64 (q.b : Int)).wf = true := WalkArith.wf_i64 (by omega)
  have w3 : (Lit.int .i64 (q.c : Int)).wf = true := WalkArith.wf_i64 (by omega)
  have hl : Try.prog.keyLits (d + 4) 98 [.int .i64 q.kind, .int .i64 q.a, .int .i64 q.b, .int .i64 q.c] = some [.int .i64 q.kind, .int .i64 q.a, .int .i64 q.b, .int .i64 q.c] := kl_q (d := d + 1) w0 w1 w2 w3
  have hc : (quV q).cells.toList = [.int .i64 q.kind, .int .i64 q.a, .int .i64 q.b, .int .i64 q.c] := by simp [quV, Value.cells]
  have hf : (quV q).formed Try.prog 98 = true := by simp [quV, Value.formed, Try.underlying98, cellsQ]
  unfold keyOf
  rw [Try.underlying98]
  simp only [deepQ, hf, hd]
  refine ⟨.string (keyBytes [.int .i64 q.kind, .int .i64 q.a, .int .i64 q.b, .int .i64 q.c]), ?_⟩
  rw [hc]
  rw [hl]
  rfl

theorem key_inj {p q : Qu} {l : Lit} (hp : keyOf Try.prog 98 (quV p) = some l) (hq : keyOf Try.prog 98 (quV q) = some l) : p = q := by
  have h := lawQ.inj hp hq
  obtain ⟨k, a, b, c⟩ := p
  obtain ⟨k', a', b', c'⟩ := q
  simp only [quV, Value.agg.injEq, Array.mk.injEq, List.cons.injEq, Value.int.injEq, true_and, and_true] at h
  obtain ⟨h0, h1, h2, h3⟩ := h
  have h0 := Int.ofNat.inj h0
  have h1 := Int.ofNat.inj h1
  have h2 := Int.ofNat.inj h2
  have h3 := Int.ofNat.inj h3
  subst h0 h1 h2 h3
  rfl

/-- A map from questions to numbers. -/
abbrev CMap (w : World) (b n : Nat) (D : DataW Unit) : Prop := w.ownsMap Try.prog 98 (plainElem Try.prog 3) b n D

/-- What stands in the cache is told. -/
def CGood (V : Nat) (cs : List Nd) (D : DataW Unit) : Prop := ∀ (q : Qu) (l : Lit), keyOf Try.prog 98 (quV q) = some l → Maps.has D l = true → ∃ k : Nat, D.atKey l (.lit (.int .i64 0)) = .lit (.int .i64 (k : Int)) ∧ Told V cs q k

theorem CGood.empty (V : Nat) (cs : List Nd) : CGood V cs (.map []) := by
  intro q l _ h
  simp [Maps.has] at h

theorem CGood.ext {V : Nat} {cs cs' : List Nd} {D : DataW Unit} (h : CGood V cs D) (hx : Ext cs cs') (g : NGood V cs) (g' : NGood V cs') : CGood V cs' D := by
  intro q l hl hh
  obtain ⟨k, h1, h2⟩ := h q l hl hh
  exact ⟨k, h1, h2.ext hx g g'⟩

theorem CGood.put {V : Nat} {cs : List Nd} {D : DataW Unit} (h : CGood V cs D) (hm : Maps.IsMap D) {q : Qu} {l : Lit} (hl : keyOf Try.prog 98 (quV q) = some l) {k : Nat} (t : Told V cs q k) : CGood V cs (D.put l (.lit (.int .i64 (k : Int)))) := by
  intro p l' hl' hh
  by_cases e : l' = l
  · subst e
    obtain rfl := key_inj hl hl'
    exact ⟨k, Maps.atKey_put_same hm (lawQ.key hl) _ _, t⟩
  · rw [Maps.has_put_other e] at hh
    obtain ⟨j, h1, h2⟩ := h p l' hl' hh
    exact ⟨j, (Maps.atKey_put_other e _ _).trans h1, h2⟩

theorem CMap.tight {w : World} {b n : Nat} {D : DataW Unit} (h : CMap w b n D) : CMap w b (Maps.size D) D := by
  obtain ⟨es, clock, h1, h2, h3, rfl⟩ := h
  refine ⟨es, clock, h1, h2, ?_, rfl⟩
  rw [Maps.size_eq, length_read]
  exact Nat.le_refl _

theorem CMap.of {w w' : World} {b n : Nat} {D : DataW Unit} (h : CMap w b n D) (e : w'.heap[b]? = w.heap[b]?) : CMap w' b n D := by
  obtain ⟨es, clock, h1, h2⟩ := h
  exact ⟨es, clock, e.trans h1, h2⟩
theorem CMap.keep {w w' : World} {b n : Nat} {D : DataW Unit} (h : CMap w b n D) (hb : Below w.heap.size w w') : CMap w' b n D := h.of (hb.block _ h.lt)
theorem CMap.made {w : World} {b : Nat} (h : w.heap[b]? = some (.map #[] 0)) : CMap w b 0 (.map []) := by
  have := World.ownsMap_made (H := Unit) w Try.prog 98 (plainElem Try.prog 3)
  obtain ⟨es, clock, h1, h2⟩ := this
  rw [heap_alloc_new] at h1
  injection h1 with h1
  injection h1 with e1 e2
  subst e1 e2
  exact ⟨#[], 0, h, h2⟩
theorem CMap.not_cells {w : World} {b n : Nat} {D : DataW Unit} (h : CMap w b n D) {x : Array Value} {t : TypeId} {z : Nat × Nat} : w.heap[b]? ≠ some (.cells x t z) := by
  obtain ⟨es, clock, h1, _⟩ := h
  rw [h1]
  intro e
  cases e
end Go.Proofs.Ytfdebadmikmnaaa
