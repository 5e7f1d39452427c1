/- Layer 7 (lay): worlds in which but some blocks have turned; a range over the parts of a text: the law of the walk, for a body that goes on or returns. -/
import Derived.Test.YtimpfeadpcjlgaaDoorYIter
namespace Go.Proofs.YtimpfeadpcjlgaaDoor
open Go.ChangeShapes Go.WideShapes Go.ChangeAt Go.RowKit Go.Maps Go.Shelf

/-- But for the blocks 'own', all that was there is as it was. -/
structure Turn (own : Nat → Prop) (w w' : World) : Prop where
  os : w'.os = w.os
  tape : w'.tape = w.tape
  output : w'.output = w.output
  size : w.heap.size ≤ w'.heap.size
  block : ∀ i, i < w.heap.size → ¬ own i → w'.heap[i]? = w.heap[i]?

section
variable {own : Nat → Prop} {w w1 w2 : World}
theorem Turn.refl (own : Nat → Prop) (w : World) : Turn own w w := ⟨rfl, rfl, rfl, Nat.le_refl _, fun _ _ _ => rfl⟩
theorem Turn.alloc (h : Turn own w w1) (o : Obj) : Turn own w (w1.alloc o) :=
  ⟨h.os, h.tape, h.output, Nat.le_trans h.size (by simp), fun i hi h1 => (Below.heap_alloc w1 o i (Nat.lt_of_lt_of_le hi h.size)).trans (h.block i hi h1)⟩
theorem Turn.setCell (h : Turn own w w1) {p : Addr} (hp : own p.block ∨ w.heap.size ≤ p.block) (v : Value) : Turn own w (w1.setCell p v) :=
  ⟨h.os, h.tape, h.output, by simpa [World.setCell] using h.size, fun i hi h1 => (Below.heap_setCell w1 p v i (by
    rintro rfl
    rcases hp with hp | hp
    · exact h1 hp
    · omega)).trans (h.block i hi h1)⟩
theorem Turn.drew (h : Turn own w w1) : Turn own w w1.drew := ⟨h.os, h.tape, h.output, h.size, h.block⟩
theorem Turn.drewN (h : Turn own w w1) (q : Nat) : Turn own w (w1.drewN q) := ⟨h.os, h.tape, h.output, h.size, h.block⟩
theorem Turn.below (h : Turn own w w1) (k : Below w1.heap.size w1 w2) : Turn own w w2 :=
  ⟨k.os.trans h.os, k.tape.trans h.tape, k.output.trans h.output, Nat.le_trans h.size k.size, fun i hi h1 => (k.block i (Nat.lt_of_lt_of_le hi h.size)).trans (h.block i hi h1)⟩
theorem Turn.trans {own' : Nat → Prop} (h : Turn own w w1) (k : Turn own' w1 w2) (hb : ∀ i, own' i → own i ∨ w.heap.size ≤ i) : Turn own w w2 :=
  ⟨k.os.trans h.os, k.tape.trans h.tape, k.output.trans h.output, Nat.le_trans h.size k.size, fun i hi h1 => (k.block i (Nat.lt_of_lt_of_le hi h.size) (fun h2 => (hb i h2).elim h1 (by omega))).trans (h.block i hi h1)⟩
theorem Turn.grown (h : Turn own w w1) {row : Option Nat} (k : w1.grownBy w2 row) (hb : ∀ i, row = some i → own i ∨ w.heap.size ≤ i) : Turn own w w2 :=
  ⟨k.os.trans h.os, k.tape.trans h.tape, k.output.trans h.output, Nat.le_trans h.size k.size, fun i hi h1 => (k.block i (Nat.lt_of_lt_of_le hi h.size) (fun h2 => (hb i h2.symm).elim h1 (by omega))).trans (h.block i hi h1)⟩
theorem Turn.of_below (k : Below w.heap.size w w1) : Turn own w w1 := (Turn.refl own w).below k
theorem Turn.to_below {B : Nat} (h : Below B w w1) (k : Turn own w1 w2) (ho : ∀ i, own i → B ≤ i) (hB : B ≤ w1.heap.size) : Below B w w2 :=
  ⟨k.os.trans h.os, k.tape.trans h.tape, k.output.trans h.output, Nat.le_trans h.size k.size, fun i hi => (k.block i (by omega) (fun h2 => by have := ho i h2; omega)).trans (h.block i hi)⟩
theorem Turn.cell (h : Turn own w w1) {p : Addr} {v : Value} (hp : w.cell? p = some v) (hn : ¬ own p.block) : w1.cell? p = some v :=
  (World.cell?_of_block (h.block p.block (World.block_lt_of_cell? w p hp) hn)).trans hp
end


theorem Turn.putObj {own : Nat → Prop} {w w1 : World} (h : Turn own w w1) {k : Nat} (hk : own k ∨ w.heap.size ≤ k) (o : Obj) : Turn own w (w1.putObj k o) :=
  ⟨h.os, h.tape, h.output, by simpa using h.size, fun i hi h1 => (World.putObj_heap_other (by
    rintro rfl
    rcases hk with hk | hk
    · exact h1 hk
    · omega)).trans (h.block i hi h1)⟩

/-- The blocks that the law itself turns: the rest's box, and its two. -/
def Own3 (bs D : Nat) (k : Nat) : Prop := k = bs ∨ k = D ∨ k = D + 1

/-- What a round leaves as it was: the five blocks that are not its own. -/
def Keep5 (bs bp bv D : Nat) (w w' : World) : Prop := w'.heap[bs]? = w.heap[bs]? ∧ w'.heap[bp]? = w.heap[bp]? ∧ w'.heap[bv]? = w.heap[bv]? ∧ w'.heap[D]? = w.heap[D]? ∧ w'.heap[D + 1]? = w.heap[D + 1]?

/-- How a round's body may be left: off its end, or by a return. -/
def bodyS (bs bp bv D : Nat) (I : List ByteArray → World → Prop) (Ix : World → Prop) (pre : List ByteArray) (w : World) : Exit → Act → World → Prop
  | .normal, _, w' => Keep5 bs bp bv D w w' ∧ I pre w'
  | .ret, _, w' => Keep5 bs bp bv D w w' ∧ Ix w'
  | .exit _, _, _ => False
  | .goto _, _, _ => False
  | .panic _, _, _ => False
  | .outgrown, _, _ => False

theorem wpIn_split {n : Nat} (hn : 2 ≤ n) {g : Operand} {ps : Array Tmp} {assign body : Code} {Q : Exit → Act → World → Prop} {a : Act} {w : World} {bs bp bv : Nat} {c : UInt8} {s : ByteArray} (hs : s.size ≤ 1048576) (hbp : bs ≠ bp) (hbv : bs ≠ bv) (hbx : Bx w bs bp bv c s)
    (hg : a.eval g = .func (.func 34) #[] #[.pointer (some ⟨bp, 0, none⟩), .pointer (some ⟨bs, 0, none⟩), .pointer (some ⟨bv, 0, none⟩)]) (hps : ps.size = 1)
    (I : List ByteArray → World → Prop) (Ix : World → Prop) (hI : ∀ pre W W', I pre W → Turn (Own3 bs w.heap.size) W W' → I pre W') (hIx : ∀ W W', Ix W → Turn (Own3 bs w.heap.size) W W' → Ix W') (h0 : I [] w) (a₁ : ByteArray → Act)
    (hassign : ∀ (l : Nat) (x : ByteArray) (W : World) (K : Act → World → Prop), K (a₁ x) W →
      assign.wpIn (Fence.wide.inRound l) (n - 1 - 1) Tryd.prog (Exit.then K (fun _ _ _ => False)) { tmps := (ps.zip #[.string x]).foldl (fun t (p, v) => t.setIfInBounds p v) a.tmps, defers := [] } W)
    (hbody : ∀ (l : Nat) (pre : List ByteArray) (x : ByteArray) (W : World), I pre W → pre ++ [x] <+: splitS c s → w.heap.size + 1 < W.heap.size → body.wpIn (Fence.wide.inRound l) (n - 1 - 1) Tryd.prog (bodyS bs bp bv w.heap.size I Ix (pre ++ [x]) W) (a₁ x) W)
    (hdone : ∀ (W : World), I (splitS c s) W → W.heap[w.heap.size]? = some (.deferred (some [])) → Q .normal { a with defers := { target := .collected w.heap.size, args := #[] } :: a.defers } W)
    (hstop : ∀ (W : World), Ix W → W.heap[w.heap.size]? = some (.deferred (some [])) → Code.ret.wpIn Fence.wide n Tryd.prog Q { a with defers := { target := .collected w.heap.size, args := #[] } :: a.defers } W) :
    (Code.rangeFunc g ps assign body).wpIn Fence.wide n Tryd.prog Q a w := by
  have lt_bs : bs < w.heap.size := (Array.getElem?_eq_some_iff.1 hbx.s).1
  have lt_bp : bp < w.heap.size := (Array.getElem?_eq_some_iff.1 hbx.p).1
  have lt_bv : bv < w.heap.size := (Array.getElem?_eq_some_iff.1 hbx.v).1
  obtain ⟨D, hD⟩ : ∃ D, D = w.heap.size := ⟨_, rfl⟩
  rw [← hD] at hI hIx hbody hdone hstop lt_bs lt_bp lt_bv
  refine wpIn_rangeFunc ?_
  intro fn hfn
  obtain ⟨rec, hrec⟩ : ∃ rec : LoopState → Option Code → Loop, rec = fun st pe => { state := st, pending := pe, fn, tmps := a.tmps, params := ps, assign, body, defers := D } := ⟨_, rfl⟩
  have e1 := run_enterLoop_outer (P := Tryd.prog) (w := w) fn a.tmps ps assign body
  obtain ⟨W1, hW1⟩ : ∃ W1, (w.alloc (.deferred (some []))).alloc (.loop (rec .ready none)) = W1 := ⟨_, rfl⟩
  have t1 : Turn (Own3 bs D) w W1 := by rw [← hW1]; exact ((Turn.refl _ w).alloc _).alloc _
  have z1 : W1.heap.size = D + 2 := by rw [← hW1, hD]; simp
  have hL : W1.heap[D + 1]? = some (.loop (rec .ready none)) := by
    rw [← hW1, hD]; have := World.alloc_heap_new (w.alloc (.deferred (some []))) (.loop (rec .ready none)); rwa [World.size_alloc] at this
  have hK : W1.heap[D]? = some (.deferred (some [])) := by
    rw [← hW1, hD]; exact (Below.heap_alloc _ _ _ (by simp)).trans (World.alloc_heap_new w _)
  have keepW : ∀ k, k < D → W1.heap[k]? = w.heap[k]? := fun k hk => by
    rw [← hW1]; exact (Below.heap_alloc _ _ _ (by simp; omega)).trans (Below.heap_alloc _ _ _ (by omega))
  have hbx1 : Bx W1 bs bp bv c s := hbx.of (keepW _ lt_bs) (keepW _ lt_bp) (keepW _ lt_bv)
  refine ⟨D + 1, [{ target := .collected D, args := #[] }], W1, { target := .fn (.func 34) #[.pointer (some ⟨bp, 0, none⟩), .pointer (some ⟨bs, 0, none⟩), .pointer (some ⟨bv, 0, none⟩)], args := #[.func (.yield (D + 1)) #[] #[]] }, W1, 34,
    #[.func (.yield (D + 1)) #[] #[], .pointer (some ⟨bp, 0, none⟩), .pointer (some ⟨bs, 0, none⟩), .pointer (some ⟨bv, 0, none⟩)], W1, ?_, ?_, fun _ _ => trivial, ?_, fun _ => by omega, ?_⟩
  · rw [← hW1, hrec, hD]; exact e1
  · simp only [resolve, hg]
    simp [go_sem]
  · simp [invoke, go_sem]
  · refine (split1_in (n - 1) (by omega) (D + 1) bs bp bv c s hs hbp hbv
      (fun pre W => I pre W ∧ W.heap[D + 1]? = some (.loop (rec .ready none)) ∧ W.heap[D]? = some (.deferred (some [])))
      (fun W => Ix W ∧ W.heap[D + 1]? = some (.loop (rec .done (some .ret))) ∧ W.heap[D]? = some (.deferred (some [])))
      (fun pre W v ⟨h1, h2, h3⟩ => ⟨hI _ _ _ h1 ((Turn.refl _ W).setCell (p := ⟨bs, 0, none⟩) (.inl (.inl rfl)) v), (Below.heap_setCell W _ v _ (by show D + 1 ≠ bs; omega)).trans h2, (Below.heap_setCell W _ v _ (by show D ≠ bs; omega)).trans h3⟩)
      ?_ W1 hbx1 ⟨hI _ _ _ h0 t1, hL, hK⟩).mono ?_
    · rintro pre x W ⟨hi, hl, hk⟩ hx
      have hlt : D + 1 < W.heap.size := (Array.getElem?_eq_some_iff.1 hl).1
      have hy := run_yield (P := Tryd.prog) (args := #[Value.string x]) hl (by rw [hrec]; exact hps.symm)
      rw [hrec] at hy
      refine ⟨fn, _, assign, body, hy, roundIn_of_wpIn trivial (hassign _ x W _ ⟨_, run_beginRound hl (by rw [hrec]), ?_⟩)⟩
      obtain ⟨W2, hW2⟩ : ∃ W2, W2 = W.putObj (D + 1) (.loop { rec .ready none with state := .busy }) := ⟨_, rfl⟩
      have hl2 : W2.heap[D + 1]? = some (.loop { rec .ready none with state := .busy }) := by rw [hW2]; exact World.putObj_heap_same hlt
      have hk2 : W2.heap[D]? = some (.deferred (some [])) := by rw [hW2]; exact (World.putObj_heap_other (by omega)).trans hk
      have ks : ∀ k, k < D → W2.heap[k]? = W.heap[k]? := fun k hk => by rw [hW2]; exact World.putObj_heap_other (by omega)
      have t2 : Turn (Own3 bs D) W W2 := by rw [hW2]; exact (Turn.refl _ W).putObj (.inl (.inr (.inr rfl))) _
      rw [← hW2]
      refine wpIn_mono (hbody _ pre x W2 (hI _ _ _ hi t2) hx (by rw [hW2]; simpa using hlt)) ?_
      have fin : ∀ (jump : Option Code) (W3 : World), Keep5 bs bp bv D W2 W3 →
          ∃ W4, (Instr.endRound (D + 1) jump).run Tryd.prog W3 = .ok (.bool jump.isNone) W4 ∧ W4.heap[D + 1]? = some (.loop (rec (if jump.isNone then .ready else .done) jump)) ∧ W4.heap[D]? = some (.deferred (some [])) ∧ Turn (Own3 bs D) W3 W4 ∧ Kept3 bs bp bv W W4 := fun jump W3 hk3 => by
        obtain ⟨k1, k2, k3, k4, k5⟩ := hk3
        have hl3 := k5.trans hl2
        have := run_endRound (P := Tryd.prog) jump hl3
        rw [hrec] at this ⊢
        refine ⟨_, this, World.putObj_heap_same (Array.getElem?_eq_some_iff.1 hl3).1, (World.putObj_heap_other (by omega)).trans (k4.trans hk2), (Turn.refl _ W3).putObj (.inl (.inr (.inr rfl))) _, ?_, ?_, ?_⟩
        · exact (World.putObj_heap_other (by omega)).trans (k1.trans (ks _ lt_bs))
        · exact (World.putObj_heap_other (by omega)).trans (k2.trans (ks _ lt_bp))
        · exact (World.putObj_heap_other (by omega)).trans (k3.trans (ks _ lt_bv))
      rintro e a3 W3 hp
      cases e with
      | normal =>
        obtain ⟨hk3, hi3⟩ := hp
        obtain ⟨W4, hr, hl4, hk4, t4, kk⟩ := fin none W3 hk3
        exact ⟨_, _, hr, .inl ⟨rfl, ⟨hI _ _ _ hi3 t4, hl4, hk4⟩, kk⟩⟩
      | ret =>
        obtain ⟨hk3, hi3⟩ := hp
        obtain ⟨W4, hr, hl4, hk4, t4, kk⟩ := fin (some .ret) W3 hk3
        exact ⟨_, _, hr, .inr ⟨rfl, hIx _ _ hi3 t4, hl4, hk4⟩⟩
      | exit id => exact hp.elim
      | goto t => exact hp.elim
      | panic ch => exact hp.elim
      | outgrown => exact hp.elim
    · rintro e W2 ⟨⟨v, rfl⟩, (⟨hi, hl, hk⟩ | ⟨hi, hl, hk⟩)⟩
      · exact ⟨none, _, by have := run_endLoop (P := Tryd.prog) hl (by rw [hrec]; simp); rw [hrec] at this; exact this, hdone _ (hI _ _ _ hi ((Turn.refl _ W2).putObj (.inl (.inr (.inr rfl))) _)) ((World.putObj_heap_other (by omega)).trans hk)⟩
      · exact ⟨some .ret, _, by have := run_endLoop (P := Tryd.prog) hl (by rw [hrec]; simp); rw [hrec] at this; exact this, hstop _ (hIx _ _ hi ((Turn.refl _ W2).putObj (.inl (.inr (.inr rfl))) _)) ((World.putObj_heap_other (by omega)).trans hk)⟩
end Go.Proofs.YtimpfeadpcjlgaaDoor
