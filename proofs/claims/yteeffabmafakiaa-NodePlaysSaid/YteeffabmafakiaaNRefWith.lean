/- The document's store: with. -/
import Derived.Test.YteeffabmafakiaaNRefEval
namespace Go.Proofs.Yteeffabmafakiaa
open Go.ChangeShapes Go.WideShapes Go.ChangeAt Go.RowKit

theorem info_rnode : (Try.prog.info? 55).map (fun i => (i.zero, i.size, i.bytes)) = some (some (.agg #[.bool false, .int .i64 0, .int .i64 0, .int .i64 0, .int .i64 0]), 5, 40) := by kernel_rfl

def wset (L : List RN) (k : Nat) (n : RN) : List RN := L.take k ++ [n] ++ L.drop (k + 1)
theorem wset_length (L : List RN) (k : Nat) (n : RN) (hk : k ≤ L.length) : (wset L k n).length = if k < L.length then L.length else L.length + 1 := by
  unfold wset
  simp only [List.length_append, List.length_take, List.length_drop, List.length_cons, List.length_nil]
  by_cases h : k < L.length
  · rw [if_pos h]; omega
  · rw [if_neg h]; omega

def nodeR (n : RN) : Value := .agg #[.bool n.b, .int .i64 n.v, .int .i64 n.lo, .int .i64 n.hi, .int .i64 n.pins]

theorem oneCell_flatR (l : List RN) : ∀ u ∈ flatR l, u.oneCell' = true := by
  intro u hu
  unfold flatR at hu
  rw [List.mem_flatMap] at hu
  obtain ⟨n, _, hn⟩ := hu
  simp [cellsR] at hn
  rcases hn with rfl | rfl | rfl | rfl | rfl <;> simp [Value.oneCell']

/-- What is known of the world in with. -/
structure WithW (s0 g N cap : Nat) (h : Hd) (n : RN) (L : List RN) (rz : Array Value) (w0 w : World) : Prop where
  bs : w.heap[s0]? = some (.cells #[.int .i64 h.V, .int .i64 h.B, .int .i64 h.made, .int .i64 h.sweeps, .slice (some ⟨g, 0, none⟩) N cap] 29 (0, 0))
  bn : w.heap[s0 + 1]? = some (.cells #[.bool n.b, .int .i64 n.v, .int .i64 n.lo, .int .i64 n.hi, .int .i64 n.pins] 55 (0, 0))
  br : w.heap[s0 + 2]? = some (.cells rz 29 (0, 0))
  rl : RL w g L
  below : Below s0 w0 w
  size : s0 + 3 ≤ w.heap.size

theorem WithW.grown {s0 g N cap : Nat} {h : Hd} {n : RN} {L : List RN} {rz : Array Value} {w0 w w' : World} (o : WithW s0 g N cap h n L rz w0 w) (hgs : g < s0) {row : Option Nat} (hg : w.grownBy w' row) (hr : ∀ i, row = some i → s0 + 3 ≤ i) : WithW s0 g N cap h n L rz w0 w' := by
  have fr : ∀ i, i < s0 + 3 → w'.heap[i]? = w.heap[i]? := fun i hi => hg.block i (Nat.lt_of_lt_of_le hi o.size) (fun e => by have := hr i e.symm; omega)
  have hs := o.size
  refine ⟨(fr s0 (by omega)).trans o.bs, (fr _ (by omega)).trans o.bn, (fr _ (by omega)).trans o.br, ⟨Nat.lt_of_lt_of_le o.rl.lt hg.size, fun j u hu => ?_⟩, ?_, Nat.le_trans o.size hg.size⟩
  · exact (World.cell?_of_block (a := ⟨g, j, none⟩) (fr g (by omega))).trans (o.rl.cell j u hu)
  · exact o.below.grown hg (by omega) (fun i hi => by have := hr i hi; omega)

theorem WithW.alloc {s0 g N cap : Nat} {h : Hd} {n : RN} {L : List RN} {rz : Array Value} {w0 w : World} (o : WithW s0 g N cap h n L rz w0 w) (hgs : g < s0) (ob : Obj) : WithW s0 g N cap h n L rz w0 (w.alloc ob) :=
  o.grown hgs (World.grownBy_alloc w ob none) (fun i hi => by cases hi)

def WithOut (h : Hd) (L : List RN) (k : Nat) (n : RN) (w : World) (e : Ending) (w' : World) : Prop :=
  ∃ g' cap', e = .returned (rsV h g' (wset L k n).length cap') ∧ RL w' g' (wset L k n) ∧ (wset L k n).length ≤ cap' ∧ w.heap.size ≤ g' ∧ Below w.heap.size w w'

theorem take_flat (L : List RN) (k : Nat) : ∀ (j : Nat) (u : Value), (flatR (L.take k))[j]? = some u → (flatR L)[j]? = some u := by
  intro j u hu
  have : flatR L = flatR (L.take k) ++ flatR (L.drop k) := by rw [← flatR_append, List.take_append_drop]
  rw [this, List.getElem?_append_left (List.getElem?_eq_some_iff.1 hu).1]
  exact hu
theorem drop_flat (L : List RN) (k : Nat) (hk : k ≤ L.length) : ∀ (j : Nat) (u : Value), (flatR (L.drop k))[j]? = some u → (flatR L)[k * 5 + j]? = some u := by
  intro j u hu
  have : flatR L = flatR (L.take k) ++ flatR (L.drop k) := by rw [← flatR_append, List.take_append_drop]
  have hl : (flatR (L.take k)).length = k * 5 := by rw [flatR_length, List.length_take, Nat.min_eq_left hk]
  rw [this, List.getElem?_append_right (by omega), hl, Nat.add_sub_cancel_left]
  exact hu

theorem add_g (g o j : Nat) : (⟨g, o, none⟩ : Addr).add j = ⟨g, o + j, none⟩ := by
  unfold Addr.add; split <;> simp_all

theorem with_end {w w3 : World} {g N cap k : Nat} {h : Hd} {n : RN} {L : List RN} {rz : Array Value} (o : WithW w.heap.size g N cap h n L rz w w3) {g3 cap3 m : Nat}
    (own : w3.ownsRow (w.heap.size + 3) 55 5 (.slice (some ⟨g3, 0, none⟩) m cap3) m (flatR (wset L k n))) (hm : m = (wset L k n).length) {w' : World}
    (hw : ∀ i, i ≠ w.heap.size → i ≠ w.heap.size + 1 + 1 → w'.heap[i]? = w3.heap[i]?) (hsz : w'.heap.size = w3.heap.size) (ho : w'.os = w3.os) (ht : w'.tape = w3.tape) (hu : w'.output = w3.output) :
    RL w' g3 (wset L k n) ∧ (wset L k n).length ≤ cap3 ∧ w.heap.size ≤ g3 ∧ Below w.heap.size w w' := by
  obtain ⟨hb, hlt⟩ := own.lt g3 rfl
  have hc : m ≤ cap3 := by
    rcases own.2 with ⟨e, _⟩ | ⟨g', c', cur, e, _, _, h1, _⟩
    · cases e
    · simp only [Value.slice.injEq, true_and] at e
      omega
  refine ⟨⟨by omega, fun j u hj => ?_⟩, by omega, by omega, ?_⟩
  · have hjl := (List.getElem?_eq_some_iff.1 hj).1
    rw [flatR_length] at hjl
    rw [World.cell?_of_block (a := ⟨g3, j, none⟩) (hw g3 (by omega) (by omega)), own.cellAt j (by omega)]
    exact hj
  · exact ⟨ho.trans o.below.os, ht.trans o.below.tape, hu.trans o.below.output, by rw [hsz]; exact o.below.size, fun i hi => (hw i (by omega) (by omega)).trans (o.below.block i hi)⟩

/-- The world at the end of with, and what it holds. -/
def WithFin (w3 : World) (s g3 m cap3 : Nat) (h : Hd) : World :=
  ((((((w3.setCell ⟨s, 4, none⟩ (.slice (some ⟨g3, 0, none⟩) m cap3)).setCell ⟨s + 1 + 1, 0, none⟩ (.int .i64 h.V)).setCell ⟨s + 1 + 1, 1, none⟩ (.int .i64 h.B)).setCell ⟨s + 1 + 1, 2, none⟩ (.int .i64 h.made)).setCell ⟨s + 1 + 1, 3, none⟩ (.int .i64 h.sweeps)).setCell ⟨s + 1 + 1, 4, none⟩ (.slice (some ⟨g3, 0, none⟩) m cap3))

theorem with_fin {w w3 : World} {g N cap k : Nat} {h : Hd} {n : RN} {L : List RN} {a0 a1 a2 a3 a4 : Value} (o : WithW w.heap.size g N cap h n L #[a0, a1, a2, a3, a4] w w3) {g3 cap3 m : Nat}
    (own : w3.ownsRow (w.heap.size + 3) 55 5 (.slice (some ⟨g3, 0, none⟩) m cap3) m (flatR (wset L k n))) (hm : m = (wset L k n).length) :
    (WithFin w3 w.heap.size g3 m cap3 h).heap[w.heap.size + 1 + 1]? = some (.cells #[.int .i64 h.V, .int .i64 h.B, .int .i64 h.made, .int .i64 h.sweeps, .slice (some ⟨g3, 0, none⟩) m cap3] 29 (0, 0)) ∧
    RL (WithFin w3 w.heap.size g3 m cap3 h) g3 (wset L k n) ∧ (wset L k n).length ≤ cap3 ∧ w.heap.size ≤ g3 ∧ Below w.heap.size w (WithFin w3 w.heap.size g3 m cap3 h) := by
  have hos : ∀ (W : World) (p : Addr) (v : Value), (W.setCell p v).os = W.os := fun _ _ _ => rfl
  have htp : ∀ (W : World) (p : Addr) (v : Value), (W.setCell p v).tape = W.tape := fun _ _ _ => rfl
  have hou : ∀ (W : World) (p : Addr) (v : Value), (W.setCell p v).output = W.output := fun _ _ _ => rfl
  refine ⟨?_, with_end (w' := WithFin w3 w.heap.size g3 m cap3 h) o own hm ?_ ?_ (by unfold WithFin; rw [hos, hos, hos, hos, hos, hos]) (by unfold WithFin; rw [htp, htp, htp, htp, htp, htp]) (by unfold WithFin; rw [hou, hou, hou, hou, hou, hou])⟩
  · show (WithFin w3 w.heap.size g3 m cap3 h).heap[w.heap.size + 1 + 1]? = _
    unfold WithFin
    have h0 : (w3.setCell ⟨w.heap.size, 4, none⟩ (.slice (some ⟨g3, 0, none⟩) m cap3)).heap[w.heap.size + 1 + 1]? = some (.cells #[a0, a1, a2, a3, a4] 29 (0, 0)) := (heap_setCell_other _ _ _ _ (by simp only; omega)).trans o.br
    have h1 := heap_setCell_same _ _ 0 _ _ (.int .i64 h.V) h0
    rw [show (#[a0, a1, a2, a3, a4] : Array Value).setIfInBounds 0 (.int .i64 h.V) = #[.int .i64 h.V, a1, a2, a3, a4] from rfl] at h1
    have h2 := heap_setCell_same _ _ 1 _ _ (.int .i64 h.B) h1
    rw [show (#[.int .i64 h.V, a1, a2, a3, a4] : Array Value).setIfInBounds 1 (.int .i64 h.B) = #[.int .i64 h.V, .int .i64 h.B, a2, a3, a4] from rfl] at h2
    have h3 := heap_setCell_same _ _ 2 _ _ (.int .i64 h.made) h2
    rw [show (#[.int .i64 h.V, .int .i64 h.B, a2, a3, a4] : Array Value).setIfInBounds 2 (.int .i64 h.made) = #[.int .i64 h.V, .int .i64 h.B, .int .i64 h.made, a3, a4] from rfl] at h3
    have h4 := heap_setCell_same _ _ 3 _ _ (.int .i64 h.sweeps) h3
    rw [show (#[.int .i64 h.V, .int .i64 h.B, .int .i64 h.made, a3, a4] : Array Value).setIfInBounds 3 (.int .i64 h.sweeps) = #[.int .i64 h.V, .int .i64 h.B, .int .i64 h.made, .int .i64 h.sweeps, a4] from rfl] at h4
    have h5 := heap_setCell_same _ _ 4 _ _ (.slice (some ⟨g3, 0, none⟩) m cap3) h4
    rw [show (#[.int .i64 h.V, .int .i64 h.B, .int .i64 h.made, .int .i64 h.sweeps, a4] : Array Value).setIfInBounds 4 (.slice (some ⟨g3, 0, none⟩) m cap3) = #[.int .i64 h.V, .int .i64 h.B, .int .i64 h.made, .int .i64 h.sweeps, .slice (some ⟨g3, 0, none⟩) m cap3] from rfl] at h5
    exact h5
  · intro i h1 h2
    unfold WithFin
    rw [heap_setCell_other _ _ _ _ h2, heap_setCell_other _ _ _ _ h2, heap_setCell_other _ _ _ _ h2, heap_setCell_other _ _ _ _ h2, heap_setCell_other _ _ _ _ h2, heap_setCell_other _ _ _ _ h1]
  · unfold WithFin; simp only [size_setCell]

set_option maxHeartbeats 4000000 in
set_option maxRecDepth 100000 in
theorem rwith_any {w : World} {g N cap k : Nat} {L : List RN} (h : Hd) (n : RN) (rl : RL w g L) (hN : L.length = N) (hcap : N ≤ cap) (hn : N ≤ 1000000) (hk : k ≤ N) :
    Calls Try.prog 39 #[rsV h g N cap, .int .i64 (k : Int), nodeR n] w (WithOut h L k n w) := by
  obtain ⟨i0, hi, hz0, hz1, hz2⟩ := info_parts info_rnode
  have HI := Lib.hid hi
  have HZ0 := Lib.hid hz0
  have HZ1 := Lib.hid hz1
  have HZ2 := Lib.hid hz2
  have HRL := Lib.hid rl
  have HN := Lib.hid hN
  have hgs := rl.lt
  have kc : (k : Int) ≤ (cap : Int) := by omega
  clear hi hz0 hz1 hz2 rl hN
  have W0 : Hid (WithW w.heap.size g N cap h n L #[.int .i64 0, .int .i64 0, .int .i64 0, .int .i64 0, .slice none 0 0] w (((w.alloc (.cells #[.int .i64 h.V, .int .i64 h.B, .int .i64 h.made, .int .i64 h.sweeps, .slice (some ⟨g, 0, none⟩) N cap] 29)).alloc (.cells #[.bool n.b, .int .i64 n.v, .int .i64 n.lo, .int .i64 n.hi, .int .i64 n.pins] 55)).alloc (.cells #[.int .i64 0, .int .i64 0, .int .i64 0, .int .i64 0, .slice none 0 0] 29))) := by
    have b1 := (Below.refl w.heap.size w).alloc (Nat.le_refl _) (.cells #[.int .i64 h.V, .int .i64 h.B, .int .i64 h.made, .int .i64 h.sweeps, .slice (some ⟨g, 0, none⟩) N cap] 29)
    have b2 := b1.alloc b1.size (.cells #[.bool n.b, .int .i64 n.v, .int .i64 n.lo, .int .i64 n.hi, .int .i64 n.pins] 55)
    have b3 := b2.alloc b2.size (.cells #[.int .i64 0, .int .i64 0, .int .i64 0, .int .i64 0, .slice none 0 0] 29)
    refine ⟨?_, ?_, ?_, HRL.out.keep b3, b3, by simp⟩
    · rw [Below.heap_alloc _ _ _ (by simp; omega), Below.heap_alloc _ _ _ (by simp)]
      exact heap_alloc_new w _
    · rw [Below.heap_alloc _ _ _ (by simp)]
      have := heap_alloc_new (w.alloc (.cells #[.int .i64 h.V, .int .i64 h.B, .int .i64 h.made, .int .i64 h.sweeps, .slice (some ⟨g, 0, none⟩) N cap] 29)) (.cells #[.bool n.b, .int .i64 n.v, .int .i64 n.lo, .int .i64 n.hi, .int .i64 n.pins] 55)
      simp only [World.size_alloc] at this
      exact this
    · have := heap_alloc_new ((w.alloc (.cells #[.int .i64 h.V, .int .i64 h.B, .int .i64 h.made, .int .i64 h.sweeps, .slice (some ⟨g, 0, none⟩) N cap] 29)).alloc (.cells #[.bool n.b, .int .i64 n.v, .int .i64 n.lo, .int .i64 n.hi, .int .i64 n.pins] 55)) (.cells #[.int .i64 0, .int .i64 0, .int .i64 0, .int .i64 0, .slice none 0 0] 29)
      simp only [World.size_alloc] at this
      exact this
  have HGS := Lib.hid hgs
  have hl1 : Hid ((flatR (L.take k)).length = k * 5) := by show _ = _; rw [flatR_length, List.length_take, Nat.min_eq_left (by have := HN.out; omega)]
  have mx1 : Hid (0 + k ≤ maxLen) := by show _ ≤ _; unfold maxLen; omega
  have mb1 : Hid ((0 + k) * 40 ≤ 140737488355328) := by show _ ≤ _; omega
  have mx2 : Hid (k + 1 ≤ maxLen) := by show _ ≤ _; unfold maxLen; omega
  have mb2 : Hid ((k + 1) * 40 ≤ 140737488355328) := by show _ ≤ _; omega
  have mx3 : Hid (k + 1 + (N - (k + 1)) ≤ maxLen) := by show _ ≤ _; unfold maxLen; omega
  have mb3 : Hid ((k + 1 + (N - (k + 1))) * 40 ≤ 140737488355328) := by show _ ≤ _; omega
  have OC1 : Hid (∀ u ∈ flatR (L.take k), u.oneCell' = true) := oneCell_flatR _
  have OC2 : Hid (∀ u ∈ cellsR n, u.oneCell' = true) := fun u hu => oneCell_flatR [n] u (by unfold flatR; simpa using hu)
  have OC3 : Hid (∀ u ∈ flatR (L.drop (k + 1)), u.oneCell' = true) := oneCell_flatR _
  have z0 := cell_of_row _ w.heap.size 4 _ _ _ W0.out.bs
  have hn' : (N : Int) ≤ 1000000 := by omega
  have hk' : (k : Int) ≤ N := by omega
  clear hgs hn hk
  unfold rsV nodeR
  go_enter Try.func39, Try.ntmps39
  by_cases hlt : k < N
  · have hl3 : Hid ((flatR (L.drop (k + 1))).length = (N - (k + 1)) * 5) := by show _ = _; rw [flatR_length, List.length_drop, HN.out]
    have hlt' : (k : Int) < N := by omega
    by_cases hkc : k + 1 = cap
    · subst hkc
      have kc3 : Hid (N = k + 1) := by show _ = _; omega
      have mx4 : Hid (k + 1 + 0 ≤ maxLen) := mx2.out
      have mb4 : Hid ((k + 1 + 0) * 40 ≤ 140737488355328) := mb2.out
      have EW : Hid (flatR (wset L k n) = flatR (L.take k) ++ cellsR n) := by
        show _ = _
        unfold wset
        rw [flatR_append, flatR_append, List.drop_eq_nil_of_le (by rw [HN.out]; omega)]
        show flatR (L.take k) ++ (cellsR n ++ []) ++ [] = _
        simp
      go_wp2_with (first
        | (at_builtin; refine wpList_append_own _ rfl (.tmp 8) (.tmp 12) 27 rfl (w.heap.size + 3) 55 i0 _ 5 40 Try.underlying27 HI.out HZ0.out HZ1.out HZ2.out rfl (by omega) (.slice none 0 0) 0 [] rfl (World.ownsRow_nil _ _ _ _) ⟨g, 0, none⟩ k (k + 1) (flatR (L.take k)) rfl hl1.out (fun j u hu => by rw [add_g, Nat.zero_add]; exact W0.out.rl.cell j u (take_flat L k j u hu)) OC1.out mx1.out mb1.out W0.out.size ?_
           intro v1 w1 hown1 hgrow1 _
           have O1 : Hid (w1.ownsRow (w.heap.size + 3) 55 5 v1 k (flatR (L.take k))) := by
             rw [Nat.zero_add, List.nil_append] at hown1; exact hown1
           have W1 := Lib.hid (W0.out.grown HGS.out hgrow1 (fun i hi => by cases hi))
           have y0 := cell_of_row _ w.heap.size 4 _ _ _ W1.out.bs
           have y1 := cell_of_row _ (w.heap.size + 1) 0 _ _ _ W1.out.bn
           have y2 := cell_of_row _ (w.heap.size + 1) 1 _ _ _ W1.out.bn
           have y3 := cell_of_row _ (w.heap.size + 1) 2 _ _ _ W1.out.bn
           have y4 := cell_of_row _ (w.heap.size + 1) 3 _ _ _ W1.out.bn
           have y5 := cell_of_row _ (w.heap.size + 1) 4 _ _ _ W1.out.bn
           clear hown1 hgrow1)
        | (at_builtin; refine wpList_append_own _ rfl (.tmp 14) (.tmp 16) 27 rfl (w.heap.size + 3) 55 i0 _ 5 40 Try.underlying27 HI.out HZ0.out HZ1.out HZ2.out rfl (by omega) v1 k (flatR (L.take k)) rfl (O1.out.alloc _) ⟨w1.heap.size, 0, none⟩ 1 1 (cellsR n) rfl rfl (World.news_of_block (cs := #[.bool n.b, .int .i64 n.v, .int .i64 n.lo, .int .i64 n.hi, .int .i64 n.pins]) (t := 55) (fr := (0, 0)) (heap_alloc_new w1 _)) OC2.out mx2.out mb2.out (by have := W1.out.size; simp; omega) ?_
           intro v2 w2 hown2 hgrow2 _
           have O2 := Lib.hid hown2
           have W2 := Lib.hid ((W1.out.alloc HGS.out _).grown HGS.out hgrow2 (fun i hi => (O1.out.lt i hi).1))
           clear hown2 hgrow2 y0 y1 y2 y3 y4 y5
           have x4 := cell_of_row _ w.heap.size 4 _ _ _ W2.out.bs)
        | (at_builtin; refine wpList_append_own _ rfl (.tmp 23) (.tmp 28) 27 rfl (w.heap.size + 3) 55 i0 _ 5 40 Try.underlying27 HI.out HZ0.out HZ1.out HZ2.out rfl (by omega) v2 (k + 1) (flatR (L.take k) ++ cellsR n) rfl O2.out ⟨g, 0, none⟩ 0 0 [] rfl rfl (fun j u hu => by simp at hu) (fun u hu => by cases hu) mx4.out mb4.out W2.out.size ?_
           intro v3 w3 hown3 hgrow3 _
           have W3 := Lib.hid (W2.out.grown HGS.out hgrow3 (fun i hi => (O2.out.lt i hi).1))
           have hown3 : w3.ownsRow (w.heap.size + 3) 55 5 v3 (k + 1) (flatR (wset L k n)) := by
             rw [EW.out]; rw [Nat.add_zero, List.append_nil] at hown3; exact hown3
           obtain ⟨g3, cap3, rfl, _, _⟩ := hown3.form (by omega)
           have O3 := Lib.hid hown3
           clear hown3 hgrow3 x4
           have t0 := cell_of_row _ w.heap.size 0 _ _ _ W3.out.bs
           have t1 := cell_of_row _ w.heap.size 1 _ _ _ W3.out.bs
           have t2 := cell_of_row _ w.heap.size 2 _ _ _ W3.out.bs
           have t3 := cell_of_row _ w.heap.size 3 _ _ _ W3.out.bs
           have t4 := cell_of_row _ w.heap.size 4 _ _ _ W3.out.bs
           have tf := fun o => frozen_of_row _ w.heap.size o _ _ W3.out.bs
           have r0 := cell_of_row _ (w.heap.size + 1 + 1) 0 _ _ _ W3.out.br
           have r1 := cell_of_row _ (w.heap.size + 1 + 1) 1 _ _ _ W3.out.br
           have r2 := cell_of_row _ (w.heap.size + 1 + 1) 2 _ _ _ W3.out.br
           have r3 := cell_of_row _ (w.heap.size + 1 + 1) 3 _ _ _ W3.out.br
           have r4 := cell_of_row _ (w.heap.size + 1 + 1) 4 _ _ _ W3.out.br
           have rf := fun o => frozen_of_row _ (w.heap.size + 1 + 1) o _ _ W3.out.br
           simp at t0 t1 t2 t3 t4 r0 r1 r2 r3 r4))
      have hm : Hid (k + 1 = (wset L k n).length) := by show _ = _; rw [wset_length L k n (by rw [HN.out]; omega), HN.out, if_pos hlt]; omega
      have FIN := with_fin W3.out O3.out hm.out
      change bodyPost Try.prog _ _ _ _ (WithFin w3 w.heap.size g3 (k + 1) cap3 h)
      revert FIN
      generalize WithFin w3 w.heap.size g3 (k + 1) cap3 h = wf
      intro FIN
      obtain ⟨hf, F1, F2, F3, F4⟩ := FIN
      have e0 := cell_of_row wf _ 0 _ _ _ hf
      have e1 := cell_of_row wf _ 1 _ _ _ hf
      have e2 := cell_of_row wf _ 2 _ _ _ hf
      have e3 := cell_of_row wf _ 3 _ _ _ hf
      have e4 := cell_of_row wf _ 4 _ _ _ hf
      simp at e0 e1 e2 e3 e4
      have HF := Lib.hid hm.out
      clear t0 t1 t2 t3 t4 tf r0 r1 r2 r3 r4 rf hf
      refine bodyPost_ret (v := .agg #[.int .i64 h.V, .int .i64 h.B, .int .i64 h.made, .int .i64 h.sweeps, .slice (some ⟨g3, 0, none⟩) (k + 1) cap3]) (by simp [results, Try.results39, go_sem, e0, e1, e2, e3, e4]) rfl ?_
      rw [HF.out]
      exact ⟨g3, cap3, rfl, F1, F2, F3, F4⟩
    · have kc2 : (k : Int) + 1 < cap := by omega
      go_wp2_with (first
        | (at_builtin; refine wpList_append_own _ rfl (.tmp 8) (.tmp 12) 27 rfl (w.heap.size + 3) 55 i0 _ 5 40 Try.underlying27 HI.out HZ0.out HZ1.out HZ2.out rfl (by omega) (.slice none 0 0) 0 [] rfl (World.ownsRow_nil _ _ _ _) ⟨g, 0, none⟩ k cap (flatR (L.take k)) rfl hl1.out (fun j u hu => by rw [add_g, Nat.zero_add]; exact W0.out.rl.cell j u (take_flat L k j u hu)) OC1.out mx1.out mb1.out W0.out.size ?_
           intro v1 w1 hown1 hgrow1 _
           have O1 : Hid (w1.ownsRow (w.heap.size + 3) 55 5 v1 k (flatR (L.take k))) := by
             rw [Nat.zero_add, List.nil_append] at hown1; exact hown1
           have W1 := Lib.hid (W0.out.grown HGS.out hgrow1 (fun i hi => by cases hi))
           have y0 := cell_of_row _ w.heap.size 4 _ _ _ W1.out.bs
           have y1 := cell_of_row _ (w.heap.size + 1) 0 _ _ _ W1.out.bn
           have y2 := cell_of_row _ (w.heap.size + 1) 1 _ _ _ W1.out.bn
           have y3 := cell_of_row _ (w.heap.size + 1) 2 _ _ _ W1.out.bn
           have y4 := cell_of_row _ (w.heap.size + 1) 3 _ _ _ W1.out.bn
           have y5 := cell_of_row _ (w.heap.size + 1) 4 _ _ _ W1.out.bn
           clear hown1 hgrow1)
        | (at_builtin; refine wpList_append_own _ rfl (.tmp 14) (.tmp 16) 27 rfl (w.heap.size + 3) 55 i0 _ 5 40 Try.underlying27 HI.out HZ0.out HZ1.out HZ2.out rfl (by omega) v1 k (flatR (L.take k)) rfl (O1.out.alloc _) ⟨w1.heap.size, 0, none⟩ 1 1 (cellsR n) rfl rfl (World.news_of_block (cs := #[.bool n.b, .int .i64 n.v, .int .i64 n.lo, .int .i64 n.hi, .int .i64 n.pins]) (t := 55) (fr := (0, 0)) (heap_alloc_new w1 _)) OC2.out mx2.out mb2.out (by have := W1.out.size; simp; omega) ?_
           intro v2 w2 hown2 hgrow2 _
           have O2 := Lib.hid hown2
           have W2 := Lib.hid ((W1.out.alloc HGS.out _).grown HGS.out hgrow2 (fun i hi => (O1.out.lt i hi).1))
           clear hown2 hgrow2 y0 y1 y2 y3 y4 y5
           have x4 := cell_of_row _ w.heap.size 4 _ _ _ W2.out.bs)
        | (at_builtin; refine wpList_append_own _ rfl (.tmp 23) (.tmp 28) 27 rfl (w.heap.size + 3) 55 i0 _ 5 40 Try.underlying27 HI.out HZ0.out HZ1.out HZ2.out rfl (by omega) v2 (k + 1) (flatR (L.take k) ++ cellsR n) rfl O2.out ⟨g, (k + 1) * 5, none⟩ (N - (k + 1)) (cap - (k + 1)) (flatR (L.drop (k + 1))) rfl hl3.out (fun j u hu => by rw [add_g]; exact W2.out.rl.cell _ u (drop_flat L (k + 1) (by rw [HN.out]; omega) j u hu)) OC3.out mx3.out mb3.out W2.out.size ?_
           intro v3 w3 hown3 hgrow3 _
           obtain ⟨g3, cap3, rfl, _, _⟩ := hown3.form (by omega)
           have W3 := Lib.hid (W2.out.grown HGS.out hgrow3 (fun i hi => (O2.out.lt i hi).1))
           have O3 : Hid (w3.ownsRow (w.heap.size + 3) 55 5 (.slice (some ⟨g3, 0, none⟩) (k + 1 + (N - (k + 1))) cap3) (k + 1 + (N - (k + 1))) (flatR (wset L k n))) := by
             have e : flatR (wset L k n) = flatR (L.take k) ++ cellsR n ++ flatR (L.drop (k + 1)) := by
               unfold wset; rw [flatR_append, flatR_append]; rfl
             rw [e]; exact hown3
           clear hown3 hgrow3 x4
           have t0 := cell_of_row _ w.heap.size 0 _ _ _ W3.out.bs
           have t1 := cell_of_row _ w.heap.size 1 _ _ _ W3.out.bs
           have t2 := cell_of_row _ w.heap.size 2 _ _ _ W3.out.bs
           have t3 := cell_of_row _ w.heap.size 3 _ _ _ W3.out.bs
           have t4 := cell_of_row _ w.heap.size 4 _ _ _ W3.out.bs
           have tf := fun o => frozen_of_row _ w.heap.size o _ _ W3.out.bs
           have r0 := cell_of_row _ (w.heap.size + 1 + 1) 0 _ _ _ W3.out.br
           have r1 := cell_of_row _ (w.heap.size + 1 + 1) 1 _ _ _ W3.out.br
           have r2 := cell_of_row _ (w.heap.size + 1 + 1) 2 _ _ _ W3.out.br
           have r3 := cell_of_row _ (w.heap.size + 1 + 1) 3 _ _ _ W3.out.br
           have r4 := cell_of_row _ (w.heap.size + 1 + 1) 4 _ _ _ W3.out.br
           have rf := fun o => frozen_of_row _ (w.heap.size + 1 + 1) o _ _ W3.out.br
           simp at t0 t1 t2 t3 t4 r0 r1 r2 r3 r4))
      have hm : Hid (k + 1 + (N - (k + 1)) = (wset L k n).length) := by show _ = _; rw [wset_length L k n (by rw [HN.out]; omega), HN.out, if_pos hlt]; omega
      have FIN := with_fin W3.out O3.out hm.out
      change bodyPost Try.prog _ _ _ _ (WithFin w3 w.heap.size g3 (k + 1 + (N - (k + 1))) cap3 h)
      revert FIN
      generalize WithFin w3 w.heap.size g3 (k + 1 + (N - (k + 1))) cap3 h = wf
      intro FIN
      obtain ⟨hf, F1, F2, F3, F4⟩ := FIN
      have e0 := cell_of_row wf _ 0 _ _ _ hf
      have e1 := cell_of_row wf _ 1 _ _ _ hf
      have e2 := cell_of_row wf _ 2 _ _ _ hf
      have e3 := cell_of_row wf _ 3 _ _ _ hf
      have e4 := cell_of_row wf _ 4 _ _ _ hf
      simp at e0 e1 e2 e3 e4
      have HF := Lib.hid hm.out
      clear t0 t1 t2 t3 t4 tf r0 r1 r2 r3 r4 rf hf
      refine bodyPost_ret (v := .agg #[.int .i64 h.V, .int .i64 h.B, .int .i64 h.made, .int .i64 h.sweeps, .slice (some ⟨g3, 0, none⟩) (k + 1 + (N - (k + 1))) cap3]) (by simp [results, Try.results39, go_sem, e0, e1, e2, e3, e4]) rfl ?_
      rw [HF.out]
      exact ⟨g3, cap3, rfl, F1, F2, F3, F4⟩
  · obtain rfl : k = N := by omega
    have hd : decide ((k : Int) < (k : Int)) = false := by simp
    have EW : Hid (flatR (wset L k n) = flatR (L.take k) ++ cellsR n) := by
      show _ = _
      unfold wset
      rw [flatR_append, flatR_append, List.drop_eq_nil_of_le (by rw [HN.out]; omega)]
      show flatR (L.take k) ++ (cellsR n ++ []) ++ [] = _
      simp
    go_wp2_with (first
      | (at_builtin; refine wpList_append_own _ rfl (.tmp 8) (.tmp 12) 27 rfl (w.heap.size + 3) 55 i0 _ 5 40 Try.underlying27 HI.out HZ0.out HZ1.out HZ2.out rfl (by omega) (.slice none 0 0) 0 [] rfl (World.ownsRow_nil _ _ _ _) ⟨g, 0, none⟩ k cap (flatR (L.take k)) rfl hl1.out (fun j u hu => by rw [add_g, Nat.zero_add]; exact W0.out.rl.cell j u (take_flat L k j u hu)) OC1.out mx1.out mb1.out W0.out.size ?_
         intro v1 w1 hown1 hgrow1 _
         have O1 : Hid (w1.ownsRow (w.heap.size + 3) 55 5 v1 k (flatR (L.take k))) := by
           rw [Nat.zero_add, List.nil_append] at hown1; exact hown1
         have W1 := Lib.hid (W0.out.grown HGS.out hgrow1 (fun i hi => by cases hi))
         have y0 := cell_of_row _ w.heap.size 4 _ _ _ W1.out.bs
         have y1 := cell_of_row _ (w.heap.size + 1) 0 _ _ _ W1.out.bn
         have y2 := cell_of_row _ (w.heap.size + 1) 1 _ _ _ W1.out.bn
         have y3 := cell_of_row _ (w.heap.size + 1) 2 _ _ _ W1.out.bn
         have y4 := cell_of_row _ (w.heap.size + 1) 3 _ _ _ W1.out.bn
         have y5 := cell_of_row _ (w.heap.size + 1) 4 _ _ _ W1.out.bn
         clear hown1 hgrow1)
      | (at_builtin; refine wpList_append_own _ rfl (.tmp 14) (.tmp 16) 27 rfl (w.heap.size + 3) 55 i0 _ 5 40 Try.underlying27 HI.out HZ0.out HZ1.out HZ2.out rfl (by omega) v1 k (flatR (L.take k)) rfl (O1.out.alloc _) ⟨w1.heap.size, 0, none⟩ 1 1 (cellsR n) rfl rfl (World.news_of_block (cs := #[.bool n.b, .int .i64 n.v, .int .i64 n.lo, .int .i64 n.hi, .int .i64 n.pins]) (t := 55) (fr := (0, 0)) (heap_alloc_new w1 _)) OC2.out mx2.out mb2.out (by have := W1.out.size; simp; omega) ?_
         intro v2 w2 hown2 hgrow2 _
         obtain ⟨g3, cap3, rfl, _, _⟩ := hown2.form (by omega)
         have O3 : Hid (w2.ownsRow (w.heap.size + 3) 55 5 (.slice (some ⟨g3, 0, none⟩) (k + 1) cap3) (k + 1) (flatR (wset L k n))) := by rw [EW.out]; exact hown2
         have W2 := Lib.hid ((W1.out.alloc HGS.out _).grown HGS.out hgrow2 (fun i hi => (O1.out.lt i hi).1))
         clear hown2 hgrow2 y0 y1 y2 y3 y4 y5
         have x4 := cell_of_row _ w.heap.size 4 _ _ _ W2.out.bs
         have t0 := cell_of_row _ w.heap.size 0 _ _ _ W2.out.bs
         have t1 := cell_of_row _ w.heap.size 1 _ _ _ W2.out.bs
         have t2 := cell_of_row _ w.heap.size 2 _ _ _ W2.out.bs
         have t3 := cell_of_row _ w.heap.size 3 _ _ _ W2.out.bs
         have t4 := cell_of_row _ w.heap.size 4 _ _ _ W2.out.bs
         have tf := fun o => frozen_of_row _ w.heap.size o _ _ W2.out.bs
         have r0 := cell_of_row _ (w.heap.size + 1 + 1) 0 _ _ _ W2.out.br
         have r1 := cell_of_row _ (w.heap.size + 1 + 1) 1 _ _ _ W2.out.br
         have r2 := cell_of_row _ (w.heap.size + 1 + 1) 2 _ _ _ W2.out.br
         have r3 := cell_of_row _ (w.heap.size + 1 + 1) 3 _ _ _ W2.out.br
         have r4 := cell_of_row _ (w.heap.size + 1 + 1) 4 _ _ _ W2.out.br
         have rf := fun o => frozen_of_row _ (w.heap.size + 1 + 1) o _ _ W2.out.br
         simp at t0 t1 t2 t3 t4 r0 r1 r2 r3 r4))
    have hm : Hid (k + 1 = (wset L k n).length) := by show _ = _; rw [wset_length L k n (by rw [HN.out]; omega), HN.out, if_neg hlt]
    have FIN := with_fin W2.out O3.out hm.out
    change bodyPost Try.prog _ _ _ _ (WithFin w2 w.heap.size g3 (k + 1) cap3 h)
    revert FIN
    generalize WithFin w2 w.heap.size g3 (k + 1) cap3 h = wf
    intro FIN
    obtain ⟨hf, F1, F2, F3, F4⟩ := FIN
    have e0 := cell_of_row wf _ 0 _ _ _ hf
    have e1 := cell_of_row wf _ 1 _ _ _ hf
    have e2 := cell_of_row wf _ 2 _ _ _ hf
    have e3 := cell_of_row wf _ 3 _ _ _ hf
    have e4 := cell_of_row wf _ 4 _ _ _ hf
    simp at e0 e1 e2 e3 e4
    have HF := Lib.hid hm.out
    clear t0 t1 t2 t3 t4 tf r0 r1 r2 r3 r4 rf hf
    refine bodyPost_ret (v := .agg #[.int .i64 h.V, .int .i64 h.B, .int .i64 h.made, .int .i64 h.sweeps, .slice (some ⟨g3, 0, none⟩) (k + 1) cap3]) (by simp [results, Try.results39, go_sem, e0, e1, e2, e3, e4]) rfl ?_
    rw [HF.out]
    exact ⟨g3, cap3, rfl, F1, F2, F3, F4⟩
end Go.Proofs.Yteeffabmafakiaa
