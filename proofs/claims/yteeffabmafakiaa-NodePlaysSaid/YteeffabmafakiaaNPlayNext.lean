/- Layer 3, NodePlays: from one round's head to the next. -/
import Derived.Test.YteeffabmafakiaaNPlayHead
namespace Go.Proofs.Yteeffabmafakiaa
open Go.ChangeShapes Go.WideShapes Go.ChangeAt Go.RowKit

/-- A variable of the document's store is not the block of its nodes. -/
theorem RS.not_var {w : World} {g N cap b : Nat} {cs : List Nd} {z : Int} {r : List Value} {t : TypeId} (rs : RS w g N cap cs) (hN : 0 < N) (hb : w.heap[b]? = some (.cells (.int .i64 z :: r).toArray t (0, 0))) : g ≠ b := by
  rintro rfl
  have h0 := (rs.rl.cells (refL_get cs N 0 hN)).1
  have h1 := cell_of_row _ g 0 _ _ _ hb
  simp only [Nat.zero_mul] at h0
  rw [h0] at h1
  simp at h1

theorem PlW.next {W w0 w4 w5 : World} {m m' : Mem} {h h' : Hd} {cs cs' : List Nd} {g N cap g' N' cap' gq nx : Nat} (p : PlW W m h cs g N cap gq w0) (hn : Next m m' w0 w4) (bo : Both w4 m' h' cs' g' N' cap')
    (ht : Turn (fun i => i = nx) w4 w5) (hno : ¬ m'.own nx) (hng : g' ≠ nx) (hnl : W.heap.size ≤ nx) (hnq : gq ≠ nx) : PlW W m' h' cs' g' N' cap' gq (Fin5 w5 gq h' g' N' cap') := by
  have gl : gq < w0.heap.size := (Array.getElem?_eq_some_iff.1 p.q).1
  have q4 := (hn.turn.block gq gl p.gn).trans p.q
  have gl4 : gq < w4.heap.size := (Array.getElem?_eq_some_iff.1 q4).1
  have q5 := (ht.block gq gl4 hnq).trans q4
  have gn' : ¬ m'.own gq := hn.not_own gl p.gn
  have hN0 : 0 < N' := by have := bo.st.good.len; have := bo.rs.le; omega
  have hgq : g' ≠ gq := bo.rs.not_var (z := h.V) (r := [.int .i64 h.B, .int .i64 h.made, .int .i64 h.sweeps, .slice (some ⟨g, 0, none⟩) N cap]) hN0 q4
  obtain ⟨hb4, ho4⟩ := hn.to_below p.below p.own p.below.size
  have hb5 := Turn.to_below hb4 ht (fun i hi => by omega) hb4.size
  have ft := fin5_turn w5 gq h' g' N' cap'
  refine ⟨⟨(bo.st.apart ht (fun i q e => hno (e ▸ q))).apart ft (fun i q e => gn' (e ▸ q)), (bo.rs.turn ht hng).turn ft hgq, bo.apart⟩, fin5 q5, ?_, ho4, p.gl, gn'⟩
  exact Turn.to_below hb5 ft (fun i hi => by have := p.gl; omega) hb5.size

/-- The call came first: next is the last block. -/
theorem PlW.next_new {W w0 w4 : World} {m m' : Mem} {h h' : Hd} {cs cs' : List Nd} {g N cap g' N' cap' gq : Nat} (p : PlW W m h cs g N cap gq w0) (hn : Next m m' w0 w4) (bo : Both w4 m' h' cs' g' N' cap') (o : Obj) : PlW W m' h' cs' g' N' cap' gq (Fin5 (w4.alloc o) gq h' g' N' cap') := by
  have gl : gq < w0.heap.size := (Array.getElem?_eq_some_iff.1 p.q).1
  have gl4 : gq < w4.heap.size := Nat.lt_of_lt_of_le gl hn.turn.size
  exact p.next hn bo (nx := w4.heap.size) (Turn.of_below ((Below.refl _ _).alloc (Nat.le_refl _) o)) (fun q => by have := bo.st.own_lt _ q; omega) (by have := bo.rs.rl.lt; omega) (Nat.le_trans p.below.size hn.turn.size) (by omega)
end Go.Proofs.Yteeffabmafakiaa
