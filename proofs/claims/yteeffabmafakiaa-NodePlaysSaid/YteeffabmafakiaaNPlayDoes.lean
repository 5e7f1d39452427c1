/- Layer 3: does. -/
import Derived.Test.YteeffabmafakiaaNPlaySim
namespace Go.Proofs.Yteeffabmafakiaa
open Go.ChangeShapes Go.WideShapes Go.ChangeAt Go.RowKit

def opV (k a b c : Int) (sl : Value) : Value := .agg #[.int .i64 k, .int .i64 a, .int .i64 b, .int .i64 c, sl]

def DoesOut (m : Mem) (h : Hd) (N : Nat) (w : World) (e : Ending) (w' : World) : Prop :=
  ∃ sv, e = .returned (.tuple #[sv, .bool true]) ∧ Step m h N w w' sv

/-- The three variables of does. -/
structure DW (s g N cap : Nat) (h : Hd) (K a b c : Int) (sl : Value) (w : World) : Prop where
  bq : w.heap[s]? = some (.cells #[.int .i64 h.V, .int .i64 h.B, .int .i64 h.made, .int .i64 h.sweeps, .slice (some ⟨g, 0, none⟩) N cap] 29 (0, 0))
  bo : w.heap[s + 1]? = some (.cells #[.int .i64 K, .int .i64 a, .int .i64 b, .int .i64 c, sl] 37 (0, 0))
  br : w.heap[s + 1 + 1]? = some (.cells #[.int .i64 0, .int .i64 0, .int .i64 0, .int .i64 0, .slice none 0 0] 29 (0, 0))
  size : s + 3 ≤ w.heap.size

theorem DW.turn {s g N cap : Nat} {h : Hd} {K a b c : Int} {sl : Value} {w w' : World} {own : Nat → Prop} (d : DW s g N cap h K a b c sl w) (ht : Turn own w w') (ho : ∀ i, own i → i < s) : DW s g N cap h K a b c sl w' :=
  ⟨(ht.block s (by have := d.size; omega) (fun q => by have := ho _ q; omega)).trans d.bq, (ht.block (s + 1) (by have := d.size; omega) (fun q => by have := ho _ q; omega)).trans d.bo, (ht.block (s + 1 + 1) (by have := d.size; omega) (fun q => by have := ho _ q; omega)).trans d.br, Nat.le_trans d.size ht.size⟩
theorem DW.below {s g N cap : Nat} {h : Hd} {K a b c : Int} {sl : Value} {w w' : World} (d : DW s g N cap h K a b c sl w) (hb : Below w.heap.size w w') : DW s g N cap h K a b c sl w' :=
  d.turn (own := fun _ => False) (Turn.of_below hb) (fun _ q => q.elim)

theorem DW.start (w : World) (g N cap : Nat) (h : Hd) (K a b c : Int) (A : Option Addr) (n c2 : Nat) : DW w.heap.size g N cap h K a b c (.slice A n c2) (((w.alloc (.cells #[.int .i64 h.V, .int .i64 h.B, .int .i64 h.made, .int .i64 h.sweeps, .slice (some ⟨g, 0, none⟩) N cap] 29)).alloc (.cells #[.int .i64 K, .int .i64 a, .int .i64 b, .int .i64 c, .slice A n c2] 37)).alloc (.cells #[.int .i64 0, .int .i64 0, .int .i64 0, .int .i64 0, .slice none 0 0] 29)) ∧ Below w.heap.size w (((w.alloc (.cells #[.int .i64 h.V, .int .i64 h.B, .int .i64 h.made, .int .i64 h.sweeps, .slice (some ⟨g, 0, none⟩) N cap] 29)).alloc (.cells #[.int .i64 K, .int .i64 a, .int .i64 b, .int .i64 c, .slice A n c2] 37)).alloc (.cells #[.int .i64 0, .int .i64 0, .int .i64 0, .int .i64 0, .slice none 0 0] 29)) ∧ (((w.alloc (.cells #[.int .i64 h.V, .int .i64 h.B, .int .i64 h.made, .int .i64 h.sweeps, .slice (some ⟨g, 0, none⟩) N cap] 29)).alloc (.cells #[.int .i64 K, .int .i64 a, .int .i64 b, .int .i64 c, .slice A n c2] 37)).alloc (.cells #[.int .i64 0, .int .i64 0, .int .i64 0, .int .i64 0, .slice none 0 0] 29)).heap.size = w.heap.size + 3 := by
  have b1 := (Below.refl w.heap.size w).alloc (Nat.le_refl _) (.cells #[.int .i64 h.V, .int .i64 h.B, .int .i64 h.made, .int .i64 h.sweeps, .slice (some ⟨g, 0, none⟩) N cap] 29)
  have b2 := b1.alloc b1.size (.cells #[.int .i64 K, .int .i64 a, .int .i64 b, .int .i64 c, .slice A n c2] 37)
  have b3 := b2.alloc b2.size (.cells #[.int .i64 0, .int .i64 0, .int .i64 0, .int .i64 0, .slice none 0 0] 29)
  refine ⟨⟨?_, ?_, ?_, by simp⟩, b3, by simp⟩
  · rw [Below.heap_alloc _ _ _ (by simp; omega), Below.heap_alloc _ _ _ (by simp)]
    exact heap_alloc_new w _
  · rw [Below.heap_alloc _ _ _ (by simp)]
    have := heap_alloc_new (w.alloc (.cells #[.int .i64 h.V, .int .i64 h.B, .int .i64 h.made, .int .i64 h.sweeps, .slice (some ⟨g, 0, none⟩) N cap] 29)) (.cells #[.int .i64 K, .int .i64 a, .int .i64 b, .int .i64 c, .slice A n c2] 37)
    simp only [World.size_alloc] at this
    exact this
  · have := heap_alloc_new ((w.alloc (.cells #[.int .i64 h.V, .int .i64 h.B, .int .i64 h.made, .int .i64 h.sweeps, .slice (some ⟨g, 0, none⟩) N cap] 29)).alloc (.cells #[.int .i64 K, .int .i64 a, .int .i64 b, .int .i64 c, .slice A n c2] 37)) (.cells #[.int .i64 0, .int .i64 0, .int .i64 0, .int .i64 0, .slice none 0 0] 29)
    simp only [World.size_alloc] at this
    exact this

theorem Step.below {w u u' : World} {m : Mem} {h : Hd} {N : Nat} {sv : Value} (st : Step m h N w u sv) (hb : Below u.heap.size u u') : Step m h N w u' sv := by
  obtain ⟨m', h2, cs', g2, N2, cap2, he, bo, e1, e2, e3, e4, e5, e6, hn⟩ := st
  exact ⟨m', h2, cs', g2, N2, cap2, he, bo.keep hb, e1, e2, e3, e4, e5, e6, ⟨hn.turn.below hb, hn.s, hn.own⟩⟩

theorem Step.close {w wA u : World} {m : Mem} {h h' : Hd} {N g' N' cap' : Nat} (st : Step m h N wA u (rsV h' g' N' cap')) (hb : Below w.heap.size w wA) (ho : ∀ i, m.own i → i < w.heap.size) (hsz : w.heap.size + 3 ≤ wA.heap.size)
    (br : u.heap[w.heap.size + 1 + 1]? = some (.cells #[.int .i64 0, .int .i64 0, .int .i64 0, .int .i64 0, .slice none 0 0] 29 (0, 0))) :
    (Fin5 u (w.heap.size + 1 + 1) h' g' N' cap').heap[w.heap.size + 1 + 1]? = some (.cells #[.int .i64 h'.V, .int .i64 h'.B, .int .i64 h'.made, .int .i64 h'.sweeps, .slice (some ⟨g', 0, none⟩) N' cap'] 29 (0, 0)) ∧
    Step m h N w (Fin5 u (w.heap.size + 1 + 1) h' g' N' cap') (rsV h' g' N' cap') := by
  have ft := fin5_turn u (w.heap.size + 1 + 1) h' g' N' cap'
  refine ⟨fin5 br, ?_⟩
  obtain ⟨m', h2, cs', g2, N2, cap2, he, bo, e1, e2, e3, e4, e5, e6, hn⟩ := st
  have he2 := he
  unfold rsV at he2
  simp only [Value.agg.injEq, Array.mk.injEq, List.cons.injEq, Value.int.injEq, Value.slice.injEq, Option.some.injEq, Addr.mk.injEq, and_true, true_and] at he2
  obtain ⟨_, _, _, _, rfl, rfl, rfl⟩ := he2
  have hg : g' ≠ w.heap.size + 1 + 1 := by
    rintro rfl
    have h0 := (bo.rs.rl.cells (refL_get cs' N' 0 (by have := bo.st.good.len; have := bo.rs.le; omega))).1
    have h1 := cell_of_row _ (w.heap.size + 1 + 1) 0 _ _ _ br
    simp only [Nat.zero_mul] at h0
    rw [h0] at h1
    simp at h1
  refine ⟨m', h2, cs', g', N', cap', he, ⟨bo.st.apart ft (fun i q q2 => ?_), bo.rs.turn ft hg, bo.apart⟩, e1, e2, e3, e4, e5, e6, ⟨?_, hn.s, fun i q => ?_⟩⟩
  · subst q2
    rcases hn.own _ q with q | q
    · have := ho _ q; omega
    · omega
  · refine (((Turn.of_below hb).trans hn.turn (fun i q => .inl q)).trans ft (fun i q => .inr (by omega)))
  · rcases hn.own i q with q | q
    · exact .inl q
    · exact .inr (by omega)

set_option maxHeartbeats 4000000 in
set_option maxRecDepth 100000 in
theorem does_node {w : World} {m : Mem} {h : Hd} {cs : List Nd} {g N cap : Nat} (bo : Both w m h cs g N cap) (a b c : Int) (A : Option Addr) (n c2 : Nat) :
    Calls Try.prog 7 #[ptrV m.s, rsV h g N cap, opV 2 a b c (.slice A n c2)] w (DoesOut m h N w) := by
  have ST := DW.start w g N cap h 2 a b c A n c2
  have W0 := Lib.hid ST.1
  have BW := Lib.hid ST.2.1
  have SZ := Lib.hid ST.2.2
  have BA := Lib.hid (bo.keep BW.out)
  have OL := Lib.hid bo.st.own_lt
  clear bo ST
  unfold opV rsV
  go_enter Try.func7, Try.ntmps7
  go_wp2_with fail
  refine (node_sim BA.out a).mono ?_
  rintro e w2 ⟨x1, x2, x3, x4, rfl, hb2, hr⟩
  have D2 := Lib.hid (W0.out.below hb2)
  have a0 := cell_of_row _ (w.heap.size) 0 _ _ _ D2.out.bq
  have a1 := cell_of_row _ (w.heap.size) 1 _ _ _ D2.out.bq
  have a2 := cell_of_row _ (w.heap.size) 2 _ _ _ D2.out.bq
  have a3 := cell_of_row _ (w.heap.size) 3 _ _ _ D2.out.bq
  have a4 := cell_of_row _ (w.heap.size) 4 _ _ _ D2.out.bq
  have af := fun o => frozen_of_row _ (w.heap.size) o _ _ D2.out.bq
  simp at a0 a1 a2 a3 a4
  have b0 := cell_of_row _ (w.heap.size + 1) 0 _ _ _ D2.out.bo
  have b1 := cell_of_row _ (w.heap.size + 1) 1 _ _ _ D2.out.bo
  have b2 := cell_of_row _ (w.heap.size + 1) 2 _ _ _ D2.out.bo
  have b3 := cell_of_row _ (w.heap.size + 1) 3 _ _ _ D2.out.bo
  have b4 := cell_of_row _ (w.heap.size + 1) 4 _ _ _ D2.out.bo
  have bf := fun o => frozen_of_row _ (w.heap.size + 1) o _ _ D2.out.bo
  simp at b0 b1 b2 b3 b4
  have r0 := cell_of_row _ (w.heap.size + 1 + 1) 0 _ _ _ D2.out.br
  have r1 := cell_of_row _ (w.heap.size + 1 + 1) 1 _ _ _ D2.out.br
  have r2 := cell_of_row _ (w.heap.size + 1 + 1) 2 _ _ _ D2.out.br
  have r3 := cell_of_row _ (w.heap.size + 1 + 1) 3 _ _ _ D2.out.br
  have r4 := cell_of_row _ (w.heap.size + 1 + 1) 4 _ _ _ D2.out.br
  have rf := fun o => frozen_of_row _ (w.heap.size + 1 + 1) o _ _ D2.out.br
  simp at r0 r1 r2 r3 r4
  go_wp2_with fail
  clear a0 a1 a2 a3 a4 af b0 b1 b2 b3 b4 bf r0 r1 r2 r3 r4 rf
  refine (hr _ (Below.refl _ _)).mono ?_
  rintro e w3 ⟨rfl, hb3⟩
  have D3 := Lib.hid (D2.out.below hb3)
  have a0 := cell_of_row _ (w.heap.size) 0 _ _ _ D3.out.bq
  have a1 := cell_of_row _ (w.heap.size) 1 _ _ _ D3.out.bq
  have a2 := cell_of_row _ (w.heap.size) 2 _ _ _ D3.out.bq
  have a3 := cell_of_row _ (w.heap.size) 3 _ _ _ D3.out.bq
  have a4 := cell_of_row _ (w.heap.size) 4 _ _ _ D3.out.bq
  have af := fun o => frozen_of_row _ (w.heap.size) o _ _ D3.out.bq
  simp at a0 a1 a2 a3 a4
  have b0 := cell_of_row _ (w.heap.size + 1) 0 _ _ _ D3.out.bo
  have b1 := cell_of_row _ (w.heap.size + 1) 1 _ _ _ D3.out.bo
  have b2 := cell_of_row _ (w.heap.size + 1) 2 _ _ _ D3.out.bo
  have b3 := cell_of_row _ (w.heap.size + 1) 3 _ _ _ D3.out.bo
  have b4 := cell_of_row _ (w.heap.size + 1) 4 _ _ _ D3.out.bo
  have bf := fun o => frozen_of_row _ (w.heap.size + 1) o _ _ D3.out.bo
  simp at b0 b1 b2 b3 b4
  have r0 := cell_of_row _ (w.heap.size + 1 + 1) 0 _ _ _ D3.out.br
  have r1 := cell_of_row _ (w.heap.size + 1 + 1) 1 _ _ _ D3.out.br
  have r2 := cell_of_row _ (w.heap.size + 1 + 1) 2 _ _ _ D3.out.br
  have r3 := cell_of_row _ (w.heap.size + 1 + 1) 3 _ _ _ D3.out.br
  have r4 := cell_of_row _ (w.heap.size + 1 + 1) 4 _ _ _ D3.out.br
  have rf := fun o => frozen_of_row _ (w.heap.size + 1 + 1) o _ _ D3.out.br
  simp at r0 r1 r2 r3 r4
  go_wp2_with fail
  clear a0 a1 a2 a3 a4 af b0 b1 b2 b3 b4 bf r0 r1 r2 r3 r4 rf
  have FIN := Step.close (Step.same BA.out (hb2.trans (hb3.mono hb2.size))) BW.out OL.out (by rw [SZ.out]; exact Nat.le_refl _) D3.out.br
  change bodyPost Try.prog _ _ _ _ (Fin5 w3 (w.heap.size + 1 + 1) h g N cap)
  revert FIN
  generalize Fin5 w3 (w.heap.size + 1 + 1) h g N cap = wf
  intro FIN
  obtain ⟨hf, F1⟩ := FIN
  have e0 := cell_of_row wf _ 0 _ _ _ hf
  have e1 := cell_of_row wf _ 1 _ _ _ hf
  have e2 := cell_of_row wf _ 2 _ _ _ hf
  have e3 := cell_of_row wf _ 3 _ _ _ hf
  have e4 := cell_of_row wf _ 4 _ _ _ hf
  simp at e0 e1 e2 e3 e4
  exact bodyPost_ret (v := .tuple #[.agg #[.int .i64 (h).V, .int .i64 (h).B, .int .i64 (h).made, .int .i64 (h).sweeps, .slice (some ⟨g, 0, none⟩) N cap], .bool true]) (by simp [results, Try.results7, go_sem, e0, e1, e2, e3, e4]) rfl ⟨_, rfl, F1⟩

set_option maxHeartbeats 4000000 in
set_option maxRecDepth 100000 in
theorem does_size {w : World} {m : Mem} {h : Hd} {cs : List Nd} {g N cap : Nat} (bo : Both w m h cs g N cap) (a b c : Int) (A : Option Addr) (n c2 : Nat) :
    Calls Try.prog 7 #[ptrV m.s, rsV h g N cap, opV 4 a b c (.slice A n c2)] w (DoesOut m h N w) := by
  have ST := DW.start w g N cap h 4 a b c A n c2
  have W0 := Lib.hid ST.1
  have BW := Lib.hid ST.2.1
  have SZ := Lib.hid ST.2.2
  have BA := Lib.hid (bo.keep BW.out)
  have OL := Lib.hid bo.st.own_lt
  clear bo ST
  unfold opV rsV
  go_enter Try.func7, Try.ntmps7
  go_wp2_with fail
  refine (size_sim BA.out a).mono ?_
  rintro e w2 ⟨x1, x2, rfl, hb2, hr⟩
  have D2 := Lib.hid (W0.out.below hb2)
  have a0 := cell_of_row _ (w.heap.size) 0 _ _ _ D2.out.bq
  have a1 := cell_of_row _ (w.heap.size) 1 _ _ _ D2.out.bq
  have a2 := cell_of_row _ (w.heap.size) 2 _ _ _ D2.out.bq
  have a3 := cell_of_row _ (w.heap.size) 3 _ _ _ D2.out.bq
  have a4 := cell_of_row _ (w.heap.size) 4 _ _ _ D2.out.bq
  have af := fun o => frozen_of_row _ (w.heap.size) o _ _ D2.out.bq
  simp at a0 a1 a2 a3 a4
  have b0 := cell_of_row _ (w.heap.size + 1) 0 _ _ _ D2.out.bo
  have b1 := cell_of_row _ (w.heap.size + 1) 1 _ _ _ D2.out.bo
  have b2 := cell_of_row _ (w.heap.size + 1) 2 _ _ _ D2.out.bo
  have b3 := cell_of_row _ (w.heap.size + 1) 3 _ _ _ D2.out.bo
  have b4 := cell_of_row _ (w.heap.size + 1) 4 _ _ _ D2.out.bo
  have bf := fun o => frozen_of_row _ (w.heap.size + 1) o _ _ D2.out.bo
  simp at b0 b1 b2 b3 b4
  have r0 := cell_of_row _ (w.heap.size + 1 + 1) 0 _ _ _ D2.out.br
  have r1 := cell_of_row _ (w.heap.size + 1 + 1) 1 _ _ _ D2.out.br
  have r2 := cell_of_row _ (w.heap.size + 1 + 1) 2 _ _ _ D2.out.br
  have r3 := cell_of_row _ (w.heap.size + 1 + 1) 3 _ _ _ D2.out.br
  have r4 := cell_of_row _ (w.heap.size + 1 + 1) 4 _ _ _ D2.out.br
  have rf := fun o => frozen_of_row _ (w.heap.size + 1 + 1) o _ _ D2.out.br
  simp at r0 r1 r2 r3 r4
  go_wp2_with fail
  clear a0 a1 a2 a3 a4 af b0 b1 b2 b3 b4 bf r0 r1 r2 r3 r4 rf
  refine (hr _ (Below.refl _ _)).mono ?_
  rintro e w3 ⟨rfl, hb3⟩
  have D3 := Lib.hid (D2.out.below hb3)
  have a0 := cell_of_row _ (w.heap.size) 0 _ _ _ D3.out.bq
  have a1 := cell_of_row _ (w.heap.size) 1 _ _ _ D3.out.bq
  have a2 := cell_of_row _ (w.heap.size) 2 _ _ _ D3.out.bq
  have a3 := cell_of_row _ (w.heap.size) 3 _ _ _ D3.out.bq
  have a4 := cell_of_row _ (w.heap.size) 4 _ _ _ D3.out.bq
  have af := fun o => frozen_of_row _ (w.heap.size) o _ _ D3.out.bq
  simp at a0 a1 a2 a3 a4
  have b0 := cell_of_row _ (w.heap.size + 1) 0 _ _ _ D3.out.bo
  have b1 := cell_of_row _ (w.heap.size + 1) 1 _ _ _ D3.out.bo
  have b2 := cell_of_row _ (w.heap.size + 1) 2 _ _ _ D3.out.bo
  have b3 := cell_of_row _ (w.heap.size + 1) 3 _ _ _ D3.out.bo
  have b4 := cell_of_row _ (w.heap.size + 1) 4 _ _ _ D3.out.bo
  have bf := fun o => frozen_of_row _ (w.heap.size + 1) o _ _ D3.out.bo
  simp at b0 b1 b2 b3 b4
  have r0 := cell_of_row _ (w.heap.size + 1 + 1) 0 _ _ _ D3.out.br
  have r1 := cell_of_row _ (w.heap.size + 1 + 1) 1 _ _ _ D3.out.br
  have r2 := cell_of_row _ (w.heap.size + 1 + 1) 2 _ _ _ D3.out.br
  have r3 := cell_of_row _ (w.heap.size + 1 + 1) 3 _ _ _ D3.out.br
  have r4 := cell_of_row _ (w.heap.size + 1 + 1) 4 _ _ _ D3.out.br
  have rf := fun o => frozen_of_row _ (w.heap.size + 1 + 1) o _ _ D3.out.br
  simp at r0 r1 r2 r3 r4
  go_wp2_with fail
  clear a0 a1 a2 a3 a4 af b0 b1 b2 b3 b4 bf r0 r1 r2 r3 r4 rf
  have FIN := Step.close (Step.same BA.out (hb2.trans (hb3.mono hb2.size))) BW.out OL.out (by rw [SZ.out]; exact Nat.le_refl _) D3.out.br
  change bodyPost Try.prog _ _ _ _ (Fin5 w3 (w.heap.size + 1 + 1) h g N cap)
  revert FIN
  generalize Fin5 w3 (w.heap.size + 1 + 1) h g N cap = wf
  intro FIN
  obtain ⟨hf, F1⟩ := FIN
  have e0 := cell_of_row wf _ 0 _ _ _ hf
  have e1 := cell_of_row wf _ 1 _ _ _ hf
  have e2 := cell_of_row wf _ 2 _ _ _ hf
  have e3 := cell_of_row wf _ 3 _ _ _ hf
  have e4 := cell_of_row wf _ 4 _ _ _ hf
  simp at e0 e1 e2 e3 e4
  exact bodyPost_ret (v := .tuple #[.agg #[.int .i64 (h).V, .int .i64 (h).B, .int .i64 (h).made, .int .i64 (h).sweeps, .slice (some ⟨g, 0, none⟩) N cap], .bool true]) (by simp [results, Try.results7, go_sem, e0, e1, e2, e3, e4]) rfl ⟨_, rfl, F1⟩

set_option maxHeartbeats 4000000 in
set_option maxRecDepth 100000 in
theorem does_eval {w : World} {m : Mem} {h : Hd} {cs : List Nd} {g N cap : Nat} (bo : Both w m h cs g N cap) (a b c : Int) (A : Option Addr) (vs : List Bool) (c2 : Nat) (hr : Rd w A (vs.map Value.bool)) (hm : vs.length ≤ 9223372036854775807) :
    Calls Try.prog 7 #[ptrV m.s, rsV h g N cap, opV 3 a b c (.slice A vs.length c2)] w (DoesOut m h N w) := by
  have ST := DW.start w g N cap h 3 a b c A vs.length c2
  have W0 := Lib.hid ST.1
  have BW := Lib.hid ST.2.1
  have SZ := Lib.hid ST.2.2
  have BA := Lib.hid (bo.keep BW.out)
  have OL := Lib.hid bo.st.own_lt
  have RD := Lib.hid (hr.keep BW.out)
  have HM := Lib.hid hm
  clear hr hm
  clear bo ST
  unfold opV rsV
  go_enter Try.func7, Try.ntmps7
  go_wp2_with fail
  refine (eval_sim BA.out a RD.out HM.out).mono ?_
  rintro e w2 ⟨x1, x2, rfl, hb2, hr⟩
  have D2 := Lib.hid (W0.out.below hb2)
  have a0 := cell_of_row _ (w.heap.size) 0 _ _ _ D2.out.bq
  have a1 := cell_of_row _ (w.heap.size) 1 _ _ _ D2.out.bq
  have a2 := cell_of_row _ (w.heap.size) 2 _ _ _ D2.out.bq
  have a3 := cell_of_row _ (w.heap.size) 3 _ _ _ D2.out.bq
  have a4 := cell_of_row _ (w.heap.size) 4 _ _ _ D2.out.bq
  have af := fun o => frozen_of_row _ (w.heap.size) o _ _ D2.out.bq
  simp at a0 a1 a2 a3 a4
  have b0 := cell_of_row _ (w.heap.size + 1) 0 _ _ _ D2.out.bo
  have b1 := cell_of_row _ (w.heap.size + 1) 1 _ _ _ D2.out.bo
  have b2 := cell_of_row _ (w.heap.size + 1) 2 _ _ _ D2.out.bo
  have b3 := cell_of_row _ (w.heap.size + 1) 3 _ _ _ D2.out.bo
  have b4 := cell_of_row _ (w.heap.size + 1) 4 _ _ _ D2.out.bo
  have bf := fun o => frozen_of_row _ (w.heap.size + 1) o _ _ D2.out.bo
  simp at b0 b1 b2 b3 b4
  have r0 := cell_of_row _ (w.heap.size + 1 + 1) 0 _ _ _ D2.out.br
  have r1 := cell_of_row _ (w.heap.size + 1 + 1) 1 _ _ _ D2.out.br
  have r2 := cell_of_row _ (w.heap.size + 1 + 1) 2 _ _ _ D2.out.br
  have r3 := cell_of_row _ (w.heap.size + 1 + 1) 3 _ _ _ D2.out.br
  have r4 := cell_of_row _ (w.heap.size + 1 + 1) 4 _ _ _ D2.out.br
  have rf := fun o => frozen_of_row _ (w.heap.size + 1 + 1) o _ _ D2.out.br
  simp at r0 r1 r2 r3 r4
  go_wp2_with fail
  clear a0 a1 a2 a3 a4 af b0 b1 b2 b3 b4 bf r0 r1 r2 r3 r4 rf
  refine (hr _ (Below.refl _ _)).mono ?_
  rintro e w3 ⟨rfl, hb3⟩
  have D3 := Lib.hid (D2.out.below hb3)
  have a0 := cell_of_row _ (w.heap.size) 0 _ _ _ D3.out.bq
  have a1 := cell_of_row _ (w.heap.size) 1 _ _ _ D3.out.bq
  have a2 := cell_of_row _ (w.heap.size) 2 _ _ _ D3.out.bq
  have a3 := cell_of_row _ (w.heap.size) 3 _ _ _ D3.out.bq
  have a4 := cell_of_row _ (w.heap.size) 4 _ _ _ D3.out.bq
  have af := fun o => frozen_of_row _ (w.heap.size) o _ _ D3.out.bq
  simp at a0 a1 a2 a3 a4
  have b0 := cell_of_row _ (w.heap.size + 1) 0 _ _ _ D3.out.bo
  have b1 := cell_of_row _ (w.heap.size + 1) 1 _ _ _ D3.out.bo
  have b2 := cell_of_row _ (w.heap.size + 1) 2 _ _ _ D3.out.bo
  have b3 := cell_of_row _ (w.heap.size + 1) 3 _ _ _ D3.out.bo
  have b4 := cell_of_row _ (w.heap.size + 1) 4 _ _ _ D3.out.bo
  have bf := fun o => frozen_of_row _ (w.heap.size + 1) o _ _ D3.out.bo
  simp at b0 b1 b2 b3 b4
  have r0 := cell_of_row _ (w.heap.size + 1 + 1) 0 _ _ _ D3.out.br
  have r1 := cell_of_row _ (w.heap.size + 1 + 1) 1 _ _ _ D3.out.br
  have r2 := cell_of_row _ (w.heap.size + 1 + 1) 2 _ _ _ D3.out.br
  have r3 := cell_of_row _ (w.heap.size + 1 + 1) 3 _ _ _ D3.out.br
  have r4 := cell_of_row _ (w.heap.size + 1 + 1) 4 _ _ _ D3.out.br
  have rf := fun o => frozen_of_row _ (w.heap.size + 1 + 1) o _ _ D3.out.br
  simp at r0 r1 r2 r3 r4
  go_wp2_with fail
  clear a0 a1 a2 a3 a4 af b0 b1 b2 b3 b4 bf r0 r1 r2 r3 r4 rf
  have FIN := Step.close (Step.same BA.out (hb2.trans (hb3.mono hb2.size))) BW.out OL.out (by rw [SZ.out]; exact Nat.le_refl _) D3.out.br
  change bodyPost Try.prog _ _ _ _ (Fin5 w3 (w.heap.size + 1 + 1) h g N cap)
  revert FIN
  generalize Fin5 w3 (w.heap.size + 1 + 1) h g N cap = wf
  intro FIN
  obtain ⟨hf, F1⟩ := FIN
  have e0 := cell_of_row wf _ 0 _ _ _ hf
  have e1 := cell_of_row wf _ 1 _ _ _ hf
  have e2 := cell_of_row wf _ 2 _ _ _ hf
  have e3 := cell_of_row wf _ 3 _ _ _ hf
  have e4 := cell_of_row wf _ 4 _ _ _ hf
  simp at e0 e1 e2 e3 e4
  exact bodyPost_ret (v := .tuple #[.agg #[.int .i64 (h).V, .int .i64 (h).B, .int .i64 (h).made, .int .i64 (h).sweeps, .slice (some ⟨g, 0, none⟩) N cap], .bool true]) (by simp [results, Try.results7, go_sem, e0, e1, e2, e3, e4]) rfl ⟨_, rfl, F1⟩

set_option maxHeartbeats 4000000 in
set_option maxRecDepth 100000 in
theorem does_mk {w : World} {m : Mem} {h : Hd} {cs : List Nd} {g N cap : Nat} (bo : Both w m h cs g N cap) (a b c : Int) (A : Option Addr) (n c2 : Nat) (hN : N < 1000000) (hm0 : 0 ≤ h.made) (hm1 : h.made ≤ 1000000) :
    Calls Try.prog 7 #[ptrV m.s, rsV h g N cap, opV 1 a b c (.slice A n c2)] w (DoesOut m h N w) := by
  have ST := DW.start w g N cap h 1 a b c A n c2
  have W0 := Lib.hid ST.1
  have BW := Lib.hid ST.2.1
  have SZ := Lib.hid ST.2.2
  have BA := Lib.hid (bo.keep BW.out)
  have OL := Lib.hid bo.st.own_lt
  have HN := Lib.hid hN
  have HM0 := Lib.hid hm0
  have HM1 := Lib.hid hm1
  clear hN hm0 hm1
  clear bo ST
  unfold opV rsV
  go_enter Try.func7, Try.ntmps7
  go_wp2_with fail
  refine (mk_sim BA.out HN.out HM0.out HM1.out a b c).mono ?_
  rintro e w2 ⟨x1, x2, rfl, ht2, hr⟩
  have D2 := Lib.hid (W0.out.turn ht2 OL.out)
  have a0 := cell_of_row _ (w.heap.size) 0 _ _ _ D2.out.bq
  have a1 := cell_of_row _ (w.heap.size) 1 _ _ _ D2.out.bq
  have a2 := cell_of_row _ (w.heap.size) 2 _ _ _ D2.out.bq
  have a3 := cell_of_row _ (w.heap.size) 3 _ _ _ D2.out.bq
  have a4 := cell_of_row _ (w.heap.size) 4 _ _ _ D2.out.bq
  have af := fun o => frozen_of_row _ (w.heap.size) o _ _ D2.out.bq
  simp at a0 a1 a2 a3 a4
  have b0 := cell_of_row _ (w.heap.size + 1) 0 _ _ _ D2.out.bo
  have b1 := cell_of_row _ (w.heap.size + 1) 1 _ _ _ D2.out.bo
  have b2 := cell_of_row _ (w.heap.size + 1) 2 _ _ _ D2.out.bo
  have b3 := cell_of_row _ (w.heap.size + 1) 3 _ _ _ D2.out.bo
  have b4 := cell_of_row _ (w.heap.size + 1) 4 _ _ _ D2.out.bo
  have bf := fun o => frozen_of_row _ (w.heap.size + 1) o _ _ D2.out.bo
  simp at b0 b1 b2 b3 b4
  have r0 := cell_of_row _ (w.heap.size + 1 + 1) 0 _ _ _ D2.out.br
  have r1 := cell_of_row _ (w.heap.size + 1 + 1) 1 _ _ _ D2.out.br
  have r2 := cell_of_row _ (w.heap.size + 1 + 1) 2 _ _ _ D2.out.br
  have r3 := cell_of_row _ (w.heap.size + 1 + 1) 3 _ _ _ D2.out.br
  have r4 := cell_of_row _ (w.heap.size + 1 + 1) 4 _ _ _ D2.out.br
  have rf := fun o => frozen_of_row _ (w.heap.size + 1 + 1) o _ _ D2.out.br
  simp at r0 r1 r2 r3 r4
  go_wp2_with fail
  clear a0 a1 a2 a3 a4 af b0 b1 b2 b3 b4 bf r0 r1 r2 r3 r4 rf
  refine (hr _ (Below.refl _ _)).mono ?_
  rintro e w3 ⟨h', g', N', cap', rfl, hst, hb3⟩
  have HST := Lib.hid (hst.below ((Below.refl _ _).alloc (Nat.le_refl _) (.cells #[.int .i64 h'.V, .int .i64 h'.B, .int .i64 h'.made, .int .i64 h'.sweeps, .slice (some ⟨g', 0, none⟩) N' cap'] 29)))
  have D3 := Lib.hid ((D2.out.below hb3).below ((Below.refl _ _).alloc (Nat.le_refl _) (.cells #[.int .i64 h'.V, .int .i64 h'.B, .int .i64 h'.made, .int .i64 h'.sweeps, .slice (some ⟨g', 0, none⟩) N' cap'] 29)))
  clear hst hb3 hr ht2
  unfold rsV
  have a0 := cell_of_row _ (w.heap.size) 0 _ _ _ D3.out.bq
  have a1 := cell_of_row _ (w.heap.size) 1 _ _ _ D3.out.bq
  have a2 := cell_of_row _ (w.heap.size) 2 _ _ _ D3.out.bq
  have a3 := cell_of_row _ (w.heap.size) 3 _ _ _ D3.out.bq
  have a4 := cell_of_row _ (w.heap.size) 4 _ _ _ D3.out.bq
  have af := fun o => frozen_of_row _ (w.heap.size) o _ _ D3.out.bq
  simp at a0 a1 a2 a3 a4
  have b0 := cell_of_row _ (w.heap.size + 1) 0 _ _ _ D3.out.bo
  have b1 := cell_of_row _ (w.heap.size + 1) 1 _ _ _ D3.out.bo
  have b2 := cell_of_row _ (w.heap.size + 1) 2 _ _ _ D3.out.bo
  have b3 := cell_of_row _ (w.heap.size + 1) 3 _ _ _ D3.out.bo
  have b4 := cell_of_row _ (w.heap.size + 1) 4 _ _ _ D3.out.bo
  have bf := fun o => frozen_of_row _ (w.heap.size + 1) o _ _ D3.out.bo
  simp at b0 b1 b2 b3 b4
  have r0 := cell_of_row _ (w.heap.size + 1 + 1) 0 _ _ _ D3.out.br
  have r1 := cell_of_row _ (w.heap.size + 1 + 1) 1 _ _ _ D3.out.br
  have r2 := cell_of_row _ (w.heap.size + 1 + 1) 2 _ _ _ D3.out.br
  have r3 := cell_of_row _ (w.heap.size + 1 + 1) 3 _ _ _ D3.out.br
  have r4 := cell_of_row _ (w.heap.size + 1 + 1) 4 _ _ _ D3.out.br
  have rf := fun o => frozen_of_row _ (w.heap.size + 1 + 1) o _ _ D3.out.br
  simp at r0 r1 r2 r3 r4
  go_wp2_with fail
  clear a0 a1 a2 a3 a4 af b0 b1 b2 b3 b4 bf r0 r1 r2 r3 r4 rf
  revert HST D3
  generalize w3.alloc (.cells #[.int .i64 h'.V, .int .i64 h'.B, .int .i64 h'.made, .int .i64 h'.sweeps, .slice (some ⟨g', 0, none⟩) N' cap'] 29) = w4
  intro HST D3
  have FIN := Step.close HST.out BW.out OL.out (by rw [SZ.out]; exact Nat.le_refl _) D3.out.br
  change bodyPost Try.prog _ _ _ _ (Fin5 w4 (w.heap.size + 1 + 1) h' g' N' cap')
  revert FIN
  generalize Fin5 w4 (w.heap.size + 1 + 1) h' g' N' cap' = wf
  intro FIN
  obtain ⟨hf, F1⟩ := FIN
  have e0 := cell_of_row wf _ 0 _ _ _ hf
  have e1 := cell_of_row wf _ 1 _ _ _ hf
  have e2 := cell_of_row wf _ 2 _ _ _ hf
  have e3 := cell_of_row wf _ 3 _ _ _ hf
  have e4 := cell_of_row wf _ 4 _ _ _ hf
  simp at e0 e1 e2 e3 e4
  exact bodyPost_ret (v := .tuple #[.agg #[.int .i64 (h').V, .int .i64 (h').B, .int .i64 (h').made, .int .i64 (h').sweeps, .slice (some ⟨g', 0, none⟩) N' cap'], .bool true]) (by simp [results, Try.results7, go_sem, e0, e1, e2, e3, e4]) rfl ⟨_, rfl, F1⟩

end Go.Proofs.Yteeffabmafakiaa
