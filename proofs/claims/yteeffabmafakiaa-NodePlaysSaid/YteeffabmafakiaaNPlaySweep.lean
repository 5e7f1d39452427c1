/- Layer 3: does, sweep. -/
import Derived.Test.YteeffabmafakiaaNPlayPin
namespace Go.Proofs.Yteeffabmafakiaa
open Go.ChangeShapes Go.WideShapes Go.ChangeAt Go.RowKit

set_option maxHeartbeats 4000000 in
set_option maxRecDepth 100000 in
theorem does_sweep {w : World} {m : Mem} {h : Hd} {cs : List Nd} {g N cap : Nat} (bo : Both w m h cs g N cap) (a b c : Int) (A : Option Addr) (n c2 : Nat) (kk : Int) (hs0 : 0 ≤ h.sweeps) (hs1 : h.sweeps ≤ 1000000) (k1 : kk ≠ 1) (k2 : kk ≠ 2) (k3 : kk ≠ 3) (k4 : kk ≠ 4) (k5 : kk ≠ 5) (k6 : kk ≠ 6) :
    Calls Try.prog 7 #[ptrV m.s, rsV h g N cap, opV kk a b c (.slice A n c2)] w (DoesOut m h N w) := by
  have ST := DW.start w g N cap h kk a b c A n c2
  have W0 := Lib.hid ST.1
  have BW := Lib.hid ST.2.1
  have SZ := Lib.hid ST.2.2
  have BA := Lib.hid (bo.keep BW.out)
  have OL := Lib.hid bo.st.own_lt
  have HS0 := Lib.hid hs0
  have HS1 := Lib.hid hs1
  clear hs0 hs1
  clear bo ST
  unfold opV rsV
  go_enter Try.func7, Try.ntmps7
  go_wp2_with fail
  refine (sweep_sim BA.out HS0.out HS1.out).mono ?_
  rintro e w2 ⟨h', g', cap', x, rfl, hb2, hr⟩
  have GX : Hid (w.heap.size + 3 ≤ w2.heap.size) := (W0.out.below hb2).size
  have D2 := Lib.hid ((W0.out.below hb2).below ((Below.refl _ _).alloc (Nat.le_refl _) (.cells #[.int .i64 h'.V, .int .i64 h'.B, .int .i64 h'.made, .int .i64 h'.sweeps, .slice (some ⟨g', 0, none⟩) N cap'] 29)))
  have HC := Lib.hid (hr (w2.alloc (.cells #[.int .i64 h'.V, .int .i64 h'.B, .int .i64 h'.made, .int .i64 h'.sweeps, .slice (some ⟨g', 0, none⟩) N cap'] 29)).drew (((Below.refl _ _).alloc (Nat.le_refl _) (.cells #[.int .i64 h'.V, .int .i64 h'.B, .int .i64 h'.made, .int .i64 h'.sweeps, .slice (some ⟨g', 0, none⟩) N cap'] 29)).trans ((below_drew (w2.alloc (.cells #[.int .i64 h'.V, .int .i64 h'.B, .int .i64 h'.made, .int .i64 h'.sweeps, .slice (some ⟨g', 0, none⟩) N cap'] 29))).mono (by simp))))
  have BN := heap_alloc_new w2 (.cells #[.int .i64 h'.V, .int .i64 h'.B, .int .i64 h'.made, .int .i64 h'.sweeps, .slice (some ⟨g', 0, none⟩) N cap'] 29)
  clear hb2 hr
  unfold rsV
  have a0 := cell_of_row _ (w.heap.size) 0 _ _ _ D2.out.bq
  have a1 := cell_of_row _ (w.heap.size) 1 _ _ _ D2.out.bq
  have a2 := cell_of_row _ (w.heap.size) 2 _ _ _ D2.out.bq
  have a3 := cell_of_row _ (w.heap.size) 3 _ _ _ D2.out.bq
  have a4 := cell_of_row _ (w.heap.size) 4 _ _ _ D2.out.bq
  have af := fun o => frozen_of_row _ (w.heap.size) o _ _ D2.out.bq
  simp at a0 a1 a2 a3 a4
  have b0 := cell_of_row _ (w.heap.size + 1) 0 _ _ _ D2.out.bo
  have b1 := cell_of_row _ (w.heap.size + 1) 1 _ _ _ D2.out.bo
  have b2 := cell_of_row _ (w.heap.size + 1) 2 _ _ _ D2.out.bo
  have b3 := cell_of_row _ (w.heap.size + 1) 3 _ _ _ D2.out.bo
  have b4 := cell_of_row _ (w.heap.size + 1) 4 _ _ _ D2.out.bo
  have bf := fun o => frozen_of_row _ (w.heap.size + 1) o _ _ D2.out.bo
  simp at b0 b1 b2 b3 b4
  have r0 := cell_of_row _ (w.heap.size + 1 + 1) 0 _ _ _ D2.out.br
  have r1 := cell_of_row _ (w.heap.size + 1 + 1) 1 _ _ _ D2.out.br
  have r2 := cell_of_row _ (w.heap.size + 1 + 1) 2 _ _ _ D2.out.br
  have r3 := cell_of_row _ (w.heap.size + 1 + 1) 3 _ _ _ D2.out.br
  have r4 := cell_of_row _ (w.heap.size + 1 + 1) 4 _ _ _ D2.out.br
  have rf := fun o => frozen_of_row _ (w.heap.size + 1 + 1) o _ _ D2.out.br
  simp at r0 r1 r2 r3 r4
  go_wp2_with fail
  clear a0 a1 a2 a3 a4 af b0 b1 b2 b3 b4 bf r0 r1 r2 r3 r4 rf
  revert D2 HC BN GX
  generalize w2.alloc (.cells #[.int .i64 h'.V, .int .i64 h'.B, .int .i64 h'.made, .int .i64 h'.sweeps, .slice (some ⟨g', 0, none⟩) N cap'] 29) = w3
  generalize w2.heap.size = gx
  intro GX D2 HC BN
  have n0 := cell_of_row _ (gx) 0 _ _ _ BN
  have n1 := cell_of_row _ (gx) 1 _ _ _ BN
  have n2 := cell_of_row _ (gx) 2 _ _ _ BN
  have n3 := cell_of_row _ (gx) 3 _ _ _ BN
  have n4 := cell_of_row _ (gx) 4 _ _ _ BN
  have nf := fun o => frozen_of_row _ (gx) o _ _ BN
  simp at n0 n1 n2 n3 n4
  have b1 := cell_of_row _ (w.heap.size + 1) 1 _ _ _ D2.out.bo
  simp at b1
  have HD := Lib.hid (D2.out.below (below_drew w3))
  have BND := Lib.hid (((below_drew w3).block gx (Array.getElem?_eq_some_iff.1 BN).1).trans BN)
  have hg1 : ¬ gx = w.heap.size + 1 := by have := GX.out; omega
  have hg2 : ¬ gx = w.heap.size + 1 + 1 := by have := GX.out; omega
  have hg3 : ¬ w.heap.size + 1 + 1 = gx := by have := GX.out; omega
  have hg4 : ¬ w.heap.size + 1 = w.heap.size + 1 + 1 := by omega
  clear BN D2 nf
  go_region_with (first | (go_at_call 28; refine HC.out.mono ?_; rintro e w4 ⟨rfl, hst, ht⟩; have HST := Lib.hid hst; have D4 := Lib.hid (HD.out.turn ht OL.out); have BN4 := (ht.block gx (Array.getElem?_eq_some_iff.1 BND.out).1 (fun q => by have := OL.out _ q; have := GX.out; omega)).trans BND.out; have m0 := cell_of_row _ gx 0 _ _ _ BN4; have m1 := cell_of_row _ gx 1 _ _ _ BN4; have m2 := cell_of_row _ gx 2 _ _ _ BN4; have m3 := cell_of_row _ gx 3 _ _ _ BN4; have m4 := cell_of_row _ gx 4 _ _ _ BN4; have b1' := cell_of_row _ (w.heap.size + 1) 1 _ _ _ D4.out.bo; simp at m0 m1 m2 m3 m4 b1'; clear hst ht BN4; have r0 := cell_of_row _ (w.heap.size + 1 + 1) 0 _ _ _ D4.out.br; have r1 := cell_of_row _ (w.heap.size + 1 + 1) 1 _ _ _ D4.out.br; have r2 := cell_of_row _ (w.heap.size + 1 + 1) 2 _ _ _ D4.out.br; have r3 := cell_of_row _ (w.heap.size + 1 + 1) 3 _ _ _ D4.out.br; have r4 := cell_of_row _ (w.heap.size + 1 + 1) 4 _ _ _ D4.out.br; have rf := fun o => frozen_of_row _ (w.heap.size + 1 + 1) o _ _ D4.out.br; simp at r0 r1 r2 r3 r4))
  all_goals
    go_wp2_with fail
    clear n0 n1 n2 n3 n4 b1 b1' m0 m1 m2 m3 m4 r0 r1 r2 r3 r4 rf
    have FIN := Step.close HST.out BW.out OL.out (by rw [SZ.out]; exact Nat.le_refl _) D4.out.br
    change bodyPost Try.prog _ _ _ _ (Fin5 w4 (w.heap.size + 1 + 1) h' g' N cap')
    revert FIN
    generalize Fin5 w4 (w.heap.size + 1 + 1) h' g' N cap' = wf
    intro FIN
    obtain ⟨hf, F1⟩ := FIN
    have e0 := cell_of_row wf _ 0 _ _ _ hf
    have e1 := cell_of_row wf _ 1 _ _ _ hf
    have e2 := cell_of_row wf _ 2 _ _ _ hf
    have e3 := cell_of_row wf _ 3 _ _ _ hf
    have e4 := cell_of_row wf _ 4 _ _ _ hf
    simp at e0 e1 e2 e3 e4
    exact bodyPost_ret (v := .tuple #[.agg #[.int .i64 (h').V, .int .i64 (h').B, .int .i64 (h').made, .int .i64 (h').sweeps, .slice (some ⟨g', 0, none⟩) N cap'], .bool true]) (by simp [results, Try.results7, go_sem, e0, e1, e2, e3, e4]) rfl ⟨_, rfl, F1⟩


theorem does_any {w : World} {m : Mem} {h : Hd} {cs : List Nd} {g N cap : Nat} (bo : Both w m h cs g N cap) (k a b c : Int) (A : Option Addr) (vs : List Bool) (c2 : Nat) (hN : N < 1000000) (hm0 : 0 ≤ h.made) (hm1 : h.made ≤ 1000000) (hs0 : 0 ≤ h.sweeps) (hs1 : h.sweeps ≤ 1000000)
    (hr : Rd w A (vs.map Value.bool)) (hm : vs.length ≤ 9223372036854775807) :
    Calls Try.prog 7 #[ptrV m.s, rsV h g N cap, opV k a b c (.slice A vs.length c2)] w (DoesOut m h N w) := by
  by_cases k1 : k = 1
  · subst k1; exact does_mk bo a b c A vs.length c2 hN hm0 hm1
  by_cases k2 : k = 2
  · subst k2; exact does_node bo a b c A vs.length c2
  by_cases k3 : k = 3
  · subst k3; exact does_eval bo a b c A vs c2 hr hm
  by_cases k4 : k = 4
  · subst k4; exact does_size bo a b c A vs.length c2
  by_cases k5 : k = 5
  · subst k5; exact does_pin bo a b c A vs.length c2
  by_cases k6 : k = 6
  · subst k6; exact does_unpin bo a b c A vs.length c2
  exact does_sweep bo a b c A vs.length c2 k hs0 hs1 k1 k2 k3 k4 k5 k6
end Go.Proofs.Yteeffabmafakiaa
