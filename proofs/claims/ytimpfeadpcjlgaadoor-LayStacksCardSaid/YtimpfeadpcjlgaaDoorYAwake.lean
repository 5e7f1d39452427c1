/- Layer 7's laws: awake. -/
import Derived.Test.YtimpfeadpcjlgaaDoorYSame
namespace Go.Proofs.YtimpfeadpcjlgaaDoor
open Go.ChangeShapes Go.WideShapes Go.ChangeAt Go.RowKit Go.Maps

def dA : ByteArray := ⟨#[65]⟩
def dB : ByteArray := ⟨#[66]⟩
def l2 : Doms := [(dA, 4), (dB, 2)]
def l1 : Doms := [(dA, 5)]
def oAB : ByteArray := ⟨#[65, 42, 66]⟩

theorem ab_ne : dB ≠ dA := by decide
theorem ndA : namedB dA = true := by decide +kernel
theorem ndB : namedB dB = true := by decide +kernel
theorem chk2 : Chk l2 := ⟨by decide, fun d hd => by
    simp [l2] at hd
    rcases hd with rfl | rfl
    · exact ⟨ndA, by decide, by decide⟩
    · exact ⟨ndB, by decide, by decide⟩, by
    unfold names l2
    simp
    exact fun e => ab_ne e.symm, by decide +kernel⟩
theorem chk1 : Chk l1 := ⟨by decide, fun d hd => by
    simp [l1] at hd
    subst hd
    exact ⟨ndA, by decide, by decide⟩, by unfold names l1; simp, by decide +kernel⟩
theorem sum1 : sumW l1 = 3 := by decide +kernel
theorem wid2 : widL l2 = [2, 1] := by decide +kernel
theorem texts_AB : textsOf oAB = [oAB] := by decide +kernel
theorem split_AB : splitS 42 oAB = [dA, dB] := by decide +kernel
theorem groups_AB {F : ByteArray → Option Nat} (h : PlF l2 F l2.length) : ∃ F', groupsN F (textsOf oAB) = some ([[0, 1]], F') := by
  have fA : F dA = some 0 := h.at_ chk2.once 0 (dA, 4) rfl
  have fB : F dB = some 1 := h.at_ chk2.once 1 (dB, 2) rfl
  have fB2 : putF F dA none dB = some 1 := by unfold putF; rw [if_neg ab_ne]; exact fB
  rw [texts_AB]
  simp only [groupsN, split_AB, takeN, fA, fB2]
  exact ⟨_, rfl⟩
theorem seq_AB : seqAll [2, 1] [[0, 1]] = [(0, 1), (1, 0), (0, 0)] := by decide
theorem rows_AB {R : List (List Nat)} (hl : R.map List.length = [2, 1]) (hf : Filled R [(0, 1), (1, 0), (0, 0)]) : R = [[2, 0], [1]] := by
  match R, hl with
  | [[a, b], [c]], _ =>
    obtain ⟨r, h1, h2⟩ := hf 0 0 1 rfl
    obtain ⟨s, h3, h4⟩ := hf 1 1 0 rfl
    obtain ⟨t, h5, h6⟩ := hf 2 0 0 rfl
    simp at h1 h3 h5
    subst h1; subst h3; subst h5
    simp at h2 h4 h6
    subst h2; subst h4; subst h6
    rfl

theorem VR.rows {w : World} {b : Nat} {bl : List Nat} {R : List (List Nat)} (h : VR w b bl R) : RowsRd w (.slice (some ⟨b, 0, none⟩) R.length R.length) (R.map castL) := by
  have hl := h.len
  refine ⟨some ⟨b, 0, none⟩, R.length, (List.range R.length).map (fun i => .slice (some ⟨bl.getD i 0, 0, none⟩) (R.getD i []).length (R.getD i []).length), by rw [List.length_map], .inr ⟨b, 0, rfl, h.blt, fun j u hu => ?_⟩, by simp, fun i r hr => ?_⟩
  · rw [List.getElem?_map] at hu
    by_cases hj : j < R.length
    · rw [List.getElem?_range hj] at hu
      simp at hu
      subst hu
      have e1 : bl[j]? = some (bl[j]?.getD 0) := by rw [List.getElem?_eq_getElem (by omega)]; rfl
      have e2 : R[j]? = some (R[j]?.getD []) := by rw [List.getElem?_eq_getElem hj]; rfl
      rw [Nat.zero_add]
      exact h.out j _ _ e1 e2
    · rw [List.getElem?_eq_none (by simp; omega)] at hu; cases hu
  · rw [List.getElem?_map] at hr
    obtain ⟨s, hs, rfl⟩ := Option.map_eq_some_iff.1 hr
    have hi := (List.getElem?_eq_some_iff.1 hs).1
    obtain ⟨g, hg⟩ : ∃ g, bl[i]? = some g := ⟨_, List.getElem?_eq_getElem (by omega)⟩
    refine ⟨g, s.length, ?_, ?_⟩
    · rw [List.getElem?_map, List.getElem?_range hi]
      simp [hg, hs, castL]
    · have hrow := h.row i g s hg hs
      refine .inr ⟨g, 0, rfl, row_lt hrow, fun j u hu => ?_⟩
      rw [Nat.zero_add, cell_of_row _ _ _ _ _ _ hrow]
      rw [← nats_cast] at hu
      simpa using hu

/-- Two domains as they stand written. -/
theorem lit2_rd (w : World) : DRd (w.alloc (.cells #[.string ⟨#[65]⟩, .int .i64 4, .string ⟨#[66]⟩, .int .i64 2] 28)) (some ⟨w.heap.size, 0, none⟩) l2 := by
  refine .inr ⟨w.heap.size, 0, rfl, by simp, fun i s n hi => ?_⟩
  rw [cell_of_row _ _ _ _ _ _ (heap_alloc_new w _), cell_of_row _ _ _ _ _ _ (heap_alloc_new w _)]
  match i, hi with
  | 0, hi => simp [l2] at hi; obtain ⟨rfl, rfl⟩ := hi; exact ⟨rfl, rfl⟩
  | 1, hi => simp [l2] at hi; obtain ⟨rfl, rfl⟩ := hi; exact ⟨rfl, rfl⟩
theorem lit1_rd (w : World) : DRd (w.alloc (.cells #[.string ⟨#[65]⟩, .int .i64 5] 28)) (some ⟨w.heap.size, 0, none⟩) l1 := by
  refine .inr ⟨w.heap.size, 0, rfl, by simp, fun i s n hi => ?_⟩
  rw [cell_of_row _ _ _ _ _ _ (heap_alloc_new w _), cell_of_row _ _ _ _ _ _ (heap_alloc_new w _)]
  match i, hi with
  | 0, hi => simp [l1] at hi; obtain ⟨rfl, rfl⟩ := hi; exact ⟨rfl, rfl⟩

/-- Two rows as they stand written. -/
theorem lit_rows (w : World) : RowsRd (((w.alloc (.cells #[.int .i64 2, .int .i64 0] 3)).alloc (.cells #[.int .i64 1] 3)).alloc (.cells #[.slice (some ⟨w.heap.size, 0, none⟩) 2 2, .slice (some ⟨w.heap.size + 1, 0, none⟩) 1 1] 36))
    (.slice (some ⟨w.heap.size + 2, 0, none⟩) 2 2) [[2, 0], [1]] := by
  have z1 : (w.alloc (.cells #[.int .i64 2, .int .i64 0] 3)).heap.size = w.heap.size + 1 := by simp
  have z2 : ((w.alloc (.cells #[.int .i64 2, .int .i64 0] 3)).alloc (.cells #[.int .i64 1] 3)).heap.size = w.heap.size + 2 := by simp
  have r3 := heap_alloc_new ((w.alloc (.cells #[.int .i64 2, .int .i64 0] 3)).alloc (.cells #[.int .i64 1] 3)) (.cells #[.slice (some ⟨w.heap.size, 0, none⟩) 2 2, .slice (some ⟨w.heap.size + 1, 0, none⟩) 1 1] 36)
  rw [z2] at r3
  have r2 := at_old (o' := .cells #[.slice (some ⟨w.heap.size, 0, none⟩) 2 2, .slice (some ⟨w.heap.size + 1, 0, none⟩) 1 1] 36) (heap_alloc_new (w.alloc (.cells #[.int .i64 2, .int .i64 0] 3)) (.cells #[.int .i64 1] 3))
  rw [z1] at r2
  have r1 := at_old (o' := .cells #[.slice (some ⟨w.heap.size, 0, none⟩) 2 2, .slice (some ⟨w.heap.size + 1, 0, none⟩) 1 1] 36) (at_old (o' := .cells #[.int .i64 1] 3) (heap_alloc_new w (.cells #[.int .i64 2, .int .i64 0] 3)))
  refine ⟨some ⟨w.heap.size + 2, 0, none⟩, 2, [.slice (some ⟨w.heap.size, 0, none⟩) 2 2, .slice (some ⟨w.heap.size + 1, 0, none⟩) 1 1], rfl, .inr ⟨_, 0, rfl, row_lt r3, fun j u hu => ?_⟩, rfl, fun i r hr => ?_⟩
  · rw [Nat.zero_add, cell_of_row _ _ _ _ _ _ r3]
    simpa using hu
  · match i, hr with
    | 0, hr =>
      simp at hr; subst hr
      refine ⟨_, 2, rfl, .inr ⟨_, 0, rfl, row_lt r1, fun j u hu => ?_⟩⟩
      rw [Nat.zero_add, cell_of_row _ _ _ _ _ _ r1]
      simpa [intsC] using hu
    | 1, hr =>
      simp at hr; subst hr
      refine ⟨_, 1, rfl, .inr ⟨_, 0, rfl, row_lt r2, fun j u hu => ?_⟩⟩
      rw [Nat.zero_add, cell_of_row _ _ _ _ _ _ r2]
      simpa [intsC] using hu

theorem cast_AB : [[2, 0], [1]].map castL = [[2, 0], [1]] := by decide
theorem len_AB : ([[2, 0], [1]] : List (List Nat)).length = 2 := rfl

set_option maxRecDepth 100000 in
set_option maxHeartbeats 4000000 in
theorem awake7 (w : World) : Calls Tryd.prog 8 #[] w fun e w' => e = .returned (.bool true) ∧ Below w.heap.size w w' := by
  have b1 : Below w.heap.size w (w.alloc (.cells #[.string ⟨#[65]⟩, .int .i64 4, .string ⟨#[66]⟩, .int .i64 2] 28)) := (Below.refl _ _).alloc (Nat.le_refl _) _
  have PL := Lib.hid (place_any (c := 2) (lit2_rd w) (by decide) (s := oAB) (by decide))
  go_enter Tryd.func8, Tryd.ntmps8
  go_wp2_with fail
  refine PL.out.mono ?_
  rintro e w1 ⟨hb, hout⟩
  obtain ⟨-, hout⟩ := hout.resolve_left fun h => h.1 chk2
  have hyes : PlaceYes l2 oAB e w1 := by
    rcases hout with h | ⟨-, F, hp, h⟩
    · exact h
    · exfalso
      obtain ⟨F', hg⟩ := groups_AB hp
      rcases h with h | ⟨gs, F2, h, hne⟩
      · rw [hg] at h; cases h
      · rw [hg] at h
        injection h with h
        injection h with h _
        subst h
        exact hne rfl
  obtain ⟨F, gs, F', R, b, bl, hp, hg, -, rfl, hv, hl, hf⟩ := hyes
  obtain ⟨F2, hg2⟩ := groups_AB hp
  rw [hg2] at hg
  injection hg with hg
  injection hg with hg _
  subst hg
  rw [wid2] at hl hf
  rw [seq_AB] at hf
  obtain rfl := rows_AB hl hf
  have B1 := Lib.hid (b1.trans (hb.mono b1.size))
  have RW := Lib.hid hv.rows
  have RW : Hid (RowsRd w1 (.slice (some ⟨b, 0, none⟩) 2 2) [[2, 0], [1]]) := by
    have := hv.rows
    rw [cast_AB] at this
    exact Lib.hid this
  have LR := Lib.hid (lit_rows w1)
  have SB : Below w1.heap.size w1 (((w1.alloc (.cells #[.int .i64 2, .int .i64 0] 3)).alloc (.cells #[.int .i64 1] 3)).alloc (.cells #[.slice (some ⟨w1.heap.size, 0, none⟩) 2 2, .slice (some ⟨w1.heap.size + 1, 0, none⟩) 1 1] 36)) := (((Below.refl _ _).alloc (Nat.le_refl _) _).alloc (by first | (simp; done) | (simp; omega) | fail) _).alloc (by first | (simp; done) | (simp; omega) | fail) _
  have SR := Lib.hid (sameRows_any (RW.out.keep SB) LR.out (by decide) (by decide))
  have B3 := Lib.hid (B1.out.trans (SB.mono B1.out.size))
  have B1 := B3
  clear hb hout hp hg2 hv hl hf PL b1 LR SB RW B3
  go_wp2_with fail
  refine SR.out.mono ?_
  rintro e w2 ⟨rfl, q, rfl⟩
  have B4 := Lib.hid (B1.out.trans (Below.mono (below_drewN0 _ q) B1.out.size))
  clear B1 SR
  obtain ⟨w2, hw2⟩ : ∃ w2, w2 = (((w1.alloc (.cells #[.int .i64 2, .int .i64 0] 3)).alloc (.cells #[.int .i64 1] 3)).alloc (.cells #[.slice (some ⟨w1.heap.size, 0, none⟩) 2 2, .slice (some ⟨w1.heap.size + 1, 0, none⟩) 1 1] 36)).drewN q := ⟨_, rfl⟩
  rw [← hw2] at B4 ⊢
  clear hw2
  have BT := Lib.hid (bits_yes (c := 1) (lit1_rd w2) chk1)
  rw [sum1] at BT
  go_wp2_with fail
  refine BT.out.mono ?_
  rintro e w3 ⟨rfl, hb3⟩
  have B5 := Lib.hid ((B4.out.alloc B4.out.size _).trans (hb3.mono ((B4.out.alloc B4.out.size _).size)))
  clear BT hb3 B4
  go_wp2_with fail
  go_ret
  exact ⟨rfl, B5.out⟩
end Go.Proofs.YtimpfeadpcjlgaaDoor
