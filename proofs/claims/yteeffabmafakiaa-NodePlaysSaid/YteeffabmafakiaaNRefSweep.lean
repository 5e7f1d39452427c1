/- The document's store: Sweep. -/
import Derived.Test.YteeffabmafakiaaNRefSize
namespace Go.Proofs.Yteeffabmafakiaa
open Go.ChangeShapes Go.WideShapes Go.ChangeAt Go.RowKit

theorem root_rn {V : Nat} {cs : List Nd} (g : NGood V cs) (i : Nat) : Root cs i ↔ i < 2 ∨ ((rn cs i).b = true ∧ 0 < (rn cs i).pins) := by
  constructor
  · rintro (h | ⟨c, hc, hp⟩)
    · exact .inl h
    · have hne : c.asks ≠ -1 := fun e => by
        have := g.gone i c hc e
        rw [this] at hp; exact absurd hp (by simp [Nd.gone])
      rw [rn_is ⟨hc, hne⟩]
      exact .inr ⟨rfl, by show (0 : Int) < c.pins; omega⟩
  · rintro (h | ⟨hb, hp⟩)
    · exact .inl h
    · obtain ⟨c, hc⟩ := rn_yes hb
      rw [rn_is hc] at hp
      have hp : (0 : Int) < c.pins := hp
      exact .inr ⟨c, hc.1, by omega⟩

theorem roots_step {V : Nat} {cs : List Nd} (i : Nat) : (Root cs i → roots V cs (i + 1) = mark cs (V + 1) (roots V cs i) i) ∧ (¬ Root cs i → roots V cs (i + 1) = roots V cs i) := by
  refine ⟨fun h => ?_, fun h => ?_⟩
  · unfold Root at h
    conv => lhs; unfold roots
    rw [if_pos h]
  · unfold Root at h
    conv => lhs; unfold roots
    rw [if_neg h]

theorem roots_all {V : Nat} {cs : List Nd} (g : NGood V cs) : ∀ N, cs.length ≤ N → roots V cs N = roots V cs cs.length := by
  intro N hN
  induction N with
  | zero => rw [show cs.length = 0 by omega]
  | succ n ih =>
    by_cases h : cs.length = n + 1
    · rw [← h]
    · rw [(roots_step n).2, ih (by omega)]
      intro hr
      obtain ⟨c, hc⟩ := root_is g hr
      have := hc.lt; omega

theorem goneTo_all (M : List Nat) (cs : List Nd) : ∀ N, cs.length ≤ N → goneTo M cs N = goneTo M cs cs.length := by
  intro N hN
  induction N with
  | zero => rw [show cs.length = 0 by omega]
  | succ n ih =>
    by_cases h : cs.length = n + 1
    · rw [← h]
    · rw [← ih (by omega)]
      conv => lhs; unfold goneTo
      rw [List.getElem?_eq_none (by omega)]
      split <;> rfl

/-- What the document's Sweep knows of the world. -/
structure SwW (s g N cap : Nat) (h : Hd) (cs : List Nd) (w0 w : World) : Prop where
  bs : w.heap[s]? = some (.cells #[.int .i64 h.V, .int .i64 h.B, .int .i64 h.made, .int .i64 h.sweeps, .slice (some ⟨g, 0, none⟩) N cap] 29 (0, 0))
  br : w.heap[s + 1]? = some (.cells #[.int .i64 0, .int .i64 0, .int .i64 0, .int .i64 0, .slice none 0 0] 29 (0, 0))
  rs : RS w g N cap cs
  below : Below s w0 w
  size : s + 2 ≤ w.heap.size
  g0 : g ≠ s
  g1 : g ≠ s + 1

theorem SwW.keep {s g N cap : Nat} {h : Hd} {cs : List Nd} {w0 w w' : World} (o : SwW s g N cap h cs w0 w) (hb : Below w.heap.size w w') : SwW s g N cap h cs w0 w' :=
  ⟨(hb.block s (by have := o.size; omega)).trans o.bs, (hb.block _ (by have := o.size; omega)).trans o.br, o.rs.keep hb, o.below.trans (hb.mono (by have := o.size; omega)), Nat.le_trans o.size hb.size, o.g0, o.g1⟩

theorem TwoB.sw {s g N cap : Nat} {h : Hd} {cs : List Nd} {w0 w : World} (o : TwoB s g N cap h cs w0 w) : SwW s g N cap h cs w0 w :=
  ⟨o.bs, o.br, o.rs, o.below, o.size, by have := o.gs; omega, by have := o.gs; omega⟩

def SwRel1 (s g N cap : Nat) (h : Hd) (cs : List Nd) (w0 : World) (mv iv : Value) (wr : World) : Prop :=
  ∃ (i gm capm : Nat), i ≤ N ∧ iv = .int .i64 i ∧ mv = .slice (some ⟨gm, 0, none⟩) N capm ∧ BL wr gm (marksL N (roots h.V cs i)) ∧ N ≤ capm ∧ SwW s g N cap h cs w0 wr

theorem rn_sweep_at {M : List Nat} {cs : List Nd} (i : Nat) : rn (sweepTo M cs i) i = rn cs i := by
  unfold rn
  by_cases h : i < cs.length
  · rw [sweepTo_at h]
  · rw [List.getElem?_eq_none (by rw [sweepTo_length]; omega), List.getElem?_eq_none (by omega)]

theorem sw_stay {V : Nat} {M : List Nat} {cs : List Nd} (g : NGood V cs) {i : Nat} (h : (rn cs i).b = false ∨ i ∈ M) : sweepTo M cs (i + 1) = sweepTo M cs i ∧ goneTo M cs (i + 1) = goneTo M cs i := by
  by_cases hm : i ∈ M
  · exact ⟨sweepTo_in hm, goneTo_in hm⟩
  · have hb : (rn cs i).b = false := h.resolve_right hm
    by_cases hl : i < cs.length
    · have hg : cs[i]? = some cs[i] := List.getElem?_eq_getElem hl
      have ha : cs[i].asks = -1 := by
        rcases Decidable.em (cs[i].asks = -1) with h1 | h1
        · exact h1
        · rw [rn_is ⟨hg, h1⟩] at hb; cases hb
      refine ⟨?_, goneTo_free hm hg ha⟩
      rw [sweepTo_out hm]
      apply list_set_same
      rw [sweepTo_at hl, hg, g.gone i _ hg ha]
    · refine ⟨?_, ?_⟩
      · rw [sweepTo_out hm]
        exact List.set_eq_of_length_le (by rw [sweepTo_length]; omega)
      · conv => lhs; unfold goneTo
        rw [if_neg hm, List.getElem?_eq_none (by omega)]
        rfl

theorem sw_drop {M : List Nat} {cs : List Nd} {i : Nat} (hb : (rn cs i).b = true) (hm : i ∉ M) :
    goneTo M cs (i + 1) = goneTo M cs i + 1 ∧ i < cs.length ∧ (∀ j, j ≠ i → rn (sweepTo M cs (i + 1)) j = rn (sweepTo M cs i) j) ∧ rn (sweepTo M cs (i + 1)) i = RN.none := by
  obtain ⟨c, hc⟩ := rn_yes hb
  have hl := hc.lt
  have get := fun j => nget_set (sweepTo M cs i) i j Nd.gone (by rw [sweepTo_length]; exact hl)
  refine ⟨goneTo_is hm hc, hl, fun j hj => ?_, ?_⟩
  · rw [sweepTo_out hm]
    unfold rn
    rw [get, if_neg (fun e => hj e.symm)]
  · rw [sweepTo_out hm]
    unfold rn
    rw [get, if_pos rfl]
    rfl

theorem sweepTo_past {V : Nat} {M : List Nat} {cs : List Nd} (g : NGood V cs) : ∀ N, cs.length ≤ N → sweepTo M cs N = sweepTo M cs cs.length := by
  intro N hN
  induction N with
  | zero => rw [show cs.length = 0 by omega]
  | succ n ih =>
    by_cases h : cs.length = n + 1
    · rw [← h]
    · rw [(sw_stay g (.inl (by unfold rn; rw [List.getElem?_eq_none (by omega)]; rfl))).1, ih (by omega)]

theorem rn_swept {V : Nat} {M : List Nat} {cs : List Nd} (g : NGood V cs) (N i : Nat) (hN : cs.length ≤ N) : rn (swept M cs) i = rn (sweepTo M cs N) i := by
  rw [sweepTo_past g N hN]
  cases hb : (rn (sweepTo M cs cs.length) i).b with
  | true =>
    obtain ⟨c, hc⟩ := rn_yes hb
    obtain ⟨h1, h2⟩ := (sweepTo_is (Nat.le_refl _)).1 hc
    have h3 := h1.lt
    rw [rn_is hc, rn_is (swept_is.2 ⟨h1, h2.resolve_left (by omega)⟩)]
  | false =>
    rw [rn_not hb]
    apply rn_not
    cases hq : (rn (swept M cs) i).b with
    | false => rfl
    | true =>
      obtain ⟨c, hc⟩ := rn_yes hq
      obtain ⟨h1, h2⟩ := swept_is.1 hc
      rw [rn_is ((sweepTo_is (Nat.le_refl _)).2 ⟨h1, .inr h2⟩)] at hb
      cases hb

theorem RS.conv {w : World} {g N cap : Nat} {cs cs' : List Nd} (r : RS w g N cap cs) (h : ∀ i, i < N → rn cs' i = rn cs i) (hl : cs'.length ≤ N) : RS w g N cap cs' := by
  refine ⟨?_, hl, r.cap, r.n⟩
  have e : refL cs' N = refL cs N := by
    unfold refL
    apply List.map_congr_left
    intro i hi
    exact h i (List.mem_range.1 hi)
  rw [e]; exact r.rl

/-- The document's store behind its Sweep's second loop. -/
def SwRel2 (s N gm : Nat) (h : Hd) (cs : List Nd) (M : List Nat) (w0 : World) (nv iv : Value) (wr : World) : Prop :=
  ∃ (i g cap : Nat), i ≤ N ∧ iv = .int .i64 i ∧ nv = .int .i64 (goneTo M cs i) ∧ SwW s g N cap h (sweepTo M cs i) w0 wr ∧ BL wr gm (marksL N M)

theorem goneTo_leN (M : List Nat) (cs : List Nd) : ∀ i, goneTo M cs i ≤ i := by
  intro i
  induction i with
  | zero => exact Nat.le_refl _
  | succ i ih =>
    have : goneTo M cs (i + 1) ≤ goneTo M cs i + 1 := by
      conv => lhs; unfold goneTo
      split
      · omega
      · split
        · split <;> omega
        · omega
    omega

/-- The box of the store is written anew. -/
theorem SwW.put {s g N cap : Nat} {h : Hd} {cs : List Nd} {w0 w : World} (o : SwW s g N cap h cs w0 w) {g' cap' : Nat} {cs' : List Nd} (rs : RS w g' N cap' cs') (h0 : g' ≠ s) (h1 : g' ≠ s + 1) : SwW s g' N cap' h cs' w0 (Fin5 w s h g' N cap') :=
  ⟨fin5 o.bs, ((fin5_turn w s h g' N cap').block _ (by have := o.size; omega) (by omega)).trans o.br, rs.turn (fin5_turn _ _ _ _ _ _) h0, Turn.to_below o.below (fin5_turn _ _ _ _ _ _) (fun i hi => by omega) (by have := o.size; omega), Nat.le_trans o.size (fin5_turn w s h g' N cap').size, h0, h1⟩

theorem BL.turn {w w' : World} {g b : Nat} {l : List Bool} (r : BL w g l) (ht : Turn (fun i => i = b) w w') (hne : g ≠ b) : BL w' g l :=
  ⟨Nat.lt_of_lt_of_le r.lt ht.size, fun j u hu => (World.cell?_of_block (a := ⟨g, j, none⟩) (ht.block g r.lt hne)).trans (r.cell j u hu)⟩

/-- The end of the document's Sweep. -/
theorem SwW.fin {s g N cap : Nat} {h : Hd} {cs cs' : List Nd} {w0 w : World} (o : SwW s g N cap h cs w0 w) (z : Int) (conv : ∀ i, i < N → rn cs' i = rn cs i) (hl : cs'.length ≤ N) :
    (Fin5 (w.setCell ⟨s, 3, none⟩ (.int .i64 z)) (s + 1) { h with sweeps := z } g N cap).heap[s + 1]? = some (.cells #[.int .i64 h.V, .int .i64 h.B, .int .i64 h.made, .int .i64 z, .slice (some ⟨g, 0, none⟩) N cap] 29 (0, 0)) ∧
    RS (Fin5 (w.setCell ⟨s, 3, none⟩ (.int .i64 z)) (s + 1) { h with sweeps := z } g N cap) g N cap cs' ∧ Below s w0 (Fin5 (w.setCell ⟨s, 3, none⟩ (.int .i64 z)) (s + 1) { h with sweeps := z } g N cap) := by
  have t1 : Turn (fun i => i = s) w (w.setCell ⟨s, 3, none⟩ (.int .i64 z)) := by
    refine (Turn.refl (fun i => i = s) w).setCell (p := ⟨s, 3, none⟩) ?_ _
    exact .inl rfl
  have br : (w.setCell ⟨s, 3, none⟩ (.int .i64 z)).heap[s + 1]? = some (.cells #[.int .i64 0, .int .i64 0, .int .i64 0, .int .i64 0, .slice none 0 0] 29 (0, 0)) :=
    (t1.block (s + 1) (by have := o.size; omega) (by omega)).trans o.br
  refine ⟨fin5 br, ((o.rs.conv conv hl).turn t1 o.g0).turn (fin5_turn _ _ _ _ _ _) o.g1, ?_⟩
  have b1 := Turn.to_below o.below t1 (fun i hi => by omega) (by have := o.size; omega)
  exact Turn.to_below b1 (fin5_turn _ _ _ _ _ _) (fun i hi => by omega) (by have := t1.size; have := o.size; omega)

/-- The marks' block is not the store's. -/
theorem SwW.bl_ne {s g N cap gm : Nat} {h : Hd} {cs : List Nd} {l : List Nat} {w0 w : World} (o : SwW s g N cap h cs w0 w) (hb : BL w gm (marksL N l)) (hN : 0 < N) : gm ≠ s := by
  rintro rfl
  have h1 := hb.at hN
  have h2 := cell_of_row _ gm 0 _ _ _ o.bs
  rw [h1] at h2
  simp at h2

set_option maxHeartbeats 4000000 in
set_option maxRecDepth 100000 in
theorem rsweep_any {w : World} {g N cap : Nat} {cs : List Nd} (rs : RS w g N cap cs) (h : Hd) (gd : NGood h.V cs) (hs0 : 0 ≤ h.sweeps) (hs1 : h.sweeps ≤ 1000000) :
    Calls Try.prog 27 #[rsV h g N cap] w fun e w' => ∃ g' cap', e = .returned (.tuple #[rsV { h with sweeps := h.sweeps + 1 } g' N cap', .int .i64 (goneTo (roots h.V cs cs.length) cs cs.length)]) ∧ RS w' g' N cap' (swept (roots h.V cs cs.length) cs) ∧ Below w.heap.size w w' := by
  have T0 := Lib.hid (TwoB.start (h := h) rs).sw
  have hmk := run_make_marks N rs.n
  have hn := rs.n
  have hn' : (N : Int) ≤ 1000000 := by omega
  have HLE := Lib.hid rs.le
  have HNN := Lib.hid rs.n
  have HN0 : Hid (0 < N) := by show _ < _; have := gd.len; have := rs.le; omega
  obtain ⟨L, hL⟩ : ∃ L, ((marksL N []).map Value.bool).toArray = L := ⟨_, rfl⟩
  have MB : Hid (∀ w : World, BL (w.alloc (.cells L 4)) w.heap.size (marksL N [])) := by
    intro w; rw [← hL]; exact made_bl w N
  rw [hL] at hmk
  clear rs hn hL
  unfold rsV
  have a4 := cell_of_row _ w.heap.size 4 _ _ _ T0.out.bs
  simp at a4
  go_enter Try.func27, Try.ntmps27
  go_wp2_with fail
  have R0 : Hid (SwRel1 w.heap.size g N cap h cs w (.slice (some ⟨w.heap.size + 1 + 1, 0, none⟩) N N) (.int .i64 0) (((w.alloc (.cells #[.int .i64 h.V, .int .i64 h.B, .int .i64 h.made, .int .i64 h.sweeps, .slice (some ⟨g, 0, none⟩) N cap] 29)).alloc (.cells #[.int .i64 0, .int .i64 0, .int .i64 0, .int .i64 0, .slice none 0 0] 29)).alloc (.cells L 4))) := by
    have hb := MB.out ((w.alloc (.cells #[.int .i64 h.V, .int .i64 h.B, .int .i64 h.made, .int .i64 h.sweeps, .slice (some ⟨g, 0, none⟩) N cap] 29)).alloc (.cells #[.int .i64 0, .int .i64 0, .int .i64 0, .int .i64 0, .slice none 0 0] 29))
    simp only [World.size_alloc] at hb
    exact ⟨0, w.heap.size + 1 + 1, N, Nat.zero_le _, rfl, rfl, hb, Nat.le_refl _, T0.out.keep ((Below.refl _ _).alloc (Nat.le_refl _) _)⟩
  clear a4 hmk MB T0
  go_loopw [4, 5] (fun mv iv wr => SwRel1 w.heap.size g N cap h cs w mv iv wr) (fun _ iv _ => N - (intOf iv).toNat)
  case atStart => exact R0.out
  case round =>
    clear R0
    obtain ⟨i, gm, capm, hi, rfl, rfl, hbl, hcm, hsw⟩ := hrel
    have SW := Lib.hid hsw
    have BLM := Lib.hid hbl
    have HCM := Lib.hid hcm
    have a0 := cell_of_row _ w.heap.size 0 _ _ _ hsw.bs
    have a1 := cell_of_row _ w.heap.size 1 _ _ _ hsw.bs
    have a2 := cell_of_row _ w.heap.size 2 _ _ _ hsw.bs
    have a3 := cell_of_row _ w.heap.size 3 _ _ _ hsw.bs
    have a4 := cell_of_row _ w.heap.size 4 _ _ _ hsw.bs
    simp at a0 a1 a2 a3 a4
    clear hbl hcm hsw
    by_cases hlt : i < N
    · obtain ⟨e0, _, _, _, e4⟩ := SW.out.rs.rl.cells (refL_get cs N i hlt)
      have RST := roots_step (V := h.V) (cs := cs) i
      have RR := root_rn gd i
      by_cases hroot : Root cs i
      · obtain ⟨c, hc⟩ := root_is gd hroot
        have RY := Lib.hid (RST.1 hroot)
        have OFC := of_any gd (h.V + 1) i c (roots h.V cs i) wr g cap gm capm hc (rk_le gd hc) SW.out.rs BLM.out HCM.out
        unfold rsV at OFC
        have OFC := Lib.hid OFC
        have hcase := RR.1 hroot
        clear RST RR hroot hc
        by_cases h2 : i < 2
        · have h2' : (i : Int) < 2 := by omega
          clear hcase h2 e0 e4
          go_wp2_with fail
          refine OFC.out.mono ?_
          rintro e w2 ⟨g2, cap2, rfl, hb2, hc2, hbel2⟩
          have N2 : Hid (SwRel1 w.heap.size g N cap h cs w (.slice (some ⟨g2, 0, none⟩) N cap2) (.int .i64 ((i : Int) + 1)) w2) :=
            ⟨i + 1, g2, cap2, by omega, by push_cast; rfl, rfl, by rw [RY.out]; exact hb2, hc2, SW.out.keep hbel2⟩
          clear hb2 hc2 hbel2 a0 a1 a2 a3 a4
          go_wp2_with fail
          go_roundw
          case rel => exact N2.out
          case measure => simp [intOf]; omega
        · obtain ⟨hb, hp⟩ := hcase.resolve_left h2
          have h2' : ¬ (i : Int) < 2 := by omega
          rw [hb] at e0
          clear hcase h2 hb
          go_wp2_with fail
          refine OFC.out.mono ?_
          rintro e w2 ⟨g2, cap2, rfl, hb2, hc2, hbel2⟩
          have N2 : Hid (SwRel1 w.heap.size g N cap h cs w (.slice (some ⟨g2, 0, none⟩) N cap2) (.int .i64 ((i : Int) + 1)) w2) :=
            ⟨i + 1, g2, cap2, by omega, by push_cast; rfl, rfl, by rw [RY.out]; exact hb2, hc2, SW.out.keep hbel2⟩
          clear hb2 hc2 hbel2 a0 a1 a2 a3 a4 e0 e4
          go_wp2_with fail
          go_roundw
          case rel => exact N2.out
          case measure => simp [intOf]; omega
      · have RN' := Lib.hid (RST.2 hroot)
        have hno : ¬ (i < 2 ∨ ((rn cs i).b = true ∧ 0 < (rn cs i).pins)) := fun q => hroot (RR.2 q)
        have N2 : Hid (SwRel1 w.heap.size g N cap h cs w (.slice (some ⟨gm, 0, none⟩) N capm) (.int .i64 ((i : Int) + 1)) wr) :=
          ⟨i + 1, gm, capm, by omega, by push_cast; rfl, rfl, by rw [RN'.out]; exact BLM.out, HCM.out, SW.out⟩
        clear RST RR hroot
        have h2' : ¬ (i : Int) < 2 := by omega
        by_cases hb : (rn cs i).b = true
        · have hp : ¬ 0 < (rn cs i).pins := fun q => hno (.inr ⟨hb, q⟩)
          rw [hb] at e0
          clear hno hb
          go_wp2_with fail
          go_roundw
          case rel => exact N2.out
          case measure => simp [intOf]; omega
        · have hb : (rn cs i).b = false := by simpa using hb
          rw [hb] at e0
          clear hno hb e4
          go_wp2_with fail
          go_roundw
          case rel => exact N2.out
          case measure => simp [intOf]; omega
    · obtain rfl : i = N := by omega
      have R1 : Hid (SwRel2 w.heap.size i gm h cs (roots h.V cs cs.length) w (.int .i64 0) (.int .i64 0) wr) := by
        refine ⟨0, g, cap, Nat.zero_le _, rfl, rfl, SW.out, ?_⟩
        rw [← roots_all gd i HLE.out]; exact BLM.out
      clear hlt SW BLM
      have GA := Lib.hid (goneTo_all (roots h.V cs cs.length) cs i HLE.out)
      have GV := Lib.hid (sweepTo_past (M := roots h.V cs cs.length) gd i HLE.out)
      have RSW := Lib.hid (fun j => rn_swept (M := roots h.V cs cs.length) gd i j HLE.out)
      have SLE : Hid ((swept (roots h.V cs cs.length) cs).length ≤ i) := by
        show _ ≤ _
        have : (swept (roots h.V cs cs.length) cs).length ≤ cs.length := by unfold swept; rw [List.length_take, sweepTo_length]; exact Nat.min_le_right _ _
        have := HLE.out; omega
      have STAY := Lib.hid (fun (j : Nat) (q : (rn cs j).b = false ∨ j ∈ roots h.V cs cs.length) => sw_stay gd q)
      clear gd
      obtain ⟨M, hM⟩ : ∃ M, M = roots h.V cs cs.length := ⟨_, rfl⟩
      have HM := Lib.hid hM
      rw [← hM] at R1 GA GV RSW SLE STAY
      clear hM
      go_wp2_with fail
      clear a0 a1 a2 a3 a4
      go_loopw [6, 7] (fun nv iv wr => SwRel2 w.heap.size i gm h cs M w nv iv wr) (fun _ iv _ => i - (intOf iv).toNat)
      case atStart => exact R1.out
      case round =>
        clear R1
        obtain ⟨j, g1, cap1, hj, rfl, rfl, hsw, hbl⟩ := hrel
        have SW := Lib.hid hsw
        have BLM := Lib.hid hbl
        have GNE := Lib.hid (hsw.bl_ne hbl HN0.out)
        have hgl : (goneTo M cs j : Int) ≤ 1000000 := by have := goneTo_leN M cs j; omega
        have a0 := cell_of_row _ w.heap.size 0 _ _ _ hsw.bs
        have a1 := cell_of_row _ w.heap.size 1 _ _ _ hsw.bs
        have a2 := cell_of_row _ w.heap.size 2 _ _ _ hsw.bs
        have a3 := cell_of_row _ w.heap.size 3 _ _ _ hsw.bs
        have a4 := cell_of_row _ w.heap.size 4 _ _ _ hsw.bs
        have af := fun o => frozen_of_row _ w.heap.size o _ _ hsw.bs
        simp at a0 a1 a2 a3 a4
        clear hbl hsw
        by_cases hlt : j < i
        · obtain ⟨e0, _, _, _, e4⟩ := SW.out.rs.rl.cells (refL_get _ i j hlt)
          rw [rn_sweep_at] at e0
          have d0 := BLM.out.at hlt
          by_cases hb : (rn cs j).b = true
          · rw [hb] at e0
            by_cases hm : j ∈ M
            · have ST := Lib.hid (STAY.out j (.inr hm))
              rw [decide_eq_true hm] at d0
              have N2 : Hid (SwRel2 w.heap.size i gm h cs M w (.int .i64 (goneTo M cs j)) (.int .i64 ((j : Int) + 1)) wr) :=
                ⟨j + 1, g1, cap1, by omega, by push_cast; rfl, by rw [ST.out.2], by rw [ST.out.1]; exact SW.out, BLM.out⟩
              clear hm hb
              go_wp2_with fail
              go_roundw
              case rel => exact N2.out
              case measure => simp [intOf]; omega
            · obtain ⟨dg, dl, dr, dn⟩ := sw_drop hb hm
              rw [decide_eq_false hm] at d0
              have WR := rwith_any h RN.none SW.out.rs.rl (refL_length _ i) SW.out.rs.cap SW.out.rs.n (Nat.le_of_lt hlt)
              have WR : Hid (Calls Try.prog 39 #[rsV h g1 i cap1, .int .i64 (j : Int), nodeR RN.none] wr fun e w' => ∃ g' cap', e = .returned (rsV h g' i cap') ∧ RS w' g' i cap' (sweepTo M cs (j + 1)) ∧ wr.heap.size ≤ g' ∧ Below wr.heap.size wr w') := by
                refine WR.mono fun e w' o => ?_
                have q := with_rs (h := h) (cs' := sweepTo M cs (j + 1)) (Nat.le_of_lt hlt) dr dn (by rw [if_pos hlt, sweepTo_length]; exact HLE.out) (by rw [if_pos hlt]; exact HNN.out) o
                rw [if_pos hlt] at q
                exact q
              unfold rsV nodeR RN.none at WR
              have DG := Lib.hid dg
              clear hb hm dl dr dn dg
              go_wp2_with fail
              refine WR.out.mono ?_
              rintro e w2 ⟨g2, cap2, rfl, hrs2, hgg2, hbel2⟩
              have SW2 := Lib.hid (SW.out.keep hbel2)
              have SP := Lib.hid (SW2.out.put hrs2 (by have := SW.out.size; omega) (by have := SW.out.size; omega))
              have N2 : Hid (SwRel2 w.heap.size i gm h cs M w (.int .i64 ((goneTo M cs j : Int) + 1)) (.int .i64 ((j : Int) + 1)) (Fin5 w2 w.heap.size h g2 i cap2)) :=
                ⟨j + 1, g2, cap2, by omega, by push_cast; rfl, by rw [DG.out]; push_cast; rfl, SP.out, (BLM.out.keep hbel2).turn (fin5_turn _ _ _ _ _ _) GNE.out⟩
              clear a0 a1 a2 a3 a4 af e0 e4 d0 hrs2 hgg2 hbel2
              have a0 := cell_of_row _ w.heap.size 0 _ _ _ SW2.out.bs
              have a1 := cell_of_row _ w.heap.size 1 _ _ _ SW2.out.bs
              have a2 := cell_of_row _ w.heap.size 2 _ _ _ SW2.out.bs
              have a3 := cell_of_row _ w.heap.size 3 _ _ _ SW2.out.bs
              have a4 := cell_of_row _ w.heap.size 4 _ _ _ SW2.out.bs
              have af := fun o => frozen_of_row _ w.heap.size o _ _ SW2.out.bs
              simp at a0 a1 a2 a3 a4
              go_wp2_with fail
              go_roundw
              case rel => exact N2.out
              case measure => simp [intOf]; omega
          · have hb : (rn cs j).b = false := by simpa using hb
            rw [hb] at e0
            have ST := Lib.hid (STAY.out j (.inl hb))
            have N2 : Hid (SwRel2 w.heap.size i gm h cs M w (.int .i64 (goneTo M cs j)) (.int .i64 ((j : Int) + 1)) wr) :=
              ⟨j + 1, g1, cap1, by omega, by push_cast; rfl, by rw [ST.out.2], by rw [ST.out.1]; exact SW.out, BLM.out⟩
            clear hb d0
            go_wp2_with fail
            go_roundw
            case rel => exact N2.out
            case measure => simp [intOf]; omega
        · obtain rfl : j = i := by omega
          clear hlt BLM hgl
          have FIN := Lib.hid (SW.out.fin (h.sweeps + 1) (cs' := swept M cs) (fun q _ => RSW.out q) SLE.out)
          have r0 := cell_of_row _ (w.heap.size + 1) 0 _ _ _ SW.out.br
          have r1 := cell_of_row _ (w.heap.size + 1) 1 _ _ _ SW.out.br
          have r2 := cell_of_row _ (w.heap.size + 1) 2 _ _ _ SW.out.br
          have r3 := cell_of_row _ (w.heap.size + 1) 3 _ _ _ SW.out.br
          have r4 := cell_of_row _ (w.heap.size + 1) 4 _ _ _ SW.out.br
          have rf := fun o => frozen_of_row _ (w.heap.size + 1) o _ _ SW.out.br
          simp at r0 r1 r2 r3 r4
          go_wp2_with fail
          clear a0 a1 a2 a3 a4 af r0 r1 r2 r3 r4 rf
          have FIN := FIN.out
          change bodyPost Try.prog _ _ _ _ (Fin5 (wr.setCell ⟨w.heap.size, 3, none⟩ (.int .i64 (h.sweeps + 1))) (w.heap.size + 1) { h with sweeps := h.sweeps + 1 } g1 j cap1)
          revert FIN
          generalize Fin5 (wr.setCell ⟨w.heap.size, 3, none⟩ (.int .i64 (h.sweeps + 1))) (w.heap.size + 1) { h with sweeps := h.sweeps + 1 } g1 j cap1 = wf
          intro FIN
          obtain ⟨hf, F1, F2⟩ := FIN
          have e0 := cell_of_row wf _ 0 _ _ _ hf
          have e1 := cell_of_row wf _ 1 _ _ _ hf
          have e2 := cell_of_row wf _ 2 _ _ _ hf
          have e3 := cell_of_row wf _ 3 _ _ _ hf
          have e4 := cell_of_row wf _ 4 _ _ _ hf
          simp at e0 e1 e2 e3 e4
          refine bodyPost_ret (v := .tuple #[.agg #[.int .i64 h.V, .int .i64 h.B, .int .i64 h.made, .int .i64 (h.sweeps + 1), .slice (some ⟨g1, 0, none⟩) j cap1], .int .i64 (goneTo M cs j)]) (by simp [results, Try.results27, go_sem, e0, e1, e2, e3, e4]) rfl ?_
          rw [GA.out, HM.out]
          rw [HM.out] at F1
          exact ⟨_, _, rfl, F1, F2⟩
end Go.Proofs.Yteeffabmafakiaa
