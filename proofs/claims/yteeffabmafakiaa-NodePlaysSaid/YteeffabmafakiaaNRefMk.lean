/- The document's store: Mk. -/
import Derived.Test.YteeffabmafakiaaNRefMkA
namespace Go.Proofs.Yteeffabmafakiaa
open Go.ChangeShapes Go.WideShapes Go.ChangeAt Go.RowKit

set_option maxHeartbeats 4000000 in
set_option maxRecDepth 100000 in
theorem rmk_same {w : World} {g N cap : Nat} {cs : List Nd} (rs : RS w g N cap cs) (h : Hd) {a : Nat} {ca : Nd} (v : Int) (h0 : 0 ≤ v) (h1 : v < h.V) (ha : Is cs a ca) (hva : v < ca.asks) :
    Calls Try.prog 17 #[rsV h g N cap, .int .i64 v, .int .i64 (a : Int), .int .i64 (a : Int)] w (RMOut h N cs a 0 w) := by
  have HIA := Lib.hid ha
  have HIB := Lib.hid ha
  clear ha
  have TB := Lib.hid (TwoB.start (h := h) rs)
  have HAx := ris_any TB.out.rs h (a : Int)
  rw [thereB_is HIA.out] at HAx
  unfold rsV at HAx
  have HA := Lib.hid HAx
  clear HAx
  clear rs
  unfold rsV
  have a0 := cell_of_row _ (w.heap.size) 0 _ _ _ TB.out.bs
  have a1 := cell_of_row _ (w.heap.size) 1 _ _ _ TB.out.bs
  have a2 := cell_of_row _ (w.heap.size) 2 _ _ _ TB.out.bs
  have a3 := cell_of_row _ (w.heap.size) 3 _ _ _ TB.out.bs
  have a4 := cell_of_row _ (w.heap.size) 4 _ _ _ TB.out.bs
  have af := fun o => frozen_of_row _ (w.heap.size) o _ _ TB.out.bs
  simp at a0 a1 a2 a3 a4
  have r0 := cell_of_row _ (w.heap.size + 1) 0 _ _ _ TB.out.br
  have r1 := cell_of_row _ (w.heap.size + 1) 1 _ _ _ TB.out.br
  have r2 := cell_of_row _ (w.heap.size + 1) 2 _ _ _ TB.out.br
  have r3 := cell_of_row _ (w.heap.size + 1) 3 _ _ _ TB.out.br
  have r4 := cell_of_row _ (w.heap.size + 1) 4 _ _ _ TB.out.br
  have rf := fun o => frozen_of_row _ (w.heap.size + 1) o _ _ TB.out.br
  simp at r0 r1 r2 r3 r4
  go_enter Try.func17, Try.ntmps17
  go_wp2_with fail
  refine HA.out.mono ?_
  rintro e w2 ⟨rfl, hb⟩
  have TB' := Lib.hid (TB.out.keep hb)
  clear hb TB a0 a1 a2 a3 a4 af r0 r1 r2 r3 r4 rf
  have TB := TB'
  clear TB'
  have a0 := cell_of_row _ (w.heap.size) 0 _ _ _ TB.out.bs
  have a1 := cell_of_row _ (w.heap.size) 1 _ _ _ TB.out.bs
  have a2 := cell_of_row _ (w.heap.size) 2 _ _ _ TB.out.bs
  have a3 := cell_of_row _ (w.heap.size) 3 _ _ _ TB.out.bs
  have a4 := cell_of_row _ (w.heap.size) 4 _ _ _ TB.out.bs
  have af := fun o => frozen_of_row _ (w.heap.size) o _ _ TB.out.bs
  simp at a0 a1 a2 a3 a4
  have r0 := cell_of_row _ (w.heap.size + 1) 0 _ _ _ TB.out.br
  have r1 := cell_of_row _ (w.heap.size + 1) 1 _ _ _ TB.out.br
  have r2 := cell_of_row _ (w.heap.size + 1) 2 _ _ _ TB.out.br
  have r3 := cell_of_row _ (w.heap.size + 1) 3 _ _ _ TB.out.br
  have r4 := cell_of_row _ (w.heap.size + 1) 4 _ _ _ TB.out.br
  have rf := fun o => frozen_of_row _ (w.heap.size + 1) o _ _ TB.out.br
  simp at r0 r1 r2 r3 r4
  clear HA
  have HBx := ris_any TB.out.rs h (a : Int)
  rw [thereB_is HIB.out] at HBx
  unfold rsV at HBx
  have HB := Lib.hid HBx
  clear HBx
  go_wp2_with fail
  refine HB.out.mono ?_
  rintro e w3 ⟨rfl, hb⟩
  have TB' := Lib.hid (TB.out.keep hb)
  clear hb TB a0 a1 a2 a3 a4 af r0 r1 r2 r3 r4 rf
  have TB := TB'
  clear TB'
  have a0 := cell_of_row _ (w.heap.size) 0 _ _ _ TB.out.bs
  have a1 := cell_of_row _ (w.heap.size) 1 _ _ _ TB.out.bs
  have a2 := cell_of_row _ (w.heap.size) 2 _ _ _ TB.out.bs
  have a3 := cell_of_row _ (w.heap.size) 3 _ _ _ TB.out.bs
  have a4 := cell_of_row _ (w.heap.size) 4 _ _ _ TB.out.bs
  have af := fun o => frozen_of_row _ (w.heap.size) o _ _ TB.out.bs
  simp at a0 a1 a2 a3 a4
  have r0 := cell_of_row _ (w.heap.size + 1) 0 _ _ _ TB.out.br
  have r1 := cell_of_row _ (w.heap.size + 1) 1 _ _ _ TB.out.br
  have r2 := cell_of_row _ (w.heap.size + 1) 2 _ _ _ TB.out.br
  have r3 := cell_of_row _ (w.heap.size + 1) 3 _ _ _ TB.out.br
  have r4 := cell_of_row _ (w.heap.size + 1) 4 _ _ _ TB.out.br
  have rf := fun o => frozen_of_row _ (w.heap.size + 1) o _ _ TB.out.br
  simp at r0 r1 r2 r3 r4
  clear HB
  obtain ⟨hla, _, d1, _, _, _⟩ := TB.out.rs.row HIA.out
  go_wp2_with fail
  clear a0 a1 a2 a3 a4 af r0 r1 r2 r3 r4 rf d1
  have FIN := TB.out.fin (h' := h) (g' := g) (N' := N) (cap' := cap) TB.out.rs (by have := TB.out.gs; omega)
  change bodyPost Try.prog _ _ _ _ (Fin5 w3 (w.heap.size + 1) h g N cap)
  revert FIN
  generalize Fin5 w3 (w.heap.size + 1) h g N cap = wf
  intro FIN
  obtain ⟨hf, F1, F2⟩ := FIN
  have e0 := cell_of_row wf _ 0 _ _ _ hf
  have e1 := cell_of_row wf _ 1 _ _ _ hf
  have e2 := cell_of_row wf _ 2 _ _ _ hf
  have e3 := cell_of_row wf _ 3 _ _ _ hf
  have e4 := cell_of_row wf _ 4 _ _ _ hf
  simp at e0 e1 e2 e3 e4
  exact bodyPost_ret (v := .tuple #[.agg #[.int .i64 (h).V, .int .i64 (h).B, .int .i64 (h).made, .int .i64 (h).sweeps, .slice (some ⟨g, 0, none⟩) N cap], .int .i64 (a : Int), .int .i64 0]) (by simp [results, Try.results17, go_sem, e0, e1, e2, e3, e4]) rfl ⟨_, _, rfl, F1, F2⟩

/-- The least free number from i on. -/
def FreeTo (cs : List Nd) (N i f : Nat) : Prop := i ≤ f ∧ f ≤ N ∧ (f < N → (rn cs f).b = false) ∧ ∀ j, i ≤ j → j < f → (rn cs j).b = true
def NoKey (cs : List Nd) (N i : Nat) (v : Int) (a b : Nat) : Prop := ∀ j ck, i ≤ j → j < N → Is cs j ck → ck.key ≠ ⟨v, a, b⟩

theorem FreeTo.start (cs : List Nd) (N : Nat) : FreeTo cs N N N := ⟨Nat.le_refl _, Nat.le_refl _, fun h => by omega, fun j h1 h2 => by omega⟩
theorem FreeTo.free {cs : List Nd} {N i : Nat} (hi : i < N) (hb : (rn cs i).b = false) : FreeTo cs N i i :=
  ⟨Nat.le_refl _, by omega, fun _ => hb, fun j h1 h2 => by omega⟩
theorem FreeTo.used {cs : List Nd} {N i f : Nat} (hf : FreeTo cs N (i + 1) f) (hb : (rn cs i).b = true) : FreeTo cs N i f := by
  obtain ⟨h1, h2, h3, h4⟩ := hf
  refine ⟨by omega, h2, h3, fun j q1 q2 => ?_⟩
  by_cases e : j = i
  · rw [e]; exact hb
  · exact h4 j (by omega) q2
theorem FreeTo.done {V : Nat} {cs : List Nd} {N f : Nat} (g : NGood V cs) (hN : cs.length ≤ N) (hf : FreeTo cs N 2 f) : Free cs f ∧ 2 ≤ f ∧ ∀ j, j < f → ∃ d, Is cs j d := by
  obtain ⟨h1, h2, h3, h4⟩ := hf
  have h5 : f ≤ cs.length := by
    rcases Nat.lt_or_ge cs.length f with hlt | hge
    · have := h4 cs.length (by have := g.len; omega) hlt
      obtain ⟨c, hc⟩ := rn_yes this
      have := hc.lt; omega
    · exact hge
  refine ⟨⟨h5, fun c hc => ?_⟩, h1, fun j hj => ?_⟩
  · have hlt : f < cs.length := (List.getElem?_eq_some_iff.1 hc).1
    have hb := h3 (by omega)
    rcases Decidable.em (c.asks = -1) with q | q
    · exact q
    · rw [rn_is ⟨hc, q⟩] at hb; cases hb
  · by_cases q : j < 2
    · have hl := g.len
      rcases (show j = 0 ∨ j = 1 by omega) with rfl | rfl
      · obtain ⟨p, hp⟩ := g.is0; exact ⟨_, hp⟩
      · obtain ⟨p, hp⟩ := g.is1; exact ⟨_, hp⟩
    · exact rn_yes (h4 j (by omega) hj)
theorem NoKey.start (cs : List Nd) (N : Nat) (v : Int) (a b : Nat) : NoKey cs N N v a b := fun j ck h1 h2 => by omega
theorem NoKey.step {cs : List Nd} {N i : Nat} {v : Int} {a b : Nat} (h : NoKey cs N (i + 1) v a b) (hi : ∀ ck, Is cs i ck → ck.key ≠ ⟨v, a, b⟩) : NoKey cs N i v a b := by
  intro j ck h1 h2 hk
  by_cases e : j = i
  · subst e; exact hi ck hk
  · exact h j ck (by omega) h2 hk

/-- What the document's Mk answers, of three that are right. -/
def RMkOut (h : Hd) (N : Nat) (cs : List Nd) (v : Int) (a b : Nat) (w : World) (e : Ending) (w' : World) : Prop :=
  (∃ j ck, 2 ≤ j ∧ Is cs j ck ∧ ck.key = ⟨v, a, b⟩ ∧ RMOut h N cs j 0 w e w') ∨
  ((∀ j ck, 2 ≤ j → Is cs j ck → ck.key ≠ ⟨v, a, b⟩) ∧ h.B ≤ cnt cs ∧ RMOut h N cs 0 30 w e w') ∨
  ((∀ j ck, 2 ≤ j → Is cs j ck → ck.key ≠ ⟨v, a, b⟩) ∧ cnt cs < h.B ∧ ∃ f, Free cs f ∧ 2 ≤ f ∧ (∀ j, j < f → ∃ d, Is cs j d) ∧
    RMOut { h with made := h.made + 1 } (if f < N then N else N + 1) (addAt cs f ⟨v, a, b, 0⟩) f 0 w e w')

theorem TwoB.setMade {s g N cap : Nat} {h : Hd} {cs : List Nd} {w0 w : World} (o : TwoB s g N cap h cs w0 w) (z : Int) : TwoB s g N cap { h with made := z } cs w0 (w.setCell ⟨s, 2, none⟩ (.int .i64 z)) := by
  have t1 : Turn (fun i => i = s) w (w.setCell ⟨s, 2, none⟩ (.int .i64 z)) := by
    refine (Turn.refl (fun i => i = s) w).setCell (p := ⟨s, 2, none⟩) ?_ _
    exact .inl rfl
  have h1 := heap_setCell_same _ _ 2 _ _ (.int .i64 z) o.bs
  rw [show (#[.int .i64 h.V, .int .i64 h.B, .int .i64 h.made, .int .i64 h.sweeps, .slice (some ⟨g, 0, none⟩) N cap] : Array Value).setIfInBounds 2 (.int .i64 z) = #[.int .i64 h.V, .int .i64 h.B, .int .i64 z, .int .i64 h.sweeps, .slice (some ⟨g, 0, none⟩) N cap] from rfl] at h1
  exact ⟨h1, (t1.block (s + 1) (by have := o.size; omega) (by omega)).trans o.br, o.rs.turn t1 (by have := o.gs; omega), Turn.to_below o.below t1 (fun i hi => by omega) (by have := o.size; omega), Nat.le_trans o.size t1.size, o.gs⟩

theorem rn_add {cs : List Nd} {k : Nat} {c : Nd} (hf : Free cs k) (hc : c.asks ≠ -1) : (∀ i, i ≠ k → rn (addAt cs k c) i = rn cs i) ∧ rn (addAt cs k c) k = ⟨true, c.asks, c.low, c.high, c.pins⟩ := by
  have get := addAt_get cs k c hf.1
  refine ⟨fun i hi => ?_, rn_is ⟨by rw [get, if_pos rfl], hc⟩⟩
  unfold rn
  rw [get, if_neg (fun e => hi e.symm)]
theorem addAt_len {cs : List Nd} {k N : Nat} (c : Nd) (hf : Free cs k) (hN : cs.length ≤ N) : (addAt cs k c).length ≤ if k < N then N else N + 1 := by
  have := hf.1
  unfold addAt
  by_cases h : k = cs.length
  · rw [if_pos h, List.length_append]; simp only [List.length_cons, List.length_nil]; split <;> omega
  · rw [if_neg h, List.length_set]; split <;> omega

def MkRel (s g N cap : Nat) (h : Hd) (cs : List Nd) (v : Int) (a b : Nat) (w0 : World) (fv iv : Value) (wr : World) : Prop :=
  ∃ (i f : Nat), 2 ≤ i ∧ i ≤ N ∧ iv = .int .i64 ((i : Int) - 1) ∧ fv = .int .i64 f ∧ FreeTo cs N i f ∧ NoKey cs N i v a b ∧ TwoB s g N cap h cs w0 wr

set_option maxHeartbeats 4000000 in
set_option maxRecDepth 100000 in
theorem rmk_any {w : World} {g N cap : Nat} {cs : List Nd} (rs : RS w g N cap cs) (h : Hd) (gd : NGood h.V cs) (hN : N < 1000000) (hm0 : 0 ≤ h.made) (hm1 : h.made ≤ 1000000) {a b : Nat} {ca cb : Nd} (v : Int) (h0 : 0 ≤ v) (h1 : v < h.V) (ha : Is cs a ca) (hva : v < ca.asks) (hb : Is cs b cb) (hvb : v < cb.asks) (hab : a ≠ b) :
    Calls Try.prog 17 #[rsV h g N cap, .int .i64 v, .int .i64 (a : Int), .int .i64 (b : Int)] w (RMkOut h N cs v a b w) := by
  have HIA := Lib.hid ha
  have HIB := Lib.hid hb
  have HLE := Lib.hid rs.le
  have HAB := Lib.hid hab
  have hN2 : 2 ≤ N := by have := gd.len; have := rs.le; omega
  have hN2' : (2 : Int) ≤ N := by omega
  have hN' : (N : Int) < 1000000 := by omega
  have hab' : ¬ ((a : Int) = (b : Int)) := by omega
  have GD := Lib.hid gd
  have HM0 := Lib.hid hm0
  have HNLT := Lib.hid hN
  have HM1 := Lib.hid hm1
  clear ha hb hN gd hm0 hm1 hab
  have hN'' : (N : Int) ≤ 1000000 := by omega
  clear hN'
  have TB := Lib.hid (TwoB.start (h := h) rs)
  have HAx := ris_any TB.out.rs h (a : Int)
  rw [thereB_is HIA.out] at HAx
  unfold rsV at HAx
  have HA := Lib.hid HAx
  clear HAx
  clear rs
  unfold rsV
  have a0 := cell_of_row _ (w.heap.size) 0 _ _ _ TB.out.bs
  have a1 := cell_of_row _ (w.heap.size) 1 _ _ _ TB.out.bs
  have a2 := cell_of_row _ (w.heap.size) 2 _ _ _ TB.out.bs
  have a3 := cell_of_row _ (w.heap.size) 3 _ _ _ TB.out.bs
  have a4 := cell_of_row _ (w.heap.size) 4 _ _ _ TB.out.bs
  have af := fun o => frozen_of_row _ (w.heap.size) o _ _ TB.out.bs
  simp at a0 a1 a2 a3 a4
  have r0 := cell_of_row _ (w.heap.size + 1) 0 _ _ _ TB.out.br
  have r1 := cell_of_row _ (w.heap.size + 1) 1 _ _ _ TB.out.br
  have r2 := cell_of_row _ (w.heap.size + 1) 2 _ _ _ TB.out.br
  have r3 := cell_of_row _ (w.heap.size + 1) 3 _ _ _ TB.out.br
  have r4 := cell_of_row _ (w.heap.size + 1) 4 _ _ _ TB.out.br
  have rf := fun o => frozen_of_row _ (w.heap.size + 1) o _ _ TB.out.br
  simp at r0 r1 r2 r3 r4
  go_enter Try.func17, Try.ntmps17
  go_wp2_with fail
  refine HA.out.mono ?_
  rintro e w2 ⟨rfl, hb⟩
  have TB' := Lib.hid (TB.out.keep hb)
  clear hb TB a0 a1 a2 a3 a4 af r0 r1 r2 r3 r4 rf
  have TB := TB'
  clear TB'
  have a0 := cell_of_row _ (w.heap.size) 0 _ _ _ TB.out.bs
  have a1 := cell_of_row _ (w.heap.size) 1 _ _ _ TB.out.bs
  have a2 := cell_of_row _ (w.heap.size) 2 _ _ _ TB.out.bs
  have a3 := cell_of_row _ (w.heap.size) 3 _ _ _ TB.out.bs
  have a4 := cell_of_row _ (w.heap.size) 4 _ _ _ TB.out.bs
  have af := fun o => frozen_of_row _ (w.heap.size) o _ _ TB.out.bs
  simp at a0 a1 a2 a3 a4
  have r0 := cell_of_row _ (w.heap.size + 1) 0 _ _ _ TB.out.br
  have r1 := cell_of_row _ (w.heap.size + 1) 1 _ _ _ TB.out.br
  have r2 := cell_of_row _ (w.heap.size + 1) 2 _ _ _ TB.out.br
  have r3 := cell_of_row _ (w.heap.size + 1) 3 _ _ _ TB.out.br
  have r4 := cell_of_row _ (w.heap.size + 1) 4 _ _ _ TB.out.br
  have rf := fun o => frozen_of_row _ (w.heap.size + 1) o _ _ TB.out.br
  simp at r0 r1 r2 r3 r4
  clear HA
  have HBx := ris_any TB.out.rs h (b : Int)
  rw [thereB_is HIB.out] at HBx
  unfold rsV at HBx
  have HB := Lib.hid HBx
  clear HBx
  go_wp2_with fail
  refine HB.out.mono ?_
  rintro e w3 ⟨rfl, hb⟩
  have TB' := Lib.hid (TB.out.keep hb)
  clear hb TB a0 a1 a2 a3 a4 af r0 r1 r2 r3 r4 rf
  have TB := TB'
  clear TB'
  have a0 := cell_of_row _ (w.heap.size) 0 _ _ _ TB.out.bs
  have a1 := cell_of_row _ (w.heap.size) 1 _ _ _ TB.out.bs
  have a2 := cell_of_row _ (w.heap.size) 2 _ _ _ TB.out.bs
  have a3 := cell_of_row _ (w.heap.size) 3 _ _ _ TB.out.bs
  have a4 := cell_of_row _ (w.heap.size) 4 _ _ _ TB.out.bs
  have af := fun o => frozen_of_row _ (w.heap.size) o _ _ TB.out.bs
  simp at a0 a1 a2 a3 a4
  have r0 := cell_of_row _ (w.heap.size + 1) 0 _ _ _ TB.out.br
  have r1 := cell_of_row _ (w.heap.size + 1) 1 _ _ _ TB.out.br
  have r2 := cell_of_row _ (w.heap.size + 1) 2 _ _ _ TB.out.br
  have r3 := cell_of_row _ (w.heap.size + 1) 3 _ _ _ TB.out.br
  have r4 := cell_of_row _ (w.heap.size + 1) 4 _ _ _ TB.out.br
  have rf := fun o => frozen_of_row _ (w.heap.size + 1) o _ _ TB.out.br
  simp at r0 r1 r2 r3 r4
  clear HB
  obtain ⟨hla, _, d1, _, _, _⟩ := TB.out.rs.row HIA.out
  obtain ⟨hlb, _, d2, _, _, _⟩ := TB.out.rs.row HIB.out
  go_wp2_with fail
  clear a0 a1 a2 a3 a4 af r0 r1 r2 r3 r4 rf d1 d2
  have R0 : Hid (MkRel w.heap.size g N cap h cs v a b w (.int .i64 (N : Nat)) (.int .i64 ((N : Int) - 1)) w3) :=
    ⟨N, N, hN2, Nat.le_refl _, rfl, rfl, FreeTo.start cs N, NoKey.start cs N v a b, TB.out⟩
  clear TB hva hvb hN2 hN2'
  go_loopw [9, 10, 11, 12] (fun _ _ fv iv wr => MkRel w.heap.size g N cap h cs v a b w fv iv wr) (fun _ _ _ iv _ => (intOf iv).toNat)
  case atStart => exact R0.out
  case round =>
    clear R0
    obtain ⟨i, f, hi2, hiN, rfl, rfl, hft, hnk, htb⟩ := hrel
    have TB := Lib.hid htb
    have FT := Lib.hid hft
    have NK := Lib.hid hnk
    clear htb hft hnk
    have a0 := cell_of_row _ (w.heap.size) 0 _ _ _ TB.out.bs
    have a1 := cell_of_row _ (w.heap.size) 1 _ _ _ TB.out.bs
    have a2 := cell_of_row _ (w.heap.size) 2 _ _ _ TB.out.bs
    have a3 := cell_of_row _ (w.heap.size) 3 _ _ _ TB.out.bs
    have a4 := cell_of_row _ (w.heap.size) 4 _ _ _ TB.out.bs
    have af := fun o => frozen_of_row _ (w.heap.size) o _ _ TB.out.bs
    simp at a0 a1 a2 a3 a4
    have r0 := cell_of_row _ (w.heap.size + 1) 0 _ _ _ TB.out.br
    have r1 := cell_of_row _ (w.heap.size + 1) 1 _ _ _ TB.out.br
    have r2 := cell_of_row _ (w.heap.size + 1) 2 _ _ _ TB.out.br
    have r3 := cell_of_row _ (w.heap.size + 1) 3 _ _ _ TB.out.br
    have r4 := cell_of_row _ (w.heap.size + 1) 4 _ _ _ TB.out.br
    have rf := fun o => frozen_of_row _ (w.heap.size + 1) o _ _ TB.out.br
    simp at r0 r1 r2 r3 r4
    by_cases hlt : 2 < i
    · obtain ⟨j, rfl⟩ : ∃ j, i = j + 1 := ⟨i - 1, by omega⟩
      have ej : (((j + 1 : Nat) : Int) - 1) = (j : Int) := by omega
      rw [ej]
      obtain ⟨e0, e1, e2, e3, e4⟩ := TB.out.rs.rl.cells (refL_get cs N j (by omega))
      obtain ⟨⟨nb, nv, nl, nh, np⟩, hrn⟩ : ∃ r, rn cs j = r := ⟨_, rfl⟩
      rw [hrn] at e0 e1 e2 e3 e4
      simp only at e0 e1 e2 e3 e4
      have HR := Lib.hid hrn
      have HNN : (j : Int) < N := by omega
      have HJ2 : (2 : Int) ≤ j := by omega
      clear hrn ej
      by_cases hb : nb = true
      · subst hb
        obtain ⟨c, hc⟩ := rn_yes (i := j) (cs := cs) (by rw [HR.out])
        have heq := HR.out
        rw [rn_is hc] at heq
        injection heq with _ heq1 heq2 heq3 heq4
        have HC := Lib.hid hc
        have FT2 := Lib.hid (FT.out.used (by rw [HR.out]))
        have NKS : Hid (c.key ≠ ⟨v, a, b⟩ → NoKey cs N j v a b) := fun q => NK.out.step fun ck hk => by rw [hk.same hc]; exact q
        clear hc
        by_cases hv : v = nv
        · subst hv
          by_cases hl : nl = (a : Int)
          · subst hl
            by_cases hh : nh = (b : Int)
            · subst hh
              have KEQ : Hid (c.key = ⟨v, a, b⟩) := by show _ = _; unfold Nd.key; rw [heq1, heq2, heq3]
              clear heq1 heq2 heq3 heq4 FT2 NKS
              have TBX := Lib.hid (TB.out.keep ((Below.refl wr.heap.size wr).alloc (Nat.le_refl _) (.cells #[.bool true, .int .i64 v, .int .i64 (a : Int), .int .i64 (b : Int), .int .i64 np] 55)))
              have b0 := cell_of_row _ (w.heap.size) 0 _ _ _ TBX.out.bs
              have b1 := cell_of_row _ (w.heap.size) 1 _ _ _ TBX.out.bs
              have b2 := cell_of_row _ (w.heap.size) 2 _ _ _ TBX.out.bs
              have b3 := cell_of_row _ (w.heap.size) 3 _ _ _ TBX.out.bs
              have b4 := cell_of_row _ (w.heap.size) 4 _ _ _ TBX.out.bs
              have bf := fun o => frozen_of_row _ (w.heap.size) o _ _ TBX.out.bs
              simp at b0 b1 b2 b3 b4
              have s0 := cell_of_row _ (w.heap.size + 1) 0 _ _ _ TBX.out.br
              have s1 := cell_of_row _ (w.heap.size + 1) 1 _ _ _ TBX.out.br
              have s2 := cell_of_row _ (w.heap.size + 1) 2 _ _ _ TBX.out.br
              have s3 := cell_of_row _ (w.heap.size + 1) 3 _ _ _ TBX.out.br
              have s4 := cell_of_row _ (w.heap.size + 1) 4 _ _ _ TBX.out.br
              have sf := fun o => frozen_of_row _ (w.heap.size + 1) o _ _ TBX.out.br
              simp at s0 s1 s2 s3 s4
              go_wp2_with fail
              clear a0 a1 a2 a3 a4 af r0 r1 r2 r3 r4 rf e0 e1 e2 e3 e4 b0 b1 b2 b3 b4 bf s0 s1 s2 s3 s4 sf
              revert TBX
              generalize wr.alloc (.cells #[.bool true, .int .i64 v, .int .i64 (a : Int), .int .i64 (b : Int), .int .i64 np] 55) = wx
              intro TBX
              have OUT : Hid (∀ e w', RMOut h N cs j 0 w e w' → RMkOut h N cs v a b w e w') := fun e w' q => .inl ⟨j, c, by omega, HC.out, KEQ.out, q⟩
              have FIN := TBX.out.fin (h' := h) (g' := g) (N' := N) (cap' := cap) TBX.out.rs (by have := TBX.out.gs; omega)
              change bodyPost Try.prog _ _ _ _ (Fin5 wx (w.heap.size + 1) h g N cap)
              revert FIN
              generalize Fin5 wx (w.heap.size + 1) h g N cap = wf
              intro FIN
              obtain ⟨hf, F1, F2⟩ := FIN
              have e0 := cell_of_row wf _ 0 _ _ _ hf
              have e1 := cell_of_row wf _ 1 _ _ _ hf
              have e2 := cell_of_row wf _ 2 _ _ _ hf
              have e3 := cell_of_row wf _ 3 _ _ _ hf
              have e4 := cell_of_row wf _ 4 _ _ _ hf
              simp at e0 e1 e2 e3 e4
              exact bodyPost_ret (v := .tuple #[.agg #[.int .i64 (h).V, .int .i64 (h).B, .int .i64 (h).made, .int .i64 (h).sweeps, .slice (some ⟨g, 0, none⟩) N cap], .int .i64 (j : Int), .int .i64 0]) (by simp [results, Try.results17, go_sem, e0, e1, e2, e3, e4]) rfl (OUT.out _ _ ⟨_, _, rfl, F1, F2⟩)
            · have NK2 := Lib.hid (NKS.out (by intro q; apply hh; rw [← heq3]; exact congrArg Key.c q))
              clear heq1 heq2 heq3 heq4
              have TBX := Lib.hid (TB.out.keep ((Below.refl wr.heap.size wr).alloc (Nat.le_refl _) (.cells #[.bool true, .int .i64 v, .int .i64 (a : Int), .int .i64 nh, .int .i64 np] 55)))
              have N2 : Hid (MkRel w.heap.size g N cap h cs v a b w (.int .i64 (f : Nat)) (.int .i64 ((j : Int) - 1)) (wr.alloc (.cells #[.bool true, .int .i64 v, .int .i64 (a : Int), .int .i64 nh, .int .i64 np] 55))) :=
                ⟨j, f, by omega, by omega, rfl, rfl, FT2.out, NK2.out, TBX.out⟩
              clear TBX
              go_wp2_with fail
              go_roundw
              case rel => first | exact N2.out | exact ⟨_, _, _, _, N2.out, rfl, rfl, rfl, rfl⟩
              case measure => simp [intOf]; omega
          · have NK2 := Lib.hid (NKS.out (by intro q; apply hl; rw [← heq2]; exact congrArg Key.b q))
            clear heq1 heq2 heq3 heq4
            have TBX := Lib.hid (TB.out.keep ((Below.refl wr.heap.size wr).alloc (Nat.le_refl _) (.cells #[.bool true, .int .i64 v, .int .i64 nl, .int .i64 nh, .int .i64 np] 55)))
            have N2 : Hid (MkRel w.heap.size g N cap h cs v a b w (.int .i64 (f : Nat)) (.int .i64 ((j : Int) - 1)) (wr.alloc (.cells #[.bool true, .int .i64 v, .int .i64 nl, .int .i64 nh, .int .i64 np] 55))) :=
              ⟨j, f, by omega, by omega, rfl, rfl, FT2.out, NK2.out, TBX.out⟩
            clear TBX
            go_wp2_with fail
            go_roundw
            case rel => first | exact N2.out | exact ⟨_, _, _, _, N2.out, rfl, rfl, rfl, rfl⟩
            case measure => simp [intOf]; omega
        · have NK2 := Lib.hid (NKS.out (by intro q; apply hv; rw [← heq1]; exact (congrArg Key.a q).symm))
          have hv : ¬ nv = v := fun q => hv q.symm
          clear heq1 heq2 heq3 heq4
          have TBX := Lib.hid (TB.out.keep ((Below.refl wr.heap.size wr).alloc (Nat.le_refl _) (.cells #[.bool true, .int .i64 nv, .int .i64 nl, .int .i64 nh, .int .i64 np] 55)))
          have N2 : Hid (MkRel w.heap.size g N cap h cs v a b w (.int .i64 (f : Nat)) (.int .i64 ((j : Int) - 1)) (wr.alloc (.cells #[.bool true, .int .i64 nv, .int .i64 nl, .int .i64 nh, .int .i64 np] 55))) :=
            ⟨j, f, by omega, by omega, rfl, rfl, FT2.out, NK2.out, TBX.out⟩
          clear TBX
          go_wp2_with fail
          go_roundw
          case rel => first | exact N2.out | exact ⟨_, _, _, _, N2.out, rfl, rfl, rfl, rfl⟩
          case measure => simp [intOf]; omega
      · have hb : nb = false := by simpa using hb
        subst hb
        have FT2 := Lib.hid (FreeTo.free (cs := cs) (N := N) (i := j) (by omega) (by rw [HR.out]))
        have NK2 : Hid (NoKey cs N j v a b) := NK.out.step fun ck hk => by have := HR.out; rw [rn_is hk] at this; cases this
        have TBX := Lib.hid (TB.out.keep ((Below.refl wr.heap.size wr).alloc (Nat.le_refl _) (.cells #[.bool false, .int .i64 nv, .int .i64 nl, .int .i64 nh, .int .i64 np] 55)))
        have N2 : Hid (MkRel w.heap.size g N cap h cs v a b w (.int .i64 (j : Nat)) (.int .i64 ((j : Int) - 1)) (wr.alloc (.cells #[.bool false, .int .i64 nv, .int .i64 nl, .int .i64 nh, .int .i64 np] 55))) :=
          ⟨j, j, by omega, by omega, rfl, rfl, FT2.out, NK2.out, TBX.out⟩
        clear TBX
        go_wp2_with fail
        go_roundw
        case rel => first | exact N2.out | exact ⟨_, _, _, _, N2.out, rfl, rfl, rfl, rfl⟩
        case measure => simp [intOf]; omega
    · obtain rfl : i = 2 := by omega
      rw [show (((2 : Nat) : Int) - 1) = 1 from rfl]
      obtain ⟨hfr, hf2, hall⟩ := FT.out.done GD.out HLE.out
      have FR := Lib.hid hfr
      have HALL := Lib.hid hall
      have NOK : Hid (∀ j ck, 2 ≤ j → Is cs j ck → ck.key ≠ ⟨v, a, b⟩) := fun j ck q1 q2 => NK.out j ck q1 (Nat.lt_of_lt_of_le q2.lt HLE.out) q2
      clear hfr hall hlt
      go_wp2_with fail
      go_region_held3 (fun w' => w'.cell? ⟨w.heap.size, 0, none⟩ = some (.int .i64 h.V) ∧ w'.cell? ⟨w.heap.size, 1, none⟩ = some (.int .i64 h.B) ∧ w'.cell? ⟨w.heap.size, 2, none⟩ = some (.int .i64 h.made) ∧ w'.cell? ⟨w.heap.size, 3, none⟩ = some (.int .i64 h.sweeps) ∧ w'.cell? ⟨w.heap.size, 4, none⟩ = some (.slice (some ⟨g, 0, none⟩) N cap))
        (first | exact ⟨a0, a1, a2, a3, a4⟩ | exact ⟨by assumption, by assumption, by assumption, by assumption, by assumption⟩ | go_keep)
        (first | (go_at_call 9; refine (rlen_any (TB.out.rs.keep (below_drew wr)) h).mono ?_; rintro e w4 ⟨rfl, hb4⟩; have T4 := Lib.hid (TB.out.keep (below_undrew hb4)); have b0 := cell_of_row _ w.heap.size 0 _ _ _ T4.out.bs; have b1 := cell_of_row _ w.heap.size 1 _ _ _ T4.out.bs; have b2 := cell_of_row _ w.heap.size 2 _ _ _ T4.out.bs; have b3 := cell_of_row _ w.heap.size 3 _ _ _ T4.out.bs; have b4 := cell_of_row _ w.heap.size 4 _ _ _ T4.out.bs; simp at b0 b1 b2 b3 b4; clear hb4))
      clear a0 a1 a2 a3 a4 af r0 r1 r2 r3 r4 rf TB FT NK
      have bf := fun o => frozen_of_row _ w.heap.size o _ _ T4.out.bs
      have s0 := cell_of_row _ (w.heap.size + 1) 0 _ _ _ T4.out.br
      have s1 := cell_of_row _ (w.heap.size + 1) 1 _ _ _ T4.out.br
      have s2 := cell_of_row _ (w.heap.size + 1) 2 _ _ _ T4.out.br
      have s3 := cell_of_row _ (w.heap.size + 1) 3 _ _ _ T4.out.br
      have s4 := cell_of_row _ (w.heap.size + 1) 4 _ _ _ T4.out.br
      have sf := fun o => frozen_of_row _ (w.heap.size + 1) o _ _ T4.out.br
      simp at s0 s1 s2 s3 s4
      by_cases hfull : h.B ≤ cnt cs
      · have hfull' : (h.B : Int) ≤ cnt cs := by omega
        have OUT : Hid (∀ e w', RMOut h N cs 0 30 w e w' → RMkOut h N cs v a b w e w') := fun e w' q => .inr (.inl ⟨NOK.out, hfull, q⟩)
        clear hfull
        go_wp2_with fail
        clear b0 b1 b2 b3 b4 bf s0 s1 s2 s3 s4 sf
        have FIN := T4.out.fin (h' := h) (g' := g) (N' := N) (cap' := cap) T4.out.rs (by have := T4.out.gs; omega)
        change bodyPost Try.prog _ _ _ _ (Fin5 w4 (w.heap.size + 1) h g N cap)
        revert FIN
        generalize Fin5 w4 (w.heap.size + 1) h g N cap = wf
        intro FIN
        obtain ⟨hf, F1, F2⟩ := FIN
        have e0 := cell_of_row wf _ 0 _ _ _ hf
        have e1 := cell_of_row wf _ 1 _ _ _ hf
        have e2 := cell_of_row wf _ 2 _ _ _ hf
        have e3 := cell_of_row wf _ 3 _ _ _ hf
        have e4 := cell_of_row wf _ 4 _ _ _ hf
        simp at e0 e1 e2 e3 e4
        exact bodyPost_ret (v := .tuple #[.agg #[.int .i64 (h).V, .int .i64 (h).B, .int .i64 (h).made, .int .i64 (h).sweeps, .slice (some ⟨g, 0, none⟩) N cap], .int .i64 0, .int .i64 30]) (by simp [results, Try.results17, go_sem, e0, e1, e2, e3, e4]) rfl (OUT.out _ _ ⟨_, _, rfl, F1, F2⟩)
      · have hfull' : (cnt cs : Int) < h.B := by omega
        have hm0 := HM0.out
        have hm1 := HM1.out
        have hfn : (if f < N then N else N + 1) ≤ 1000000 := by have := HNLT.out; split <;> omega
        have hfle : f ≤ N := Nat.le_trans FR.out.1 HLE.out
        have TM := Lib.hid (T4.out.setMade (h.made + 1))
        have ADD := rn_add (c := ⟨v, a, b, 0⟩) FR.out (by show v ≠ -1; omega)
        have ADL := addAt_len (N := N) ⟨v, a, b, 0⟩ FR.out HLE.out
        have WR : Hid (∀ u, Below (w4.setCell ⟨w.heap.size, 2, none⟩ (.int .i64 (h.made + 1))).heap.size (w4.setCell ⟨w.heap.size, 2, none⟩ (.int .i64 (h.made + 1))) u → Calls Try.prog 39 #[rsV { h with made := h.made + 1 } g N cap, .int .i64 (f : Int), nodeR ⟨true, v, a, b, 0⟩] u fun e w' => ∃ g' cap', e = .returned (rsV { h with made := h.made + 1 } g' (if f < N then N else N + 1) cap') ∧ RS w' g' (if f < N then N else N + 1) cap' (addAt cs f ⟨v, a, b, 0⟩) ∧ u.heap.size ≤ g' ∧ Below u.heap.size u w') := by
          intro u hu
          have T5 := TM.out.keep hu
          exact (rwith_any _ _ T5.rs.rl (refL_length _ N) T5.rs.cap T5.rs.n hfle).mono fun e w' o => with_rs hfle ADD.1 ADD.2 ADL hfn o
        have OUT : Hid (∀ e w', RMOut { h with made := h.made + 1 } (if f < N then N else N + 1) (addAt cs f ⟨v, a, b, 0⟩) f 0 w e w' → RMkOut h N cs v a b w e w') := fun e w' q => .inr (.inr ⟨NOK.out, by omega, f, FR.out, hf2, HALL.out, q⟩)
        obtain ⟨M, hM⟩ : ∃ M, (if f < N then N else N + 1) = M := ⟨_, rfl⟩
        rw [hM] at WR OUT
        unfold rsV nodeR at WR
        clear hM hfull hfn hfle ADD ADL
        go_wp2_with fail
        clear b0 b1 b2 b3 b4 bf s0 s1 s2 s3 s4 sf
        refine (WR.out _ (Below.refl _ _)).mono ?_
        rintro e w5 ⟨g', cap', rfl, rs5, hg5, hb5⟩
        have T5 := Lib.hid (TM.out.keep hb5)
        have R5 := Lib.hid rs5
        have G5 : Hid (g' ≠ w.heap.size + 1) := by show _ ≠ _; have := TM.out.size; omega
        clear rs5 hg5 hb5 WR TM
        have r0 := cell_of_row _ (w.heap.size + 1) 0 _ _ _ T5.out.br
        have r1 := cell_of_row _ (w.heap.size + 1) 1 _ _ _ T5.out.br
        have r2 := cell_of_row _ (w.heap.size + 1) 2 _ _ _ T5.out.br
        have r3 := cell_of_row _ (w.heap.size + 1) 3 _ _ _ T5.out.br
        have r4 := cell_of_row _ (w.heap.size + 1) 4 _ _ _ T5.out.br
        have rf := fun o => frozen_of_row _ (w.heap.size + 1) o _ _ T5.out.br
        simp at r0 r1 r2 r3 r4
        go_wp2_with fail
        clear r0 r1 r2 r3 r4 rf
        have FIN := T5.out.fin (h' := { h with made := h.made + 1 }) (g' := g') (N' := M) (cap' := cap') R5.out G5.out
        change bodyPost Try.prog _ _ _ _ (Fin5 w5 (w.heap.size + 1) { h with made := h.made + 1 } g' M cap')
        revert FIN
        generalize Fin5 w5 (w.heap.size + 1) { h with made := h.made + 1 } g' M cap' = wf
        intro FIN
        obtain ⟨hf, F1, F2⟩ := FIN
        have e0 := cell_of_row wf _ 0 _ _ _ hf
        have e1 := cell_of_row wf _ 1 _ _ _ hf
        have e2 := cell_of_row wf _ 2 _ _ _ hf
        have e3 := cell_of_row wf _ 3 _ _ _ hf
        have e4 := cell_of_row wf _ 4 _ _ _ hf
        simp at e0 e1 e2 e3 e4
        exact bodyPost_ret (v := .tuple #[.agg #[.int .i64 ({ h with made := h.made + 1 }).V, .int .i64 ({ h with made := h.made + 1 }).B, .int .i64 ({ h with made := h.made + 1 }).made, .int .i64 ({ h with made := h.made + 1 }).sweeps, .slice (some ⟨g', 0, none⟩) M cap'], .int .i64 (f : Int), .int .i64 0]) (by simp [results, Try.results17, go_sem, e0, e1, e2, e3, e4]) rfl (OUT.out _ _ ⟨_, _, rfl, F1, F2⟩)
end Go.Proofs.Yteeffabmafakiaa
