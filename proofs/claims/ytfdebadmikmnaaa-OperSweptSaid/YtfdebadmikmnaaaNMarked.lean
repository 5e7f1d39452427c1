/- Contract of layer 3 (node): marked. -/
import Derived.Test.YtfdebadmikmnaaaNMk
namespace Go.Proofs.Ytfdebadmikmnaaa
open Go.ChangeShapes Go.WideShapes Go.ChangeAt Go.RowKit Go.Maps

def MarkedOut (V : Nat) (cs : List Nd) (w : World) (e : Ending) (w' : World) : Prop :=
  ∃ b, e = .returned (.map (some b)) ∧ MSet w' b (roots V cs cs.length) ∧ Below w.heap.size w w' ∧ w.heap.size ≤ b

def MarkedRel (V : Nat) (cs : List Nd) (b : Nat) (w1 : World) (iv : Value) (wr : World) : Prop :=
  ∃ i : Nat, i ≤ cs.length ∧ iv = .int .i64 i ∧ MSet wr b (roots V cs i) ∧ Turn (fun j => j = b) w1 wr

theorem roots_yes {V : Nat} {cs : List Nd} {i : Nat} (h : Root cs i) : roots V cs (i + 1) = mark cs (V + 1) (roots V cs i) i := by
  unfold Root at h
  conv => lhs; unfold roots
  rw [if_pos h]
theorem roots_no {V : Nat} {cs : List Nd} {i : Nat} (h : ¬ Root cs i) : roots V cs (i + 1) = roots V cs i := by
  unfold Root at h
  conv => lhs; unfold roots
  rw [if_neg h]

set_option maxHeartbeats 1000000 in
set_option maxRecDepth 100000 in
theorem marked_any {w : World} {m : Mem} {h : Hd} {cs : List Nd} (s : St w m h cs) :
    Calls Try.prog 34 #[ptrV m.s] w (MarkedOut h.V cs w) := by
  obtain ⟨_, _, _, c3, -⟩ := s.lay.tops
  have hmm := @run_makeMap Try.prog
  have ls := s.lay.lt_s
  have lc := s.lay.lt_c
  have hb : m.s ≠ w.heap.size ∧ m.c ≠ w.heap.size := by omega
  have HBN := Lib.hid hb
  have c3' := (s.lay.alloc (.map #[] 0)).tops.2.2.2.1
  have M0 := Lib.hid (MSet.made w)
  have L0 := Lib.hid (s.lay.alloc (.map #[] 0))
  have G := Lib.hid s.good
  have hlen := s.lay.len
  have hlen' : (cs.length : Int) ≤ 1048576 := by omega
  clear s ls lc hb hlen
  unfold ptrV
  go_enter Try.func34, Try.ntmps34
  go_wp2_with fail
  obtain ⟨b, hbb⟩ : ∃ b, w.heap.size = b := ⟨_, rfl⟩
  rw [hbb] at M0 HBN ⊢
  have HB := Lib.hid hbb
  clear c3 c3' hmm hbb
  revert M0 L0
  generalize hw1 : w.alloc (.map #[] 0) = w1
  intro L0 M0
  have HBW : Hid (Below w.heap.size w w1) := by show Below _ _ _; rw [← hw1]; exact (Below.refl _ _).alloc (Nat.le_refl _) _
  clear hw1
  go_loopw [4, 11] (fun _ iv wr => MarkedRel h.V cs b w1 iv wr) (fun _ iv _ => cs.length - (intOf iv).toNat)
  case atStart => exact ⟨0, Nat.zero_le _, rfl, M0.out, Turn.refl _ _⟩
  case round =>
    obtain ⟨i, hi, rfl, hm, ht⟩ := hrel
    have hl := L0.out.turn ht HBN.out.1 HBN.out.2
    obtain ⟨_, _, _, c3, -⟩ := hl.tops
    by_cases hlt : i < cs.length
    · obtain ⟨c, hc⟩ : ∃ c, cs[i]? = some c := ⟨_, List.getElem?_eq_getElem hlt⟩
      obtain ⟨_, _, _, d3⟩ := hl.cells hc
      by_cases hroot : Root cs i
      · obtain ⟨d, hd⟩ := root_is G.out hroot
        obtain rfl : c = d := by have := hc.symm.trans hd.1; injection this
        have RY := Lib.hid (roots_yes (V := h.V) hroot)
        have MK := Lib.hid (mark_any HBN.out.1 HBN.out.2 G.out (h.V + 1) i c (roots h.V cs i) wr hd (rk_le G.out hd) hl hm)
        unfold ptrV at MK
        have HT := Lib.hid ht
        by_cases h2 : i < 2
        · have h2' : (i : Int) < 2 := by omega
          clear hroot hd hc ht hm hl h2
          go_wp2_with fail
          refine MK.out.mono ?_
          rintro e w2 ⟨rfl, hm2, ht2⟩
          have HM2 := Lib.hid hm2
          have HT2 := Lib.hid ht2
          clear hm2 ht2 c3 d3
          go_wp2_with fail
          go_roundw
          case rel => exact ⟨i + 1, by omega, by go_num, by rw [RY.out]; exact HM2.out, HT.out.trans HT2.out (fun j hj => .inl hj)⟩
          case measure => simp [intOf]; omega
        · have hp : 0 < c.pins := by
            rcases hroot with h | ⟨c', hc', hp⟩
            · exact absurd h h2
            · obtain rfl : c = c' := by have := hc.symm.trans hc'; injection this
              exact hp
          have hp' : (0 : Int) < c.pins := by omega
          have h2' : ¬ (i : Int) < 2 := by omega
          clear hroot hd hc ht hm hl h2 hp
          go_wp2_with fail
          refine MK.out.mono ?_
          rintro e w2 ⟨rfl, hm2, ht2⟩
          have HM2 := Lib.hid hm2
          have HT2 := Lib.hid ht2
          clear hm2 ht2 c3 d3
          go_wp2_with fail
          go_roundw
          case rel => exact ⟨i + 1, by omega, by go_num, by rw [RY.out]; exact HM2.out, HT.out.trans HT2.out (fun j hj => .inl hj)⟩
          case measure => simp [intOf]; omega
      · have RN := Lib.hid (roots_no (V := h.V) hroot)
        have hp : c.pins = 0 := by
          rcases Nat.eq_zero_or_pos c.pins with h | h
          · exact h
          · exact absurd (Or.inr ⟨c, hc, h⟩) hroot
        have h2 : ¬ i < 2 := fun h => hroot (.inl h)
        have h2' : ¬ (i : Int) < 2 := by omega
        rw [hp] at d3
        have d3 : wr.cell? ⟨m.c, i * 4 + 3, none⟩ = some (.int .i64 0) := d3
        have HT := Lib.hid ht
        have HM := Lib.hid hm
        clear hroot hc ht hm hl h2 hp
        go_wp2_with fail
        go_roundw
        case rel => exact ⟨i + 1, by omega, by go_num, by rw [RN.out]; exact HM.out, HT.out⟩
        case measure => simp [intOf]; omega
    · obtain rfl : i = cs.length := by omega
      have HT := Lib.hid ht
      have HM := Lib.hid hm
      clear hl ht hm
      go_wp2_with fail
      go_ret
      refine ⟨b, rfl, HM.out, Turn.to_below HBW.out HT.out (fun j hj => by rw [hj, ← HB.out]; exact Nat.le_refl _) HBW.out.size, by rw [HB.out]; exact Nat.le_refl _⟩
end Go.Proofs.Ytfdebadmikmnaaa
