/- The document's store: Size. -/
import Derived.Test.YteeffabmafakiaaNRefOf
namespace Go.Proofs.Yteeffabmafakiaa
open Go.ChangeShapes Go.WideShapes Go.ChangeAt Go.RowKit

theorem marks_none (N : Nat) : (marksL N []).map Value.bool = List.replicate N (.bool false) := by
  apply List.ext_getElem?
  intro i
  rw [List.getElem?_map]
  by_cases h : i < N
  · rw [marksL_get _ _ _ h, List.getElem?_replicate, if_pos h]; rfl
  · rw [List.getElem?_eq_none (by rw [marksL_length]; omega), List.getElem?_eq_none (by simp; omega)]; rfl

theorem run_make_marks (N : Nat) (hN : N ≤ 1000000) (w : World) :
    (Instr.makeSlice 35 (.int .i64 (N : Int)) (.int .i64 (N : Int))).run Try.prog w = .ok (.slice (some ⟨w.heap.size, 0, none⟩) N N) (w.alloc (.cells ((marksL N []).map Value.bool).toArray 4)) := by
  obtain ⟨i, hi, hz, hz1, hz2⟩ := info_parts info_boolR
  have hb : (i.bytes : Int) * (N : Int) ≤ 281474976710656 := by rw [hz2]; omega
  have hr := run_make (P := Try.prog) w 35 4 i _ Try.underlying35 hi hz .i64 .i64 N N (by omega) (by omega) hb (by omega)
  rw [hz1] at hr
  simp only [Int.toNat_natCast] at hr
  rw [Nat.mul_one] at hr
  rw [marks_none, ← toList_madeCells_one, Array.toArray_toList]
  exact hr

theorem made_bl (w : World) (N : Nat) : BL (w.alloc (.cells ((marksL N []).map Value.bool).toArray 4)) w.heap.size (marksL N []) :=
  ⟨by simp, fun j u hu => by rw [cell_of_row _ _ _ _ _ _ (heap_alloc_new w _), List.getElem?_toArray]; exact hu⟩

theorem mark_lt {V N : Nat} {cs : List Nd} (g : NGood V cs) {k : Nat} {c : Nd} (hk : Is cs k c) (hN : cs.length ≤ N) : ∀ x ∈ allOf V cs k, x < N := by
  intro x hx
  obtain ⟨d, hd⟩ := (allOf_spec g hk).nodes (fun x hx => by cases hx) x hx
  have := hd.lt; omega

theorem rsize_no {w : World} {g N cap : Nat} {cs : List Nd} (rs : RS w g N cap cs) (h : Hd) (k : Int) (hk : thereB cs k = false) :
    Calls Try.prog 22 #[rsV h g N cap, .int .i64 k] w fun e w' => e = .returned (.tuple #[.int .i64 0, .int .i64 3]) ∧ Below w.heap.size w w' := by
  have BB := (Below.refl w.heap.size w).alloc (Nat.le_refl _) (rsO h g N cap)
  have H := ris_any (rs.keep BB) h k
  rw [hk] at H
  have H := Lib.hid H
  have BB := Lib.hid BB
  clear rs hk
  unfold rsV at *
  unfold rsO at *
  go_enter Try.func22, Try.ntmps22
  go_wp2_with fail
  refine H.out.mono ?_
  rintro e w2 ⟨rfl, hb⟩
  go_wp2_with fail
  go_ret2
  exact ⟨rfl, BB.out.trans (hb.mono BB.out.size)⟩

set_option maxHeartbeats 2000000 in
set_option maxRecDepth 100000 in
theorem rsize_yes {w : World} {g N cap : Nat} {cs : List Nd} (rs : RS w g N cap cs) (h : Hd) (gd : NGood h.V cs) {k : Nat} {c : Nd} (hk : Is cs k c) :
    Calls Try.prog 22 #[rsV h g N cap, .int .i64 (k : Int)] w fun e w' => e = .returned (.tuple #[.int .i64 (allOf h.V cs k).length, .int .i64 0]) ∧ Below w.heap.size w w' := by
  have BB := (Below.refl w.heap.size w).alloc (Nat.le_refl _) (rsO h g N cap)
  have H := ris_any (rs.keep BB) h (k : Int)
  rw [thereB_is hk] at H
  have H := Lib.hid H
  have R1 := Lib.hid (rs.keep BB)
  have BX : Hid (∀ w2, Below (w.alloc (rsO h g N cap)).heap.size (w.alloc (rsO h g N cap)) w2 → w2.heap[w.heap.size]? = some (.cells #[.int .i64 h.V, .int .i64 h.B, .int .i64 h.made, .int .i64 h.sweeps, .slice (some ⟨g, 0, none⟩) N cap] 29 (0, 0))) := fun _ hb => box_s hb
  have BB := Lib.hid BB
  have HK := Lib.hid hk
  have HN := Lib.hid rs.n
  have HML := Lib.hid (mark_lt gd hk rs.le)
  have HND := Lib.hid ((allOf_spec gd hk).nodup List.nodup_nil)
  have OFF : Hid (∀ (w : World) (gm : Nat), RS w g N cap cs → BL w gm (marksL N []) → Calls Try.prog 42 #[rsV h g N cap, .slice (some ⟨gm, 0, none⟩) N N, .int .i64 (k : Int)] w (OfOut N (allOf h.V cs k) w)) :=
    fun w gm r b => of_any gd (h.V + 1) k c [] w g cap gm N hk (rk_le gd hk) r b (Nat.le_refl _)
  have hmk := run_make_marks N rs.n
  clear rs hk
  unfold rsV at *
  unfold rsO at *
  go_enter Try.func22, Try.ntmps22
  go_wp2_with fail
  refine H.out.mono ?_
  rintro e w2 ⟨rfl, hb⟩
  have HBX := Lib.hid (BX.out w2 hb)
  have R2 := Lib.hid (R1.out.keep hb)
  have B2 := Lib.hid (BB.out.trans (hb.mono BB.out.size))
  clear hb
  have p0 := cell_of_row _ w.heap.size 0 _ _ _ HBX.out
  have p1 := cell_of_row _ w.heap.size 1 _ _ _ HBX.out
  have p2 := cell_of_row _ w.heap.size 2 _ _ _ HBX.out
  have p3 := cell_of_row _ w.heap.size 3 _ _ _ HBX.out
  have p4 := cell_of_row _ w.heap.size 4 _ _ _ HBX.out
  simp at p0 p1 p2 p3 p4
  have BA := Lib.hid ((Below.refl w2.heap.size w2).alloc (Nat.le_refl _) (.cells ((marksL N []).map Value.bool).toArray 4))
  have R3 := Lib.hid (R2.out.keep BA.out)
  have M3 := Lib.hid (made_bl w2 N)
  obtain ⟨L, hL⟩ : ∃ L, ((marksL N []).map Value.bool).toArray = L := ⟨_, rfl⟩
  rw [hL] at hmk BA R3 M3
  clear hL
  have HLT : Hid (w.heap.size < w2.heap.size) := by
    show w.heap.size < w2.heap.size
    rcases Nat.lt_or_ge w.heap.size w2.heap.size with h1 | h1
    · exact h1
    · have := HBX.out; rw [Array.getElem?_eq_none h1] at this; cases this
  go_wp2_with fail
  go_region_held3 (fun w' => w'.cell? ⟨w.heap.size, 0, none⟩ = some (.int .i64 h.V) ∧ w'.cell? ⟨w.heap.size, 1, none⟩ = some (.int .i64 h.B) ∧ w'.cell? ⟨w.heap.size, 2, none⟩ = some (.int .i64 h.made) ∧ w'.cell? ⟨w.heap.size, 3, none⟩ = some (.int .i64 h.sweeps) ∧ w'.cell? ⟨w.heap.size, 4, none⟩ = some (.slice (some ⟨g, 0, none⟩) N cap))
    (first | exact ⟨p0, p1, p2, p3, p4⟩ | exact ⟨by assumption, by assumption, by assumption, by assumption, by assumption⟩ | go_keep)
    (first
      | (go_at_call 42; refine (OFF.out _ _ (R3.out.keep (below_drew _)) (M3.out.keep (below_drew _))).mono ?_; rintro e w4 ⟨g4, cap4, rfl, hb4, hc4, hbel4⟩; have HB4 := Lib.hid (BA.out.trans ((below_undrew hbel4).mono BA.out.size)); have HX4 := Lib.hid ((HB4.out.block _ HLT.out).trans HBX.out); have q0 := cell_of_row _ w.heap.size 0 _ _ _ HX4.out; have q1 := cell_of_row _ w.heap.size 1 _ _ _ HX4.out; have q2 := cell_of_row _ w.heap.size 2 _ _ _ HX4.out; have q3 := cell_of_row _ w.heap.size 3 _ _ _ HX4.out; have q4 := cell_of_row _ w.heap.size 4 _ _ _ HX4.out; simp at q0 q1 q2 q3 q4; have B4 := Lib.hid hb4; clear hb4 hc4 hbel4)
      | (go_at_call 41; refine (many_any B4.out HN.out HND.out HML.out).mono ?_; rintro e w5 ⟨rfl, rfl⟩))
  go_wp2_with fail
  go_ret2
  exact ⟨rfl, B2.out.trans (HB4.out.mono B2.out.size)⟩
end Go.Proofs.Yteeffabmafakiaa
