/- The document's store: of, many. -/
import Derived.Test.YteeffabmafakiaaNRefPin
namespace Go.Proofs.Yteeffabmafakiaa
open Go.ChangeShapes Go.WideShapes Go.ChangeAt Go.RowKit

theorem info_boolR : (Try.prog.info? 4).map (fun i => (i.zero, i.size, i.bytes)) = some (some (.bool false), 1, 1) := by kernel_rfl

/-- Marks as a list of bools. -/
def marksL (N : Nat) (l : List Nat) : List Bool := (List.range N).map fun i => decide (i ∈ l)
theorem marksL_length (N : Nat) (l : List Nat) : (marksL N l).length = N := by simp [marksL]
theorem marksL_get (N : Nat) (l : List Nat) (i : Nat) (h : i < N) : (marksL N l)[i]? = some (decide (i ∈ l)) := by simp [marksL, h]

def bset (L : List Bool) (k : Nat) : List Bool := L.take k ++ [true] ++ L.drop (k + 1)
theorem bset_marks (N : Nat) (l : List Nat) (k : Nat) (hk : k < N) : bset (marksL N l) k = marksL N (k :: l) := by
  apply List.ext_getElem?
  intro i
  unfold bset
  have hl : ((marksL N l).take k).length = k := by rw [List.length_take, marksL_length, Nat.min_eq_left (by omega)]
  by_cases h : i < k
  · rw [List.append_assoc, List.getElem?_append_left (by omega), List.getElem?_take, if_pos h, marksL_get _ _ _ (by omega), marksL_get _ _ _ (by omega)]
    simp [show i ≠ k by omega]
  · rw [List.append_assoc, List.getElem?_append_right (by omega), hl]
    by_cases e : i = k
    · subst e; rw [Nat.sub_self, marksL_get _ _ _ hk]; simp
    · rw [List.getElem?_append_right (by simp; omega), List.getElem?_drop]
      have : k + 1 + (i - k - [true].length) = i := by simp; omega
      rw [this]
      by_cases hi : i < N
      · rw [marksL_get _ _ _ hi, marksL_get _ _ _ hi]; simp [e]
      · rw [List.getElem?_eq_none (by rw [marksL_length]; omega), List.getElem?_eq_none (by rw [marksL_length]; omega)]

/-- A list of bools in block g. -/
structure BL (w : World) (g : Nat) (l : List Bool) : Prop where
  lt : g < w.heap.size
  cell : ∀ (j : Nat) (u : Value), (l.map Value.bool)[j]? = some u → w.cell? ⟨g, j, none⟩ = some u

theorem BL.keep {w w' : World} {g : Nat} {l : List Bool} (h : BL w g l) (hb : Below w.heap.size w w') : BL w' g l :=
  ⟨Nat.lt_of_lt_of_le h.lt hb.size, fun j u hu => (hb.cell (p := ⟨g, j, none⟩) h.lt).trans (h.cell j u hu)⟩
theorem BL.at {w : World} {g N : Nat} {l : List Nat} (h : BL w g (marksL N l)) {i : Nat} (hi : i < N) : w.cell? ⟨g, i, none⟩ = some (.bool (decide (i ∈ l))) :=
  h.cell i _ (by rw [List.getElem?_map, marksL_get _ _ _ hi]; rfl)

theorem marks_count (N : Nat) (l : List Nat) (hn : l.Nodup) (hl : ∀ x ∈ l, x < N) : (List.range N).countP (fun i => decide (i ∈ l)) = l.length := by
  rw [List.countP_eq_length_filter]
  apply same_length (List.Nodup.sublist List.filter_sublist List.nodup_range) hn
  intro x
  rw [List.mem_filter, List.mem_range]
  simp
  exact fun h => hl x h

def mcount (l : List Nat) (i : Nat) : Nat := (List.range i).countP fun j => decide (j ∈ l)
theorem mcount_snoc (l : List Nat) (i : Nat) : mcount l (i + 1) = mcount l i + if i ∈ l then 1 else 0 := by
  unfold mcount; rw [List.range_succ, List.countP_append]; simp
theorem mcount_le (l : List Nat) (i : Nat) : mcount l i ≤ i := by
  unfold mcount
  have := List.countP_le_length (p := fun j => decide (j ∈ l)) (l := List.range i)
  simpa using this

theorem many_any {w : World} {g N cap : Nat} {l : List Nat} (bl : BL w g (marksL N l)) (hn : N ≤ 1000000) (hd : l.Nodup) (hl : ∀ x ∈ l, x < N) :
    Calls Try.prog 41 #[.slice (some ⟨g, 0, none⟩) N cap] w fun e w' => e = .returned (.int .i64 l.length) ∧ w = w' := by
  have CA : Hid (mcount l N = l.length) := marks_count N l hd hl
  have hn' : (N : Int) ≤ 1000000 := by omega
  clear hn hd hl
  go_enter Try.func41, Try.ntmps41
  go_wp2
  go_loop [3, 4] (fun nv iv => ∃ i : Nat, i ≤ N ∧ iv = .int .i64 i ∧ nv = .int .i64 (mcount l i)) (fun _ iv => N - (intOf iv).toNat)
  case atStart => exact ⟨0, Nat.zero_le _, rfl, rfl⟩
  case round =>
    obtain ⟨i, hi, rfl, rfl⟩ := hrel
    have hle := mcount_le l i
    have hc' : (mcount l i : Int) ≤ 1000000 := by omega
    clear hle
    by_cases hlt : i < N
    · have d0 := bl.at hlt
      have SN := Lib.hid (mcount_snoc l i)
      by_cases hb : i ∈ l
      · rw [decide_eq_true hb] at d0
        rw [if_pos hb] at SN
        clear hb
        go_wp2
        go_round
        case rel => exact ⟨i + 1, by omega, by go_num, by rw [SN.out]; go_num⟩
        case measure => simp [intOf]; omega
      · rw [decide_eq_false hb] at d0
        rw [if_neg hb] at SN
        clear hb
        go_wp2
        go_round
        case rel => exact ⟨i + 1, by omega, by go_num, by rw [SN.out]; go_num⟩
        case measure => simp [intOf]; omega
    · obtain rfl : i = N := by omega
      go_wp2
      go_ret
      exact ⟨congrArg (fun z : Nat => Ending.returned (Value.int .i64 (z : Int))) CA.out, rfl⟩

/-- What of knows of the world: its own box of the store, the document's list, its marks. -/
structure OfW (s0 g N cap gm : Nat) (h : Hd) (cs : List Nd) (l : List Nat) (w0 w : World) : Prop where
  bs : w.heap[s0]? = some (.cells #[.int .i64 h.V, .int .i64 h.B, .int .i64 h.made, .int .i64 h.sweeps, .slice (some ⟨g, 0, none⟩) N cap] 29 (0, 0))
  rs : RS w g N cap cs
  bl : BL w gm (marksL N l)
  below : Below s0 w0 w
  size : s0 + 1 ≤ w.heap.size
  gs : g < s0
  gm : gm < s0

theorem OfW.grown {s0 g N cap gm : Nat} {h : Hd} {cs : List Nd} {l : List Nat} {w0 w w' : World} (o : OfW s0 g N cap gm h cs l w0 w) {row : Option Nat} (hg : w.grownBy w' row) (hr : ∀ i, row = some i → s0 + 1 ≤ i) : OfW s0 g N cap gm h cs l w0 w' := by
  have hs := o.size
  have hgs := o.gs
  have hgm := o.gm
  have fr : ∀ i, i < s0 + 1 → w'.heap[i]? = w.heap[i]? := fun i hi => hg.block i (by omega) (fun e => by have := hr i e.symm; omega)
  refine ⟨(fr s0 (by omega)).trans o.bs, ⟨⟨Nat.lt_of_lt_of_le o.rs.rl.lt hg.size, fun j u hu => (World.cell?_of_block (a := ⟨g, j, none⟩) (fr g (by omega))).trans (o.rs.rl.cell j u hu)⟩, o.rs.le, o.rs.cap, o.rs.n⟩,
    ⟨Nat.lt_of_lt_of_le o.bl.lt hg.size, fun j u hu => (World.cell?_of_block (a := ⟨gm, j, none⟩) (fr gm (by omega))).trans (o.bl.cell j u hu)⟩, o.below.grown hg (by omega) (fun i hi => by have := hr i hi; omega), Nat.le_trans o.size hg.size, o.gs, o.gm⟩
theorem OfW.alloc {s0 g N cap gm : Nat} {h : Hd} {cs : List Nd} {l : List Nat} {w0 w : World} (o : OfW s0 g N cap gm h cs l w0 w) (ob : Obj) : OfW s0 g N cap gm h cs l w0 (w.alloc ob) :=
  o.grown (World.grownBy_alloc w ob none) (fun i hi => by cases hi)

def OfOut (N : Nat) (l : List Nat) (w : World) (e : Ending) (w' : World) : Prop :=
  ∃ g cap, e = .returned (.slice (some ⟨g, 0, none⟩) N cap) ∧ BL w' g (marksL N l) ∧ N ≤ cap ∧ Below w.heap.size w w'

theorem of_in {w : World} {g N cap gm capm k : Nat} {l : List Nat} (h : Hd) (bl : BL w gm (marksL N l)) (hc : N ≤ capm) (hk : k < N) (hin : k ∈ l) :
    Calls Try.prog 42 #[rsV h g N cap, .slice (some ⟨gm, 0, none⟩) N capm, .int .i64 (k : Int)] w (OfOut N l w) := by
  have BB := (Below.refl w.heap.size w).alloc (Nat.le_refl _) (rsO h g N cap)
  have bl1 := bl.keep BB
  have d0 := bl1.at hk
  rw [decide_eq_true hin] at d0
  have BB := Lib.hid BB
  have HC := Lib.hid hc
  clear hc hin
  unfold rsV at *
  unfold rsO at *
  go_enter Try.func42, Try.ntmps42
  go_wp2_with fail
  go_ret
  exact ⟨gm, capm, rfl, bl1, HC.out, BB.out⟩

theorem OfW.keep {s0 g N cap gm : Nat} {h : Hd} {cs : List Nd} {l : List Nat} {w0 w w' : World} (o : OfW s0 g N cap gm h cs l w0 w) (hb : Below w.heap.size w w') : OfW s0 g N cap gm h cs l w0 w' :=
  ⟨(hb.block s0 (by have := o.size; omega)).trans o.bs, o.rs.keep hb, o.bl.keep hb, o.below.trans (hb.mono (by have := o.size; omega)), Nat.le_trans o.size hb.size, o.gs, o.gm⟩

theorem OfW.seven {s0 g N cap gm k : Nat} {h : Hd} {cs : List Nd} {l : List Nat} {w0 w : World} {c : Nd} (o : OfW s0 g N cap gm h cs l w0 w) (hc : Is cs k c) :
    w.cell? ⟨s0, 0, none⟩ = some (.int .i64 h.V) ∧ w.cell? ⟨s0, 1, none⟩ = some (.int .i64 h.B) ∧ w.cell? ⟨s0, 2, none⟩ = some (.int .i64 h.made) ∧ w.cell? ⟨s0, 3, none⟩ = some (.int .i64 h.sweeps) ∧ w.cell? ⟨s0, 4, none⟩ = some (.slice (some ⟨g, 0, none⟩) N cap) ∧
    w.cell? ⟨g, k * 5 + 2, none⟩ = some (.int .i64 c.low) ∧ w.cell? ⟨g, k * 5 + 3, none⟩ = some (.int .i64 c.high) := by
  obtain ⟨_, _, _, d2, d3, _⟩ := o.rs.row hc
  exact ⟨cell_of_row w _ 0 _ _ _ o.bs, cell_of_row w _ 1 _ _ _ o.bs, cell_of_row w _ 2 _ _ _ o.bs, cell_of_row w _ 3 _ _ _ o.bs, cell_of_row w _ 4 _ _ _ o.bs, d2, d3⟩

theorem bools_take (L : List Bool) (k : Nat) : ∀ (j : Nat) (u : Value), ((L.take k).map Value.bool)[j]? = some u → (L.map Value.bool)[j]? = some u := by
  intro j u hu
  rw [List.map_take, List.getElem?_take] at hu
  split at hu
  · exact hu
  · cases hu
theorem bools_drop (L : List Bool) (k : Nat) : ∀ (j : Nat) (u : Value), ((L.drop k).map Value.bool)[j]? = some u → (L.map Value.bool)[k + j]? = some u := by
  intro j u hu
  rw [List.map_drop, List.getElem?_drop] at hu
  exact hu
theorem oneCell_bools (L : List Bool) : ∀ u ∈ L.map Value.bool, u.oneCell' = true := by
  intro u hu
  rw [List.mem_map] at hu
  obtain ⟨b, _, rfl⟩ := hu
  simp [Value.oneCell']

/-- The marks that the three appends make. -/
theorem of_marks {w3 : World} {B N k : Nat} {l : List Nat} {v : Value} (hk : k < N) (h : w3.ownsRow B 4 1 v (k + 1 + (N - (k + 1))) (((marksL N l).take k).map Value.bool ++ [.bool true] ++ ((marksL N l).drop (k + 1)).map Value.bool)) :
    ∃ g3 cap3, v = .slice (some ⟨g3, 0, none⟩) N cap3 ∧ BL w3 g3 (marksL N (k :: l)) ∧ N ≤ cap3 ∧ B ≤ g3 := by
  rw [show k + 1 + (N - (k + 1)) = N by omega] at h
  obtain ⟨g3, cap3, rfl, hb, hl⟩ := h.form (by omega)
  refine ⟨g3, cap3, rfl, ⟨hl, fun j u hu => ?_⟩, ?_, hb⟩
  · have e : ((marksL N l).take k).map Value.bool ++ [Value.bool true] ++ ((marksL N l).drop (k + 1)).map Value.bool = (marksL N (k :: l)).map Value.bool := by
      rw [← bset_marks N l k hk]; unfold bset; simp
    have := h.cells (g := g3) rfl j u (by rw [e]; exact hu)
    rwa [add_g, Nat.zero_add] at this
  · rcases h.2 with ⟨e, _⟩ | ⟨g', c', cur, e, _, _, h1, _⟩
    · cases e
    · simp only [Value.slice.injEq, true_and] at e
      omega

theorem mark_mono (cs : List Nd) {k : Nat} : ∀ n l j, k ∈ l → k ∈ mark cs n l j := by
  intro n
  induction n with
  | zero => intro l j h; exact h
  | succ n ih =>
    intro l j h
    unfold mark
    split
    · exact h
    · split
      · exact ih _ _ (ih _ _ (List.mem_cons_of_mem _ h))
      · exact h

set_option maxHeartbeats 4000000 in
set_option maxRecDepth 100000 in
theorem of_any {h : Hd} {cs : List Nd} {N : Nat} (gd : NGood h.V cs) : ∀ (n k : Nat) (c : Nd) (l : List Nat) (w : World) (g cap gm capm : Nat), Is cs k c → rk h.V c + 1 ≤ n → RS w g N cap cs → BL w gm (marksL N l) → N ≤ capm →
    Calls Try.prog 42 #[rsV h g N cap, .slice (some ⟨gm, 0, none⟩) N capm, .int .i64 (k : Int)] w (OfOut N (mark cs n l k) w) := by
  intro n
  induction n with
  | zero => intro k c l w g cap gm capm _ h1; omega
  | succ n ih =>
    intro k c l w g cap gm capm hc hn rs bl hcm
    have hkN : k < N := Nat.lt_of_lt_of_le hc.lt rs.le
    by_cases hin : k ∈ l
    · have e : mark cs (n + 1) l k = l := by unfold mark; rw [if_pos hin]
      rw [e]
      exact of_in h bl hcm hkN hin
    · have e : mark cs (n + 1) l k = mark cs n (mark cs n (k :: l) c.low) c.high := by
        conv => lhs; unfold mark
        rw [if_neg hin]; simp only [hc.1]
      rw [e]
      obtain ⟨i0, hi, hz0, hz1, hz2⟩ := info_parts info_boolR
      have HI := Lib.hid hi
      have HZ0 := Lib.hid hz0
      have HZ1 := Lib.hid hz1
      have HZ2 := Lib.hid hz2
      have W0 : Hid (OfW w.heap.size g N cap gm h cs l w (w.alloc (.cells #[.int .i64 h.V, .int .i64 h.B, .int .i64 h.made, .int .i64 h.sweeps, .slice (some ⟨g, 0, none⟩) N cap] 29))) := by
        have b1 := (Below.refl w.heap.size w).alloc (Nat.le_refl _) (.cells #[.int .i64 h.V, .int .i64 h.B, .int .i64 h.made, .int .i64 h.sweeps, .slice (some ⟨g, 0, none⟩) N cap] 29)
        exact ⟨heap_alloc_new w _, rs.keep b1, bl.keep b1, b1, by simp, rs.rl.lt, bl.lt⟩
      have d0 := W0.out.bl.at hkN
      rw [decide_eq_false hin] at d0
      have hNn := rs.n
      have hNn' : (N : Int) ≤ 1000000 := by omega
      have kN' : (k : Int) < N := by omega
      have kc : (k : Int) ≤ capm := by omega
      have hl1 : Hid ((((marksL N l).take k).map Value.bool).length = k * 1) := by show _ = _; simp [marksL_length]; omega
      have hl3 : Hid ((((marksL N l).drop (k + 1)).map Value.bool).length = (N - (k + 1)) * 1) := by show _ = _; simp [marksL_length]
      have mx1 : Hid (0 + k ≤ maxLen) := by show _ ≤ _; unfold maxLen; omega
      have mb1 : Hid ((0 + k) * 1 ≤ 140737488355328) := by show _ ≤ _; omega
      have mx2 : Hid (k + 1 ≤ maxLen) := by show _ ≤ _; unfold maxLen; omega
      have mb2 : Hid ((k + 1) * 1 ≤ 140737488355328) := by show _ ≤ _; omega
      have mx3 : Hid (k + 1 + (N - (k + 1)) ≤ maxLen) := by show _ ≤ _; unfold maxLen; omega
      have mb3 : Hid ((k + 1 + (N - (k + 1))) * 1 ≤ 140737488355328) := by show _ ≤ _; omega
      have OC1 : Hid (∀ u ∈ ((marksL N l).take k).map Value.bool, u.oneCell' = true) := oneCell_bools _
      have OC3 : Hid (∀ u ∈ ((marksL N l).drop (k + 1)).map Value.bool, u.oneCell' = true) := oneCell_bools _
      have OC2 : Hid (∀ u ∈ [Value.bool true], u.oneCell' = true) := by intro u hu; simp at hu; subst hu; rfl
      have HC := Lib.hid hc
      have HKN := Lib.hid hkN
      have IH := Lib.hid ih
      have HN := Lib.hid hn
      have HCM := Lib.hid hcm
      clear hi hz0 hz1 hz2 rs bl hin hNn hkN ih hn hc e
      unfold rsV at *
      by_cases hkc : k + 1 = capm
      · subst hkc
        have kc3 : Hid (N = k + 1) := by show _ = _; have := HKN.out; omega
        have N0 : Hid ((marksL N l).drop (k + 1) = []) := by show _ = _; apply List.drop_eq_nil_of_le; rw [marksL_length, kc3.out]; exact Nat.le_refl _
        clear hcm
        go_enter Try.func42, Try.ntmps42
        go_wp2_with (first
          | (at_builtin; refine wpList_append_own _ rfl (.tmp 13) (.tmp 16) 35 rfl (w.heap.size + 1) 4 i0 _ 1 1 Try.underlying35 HI.out HZ0.out HZ1.out HZ2.out rfl (by omega) (.slice none 0 0) 0 [] rfl (World.ownsRow_nil _ _ _ _) ⟨gm, 0, none⟩ k (k + 1) (((marksL N l).take k).map Value.bool) rfl hl1.out (fun j u hu => by rw [add_g, Nat.zero_add]; exact W0.out.bl.cell j u (bools_take _ k j u hu)) OC1.out mx1.out mb1.out W0.out.size ?_
             intro v1 w1 hown1 hgrow1 _
             have O1 : Hid (w1.ownsRow (w.heap.size + 1) 4 1 v1 k (((marksL N l).take k).map Value.bool)) := by
               rw [Nat.zero_add, List.nil_append] at hown1; exact hown1
             have W1 := Lib.hid (W0.out.grown hgrow1 (fun i hi => by cases hi))
             clear hown1 hgrow1)
          | (at_builtin; refine wpList_append_own _ rfl (.tmp 18) (.tmp 19) 35 rfl (w.heap.size + 1) 4 i0 _ 1 1 Try.underlying35 HI.out HZ0.out HZ1.out HZ2.out rfl (by omega) v1 k _ rfl (O1.out.alloc _) ⟨w1.heap.size, 0, none⟩ 1 1 [.bool true] rfl rfl (World.news_of_block (cs := #[.bool true]) (t := 4) (fr := (0, 0)) (heap_alloc_new w1 _)) OC2.out mx2.out mb2.out (by have := W1.out.size; simp; omega) ?_
             intro v2 w2 hown2 hgrow2 _
             have O2 := Lib.hid hown2
             have W2 := Lib.hid ((W1.out.alloc _).grown hgrow2 (fun i hi => (O1.out.lt i hi).1))
             clear hown2 hgrow2)
          | (at_builtin; refine wpList_append_own _ rfl (.tmp 21) (.tmp 25) 35 rfl (w.heap.size + 1) 4 i0 _ 1 1 Try.underlying35 HI.out HZ0.out HZ1.out HZ2.out rfl (by omega) v2 (k + 1) _ rfl O2.out ⟨gm, 0, none⟩ (N - (k + 1)) 0 (((marksL N l).drop (k + 1)).map Value.bool) rfl hl3.out (fun j u hu => by rw [N0.out] at hu; simp at hu) OC3.out mx3.out mb3.out W2.out.size ?_
             intro v3 w3 hown3 hgrow3 _
             have W3 := Lib.hid (W2.out.grown hgrow3 (fun i hi => (O2.out.lt i hi).1))
             obtain ⟨g3, cap3, rfl, hb3, hc3, hgb3⟩ := of_marks HKN.out hown3
             have B3 := Lib.hid hb3
             have C3 := Lib.hid hc3
             clear hown3 hgrow3 hb3 hc3))
        · have hk2 : 2 ≤ k := by
            have hq : (1 : Int) < (k : Int) := by assumption
            omega
          obtain ⟨dl, hdl, hdl2⟩ := gd.lo k c hk2 HC.out
          obtain ⟨dh, hdh, hdh2⟩ := gd.hi k c hk2 HC.out
          have RL1 : Hid (rk h.V dl + 1 ≤ n) := by have := HN.out; have := gd.range hdl; show _ ≤ _; unfold rk at *; omega
          have RH1 : Hid (rk h.V dh + 1 ≤ n) := by have := HN.out; have := gd.range hdh; show _ ≤ _; unfold rk at *; omega
          have HDL := Lib.hid hdl
          have HDH := Lib.hid hdh
          obtain ⟨p0, p1, p2, p3, p4, p5, p6⟩ := W3.out.seven HC.out
          clear hdl hdl2 hdh hdh2 hk2 d0
          go_region_held3 (fun w' => w'.cell? ⟨w.heap.size, 0, none⟩ = some (.int .i64 h.V) ∧ w'.cell? ⟨w.heap.size, 1, none⟩ = some (.int .i64 h.B) ∧ w'.cell? ⟨w.heap.size, 2, none⟩ = some (.int .i64 h.made) ∧ w'.cell? ⟨w.heap.size, 3, none⟩ = some (.int .i64 h.sweeps) ∧ w'.cell? ⟨w.heap.size, 4, none⟩ = some (.slice (some ⟨g, 0, none⟩) N cap) ∧ w'.cell? ⟨g, k * 5 + 2, none⟩ = some (.int .i64 c.low) ∧ w'.cell? ⟨g, k * 5 + 3, none⟩ = some (.int .i64 c.high))
            (first | exact ⟨p0, p1, p2, p3, p4, p5, p6⟩ | exact ⟨by assumption, by assumption, by assumption, by assumption, by assumption, by assumption, by assumption⟩ | go_keep)
            (first | (go_at_call 42; refine (IH.out c.low dl (k :: l) _ g cap g3 cap3 HDL.out RL1.out (W3.out.rs.keep (below_drew w3)) (B3.out.keep (below_drew w3)) C3.out).mono ?_; rintro e w4 ⟨g4, cap4, rfl, hb4, hc4, hbel4⟩; have W4 := Lib.hid (W3.out.keep (below_undrew hbel4)); obtain ⟨q0, q1, q2, q3, q4, q5, q6⟩ := W4.out.seven HC.out; have B4 := Lib.hid hb4; have C4 := Lib.hid hc4; clear hb4 hc4 hbel4))
          clear p0 p1 p2 p3 p4 p5 p6
          go_wp2_with fail
          go_region_held3 (fun w' => w'.cell? ⟨w.heap.size, 0, none⟩ = some (.int .i64 h.V) ∧ w'.cell? ⟨w.heap.size, 1, none⟩ = some (.int .i64 h.B) ∧ w'.cell? ⟨w.heap.size, 2, none⟩ = some (.int .i64 h.made) ∧ w'.cell? ⟨w.heap.size, 3, none⟩ = some (.int .i64 h.sweeps) ∧ w'.cell? ⟨w.heap.size, 4, none⟩ = some (.slice (some ⟨g, 0, none⟩) N cap) ∧ w'.cell? ⟨g, k * 5 + 2, none⟩ = some (.int .i64 c.low) ∧ w'.cell? ⟨g, k * 5 + 3, none⟩ = some (.int .i64 c.high))
            (first | exact ⟨q0, q1, q2, q3, q4, q5, q6⟩ | exact ⟨by assumption, by assumption, by assumption, by assumption, by assumption, by assumption, by assumption⟩ | go_keep)
            (first | (go_at_call 42; refine (IH.out c.high dh _ _ g cap g4 cap4 HDH.out RH1.out (W4.out.rs.keep (below_drew w4)) (B4.out.keep (below_drew w4)) C4.out).mono ?_; rintro e w5 ⟨g5, cap5, rfl, hb5, hc5, hbel5⟩; have W5 := Lib.hid (W4.out.keep (below_undrew hbel5)); obtain ⟨r0, r1, r2, r3, r4, r5, r6⟩ := W5.out.seven HC.out; have B5 := Lib.hid hb5; have C5 := Lib.hid hc5; clear hb5 hc5 hbel5))
          go_wp2_with fail
          go_ret
          exact ⟨g5, cap5, rfl, B5.out, C5.out, W5.out.below⟩
        · have hk2 : k < 2 := by
            have hq : (k : Int) ≤ 1 := by assumption
            omega
          obtain ⟨_, e1, e2⟩ := gd.base hk2 HC.out
          go_ret
          refine ⟨g3, cap3, rfl, ?_, C3.out, W3.out.below⟩
          have m1 : ∀ n, mark cs n (k :: l) k = k :: l := by
            intro n; cases n with
            | zero => rfl
            | succ n => unfold mark; rw [if_pos (by simp)]
          rw [e1, e2, m1, m1]
          exact B3.out
      · have kc2 : (k : Int) + 1 < capm := by omega
        clear hkc hcm
        go_enter Try.func42, Try.ntmps42
        go_wp2_with (first
          | (at_builtin; refine wpList_append_own _ rfl (.tmp 13) (.tmp 16) 35 rfl (w.heap.size + 1) 4 i0 _ 1 1 Try.underlying35 HI.out HZ0.out HZ1.out HZ2.out rfl (by omega) (.slice none 0 0) 0 [] rfl (World.ownsRow_nil _ _ _ _) ⟨gm, 0, none⟩ k capm (((marksL N l).take k).map Value.bool) rfl hl1.out (fun j u hu => by rw [add_g, Nat.zero_add]; exact W0.out.bl.cell j u (bools_take _ k j u hu)) OC1.out mx1.out mb1.out W0.out.size ?_
             intro v1 w1 hown1 hgrow1 _
             have O1 : Hid (w1.ownsRow (w.heap.size + 1) 4 1 v1 k (((marksL N l).take k).map Value.bool)) := by
               rw [Nat.zero_add, List.nil_append] at hown1; exact hown1
             have W1 := Lib.hid (W0.out.grown hgrow1 (fun i hi => by cases hi))
             clear hown1 hgrow1)
          | (at_builtin; refine wpList_append_own _ rfl (.tmp 18) (.tmp 19) 35 rfl (w.heap.size + 1) 4 i0 _ 1 1 Try.underlying35 HI.out HZ0.out HZ1.out HZ2.out rfl (by omega) v1 k _ rfl (O1.out.alloc _) ⟨w1.heap.size, 0, none⟩ 1 1 [.bool true] rfl rfl (World.news_of_block (cs := #[.bool true]) (t := 4) (fr := (0, 0)) (heap_alloc_new w1 _)) OC2.out mx2.out mb2.out (by have := W1.out.size; simp; omega) ?_
             intro v2 w2 hown2 hgrow2 _
             have O2 := Lib.hid hown2
             have W2 := Lib.hid ((W1.out.alloc _).grown hgrow2 (fun i hi => (O1.out.lt i hi).1))
             clear hown2 hgrow2)
          | (at_builtin; refine wpList_append_own _ rfl (.tmp 21) (.tmp 25) 35 rfl (w.heap.size + 1) 4 i0 _ 1 1 Try.underlying35 HI.out HZ0.out HZ1.out HZ2.out rfl (by omega) v2 (k + 1) _ rfl O2.out ⟨gm, k + 1, none⟩ (N - (k + 1)) (capm - (k + 1)) (((marksL N l).drop (k + 1)).map Value.bool) rfl hl3.out (fun j u hu => by rw [add_g]; exact W2.out.bl.cell _ u (bools_drop _ (k + 1) j u hu)) OC3.out mx3.out mb3.out W2.out.size ?_
             intro v3 w3 hown3 hgrow3 _
             have W3 := Lib.hid (W2.out.grown hgrow3 (fun i hi => (O2.out.lt i hi).1))
             obtain ⟨g3, cap3, rfl, hb3, hc3, hgb3⟩ := of_marks HKN.out hown3
             have B3 := Lib.hid hb3
             have C3 := Lib.hid hc3
             clear hown3 hgrow3 hb3 hc3))
        · have hk2 : 2 ≤ k := by
            have hq : (1 : Int) < (k : Int) := by assumption
            omega
          obtain ⟨dl, hdl, hdl2⟩ := gd.lo k c hk2 HC.out
          obtain ⟨dh, hdh, hdh2⟩ := gd.hi k c hk2 HC.out
          have RL1 : Hid (rk h.V dl + 1 ≤ n) := by have := HN.out; have := gd.range hdl; show _ ≤ _; unfold rk at *; omega
          have RH1 : Hid (rk h.V dh + 1 ≤ n) := by have := HN.out; have := gd.range hdh; show _ ≤ _; unfold rk at *; omega
          have HDL := Lib.hid hdl
          have HDH := Lib.hid hdh
          obtain ⟨p0, p1, p2, p3, p4, p5, p6⟩ := W3.out.seven HC.out
          clear hdl hdl2 hdh hdh2 hk2 d0
          go_region_held3 (fun w' => w'.cell? ⟨w.heap.size, 0, none⟩ = some (.int .i64 h.V) ∧ w'.cell? ⟨w.heap.size, 1, none⟩ = some (.int .i64 h.B) ∧ w'.cell? ⟨w.heap.size, 2, none⟩ = some (.int .i64 h.made) ∧ w'.cell? ⟨w.heap.size, 3, none⟩ = some (.int .i64 h.sweeps) ∧ w'.cell? ⟨w.heap.size, 4, none⟩ = some (.slice (some ⟨g, 0, none⟩) N cap) ∧ w'.cell? ⟨g, k * 5 + 2, none⟩ = some (.int .i64 c.low) ∧ w'.cell? ⟨g, k * 5 + 3, none⟩ = some (.int .i64 c.high))
            (first | exact ⟨p0, p1, p2, p3, p4, p5, p6⟩ | exact ⟨by assumption, by assumption, by assumption, by assumption, by assumption, by assumption, by assumption⟩ | go_keep)
            (first | (go_at_call 42; refine (IH.out c.low dl (k :: l) _ g cap g3 cap3 HDL.out RL1.out (W3.out.rs.keep (below_drew w3)) (B3.out.keep (below_drew w3)) C3.out).mono ?_; rintro e w4 ⟨g4, cap4, rfl, hb4, hc4, hbel4⟩; have W4 := Lib.hid (W3.out.keep (below_undrew hbel4)); obtain ⟨q0, q1, q2, q3, q4, q5, q6⟩ := W4.out.seven HC.out; have B4 := Lib.hid hb4; have C4 := Lib.hid hc4; clear hb4 hc4 hbel4))
          clear p0 p1 p2 p3 p4 p5 p6
          go_wp2_with fail
          go_region_held3 (fun w' => w'.cell? ⟨w.heap.size, 0, none⟩ = some (.int .i64 h.V) ∧ w'.cell? ⟨w.heap.size, 1, none⟩ = some (.int .i64 h.B) ∧ w'.cell? ⟨w.heap.size, 2, none⟩ = some (.int .i64 h.made) ∧ w'.cell? ⟨w.heap.size, 3, none⟩ = some (.int .i64 h.sweeps) ∧ w'.cell? ⟨w.heap.size, 4, none⟩ = some (.slice (some ⟨g, 0, none⟩) N cap) ∧ w'.cell? ⟨g, k * 5 + 2, none⟩ = some (.int .i64 c.low) ∧ w'.cell? ⟨g, k * 5 + 3, none⟩ = some (.int .i64 c.high))
            (first | exact ⟨q0, q1, q2, q3, q4, q5, q6⟩ | exact ⟨by assumption, by assumption, by assumption, by assumption, by assumption, by assumption, by assumption⟩ | go_keep)
            (first | (go_at_call 42; refine (IH.out c.high dh _ _ g cap g4 cap4 HDH.out RH1.out (W4.out.rs.keep (below_drew w4)) (B4.out.keep (below_drew w4)) C4.out).mono ?_; rintro e w5 ⟨g5, cap5, rfl, hb5, hc5, hbel5⟩; have W5 := Lib.hid (W4.out.keep (below_undrew hbel5)); obtain ⟨r0, r1, r2, r3, r4, r5, r6⟩ := W5.out.seven HC.out; have B5 := Lib.hid hb5; have C5 := Lib.hid hc5; clear hb5 hc5 hbel5))
          go_wp2_with fail
          go_ret
          exact ⟨g5, cap5, rfl, B5.out, C5.out, W5.out.below⟩
        · have hk2 : k < 2 := by
            have hq : (k : Int) ≤ 1 := by assumption
            omega
          obtain ⟨_, e1, e2⟩ := gd.base hk2 HC.out
          go_ret
          refine ⟨g3, cap3, rfl, ?_, C3.out, W3.out.below⟩
          have m1 : ∀ n, mark cs n (k :: l) k = k :: l := by
            intro n; cases n with
            | zero => rfl
            | succ n => unfold mark; rw [if_pos (by simp)]
          rw [e1, e2, m1, m1]
          exact B3.out
end Go.Proofs.Yteeffabmafakiaa
