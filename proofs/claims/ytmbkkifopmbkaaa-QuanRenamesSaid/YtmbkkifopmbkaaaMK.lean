/- Merged: QDraft, QProduct, QVals, QRename, QRenX, QLaw, QAwake. -/
import Derived.Test.YtmbkkifopmbkaaaMJ
import Derived.Test.YtmbkkifopmbkaaaMI
import Derived.Test.YtmbkkifopmbkaaaMG
import Derived.Test.YtmbkkifopmbkaaaMH

/- Contracts of layer 5 (quan): draft; the marks of variables. -/
namespace Go.Proofs.Ytmbkkifopmbkaaa
open Go.ChangeShapes Go.WideShapes Go.ChangeAt Go.RowKit Go.Maps

def DraftOut (o q V : Nat) (a : OS) (w : World) (e : Ending) (w' : World) : Prop :=
  ∃ (d : Nat) (b : OS), e = .returned (.pointer (some ⟨d, 0, none⟩)) ∧ Two o q d a b w' ∧ b.h.V = V ∧ b.h.B = 1048576 ∧ cnt b.cs = 2 ∧ Below w.heap.size w w' ∧ ∀ i, b.own d i → w.heap.size ≤ i

theorem draft_any {o q V : Nat} {a : OS} {w : World} (r : a.at o w) (ha : QuanAt w q o) (nq : ¬ a.own o q) (hV : a.h.V = V) (hV2 : V ≤ 256) :
    Calls Try.prog 34 #[.pointer (some ⟨q, 0, none⟩)] w (DraftOut o q V a w) := by
  have c1 := ha.c1
  have SO := Lib.hid (store_ops r)
  have VS := vars_store r.st.lay
  rw [hV] at VS
  have VS := Lib.hid VS
  have NS := newst_yes V 1048576 hV2 (by omega) (by omega) w
  change Calls _ _ #[_, .int .i64 1048576] _ _ at NS
  have NS := Lib.hid NS
  have RR := Lib.hid r
  have QA := Lib.hid ha
  have NQ := Lib.hid nq
  clear r ha nq hV hV2
  unfold ptrV at *
  go_enter Try.func34, Try.ntmps34
  go_wp2_with fail
  refine SO.out.mono ?_
  rintro e w1 ⟨rfl, rfl⟩
  go_wp2_with fail
  refine VS.out.mono ?_
  rintro e w1 ⟨rfl, rfl⟩
  go_wp2_with fail
  refine NS.out.mono ?_
  rintro e w1 ⟨m, rfl, s1, hb1, ho1⟩
  have NO := Lib.hid (newops_yes s1 (Int.le_refl 0))
  have B1 := Lib.hid hb1
  have O1 := Lib.hid ho1
  clear s1 hb1 ho1 NS c1
  unfold ptrV at *
  go_wp2_with fail
  refine NO.out.mono ?_
  rintro e w2 ⟨d, rfl, os, hb2, hol⟩
  have OS2 := Lib.hid os
  have B2 := Lib.hid (B1.out.trans (hb2.mono B1.out.size))
  have OL : Hid (w.heap.size ≤ d) := Nat.le_trans B1.out.size hol
  clear os hb2 hol NO
  go_wp2_with fail
  go_ret
  have own : ∀ i, OS.own ⟨m, ⟨V, 1048576, 2, 2, 0, 0⟩, [⟨V, 0, 0, 0⟩, ⟨V, 1, 1, 0⟩], none⟩ d i → w.heap.size ≤ i := by
    rintro i (h | rfl | h)
    · exact O1.out i h
    · exact OL.out
    · cases h
  exact ⟨d, ⟨m, ⟨V, 1048576, 2, 2, 0, 0⟩, [⟨V, 0, 0, 0⟩, ⟨V, 1, 1, 0⟩], none⟩, rfl,
    ⟨RR.out.keep B2.out, OS2.out, QA.out.keep B2.out, NQ.out, fun h => by have := own _ h; have := QA.out.lt; omega, fun i hi hd => by have := own _ hd; have := RR.out.own_lt i hi; omega⟩, rfl, rfl, (first_keys V).count.symm, B2.out, own⟩

/-- The marks: a block of so many bools. -/
def marksC (V : Nat) (S : Nat → Bool) : Array Value := ((List.range V).map fun i => Value.bool (S i)).toArray
def MarksAt (w : World) (sb V : Nat) (S : Nat → Bool) : Prop := w.heap[sb]? = some (.cells (marksC V S) 4 (0, 0))

theorem MarksAt.cell {w : World} {sb V : Nat} {S : Nat → Bool} (h : MarksAt w sb V S) {i : Nat} (hi : i < V) : w.cell? ⟨sb, i, none⟩ = some (.bool (S i)) := by
  unfold World.cell?
  rw [h]
  simp [marksC, hi]
theorem MarksAt.fz {w : World} {sb V : Nat} {S : Nat → Bool} (h : MarksAt w sb V S) (i : Nat) : w.frozen? ⟨sb, i, none⟩ = false := frozen_of_row w sb i _ _ h
theorem MarksAt.set {w : World} {sb V : Nat} {S : Nat → Bool} (h : MarksAt w sb V S) (v : Nat) : MarksAt (w.setCell ⟨sb, v, none⟩ (.bool true)) sb V (fun i => S i || decide (i = v)) := by
  have := heap_setCell_same _ _ v _ _ (.bool true) h
  unfold MarksAt
  rw [this]
  congr 2
  unfold marksC
  apply Array.ext
  · simp
  · intro i h1 h2
    simp only [List.getElem_toArray, List.getElem_map, List.getElem_range]
    by_cases e : v = i
    · subst e; simp
    · have e' : ¬ i = v := fun q => e q.symm
      simp [e, e']

theorem marksC_none (V : Nat) : marksC V (fun _ => false) = Array.replicate V (.bool false) := by
  unfold marksC
  apply Array.ext
  · simp
  · intro i h1 h2; simp

def markS (xs : List Nat) (i : Nat) : Bool := decide (i ∈ xs)
theorem markS_step (xs : List Nat) {j x : Nat} (h : xs[j]? = some x) (i : Nat) : markS (xs.take (j + 1)) i = (markS (xs.take j) i || decide (i = x)) := by
  have hj := (List.getElem?_eq_some_iff.1 h).1
  have e : xs.take (j + 1) = xs.take j ++ [x] := by
    rw [List.take_add_one, h]; rfl
  unfold markS
  rw [e]
  simp
end Go.Proofs.Ytmbkkifopmbkaaa

/- Contracts of layer 5 (quan): Product, Exists. -/
namespace Go.Proofs.Ytmbkkifopmbkaaa
open Go.ChangeShapes Go.WideShapes Go.ChangeAt Go.RowKit Go.Maps

theorem info_boolQ : (Try.prog.info? 4).map (fun i => (i.zero, i.size, i.bytes)) = some (some (.bool false), 1, 1) := by kernel_rfl

theorem run_make_marksQ (N : Nat) (hN : N ≤ 1000000) (w : World) :
    (Instr.makeSlice 80 (.int .i64 (N : Int)) (.int .i64 (N : Int))).run Try.prog w = .ok (.slice (some ⟨w.heap.size, 0, none⟩) N N) (w.alloc (.cells (marksC N fun _ => false) 4)) := by
  obtain ⟨i, hi, hz, hz1, hz2⟩ := info_parts info_boolQ
  have hb : (i.bytes : Int) * (N : Int) ≤ 281474976710656 := by rw [hz2]; omega
  have hr := run_make (P := Try.prog) w 80 4 i _ Try.underlying80 hi hz .i64 .i64 N N (by omega) (by omega) hb (by omega)
  rw [hz1] at hr
  simp only [Int.toNat_natCast] at hr
  rw [Nat.mul_one] at hr
  have e : marksC N (fun _ => false) = madeCells (Value.bool false).cells N := by
    apply Array.toList_inj.1
    rw [marksC_none]
    show _ = (madeCells #[Value.bool false] N).toList
    rw [toList_madeCells_one]
    simp
  rw [e]
  exact hr

noncomputable def exF (S : Nat → Bool) (f : (Nat → Bool) → Bool) (val : Nat → Bool) : Bool := @decide (Ex S f val) (Classical.propDecidable _)
theorem exF_iff {S : Nat → Bool} {f : (Nat → Bool) → Bool} {val : Nat → Bool} : exF S f val = true ↔ Ex S f val := by unfold exF; exact @decide_eq_true_iff _ (Classical.propDecidable _)

abbrev vInts (xs : List Nat) : List Int := xs.map fun (x : Nat) => (x : Int)

theorem listB_ok {V : Nat} {xs : List Nat} (hl : xs.length ≤ 256) (h : ∀ x ∈ xs, x < V) : listB V (vInts xs) = true := by
  refine listB_done (by simpa using hl) fun j y _ hy => ?_
  rw [List.getElem?_map] at hy
  cases hx : xs[j]? with
  | none => rw [hx] at hy; cases hy
  | some x =>
    rw [hx] at hy
    injection hy with hy
    rw [← hy]
    exact varB_nat (h x (List.mem_of_getElem? hx))

/-- A draft's node, kept. -/
theorem QOut.kept {V o q d ms B k : Nat} {a b b' : OS} {F : (Nat → Bool) → Bool} {w w8 w9 w' : World} {e : Ending} (hb : Below w.heap.size w w8) (hbo : ∀ i, b.own d i → w.heap.size ≤ i) (hq : q < w.heap.size) (t9 : Turn (Two.own o q d a b) w8 w9) (o9 : ∀ i, Two.own o q d a b' i → Two.own o q d a b i ∨ w8.heap.size ≤ i)
    (hB : a.h.B = B) (g0 : NGood V b'.cs) (hF : ∀ val, Says V b'.cs val k = F val) (f : KeepOut o q d ms V B b' a k w9 e w') : QOut V o q a F w e w' := by
  obtain ⟨r, x, a', rfl, j, g, t, ow, m, hout⟩ := f
  have m : cnt a'.cs + 1 ≤ cnt a.cs + 1 * 2 ^ V := m
  rw [Nat.one_mul] at m
  have near : ∀ i, Two.own o q d a b i → (a.own o i ∨ i = q) ∨ w.heap.size ≤ i := by
    rintro i (h | rfl | h)
    · exact .inl (.inl h)
    · exact .inl (.inr rfl)
    · exact .inr (hbo i h)
  have near' : ∀ i, Two.own o q d a b' i → (a.own o i ∨ i = q) ∨ w.heap.size ≤ i := fun i h => (o9 i h).elim (near i) fun h => .inr (Nat.le_trans hb.size h)
  have T8 : Turn (fun i => a.own o i ∨ i = q) w w9 := (Turn.of_below hb).trans t9 near
  refine ⟨r, x, a', rfl, j.two.main, j.two.quan, j.two.nq, g, T8.trans t near', fun i hi => ?_, m, ?_⟩
  · rcases ow i (.inl hi) with h | h
    · rcases near' i h with (h | rfl) | h
      · exact .inl h
      · exact absurd hi j.two.nq
      · exact .inr h
    · exact .inr (Nat.le_trans T8.size h)
  · rcases hout with ⟨rfl, ⟨c, h1, h2⟩, h3⟩ | ⟨rfl, rfl, hf⟩
    · exact .inl ⟨rfl, h2.mono (g0.range h1).1, fun val => (h3 val).trans (hF val)⟩
    · have hf : B ≤ cnt a'.cs := hf
      exact .inr ⟨rfl, rfl, by omega⟩

set_option maxRecDepth 100000 in
set_option maxHeartbeats 8000000 in
theorem product_good {V o q : Nat} {a : OS} {w : World} (r : a.at o w) (ha : QuanAt w q o) (nq : ¬ a.own o q) (hV : a.h.V = V) (hV2 : 2 + 2 ^ V * 2 ^ V ≤ 900000) {ka kb : Nat} (hka : At a.cs 0 ka) (hkb : At a.cs 0 kb)
    {A : Option Addr} {cap : Nat} {xs : List Nat} (hl : xs.length ≤ 256) (hx : ∀ x ∈ xs, x < V) (hrd : Rd w A (ints (vInts xs))) :
    Calls Try.prog 18 #[.pointer (some ⟨q, 0, none⟩), .int .i64 (ka : Int), .int .i64 (kb : Int), .slice A xs.length cap] w (QOut V o q a (exF (markS xs) (both V a.cs ⟨ka, kb⟩)) w) := by
  have p1 := Nat.one_le_two_pow (n := V)
  have p2 := Nat.mul_le_mul_left (2 ^ V) p1
  have hV3 : 2 ^ V ≤ 900000 := by omega
  have hV4 : V ≤ 256 := by have := r.st.V; omega
  have bw := (Below.refl w.heap.size w).alloc (Nat.le_refl _) (.cells #[.int .i64 (ka : Int), .int .i64 (kb : Int)] 3)
  have h4 := heap_alloc_new w (.cells #[.int .i64 (ka : Int), .int .i64 (kb : Int)] 3)
  have RF := refusal_q (r.keep bw) (ha.keep bw) (c := cap) (vs := vInts xs) (hrd.keep bw) (by simp; omega) (c2 := 2) (xs := [(ka : Int), (kb : Int)]) (by simp) (row_lt h4) (cells_two h4)
  have hz : refQ a.h.V a.cs (vInts xs) [(ka : Int), (kb : Int)] = 0 := refQ_ok (listB_ok hl (by rw [hV]; exact hx)) (by simp [there_at hka, there_at hkb])
  unfold RefQOut at RF
  rw [hz] at RF
  rw [show (vInts xs).length = xs.length by simp] at RF
  change Calls _ _ #[_, _, .slice _ 2 _] _ _ at RF
  have RF := Lib.hid RF
  have BW := Lib.hid bw
  have R0 := Lib.hid (r.keep bw)
  have Q0 := Lib.hid (ha.keep bw)
  have RD0 := Lib.hid (hrd.keep bw)
  have NQ := Lib.hid nq
  have OL := Lib.hid r.own_lt
  have QL := Lib.hid ha.lt
  have EV := Lib.hid hV
  have EV2 := Lib.hid hV2
  have EV3 := Lib.hid hV3
  have EV4 := Lib.hid hV4
  have HL := Lib.hid hl
  have HX := Lib.hid hx
  have PA : Hid (PAt a.cs 0 ⟨ka, kb⟩) := ⟨hka, hkb⟩
  have MK := run_make_marksQ V (by omega)
  clear bw h4 hz r ha nq hV hV2 hka hkb hl hx hrd p1 p2 hV3 hV4
  go_enter Try.func18, Try.ntmps18
  go_wp2_with fail
  refine RF.out.mono ?_
  rintro e w5 ⟨rfl, hb⟩
  have B5 := Lib.hid (BW.out.trans (hb.mono BW.out.size))
  have R5 := Lib.hid (R0.out.keep hb)
  have Q5 := Lib.hid (Q0.out.keep hb)
  have RD5 := Lib.hid (RD0.out.keep hb)
  have c1 := Q5.out.c1
  have SO := Lib.hid (store_ops R5.out)
  have VS := vars_store R5.out.st.lay
  rw [EV.out] at VS
  have VS := Lib.hid VS
  unfold ptrV at SO VS
  clear RF BW R0 Q0 hb RD0
  go_wp2_with fail
  refine SO.out.mono ?_
  rintro e w6 ⟨rfl, rfl⟩
  go_wp2_with fail
  refine VS.out.mono ?_
  rintro e w6 ⟨rfl, rfl⟩
  go_wp2_with fail
  have M0 : MarksAt (w5.alloc (.cells (marksC V fun _ => false) 4)) w5.heap.size V (markS (xs.take 0)) := by
    have := heap_alloc_new w5 (.cells (marksC V fun _ => false) 4)
    have e : markS (xs.take 0) = fun _ => false := by funext i; simp [markS]
    rw [e]
    exact this
  have B6 := (Below.refl w5.heap.size w5).alloc (Nat.le_refl _) (.cells (marksC V fun _ => false) 4)
  have M0 := Lib.hid M0
  have B6 := Lib.hid B6
  have ZZ : Hid (w5.heap.size < (w5.alloc (.cells (marksC V fun _ => false) 4)).heap.size) := by show _ < _; simp
  clear MK SO VS
  revert M0 B6 ZZ
  generalize w5.alloc (.cells (marksC V fun _ => false) 4) = w6
  generalize hsb : w5.heap.size = sb
  intro M0 B6 ZZ
  have SB := Lib.hid hsb
  clear hsb c1
  go_loopw [35] (fun ix wr => ∃ i : Nat, i ≤ xs.length ∧ ix = .int .i64 i ∧ MarksAt wr sb V (markS (xs.take i)) ∧ Below sb w5 wr ∧ sb < wr.heap.size) (fun ix _ => xs.length - (intOf ix).toNat)
  case atStart => exact ⟨0, Nat.zero_le _, rfl, M0.out, B6.out, ZZ.out⟩
  case round =>
    clear M0 B6 ZZ
    obtain ⟨i, hi, rfl, hm, hb, hz⟩ := hrel
    have HM := Lib.hid hm
    have HB := Lib.hid hb
    have HZ := Lib.hid hz
    clear hm hb hz
    by_cases hlt : i < xs.length
    · obtain ⟨x, hxi⟩ : ∃ x, xs[i]? = some x := ⟨_, List.getElem?_eq_getElem hlt⟩
      have hxV : x < V := HX.out x (List.mem_of_getElem? hxi)
      have RDw := RD5.out.keep (by rw [SB.out]; exact HB.out)
      rcases RDw with hn | ⟨b, off, rfl, hbl, hcell⟩
      · exfalso
        have : xs = [] := by simpa using hn
        subst this
        simp at hlt
      · have cx : wr.cell? ⟨b, off + i, none⟩ = some (.int .i64 (x : Int)) := hcell i _ (by rw [List.getElem?_map, List.getElem?_map, hxi]; rfl)
        have cm := HM.out.cell hxV
        have fm := HM.out.fz x
        have XI := Lib.hid hxi
        have XV := Lib.hid hxV
        have d1 : (x : Int) < V := by omega
        have hll := HL.out
        clear hxi hcell hbl
        go_wp2_with fail
        have M1 := Lib.hid (HM.out.set x)
        have T1 : Hid (Below sb w5 (wr.setCell ⟨sb, x, none⟩ (.bool true))) := HB.out.setCell (by show sb ≤ sb; omega) _
        go_roundw
        case rel =>
          refine ⟨i + 1, by omega, by go_num, ?_, T1.out, ?_⟩
          · have e : markS (xs.take (i + 1)) = fun j => markS (xs.take i) j || decide (j = x) := by funext j; exact markS_step xs XI.out j
            rw [e]
            exact M1.out
          · have := HZ.out
            simpa [World.setCell] using this
        case measure => simp [intOf]; omega
    · obtain rfl : i = xs.length := by omega
      rw [List.take_length] at HM
      have R6 := Lib.hid (R5.out.keep (by rw [SB.out]; exact HB.out))
      have Q6 := Lib.hid (Q5.out.keep (by rw [SB.out]; exact HB.out))
      have B7 := Lib.hid (B5.out.trans (HB.out.mono (by have := B5.out.size; have := SB.out; omega)))
      have DR := Lib.hid (draft_any R6.out Q6.out NQ.out EV.out EV4.out)
      clear R5 Q5 RD5
      go_wp2_with fail
      refine DR.out.mono ?_
      rintro e w8 ⟨d, b, rfl, t8, bV, bB, bc, hb8, ho8⟩
      have SBW : Hid (w.heap.size ≤ sb) := by have := B5.out.size; have := SB.out; show _ ≤ _; omega
      have PR := product_any (S := markS xs) t8 EV.out bV bB EV3.out (sb := sb) (Nat.lt_of_lt_of_le HZ.out hb8.size) (fun i hi => (hb8.cell (p := ⟨sb, i, none⟩) HZ.out).trans (HM.out.cell hi))
        (by
          rintro (h | h | h)
          · have := OL.out _ h; have := SBW.out; omega
          · have := QL.out; have := SBW.out; omega
          · have := ho8 _ h; have := HZ.out; omega) PA.out
      have PR := Lib.hid PR
      have B8 := Lib.hid (B7.out.trans (hb8.mono B7.out.size))
      have O8 : Hid (∀ i, b.own d i → w.heap.size ≤ i) := fun i hi => Nat.le_trans B7.out.size (ho8 i hi)
      have BC := Lib.hid bc
      have BV := Lib.hid bV
      clear t8 bV bB bc hb8 ho8 DR HB HM HZ
      unfold prV at PR
      change Hid (Calls _ _ #[_, _, .agg #[.int .i64 (ka : Int), .int .i64 (kb : Int)], _] _ _) at PR
      go_wp2_with fail
      refine PR.out.mono ?_
      rintro e w9 ⟨r9, x9, b9, rfl, t9, g9, tn9, o9, m9, hout⟩
      have hx9 : x9 = 0 ∧ PRes V a.cs b9.cs (markS xs) ⟨ka, kb⟩ r9 := by
        rcases hout with h | ⟨_, _, h⟩
        · exact h
        · exfalso
          have := BC.out
          have := EV2.out
          omega
      obtain ⟨rfl, hres⟩ := hx9
      have gb : NGood V b9.cs := by have := t9.draft.st.good; rw [g9.V, BV.out] at this; exact this
      obtain ⟨c9, i9, _⟩ := hres.1
      have KP := keep_any (V := V) (B := a.h.B) (ms := a.m.s) ⟨t9, EV.out, g9.V.trans BV.out, rfl, rfl⟩ (by have := EV3.out; omega) i9
      have FIN : Hid (∀ e w', KeepOut o q d a.m.s V a.h.B b9 a r9 w9 e w' → QOut V o q a (exF (markS xs) (both V a.cs ⟨ka, kb⟩)) w e w') := by
        show ∀ e w', _ → _
        intro e w' f
        refine QOut.kept B8.out O8.out QL.out tn9 o9 rfl gb (fun val => ?_) f
        have h := hres.2 val
        have h2 := exF_iff (S := markS xs) (f := both V a.cs ⟨ka, kb⟩) (val := val)
        exact Bool.eq_iff_iff.2 (h.trans h2.symm)
      have KP := Lib.hid KP
      clear t9 g9 tn9 o9 m9 hout hres gb i9 PR
      go_wp2_with fail
      refine KP.out.mono ?_
      intro e w10 hout
      have HO := Lib.hid (FIN.out _ _ hout)
      obtain ⟨r, x, s', rfl, -⟩ := hout
      clear KP FIN
      go_wp2_with fail
      go_ret2
      exact HO.out

theorem exists_good {V o q : Nat} {a : OS} {w : World} (r : a.at o w) (ha : QuanAt w q o) (nq : ¬ a.own o q) (hV : a.h.V = V) (hV2 : 2 + 2 ^ V * 2 ^ V ≤ 900000) {k : Nat} (hk : At a.cs 0 k)
    {A : Option Addr} {cap : Nat} {xs : List Nat} (hl : xs.length ≤ 256) (hx : ∀ x ∈ xs, x < V) (hrd : Rd w A (ints (vInts xs))) :
    Calls Try.prog 17 #[.pointer (some ⟨q, 0, none⟩), .int .i64 (k : Int), .slice A xs.length cap] w (QOut V o q a (exF (markS xs) (both V a.cs ⟨k, k⟩)) w) := by
  have P := Lib.hid (product_good r ha nq hV hV2 hk hk (cap := cap) hl hx hrd)
  clear r ha nq hV hV2 hk hl hx hrd
  go_enter Try.func17, Try.ntmps17
  go_wp2_with fail
  refine P.out.mono ?_
  intro e w1 hout
  have HO := Lib.hid hout
  obtain ⟨r, x, s', rfl, -⟩ := hout
  clear P
  go_wp2_with fail
  go_ret2
  exact HO.out
end Go.Proofs.Ytmbkkifopmbkaaa

/- Contracts of layer 5 (quan): values: of each variable that which takes its place. -/
namespace Go.Proofs.Ytmbkkifopmbkaaa
open Go.ChangeShapes Go.WideShapes Go.ChangeAt Go.RowKit Go.Maps

theorem cnt_ext : ∀ {cs cs' : List Nd}, Ext cs cs' → cnt cs ≤ cnt cs'
  | [], _, _ => by simp [cnt]
  | c :: r, cs', h => by
    have ht : Ext r cs'.tail := by
      intro k d hd
      have := h (k + 1) d ⟨by simpa using hd.1, hd.2⟩
      exact ⟨by rw [List.getElem?_tail]; exact this.1, this.2⟩
    have ih := cnt_ext ht
    by_cases hc : c.asks = -1
    · have e : cnt (c :: r) = cnt r := by simp [cnt, hc]
      rw [e]
      refine Nat.le_trans ih ?_
      cases cs' with
      | nil => exact Nat.le_refl _
      | cons x t =>
        show cnt t ≤ cnt (x :: t)
        unfold cnt
        rw [List.countP_cons]
        omega
    · have h0 := h 0 c ⟨rfl, hc⟩
      cases cs' with
      | nil => simp [Is] at h0
      | cons x t =>
        have hx : x = c := by have := h0.1; simpa using this
        subst hx
        have ih : cnt r ≤ cnt t := ih
        unfold cnt at ih ⊢
        rw [List.countP_cons, List.countP_cons]
        omega

/-- Which variable takes a variable's place. -/
def ren : List Nat → List Nat → Nat → Nat
  | f :: fr, t :: tt, v => if v = f then t else ren fr tt v
  | _, _, v => v

theorem ren_out : ∀ {fr tt : List Nat} {v : Nat}, v ∉ fr → ren fr tt v = v
  | [], _, _, _ => by unfold ren; rfl
  | f :: fr, [], _, _ => by unfold ren; rfl
  | f :: fr, t :: tt, v, h => by
    have h1 : v ≠ f := fun e => h (by simp [e])
    have h2 : v ∉ fr := fun e => h (by simp [e])
    unfold ren
    rw [if_neg h1]
    exact ren_out h2
theorem ren_in : ∀ {fr tt : List Nat} {i v t : Nat}, fr.Nodup → fr[i]? = some v → tt[i]? = some t → ren fr tt v = t
  | [], _, i, v, t, _, h, _ => by simp at h
  | f :: fr, [], i, v, t, _, _, h => by simp at h
  | f :: fr, t' :: tt, 0, v, t, _, h1, h2 => by
    simp at h1 h2
    subst h1 h2
    unfold ren
    rw [if_pos rfl]
  | f :: fr, t' :: tt, i + 1, v, t, hn, h1, h2 => by
    rw [List.getElem?_cons_succ] at h1 h2
    have hv : v ∈ fr := List.mem_of_getElem? h1
    have hne : v ≠ f := by rintro rfl; exact (List.nodup_cons.1 hn).1 hv
    unfold ren
    rw [if_neg hne]
    exact ren_in (List.nodup_cons.1 hn).2 h1 h2
theorem ren_lt : ∀ {fr tt : List Nat} {V v : Nat}, (∀ t ∈ tt, t < V) → v < V → ren fr tt v < V
  | [], _, _, _, _, h => by unfold ren; exact h
  | f :: fr, [], _, _, _, h => by unfold ren; exact h
  | f :: fr, t :: tt, V, v, ht, h => by
    unfold ren
    by_cases e : v = f
    · rw [if_pos e]; exact ht t (by simp)
    · rw [if_neg e]; exact ren_lt (fun t ht' => ht t (by simp [ht'])) h

/-- What stands in the map of values. -/
structure VGood (fr tt : List Nat) (D : DataW Unit) : Prop where
  has : ∀ v : Nat, v < 1048576 → Maps.has D (.int .i64 (v : Int)) = decide (v ∈ fr)
  get : ∀ i v t : Nat, fr[i]? = some v → tt[i]? = some t → D.atKey (.int .i64 (v : Int)) (.lit (.int .i64 0)) = .lit (.int .i64 (t : Int))
  size : Maps.size D = fr.length

theorem VGood.empty (tt : List Nat) : VGood [] tt (.map []) := ⟨fun v _ => by simp [Maps.has], fun i v t h => by simp at h, rfl⟩

def VMap (w : World) (b : Nat) (fr tt : List Nat) : Prop := ∃ D, IMap w b fr.length D ∧ VGood fr tt D
theorem VMap.of {w w' : World} {b : Nat} {fr tt : List Nat} (h : VMap w b fr tt) (e : w'.heap[b]? = w.heap[b]?) : VMap w' b fr tt := by
  obtain ⟨D, h1, h2⟩ := h; exact ⟨D, h1.of e, h2⟩
theorem VMap.lt {w : World} {b : Nat} {fr tt : List Nat} (h : VMap w b fr tt) : b < w.heap.size := by
  obtain ⟨D, h1, _⟩ := h; exact h1.lt

theorem VMap.look {w : World} {b : Nat} {fr tt : List Nat} (h : VMap w b fr tt) (hn : fr.Nodup) (hl : fr.length = tt.length) {v : Nat} (hv : v < 1048576) :
    (v ∈ fr ∧ (Instr.lookup 86 (.map (some b)) (.int .i64 (v : Int)) true).run Try.prog w = .ok (.tuple #[.int .i64 (ren fr tt v : Int), .bool true]) w) ∨
    (ren fr tt v = v ∧ ∃ z : Int, (Instr.lookup 86 (.map (some b)) (.int .i64 (v : Int)) true).run Try.prog w = .ok (.tuple #[.int .i64 z, .bool false]) w) := by
  obtain ⟨D, cm, cg⟩ := h
  have hkl := keyInt v hv
  have hz : (zeroValue 3).run Try.prog w = .ok (.int .i64 0) w := by kernel_rfl
  obtain ⟨x, ps, hrun, hx⟩ := World.ownsMap.look_ok cm lawInt Try.underlying86 hz (plainElem_int Try.underlying3 (a := 0) (by decide)) hkl
  obtain ⟨c, rfl, hc, _⟩ := plainElem_int_inv Try.underlying3 hx
  have hc := congrArg Prod.fst hc
  have hh := cg.has v hv
  rw [hh] at hrun
  by_cases hin : v ∈ fr
  · rw [decide_eq_true hin] at hrun
    obtain ⟨i, hi⟩ := List.getElem?_of_mem hin
    have hil := (List.getElem?_eq_some_iff.1 hi).1
    obtain ⟨t, ht⟩ : ∃ t, tt[i]? = some t := ⟨_, List.getElem?_eq_getElem (by omega)⟩
    have hc : D.atKey (.int .i64 (v : Int)) (.lit (.int .i64 0)) = .lit (.int .i64 c) := hc
    rw [cg.get i v t hi ht] at hc
    injection hc with hc
    injection hc with _ hc
    subst hc
    rw [ren_in hn hi ht]
    exact .inl ⟨hin, hrun⟩
  · rw [decide_eq_false hin] at hrun
    exact .inr ⟨ren_out hin, c, hrun⟩

set_option maxRecDepth 100000 in
theorem VMap.put {w : World} {b i v t : Nat} {fr tt : List Nat} (hn : fr.Nodup) (hl : fr.length ≤ 256) (h : VMap w b (fr.take i) tt) (hi : fr[i]? = some v) (ht : tt[i]? = some t) (hv : v < 1048576) (htl : t < 1048576) :
    ∃ w', (Instr.mapUpdate 86 (.map (some b)) (.int .i64 (v : Int)) (.int .i64 (t : Int))).run Try.prog w = .ok () w' ∧ VMap w' b (fr.take (i + 1)) tt ∧ Turn (fun j => j = b) w w' := by
  obtain ⟨D, cm, cg⟩ := h
  have hil := (List.getElem?_eq_some_iff.1 hi).1
  have et : fr.take (i + 1) = fr.take i ++ [v] := by rw [List.take_add_one, hi]; rfl
  have hlt : (fr.take i).length = i := by rw [List.length_take]; omega
  have hni : v ∉ fr.take i := by
    have h1 : (fr.take (i + 1)).Nodup := hn.sublist (List.take_sublist _ _)
    rw [et] at h1
    have := (List.nodup_append.1 h1).2.2
    intro hin
    exact this v hin v (by simp) rfl
  obtain ⟨w', hrun, r1, r2⟩ := World.ownsMap.update cm lawInt Try.underlying86 (by unfold maxLen; rw [hlt]; omega) (keyInt v hv) (plainElem_int Try.underlying3 (a := (t : Int)) (WalkArith.wf_i64 (by omega)))
  have htn : Turn (fun j => j = b) w w' := (Turn.refl _ w).grown r2 (fun i e => .inl (by injection e with e; exact e.symm))
  have hm := World.ownsMap.isMap cm
  have htd := World.ownsMap.tidy cm lawInt
  refine ⟨w', hrun, ⟨D.put (.int .i64 (v : Int)) (.lit (.int .i64 (t : Int))), ?_, ⟨?_, ?_, ?_⟩⟩, htn⟩
  · rw [et, List.length_append]; exact r1
  · intro u hu
    by_cases e : u = v
    · subst e
      rw [Maps.has_put_same hm (lawInt.key (keyInt u hv)), et]; simp
    · rw [Maps.has_put_other (by simp; omega), cg.has u hu, et]; simp [e]
  · intro j u s hj hs
    rw [et] at hj
    by_cases e : u = v
    · subst e
      have hji : j = i := by
        rcases Nat.lt_or_ge j (fr.take i).length with h1 | h1
        · rw [List.getElem?_append_left h1] at hj
          exact absurd (List.mem_of_getElem? hj) hni
        · rw [List.getElem?_append_right h1] at hj
          have := (List.getElem?_eq_some_iff.1 hj).1
          simp at this
          omega
      subst hji
      rw [ht] at hs
      injection hs with hs
      subst hs
      exact Maps.atKey_put_same hm (lawInt.key (keyInt u hv)) _ _
    · have hj' : (fr.take i)[j]? = some u := by
        rcases Nat.lt_or_ge j (fr.take i).length with h1 | h1
        · rw [List.getElem?_append_left h1] at hj; exact hj
        · rw [List.getElem?_append_right h1] at hj
          have hm := List.mem_of_getElem? hj
          simp at hm
          exact absurd hm e
      exact (Maps.atKey_put_other (by simp; omega) _ _).trans (cg.get j u s hj' hs)
  · rw [size_put htd, cg.has v hv, cg.size, et]
    simp [hni]
end Go.Proofs.Ytmbkkifopmbkaaa

/- Contracts of layer 5 (quan): Rename. -/
namespace Go.Proofs.Ytmbkkifopmbkaaa
open Go.ChangeShapes Go.WideShapes Go.ChangeAt Go.RowKit Go.Maps

def ValsOut (fr tt : List Nat) (w : World) (e : Ending) (w' : World) : Prop :=
  ∃ b, e = .returned (.tuple #[.map (some b), .int .i64 0]) ∧ VMap w' b fr tt ∧ Below w.heap.size w w' ∧ w.heap.size ≤ b

set_option maxRecDepth 100000 in
set_option maxHeartbeats 4000000 in
theorem values_good {V o q : Nat} {a : OS} {w : World} (r : a.at o w) (ha : QuanAt w q o) (hV : a.h.V = V) {A C : Option Addr} {ca cc : Nat} {fr tt : List Nat} (hl : fr.length ≤ 256) (hle : fr.length = tt.length) (hf : ∀ x ∈ fr, x < V) (ht : ∀ x ∈ tt, x < V) (hn : fr.Nodup)
    (rf : Rd w A (ints (vInts fr))) (rt : Rd w C (ints (vInts tt))) :
    Calls Try.prog 39 #[.pointer (some ⟨q, 0, none⟩), .slice A fr.length ca, .slice C tt.length cc] w (ValsOut fr tt w) := by
  have hV4 : V ≤ 256 := by have := r.st.V; omega
  have GV := Lib.hid (given_q ha)
  have T1 := there_q r ha (c := ca) rf (by simp; omega)
  have T2 := there_q r ha (c := cc) rt (by simp; omega)
  unfold ThereOut at T1 T2
  rw [hV, listB_ok hl hf] at T1
  rw [hV, listB_ok (by omega) ht] at T2
  rw [show (vInts fr).length = fr.length by simp] at T1
  rw [show (vInts tt).length = tt.length by simp] at T2
  rw [← hle] at T2 ⊢
  have T1 := Lib.hid T1
  have T2 := Lib.hid T2
  have RF := Lib.hid rf
  have RT := Lib.hid rt
  have HL := Lib.hid hl
  have HLE := Lib.hid hle
  have HF := Lib.hid hf
  have HT := Lib.hid ht
  have HN := Lib.hid hn
  have HV4 := Lib.hid hV4
  have hmm := @run_makeMap Try.prog
  clear r ha hV hl hle hf ht hn rf rt hV4
  go_enter Try.func39, Try.ntmps39
  go_wp2_with fail
  refine GV.out.mono ?_
  rintro e w1 ⟨rfl, rfl⟩
  go_wp2_with fail
  refine T1.out.mono ?_
  rintro e w1 ⟨rfl, rfl⟩
  go_wp2_with fail
  refine T2.out.mono ?_
  rintro e w1 ⟨rfl, rfl⟩
  go_wp2_with fail
  have M0 : Hid (VMap (w.alloc (.map #[] 0)) w.heap.size (fr.take 0) tt) := ⟨_, IMap.made (heap_alloc_new w _), VGood.empty tt⟩
  have B0 := Lib.hid ((Below.refl w.heap.size w).alloc (Nat.le_refl _) (.map #[] 0))
  clear T1 T2 GV hmm
  revert M0 B0
  generalize w.alloc (.map #[] 0) = w1
  generalize hvb : w.heap.size = vb
  intro M0 B0
  have VB := Lib.hid hvb
  clear hvb
  go_loopw [36] (fun ix wr => ∃ i : Nat, i ≤ fr.length ∧ ix = .int .i64 i ∧ VMap wr vb (fr.take i) tt ∧ Below vb w wr) (fun ix _ => fr.length - (intOf ix).toNat)
  case atStart => exact ⟨0, Nat.zero_le _, rfl, M0.out, B0.out⟩
  case round =>
    clear M0 B0
    obtain ⟨i, hi, rfl, hm, hb⟩ := hrel
    have HM := Lib.hid hm
    have HB := Lib.hid hb
    clear hm hb
    have hll := HL.out
    by_cases hlt : i < fr.length
    · obtain ⟨x, hxi⟩ : ∃ x, fr[i]? = some x := ⟨_, List.getElem?_eq_getElem hlt⟩
      obtain ⟨t, hti⟩ : ∃ t, tt[i]? = some t := ⟨_, List.getElem?_eq_getElem (by have := HLE.out; omega)⟩
      have xV := HF.out x (List.mem_of_getElem? hxi)
      have tV := HT.out t (List.mem_of_getElem? hti)
      have RDf := RF.out.keep (by rw [VB.out]; exact HB.out)
      have RDt := RT.out.keep (by rw [VB.out]; exact HB.out)
      rcases RDf with hn | ⟨b, off, rfl, hbl, hcell⟩
      · exfalso
        have : fr = [] := by simpa using hn
        subst this
        simp at hlt
      · rcases RDt with hn | ⟨b2, off2, rfl, hbl2, hcell2⟩
        · exfalso
          have : tt = [] := by simpa using hn
          subst this
          simp at hti
        · have cx : wr.cell? ⟨b, off + i, none⟩ = some (.int .i64 (x : Int)) := hcell i _ (by rw [List.getElem?_map, List.getElem?_map, hxi]; rfl)
          have ct : wr.cell? ⟨b2, off2 + i, none⟩ = some (.int .i64 (t : Int)) := hcell2 i _ (by rw [List.getElem?_map, List.getElem?_map, hti]; rfl)
          obtain ⟨w2, hmu, m2, t2⟩ := HM.out.put HN.out HL.out hxi hti (by have := HV4.out; omega) (by have := HV4.out; omega)
          have M2 := Lib.hid m2
          have B2 : Hid (Below vb w w2) := Turn.to_below HB.out t2 (fun i hi => by omega) (by have := HB.out.size; have := VB.out; omega)
          clear hxi hti xV tV hcell hcell2 hbl hbl2 m2 t2
          go_wp2_with fail
          go_roundw
          case rel => exact ⟨i + 1, by omega, by go_num, M2.out, B2.out⟩
          case measure => simp [intOf]; omega
    · obtain rfl : i = fr.length := by omega
      rw [List.take_length] at HM
      obtain ⟨D, cm, cg⟩ := HM.out
      have hlen := fun ty => World.ownsMap.len cm Try.underlying86 ty
      rw [cg.size] at hlen
      clear cm cg
      go_wp2_with fail
      go_ret2
      exact ⟨vb, rfl, HM.out, by rw [VB.out]; exact HB.out, by rw [VB.out]; exact Nat.le_refl _⟩

def ChOut (d V : Nat) (b : OS) (v x y : Nat) (w : World) (e : Ending) (w' : World) : Prop :=
  ∃ (r : Nat) (z : Int) (b' : OS), e = .returned (.tuple #[.int .i64 (r : Int), .int .i64 z]) ∧ b'.at d w' ∧ Grew b b' ∧ ONext d b.m b.mb b'.m b'.mb w w' ∧ cnt b'.cs ≤ cnt b.cs + 2 ^ V ∧
    ((z = 0 ∧ At b'.cs 0 r ∧ ∀ val, Says V b'.cs val r = if val v then Says V b.cs val y else Says V b.cs val x) ∨ (z = 30 ∧ r = 0 ∧ 1048576 ≤ cnt b'.cs + 2 ^ V))

set_option maxRecDepth 100000 in
set_option maxHeartbeats 1600000 in
theorem choose_any {d V : Nat} {b : OS} {w : World} (r : b.at d w) (eV : b.h.V = V) (eB : b.h.B = 1048576) (hV : 2 ^ V ≤ 900000) {v x y : Nat} (hv : v < V) (hx : At b.cs 0 x) (hy : At b.cs 0 y) :
    Calls Try.prog 41 #[.pointer (some ⟨d, 0, none⟩), .int .i64 (v : Int), .int .i64 (x : Int), .int .i64 (y : Int)] w (ChOut d V b v x y w) := by
  have SD := Lib.hid (store_ops r)
  have g := r.st.good
  rw [eV] at g
  obtain ⟨c0, i0, l0⟩ := g.at0 (u := V) (Int.le_refl _)
  obtain ⟨c1, i1, l1⟩ := g.at1 (u := V) (Int.le_refl _)
  have MK := mk_semS r.st (v := v) (by omega) i0 (by omega) i1 (by omega)
  change Calls _ _ #[_, _, .int .i64 0, .int .i64 1] _ _ at MK
  have MK := Lib.hid MK
  have RR := Lib.hid r
  have EV := Lib.hid eV
  have EB := Lib.hid eB
  have HV := Lib.hid hV
  have GG := Lib.hid g
  have HX := Lib.hid hx
  have HY := Lib.hid hy
  have P1 := Lib.hid (Nat.one_le_two_pow (n := V))
  clear r eV eB hV hv hx hy i0 l0 i1 l1 g
  unfold ptrV at *
  go_enter Try.func41, Try.ntmps41
  go_wp2_with fail
  refine SD.out.mono ?_
  rintro e w1 ⟨rfl, rfl⟩
  go_wp2_with fail
  refine MK.out.mono ?_
  rintro e w1 (⟨n, m', h', cs', cn, rfl, st, ex, is, le, sy, hV, hB, hS, hc, fr, nx⟩ | ⟨rfl, hb, hfull⟩)
  · have os := RR.out.next st ex hV hS nx
    have GR : Hid (Grew b ⟨m', h', cs', b.mb⟩) := ⟨ex, fr, hV, hB, hS, nx.s⟩
    have ON : Hid (ONext d b.m b.mb m' b.mb w w1) := Next.onext nx
    have HC := Lib.hid hc
    have IT := Lib.hid (ite_good os (by rw [hV, EV.out]; exact HV.out) (a := n) (b := y) (c := x) ⟨cn, is, by omega⟩ (HY.out.ext ex) (HX.out.ext ex))
    have SY : Hid (∀ val, Says V cs' val n = val v) := by
      show ∀ val, _
      intro val
      rw [EV.out] at sy
      rw [sy, Says_one, Says_zero]
      cases val v <;> rfl
    have EV1 : Hid (h'.V = V) := hV.trans EV.out
    have EB1 : Hid (h'.B = 1048576) := hB.trans EB.out
    have EX := Lib.hid ex
    have G1 : Hid (NGood V cs') := by
      show NGood V cs'
      have := os.st.good
      rw [EV1.out] at this
      exact this
    clear os st ex is le sy hV hB hS hc fr nx MK
    go_wp2_with fail
    refine IT.out.mono ?_
    rintro e w2 ⟨k, z, m2, h2, cs2, mb2, rfl, os2, ex2, fr2, v2, b2, s2, c2, on2, hout⟩
    have OS2 := Lib.hid os2
    have GR2 : Hid (Grew ⟨m', h', cs', b.mb⟩ ⟨m2, h2, cs2, mb2⟩) := ⟨ex2, fr2, v2, b2, s2, on2.s⟩
    have ON2 := Lib.hid on2
    have C2 := Lib.hid c2
    have HO := Lib.hid hout
    clear os2 ex2 fr2 v2 b2 s2 c2 on2 hout IT
    go_wp2_with fail
    go_ret2
    have hc1 := HC.out
    have hc2 := C2.out
    rw [EV1.out] at hc2
    refine ⟨k, z, ⟨m2, h2, cs2, mb2⟩, rfl, OS2.out, GR.out.trans GR2.out, ON.out.trans ON2.out, by show cnt cs2 ≤ _; omega, ?_⟩
    rcases HO.out with ⟨rfl, h1, h3⟩ | ⟨rfl, rfl, h1⟩
    · refine .inl ⟨rfl, h1, fun val => ?_⟩
      rw [EV1.out] at h3
      show Says V cs2 val k = _
      rw [h3]
      simp only [qsem]
      rw [SY.out, HX.out.says EX.out GG.out G1.out, HY.out.says EX.out GG.out G1.out]
      rfl
    · rw [EV1.out, EB1.out] at h1
      have := cnt_ext GR2.out.ext
      exact .inr ⟨rfl, rfl, by show _ ≤ cnt cs2 + _; have : cnt cs' ≤ cnt cs2 := this; omega⟩
  · have HB := Lib.hid hb
    have HF := Lib.hid hfull
    clear hb hfull MK
    go_wp2_with fail
    go_ret2
    have P1' := P1.out
    have HF' := HF.out
    rw [EB.out] at HF'
    exact ⟨0, 30, b, rfl, RR.out.keep HB.out, Grew.refl b, ONext.below HB.out, by omega, .inr ⟨rfl, rfl, by omega⟩⟩
end Go.Proofs.Ytmbkkifopmbkaaa

/- Contracts of layer 5 (quan): Rename, whole. -/
namespace Go.Proofs.Ytmbkkifopmbkaaa
open Go.ChangeShapes Go.WideShapes Go.ChangeAt Go.RowKit Go.Maps

structure NInv (o q d p1 p2 vb V : Nat) (fr tt : List Nat) (a b : OS) (w : World) : Prop where
  two : Two o q d a b w
  eV : a.h.V = V
  eV2 : b.h.V = V
  eB : b.h.B = 1048576
  c1 : w.cell? ⟨p1, 0, none⟩ = some (.map (some vb))
  c2 : w.cell? ⟨p2, 0, none⟩ = some (.pointer (some ⟨d, 0, none⟩))
  vm : VMap w vb fr tt
  n1 : ¬ Two.own o q d a b p1
  n2 : ¬ Two.own o q d a b p2
  n3 : ¬ Two.own o q d a b vb

def NInv.own (o q d p1 p2 vb : Nat) (a b : OS) (i : Nat) : Prop := Two.own o q d a b i ∨ i = p1 ∨ i = p2 ∨ i = vb

section
variable {o q d p1 p2 vb V : Nat} {fr tt : List Nat} {a b : OS} {w w' : World}
theorem NInv.keep {P : Nat → Prop} (j : NInv o q d p1 p2 vb V fr tt a b w) (ht : Turn P w w') (hn : ∀ i, NInv.own o q d p1 p2 vb a b i → ¬ P i) : NInv o q d p1 p2 vb V fr tt a b w' :=
  ⟨j.two.keep ht (fun i hi => hn i (.inl hi)), j.eV, j.eV2, j.eB, ht.cell j.c1 (hn p1 (.inr (.inl rfl))), ht.cell j.c2 (hn p2 (.inr (.inr (.inl rfl)))), j.vm.of (ht.block vb j.vm.lt (hn vb (.inr (.inr (.inr rfl))))), j.n1, j.n2, j.n3⟩
theorem NInv.lt (j : NInv o q d p1 p2 vb V fr tt a b w) {i : Nat} (h : NInv.own o q d p1 p2 vb a b i) : i < w.heap.size := by
  rcases h with h | rfl | rfl | rfl
  · exact j.two.lt h
  · exact cell_lt j.c1
  · exact cell_lt j.c2
  · exact j.vm.lt
end

def renX (o q d p1 p2 vb V : Nat) (fr tt : List Nat) (a : OS) : RebX where
  T := OS
  Inv := NInv o q d p1 p2 vb V fr tt a
  own := NInv.own o q d p1 p2 vb a
  le := Grew
  num b := cnt b.cs
  Res b k n := At b.cs 0 n ∧ ∀ val, Says V b.cs val n = Says V a.cs (fun i => val (ren fr tt i)) k
  Full b := 1048576 ≤ cnt b.cs + 2 ^ V
  J := 2 ^ V
  V := V
  cs := a.cs
  Goes _ := True

theorem renX_ok {o q d p1 p2 vb V : Nat} {fr tt : List Nat} {a b : OS} {w : World} (i : NInv o q d p1 p2 vb V fr tt a b w) : (renX o q d p1 p2 vb V fr tt a).Ok (ptrV a.m.s) where
  good := by have := i.two.main.st.good; rw [i.eV] at this; exact this
  small := i.two.main.st.lay.len
  keep := fun {s w w' P} j ht hn => j.keep ht hn
  lt := fun {s w i} j h => j.lt h
  node := fun {s w k c} j h => (node_yes j.two.main.st.lay h).mono (by rintro e w' ⟨rfl, n, rfl⟩; exact ⟨rfl, below_drewN0 _ _⟩)
  refl := Grew.refl
  trans := fun h k => h.trans k
  mono := fun {s s' w w' k n} le j j' r => by
    obtain ⟨h2, h3⟩ := r
    have g := j.two.draft.st.good
    have g' := j'.two.draft.st.good
    rw [j.eV2] at g
    rw [j'.eV2] at g'
    exact ⟨h2.ext le.ext, fun val => (h2.says le.ext g g' val).trans (h3 val)⟩
  fits := fun {s w k n} j r => by
    obtain ⟨⟨d, h2, _⟩, _⟩ := r
    have := h2.lt
    have := j.two.draft.st.lay.len
    omega

theorem renX_told {o q d p1 p2 vb V : Nat} {fr tt : List Nat} {a : OS} (s : OS) (w : World) (k : Nat) (c : Nd) (j : NInv o q d p1 p2 vb V fr tt a s w) (_ : Is a.cs k c) :
    Calls Try.prog 42 #[.int .i64 (k : Int)] w (ToldOut (renX o q d p1 p2 vb V fr tt a) s k w) := by
  refine (constant_any k w).mono ?_
  rintro e w' ⟨rfl, rfl⟩
  refine ⟨k, decide (k < 2), rfl, Below.refl _ _, fun h => ?_, fun h => ⟨by simpa using h, trivial⟩⟩
  have h2 : k < 2 := by simpa using h
  have gb := j.two.draft.st.good
  rw [j.eV2] at gb
  have : k = 0 ∨ k = 1 := by omega
  rcases this with rfl | rfl
  · exact ⟨gb.at0 (by omega), fun val => by rw [Says_zero, Says_zero]⟩
  · exact ⟨gb.at1 (by omega), fun val => by rw [Says_one, Says_one]⟩

set_option maxRecDepth 100000 in
set_option maxHeartbeats 1600000 in
theorem renX_join {o q d p1 p2 vb V : Nat} {fr tt : List Nat} {a : OS} (hV : 2 ^ V ≤ 900000) (hn : fr.Nodup) (hle : fr.length = tt.length) (htt : ∀ t ∈ tt, t < V) (s : OS) (w : World) (k x y : Nat) (c : Nd) (j : NInv o q d p1 p2 vb V fr tt a s w) (hk : Is a.cs k c) (h2 : 2 ≤ k) (_ : (renX o q d p1 p2 vb V fr tt a).Goes k)
    (rx : (renX o q d p1 p2 vb V fr tt a).Res s c.low x) (ry : (renX o q d p1 p2 vb V fr tt a).Res s c.high y) :
    Calls Try.prog 40 #[.int .i64 c.asks, .int .i64 (x : Int), .int .i64 (y : Int), ptrV p1, ptrV p2] w (JoinOut (renX o q d p1 p2 vb V fr tt a) s k w) := by
  have g := j.two.main.st.good
  rw [j.eV] at g
  have hv256 : V ≤ 256 := by have := j.two.main.st.V; have := j.eV; omega
  have ho := g.ok k c h2 hk
  obtain ⟨u, hu⟩ : ∃ u : Nat, c.asks = u := ⟨c.asks.toNat, by omega⟩
  have huV : u < V := by omega
  have CH := choose_any j.two.draft j.eV2 j.eB hV (v := ren fr tt u) (ren_lt htt huV) rx.1 ry.1
  have FIN : Hid (∀ e w', ChOut d V s (ren fr tt u) x y w e w' → JoinOut (renX o q d p1 p2 vb V fr tt a) s k w e w') := by
    show ∀ e w', _ → _
    rintro e w' ⟨r, z, b', rfl, os, gr, on, hc, hout⟩
    obtain ⟨t2, tn, ow⟩ := j.two.draft_step os on
    have no : ∀ {i}, i < w.heap.size → ¬ Two.own o q d a s i → ¬ Two.own o q d a b' i := fun hi h1 hh => (ow _ hh).elim h1 (by omega)
    refine ⟨r, z, b', rfl, ⟨t2, j.eV, gr.V.trans j.eV2, gr.B.trans j.eB, tn.cell j.c1 j.n1, tn.cell j.c2 j.n2, j.vm.of (tn.block vb j.vm.lt j.n3), no (cell_lt j.c1) j.n1, no (cell_lt j.c2) j.n2, no j.vm.lt j.n3⟩, gr,
      ⟨tn.os, tn.tape, tn.output, tn.size, fun i hi h1 => tn.block i hi fun hh => h1 (.inl hh)⟩, fun i hi => hi.elim (fun h => (ow i h).imp .inl id) (fun h => .inl (.inr h)), hc, ?_⟩
    rcases hout with ⟨rfl, h1, h3⟩ | ⟨rfl, rfl, h1⟩
    · refine .inl ⟨rfl, h1, fun val => ?_⟩
      show Says V b'.cs val r = Says V a.cs (fun i => val (ren fr tt i)) k
      rw [h3, Says_step g (fun i => val (ren fr tt i)) h2 hk, hu, Int.toNat_natCast]
      cases val (ren fr tt u) with
      | true => exact ry.2 val
      | false => exact rx.2 val
    · exact .inr ⟨rfl, rfl, h1⟩
  have c1 := j.c1
  have c2 := j.c2
  have hlk0 := j.vm.look hn hle (v := u) (by omega)
  have CH := Lib.hid CH
  rw [hu]
  clear hu j g hv256 ho huV rx ry hk h2 hn hle htt hV
  unfold ptrV at *
  go_enter Try.func40, Try.ntmps40
  rcases hlk0 with ⟨_, hlk⟩ | ⟨he, z, hlk⟩
  · go_wp2_with fail
    refine CH.out.mono ?_
    intro e w1 hout
    have HO := Lib.hid (FIN.out _ _ hout)
    obtain ⟨r, x, s', rfl, -⟩ := hout
    clear CH FIN c1 c2 hlk
    go_wp2_with fail
    go_ret2
    exact HO.out
  · rw [he] at CH
    have FIN2 : Hid (∀ e w', ChOut d V s u x y w e w' → JoinOut (renX o q d p1 p2 vb V fr tt a) s k w e w') := by
      show ∀ e w', _ → _
      have := FIN.out
      rw [he] at this
      exact this
    clear FIN he
    go_wp2_with fail
    refine CH.out.mono ?_
    intro e w1 hout
    have HO := Lib.hid (FIN2.out _ _ hout)
    obtain ⟨r, x, s', rfl, -⟩ := hout
    clear CH FIN2 c1 c2 hlk
    go_wp2_with fail
    go_ret2
    exact HO.out

/-- A draft's node, kept. -/
theorem QOut.kept2 {V o q d ms B k : Nat} {a b' : OS} {P : Nat → Prop} {F : (Nat → Bool) → Bool} {w w8 w9 w' : World} {e : Ending} (hb : Below w.heap.size w w8) (near : ∀ i, P i → (a.own o i ∨ i = q) ∨ w.heap.size ≤ i) (t9 : Turn P w8 w9) (o9 : ∀ i, Two.own o q d a b' i → P i ∨ w8.heap.size ≤ i)
    (hB : a.h.B = B) (g0 : NGood V b'.cs) (hF : ∀ val, Says V b'.cs val k = F val) (f : KeepOut o q d ms V B b' a k w9 e w') : QOut V o q a F w e w' := by
  obtain ⟨r, x, a', rfl, j, g, t, ow, m, hout⟩ := f
  have m : cnt a'.cs + 1 ≤ cnt a.cs + 1 * 2 ^ V := m
  rw [Nat.one_mul] at m
  have near' : ∀ i, Two.own o q d a b' i → (a.own o i ∨ i = q) ∨ w.heap.size ≤ i := fun i h => (o9 i h).elim (near i) fun h => .inr (Nat.le_trans hb.size h)
  have T8 : Turn (fun i => a.own o i ∨ i = q) w w9 := (Turn.of_below hb).trans t9 near
  refine ⟨r, x, a', rfl, j.two.main, j.two.quan, j.two.nq, g, T8.trans t near', fun i hi => ?_, m, ?_⟩
  · rcases ow i (.inl hi) with h | h
    · rcases near' i h with (h | rfl) | h
      · exact .inl h
      · exact absurd hi j.two.nq
      · exact .inr h
    · exact .inr (Nat.le_trans T8.size h)
  · rcases hout with ⟨rfl, ⟨c, h1, h2⟩, h3⟩ | ⟨rfl, rfl, hf⟩
    · exact .inl ⟨rfl, h2.mono (g0.range h1).1, fun val => (h3 val).trans (hF val)⟩
    · have hf : B ≤ cnt a'.cs := hf
      exact .inr ⟨rfl, rfl, by omega⟩

set_option maxRecDepth 100000 in
set_option maxHeartbeats 8000000 in
theorem rename_good {V o q : Nat} {a : OS} {w : World} (r : a.at o w) (ha : QuanAt w q o) (nq : ¬ a.own o q) (hV : a.h.V = V) (hV2 : 2 + 2 ^ V * 2 ^ V + 2 ^ V ≤ 900000) {k : Nat} (hk : At a.cs 0 k)
    {A C : Option Addr} {ca cc : Nat} {fr tt : List Nat} (hl : fr.length ≤ 256) (hle : fr.length = tt.length) (hf : ∀ x ∈ fr, x < V) (ht : ∀ x ∈ tt, x < V) (hn : fr.Nodup) (rf : Rd w A (ints (vInts fr))) (rt : Rd w C (ints (vInts tt))) :
    Calls Try.prog 21 #[.pointer (some ⟨q, 0, none⟩), .int .i64 (k : Int), .slice A fr.length ca, .slice C tt.length cc] w (QOut V o q a (fun val => Says V a.cs (fun i => val (ren fr tt i)) k) w) := by
  have p1 := Nat.one_le_two_pow (n := V)
  have p2 := Nat.mul_le_mul_left (2 ^ V) p1
  have hV3 : 2 ^ V ≤ 900000 := by omega
  have hV4 : V ≤ 256 := by have := r.st.V; omega
  have g := r.st.good
  rw [hV] at g
  obtain ⟨c, ic, rc⟩ := hk.rk_le g
  have VG := Lib.hid (values_good r ha hV (ca := ca) (cc := cc) hl hle hf ht hn rf rt)
  have R0 := Lib.hid r
  have Q0 := Lib.hid ha
  have NQ := Lib.hid nq
  have OL := Lib.hid r.own_lt
  have QL := Lib.hid ha.lt
  have EV := Lib.hid hV
  have EV2 := Lib.hid hV2
  have EV3 := Lib.hid hV3
  have EV4 := Lib.hid hV4
  have HK := Lib.hid hk
  have IC := Lib.hid ic
  have RC := Lib.hid rc
  have HN := Lib.hid hn
  have HLE := Lib.hid hle
  have HT := Lib.hid ht
  have hmf : ∀ (fn : Fn) (first cap : Array Value) (w : World), (Instr.makeFunc fn first cap).run Try.prog w = .ok (.func fn first cap) w := fun _ _ _ _ => rfl
  clear r ha nq hV hV2 hk hl hle hf ht hn rf rt p1 p2 hV3 hV4 g ic rc
  go_enter Try.func21, Try.ntmps21
  go_wp2_with fail
  refine VG.out.mono ?_
  rintro e w1 ⟨vb, rfl, vm, hb1, hvb⟩
  have b2 := (((Below.refl w1.heap.size w1).alloc (Nat.le_refl _) (.cells #[.map (some vb)] 86)).alloc (by simp) (.cells #[.int .i64 (k : Int)] 3))
  have hp1 := at_old (.cells #[.int .i64 (k : Int)] 3) (heap_alloc_new w1 (.cells #[.map (some vb)] 86))
  have h4 := at_new (n := w1.heap.size + 1) (w := w1.alloc (.cells #[.map (some vb)] 86)) (.cells #[.int .i64 (k : Int)] 3) (by simp)
  have RF := refusal_q (R0.out.keep (hb1.trans (b2.mono hb1.size))) (Q0.out.keep (hb1.trans (b2.mono hb1.size))) (A := none) (c := 0) (vs := []) (.inl rfl) (by simp) (c2 := 1) (xs := [(k : Int)]) (by simp) (row_lt h4) (cells_one h4)
  have hz : refQ a.h.V a.cs [] [(k : Int)] = 0 := refQ_ok (by simp [listB]) (by simp [there_at HK.out])
  unfold RefQOut at RF
  rw [hz] at RF
  change Calls _ _ #[_, .slice none 0 0, .slice _ 1 _] _ _ at RF
  have RF := Lib.hid RF
  have B2 := Lib.hid (hb1.trans (b2.mono hb1.size))
  have VM2 := Lib.hid (vm.of (b2.block vb vm.lt))
  have HP1 := Lib.hid hp1
  have VBL : Hid (vb < w1.heap.size ∧ w.heap.size ≤ vb) := ⟨vm.lt, hvb⟩
  have Z1 := Lib.hid hb1.size
  clear VG vm hb1 hvb b2 hp1 h4 hz
  go_wp2_with fail
  refine RF.out.mono ?_
  rintro e w5 ⟨rfl, hb⟩
  have B5 := Lib.hid (B2.out.trans (hb.mono B2.out.size))
  have R5 := Lib.hid (R0.out.keep B5.out)
  have Q5 := Lib.hid (Q0.out.keep B5.out)
  have VM5 := Lib.hid (VM2.out.of (hb.block vb VM2.out.lt))
  have HP5 := Lib.hid ((hb.block _ (row_lt HP1.out)).trans HP1.out)
  have DR := Lib.hid (draft_any R5.out Q5.out NQ.out EV.out EV4.out)
  clear RF B2 VM2 HP1 hb R0 Q0
  generalize hpp : w1.heap.size = pp at *
  have PP := Lib.hid hpp
  clear hpp
  go_wp2_with fail
  refine DR.out.mono ?_
  rintro e w6 ⟨d, b, rfl, t6, bV, bB, bc, hb6, ho6⟩
  have b7 := (Below.refl w6.heap.size w6).alloc (Nat.le_refl _) (.cells #[.pointer (some ⟨d, 0, none⟩)] 40)
  have h7 := heap_alloc_new w6 (.cells #[.pointer (some ⟨d, 0, none⟩)] 40)
  have hp6 := at_old (.cells #[.pointer (some ⟨d, 0, none⟩)] 40) ((hb6.block _ (row_lt HP5.out)).trans HP5.out)
  have t7 := t6.keep (P := fun _ => False) (Turn.of_below b7) (fun _ _ h => h)
  have NI : NInv o q d pp w6.heap.size vb V fr tt a b (w6.alloc (.cells #[.pointer (some ⟨d, 0, none⟩)] 40)) := by
    have e1 := hb6.size
    have e2 := VBL.out
    have e3 := row_lt HP5.out
    have e4 := VM5.out.lt
    have e5 := B5.out.size
    have e6 := Z1.out
    have e7 := QL.out
    refine ⟨t7, EV.out, bV, bB, cell_of_row _ _ 0 _ _ _ hp6, cell_of_row _ _ 0 _ _ _ h7, (VM5.out.of (hb6.block vb VM5.out.lt)).of (b7.block vb (by omega)), ?_, fun h => by have := t6.lt h; omega, ?_⟩
    · rintro (h | h | h)
      · have := OL.out _ h; omega
      · omega
      · have := ho6 _ h; omega
    · rintro (h | h | h)
      · have := OL.out _ h; omega
      · omega
      · have := ho6 _ h; omega
  have SO := Lib.hid (store_ops t7.main)
  have RB := Lib.hid (rebuild_anyC (renX_ok NI) renX_told (renX_join EV3.out HN.out HLE.out HT.out) NI IC.out RC.out (by have := EV3.out; omega))
  have c1 := t7.quan.c1
  have B7 := Lib.hid (B5.out.trans ((hb6.trans (b7.mono hb6.size)).mono B5.out.size))
  have O6 : Hid (∀ i, b.own d i → w.heap.size ≤ i) := fun i hi => Nat.le_trans B5.out.size (ho6 i hi)
  have BC := Lib.hid bc
  have BV := Lib.hid bV
  have NEAR : Hid (∀ i, NInv.own o q d pp w6.heap.size vb a b i → Two.own o q d a b i ∨ w.heap.size ≤ i) := by
    show ∀ i, _ → _
    have e2 := VBL.out
    have e6 := Z1.out
    have e1 := hb6.size
    have e5 := B5.out.size
    rintro i (h | h | h | h)
    · exact .inl h
    · exact .inr (by omega)
    · exact .inr (by omega)
    · exact .inr (by omega)
  clear t6 bV bB bc hb6 ho6 b7 h7 hp6 t7 NI DR
  unfold ptrV at SO RB
  go_wp2_with fail
  refine SO.out.mono ?_
  rintro e w7 ⟨rfl, rfl⟩
  clear c1
  go_wp2_with fail
  refine RB.out.mono ?_
  rintro e w9 ⟨r9, x9, b9, rfl, j9, g9, tn9, o9, m9, hout⟩
  have hx9 : x9 = 0 ∧ At b9.cs 0 r9 ∧ ∀ val, Says V b9.cs val r9 = Says V a.cs (fun i => val (ren fr tt i)) k := by
    rcases hout with h | ⟨_, _, h⟩
    · exact h
    · exfalso
      have h : 1048576 ≤ cnt b9.cs + 2 ^ V := h
      have m9 : cnt b9.cs + 2 ^ V ≤ cnt b.cs + 2 ^ V * 2 ^ V := m9
      have h3 := BC.out
      have h4 := EV2.out
      rw [h3] at m9
      revert h m9 h4
      generalize 2 ^ V = P
      generalize P * P = R
      generalize cnt b9.cs = N
      intro h m9 h4
      omega
  obtain ⟨rfl, hat, hsay⟩ := hx9
  have gb : NGood V b9.cs := by have := j9.two.draft.st.good; rw [j9.eV2] at this; exact this
  obtain ⟨c9, i9, _⟩ := hat
  have KP := keep_any (V := V) (B := a.h.B) (ms := a.m.s) ⟨j9.two, EV.out, j9.eV2, rfl, rfl⟩ (by have := EV3.out; omega) i9
  have FIN : Hid (∀ e w', KeepOut o q d a.m.s V a.h.B b9 a r9 w9 e w' → QOut V o q a (fun val => Says V a.cs (fun i => val (ren fr tt i)) k) w e w') := by
    show ∀ e w', _ → _
    intro e w' f
    refine QOut.kept2 B7.out (fun i h => ?_) tn9 (fun i h => o9 i (.inl h)) rfl gb hsay f
    rcases NEAR.out i h with (h | h | h) | h
    · exact .inl (.inl h)
    · exact .inl (.inr h)
    · exact .inr (O6.out i h)
    · exact .inr h
  have c2 := j9.c2
  have KP := Lib.hid KP
  clear j9 g9 tn9 o9 m9 hout hsay gb i9 RB SO
  go_wp2_with fail
  refine KP.out.mono ?_
  intro e w10 hout
  have HO := Lib.hid (FIN.out _ _ hout)
  obtain ⟨r, x, s', rfl, -⟩ := hout
  clear KP FIN
  go_wp2_with fail
  go_ret2
  exact HO.out
end Go.Proofs.Ytmbkkifopmbkaaa

/- Layer 5's laws: quan begun; what is known of it behind each call; what must come (awake). -/
namespace Go.Proofs.Ytmbkkifopmbkaaa
open Go.ChangeShapes Go.WideShapes Go.ChangeAt Go.RowKit Go.Maps

/-- What is known in a law: quan's operations over a store of four variables, with so many nodes at the most. -/
structure QS (W : World) (B o q : Nat) (a : OS) (c : Nat) (w : World) : Prop where
  l : LSt W B a.m a.h a.cs o a.mb c w
  quan : QuanAt w q o
  nq : ¬ a.own o q
  qW : W.heap.size ≤ q

section
variable {W : World} {B o q c : Nat} {a : OS} {w w' : World}
theorem QS.good (s : QS W B o q a c w) : NGood 4 a.cs := s.l.good
theorem QS.keep (s : QS W B o q a c w) (hb : Below w.heap.size w w') : QS W B o q a c w' := ⟨s.l.keep hb, s.quan.keep hb, s.nq, s.qW⟩
theorem QS.below (s : QS W B o q a c w) : Below W.heap.size W w := s.l.below

/-- One of quan's operations. -/
theorem QS.op (s : QS W B o q a c w) (hr : c + 16 ≤ B) {F : (Nat → Bool) → Bool} {e : Ending} (f : QOut 4 o q a F w e w') :
    ∃ (k : Nat) (a' : OS), e = .returned (.tuple #[.int .i64 (k : Int), .int .i64 0]) ∧ QS W B o q a' (c + 15) w' ∧ Ext a.cs a'.cs ∧ a'.m.s = a.m.s ∧ At a'.cs 0 k ∧ ∀ val, Says 4 a'.cs val k = F val := by
  obtain ⟨k, x, a', rfl, os, qa, nq, g, t, ow, m, hout⟩ := f
  have hB := s.l.B
  have hc := s.l.cnt
  have m : cnt a'.cs + 1 ≤ cnt a.cs + 16 := m
  rcases hout with ⟨rfl, hat, hs⟩ | ⟨_, _, hf⟩
  · have sz := s.l.below.size
    refine ⟨k, a', rfl, ⟨⟨os, g.V.trans s.l.V, g.B.trans hB, by omega, Turn.to_below s.l.below t ?_ sz, fun i hi => ?_⟩, qa, nq, s.qW⟩, g.ext, g.s, hat, hs⟩
    · rintro i (h | rfl)
      · exact s.l.own i h
      · exact s.qW
    · exact (ow i hi).elim (s.l.own i) fun h => Nat.le_trans sz h
  · have hf : a.h.B + 1 ≤ cnt a.cs + 16 := hf
    omega

theorem QS.node (s : QS W B o q a c w) {v : Nat} {m' : Mem} {h' : Hd} {cs' : List Nd} {c' : Nat} (st : St w' m' h' cs') (hx : Ext a.cs cs') (hV : h'.V = a.h.V) (hB : h'.B = a.h.B) (hs : h'.sweeps = a.h.sweeps) (hc : cnt cs' ≤ c') (hn : Next a.m m' w w') (_ : v = v) : QS W B o q ⟨m', h', cs', a.mb⟩ c' w' := by
  have on : ONext o a.m a.mb m' a.mb w w' := Next.onext hn
  exact ⟨s.l.next st hx hV hB hs hc hn, s.quan.of (on.turn.block q s.quan.lt s.nq), fun hh => (on.own q hh).elim s.nq fun h => by have := s.quan.lt; omega, s.qW⟩

/-- A table's node. -/
theorem QS.make (s : QS W B o q a c w) (hr : c + 15 ≤ B) {n : Int} {e : Ending} (f : MakeOut4 a.m a.h a.cs n w e w') :
    ∃ (k : Nat) (a' : OS), e = .returned (.tuple #[.int .i64 (k : Int), .bool true]) ∧ QS W B o q a' (c + 15) w' ∧ Ext a.cs a'.cs ∧ a'.m.s = a.m.s ∧ At a'.cs 0 k ∧ ∀ val, Says 4 a'.cs val k = bitZ n (tix val 4 0 0) := by
  obtain ⟨k, t, m', h', cs', rfl, st, ex, fr, v, b, sw, cn, on, hout⟩ := f
  have hB := s.l.B
  have hc := s.l.cnt
  have cn : cnt cs' + 1 ≤ cnt a.cs + 16 := cn
  rcases hout with ⟨rfl, hat, hs⟩ | ⟨_, _, hb⟩
  · exact ⟨k, ⟨m', h', cs', a.mb⟩, rfl, s.node (v := 0) st ex v b sw (by omega) on rfl, ex, on.s, hat, hs⟩
  · have hb : a.h.B + 2 ≤ cnt a.cs + 16 := hb
    omega

/-- An operation of layer 4. -/
theorem QS.ask (s : QS W B o q a c w) (hr : c + 15 ≤ B) {u : Qu} {e : Ending} (f : AskOut a.m a.h a.cs o a.mb u w e w') :
    ∃ (k : Nat) (a' : OS), e = .returned (.tuple #[.int .i64 (k : Int), .int .i64 0]) ∧ QS W B o q a' (c + 15) w' ∧ Ext a.cs a'.cs ∧ a'.m.s = a.m.s ∧ At a'.cs 0 k ∧ ∀ val, Says 4 a'.cs val k = qsem 4 a.cs val u := by
  have on : ∃ m' mb', ONext o a.m a.mb m' mb' w w' := by obtain ⟨k, x, m', h', cs', mb', _, _, _, _, _, _, _, _, on, _⟩ := f; exact ⟨m', mb', on⟩
  obtain ⟨k, x, m', h', cs', mb', rfl, os, ex, fr, v, b, sw, cn, on, hout⟩ := f
  have hV := s.l.V
  have hB := s.l.B
  have hc := s.l.cnt
  rw [hV] at cn
  rcases hout with ⟨rfl, hat, hs⟩ | ⟨_, _, hb⟩
  · obtain ⟨b1, o1⟩ := on.to_below s.l.below s.l.own s.l.below.size
    rw [hV] at hs
    exact ⟨k, ⟨m', h', cs', mb'⟩, rfl, ⟨⟨os, v.trans hV, b.trans hB, by show cnt cs' ≤ c + 15; omega, b1, o1⟩, s.quan.of (on.turn.block q s.quan.lt s.nq), fun hh => (on.own q hh).elim s.nq fun h => by have := s.quan.lt; omega, s.qW⟩, ex, on.s, hat, hs⟩
  · rw [hV] at hb
    omega

def QMkOut (W : World) (B o q : Nat) (a : OS) (c v x y : Nat) (e : Ending) (w' : World) : Prop :=
  ∃ (k : Nat) (a' : OS), e = .returned (.tuple #[.int .i64 (k : Int), .int .i64 0]) ∧ QS W B o q a' (c + 1) w' ∧ Ext a.cs a'.cs ∧ a'.m.s = a.m.s ∧ At a'.cs v k ∧ ∀ val, Says 4 a'.cs val k = if val v then Says 4 a.cs val y else Says 4 a.cs val x

theorem QS.mkn (s : QS W B o q a c w) (hr : c + 1 ≤ B) {v x y : Nat} (hv : v < 4) (hx : At a.cs (v + 1 : Nat) x) (hy : At a.cs (v + 1 : Nat) y) :
    Calls Try.prog 33 #[ptrV a.m.s, .int .i64 (v : Int), .int .i64 x, .int .i64 y] w (QMkOut W B o q a c v x y) := by
  obtain ⟨ca, ia, la⟩ := hx
  obtain ⟨cb, ib, lb⟩ := hy
  have hc := s.l.cnt
  have hB := s.l.B
  refine (mk_roomS s.l.ost.st (by omega) (by have := s.l.V; omega) ia (by omega) ib (by omega)).mono ?_
  rintro e w' ⟨k, m', h', cs', d, rfl, st, x, i, le, y, v', b', sw, cn, fr, n⟩
  rw [s.l.V] at y
  exact ⟨k, ⟨m', h', cs', a.mb⟩, rfl, s.node (v := 0) st x v' b' sw (by omega) n rfl, x, n.s, ⟨d, i, le⟩, y⟩
end

theorem v4room : 2 + 2 ^ 4 * 2 ^ 4 ≤ 900000 := by decide
theorem v4room2 : 2 + 2 ^ 4 * 2 ^ 4 + 2 ^ 4 ≤ 900000 := by decide

def Begun5 (B : Nat) (w : World) (e : Ending) (w' : World) : Prop :=
  ∃ m o q, e = .returned (.tuple #[ptrV m.s, .pointer (some ⟨q, 0, none⟩), .bool true]) ∧ QS w B o q ⟨m, ⟨4, B, 2, 2, 0, 0⟩, first4, none⟩ 2 w'

set_option maxRecDepth 100000 in
set_option maxHeartbeats 2000000 in
theorem begun5 (B : Nat) (hB : B ≤ 1048576) (hB2 : 2 ≤ B) (w : World) : Calls Try.prog 10 #[.int .i64 (B : Int)] w (Begun5 B w) := by
  have NS := newst_yes 4 B (by omega) hB hB2 w
  change Calls _ _ #[.int .i64 4, _] _ _ at NS
  have NS := Lib.hid NS
  clear hB hB2
  go_enter Try.func10, Try.ntmps10
  go_wp2_with fail
  refine NS.out.mono ?_
  rintro e w1 ⟨m, rfl, s1, hb1, ho1⟩
  have NO := Lib.hid (newops_yes s1 (Int.le_refl 0))
  have B1 := Lib.hid hb1
  have O1 := Lib.hid ho1
  clear s1 hb1 ho1 NS
  unfold ptrV at *
  go_wp2_with fail
  refine NO.out.mono ?_
  rintro e w2 ⟨o, rfl, os, hb2, hol⟩
  have NQ := Lib.hid (newq_yes os)
  have OS2 := Lib.hid os
  have B2 := Lib.hid (B1.out.trans (hb2.mono B1.out.size))
  have OL : Hid (w.heap.size ≤ o) := Nat.le_trans B1.out.size hol
  clear os hb2 hol NO
  go_wp2_with fail
  refine NQ.out.mono ?_
  rintro e w3 ⟨q, rfl, qa, hb3, hq⟩
  have QA := Lib.hid qa
  have OS3 := Lib.hid (OS2.out.keep hb3)
  have B3 := Lib.hid (B2.out.trans (hb3.mono B2.out.size))
  have OL2 := Lib.hid OS2.out.own_lt
  have HQ := Lib.hid hq
  have OP := Lib.hid (ops_q qa)
  have ST := store_ops OS3.out
  have VS := vars_store OS3.out.st.lay
  unfold ptrV at ST VS
  change Calls _ _ _ _ (fun e w' => e = .returned (.int .i64 4) ∧ w3 = w') at VS
  have ST := Lib.hid ST
  have VS := Lib.hid VS
  clear qa hb3 hq NQ OS2 B2
  go_wp2_with fail
  refine OP.out.mono ?_
  rintro e w4 ⟨rfl, rfl⟩
  go_wp2_with fail
  refine OP.out.mono ?_
  rintro e w4 ⟨rfl, rfl⟩
  go_wp2_with fail
  refine ST.out.mono ?_
  rintro e w4 ⟨rfl, rfl⟩
  go_wp2_with fail
  refine VS.out.mono ?_
  rintro e w4 ⟨rfl, rfl⟩
  go_wp2_with fail
  have own : ∀ i, OS.own ⟨m, ⟨4, B, 2, 2, 0, 0⟩, first4, none⟩ o i → w.heap.size ≤ i := by
    rintro i (h | rfl | h)
    · exact O1.out i h
    · exact OL.out
    · cases h
  have FIN : QS w B o q ⟨m, ⟨4, B, 2, 2, 0, 0⟩, first4, none⟩ 2 w3 :=
    ⟨⟨OS3.out, rfl, rfl, by show cnt first4 ≤ 2; rw [first4_cnt]; omega, B3.out, own⟩, QA.out, fun h => by have := OL2.out _ h; have := HQ.out; omega, by have := HQ.out; have := OL.out; have := OL2.out o (.inr (.inl rfl)); omega⟩
  exact bodyPost_ret (v := .tuple #[ptrV m.s, .pointer (some ⟨q, 0, none⟩), .bool true]) (by simp [results, Try.results10, go_sem, ptrV]) rfl ⟨m, o, q, rfl, FIN⟩
end Go.Proofs.Ytmbkkifopmbkaaa

/- Layer 5's laws: what must come, whatever the arguments are (awake). -/
namespace Go.Proofs.Ytmbkkifopmbkaaa
open Go.ChangeShapes Go.WideShapes Go.ChangeAt Go.RowKit Go.Maps

theorem both_self {V : Nat} {cs : List Nd} {k : Nat} : both V cs ⟨k, k⟩ = fun val => Says V cs val k := by funext val; unfold both; rw [Bool.and_self]

theorem awake_ex (val : Nat → Bool) : exF (markS [0]) (fun val => val 0 && val 1) val = val 1 := by
  rw [Bool.eq_iff_iff, exF_iff]
  constructor
  · rintro ⟨y, h1, h2⟩
    have := h1 1 (by simp [markS])
    simp at h2
    rw [← this]; exact h2.2
  · intro h
    refine ⟨upd val 0 true, fun i hi => ?_, ?_⟩
    · have : i ≠ 0 := by rintro rfl; simp [markS] at hi
      unfold upd; rw [if_neg this]
    · simp [upd, h]

set_option maxRecDepth 100000 in
set_option maxHeartbeats 4000000 in
theorem awake5 (w : World) : Calls Try.prog 14 #[] w fun e w' => e = .returned (.bool true) ∧ Below w.heap.size w w' := by
  have BG := begun5 100 (by omega) (by omega) w
  change Calls _ _ #[.int .i64 100] _ _ at BG
  have BG := Lib.hid BG
  go_enter Try.func14, Try.ntmps14
  go_wp2_with fail
  refine BG.out.mono ?_
  rintro e w1 ⟨m1, o, q, rfl, s1⟩
  have M1 := s1.mkn (v := 1) (x := 0) (y := 1) (by omega) (by omega) (s1.good.at0 (by omega)) (s1.good.at1 (by omega))
  change Calls _ _ #[_, .int .i64 1, .int .i64 0, .int .i64 1] _ _ at M1
  unfold ptrV at *
  have M1 := Lib.hid M1
  have S1 := Lib.hid s1
  clear s1 BG
  go_wp2_with fail
  refine M1.out.mono ?_
  rintro e w2 ⟨y, a2, rfl, s2, x2, p2, ay, sy⟩
  have sy : ∀ val, Says 4 a2.cs val y = val 1 := fun val => by rw [sy, Says_one, Says_zero]; cases val 1 <;> rfl
  have M2 := s2.mkn (v := 0) (x := 0) (y := y) (by omega) (by omega) (s2.good.at0 (by omega)) ay
  change Calls _ _ #[_, .int .i64 0, .int .i64 0, _] _ _ at M2
  rw [p2] at M2
  unfold ptrV at M2
  have M2 := Lib.hid M2
  have S2 := Lib.hid s2
  have AY := Lib.hid ay
  have SY := Lib.hid sy
  have P2 := Lib.hid p2
  clear s2 x2 p2 ay sy M1
  go_wp2_with fail
  refine M2.out.mono ?_
  rintro e w3 ⟨x, a3, rfl, s3, x3, p3, ax, sx⟩
  have sx : ∀ val, Says 4 a3.cs val x = (val 0 && val 1) := fun val => by rw [sx, SY.out, Says_zero]; cases val 0 <;> rfl
  have b4 := (Below.refl w3.heap.size w3).alloc (Nat.le_refl _) (.cells #[.int .i64 0] 3)
  have r4 := heap_alloc_new w3 (.cells #[.int .i64 0] 3)
  have s4 := s3.keep b4
  have EX := exists_good s4.l.ost s4.quan s4.nq s4.l.V v4room ax (A := some ⟨w3.heap.size, 0, none⟩) (cap := 1) (xs := [0]) (by simp) (by simp) (rd_one r4)
  rw [both_self, show (fun val => Says 4 a3.cs val x) = fun val => val 0 && val 1 from funext sx] at EX
  change Calls _ _ #[_, _, .slice _ 1 1] _ _ at EX
  have EX := Lib.hid EX
  have S4 := Lib.hid s4
  have AY3 := Lib.hid (AY.out.ext x3)
  have SY3 := Lib.hid (Says_at AY.out x3 S2.out.good s3.good SY.out)
  have AX := Lib.hid ax
  have SX := Lib.hid sx
  have P3 := Lib.hid (p3.trans P2.out)
  clear b4 r4 s3 s4 x3 p3 ax sx M2 AY SY
  go_wp2_with fail
  refine EX.out.mono ?_
  intro e w5 hout
  obtain ⟨n, a5, rfl, s5, x5, p5, an, sn⟩ := S4.out.op (by omega) hout
  have sn : ∀ val, Says 4 a5.cs val n = val 1 := fun val => by rw [sn, awake_ex]
  have NY : Hid (n = y) := same_node s5.good an (AY3.out.ext x5) fun val => by rw [sn, Says_at AY3.out x5 S4.out.good s5.good SY3.out]
  have sx5 := Says_at AX.out x5 S4.out.good s5.good SX.out
  have RE := restrict_good s5.l.ost s5.quan s5.nq s5.l.V (by decide) (v := 1) true (by omega) (AX.out.ext x5)
  change Calls _ _ #[_, _, .int .i64 1, _] _ _ at RE
  have RE := Lib.hid RE
  have S5 := Lib.hid s5
  have SX5 := Lib.hid sx5
  have P5 := Lib.hid (p5.trans P3.out)
  clear hout s5 x5 p5 an sn sx5 EX AX SX AY3 SY3
  go_wp2_with fail
  refine RE.out.mono ?_
  intro e w6 hout
  obtain ⟨m, a6, rfl, s6, x6, p6, am, sm⟩ := S5.out.op (by omega) hout
  have sm : ∀ val, Says 4 a6.cs val m = val 0 := fun val => by rw [sm, SX5.out]; simp [upd]
  have M6 := s6.mkn (v := 0) (x := 0) (y := 1) (by omega) (by omega) (s6.good.at0 (by omega)) (s6.good.at1 (by omega))
  change Calls _ _ #[_, .int .i64 0, .int .i64 0, .int .i64 1] _ _ at M6
  rw [p6, P5.out] at M6
  unfold ptrV at M6
  have M6 := Lib.hid M6
  have S6 := Lib.hid s6
  have AM := Lib.hid am
  have SM := Lib.hid sm
  clear hout s6 x6 p6 am sm RE
  go_wp2_with fail
  refine M6.out.mono ?_
  rintro e w7 ⟨z, a7, rfl, s7, x7, p7, az, sz⟩
  have MZ : Hid (m = z) := same_node s7.good (AM.out.ext x7) az fun val => by
    rw [Says_at AM.out x7 S6.out.good s7.good SM.out, sz, Says_one, Says_zero]
    cases val 0 <;> rfl
  have BL := Lib.hid s7.below
  clear s7 x7 p7 az sz M6
  have e1 := NY.out
  have e2 := MZ.out
  subst e1 e2
  clear NY MZ
  go_wp2_with fail
  go_ret
  exact ⟨rfl, BL.out⟩
end Go.Proofs.Ytmbkkifopmbkaaa
