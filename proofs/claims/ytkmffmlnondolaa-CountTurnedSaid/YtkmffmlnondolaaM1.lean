/- Merged: CLess, CPutNone, CPutSome, CTurnP. -/
import Derived.Test.YtkmffmlnondolaaMT
import Derived.Test.YtkmffmlnondolaaMU
import Derived.Test.YtkmffmlnondolaaMZ

/- The document's store of rows: Less and PutRow at rows of one number. -/
namespace Go.Proofs.Ytkmffmlnondolaa
open Go.ChangeShapes Go.WideShapes Go.ChangeAt Go.RowKit Go.Maps

/-- A number put into a rising list, once. -/
def insZ (z : Int) : List Int → List Int
  | [] => [z]
  | x :: r => if x < z then x :: insZ z r else if x = z then x :: r else z :: x :: r

theorem insZ_at {z : Int} : ∀ {zs : List Int} {k : Nat}, k ≤ zs.length → (∀ x ∈ zs.take k, x < z) → (∀ x, zs[k]? = some x → ¬ x < z) → zs[k]? ≠ some z → insZ z zs = zs.take k ++ [z] ++ zs.drop k
  | [], k, hk, _, _, _ => by
    obtain rfl : k = 0 := by simpa using hk
    rfl
  | x :: r, 0, _, _, h2, h3 => by
    have h2 := h2 x rfl
    unfold insZ
    rw [if_neg h2, if_neg (fun e => h3 (by rw [e]; rfl))]
    rfl
  | x :: r, k + 1, hk, h1, h2, h3 => by
    unfold insZ
    rw [if_pos (h1 x (by simp)), insZ_at (k := k) (by simpa using hk) (fun y hy => h1 y (by simp [hy])) (fun y hy => h2 y (by simpa using hy)) (by simpa using h3)]
    rfl
theorem insZ_has {z : Int} : ∀ {zs : List Int} {k : Nat}, k ≤ zs.length → (∀ x ∈ zs.take k, x < z) → zs[k]? = some z → insZ z zs = zs
  | [], k, _, _, h => by simp at h
  | x :: r, 0, _, _, h => by
    obtain rfl : x = z := by simpa using h
    unfold insZ
    rw [if_neg (Int.lt_irrefl _), if_pos rfl]
  | x :: r, k + 1, hk, h1, h => by
    unfold insZ
    rw [if_pos (h1 x (by simp)), insZ_has (k := k) (by simpa using hk) (fun y hy => h1 y (by simp [hy])) (by simpa using h)]

/-- Rows of one number each, the call's own. -/
def Rows1 (w : World) (B : Nat) (v : Value) (zs : List Int) : Prop :=
  ∃ vs : List Value, w.ownsRow B 27 1 v zs.length vs ∧ (∀ (i : Nat) (z : Int), zs[i]? = some z → ∃ b off cap, vs[i]? = some (Value.slice (some ⟨b, off, none⟩) 1 cap) ∧ w.cell? ⟨b, off, none⟩ = some (.int .i64 z) ∧ b < w.heap.size ∧ B ≤ b) ∧ (zs = [] → v = Value.slice none 0 0)

theorem Rows1.nil (w : World) (B : Nat) : Rows1 w B (.slice none 0 0) [] := ⟨[], World.ownsRow_nil _ _ _ _, fun i z h => by simp at h, fun _ => rfl⟩
theorem Rows1.keep {w w' : World} {B : Nat} {v : Value} {zs : List Int} (h : Rows1 w B v zs) (hb : Below w.heap.size w w') : Rows1 w' B v zs := by
  obtain ⟨vs, h1, h2, h3⟩ := h
  refine ⟨vs, ⟨h1.1, ?_⟩, fun i z hz => ?_, h3⟩
  · rcases h1.2 with h | ⟨g, cap, cur, e, hg, hr, hx⟩
    · exact .inl h
    · exact .inr ⟨g, cap, cur, e, hg, (hb.block _ (row_lt hr)).trans hr, hx⟩
  · obtain ⟨b, off, cap, e1, e2, e3, e4⟩ := h2 i z hz
    exact ⟨b, off, cap, e1, (hb.cell e3).trans e2, Nat.lt_of_lt_of_le e3 hb.size, e4⟩
theorem Rows1.lower {w : World} {B B' : Nat} {v : Value} {zs : List Int} (h : Rows1 w B v zs) (hb : B' ≤ B) : Rows1 w B' v zs := by
  obtain ⟨vs, h1, h2, h3⟩ := h
  refine ⟨vs, ⟨h1.1, ?_⟩, fun i z hz => by obtain ⟨b, off, cap, e1, e2, e3, e4⟩ := h2 i z hz; exact ⟨b, off, cap, e1, e2, e3, Nat.le_trans hb e4⟩, h3⟩
  rcases h1.2 with h | ⟨g, cap, cur, e, hg, hr⟩
  · exact .inl h
  · exact .inr ⟨g, cap, cur, e, Nat.le_trans hb hg, hr⟩

theorem Rows1.turn {own : Nat → Prop} {w w' : World} {B : Nat} {v : Value} {zs : List Int} (h : Rows1 w B v zs) (ht : Turn own w w') (ho : ∀ i, own i → i < B) : Rows1 w' B v zs := by
  obtain ⟨vs, h1, h2, h3⟩ := h
  refine ⟨vs, ⟨h1.1, ?_⟩, fun i z hz => ?_, h3⟩
  · rcases h1.2 with h | ⟨g, cap, cur, e, hg, hr, hx⟩
    · exact .inl h
    · exact .inr ⟨g, cap, cur, e, hg, (ht.block _ (row_lt hr) (fun h => by have := ho _ h; omega)).trans hr, hx⟩
  · obtain ⟨b, off, cap, e1, e2, e3, e4⟩ := h2 i z hz
    exact ⟨b, off, cap, e1, (World.cell?_of_block (ht.block b e3 (fun h => by have := ho _ h; omega))).trans e2, Nat.lt_of_lt_of_le e3 ht.size, e4⟩

set_option maxRecDepth 100000 in
set_option maxHeartbeats 2000000 in
theorem less1 {w : World} {a b : Int} {g o c h q d : Nat} (ha : w.cell? ⟨g, o, none⟩ = some (.int .i64 a)) (hb : w.cell? ⟨h, q, none⟩ = some (.int .i64 b)) :
    Calls Try.prog 34 #[.slice (some ⟨g, o, none⟩) 1 c, .slice (some ⟨h, q, none⟩) 1 d] w fun e w' => e = .returned (.bool (decide (a < b))) ∧ ∃ n, w' = w.drewN n := by
  go_enter Try.func34, Try.ntmps34
  go_wp2_with fail
  go_loopw [5] (fun iv wr => ∃ i : Nat, i ≤ 1 ∧ iv = .int .i64 (i : Int) ∧ (i = 1 → a = b) ∧ ∃ n, wr = w.drewN n) (fun iv _ => 1 - (intOf iv).toNat)
  case atStart => exact ⟨0, by omega, rfl, fun h => by omega, 0, rfl⟩
  case round =>
    obtain ⟨i, hi, rfl, hab, n, rfl⟩ := hrel
    by_cases h0 : i = 0
    · subst h0
      clear hab
      by_cases hne : a = b
      · subst hne
        go_wp2_with fail
        go_region
        go_wp2_with fail
        go_roundw
        case rel => exact ⟨1, by omega, rfl, fun _ => by first | rfl | trivial, _, rfl⟩
        case measure => simp [intOf]
      · go_wp2_with fail
        go_region
        go_wp2_with fail
        go_region
        go_wp2_with fail
        go_ret
        exact ⟨rfl, _, rfl⟩
    · obtain rfl : i = 1 := by omega
      obtain rfl := hab rfl
      clear hab h0
      go_wp2_with fail
      go_ret
      exact ⟨by simp, _, rfl⟩
end Go.Proofs.Ytkmffmlnondolaa

/- The document's store of rows: PutRow at rows of one number. -/
namespace Go.Proofs.Ytkmffmlnondolaa
open Go.ChangeShapes Go.WideShapes Go.ChangeAt Go.RowKit Go.Maps

theorem sameInts1 {w : World} {a b : Int} {g o c h q d : Nat} (ha : w.cell? ⟨g, o, none⟩ = some (.int .i64 a)) (hb : w.cell? ⟨h, q, none⟩ = some (.int .i64 b)) (hg : g < w.heap.size) (hh : h < w.heap.size) :
    Calls Try.prog 13 #[.slice (some ⟨g, o, none⟩) 1 c, .slice (some ⟨h, q, none⟩) 1 d] w fun e w' => e = .returned (.bool (decide (a = b))) ∧ ∃ n, w' = w.drewN n := by
  have S := sameInts_any (xs := [a]) (ys := [b]) (c := c) (d := d) (w := w) (A := some ⟨g, o, none⟩) (B := some ⟨h, q, none⟩)
    (.inr ⟨g, o, rfl, hg, fun j u hu => by match j, hu with | 0, hu => simp [intsC] at hu; subst hu; exact ha⟩)
    (.inr ⟨h, q, rfl, hh, fun j u hu => by match j, hu with | 0, hu => simp [intsC] at hu; subst hu; exact hb⟩) (by simp)
  refine S.mono ?_
  rintro e w' ⟨rfl, hq⟩
  refine ⟨?_, hq⟩
  by_cases h : a = b
  · rw [decide_eq_true h, decide_eq_true (by rw [h])]
  · rw [decide_eq_false h, decide_eq_false (fun e => h (by injection e))]

theorem rows_put {w : World} {B B' : Nat} {v : Value} {zs : List Int} {vs : List Value} {k q o rc : Nat} {z : Int} (hv : ∀ (i : Nat) (z : Int), zs[i]? = some z → ∃ b off cap, vs[i]? = some (Value.slice (some ⟨b, off, none⟩) 1 cap) ∧ w.cell? ⟨b, off, none⟩ = some (.int .i64 z) ∧ b < w.heap.size ∧ B ≤ b)
    (hl : vs.length = zs.length) (hk : k ≤ zs.length) (hc : w.cell? ⟨q, o, none⟩ = some (.int .i64 z)) (hq : q < w.heap.size) (hq2 : B ≤ q) (hBB : B ≤ B') (ho : w.ownsRow B' 27 1 v (zs.length + 1) (vs.take k ++ [Value.slice (some ⟨q, o, none⟩) 1 rc] ++ vs.drop k)) :
    Rows1 w B v (zs.take k ++ [z] ++ zs.drop k) := by
  have ho : w.ownsRow B 27 1 v (zs.length + 1) (vs.take k ++ [Value.slice (some ⟨q, o, none⟩) 1 rc] ++ vs.drop k) := by
    refine ⟨ho.1, ?_⟩
    rcases ho.2 with h | ⟨g, cap, cur, e, hg, hr⟩
    · exact .inl h
    · exact .inr ⟨g, cap, cur, e, Nat.le_trans hBB hg, hr⟩
  refine ⟨_, by rw [show (zs.take k ++ [z] ++ zs.drop k).length = zs.length + 1 by simp; omega]; exact ho, fun i x hx => ?_, fun h => by simp at h⟩
  rw [List.append_assoc] at hx ⊢
  by_cases h1 : i < k
  · rw [List.getElem?_append_left (by rw [List.length_take]; omega), List.getElem?_take, if_pos h1] at hx
    obtain ⟨b, off, cap, e1, e2⟩ := hv i x hx
    exact ⟨b, off, cap, by rw [List.getElem?_append_left (by rw [List.length_take]; omega), List.getElem?_take, if_pos h1]; exact e1, e2⟩
  · rw [List.getElem?_append_right (by rw [List.length_take]; omega), List.length_take, Nat.min_eq_left hk] at hx
    obtain ⟨d, rfl⟩ : ∃ d, i = k + d := ⟨i - k, by omega⟩
    rw [Nat.add_sub_cancel_left] at hx
    match d, hx with
    | 0, hx =>
      obtain rfl : z = x := by simpa using hx
      exact ⟨q, o, rc, by rw [List.getElem?_append_right (by rw [List.length_take]; omega), List.length_take, Nat.min_eq_left (by omega)]; simp, hc, hq, hq2⟩
    | d + 1, hx =>
      have hx : zs[k + d]? = some x := by simpa using hx
      obtain ⟨b, off, cap, e1, e2⟩ := hv _ x hx
      exact ⟨b, off, cap, by rw [List.getElem?_append_right (by rw [List.length_take]; omega), List.length_take, Nat.min_eq_left (by omega)]; simpa [Nat.add_sub_cancel_left] using e1, e2⟩

def PutRowOut (B : Nat) (z : Int) (zs : List Int) (w : World) (e : Ending) (w' : World) : Prop :=
  ∃ v, e = .returned v ∧ Rows1 w' B v (insZ z zs) ∧ Below w.heap.size w w'

set_option maxRecDepth 100000 in
set_option maxHeartbeats 4000000 in
theorem put_none {w : World} {B : Nat} (hB : B ≤ w.heap.size) {z : Int} {q o rc : Nat} (hc : w.cell? ⟨q, o, none⟩ = some (.int .i64 z)) (hq : q < w.heap.size) (hq2 : B ≤ q) :
    Calls Try.prog 15 #[.slice none 0 0, .slice (some ⟨q, o, none⟩) 1 rc] w (PutRowOut B z [] w) := by
  obtain ⟨i0, hi, hz0, hz1, hz2⟩ := info_parts info_rowC
  have HC := Lib.hid hc
  have HQ := Lib.hid hq
  have HQ2 := Lib.hid hq2
  have HB0 := Lib.hid hB
  have KL : Hid ((0 : Nat) ≤ 0) := Lib.hid (Nat.le_refl 0)
  have ML : Hid ((0 : Nat) ≤ 1000) := Lib.hid (by omega)
  clear hc hq hq2 hB
  go_enter Try.func15, Try.ntmps15
  go_wp2_with fail
  go_loopw [5] (fun iv wr => iv = .int .i64 0 ∧ w = wr) (fun _ _ => 0)
  case atStart => exact ⟨rfl, rfl⟩
  case round =>
    obtain ⟨rfl, rfl⟩ := hrel
    obtain ⟨w2, hw2⟩ : ∃ w2, w2 = w := ⟨_, rfl⟩
    have HB2 : Hid (Below w.heap.size w w2) := by rw [hw2]; exact Lib.hid (Below.refl _ _)
    have O1 : Hid (w2.ownsRow w.heap.size 27 1 (.slice none 0 0) 0 []) := Lib.hid (World.ownsRow_nil _ _ _ _)
    have HW := Lib.hid hw2
    clear hw2
    go_wp2_with (at_builtin; refine wpList_append_own _ rfl _ _ 38 rfl w.heap.size 27 i0 (.slice none 0 0) 1 24 Try.underlying38 hi hz0 hz1 hz2 rfl (by decide) _ 0 (([] : List Value)) rfl ((World.ownsRow_nil w w.heap.size 27 1).alloc _) ⟨w.heap.size, 0, none⟩ 1 1 ([.slice (some ⟨q, o, none⟩) 1 rc]) rfl ?l1 ?c1 ?c2 ?c3 ?c4 ?c5 ?_)
    case l1 => rfl
    case c1 =>
      intro i u hu
      match i, hu with
      | 0, hu => simp at hu; subst hu; simp [Addr.add]
    case c2 => intro u hu; simp at hu; subst hu; rfl
    case c3 => have := ML.out; have := KL.out; (try have := NN.out); (unfold maxLen) <;> omega
    case c4 => have := ML.out; have := KL.out; (try have := NN.out); omega
    case c5 => have := (Below.refl w.heap.size w).size; simp <;> omega
    intro v2 w3 hown2 hgrow hnil2
    have OB := (World.ownsRow_nil w w.heap.size 27 1).lt
    have HB3 : Hid (Below w.heap.size w w3) := Lib.hid (((Below.refl w.heap.size w).alloc (Below.refl w.heap.size w).size _).grown hgrow (by have := (Below.refl w.heap.size w).size; simp <;> omega) (fun g hg => (OB g hg).1))
    have O2 : Hid (w3.ownsRow w.heap.size 27 1 v2 (0 + 1) (([] : List Value) ++ [.slice (some ⟨q, o, none⟩) 1 rc])) := Lib.hid (by simpa using hown2)
    clear hown2 hgrow hnil2 OB
    obtain ⟨g2, cap2, rfl⟩ := row_form O2.out (by omega)
    have hcap2 : 1 ≤ cap2 := by
      rcases O2.out.2 with ⟨e, _⟩ | ⟨g', cap, cur, e, _, _, h, _⟩
      · cases e
      · injection e with e1 e2 e3; subst e3; exact h
    go_wp2_with fail
    go_ret
    refine ⟨_, rfl, ?_, HB3.out⟩
    have hr := rows_put (zs := []) (vs := []) (k := 0) (B := B) (B' := w.heap.size) (v := _) (w := w3) (z := z) (fun i z h => by simp at h) rfl (Nat.le_refl _) ((HB3.out.cell HQ.out).trans HC.out) (Nat.lt_of_lt_of_le HQ.out HB3.out.size) HQ2.out HB0.out O2.out
    exact hr
end Go.Proofs.Ytkmffmlnondolaa

/- The document's store of rows: PutRow at one row or more of one number. -/
namespace Go.Proofs.Ytkmffmlnondolaa
open Go.ChangeShapes Go.WideShapes Go.ChangeAt Go.RowKit Go.Maps

theorem add_at (g k i : Nat) : (⟨g, k, none⟩ : Addr).add i = ⟨g, k + i, none⟩ := by
  unfold Addr.add
  split
  · next h => subst h; rfl
  · rfl

set_option maxRecDepth 100000 in
set_option maxHeartbeats 4000000 in
theorem put_some {w : World} {B : Nat} (hB : B ≤ w.heap.size) {v : Value} {zs : List Int} (hr : Rows1 w B v zs) (hne : zs ≠ []) (hl : zs.length ≤ 1000) {z : Int} {q o rc : Nat} (hc : w.cell? ⟨q, o, none⟩ = some (.int .i64 z)) (hq : q < w.heap.size) (hq2 : B ≤ q) :
    Calls Try.prog 15 #[v, .slice (some ⟨q, o, none⟩) 1 rc] w (PutRowOut B z zs w) := by
  obtain ⟨i0, hi, hz0, hz1, hz2⟩ := info_parts info_rowC
  have RW := Lib.hid hr
  obtain ⟨vs, ho, hv, -⟩ := hr
  obtain ⟨g, gc, cur, rfl, hg, hrow, hn, hm, hs, ht⟩ : ∃ g cap cur, v = .slice (some ⟨g, 0, none⟩) zs.length cap ∧ B ≤ g ∧ w.heap[g]? = some (.cells cur 27 (0, 0)) ∧ zs.length ≤ cap ∧ cap ≤ maxLen ∧ cur.size = cap * 1 ∧ cur.toList.take (zs.length * 1) = vs := by
    rcases ho.2 with ⟨_, e⟩ | h
    · exact absurd (List.length_eq_zero_iff.1 e) hne
    · exact h
  rw [Nat.mul_one] at ht
  have LV : Hid (vs.length = zs.length) := Lib.hid (by have := ho.1; omega)
  have VC : Hid (∀ (i : Nat) u, vs[i]? = some u → w.cell? ⟨g, i, none⟩ = some u) := Lib.hid (fun i u hu => by
    rw [cell_of_row _ _ _ _ _ _ hrow]
    rw [← ht, List.getElem?_take] at hu
    split at hu
    · simpa using hu
    · cases hu)
  have VO : Hid (∀ u ∈ vs, u.oneCell' = true) := Lib.hid (fun u hu => by
    obtain ⟨i, hi⟩ := List.getElem?_of_mem hu
    have hlt : i < vs.length := (List.getElem?_eq_some_iff.1 hi).1
    obtain ⟨b, off, cap, e1, _⟩ := hv i zs[i] (List.getElem?_eq_getElem (by have := LV.out; omega))
    rw [e1] at hi
    injection hi with hi
    rw [← hi]; rfl)
  have HV := Lib.hid hv
  have HC := Lib.hid hc
  have HQ := Lib.hid hq
  have HQ2 := Lib.hid hq2
  have HB0 := Lib.hid hB
  have GL : Hid (g < w.heap.size) := Lib.hid (row_lt hrow)
  have GC := Lib.hid hn
  have ML := Lib.hid hl
  obtain ⟨n, hnn⟩ : ∃ n, n = zs.length := ⟨_, rfl⟩
  have NN := Lib.hid hnn
  have hngc : n ≤ gc := by omega
  have hn1 : n ≤ 1000 := by omega
  rw [← hnn]
  clear hc hq hq2 hB hrow hn hm hs ht hv ho hl hg hne hnn
  go_enter Try.func15, Try.ntmps15
  go_wp2_with fail
  go_loopw [5] (fun iv wr => ∃ k : Nat, k ≤ n ∧ iv = .int .i64 (k : Int) ∧ (∀ x ∈ zs.take k, x < z) ∧ Below w.heap.size w wr) (fun iv _ => n - (intOf iv).toNat)
  case atStart => exact ⟨0, Nat.zero_le _, rfl, by simp, Below.refl _ _⟩
  case round =>
    obtain ⟨k, hk, rfl, hsm, hbel⟩ := hrel
    have SM := Lib.hid hsm
    have HB := Lib.hid hbel
    by_cases hlt : k < n
    · have hlt' : (k : Int) < n := by omega
      obtain ⟨x, hx⟩ : ∃ x, zs[k]? = some x := ⟨_, List.getElem?_eq_getElem (by have := NN.out; omega)⟩
      obtain ⟨b, off, cp, e1, e2, e3, -⟩ := HV.out k x hx
      have cl : wr.cell? ⟨g, k, none⟩ = some (.slice (some ⟨b, off, none⟩) 1 cp) := (hbel.cell GL.out).trans (VC.out _ _ e1)
      have LS := Lib.hid (less1 (c := cp) (d := rc) ((hbel.cell e3).trans e2) ((hbel.cell HQ.out).trans HC.out))
      have HX := Lib.hid hx
      have E2 := Lib.hid e2
      have E3 := Lib.hid e3
      clear hx e1 e2 e3 hbel hsm
      go_wp2_with fail
      refine LS.out.mono ?_
      rintro e w1 ⟨rfl, m, hw1⟩
      have HB1 : Hid (Below w.heap.size w w1) := Lib.hid (by rw [hw1]; exact HB.out.trans ((below_drewN0 _ _).mono HB.out.size))
      have cl1 : w1.cell? ⟨g, k, none⟩ = some (.slice (some ⟨b, off, none⟩) 1 cp) := by rw [hw1]; exact cl
      clear hw1 cl LS HB
      by_cases hxz : x < z
      · have hd : decide (x < z) = true := decide_eq_true hxz
        have SM2 : Hid (∀ y ∈ zs.take (k + 1), y < z) := Lib.hid (fun y hy => by
          rw [List.take_add_one, HX.out] at hy
          rcases List.mem_append.1 hy with h | h
          · exact SM.out y h
          · simp at h; rw [h]; exact hxz)
        rw [hd]
        go_wp2_with fail
        go_roundw
        case rel => exact ⟨k + 1, by omega, by go_num, SM2.out, HB1.out⟩
        case measure => simp [intOf]; omega
      · have hd : decide (x < z) = false := decide_eq_false hxz
        rw [hd]
        have SI := Lib.hid (sameInts1 (c := cp) (d := rc) ((HB1.out.cell E3.out).trans E2.out) ((HB1.out.cell HQ.out).trans HC.out) (Nat.lt_of_lt_of_le E3.out HB1.out.size) (Nat.lt_of_lt_of_le HQ.out HB1.out.size))
        have KL : Hid (k ≤ zs.length) := Lib.hid (by have := NN.out; omega)
        have hkgc : (k : Int) ≤ gc := by omega
        go_wp2_with fail
        refine SI.out.mono ?_
        rintro e w6 ⟨rfl, m, hw6⟩
        have HB : Hid (Below w.heap.size w w6) := Lib.hid (by rw [hw6]; exact HB1.out.trans ((below_drewN0 _ _).mono HB1.out.size))
        clear hw6 HB1 cl1 SI
        by_cases hez : x = z
        · have hd2 : decide (x = z) = true := decide_eq_true hez
          rw [hd2]
          have IN : Hid (insZ z zs = zs) := Lib.hid (insZ_has KL.out SM.out (by rw [HX.out, hez]))
          go_wp2_with fail
          go_ret
          refine ⟨_, rfl, ?_, HB.out⟩
          rw [IN.out, NN.out]
          exact RW.out.keep HB.out
        · have hd2 : decide (x = z) = false := decide_eq_false hez
          rw [hd2]
          have IN : Hid (insZ z zs = zs.take k ++ [z] ++ zs.drop k) := Lib.hid (insZ_at KL.out SM.out (fun y hy => by rw [HX.out] at hy; injection hy with hy; rw [← hy]; omega) (by rw [HX.out]; intro e; injection e with e; exact hez e))
          have hkg2 : k < gc := by omega
          go_wp2_with (at_builtin; refine wpList_append_own _ rfl _ _ 38 rfl w.heap.size 27 i0 (.slice none 0 0) 1 24 Try.underlying38 hi hz0 hz1 hz2 rfl (by decide) _ 0 [] rfl (World.ownsRow_nil _ _ _ _) ⟨g, 0, none⟩ k gc (vs.take k) rfl ?l1 ?c1 ?c2 ?c3 ?c4 ?c5 ?_)
          case l1 => have := LV.out; have := KL.out; rw [List.length_take]; omega
          case c1 =>
            intro i u hu
            rw [add_at, Nat.zero_add]
            refine Eq.trans (HB.out.cell GL.out) ?_
            have hu2 : vs[i]? = some u := by
              rw [List.getElem?_take] at hu
              split at hu
              · exact hu
              · cases hu
            exact VC.out i u hu2
          case c2 => exact fun u hu => VO.out u (List.mem_of_mem_take hu)
          case c3 => have := ML.out; have := KL.out; (try have := NN.out); (unfold maxLen) <;> omega
          case c4 => have := ML.out; have := KL.out; (try have := NN.out); omega
          case c5 => have := HB.out.size; simp <;> omega
          intro v1 w2 hown1 hgrow1 _
          have HB2 : Hid (Below w.heap.size w w2) := Lib.hid (HB.out.grown hgrow1 HB.out.size (fun g hg => by simp [Value.ownBlock] at hg))
          have O1 : Hid (w2.ownsRow w.heap.size 27 1 v1 k (vs.take k)) := Lib.hid (by simpa using hown1)
          clear hown1 hgrow1
          go_wp2_with (at_builtin; refine wpList_append_own _ rfl _ _ 38 rfl w.heap.size 27 i0 (.slice none 0 0) 1 24 Try.underlying38 hi hz0 hz1 hz2 rfl (by decide) _ k (vs.take k) rfl (O1.out.alloc _) ⟨w2.heap.size, 0, none⟩ 1 1 ([.slice (some ⟨q, o, none⟩) 1 rc]) rfl ?l1 ?c1 ?c2 ?c3 ?c4 ?c5 ?_)
          case l1 => rfl
          case c1 =>
            intro i u hu
            match i, hu with
            | 0, hu => simp at hu; subst hu; simp [Addr.add]
          case c2 => intro u hu; simp at hu; subst hu; rfl
          case c3 => have := ML.out; have := KL.out; (try have := NN.out); (unfold maxLen) <;> omega
          case c4 => have := ML.out; have := KL.out; (try have := NN.out); omega
          case c5 => have := HB2.out.size; simp <;> omega
          intro v2 w3 hown2 hgrow2 hnil2
          have OB := O1.out.lt
          have HB3 : Hid (Below w.heap.size w w3) := Lib.hid ((HB2.out.alloc HB2.out.size _).grown hgrow2 (by have := HB2.out.size; simp <;> omega) (fun g hg => (OB g hg).1))
          have O2 : Hid (w3.ownsRow w.heap.size 27 1 v2 (k + 1) (vs.take k ++ [.slice (some ⟨q, o, none⟩) 1 rc])) := Lib.hid (by simpa using hown2)
          clear hown2 hgrow2 hnil2 OB
          go_wp2_with (at_builtin; refine wpList_append_own _ rfl _ _ 38 rfl w.heap.size 27 i0 (.slice none 0 0) 1 24 Try.underlying38 hi hz0 hz1 hz2 rfl (by decide) _ (k + 1) _ rfl O2.out ⟨g, k, none⟩ _ _ (vs.drop k) rfl ?l1 ?c1 ?c2 ?c3 ?c4 ?c5 ?_)
          case l1 => have := LV.out; have := KL.out; have := NN.out; first | (rw [List.length_drop]; omega) | omega
          case c1 =>
            intro i u hu
            (try rw [add_at])
            refine Eq.trans (HB3.out.cell GL.out) ?_
            (try rw [List.getElem?_drop] at hu)
            exact VC.out _ u hu
          case c2 => exact fun u hu => VO.out u (List.mem_of_mem_drop hu)
          case c3 => have := ML.out; have := KL.out; (try have := NN.out); (unfold maxLen) <;> omega
          case c4 => have := ML.out; have := KL.out; (try have := NN.out); omega
          case c5 => have := HB3.out.size; simp <;> omega
          intro v3 w4 hown3 hgrow3 _
          have OB := O2.out.lt
          have HB4 : Hid (Below w.heap.size w w4) := Lib.hid (HB3.out.grown hgrow3 HB3.out.size (fun g hg => (OB g hg).1))
          have hr := rows_put (zs := zs) (vs := vs) (k := k) (B := B) (B' := w.heap.size) (v := v3) (w := w4) (z := z) (q := q) (o := o) (rc := rc) (fun i z h => by obtain ⟨b, off, cap, e1, e2, e3, e4⟩ := HV.out i z h; exact ⟨b, off, cap, e1, (HB4.out.cell e3).trans e2, Nat.lt_of_lt_of_le e3 HB4.out.size, e4⟩) LV.out KL.out ((HB4.out.cell HQ.out).trans HC.out) (Nat.lt_of_lt_of_le HQ.out HB4.out.size) HQ2.out HB0.out (by have h := hown3; have h1 := KL.out; have h2 := LV.out; have h3 := NN.out; first | (rw [show k + 1 + _ = zs.length + 1 by omega] at h; simpa using h) | (rw [show k + 1 = zs.length + 1 by omega] at h; simpa using h))
          rw [← IN.out] at hr
          have HR := Lib.hid hr
          clear hown3 hgrow3 OB hr
          go_wp2_with fail
          go_ret
          exact ⟨_, rfl, HR.out, HB4.out⟩
    · obtain rfl : k = n := by omega
      have KL : Hid (k ≤ zs.length) := Lib.hid (by have := NN.out; omega)
      have hkgc : (k : Int) ≤ gc := by omega
      have IN : Hid (insZ z zs = zs.take k ++ [z] ++ zs.drop k) := Lib.hid (insZ_at KL.out SM.out (fun y hy => by rw [List.getElem?_eq_none (by have := NN.out; omega)] at hy; cases hy) (by rw [List.getElem?_eq_none (by have := NN.out; omega)]; intro e; cases e))
      clear hlt hbel hsm
      go_wp2_with (at_builtin; refine wpList_append_own _ rfl _ _ 38 rfl w.heap.size 27 i0 (.slice none 0 0) 1 24 Try.underlying38 hi hz0 hz1 hz2 rfl (by decide) _ 0 [] rfl (World.ownsRow_nil _ _ _ _) ⟨g, 0, none⟩ k gc (vs.take k) rfl ?l1 ?c1 ?c2 ?c3 ?c4 ?c5 ?_)
      case l1 => have := LV.out; have := KL.out; rw [List.length_take]; omega
      case c1 =>
        intro i u hu
        rw [add_at, Nat.zero_add]
        refine Eq.trans (HB.out.cell GL.out) ?_
        have hu2 : vs[i]? = some u := by
          rw [List.getElem?_take] at hu
          split at hu
          · exact hu
          · cases hu
        exact VC.out i u hu2
      case c2 => exact fun u hu => VO.out u (List.mem_of_mem_take hu)
      case c3 => have := ML.out; have := KL.out; (try have := NN.out); (unfold maxLen) <;> omega
      case c4 => have := ML.out; have := KL.out; (try have := NN.out); omega
      case c5 => have := HB.out.size; simp <;> omega
      intro v1 w2 hown1 hgrow1 _
      have HB2 : Hid (Below w.heap.size w w2) := Lib.hid (HB.out.grown hgrow1 HB.out.size (fun g hg => by simp [Value.ownBlock] at hg))
      have O1 : Hid (w2.ownsRow w.heap.size 27 1 v1 k (vs.take k)) := Lib.hid (by simpa using hown1)
      clear hown1 hgrow1
      go_wp2_with (at_builtin; refine wpList_append_own _ rfl _ _ 38 rfl w.heap.size 27 i0 (.slice none 0 0) 1 24 Try.underlying38 hi hz0 hz1 hz2 rfl (by decide) _ k (vs.take k) rfl (O1.out.alloc _) ⟨w2.heap.size, 0, none⟩ 1 1 ([.slice (some ⟨q, o, none⟩) 1 rc]) rfl ?l1 ?c1 ?c2 ?c3 ?c4 ?c5 ?_)
      case l1 => rfl
      case c1 =>
        intro i u hu
        match i, hu with
        | 0, hu => simp at hu; subst hu; simp [Addr.add]
      case c2 => intro u hu; simp at hu; subst hu; rfl
      case c3 => have := ML.out; have := KL.out; (try have := NN.out); (unfold maxLen) <;> omega
      case c4 => have := ML.out; have := KL.out; (try have := NN.out); omega
      case c5 => have := HB2.out.size; simp <;> omega
      intro v2 w3 hown2 hgrow2 hnil2
      have OB := O1.out.lt
      have HB3 : Hid (Below w.heap.size w w3) := Lib.hid ((HB2.out.alloc HB2.out.size _).grown hgrow2 (by have := HB2.out.size; simp <;> omega) (fun g hg => (OB g hg).1))
      have O2 : Hid (w3.ownsRow w.heap.size 27 1 v2 (k + 1) (vs.take k ++ [.slice (some ⟨q, o, none⟩) 1 rc])) := Lib.hid (by simpa using hown2)
      clear hown2 hgrow2 hnil2 OB
      by_cases hkc : k = gc
      · have GC2 := Lib.hid hkc
        subst hkc
        go_wp2_with (at_builtin; refine wpList_append_own _ rfl _ _ 38 rfl w.heap.size 27 i0 (.slice none 0 0) 1 24 Try.underlying38 hi hz0 hz1 hz2 rfl (by decide) _ (k + 1) _ rfl O2.out ⟨g, 0, none⟩ _ _ (vs.drop k) rfl ?l1 ?c1 ?c2 ?c3 ?c4 ?c5 ?_)
        case l1 => have := LV.out; have := KL.out; have := NN.out; first | (rw [List.length_drop]; omega) | omega
        case c1 =>
          intro i u hu
          (try rw [add_at])
          refine Eq.trans (HB3.out.cell GL.out) ?_
          (try rw [List.getElem?_drop] at hu)
          exfalso; rw [List.getElem?_eq_none (by have := LV.out; have := GC.out; have := NN.out; omega)] at hu; cases hu
        case c2 => exact fun u hu => VO.out u (List.mem_of_mem_drop hu)
        case c3 => have := ML.out; have := KL.out; (try have := NN.out); (unfold maxLen) <;> omega
        case c4 => have := ML.out; have := KL.out; (try have := NN.out); omega
        case c5 => have := HB3.out.size; simp <;> omega
        intro v3 w4 hown3 hgrow3 _
        have OB := O2.out.lt
        have HB4 : Hid (Below w.heap.size w w4) := Lib.hid (HB3.out.grown hgrow3 HB3.out.size (fun g hg => (OB g hg).1))
        have hr := rows_put (zs := zs) (vs := vs) (k := k) (B := B) (B' := w.heap.size) (v := v3) (w := w4) (z := z) (q := q) (o := o) (rc := rc) (fun i z h => by obtain ⟨b, off, cap, e1, e2, e3, e4⟩ := HV.out i z h; exact ⟨b, off, cap, e1, (HB4.out.cell e3).trans e2, Nat.lt_of_lt_of_le e3 HB4.out.size, e4⟩) LV.out KL.out ((HB4.out.cell HQ.out).trans HC.out) (Nat.lt_of_lt_of_le HQ.out HB4.out.size) HQ2.out HB0.out (by have h := hown3; have h1 := KL.out; have h2 := LV.out; have h3 := NN.out; first | (rw [show k + 1 + _ = zs.length + 1 by omega] at h; simpa using h) | (rw [show k + 1 = zs.length + 1 by omega] at h; simpa using h))
        rw [← IN.out] at hr
        have HR := Lib.hid hr
        clear hown3 hgrow3 OB hr
        go_wp2_with fail
        go_ret
        exact ⟨_, rfl, HR.out, HB4.out⟩
      · have hkc2 : k < gc := by have := GC.out; have := KL.out; omega
        go_wp2_with (at_builtin; refine wpList_append_own _ rfl _ _ 38 rfl w.heap.size 27 i0 (.slice none 0 0) 1 24 Try.underlying38 hi hz0 hz1 hz2 rfl (by decide) _ (k + 1) _ rfl O2.out ⟨g, k, none⟩ _ _ (vs.drop k) rfl ?l1 ?c1 ?c2 ?c3 ?c4 ?c5 ?_)
        case l1 => have := LV.out; have := KL.out; have := NN.out; first | (rw [List.length_drop]; omega) | omega
        case c1 =>
          intro i u hu
          (try rw [add_at])
          refine Eq.trans (HB3.out.cell GL.out) ?_
          (try rw [List.getElem?_drop] at hu)
          exact VC.out _ u hu
        case c2 => exact fun u hu => VO.out u (List.mem_of_mem_drop hu)
        case c3 => have := ML.out; have := KL.out; (try have := NN.out); (unfold maxLen) <;> omega
        case c4 => have := ML.out; have := KL.out; (try have := NN.out); omega
        case c5 => have := HB3.out.size; simp <;> omega
        intro v3 w4 hown3 hgrow3 _
        have OB := O2.out.lt
        have HB4 : Hid (Below w.heap.size w w4) := Lib.hid (HB3.out.grown hgrow3 HB3.out.size (fun g hg => (OB g hg).1))
        have hr := rows_put (zs := zs) (vs := vs) (k := k) (B := B) (B' := w.heap.size) (v := v3) (w := w4) (z := z) (q := q) (o := o) (rc := rc) (fun i z h => by obtain ⟨b, off, cap, e1, e2, e3, e4⟩ := HV.out i z h; exact ⟨b, off, cap, e1, (HB4.out.cell e3).trans e2, Nat.lt_of_lt_of_le e3 HB4.out.size, e4⟩) LV.out KL.out ((HB4.out.cell HQ.out).trans HC.out) (Nat.lt_of_lt_of_le HQ.out HB4.out.size) HQ2.out HB0.out (by have h := hown3; have h1 := KL.out; have h2 := LV.out; have h3 := NN.out; first | (rw [show k + 1 + _ = zs.length + 1 by omega] at h; simpa using h) | (rw [show k + 1 = zs.length + 1 by omega] at h; simpa using h))
        rw [← IN.out] at hr
        have HR := Lib.hid hr
        clear hown3 hgrow3 OB hr
        go_wp2_with fail
        go_ret
        exact ⟨_, rfl, HR.out, HB4.out⟩

theorem put_any {w : World} {B : Nat} (hB : B ≤ w.heap.size) {v : Value} {zs : List Int} (hr : Rows1 w B v zs) (hl : zs.length ≤ 1000) {z : Int} {q o rc : Nat} (hc : w.cell? ⟨q, o, none⟩ = some (.int .i64 z)) (hq : q < w.heap.size) (hq2 : B ≤ q) :
    Calls Try.prog 15 #[v, .slice (some ⟨q, o, none⟩) 1 rc] w (PutRowOut B z zs w) := by
  by_cases hne : zs = []
  · obtain ⟨vs, _, _, h⟩ := hr
    rw [h hne, hne]
    exact put_none hB hc hq hq2
  · exact put_some hB hr hne hl hc hq hq2
end Go.Proofs.Ytkmffmlnondolaa


/- Layer 6's laws: numbers by four variables in another order: turned about, and put one by one into a rising list. Plain: no walk. -/
namespace Go.Proofs.Ytkmffmlnondolaa
open Go.ChangeShapes Go.WideShapes Go.ChangeAt Go.RowKit Go.Maps

theorem numOf_succ (n : Nat) (y : Nat → Bool) : numOf (n + 1) y = numOf n y + if y n then 2 ^ n else 0 := by
  unfold numOf
  rw [List.range_succ, List.map_append, List.map_singleton, B6.getN_snoc, List.length_map, List.length_range]

/-- A number's bits in the order of a list. -/
def turnB (vs : List Nat) (n : Nat) : Nat → Bool := fun i => bitN n (varN vs i)
def turnN (vs : List Nat) (n : Nat) : Nat := numOf 4 (turnB vs n)

theorem turn_or {i : Nat} (hi : i < 4) {y : Nat → Bool} (h : y i = true) : bits BinOp.or IntKind.i64 (numOf i y : Int) (wrap64 ((2 : Int) ^ i)) = ((numOf (i + 1) y : Nat) : Int) := by
  rw [B6.or_step (numOf i y) i (numOf_lt i y) (by omega), numOf_succ, if_pos h]
theorem or_zero {a : Nat} (h : a < 16) : bits BinOp.or IntKind.i64 (a : Int) 0 = (a : Int) := by
  have : ∀ b : Fin 16, bits BinOp.or IntKind.i64 (b.val : Int) 0 = (b.val : Int) := by decide +kernel
  exact this ⟨a, h⟩
theorem numOf_lt16 {i : Nat} (hi : i ≤ 4) (y : Nat → Bool) : numOf i y < 16 := by
  have h1 := numOf_lt i y
  have h2 := Nat.pow_le_pow_right (n := 2) (by omega) hi
  omega
theorem turn_or0 {i : Nat} (hi : i < 4) {y : Nat → Bool} (h : y i = false) : bits BinOp.or IntKind.i64 (numOf i y : Int) 0 = ((numOf (i + 1) y : Nat) : Int) := by
  rw [or_zero (numOf_lt16 (by omega) y), numOf_succ, if_neg (by rw [h]; simp), Nat.add_zero]

def rowsOf (l : List Nat) : List Int := l.foldl (fun (zs : List Int) (n : Nat) => insZ (n : Int) zs) []
theorem rowsOf_snoc (l : List Nat) (n : Nat) : rowsOf (l ++ [n]) = insZ (n : Int) (rowsOf l) := by unfold rowsOf; rw [List.foldl_append]; rfl

theorem insZ_mem {z x : Int} : ∀ {zs : List Int}, x ∈ insZ z zs ↔ x = z ∨ x ∈ zs
  | [] => by unfold insZ; simp
  | y :: r => by
    unfold insZ
    split
    · rw [List.mem_cons, insZ_mem, List.mem_cons]; constructor <;> rintro (h | h | h) <;> simp [h]
    · split
      · next h => rw [List.mem_cons, ← h]; constructor <;> (intro h; simp_all)
      · rw [List.mem_cons]
theorem insZ_up {z : Int} : ∀ {zs : List Int}, zs.Pairwise (· < ·) → (insZ z zs).Pairwise (· < ·)
  | [], _ => by unfold insZ; simp
  | y :: r, h => by
    obtain ⟨h1, h2⟩ := List.pairwise_cons.1 h
    unfold insZ
    split
    · next hy =>
      refine List.pairwise_cons.2 ⟨fun a ha => ?_, insZ_up h2⟩
      rcases insZ_mem.1 ha with rfl | ha
      · exact hy
      · exact h1 a ha
    · split
      · exact h
      · next h3 h4 =>
        refine List.pairwise_cons.2 ⟨fun a ha => ?_, h⟩
        rcases List.mem_cons.1 ha with rfl | ha
        · omega
        · have := h1 a ha; omega
theorem insZ_len {z : Int} : ∀ {zs : List Int}, (insZ z zs).length ≤ zs.length + 1
  | [] => by unfold insZ; simp
  | y :: r => by
    have := insZ_len (z := z) (zs := r)
    unfold insZ
    split
    · simp; omega
    · split <;> simp

theorem rowsOf_all (P : List Int → List Nat → Prop) (h0 : P [] []) (hs : ∀ l n, P (rowsOf l) l → P (rowsOf (l ++ [n])) (l ++ [n])) (l : List Nat) : P (rowsOf l) l := by
  have : ∀ m (l : List Nat), l.length = m → P (rowsOf l) l := by
    intro m
    induction m with
    | zero => intro l h; obtain rfl := List.length_eq_zero_iff.1 h; exact h0
    | succ m ih =>
      intro l h
      have hne : l ≠ [] := fun e => by rw [e] at h; simp at h
      rw [← List.dropLast_concat_getLast hne]
      exact hs _ _ (ih _ (by rw [List.length_dropLast]; omega))
  exact this _ l rfl
theorem rowsOf_up (l : List Nat) : (rowsOf l).Pairwise (· < ·) := rowsOf_all (fun r _ => r.Pairwise (· < ·)) List.Pairwise.nil (fun l n h => by rw [rowsOf_snoc]; exact insZ_up h) l
theorem rowsOf_mem (l : List Nat) (x : Int) : x ∈ rowsOf l ↔ ∃ n ∈ l, x = (n : Int) := rowsOf_all (fun r l => x ∈ r ↔ ∃ n ∈ l, x = (n : Int)) (by simp) (fun l n h => by
  rw [rowsOf_snoc, insZ_mem, h]
  constructor
  · rintro (rfl | ⟨a, h1, h2⟩)
    · exact ⟨n, by simp, rfl⟩
    · exact ⟨a, by simp [h1], h2⟩
  · rintro ⟨a, h1, h2⟩
    rcases List.mem_append.1 h1 with h1 | h1
    · exact .inr ⟨a, h1, h2⟩
    · simp at h1; subst h1; exact .inl h2) l
theorem rowsOf_len (l : List Nat) : (rowsOf l).length ≤ l.length := rowsOf_all (fun r l => r.length ≤ l.length) (by simp) (fun l n h => by rw [rowsOf_snoc]; have := insZ_len (z := (n : Int)) (zs := rowsOf l); simp; omega) l

theorem tix_congr {val val' : Nat → Bool} (h : ∀ v, v < 4 → val v = val' v) : tix val 4 0 0 = tix val' 4 0 0 := by
  simp only [tix]
  rw [h 0 (by omega), h 1 (by omega), h 2 (by omega), h 3 (by omega)]
theorem tix_num (val : Nat → Bool) : tix val 4 0 0 = numOf 4 val := by
  rw [numOf_succ, numOf_succ, numOf_succ, numOf_succ]
  simp only [tix]
  generalize val 0 = a; generalize val 1 = b; generalize val 2 = c; generalize val 3 = d
  cases a <;> cases b <;> cases c <;> cases d <;> rfl

/-- A number whose bits are found at other places. -/
def backN (vs : List Nat) (m : Nat) : Nat := tix (fun v => bitN m (plN vs v)) 4 0 0
section
variable {vs : List Nat} (hp : vs.Perm [0, 1, 2, 3])
include hp
theorem pl_var {i : Nat} (hi : i < 4) : plN vs (varN vs i) = i := plN_var (hp.nodup_iff.2 (by decide)) (by have := hp.length_eq; simp at this; omega)
theorem var_lt {i : Nat} (hi : i < 4) : varN vs i < 4 := by
  have := hp.mem_iff.1 (varN_mem (vs := vs) (i := i) (by have := hp.length_eq; simp at this; omega))
  simp at this; omega
theorem pl_lt {v : Nat} (hv : v < 4) : plN vs v < 4 ∧ varN vs (plN vs v) = v := by
  have hm : v ∈ vs := hp.mem_iff.2 (by simp; omega)
  have hi := List.idxOf_lt_length_of_mem hm
  refine ⟨by have := hp.length_eq; simp at this; unfold plN; omega, ?_⟩
  unfold varN plN
  rw [List.getD_eq_getElem?_getD, List.getElem?_eq_getElem hi]
  exact List.getElem_idxOf hi
theorem back_turn {n : Nat} (hn : n < 16) : backN vs (turnN vs n) = n := by
  unfold backN
  rw [tix_congr (val' := bitN n) (fun v hv => by
    obtain ⟨h1, h2⟩ := pl_lt hp hv
    show bitN (numOf 4 (turnB vs n)) (plN vs v) = _
    rw [bit_numOf 4 _ _ h1]
    unfold turnB
    rw [h2]), tix_num, numOf_bit 4 n (by omega)]
theorem turn_back {m : Nat} (hm : m < 16) : turnN vs (backN vs m) = m := by
  unfold turnN
  rw [numOf_congr (y' := bitN m) (fun i hi => by
    unfold turnB backN
    rw [tix_num, bit_numOf 4 _ _ (var_lt hp hi)]
    rw [pl_var hp hi]), numOf_bit 4 m (by omega)]
omit hp in
theorem back_lt (m : Nat) : backN vs m < 16 := by unfold backN; rw [tix_num]; exact numOf_lt 4 _

theorem turn_rows {cs : List Nd} {k : Nat} {a : Int} (hs : ∀ val, Says 4 cs val k = bitZ a (tix val 4 0 0)) : rowsOf ((truesL a 16).map (turnN vs)) = castL (nums4 cs vs k) := by
  have hup : (castL (nums4 cs vs k)).Pairwise (· < ·) := by
    unfold castL nums4
    rw [List.pairwise_map]
    refine (List.Pairwise.filter _ List.pairwise_lt_range).imp fun h => ?_
    omega
  refine List.Perm.eq_of_pairwise (le := fun a b : Int => a < b) (fun a b _ _ h1 h2 => by omega) (rowsOf_up _) hup ?_
  rw [List.perm_ext_iff_of_nodup ((rowsOf_up _).imp fun h => by omega) (hup.imp fun h => by omega)]
  intro x
  rw [rowsOf_mem]
  unfold castL nums4
  simp only [List.mem_map, List.mem_filter, List.mem_range]
  constructor
  · rintro ⟨m, ⟨n, hn, rfl⟩, rfl⟩
    obtain ⟨h1, h2⟩ := truesL_mem.1 hn
    refine ⟨turnN vs n, ⟨numOf_lt 4 _, ?_⟩, rfl⟩
    unfold sayN
    rw [hs]
    show bitZ a (backN vs (turnN vs n)) = true
    rw [back_turn hp h1]; exact h2
  · rintro ⟨m, ⟨h1, h2⟩, rfl⟩
    unfold sayN at h2
    rw [hs] at h2
    exact ⟨m, ⟨backN vs m, truesL_mem.2 ⟨back_lt m, h2⟩, turn_back hp h1⟩, rfl⟩
end
end Go.Proofs.Ytkmffmlnondolaa
