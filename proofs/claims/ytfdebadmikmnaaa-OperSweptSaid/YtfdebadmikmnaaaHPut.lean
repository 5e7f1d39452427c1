/- Contracts of layer 2 (hash): Drop, Put. -/
import Derived.Test.YtfdebadmikmnaaaHTab
namespace Go.Proofs.Ytfdebadmikmnaaa
open Go.ChangeShapes Go.WideShapes Go.ChangeAt Go.RowKit

theorem drop_none {w : World} {t b : Nat} {f : Key → Option Int} {n : Nat} (h : Tab w t b f n) (k : Key) (hk : f k = none) :
    Calls Try.prog 49 #[.pointer (some ⟨t, 0, none⟩), keyV k] w fun e w' => e = .returned (.bool false) ∧ Below w.heap.size w w' := by
  obtain ⟨ps, u, h1, h2, _⟩ := h
  have hl := h1.len
  have hu : u < ps.length := by omega
  have h1a := h1.keep ((Below.refl w.heap.size w).alloc (Nat.le_refl _) (.cells #[.int .i64 k.a, .int .i64 k.b, .int .i64 k.c] 22))
  obtain ⟨c0, c1, c2, c3⟩ := h1a.lies.tops
  have H := Lib.hid (given_yes t _ c0)
  have H2 := Lib.hid (find_full h1a hu k)
  have HK := Lib.hid hk
  have HF := Lib.hid h1
  clear hk c0 c1 c2 c3
  unfold keyV
  go_enter Try.func49, Try.ntmps49
  go_wp2_with fail
  refine H.out.mono ?_
  rintro e w' ⟨rfl, rfl⟩
  go_wp2_with fail
  refine H2.out.mono ?_
  rintro e w2 ⟨x, there, rfl, hx, hfound, hb2⟩
  cases there with
  | true =>
    obtain ⟨v', hv, _⟩ := HF.out.rep.found_some hfound
    rw [HK.out] at hv
    cases hv
  | false =>
    clear hfound
    go_wp2_with fail
    go_ret
    exact ⟨rfl, ((Below.refl _ _).alloc (Nat.le_refl _) _).trans (hb2.mono (by simp))⟩

def DropOut (t b : Nat) (f : Key → Option Int) (n : Nat) (w : World) (e : Ending) (w' : World) : Prop :=
  e = .returned (.bool true) ∧ Tab w' t b f n ∧ Mut t b w w'

theorem drop_some {w : World} {t b : Nat} {f : Key → Option Int} {n : Nat} (h : Tab w t b f n) (k : Key) (v : Int) (hk : f k = some v) :
    Calls Try.prog 49 #[.pointer (some ⟨t, 0, none⟩), keyV k] w (DropOut t b (fset f k none) (n - 1) w) := by
  obtain ⟨ps, u, h1, h2, hn⟩ := h
  have hl := h1.len
  have hu : u < ps.length := by omega
  have hb1 := (Below.refl w.heap.size w).alloc (Nat.le_refl _) (.cells #[.int .i64 k.a, .int .i64 k.b, .int .i64 k.c] 22)
  have h1a := h1.keep hb1
  obtain ⟨c0, c1, c2, c3⟩ := h1a.lies.tops
  have H := Lib.hid (given_yes t _ c0)
  have H2 := Lib.hid (find_full h1a hu k)
  have HK := Lib.hid hk
  have HF := Lib.hid h1
  have HF1 := Lib.hid h1a
  clear hk c0 c1 c2 c3
  unfold keyV
  go_enter Try.func49, Try.ntmps49
  go_wp2_with fail
  refine H.out.mono ?_
  rintro e w' ⟨rfl, rfl⟩
  go_wp2_with fail
  refine H2.out.mono ?_
  rintro e w2 ⟨x, there, rfl, hx, hfound, hb2⟩
  cases there with
  | false =>
    have := HF.out.rep.found_none hfound
    rw [HK.out] at this
    cases this
  | true =>
    obtain ⟨v', hv, hp⟩ := HF.out.rep.found_some hfound
    rw [HK.out] at hv
    obtain rfl : v = v' := by injection hv
    obtain ⟨hrep, hn1⟩ := HF.out.rep.drop hp ⟨0, 0, 0⟩ 0
    have hl2 := HF1.out.lies.keep hb2
    obtain ⟨c0, c1, c2, c3⟩ := hl2.tops
    obtain ⟨d0, d1, d2, d3, d4⟩ := hl2.cells hp
    obtain ⟨f1, f2⟩ := hl2.free
    have hne := h1.lies.ne
    have HR := Lib.hid hrep
    clear hfound hv hp hrep
    go_wp2_with fail
    go_ret
    have hm0 : Mut t b w w2 := (Mut.refl t b w).below (hb1.trans (hb2.mono (by simp)))
    have hlen : (ps.set x ⟨2, ⟨0, 0, 0⟩, 0⟩).length = ps.length := List.length_set
    refine ⟨rfl, ⟨ps.set x ⟨2, ⟨0, 0, 0⟩, 0⟩, u, ⟨(hl2.setP hx ⟨2, ⟨0, 0, 0⟩, 0⟩).setN (n' := n - 1) (by omega), by rw [hlen]; exact HR.out, by rw [hlen]; exact h1.pow⟩, by rw [hlen]; exact h2, by omega⟩, ?_⟩
    exact (((((hm0.setCell (.inr (.inl rfl)) _).setCell (.inr (.inl rfl)) _).setCell (.inr (.inl rfl)) _).setCell (.inr (.inl rfl)) _).setCell (.inr (.inl rfl)) _).setCell (.inl rfl) _

def PutOut (t b : Nat) (f : Key → Option Int) (n : Nat) (w : World) (e : Ending) (w' : World) : Prop :=
  e = .returned (.int .i64 0) ∧ ∃ b', Tab w' t b' f n ∧ (b' = b ∨ w.heap.size ≤ b') ∧ Mut t b w w'

theorem Lies.setV {w : World} {t b : Nat} {ps : List Pl} {n u : Nat} (h : Lies w t b ps n u) {x : Nat} {k : Key} {v : Int} (hp : ps[x]? = some ⟨1, k, v⟩) (v' : Int) :
    Lies (w.setCell ⟨b, x * 5 + 4, none⟩ (.int .i64 v')) t b (ps.set x ⟨1, k, v'⟩) n u := by
  have hx : x < ps.length := (List.getElem?_eq_some_iff.1 hp).1
  refine ⟨?_, ?_, h.ne⟩
  · rw [heap_setCell_other _ _ t _ h.ne, List.length_set]; exact h.head
  · rw [heap_setCell_same w b _ _ _ _ h.row, List.setIfInBounds_toArray, cellsAll_set ps x ⟨1, k, v'⟩ hx]
    have e : ∀ (l : List Value) (i : Nat) (u : Value), l[i]? = some u → l.set i u = l := by
      intro l i u hu
      apply List.ext_getElem?
      intro j
      rw [List.getElem?_set]
      by_cases hj : i = j
      · subst hj; rw [if_pos rfl, if_pos (List.getElem?_eq_some_iff.1 hu).1, hu]
      · rw [if_neg hj]
    have hc : ∀ c u, c < 5 → (cellsOf ⟨1, k, v⟩)[c]? = some u → (cellsAll ps)[x * 5 + c]? = some u := fun c u hc hu => (cellsAll_get ps x _ c hp hc).trans hu
    rw [e (cellsAll ps) (x * 5) _ (hc 0 _ (by omega) rfl), e (cellsAll ps) (x * 5 + 1) _ (hc 1 _ (by omega) rfl), e (cellsAll ps) (x * 5 + 2) _ (hc 2 _ (by omega) rfl), e (cellsAll ps) (x * 5 + 3) _ (hc 3 _ (by omega) rfl)]

theorem put_old {w : World} {t b : Nat} {f : Key → Option Int} {n : Nat} (h : Tab w t b f n) (k : Key) (v v' : Int) (hk : f k = some v) :
    Calls Try.prog 57 #[.pointer (some ⟨t, 0, none⟩), keyV k, .int .i64 v'] w (PutOut t b (fset f k (some v')) n w) := by
  obtain ⟨ps, u, h1, h2, hn⟩ := h
  have hl := h1.len
  have hu : u < ps.length := by omega
  have hb1 := (Below.refl w.heap.size w).alloc (Nat.le_refl _) (.cells #[.int .i64 k.a, .int .i64 k.b, .int .i64 k.c] 22)
  have h1a := h1.keep hb1
  obtain ⟨c0, c1, c2, c3⟩ := h1a.lies.tops
  have H := Lib.hid (given_yes t _ c0)
  have H2 := Lib.hid (find_full h1a hu k)
  have HK := Lib.hid hk
  have HF := Lib.hid h1
  have HF1 := Lib.hid h1a
  clear hk c0 c1 c2 c3
  unfold keyV
  go_enter Try.func57, Try.ntmps57
  go_wp2_with fail
  refine H.out.mono ?_
  rintro e w' ⟨rfl, rfl⟩
  go_wp2_with fail
  refine H2.out.mono ?_
  rintro e w2 ⟨x, there, rfl, hx, hfound, hb2⟩
  cases there with
  | false =>
    have := HF.out.rep.found_none hfound
    rw [HK.out] at this
    cases this
  | true =>
    obtain ⟨v1, hv, hp⟩ := HF.out.rep.found_some hfound
    rw [HK.out] at hv
    obtain rfl : v = v1 := by injection hv
    have hrep := HF.out.rep.set_old hp v'
    have hl2 := HF1.out.lies.keep hb2
    obtain ⟨c0, c1, c2, c3⟩ := hl2.tops
    obtain ⟨d0, d1, d2, d3, d4⟩ := hl2.cells hp
    obtain ⟨f1, f2⟩ := hl2.free
    have hne := h1.lies.ne
    have HR := Lib.hid hrep
    have HP := Lib.hid hp
    clear hfound hv hp hrep
    go_wp2_with fail
    go_ret
    have hm0 : Mut t b w w2 := (Mut.refl t b w).below (hb1.trans (hb2.mono (by simp)))
    have hlen : (ps.set x ⟨1, k, v'⟩).length = ps.length := List.length_set
    refine ⟨rfl, b, ⟨ps.set x ⟨1, k, v'⟩, u, ⟨hl2.setV HP.out v', by rw [hlen]; exact HR.out, by rw [hlen]; exact h1.pow⟩, by rw [hlen]; exact h2, by omega⟩, .inl rfl, ?_⟩
    exact hm0.setCell (.inr (.inl rfl)) _

theorem put_new {w : World} {t b : Nat} {f : Key → Option Int} {n : Nat} (h : Tab w t b f n) (k : Key) (v : Int) (hk : f k = none) (hn : n < 1048576) :
    Calls Try.prog 57 #[.pointer (some ⟨t, 0, none⟩), keyV k, .int .i64 v] w (PutOut t b (fset f k (some v)) (n + 1) w) := by
  obtain ⟨ps, u, h1, h2, _⟩ := h
  have hl := h1.len
  have hu : u < ps.length := by omega
  have hnu := h1.rep.le
  have hb1 := (Below.refl w.heap.size w).alloc (Nat.le_refl _) (.cells #[.int .i64 k.a, .int .i64 k.b, .int .i64 k.c] 22)
  have h1a := h1.keep hb1
  obtain ⟨c0, c1, c2, c3⟩ := h1a.lies.tops
  have H := Lib.hid (given_yes t _ c0)
  have H2 := Lib.hid (find_full h1a hu k)
  have HK := Lib.hid hk
  have HF := Lib.hid h1
  have HF1 := Lib.hid h1a
  clear hk c0 c1 c2 c3
  unfold keyV
  go_enter Try.func57, Try.ntmps57
  go_wp2_with fail
  refine H.out.mono ?_
  rintro e w' ⟨rfl, rfl⟩
  go_wp2_with fail
  refine H2.out.mono ?_
  rintro e w2 ⟨x, there, rfl, hx, hfound, hb2⟩
  cases there with
  | true =>
    obtain ⟨v', hv, _⟩ := HF.out.rep.found_some hfound
    rw [HK.out] at hv
    cases hv
  | false =>
    obtain ⟨k0, k1, k2⟩ := box_cells hb2
    have hm0 : Mut t b w w2 := (Mut.refl t b w).below (hb1.trans (hb2.mono (by simp)))
    have h2f := HF1.out.keep hb2
    obtain ⟨c0, c1, c2, c3⟩ := h2f.lies.tops
    have H3 := Lib.hid (crowded_any t b ps n u w2 h2f.lies (by omega) (by omega))
    have hn1 : ((n : Int) == 1048576) = false := by simp; omega
    have HX := Lib.hid hfound
    clear hfound
    go_wp2_with fail
    refine H3.out.mono ?_
    rintro e w3 ⟨rfl, hb3⟩
    by_cases hcr : 3 * (ps.length : Int) < 4 * ((u : Int) + 1)
    · have h3f := h2f.keep hb3
      have hlt := h1.lies.lt_t
      have hlb := h1.lies.lt_b
      have hs3 := hb3.size
      have hs2 := hb2.size
      have hs1 := hb1.size
      have hs : w.heap.size < w2.heap.size := by simp at hs2; omega
      have box : ∀ w' : World, w'.heap[w.heap.size]? = w2.heap[w.heap.size]? → w'.cell? ⟨w.heap.size, 0, none⟩ = some (.int .i64 k.a) ∧ w'.cell? ⟨w.heap.size, 1, none⟩ = some (.int .i64 k.b) ∧ w'.cell? ⟨w.heap.size, 2, none⟩ = some (.int .i64 k.c) := by
        intro w' hw'
        exact ⟨(World.cell?_of_block (w := w2) (a := ⟨w.heap.size, 0, none⟩) hw').trans k0, (World.cell?_of_block (w := w2) (a := ⟨w.heap.size, 1, none⟩) hw').trans k1, (World.cell?_of_block (w := w2) (a := ⟨w.heap.size, 2, none⟩) hw').trans k2⟩
      have BX := Lib.hid box
      have H4 := Lib.hid (rebuild_any h3f hn)
      clear box k0 k1 k2
      go_wp2_with fail
      refine H4.out.mono ?_
      rintro e w4 ⟨b4, ps4, rfl, h4f, hl4, hb4, hm4⟩
      have hk4 : w4.heap[w.heap.size]? = w2.heap[w.heap.size]? := (hm4.block w.heap.size (by omega) (by omega) (by omega)).trans (hb3.block _ hs)
      obtain ⟨g0, g1, g2⟩ := BX.out w4 hk4
      have hl4' := h4f.len
      have hu4 : n < ps4.length := by omega
      have F4 := Lib.hid h4f
      have K4 := Lib.hid hk4
      clear hk4
      go_wp2_with fail
      refine (find_full F4.out hu4 k).mono ?_
      rintro e w5 ⟨y, there, rfl, hy, hfound, hb5⟩
      cases there with
      | true =>
        obtain ⟨v', hv, _⟩ := F4.out.rep.found_some hfound
        rw [HK.out] at hv
        cases hv
      | false =>
        obtain ⟨p, hp, hp1, hrep⟩ := F4.out.rep.put_new v hfound
        have h5f := F4.out.keep hb5
        have hs4 := hm4.size
        have hk5 : w5.heap[w.heap.size]? = w2.heap[w.heap.size]? := (hb5.block w.heap.size (by omega)).trans K4.out
        clear g0 g1 g2
        obtain ⟨g0, g1, g2⟩ := BX.out w5 hk5
        have HP := Lib.hid hp
        have HR := Lib.hid hrep
        have F5 := Lib.hid h5f
        clear hp hp1 hrep hk5 hfound h5f
        go_wp2_with fail
        refine (set_any t b4 ps4 n n y p ⟨1, k, v⟩ _ F5.out.lies (by omega) (by omega) (by omega) HP.out).mono ?_
        rintro e w6 ⟨rfl, hl6, hm6⟩
        go_wp2_with fail
        go_ret
        have hlen : (ps4.set y ⟨1, k, v⟩).length = ps4.length := List.length_set
        have h3m : Mut t b w w5 := ((hm0.below hb3).trans hm4 (.inl rfl)).below hb5
        refine ⟨rfl, b4, ⟨ps4.set y ⟨1, k, v⟩, _, ⟨hl6, by rw [hlen]; exact HR.out, by rw [hlen]; exact h4f.pow⟩, ?_, by omega⟩, .inr (by omega), h3m.trans hm6 (.inr (by omega))⟩
        rw [hlen]
        split <;> omega
    · obtain ⟨p, hp, hp1, hrep⟩ := HF.out.rep.put_new v HX.out
      have h3f := h2f.keep hb3
      have hlt := h1.lies.lt_t
      have hlb := h1.lies.lt_b
      have hs3 := hb3.size
      have hs2 := hb2.size
      have hs1 := hb1.size
      obtain ⟨g0, g1, g2⟩ : w3.cell? ⟨w.heap.size, 0, none⟩ = some (.int .i64 k.a) ∧ w3.cell? ⟨w.heap.size, 1, none⟩ = some (.int .i64 k.b) ∧ w3.cell? ⟨w.heap.size, 2, none⟩ = some (.int .i64 k.c) := by
        have hs : w.heap.size < w2.heap.size := by simp at hs2; omega
        exact ⟨(hb3.cell (p := ⟨w.heap.size, 0, none⟩) hs).trans k0, (hb3.cell (p := ⟨w.heap.size, 1, none⟩) hs).trans k1, (hb3.cell (p := ⟨w.heap.size, 2, none⟩) hs).trans k2⟩
      have HP := Lib.hid hp
      have HP1 := Lib.hid hp1
      have HR := Lib.hid hrep
      clear hp hp1 hrep k0 k1 k2
      go_wp2_with fail
      refine (set_any t b ps n u x p ⟨1, k, v⟩ _ h3f.lies (by omega) (by omega) (by omega) HP.out).mono ?_
      rintro e w4 ⟨rfl, hl4, hm4⟩
      go_wp2_with fail
      go_ret
      have hlen : (ps.set x ⟨1, k, v⟩).length = ps.length := List.length_set
      have h3m : Mut t b w w3 := hm0.below hb3
      refine ⟨rfl, b, ⟨ps.set x ⟨1, k, v⟩, _, ⟨hl4, by rw [hlen]; exact HR.out, by rw [hlen]; exact h1.pow⟩, ?_, by omega⟩, .inl rfl, h3m.trans hm4 (.inl rfl)⟩
      rw [hlen]
      split <;> omega
end Go.Proofs.Ytfdebadmikmnaaa
