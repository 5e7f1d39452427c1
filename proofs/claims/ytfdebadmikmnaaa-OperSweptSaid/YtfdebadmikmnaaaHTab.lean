/- Contracts of layer 2 (hash): Put, Get, Drop, Len, Clear. -/
import Derived.Test.YtfdebadmikmnaaaHReb
namespace Go.Proofs.Ytfdebadmikmnaaa
open Go.ChangeShapes Go.WideShapes Go.ChangeAt Go.RowKit

/-- The table at block t, its places in block b, says f of keys; n keys are there. -/
def Tab (w : World) (t b : Nat) (f : Key → Option Int) (n : Nat) : Prop :=
  ∃ ps u, Full w t b ps f n u ∧ 4 * u ≤ 3 * ps.length ∧ n ≤ 1048576

theorem Tab.keep {w w' : World} {t b : Nat} {f : Key → Option Int} {n : Nat} (h : Tab w t b f n) (hb : Below w.heap.size w w') : Tab w' t b f n := by
  obtain ⟨ps, u, h1, h2, h3⟩ := h
  exact ⟨ps, u, h1.keep hb, h2, h3⟩

theorem Tab.lt {w : World} {t b : Nat} {f : Key → Option Int} {n : Nat} (h : Tab w t b f n) : t < w.heap.size ∧ b < w.heap.size ∧ n ≤ 1048576 := by
  obtain ⟨ps, u, h1, _, h3⟩ := h
  exact ⟨h1.lies.lt_t, h1.lies.lt_b, h3⟩

/-- A table stays as it is, while another one turns. -/
theorem Tab.apart {w w' : World} {t b t' b' : Nat} {f : Key → Option Int} {n : Nat} (h : Tab w t b f n) (hm : Mut t' b' w w') (h1 : t ≠ t') (h2 : t ≠ b') (h3 : b ≠ t') (h4 : b ≠ b') : Tab w' t b f n := by
  obtain ⟨ps, u, h5, h6, h7⟩ := h
  exact ⟨ps, u, ⟨⟨(hm.block t h5.lies.lt_t h1 h2).trans h5.lies.head, (hm.block b h5.lies.lt_b h3 h4).trans h5.lies.row, h5.lies.ne⟩, h5.rep, h5.pow⟩, h6, h7⟩

theorem new_tab (w : World) : Calls Try.prog 39 #[] w fun e w' => ∃ t b, e = .returned (.pointer (some ⟨t, 0, none⟩)) ∧ Tab w' t b (fun _ => none) 0 ∧ Below w.heap.size w w' ∧ w.heap.size ≤ t ∧ w.heap.size ≤ b :=
  (new_any w).mono fun _ _ ⟨t, b, he, hf, hb, h1, h2⟩ => ⟨t, b, he, ⟨_, _, hf, by omega, by omega⟩, hb, h1, h2⟩



theorem get_none {w : World} {t b : Nat} {f : Key → Option Int} {n : Nat} (h : Tab w t b f n) (k : Key) (hk : f k = none) :
    Calls Try.prog 42 #[.pointer (some ⟨t, 0, none⟩), keyV k] w fun e w' => e = .returned (.tuple #[.int .i64 0, .int .i64 3]) ∧ Below w.heap.size w w' := by
  obtain ⟨ps, u, h1, h2, _⟩ := h
  have hl := h1.len
  have hu : u < ps.length := by omega
  have h1a := h1.keep ((Below.refl w.heap.size w).alloc (Nat.le_refl _) (.cells #[.int .i64 k.a, .int .i64 k.b, .int .i64 k.c] 22))
  obtain ⟨c0, c1, c2, c3⟩ := h1a.lies.tops
  have H := Lib.hid (given_yes t _ c0)
  have H2 := Lib.hid (find_full h1a hu k)
  have HK := Lib.hid hk
  have HF := Lib.hid h1
  clear hk c0 c1 c2 c3
  unfold keyV
  go_enter Try.func42, Try.ntmps42
  go_wp2_with fail
  refine H.out.mono ?_
  rintro e w' ⟨rfl, rfl⟩
  go_wp2_with fail
  refine H2.out.mono ?_
  rintro e w2 ⟨x, there, rfl, hx, hfound, hb2⟩
  cases there with
  | true =>
    obtain ⟨v', hv, _⟩ := HF.out.rep.found_some hfound
    rw [HK.out] at hv
    cases hv
  | false =>
    clear hfound
    go_wp2_with fail
    go_ret2
    exact ⟨rfl, ((Below.refl _ _).alloc (Nat.le_refl _) _).trans (hb2.mono (by simp))⟩

theorem get_some {w : World} {t b : Nat} {f : Key → Option Int} {n : Nat} (h : Tab w t b f n) (k : Key) (v : Int) (hk : f k = some v) :
    Calls Try.prog 42 #[.pointer (some ⟨t, 0, none⟩), keyV k] w fun e w' => e = .returned (.tuple #[.int .i64 v, .int .i64 0]) ∧ Below w.heap.size w w' := by
  obtain ⟨ps, u, h1, h2, _⟩ := h
  have hl := h1.len
  have hu : u < ps.length := by omega
  have h1a := h1.keep ((Below.refl w.heap.size w).alloc (Nat.le_refl _) (.cells #[.int .i64 k.a, .int .i64 k.b, .int .i64 k.c] 22))
  obtain ⟨c0, c1, c2, c3⟩ := h1a.lies.tops
  have H := Lib.hid (given_yes t _ c0)
  have H2 := Lib.hid (find_full h1a hu k)
  have HK := Lib.hid hk
  have HF := Lib.hid h1
  have HF1 := Lib.hid h1a
  clear hk c0 c1 c2 c3
  unfold keyV
  go_enter Try.func42, Try.ntmps42
  go_wp2_with fail
  refine H.out.mono ?_
  rintro e w' ⟨rfl, rfl⟩
  go_wp2_with fail
  refine H2.out.mono ?_
  rintro e w2 ⟨x, there, rfl, hx, hfound, hb2⟩
  cases there with
  | false =>
    have := HF.out.rep.found_none hfound
    rw [HK.out] at this
    cases this
  | true =>
    obtain ⟨v', hv, hp⟩ := HF.out.rep.found_some hfound
    rw [HK.out] at hv
    obtain rfl : v = v' := by injection hv
    have hl2 := HF1.out.lies.keep hb2
    obtain ⟨c0, c1, c2, c3⟩ := hl2.tops
    obtain ⟨d0, d1, d2, d3, d4⟩ := hl2.cells hp
    clear hfound hv hp
    go_wp2_with fail
    go_ret2
    exact ⟨rfl, ((Below.refl _ _).alloc (Nat.le_refl _) _).trans (hb2.mono (by simp))⟩

end Go.Proofs.Ytfdebadmikmnaaa
