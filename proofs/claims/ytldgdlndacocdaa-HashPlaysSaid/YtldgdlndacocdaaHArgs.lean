/- Layer 2's laws: keys that come in, by value and in slices; a table that nobody made. -/
import Derived.Test.YtldgdlndacocdaaHAwake
import Derived.Deep.Slices
import Derived.Deep.RegionHeld3
namespace Go.Proofs.Ytldgdlndacocdaa
open Go.ChangeShapes Go.WideShapes Go.ChangeAt Go.RowKit

theorem okWide_array {P : Program} {w : World} {r : Reach} {base : Nat} {t : TypeId} {v : Value} {n : Nat} {e : TypeId} (ht : P.underlying t = some (.array n e)) (h : Value.okWide P w r base t v) : ∃ cs, v = .agg cs ∧ cs.size = P.cellsOf t := by
  simp only [Value.okWide, ht] at h
  obtain ⟨cs, h1, h2, _⟩ := h
  exact ⟨cs, h1, h2⟩

theorem cells_int : Try.prog.cellsOf 3 = 1 := by kernel_rfl
theorem cells_key : Try.prog.cellsOf 29 = 3 := by kernel_rfl

def keyC (k : Key) : List Value := [.int .i64 k.a, .int .i64 k.b, .int .i64 k.c]

section
variable {H : Type} {enc : TypeId × Value → H} {w : World} {base : Nat} {spare : Nat → Bool} {held : Bool}

theorem trod_key {fuel : Nat} {cs : List Value} {x : DataW H × List MemPlace} (h : DataW.trod enc Try.prog w base spare held fuel 29 cs = some x) : ∃ k : Key, cs = keyC k := by
  obtain ⟨xs, m, _, _, hl, hx, hi⟩ := DataW.trod_array Try.underlying29 h
  rw [cells_key] at hl
  match cs, hl with
  | [c0, c1, c2], _ =>
    have h0 := hi 0 (by omega)
    have h1 := hi 1 (by omega)
    have h2 := hi 2 (by omega)
    rw [cells_int] at h0 h1 h2
    rw [List.getElem?_eq_getElem (by omega)] at h0 h1 h2
    obtain ⟨a, e0, _⟩ := DataW.trod_int Try.underlying3 h0
    obtain ⟨b, e1, _⟩ := DataW.trod_int Try.underlying3 h1
    obtain ⟨c, e2, _⟩ := DataW.trod_int Try.underlying3 h2
    simp at e0 e1 e2
    exact ⟨⟨a, b, c⟩, by rw [e0, e1, e2]; rfl⟩

theorem arg_key {r : Reach} {b0 : Nat} {v : Value} {d : DataW H} {p : List MemPlace} (h : DataW.Trod enc Try.prog w base spare held 29 v d p) (hv : Value.okWide Try.prog w r b0 29 v) : ∃ k : Key, v = keyV k := by
  obtain ⟨cs, rfl, _⟩ := okWide_array Try.underlying29 hv
  obtain ⟨fuel, hf⟩ := h
  obtain ⟨k, hk⟩ := trod_key hf
  refine ⟨k, ?_⟩
  simp only [Value.cells] at hk
  unfold keyV
  congr 1
  apply Array.toList_inj.1
  exact hk
end

/-! ### A table that nobody made -/
def NB (w : World) (pv : Value) : Prop := pv = .pointer none ∨ ∃ t, pv = .pointer (some ⟨t, 0, none⟩) ∧ w.cell? ⟨t, 0, none⟩ = some (.pointer none)

theorem NB.alloc {w : World} {pv : Value} (h : NB w pv) (o : Obj) : NB (w.alloc o) pv := by
  rcases h with h | ⟨t, e, hc⟩
  · exact .inl h
  · exact .inr ⟨t, e, (World.cell?_alloc_lt w o ⟨t, 0, none⟩ (block_lt_of_cell hc)).trans hc⟩

theorem given_nb {w : World} {pv : Value} (h : NB w pv) : Calls Try.prog 21 #[pv] w fun e w' => e = .returned (.bool false) ∧ w = w' := by
  rcases h with rfl | ⟨t, rfl, hc⟩
  · exact given_nil w
  · exact given_no t w hc

theorem len_nb {w : World} {pv : Value} (h : NB w pv) : Calls Try.prog 17 #[pv] w fun e w' => e = .returned (.int .i64 0) ∧ w = w' := by
  have H := Lib.hid (given_nb h)
  clear h
  go_enter Try.func17, Try.ntmps17
  go_wp2_with fail
  refine H.out.mono ?_
  rintro e w' ⟨rfl, rfl⟩
  go_wp2_with fail
  go_ret
  exact ⟨rfl, rfl⟩

theorem clear_nb {w : World} {pv : Value} (h : NB w pv) : Calls Try.prog 16 #[pv] w fun e w' => e = .returned (.int .i64 1) ∧ w = w' := by
  have H := Lib.hid (given_nb h)
  clear h
  go_enter Try.func16, Try.ntmps16
  go_wp2_with fail
  refine H.out.mono ?_
  rintro e w' ⟨rfl, rfl⟩
  go_wp2_with fail
  go_ret
  exact ⟨rfl, rfl⟩

def boxK (k : Key) : Obj := .cells #[.int .i64 k.a, .int .i64 k.b, .int .i64 k.c] 29

theorem get_nb {w : World} {pv : Value} (k : Key) (h : NB w pv) : Calls Try.prog 12 #[pv, keyV k] w fun e w' => e = .returned (.tuple #[.int .i64 0, .int .i64 1]) ∧ Below w.heap.size w w' := by
  have H := Lib.hid (given_nb (h.alloc (boxK k)))
  clear h
  unfold keyV
  go_enter Try.func12, Try.ntmps12
  go_wp2_with fail
  refine H.out.mono ?_
  rintro e w' ⟨rfl, rfl⟩
  go_wp2_with fail
  go_ret2
  exact ⟨rfl, (Below.refl _ _).alloc (Nat.le_refl _) _⟩

theorem put_nb {w : World} {pv : Value} (k : Key) (n : Int) (h : NB w pv) : Calls Try.prog 11 #[pv, keyV k, .int .i64 n] w fun e w' => e = .returned (.int .i64 1) ∧ Below w.heap.size w w' := by
  have H := Lib.hid (given_nb (h.alloc (boxK k)))
  clear h
  unfold keyV
  go_enter Try.func11, Try.ntmps11
  go_wp2_with fail
  refine H.out.mono ?_
  rintro e w' ⟨rfl, rfl⟩
  go_wp2_with fail
  go_ret
  exact ⟨rfl, (Below.refl _ _).alloc (Nat.le_refl _) _⟩

theorem drop_nb {w : World} {pv : Value} (k : Key) (h : NB w pv) : Calls Try.prog 15 #[pv, keyV k] w fun e w' => e = .returned (.bool false) ∧ Below w.heap.size w w' := by
  have H := Lib.hid (given_nb (h.alloc (boxK k)))
  clear h
  unfold keyV
  go_enter Try.func15, Try.ntmps15
  go_wp2_with fail
  refine H.out.mono ?_
  rintro e w' ⟨rfl, rfl⟩
  go_wp2_with fail
  go_ret
  exact ⟨rfl, (Below.refl _ _).alloc (Nat.le_refl _) _⟩

end Go.Proofs.Ytldgdlndacocdaa
