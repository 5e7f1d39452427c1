/- Contracts of layer 4 (oper): refusal. -/
import Derived.Test.YtfdebadmikmnaaaOAnswer
namespace Go.Proofs.Ytfdebadmikmnaaa
open Go.ChangeShapes Go.WideShapes Go.ChangeAt Go.RowKit Go.Maps

def RefOut (cs : List Nd) (xs : List Int) (w : World) (e : Ending) (w' : World) : Prop := e = .returned (.int .i64 (if xs.all (thereB cs) then 0 else 3)) ∧ Below w.heap.size w w'

theorem all_stop {cs : List Nd} {xs : List Int} {i : Nat} {x : Int} (hi : xs[i]? = some x) (h : thereB cs x = false) : xs.all (thereB cs) = false := by
  cases hh : xs.all (thereB cs) with
  | false => rfl
  | true =>
    have := List.all_eq_true.1 hh x (List.mem_of_getElem? hi)
    rw [h] at this
    cases this

theorem all_done {cs : List Nd} {xs : List Int} (h : ∀ j x, j < xs.length → xs[j]? = some x → thereB cs x = true) : xs.all (thereB cs) = true := by
  rw [List.all_eq_true]
  intro x hx
  obtain ⟨j, hj⟩ := List.getElem?_of_mem hx
  exact h j x (List.getElem?_eq_some_iff.1 hj).1 hj

set_option maxRecDepth 100000 in
set_option maxHeartbeats 1600000 in
theorem refusal_any {w : World} {m : Mem} {h : Hd} {cs : List Nd} {o : Nat} {mb : Option Nat} (r : OSt w m h cs o mb) {g c : Nat} {xs : List Int} (hl : xs.length ≤ 1000) (hg : g < w.heap.size)
    (hx : ∀ (i : Nat) (x : Int), xs[i]? = some x → w.cell? ⟨g, i, none⟩ = some (.int .i64 x)) :
    Calls Try.prog 45 #[.pointer (some ⟨o, 0, none⟩), .slice (some ⟨g, 0, none⟩) xs.length c] w (RefOut cs xs w) := by
  obtain ⟨d, mp, sw, ha⟩ := r.head
  have GV := Lib.hid (given_ops ha)
  have LL := Lib.hid fun (w' : World) (hb : Below w.heap.size w w') => r.st.lay.keep hb
  have OC := Lib.hid fun (w' : World) (hb : Below w.heap.size w w') => (ha.keep hb).c1
  have HX := Lib.hid hx
  have HG := Lib.hid hg
  clear ha hx hg r
  go_enter Try.func45, Try.ntmps45
  go_wp2_with fail
  refine GV.out.mono ?_
  rintro e w' ⟨rfl, rfl⟩
  go_wp2_with fail
  go_loopw [16] (fun ix wr => ∃ i : Nat, i ≤ xs.length ∧ ix = .int .i64 i ∧ (∀ j x, j < i → xs[j]? = some x → thereB cs x = true) ∧ Below w.heap.size w wr) (fun ix _ => xs.length - (intOf ix).toNat)
  case atStart => exact ⟨0, Nat.zero_le _, rfl, fun j x hj => by omega, Below.refl _ _⟩
  case round =>
    obtain ⟨i, hi, rfl, hall, hb⟩ := hrel
    have HA := Lib.hid hall
    have HB := Lib.hid hb
    clear hall
    by_cases hlt : i < xs.length
    · obtain ⟨x, hxi⟩ : ∃ x, xs[i]? = some x := ⟨_, List.getElem?_eq_getElem hlt⟩
      have cx := (hb.cell (p := ⟨g, i, none⟩) HG.out).trans (HX.out i x hxi)
      have oc := OC.out _ hb
      have XI := Lib.hid hxi
      have L1 := LL.out _ hb
      clear hxi hb
      cases ht : thereB cs x with
      | true =>
        obtain ⟨k, cn, rfl, hk⟩ := thereB_true ht
        have NY := Lib.hid (node_yes L1 hk)
        unfold ptrV at NY
        have HT := Lib.hid ht
        clear ht L1 hk
        go_wp2_with fail
        refine NY.out.mono ?_
        rintro e w1 ⟨rfl, dn, rfl⟩
        go_wp2_with fail
        go_roundw
        case rel =>
          refine ⟨i + 1, by omega, by go_num, fun j y hj hy => ?_, HB.out.trans ((below_drewN0 _ dn).mono HB.out.size)⟩
          rcases (by omega : j < i ∨ j = i) with h1 | rfl
          · exact HA.out j y h1 hy
          · rw [XI.out] at hy
            injection hy with hy
            rw [← hy]
            exact HT.out
        case measure => simp [intOf]; omega
      | false =>
        have NN := Lib.hid (node_no L1 x ht)
        unfold ptrV at NN
        have HT := Lib.hid (all_stop XI.out ht)
        clear ht L1
        go_wp2_with fail
        refine NN.out.mono ?_
        rintro e w1 ⟨rfl, rfl⟩
        go_wp2_with fail
        go_ret
        exact ⟨by rw [HT.out]; rfl, HB.out⟩
    · obtain rfl : i = xs.length := by omega
      have HT := Lib.hid (all_done HA.out)
      clear HA hb
      go_wp2_with fail
      go_ret
      exact ⟨by rw [HT.out]; rfl, HB.out⟩
end Go.Proofs.Ytfdebadmikmnaaa
