/- Layer 7 (lay): places: of each name where its domain stands in a list. -/
import Derived.Test.YtimpfeadpcjlgaaDoorYMap
namespace Go.Proofs.YtimpfeadpcjlgaaDoor
open Go.ChangeShapes Go.WideShapes Go.ChangeAt Go.RowKit Go.Maps

def names (l : Doms) : List ByteArray := l.map fun d => d.1
theorem names_snoc (l : Doms) (d : ByteArray × Int) : names (l ++ [d]) = names l ++ [d.1] := by simp [names]

/-- What the map of places is: it has the names of l; n of them; where no name is there twice, each at its place. -/
structure PlF (l : Doms) (F : ByteArray → Option Nat) (n : Nat) : Prop where
  has : ∀ s, (F s).isSome = true ↔ s ∈ names l
  le : n ≤ l.length
  once : (names l).Nodup ↔ n = l.length
  at_ : (names l).Nodup → ∀ (i : Nat) d, l[i]? = some d → F d.1 = some i

theorem PlF.nil : PlF [] (fun _ => none) 0 := ⟨fun s => by simp [names], Nat.le_refl _, by simp [names], fun _ i d h => by simp at h⟩
theorem PlF.snoc {l : Doms} {F : ByteArray → Option Nat} {n : Nat} (h : PlF l F n) (d : ByteArray × Int) : PlF (l ++ [d]) (putF F d.1 (some l.length)) (if (F d.1).isSome then n else n + 1) := by
  have hh := h.has d.1
  have hle := h.le
  have hon := h.once
  refine ⟨fun s => ?_, ?_, ?_, fun hn i e hi => ?_⟩
  · unfold putF
    rw [names_snoc]
    by_cases e : s = d.1
    · subst e; rw [if_pos rfl]; simp
    · rw [if_neg e, h.has]; simp [e]
  · rw [List.length_append]; simp; split <;> omega
  · rw [names_snoc, List.nodup_append, List.length_append]
    simp only [List.length_cons, List.length_nil]
    by_cases hm : d.1 ∈ names l
    · rw [if_pos (hh.2 hm)]
      constructor
      · rintro ⟨_, _, h3⟩; exact absurd rfl (h3 _ hm _ (by simp))
      · intro h4; omega
    · rw [if_neg (fun e => hm (hh.1 e))]
      constructor
      · rintro ⟨h1, _, _⟩; rw [hon.1 h1]
      · intro h4
        exact ⟨hon.2 (by omega), by simp, fun a ha b hb e => by simp at hb; subst hb; subst e; exact hm ha⟩
  · rw [names_snoc, List.nodup_append] at hn
    obtain ⟨h1, _, h3⟩ := hn
    unfold putF
    by_cases hlt : i < l.length
    · rw [List.getElem?_append_left hlt] at hi
      have hm : e.1 ∈ names l := List.mem_map.2 ⟨e, List.mem_of_getElem? hi, rfl⟩
      rw [if_neg (fun e' => h3 _ hm _ (by simp) e'), h.at_ h1 i e hi]
    · rw [List.getElem?_append_right (by omega)] at hi
      obtain ⟨rfl, rfl⟩ : i = l.length ∧ e = d := by
        have : i - l.length = 0 := by
          rcases Nat.eq_zero_or_pos (i - l.length) with h | h
          · exact h
          · rw [List.getElem?_eq_none (by simp; omega)] at hi; cases hi
        rw [this] at hi
        simp at hi
        exact ⟨by omega, hi.symm⟩
      rw [if_pos rfl]

set_option maxRecDepth 100000 in
set_option maxHeartbeats 1000000 in
theorem places_any {w : World} {A : Option Addr} {l : Doms} {c : Nat} (hr : DRd w A l) (hl : l.length ≤ 1000) (hs : ∀ d ∈ l, d.1.size ≤ 1048576) :
    Calls Tryd.prog 16 #[.slice A l.length c] w fun e w' => ∃ (b : Nat) (F : ByteArray → Option Nat) (n : Nat), e = .returned (.map (some b)) ∧ w.heap.size ≤ b ∧ SMap w' b F n l.length ∧ PlF l F n ∧ Below w.heap.size w w' := by
  have HR := Lib.hid hr
  have HS := Lib.hid hs
  have hmm := @run_makeMap Tryd.prog
  clear hr hs
  go_enter Tryd.func16, Tryd.ntmps16
  go_wp2_with fail
  go_loopw [4, 5, 9] (fun _ _ iv wr => ∃ (i : Nat) (F : ByteArray → Option Nat) (n : Nat), i ≤ l.length ∧ iv = .int .i64 (i : Int) ∧ SMap wr w.heap.size F n i ∧ PlF (l.take i) F n ∧ Below w.heap.size w wr) (fun _ _ iv _ => l.length - (intOf iv).toNat)
  case atStart => exact ⟨0, _, _, by omega, rfl, SMap.made w, PlF.nil, (Below.refl _ _).alloc (Nat.le_refl _) _⟩
  case round =>
    obtain ⟨i, F, n, hi, rfl, hm, hp, hbel⟩ := hrel
    have HB := Lib.hid hbel
    by_cases hlt : i < l.length
    · have hlt' : (i : Int) < l.length := by omega
      obtain ⟨⟨s, z⟩, hd⟩ : ∃ d, l[i]? = some d := ⟨_, List.getElem?_eq_getElem hlt⟩
      rcases HR.out with hnil | ⟨b, off, rfl, hb, hc⟩
      · rw [hnil] at hlt; simp at hlt
      obtain ⟨c1, c2⟩ := hc i s z hd
      have c1 := (hbel.cell (p := ⟨b, _, none⟩) hb).trans c1
      have c2 := (hbel.cell (p := ⟨b, _, none⟩) hb).trans c2
      have b1 : Below wr.heap.size wr (wr.alloc (.cells #[.string s, .int .i64 z] 28)) := (Below.refl _ _).alloc (Nat.le_refl _) _
      obtain ⟨w3, hrun, hm3, hg3⟩ := (hm.keep b1).put (s := s) (HS.out (s, z) (List.mem_of_getElem? hd)) (k := i) (by omega) (by omega)
      have hp3 := hp.snoc (s, z)
      rw [List.length_take, Nat.min_eq_left hi] at hp3
      have NX : Hid (PlF (l.take (i + 1)) (putF F s (some i)) (if (F s).isSome then n else n + 1)) := Lib.hid (by rw [List.take_add_one, hd]; exact hp3)
      have HM3 := Lib.hid hm3
      have B3 : Hid (Below w.heap.size w w3) := Lib.hid ((HB.out.trans (b1.mono HB.out.size)).grown hg3 (by have := HB.out.size; simp; omega) (fun k e => by injection e with e; omega))
      clear hb hc hbel hd hm hp hp3 hm3 hg3 b1
      go_wp2_with fail
      go_roundw
      case rel => exact ⟨i + 1, _, _, by omega, by go_num, HM3.out, NX.out, B3.out⟩
      case measure => simp [intOf]; omega
    · obtain rfl : i = l.length := by omega
      rw [List.take_length] at hp
      go_wp2_with fail
      go_ret
      exact ⟨_, F, n, rfl, Nat.le_refl _, hm, hp, HB.out⟩
end Go.Proofs.YtimpfeadpcjlgaaDoor
