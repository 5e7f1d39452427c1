/- Layer 7 (lay): Check: whether domains may be. -/
import Derived.Test.YtimpfeadpcjlgaaDoorYPlaces
namespace Go.Proofs.YtimpfeadpcjlgaaDoor
open Go.ChangeShapes Go.WideShapes Go.ChangeAt Go.RowKit Go.Maps

/-- A domain by itself may be. -/
def Good (d : ByteArray × Int) : Prop := namedB d.1 = true ∧ 1 ≤ d.2 ∧ d.2 ≤ 1073741824
structure Chk (l : Doms) : Prop where
  len : l.length ≤ 32
  each : ∀ d ∈ l, Good d
  once : (names l).Nodup
  sum : sumW l ≤ 256

theorem namedB_size {s : ByteArray} (h : namedB s = true) : s.size ≤ 16 := by
  unfold namedB at h
  simp at h
  exact h.1.2

def ChkOut (l : Doms) (w : World) (e : Ending) (w' : World) : Prop := ∃ x : Int, e = .returned (.int .i64 x) ∧ ((x = 0 ∧ Chk l) ∨ (x = 1 ∧ ¬ Chk l)) ∧ Below w.heap.size w w'

set_option maxRecDepth 100000 in
set_option maxHeartbeats 2000000 in
theorem check_any {w : World} {A : Option Addr} {l : Doms} {c : Nat} (hr : DRd w A l) (hl : l.length ≤ 1000) :
    Calls Tryd.prog 7 #[.slice A l.length c] w (ChkOut l w) := by
  have HR := Lib.hid hr
  clear hr
  by_cases h32 : l.length ≤ 32
  · have h32' : (l.length : Int) ≤ 32 := by omega
    go_enter Tryd.func7, Tryd.ntmps7
    go_wp2_with fail
    go_loopw [4, 10] (fun _ iv wr => ∃ i : Nat, i ≤ l.length ∧ iv = .int .i64 (i : Int) ∧ (∀ d ∈ l.take i, Good d) ∧ Below w.heap.size w wr) (fun _ iv _ => l.length - (intOf iv).toNat)
    case atStart => exact ⟨0, by omega, rfl, by simp, Below.refl _ _⟩
    case round =>
      obtain ⟨i, hi, rfl, hg, hbel⟩ := hrel
      have HB := Lib.hid hbel
      have HG := Lib.hid hg
      by_cases hlt : i < l.length
      · have hlt' : (i : Int) < l.length := by omega
        obtain ⟨⟨s, z⟩, hd⟩ : ∃ d, l[i]? = some d := ⟨_, List.getElem?_eq_getElem hlt⟩
        rcases HR.out with hnil | ⟨b, off, rfl, hb, hc⟩
        · rw [hnil] at hlt; simp at hlt
        obtain ⟨c1, c2⟩ := hc i s z hd
        have c1 := (hbel.cell (p := ⟨b, _, none⟩) hb).trans c1
        have c2 := (hbel.cell (p := ⟨b, _, none⟩) hb).trans c2
        have NA := Lib.hid (fun w => named_any s w)
        have HD := Lib.hid hd
        have b1 : Hid (Below w.heap.size w (wr.alloc (.cells #[.string s, .int .i64 z] 28))) := Lib.hid (hbel.alloc hbel.size _)
        have bad : Hid (¬ Good (s, z) → ¬ Chk l) := Lib.hid (fun h k => h (k.each _ (List.mem_of_getElem? HD.out)))
        clear hb hc hbel hd hg
        by_cases hn : namedB s = true
        · by_cases h1 : 1 ≤ z
          · by_cases h2 : z ≤ 1073741824
            · have NX : Hid (∀ d ∈ l.take (i + 1), Good d) := Lib.hid (fun d hd => by
                rw [List.take_add_one, HD.out] at hd
                rcases List.mem_append.1 hd with h | h
                · exact HG.out d h
                · simp at h; subst h; exact ⟨hn, h1, h2⟩)
              go_wp2_with fail
              refine (NA.out _).mono ?_
              rintro e w3 ⟨rfl, rfl⟩
              rw [hn]
              clear NA
              go_wp2_with fail
              go_roundw
              case rel => exact ⟨i + 1, by omega, by go_num, NX.out, b1.out⟩
              case measure => simp [intOf]; omega
            · have h2' : (1073741824 : Int) < z := by omega
              have BD : Hid (¬ Chk l) := Lib.hid (bad.out (fun h => h2 h.2.2))
              go_wp2_with fail
              refine (NA.out _).mono ?_
              rintro e w3 ⟨rfl, rfl⟩
              rw [hn]
              clear NA
              go_wp2_with fail
              go_ret
              exact ⟨1, rfl, .inr ⟨rfl, BD.out⟩, b1.out⟩
          · have h1' : z < 1 := by omega
            have BD : Hid (¬ Chk l) := Lib.hid (bad.out (fun h => h1 h.2.1))
            go_wp2_with fail
            refine (NA.out _).mono ?_
            rintro e w3 ⟨rfl, rfl⟩
            rw [hn]
            clear NA
            go_wp2_with fail
            go_ret
            exact ⟨1, rfl, .inr ⟨rfl, BD.out⟩, b1.out⟩
        · have BD : Hid (¬ Chk l) := Lib.hid (bad.out (fun h => hn h.1))
          have hn' : namedB s = false := by simpa using hn
          go_wp2_with fail
          refine (NA.out _).mono ?_
          rintro e w3 ⟨rfl, rfl⟩
          rw [hn']
          clear NA
          go_wp2_with fail
          go_ret
          exact ⟨1, rfl, .inr ⟨rfl, BD.out⟩, b1.out⟩
      · obtain rfl : i = l.length := by omega
        rw [List.take_length] at hg
        have PL := Lib.hid (places_any (c := c) (HR.out.keep hbel) hl (fun d hd => by have := namedB_size (hg d hd).1; omega))
        have GA := Lib.hid hg
        clear hlt hbel hg HG
        go_wp2_with fail
        refine PL.out.mono ?_
        rintro e w3 ⟨b, F, n, rfl, -, hm, hp, hb3⟩
        have hlen := hm.len
        have hple := hp.le
        have B3 := Lib.hid (HB.out.trans (hb3.mono HB.out.size))
        have ON := Lib.hid hp.once
        clear hb3 hm hp PL
        by_cases hon : n = l.length
        · subst hon
          have TG := Lib.hid (tog_any (c := c) (HR.out.keep B3.out) hl (fun d hd => (GA.out d hd).2))
          go_wp2_with fail
          refine TG.out.mono ?_
          rintro e w4 ⟨rfl, hb4⟩
          have B4 := Lib.hid (B3.out.trans (hb4.mono B3.out.size))
          clear hb4 TG
          by_cases hs : sumW l ≤ 256
          · have hs' : ((sumW l : Nat) : Int) ≤ 256 := by omega
            have CK : Hid (Chk l) := Lib.hid ⟨h32, GA.out, ON.out.2 (by first | rfl | trivial), hs⟩
            go_wp2_with fail
            go_ret
            exact ⟨0, rfl, .inl ⟨rfl, CK.out⟩, B4.out⟩
          · have hs' : (256 : Int) < ((sumW l : Nat) : Int) := by omega
            have CK : Hid (¬ Chk l) := Lib.hid (fun h => hs h.sum)
            go_wp2_with fail
            go_ret
            exact ⟨1, rfl, .inr ⟨rfl, CK.out⟩, B4.out⟩
        · have hlt2 : (n : Int) < l.length := by omega
          have CK : Hid (¬ Chk l) := Lib.hid (fun h => hon (ON.out.1 h.once))
          go_wp2_with fail
          go_ret
          exact ⟨1, rfl, .inr ⟨rfl, CK.out⟩, B3.out⟩
  · have h32' : (32 : Int) < l.length := by omega
    have CK : Hid (¬ Chk l) := Lib.hid (fun h => h32 h.len)
    go_enter Tryd.func7, Tryd.ntmps7
    go_wp2_with fail
    go_ret
    exact ⟨1, rfl, .inr ⟨rfl, CK.out⟩, Below.refl _ _⟩
end Go.Proofs.YtimpfeadpcjlgaaDoor
