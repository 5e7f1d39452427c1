/- Layer 7 (lay): Stacked and Woven: the names with a sign between. -/
import Derived.Test.YtimpfeadpcjlgaaDoorYPlace
namespace Go.Proofs.YtimpfeadpcjlgaaDoor
open Go.ChangeShapes Go.WideShapes Go.ChangeAt Go.RowKit Go.Maps

theorem info_strY : (Tryd.prog.info? 9).map (fun i => (i.zero, i.size, i.bytes)) = some (some (.string ⟨#[]⟩), 1, 16) := by kernel_rfl
def strs (l : List ByteArray) : List Value := l.map Value.string
theorem strs_get {l : List ByteArray} {i : Nat} {x : ByteArray} (h : l[i]? = some x) : (strs l)[i]? = some (.string x) := by simp [strs, h]

/-- The names with a sign between. -/
def joinD (l : Doms) (c : UInt8) : ByteArray := ofBytes ([c].intercalate ((names l).map bytesOf))

theorem joined_len : ∀ (L : List (List UInt8)) (c : UInt8), (∀ x ∈ L, x.length ≤ 16) → ([c].intercalate L).length ≤ 17 * L.length
  | [], c, _ => by simp
  | [x], c, h => by have := h x (by simp); simp; omega
  | x :: y :: r, c, h => by
    have h1 := h x (by simp)
    have h2 := joined_len (y :: r) c (fun z hz => h z (by simp [hz]))
    rw [List.intercalate_cons_cons]
    simp only [List.length_append, List.length_cons, List.length_nil] at h2 ⊢
    omega

def JoinOut (l : Doms) (c : UInt8) (w : World) (e : Ending) (w' : World) : Prop := Below w.heap.size w w' ∧ ((Chk l ∧ e = .returned (.string (joinD l c))) ∨ (¬ Chk l ∧ e = .returned (.string ⟨#[]⟩)))

set_option maxRecDepth 100000 in
set_option maxHeartbeats 2000000 in
theorem joined_any {w : World} {A : Option Addr} {l : Doms} {c : Nat} (hr : DRd w A l) (hl : l.length ≤ 1000) (sg : UInt8) :
    Calls Tryd.prog 22 #[.slice A l.length c, .string ⟨#[sg]⟩] w (JoinOut l sg w) := by
  obtain ⟨i0, hi0, hz0, hz1, hz2⟩ := info_parts info_strY
  have CK := Lib.hid (check_any (c := c) hr hl)
  have HR := Lib.hid hr
  clear hr
  go_enter Tryd.func22, Tryd.ntmps22
  go_wp2_with fail
  refine CK.out.mono ?_
  rintro e w1 ⟨x, rfl, hx, hb1⟩
  have HB1 := Lib.hid hb1
  clear CK hb1
  rcases hx with ⟨rfl, hck⟩ | ⟨rfl, hck⟩
  · have HCK := Lib.hid hck
    clear hck
    have L32 := HCK.out.len
    go_wp2_with fail
    go_loopw [5, 7, 13] (fun lv _ iv wr => ∃ i : Nat, i ≤ l.length ∧ iv = .int .i64 (i : Int) ∧ wr.ownsRow w1.heap.size 9 1 lv i (strs (names (l.take i))) ∧ Below w1.heap.size w1 wr) (fun _ _ iv _ => l.length - (intOf iv).toNat)
    case atStart => exact ⟨0, Nat.zero_le _, rfl, World.ownsRow_nil _ _ _ _, Below.refl _ _⟩
    case round =>
      obtain ⟨i, hi, rfl, hown, hbel⟩ := hrel
      by_cases hlt : i < l.length
      · have hlt' : (i : Int) < l.length := by omega
        obtain ⟨⟨nm, z⟩, hd⟩ : ∃ d, l[i]? = some d := ⟨_, List.getElem?_eq_getElem hlt⟩
        rcases (HR.out.keep HB1.out) with hnil | ⟨db, off, rfl, hdb, hc⟩
        · rw [hnil] at hlt; simp at hlt
        obtain ⟨c1, c2⟩ := hc i nm z hd
        have c1 := (hbel.cell (p := ⟨db, _, none⟩) hdb).trans c1
        have c2 := (hbel.cell (p := ⟨db, _, none⟩) hdb).trans c2
        have hsz := hbel.size
        have SN : Hid (names (l.take (i + 1)) = names (l.take i) ++ [nm]) := Lib.hid (by rw [List.take_add_one, hd]; exact names_snoc _ _)
        have HB := Lib.hid hbel
        have OB := hown.lt
        clear hdb hc hd hbel
        go_wp2_with (at_builtin; refine wpList_append_own _ rfl _ _ 60 rfl w1.heap.size 9 i0 (.string ⟨#[]⟩) 1 16 Tryd.underlying60 hi0 hz0 hz1 hz2 rfl (by decide) _ _ _ rfl ((hown.alloc _).alloc _) ⟨wr.heap.size + 1, 0, none⟩ 1 1 [.string nm] rfl rfl ?c1 ?c2 ?c3 ?c4 ?c5 ?_)
        case c1 =>
          intro k u hu
          match k, hu with
          | 0, hu => simp at hu; subst hu; simp [Addr.add]
        case c2 => intro u hu; simp at hu; subst hu; rfl
        case c3 => (unfold maxLen) <;> omega
        case c4 => omega
        case c5 => simp <;> omega
        intro v5 w5 hown5 hgrow5 _
        have HO : Hid (w5.ownsRow w1.heap.size 9 1 v5 (i + 1) (strs (names (l.take (i + 1))))) := Lib.hid (by
          rw [SN.out]
          simpa [strs] using hown5)
        have B5 : Hid (Below w1.heap.size w1 w5) := Lib.hid (((HB.out.alloc hsz _).alloc (by simp; omega) _).grown hgrow5 (by simp; omega) (fun g hg => (OB g hg).1))
        clear hown5 hgrow5 hown OB
        go_wp2_with fail
        go_roundw
        case rel => exact ⟨i + 1, by omega, by go_num, HO.out, B5.out⟩
        case measure => simp [intOf]; omega
      · obtain rfl : i = l.length := by omega
        rw [List.take_length] at hown
        have NL : (names l).length = l.length := by simp [names]
        have JN : Hid (∀ A' c', u5 = .slice A' l.length c' → Calls Tryd.prog 27 #[.slice A' l.length c', .string ⟨#[sg]⟩] wr fun e w' => e = .returned (.string (joinD l sg)) ∧ Below wr.heap.size wr w') := Lib.hid (fun A' c' e => by
          subst e
          rcases hown.2 with ⟨e, h0⟩ | ⟨g, cap, cur, e, hg, hr, hn, hm, hs, ht⟩
          · injection e with e1 e2 e3
            subst e1 e3
            rw [h0]
            refine (Tryd.strings_Join_none none 0 ⟨#[sg]⟩ wr).mono ?_
            rintro e w' ⟨rfl, rfl⟩
            refine ⟨?_, Below.refl _ _⟩
            have : l = [] := List.length_eq_zero_iff.1 h0
            rw [this]; rfl
          · injection e with e1 e2 e3
            subst e1 e3
            have J := Tryd.strings_Join g 0 c' (names l) ⟨#[sg]⟩ wr (fun j x hx => by
              rw [Nat.zero_add, cell_of_row _ _ _ _ _ _ hr]
              have h2 := strs_get hx
              rw [← ht, List.getElem?_take] at h2
              split at h2
              · simpa using h2
              · cases h2) (row_lt hr) (by omega) (by omega) (by
              have := joined_len ((names l).map fun x => x.data.toList) sg (fun x hx => by
                obtain ⟨y, hy, rfl⟩ := List.mem_map.1 hx
                obtain ⟨d, hd, rfl⟩ := List.mem_map.1 hy
                have := namedB_size (HCK.out.each d hd).1
                rw [show d.1.data.toList = bytesOf d.1 from rfl, bytes_len]; exact this)
              rw [List.length_map, NL] at this
              show ([sg].intercalate _).length ≤ _
              omega)
            rw [NL] at J
            exact J)
        obtain ⟨A', c', hlv⟩ : ∃ A' c', u5 = .slice A' l.length c' := by
          rcases hown.2 with ⟨e, h0⟩ | ⟨g, cap, cur, e, _⟩
          · exact ⟨none, 0, by rw [h0]; exact e⟩
          · exact ⟨_, _, e⟩
        have JC := Lib.hid (JN.out A' c' hlv)
        have BF := Lib.hid (HB1.out.trans (hbel.mono HB1.out.size))
        subst hlv
        clear hown hbel JN hlt
        go_wp2_with fail
        refine JC.out.mono ?_
        rintro e w5 ⟨rfl, hb5⟩
        have B5 := Lib.hid (BF.out.trans (hb5.mono BF.out.size))
        clear hb5 JC
        go_wp2_with fail
        go_ret
        exact ⟨B5.out, .inl ⟨HCK.out, rfl⟩⟩
  · have HCK := Lib.hid hck
    clear hck
    go_wp2_with fail
    go_ret
    exact ⟨HB1.out, .inr ⟨HCK.out, rfl⟩⟩
end Go.Proofs.YtimpfeadpcjlgaaDoor
