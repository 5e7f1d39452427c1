/- Layer 7 (lay): Place: where each bit of each domain stands. -/
import Derived.Test.YtimpfeadpcjlgaaDoorYSeq
namespace Go.Proofs.YtimpfeadpcjlgaaDoor
open Go.ChangeShapes Go.WideShapes Go.ChangeAt Go.RowKit Go.Maps

def widL (l : Doms) : List Nat := l.map fun d => wid d.2

/-- What Place answers where all is right. -/
def PlaceYes (l : Doms) (s : ByteArray) (e : Ending) (w' : World) : Prop :=
  ∃ (F : ByteArray → Option Nat) (gs : List (List Nat)) (F' : ByteArray → Option Nat) (R : List (List Nat)) (b : Nat) (bl : List Nat),
    PlF l F l.length ∧ groupsN F (textsOf s) = some (gs, F') ∧ lens gs = l.length ∧ e = .returned (.tuple #[.slice (some ⟨b, 0, none⟩) l.length l.length, .int .i64 0]) ∧
    VR w' b bl R ∧ R.map List.length = widL l ∧ Filled R (seqAll (widL l) gs)
def PlaceNo (l : Doms) (s : ByteArray) (e : Ending) : Prop :=
  e = .returned (.tuple #[.slice none 0 0, .int .i64 70]) ∧ ∃ F, PlF l F l.length ∧ (groupsN F (textsOf s) = none ∨ ∃ gs F', groupsN F (textsOf s) = some (gs, F') ∧ lens gs ≠ l.length)
def PlaceOut (l : Doms) (s : ByteArray) (w : World) (e : Ending) (w' : World) : Prop :=
  Below w.heap.size w w' ∧ ((¬ Chk l ∧ e = .returned (.tuple #[.slice none 0 0, .int .i64 1])) ∨ (Chk l ∧ (PlaceYes l s e w' ∨ PlaceNo l s e)))

theorem run_make_rows (N : Nat) (hN : N ≤ 1000000) (w : World) :
    (Instr.makeSlice 29 (.int .i64 (N : Int)) (.int .i64 (N : Int))).run Tryd.prog w = .ok (.slice (some ⟨w.heap.size, 0, none⟩) N N) (w.alloc (.cells (Array.replicate N (Value.slice none 0 0)) 36)) := by
  obtain ⟨i, hi, hz, hz1, hz2⟩ := info_parts info_rowY
  have hb : (i.bytes : Int) * (N : Int) ≤ 281474976710656 := by rw [hz2]; omega
  have hr := run_make (P := Tryd.prog) w 29 36 i _ Tryd.underlying29 hi hz .i64 .i64 N N (by omega) (by omega) hb (by omega)
  rw [hz1] at hr
  simp only [Int.toNat_natCast] at hr
  rw [Nat.mul_one] at hr
  have e : ∀ v : Value, Array.replicate N v = (List.replicate N v).toArray := fun v => by simp
  rw [e, ← toList_madeCells_one, Array.toArray_toList]
  exact hr
theorem run_make_ints (N : Nat) (hN : N ≤ 1000000) (w : World) :
    (Instr.makeSlice 36 (.int .i64 (N : Int)) (.int .i64 (N : Int))).run Tryd.prog w = .ok (.slice (some ⟨w.heap.size, 0, none⟩) N N) (w.alloc (.cells (nats (List.replicate N 0)).toArray 3)) := by
  obtain ⟨i, hi, hz, hz1, hz2⟩ := info_parts info_intY
  have hb : (i.bytes : Int) * (N : Int) ≤ 281474976710656 := by rw [hz2]; omega
  have hr := run_make (P := Tryd.prog) w 36 3 i _ Tryd.underlying36 hi hz .i64 .i64 N N (by omega) (by omega) hb (by omega)
  rw [hz1] at hr
  simp only [Int.toNat_natCast] at hr
  rw [Nat.mul_one] at hr
  rw [show (nats (List.replicate N 0)).toArray = (List.replicate N (Value.int .i64 0)).toArray by simp [nats], ← toList_madeCells_one, Array.toArray_toList]
  exact hr

/-- Rows made so far: of the first i domains. -/
structure Mk (w : World) (b n : Nat) (bl : List Nat) (R : List (List Nat)) : Prop where
  len : bl.length = R.length
  out : ∃ cs : List Value, w.heap[b]? = some (.cells cs.toArray 36 (0, 0)) ∧ cs.length = n ∧ ∀ (i g : Nat) (r : List Nat), bl[i]? = some g → R[i]? = some r → cs[i]? = some (.slice (some ⟨g, 0, none⟩) r.length r.length)
  row : ∀ (i g : Nat) (r : List Nat), bl[i]? = some g → R[i]? = some r → w.heap[g]? = some (.cells (nats r).toArray 3 (0, 0))
  nodup : bl.Nodup
  ne : b ∉ bl

theorem Mk.vr {w : World} {b n : Nat} {bl : List Nat} {R : List (List Nat)} (h : Mk w b n bl R) : VR w b bl R := by
  obtain ⟨cs, h1, h2, h3⟩ := h.out
  exact ⟨h.len, fun i g r hg hr => by rw [cell_of_row _ _ _ _ _ _ h1]; simpa using h3 i g r hg hr, h.row, h.nodup, h.ne, row_lt h1⟩

theorem groupsN_ne : ∀ (p : List ByteArray) (F F' : ByteArray → Option Nat) (gs : List (List Nat)), groupsN F p = some (gs, F') → ∀ g ∈ gs, 1 ≤ g.length
  | [], F, F', gs, h, g, hg => by
    simp only [groupsN, Option.some.injEq, Prod.mk.injEq] at h
    obtain ⟨rfl, rfl⟩ := h
    cases hg
  | t :: ts, F, F', gs, h, g, hg => by
    simp only [groupsN] at h
    cases ht : takeN F (splitS 42 t) with
    | none => rw [ht] at h; cases h
    | some z =>
      obtain ⟨g1, F1⟩ := z
      rw [ht] at h
      simp only at h
      cases hr : groupsN F1 ts with
      | none => rw [hr] at h; cases h
      | some y =>
        obtain ⟨l, F2⟩ := y
        rw [hr] at h
        simp only [Option.some.injEq, Prod.mk.injEq] at h
        obtain ⟨rfl, rfl⟩ := h
        rcases List.mem_cons.1 hg with rfl | hg
        · rw [takeN_len _ _ _ _ ht]
          unfold splitS
          rw [List.length_map]
          exact List.length_pos_iff.2 (splitB_ne 42 _)
        · exact groupsN_ne ts _ _ _ hr g hg

theorem lens_mem {g : List Nat} : ∀ {gs : List (List Nat)}, g ∈ gs → g.length ≤ lens gs
  | a :: r, h => by
    show g.length ≤ a.length + lens r
    rcases List.mem_cons.1 h with rfl | h
    · omega
    · have := lens_mem h; omega
theorem lens_ge : ∀ {gs : List (List Nat)}, (∀ g ∈ gs, 1 ≤ g.length) → gs.length ≤ lens gs
  | [], _ => Nat.zero_le _
  | a :: r, h => by
    show r.length + 1 ≤ a.length + lens r
    have h1 := h a (by simp)
    have h2 := lens_ge (gs := r) (fun g hg => h g (by simp [hg]))
    omega

/-- Rows of numbers, opened. -/
theorem GRows.opened {w : World} {B : Nat} {v : Value} {gs : List (List Nat)} (h : GRows w B v gs) (hne : ∀ g ∈ gs, 1 ≤ g.length) : ∃ A c, v = .slice A gs.length c ∧ ∀ (j : Nat) g, gs[j]? = some g → ∃ vb gb gc, A = some ⟨vb, 0, none⟩ ∧ vb < w.heap.size ∧ gb < w.heap.size ∧ w.cell? ⟨vb, j, none⟩ = some (.slice (some ⟨gb, 0, none⟩) g.length gc) ∧ ∀ (k x : Nat), g[k]? = some x → w.cell? ⟨gb, 0 + k, none⟩ = some (.int .i64 (x : Int)) := by
  obtain ⟨vs, h1, h2⟩ := h
  rcases h1.2 with ⟨rfl, h0⟩ | ⟨vb, cap, cur, rfl, hg, hr, hn, hm, hs, ht⟩
  · refine ⟨none, 0, by rw [h0], fun j g hj => ?_⟩
    rw [List.length_eq_zero_iff.1 h0] at hj
    simp at hj
  · refine ⟨_, cap, rfl, fun j g hj => ?_⟩
    obtain ⟨u, e1, e2⟩ := h2 j g hj
    have g1 := hne g (List.mem_of_getElem? hj)
    rcases e2.2 with ⟨_, e0⟩ | ⟨gb, gcap, gcur, rfl, _, gr, _, _, _, gt⟩
    · omega
    · refine ⟨vb, gb, gcap, rfl, row_lt hr, row_lt gr, ?_, fun k x hk => ?_⟩
      · rw [cell_of_row _ _ _ _ _ _ hr]
        rw [← ht, List.getElem?_take] at e1
        split at e1
        · simpa using e1
        · cases e1
      · rw [Nat.zero_add, cell_of_row _ _ _ _ _ _ gr]
        have hk2 := nats_get hk
        rw [← gt, List.getElem?_take] at hk2
        split at hk2
        · simpa using hk2
        · cases hk2

theorem seqAll_prefix {wl : List Nat} {gs : List (List Nat)} {j : Nat} {g : List Nat} (hj : gs[j]? = some g) : seqAll wl (gs.take j) ++ seqG wl g <+: seqAll wl gs := by
  have : gs.take (j + 1) = gs.take j ++ [g] := by rw [List.take_add_one, hj]; rfl
  rw [← seqAll_snoc, ← this]
  refine ⟨seqAll wl (gs.drop (j + 1)), ?_⟩
  unfold seqAll
  rw [← List.flatMap_append, List.take_append_drop]

theorem Mk.push {w w' : World} {b n g : Nat} {bl : List Nat} {R : List (List Nat)} {r : List Nat} (h : Mk w b n bl R) (hlt : R.length < n)
    (hb : ∀ cs : List Value, w.heap[b]? = some (.cells cs.toArray 36 (0, 0)) → w'.heap[b]? = some (.cells (cs.set R.length (.slice (some ⟨g, 0, none⟩) r.length r.length)).toArray 36 (0, 0)))
    (hg : w'.heap[g]? = some (.cells (nats r).toArray 3 (0, 0))) (ho : ∀ i, i < w.heap.size → i ≠ b → w'.heap[i]? = w.heap[i]?) (hgn : w.heap.size ≤ g) : Mk w' b n (bl ++ [g]) (R ++ [r]) := by
  obtain ⟨cs, h1, h2, h3⟩ := h.out
  have blt : ∀ x ∈ bl, x < w.heap.size := fun x hx => h.vr.lt hx
  have last : ∀ (i q : Nat) (s : List Nat), (bl ++ [g])[i]? = some q → (R ++ [r])[i]? = some s → (i < R.length ∧ bl[i]? = some q ∧ R[i]? = some s) ∨ (i = R.length ∧ q = g ∧ s = r) := fun i q s e1 e2 => by
    have hl := h.len
    by_cases hi : i < R.length
    · rw [List.getElem?_append_left (by omega)] at e1
      rw [List.getElem?_append_left hi] at e2
      exact .inl ⟨hi, e1, e2⟩
    · rw [List.getElem?_append_right (by omega)] at e1
      rw [List.getElem?_append_right (by omega)] at e2
      have h0 : i - R.length = 0 := by
        rcases Nat.eq_zero_or_pos (i - R.length) with h | h
        · exact h
        · rw [List.getElem?_eq_none (by simp; omega)] at e2; cases e2
      rw [show i - bl.length = 0 by omega] at e1
      rw [h0] at e2
      simp at e1 e2
      exact .inr ⟨by omega, e1.symm, e2.symm⟩
  refine ⟨by simp [h.len], ⟨_, hb cs h1, by simpa using h2, fun i q s e1 e2 => ?_⟩, fun i q s e1 e2 => ?_, ?_, ?_⟩
  · rcases last i q s e1 e2 with ⟨hi, e3, e4⟩ | ⟨rfl, rfl, rfl⟩
    · rw [List.getElem?_set_ne (by omega)]; exact h3 i q s e3 e4
    · rw [List.getElem?_set_self (by omega)]
  · rcases last i q s e1 e2 with ⟨hi, e3, e4⟩ | ⟨rfl, rfl, rfl⟩
    · have hq := blt q (List.mem_of_getElem? e3)
      exact (ho q hq (fun e => h.ne (by rw [← e]; exact List.mem_of_getElem? e3))).trans (h.row i q s e3 e4)
    · exact hg
  · exact List.nodup_append.2 ⟨h.nodup, by simp, fun a ha c hc e => by simp at hc; subst hc; subst e; have := blt a ha; omega⟩
  · intro hm
    rcases List.mem_append.1 hm with h4 | h4
    · exact h.ne h4
    · simp at h4; have := row_lt h1; omega

set_option maxRecDepth 100000 in
set_option maxHeartbeats 4000000 in
theorem place_any {w : World} {A : Option Addr} {l : Doms} {c : Nat} (hr : DRd w A l) (hl : l.length ≤ 1000) {s : ByteArray} (hs : s.size ≤ 1048576) :
    Calls Tryd.prog 9 #[.slice A l.length c, .string s] w (PlaceOut l s w) := by
  have CK := Lib.hid (check_any (c := c) hr hl)
  have HR := Lib.hid hr
  clear hr
  go_enter Tryd.func9, Tryd.ntmps9
  go_wp2_with fail
  refine CK.out.mono ?_
  rintro e w1 ⟨x, rfl, hx, hb1⟩
  have HB1 := Lib.hid hb1
  clear CK hb1
  rcases hx with ⟨rfl, hck⟩ | ⟨rfl, hck⟩
  · have GR := Lib.hid (groups_any (c := c) (HR.out.keep HB1.out) hck hs)
    have HCK := Lib.hid hck
    clear hck
    go_wp2_with fail
    refine GR.out.mono ?_
    rintro e w2 ⟨F, hp, hb2, (⟨gs, F', v, hgn, rfl, hle, hrow⟩ | ⟨hgn, rfl⟩)⟩
    · have HB2 := Lib.hid (HB1.out.trans (hb2.mono HB1.out.size))
      have HP := Lib.hid hp
      have HGN := Lib.hid hgn
      have HROW := Lib.hid hrow
      clear GR hb2 hp hgn hrow
      by_cases he : lens gs = l.length
      · have hd : decide (lens gs = l.length) = true := decide_eq_true he
        rw [hd]
        have hmk := run_make_rows l.length (by omega)
        obtain ⟨b, hb⟩ : ∃ b, b = w2.heap.size := ⟨_, rfl⟩
        have M0 : Mk (w2.alloc (.cells (Array.replicate l.length (Value.slice none 0 0)) 36)) b l.length [] [] :=
          ⟨rfl, ⟨List.replicate l.length (Value.slice none 0 0), by rw [hb, heap_alloc_new]; simp, by simp, fun i g r h => by simp at h⟩, fun i g r h => by simp at h, List.nodup_nil, by simp⟩
        have HM0 := Lib.hid M0
        have B2 : Hid (Below w2.heap.size w2 (w2.alloc (.cells (Array.replicate l.length (Value.slice none 0 0)) 36))) := Lib.hid ((Below.refl _ _).alloc (Nat.le_refl _) _)
        have HBB := Lib.hid hb
        clear M0
        go_wp2_with fail
        rw [← hb]
        clear hb
        go_loopw [10, 11, 33] (fun _ _ iv wr => ∃ (i : Nat) (bl : List Nat), i ≤ l.length ∧ iv = .int .i64 (i : Int) ∧ Mk wr b l.length bl ((l.take i).map fun d => List.replicate (wid d.2) 0) ∧ (∀ x ∈ bl, b ≤ x) ∧ Below b w2 wr ∧ b < wr.heap.size) (fun _ _ iv _ => l.length - (intOf iv).toNat)
        case atStart => exact ⟨0, [], Nat.zero_le _, rfl, HM0.out, by simp, by rw [HBB.out]; exact B2.out, by rw [HBB.out]; simp⟩
        case round =>
          obtain ⟨i, bl, hi, rfl, hmk2, hbl, hbel, hbs⟩ := hrel
          have HMK := Lib.hid hmk2
          have HBL := Lib.hid hbl
          have HBEL := Lib.hid hbel
          clear hmk2 hbl hbel
          by_cases hlt : i < l.length
          · have hlt' : (i : Int) < l.length := by omega
            obtain ⟨⟨nm, z⟩, hd⟩ : ∃ d, l[i]? = some d := ⟨_, List.getElem?_eq_getElem hlt⟩
            rcases (HR.out.keep HB2.out) with hnil | ⟨db, off, hA, hdb, hc⟩
            · rw [hnil] at hlt; simp at hlt
            subst hA
            obtain ⟨c1, c2⟩ := hc i nm z hd
            have c1 := (HBEL.out.cell (p := ⟨db, _, none⟩) (by rw [HBB.out]; exact hdb)).trans c1
            have c2 := (HBEL.out.cell (p := ⟨db, _, none⟩) (by rw [HBB.out]; exact hdb)).trans c2
            obtain ⟨-, n1, n2⟩ := HCK.out.each (nm, z) (List.mem_of_getElem? hd)
            have WA := Lib.hid (fun w => width_any (s := nm) n1 n2 w)
            have wz := wid_le n2
            have hmi := run_make_ints (wid z) (by show wid z ≤ _; have : wid z ≤ 30 := wz; omega)
            have hlr : ((l.take i).map fun d => List.replicate (wid d.2) 0).length = i := by simp; omega
            obtain ⟨cs, hcs, hcl, -⟩ := HMK.out.out
            obtain ⟨w5, hw5⟩ : ∃ w5, w5 = (wr.alloc (.cells #[.string nm, .int .i64 z] 28)).alloc (.cells #[.string nm, .int .i64 z] 28) := ⟨_, rfl⟩
            have hz5 : w5.heap.size = wr.heap.size + 2 := by rw [hw5]; simp
            have k5 : ∀ i o, wr.heap[i]? = some o → w5.heap[i]? = some o := fun i o h => by rw [hw5]; exact at_old (at_old h)
            have hcs6 : (w5.alloc (.cells (nats (List.replicate (wid z) 0)).toArray 3)).heap[b]? = some (.cells cs.toArray 36 (0, 0)) := at_old (k5 _ _ hcs)
            obtain ⟨u0, hu0⟩ : ∃ u, cs[i]? = some u := ⟨_, List.getElem?_eq_getElem (by omega)⟩
            have cb : (w5.alloc (.cells (nats (List.replicate (wid z) 0)).toArray 3)).cell? ⟨b, i, none⟩ = some u0 := by rw [cell_of_row _ _ _ _ _ _ hcs6]; simpa using hu0
            have fb := frozen_of_row _ _ i _ _ hcs6
            have hbi : (i : Int) < l.length := hlt'
            obtain ⟨w7, hw7⟩ : ∃ w7, w7 = (w5.alloc (.cells (nats (List.replicate (wid z) 0)).toArray 3)).setCell ⟨b, i, none⟩ (.slice (some ⟨w5.heap.size, 0, none⟩) (wid z) (wid z)) := ⟨_, rfl⟩
            have bs5 : b < wr.heap.size := hbs
            have MK7 : Hid (Mk w7 b l.length (bl ++ [w5.heap.size]) ((l.take (i + 1)).map fun d => List.replicate (wid d.2) 0)) := Lib.hid (by
              have e : (l.take (i + 1)).map (fun d => List.replicate (wid d.2) 0) = ((l.take i).map fun d => List.replicate (wid d.2) 0) ++ [List.replicate (wid z) 0] := by rw [List.take_add_one, hd]; simp
              rw [e]
              refine HMK.out.push (g := w5.heap.size) (by rw [hlr]; exact hlt) (fun cs' h => ?_) ?_ (fun j hj hjb => ?_) (by rw [hz5]; omega)
              · rw [hlr, hw7, heap_setCell_same _ _ _ _ _ _ (at_old (k5 _ _ h))]
                rw [List.length_replicate]
                simp
              · rw [hw7]; exact (Below.heap_setCell _ ⟨b, i, none⟩ _ _ (by show w5.heap.size ≠ b; omega)).trans (heap_alloc_new w5 _)
              · rw [hw7]
                refine (Below.heap_setCell _ ⟨b, i, none⟩ _ _ hjb).trans ?_
                obtain ⟨o, ho⟩ : ∃ o, wr.heap[j]? = some o := ⟨_, Array.getElem?_eq_getElem hj⟩
                rw [ho]; exact at_old (k5 _ _ ho))
            have B7 : Hid (Below b w2 w7) := Lib.hid (by
              rw [hw7, hw5]
              exact (((HBEL.out.alloc (by omega) _).alloc (by simp; omega) _).alloc (by simp; omega) _).setCell (p := ⟨b, i, none⟩) (Nat.le_refl _) _)
            have Z7 : Hid (b < w7.heap.size) := Lib.hid (by rw [hw7]; simp [World.setCell]; omega)
            have L7 : Hid (∀ x ∈ bl ++ [w5.heap.size], b ≤ x) := Lib.hid (fun x hx => by
              rcases List.mem_append.1 hx with h | h
              · exact HBL.out x h
              · simp at h; omega)
            have HW5 := Lib.hid hw5.symm
            rw [hz5] at hw7
            have HW7 := Lib.hid hw7.symm
            clear hdb hc hd n1 n2 hcs hcl hcs6 k5 hw5 hw7 hu0 hlr
            go_wp2_with fail
            refine (WA.out _).mono ?_
            rintro e w' ⟨rfl, hw'⟩
            obtain rfl : w' = w5 := hw'.trans HW5.out
            clear hw' WA
            go_wp2_with fail
            first
              | (rw [HW7.out]; exact ⟨⟨i + 1, _, by omega, by go_num, MK7.out, L7.out, B7.out, Z7.out⟩, by simp [intOf]; omega⟩)
              | (go_roundw
                 case rel => rw [HW7.out]; exact ⟨i + 1, _, by omega, by go_num, MK7.out, L7.out, B7.out, Z7.out⟩
                 case measure => simp [intOf]; omega)
              | fail
          · obtain rfl : i = l.length := by omega
            have VR0 := HMK.out.vr
            rw [List.take_length] at VR0
            obtain ⟨R0, hR0⟩ : ∃ R0 : List (List Nat), R0 = l.map fun d => List.replicate (wid d.2) 0 := ⟨_, rfl⟩
            rw [← hR0] at VR0
            have W0 : R0.map List.length = widL l := by rw [hR0]; unfold widL; simp
            have NE := groupsN_ne _ _ _ _ HGN.out
            obtain ⟨vA, vc, rfl, hop⟩ := HROW.out.opened NE
            obtain ⟨ND, RG⟩ := groupsN_inv _ _ _ _ (HP.out.inj HCK.out.once) HGN.out
            have W30 : ∀ x ∈ widL l, x ≤ 30 := fun x hx => by
              unfold widL at hx
              obtain ⟨d, hd, rfl⟩ := List.mem_map.1 hx
              exact wid_le (HCK.out.each d hd).2.2
            have GL := lens_ge NE
            have GL' : (gs.length : Int) ≤ 32 := by have := HCK.out.len; omega
            have HVR0 := Lib.hid VR0
            have HW0 := Lib.hid W0
            have HOP := Lib.hid hop
            have HNE := Lib.hid NE
            have HND := Lib.hid (seqAll_nodup (wl := widL l) ND)
            have HRG := Lib.hid RG
            have HW30 := Lib.hid W30
            have HLN := Lib.hid he
            have L32 := HCK.out.len
            rename World => wq
            clear VR0 W0 hop NE ND RG W30 hR0 hmk
            go_wp2_with fail
            go_loopw [12, 14, 47] (fun nv _ iv wr => ∃ (j : Nat) (R : List (List Nat)), j ≤ gs.length ∧ iv = .int .i64 (j : Int) ∧ nv = .int .i64 ((seqAll (widL l) (gs.take j)).length : Nat) ∧ VR wr b bl R ∧ R.map List.length = widL l ∧ Filled R (seqAll (widL l) (gs.take j)) ∧ Turn (fun i => i ∈ bl) wq wr) (fun _ _ iv _ => gs.length - (intOf iv).toNat)
            case atStart => exact ⟨0, R0, Nat.zero_le _, rfl, by simp [seqAll], HVR0.out, HW0.out, fun pos i bit h => by simp [seqAll] at h, Turn.refl _ _⟩
            case round =>
              obtain ⟨j, R, hj, rfl, rfl, hvr, hwr, hfl, htn⟩ := hrel
              by_cases hjl : j < gs.length
              · have hjl' : (j : Int) < gs.length := by omega
                have hj32 : (j : Int) ≤ 32 := by omega
                obtain ⟨g, hg⟩ : ∃ g, gs[j]? = some g := ⟨_, List.getElem?_eq_getElem hjl⟩
                obtain ⟨vb, gb, gc, rfl, hvb, hgb, hcv, hcg⟩ := HOP.out j g hg
                have hb2 := HBB.out
                have nvb : vb ∉ bl := fun h => by have := HBL.out vb h; omega
                have ngb : gb ∉ bl := fun h => by have := HBL.out gb h; omega
                have cv := htn.cell (p := ⟨vb, j, none⟩) ((HBEL.out.cell (p := ⟨vb, j, none⟩) (by show vb < b; omega)).trans hcv) nvb
                have hpre := seqAll_prefix (wl := widL l) hg
                have SNX : Hid (seqAll (widL l) (gs.take (j + 1)) = seqAll (widL l) (gs.take j) ++ seqG (widL l) g) := Lib.hid (by rw [← seqAll_snoc, List.take_add_one, hg]; rfl)
                have hlen := Nat.le_trans hpre.length_le (seqAll_len HW30.out gs)
                have hgl : g.length ≤ lens gs := lens_mem (List.mem_of_getElem? hg)
                have GV := Lib.hid (give_any (n := l.length) (c := gc) (gb := gb) (goff := 0) (g := g) (P := seqAll (widL l) (gs.take j)) hvr hwr (by have := congrArg List.length hwr; unfold widL at this; simp at this; omega) (by omega) HW30.out
                  (fun k x hk => ⟨htn.cell (p := ⟨gb, 0 + k, none⟩) ((HBEL.out.cell (p := ⟨gb, 0 + k, none⟩) (by show gb < b; omega)).trans (hcg k x hk)) ngb, HP.out.lt HCK.out.once (HRG.out x (List.mem_flatten.2 ⟨g, List.mem_of_getElem? hg, List.mem_of_getElem? hk⟩))⟩) ngb (by omega) hfl (by omega) (List.Nodup.sublist hpre.sublist HND.out))
                have HT := Lib.hid htn
                clear hg hvb hgb hcv hcg nvb ngb hpre hlen hgl hvr hwr hfl htn hb2
                go_wp2_with fail
                refine GV.out.mono ?_
                rintro e w9 ⟨R9, rfl, v9, l9, f9, t9⟩
                have V9 := Lib.hid v9
                have L9 := Lib.hid l9
                have F9 := Lib.hid f9
                have T9 : Hid (Turn (fun i => i ∈ bl) wq w9) := Lib.hid (HT.out.trans t9 (fun i hi => .inl hi))
                clear v9 l9 f9 t9 GV
                go_wp2_with fail
                go_roundw
                case rel => exact ⟨j + 1, R9, by omega, by go_num, by rw [SNX.out, List.length_append]; go_num, V9.out, L9.out, by rw [SNX.out]; exact F9.out, T9.out⟩
                case measure => simp [intOf]; omega
              · obtain rfl : j = gs.length := by omega
                rw [List.take_length] at hfl
                have BF : Hid (Below w.heap.size w wr) := Lib.hid (Turn.to_below (HB2.out.trans (HBEL.out.mono (by have := HB2.out.size; have := HBB.out; omega))) htn (fun i hi => by have := HBL.out i hi; have := HB2.out.size; have := HBB.out; omega) (by have := HB2.out.size; have := HBB.out; omega))
                go_wp2_with fail
                go_ret2
                exact ⟨BF.out, .inr ⟨HCK.out, .inl ⟨F, gs, F', R, b, bl, HP.out, HGN.out, HLN.out, rfl, hvr, hwr, hfl⟩⟩⟩
      · have hd : decide (lens gs = l.length) = false := decide_eq_false he
        rw [hd]
        go_wp2_with fail
        go_ret2
        exact ⟨HB2.out, .inr ⟨HCK.out, .inr ⟨rfl, F, HP.out, .inr ⟨gs, F', HGN.out, he⟩⟩⟩⟩
    · have HB2 := Lib.hid (HB1.out.trans (hb2.mono HB1.out.size))
      have HP := Lib.hid hp
      clear GR hb2 hp
      go_wp2_with fail
      go_ret2
      exact ⟨HB2.out, .inr ⟨HCK.out, .inr ⟨rfl, F, HP.out, .inl hgn⟩⟩⟩
  · have HCK := Lib.hid hck
    clear hck
    go_wp2_with fail
    go_ret2
    exact ⟨HB1.out, .inl ⟨HCK.out, rfl⟩⟩
end Go.Proofs.YtimpfeadpcjlgaaDoor
