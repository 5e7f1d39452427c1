/- Layer 7 (lay): the groups of an order. -/
import Derived.Test.YtimpfeadpcjlgaaDoorYCut
namespace Go.Proofs.YtimpfeadpcjlgaaDoor
open Go.ChangeShapes Go.WideShapes Go.ChangeAt Go.RowKit Go.Maps

/-- The groups' texts of an order. -/
def textsOf (s : ByteArray) : List ByteArray := if s.size = 0 then [] else splitS 95 s

theorem headT_split (s : ByteArray) : splitS 95 s = (headT s).1 :: (if (headT s).2.2 then splitS 95 (headT s).2.1 else []) := by
  unfold headT
  by_cases h : Lib.indexByte (bytesOf s) 95 = -1
  · rw [if_pos h]
    exact splitS_none h
  · rw [if_neg h]
    obtain ⟨i, hi⟩ : ∃ i : Nat, Lib.indexByte (bytesOf s) 95 = (i : Int) := ⟨(Lib.indexByte (bytesOf s) 95).toNat, by have := indexByte_lo 95 (bytesOf s); omega⟩
    rw [(splitS_at hi).2, hi]
    rfl
theorem headT_less {s : ByteArray} (h : (headT s).2.2 = true) : (headT s).2.1.size < s.size := by
  unfold headT at h ⊢
  by_cases h2 : Lib.indexByte (bytesOf s) 95 = -1
  · rw [if_pos h2] at h; cases h
  · rw [if_neg h2]
    obtain ⟨i, hi⟩ : ∃ i : Nat, Lib.indexByte (bytesOf s) 95 = (i : Int) := ⟨(Lib.indexByte (bytesOf s) 95).toNat, by have := indexByte_lo 95 (bytesOf s); omega⟩
    have := (splitS_at hi).1
    rw [hi]
    show (ofBytes _).size < s.size
    rw [← bytes_len, bytes_of, List.length_drop, bytes_len]
    omega

/-- The groups, one text after another. -/
def groupsN (F : ByteArray → Option Nat) : List ByteArray → Option (List (List Nat) × (ByteArray → Option Nat))
  | [] => some ([], F)
  | t :: ts => match takeN F (splitS 42 t) with
    | none => none
    | some (g, F') => match groupsN F' ts with
      | none => none
      | some (l, F2) => some (g :: l, F2)

theorem groupsN_snoc : ∀ (p : List ByteArray) (F : ByteArray → Option Nat) (x : ByteArray), groupsN F (p ++ [x]) = match groupsN F p with
    | none => none
    | some (l, F') => match takeN F' (splitS 42 x) with
      | none => none
      | some (g, F2) => some (l ++ [g], F2)
  | [], F, x => by
    show groupsN F [x] = _
    simp only [groupsN]
    cases takeN F (splitS 42 x) with
    | none => rfl
    | some z => rfl
  | s :: r, F, x => by
    show groupsN F (s :: (r ++ [x])) = _
    simp only [groupsN]
    cases takeN F (splitS 42 s) with
    | none => rfl
    | some z =>
      obtain ⟨g, F'⟩ := z
      simp only
      rw [groupsN_snoc r]
      cases groupsN F' r with
      | none => rfl
      | some y =>
        obtain ⟨l, F2⟩ := y
        simp only
        cases takeN F2 (splitS 42 x) with
        | none => rfl
        | some z => rfl
theorem groupsN_prefix {F : ByteArray → Option Nat} {p q : List ByteArray} (hpq : p <+: q) (h : groupsN F p = none) : groupsN F q = none := by
  obtain ⟨t, rfl⟩ := hpq
  induction t generalizing p with
  | nil => rw [List.append_nil]; exact h
  | cons x t ih =>
    rw [show p ++ x :: t = (p ++ [x]) ++ t by simp]
    refine ih ?_
    rw [groupsN_snoc, h]

/-- Rows of numbers, all the call's own. -/
def GRows (w : World) (B : Nat) (v : Value) (l : List (List Nat)) : Prop :=
  ∃ vs : List Value, w.ownsRow B 36 1 v l.length vs ∧ ∀ (i : Nat) g, l[i]? = some g → ∃ u, vs[i]? = some u ∧ w.ownsRow B 3 1 u g.length (nats g)
theorem GRows.nil (w : World) (B : Nat) : GRows w B (.slice none 0 0) [] := ⟨[], World.ownsRow_nil _ _ _ _, fun i g h => by simp at h⟩
theorem GRows.turn {own : Nat → Prop} {w w' : World} {B : Nat} {v : Value} {l : List (List Nat)} (h : GRows w B v l) (ht : Turn own w w') (ho : ∀ i, own i → i < B) : GRows w' B v l := by
  obtain ⟨vs, h1, h2⟩ := h
  exact ⟨vs, own_turn h1 ht ho, fun i g hg => by
    obtain ⟨u, e1, e2⟩ := h2 i g hg
    exact ⟨u, e1, own_turn e2 ht ho⟩⟩
theorem own_lower {w : World} {B B' : Nat} {v : Value} {n : Nat} {xs : List Value} {e : TypeId} (h : w.ownsRow B e 1 v n xs) (hb : B' ≤ B) : w.ownsRow B' e 1 v n xs := by
  refine ⟨h.1, ?_⟩
  rcases h.2 with h | ⟨g, cap, cur, e, hg, hr⟩
  · exact .inl h
  · exact .inr ⟨g, cap, cur, e, Nat.le_trans hb hg, hr⟩
theorem GRows.lower {w : World} {B B' : Nat} {v : Value} {l : List (List Nat)} (h : GRows w B v l) (hb : B' ≤ B) : GRows w B' v l := by
  obtain ⟨vs, h1, h2⟩ := h
  exact ⟨vs, own_lower h1 hb, fun i g hg => by
    obtain ⟨u, e1, e2⟩ := h2 i g hg
    exact ⟨u, e1, own_lower e2 hb⟩⟩

def lens (l : List (List Nat)) : Nat := (l.map List.length).sum
theorem lens_snoc (l : List (List Nat)) (g : List Nat) : lens (l ++ [g]) = lens l + g.length := by unfold lens; simp

def moreAt (w : World) (bM bR : Nat) : Nat := match w.cell? ⟨bM, 0, none⟩ with
  | some (.bool true) => strAt w bR + 1
  | _ => 0

theorem GS.moreAt {w : World} {bR bM bL m : Nat} {r : ByteArray} {mo : Bool} {F : ByteArray → Option Nat} {k c : Nat} (h : GS w bR bM bL m r mo F k c) : moreAt w bM bR = if mo then r.size + 1 else 0 := by
  have c1 := cell_of_row _ _ 0 _ _ _ h.r
  have c2 := cell_of_row _ _ 0 _ _ _ h.mo
  simp only [List.getElem?_toArray, List.getElem?_cons_zero] at c1 c2
  unfold _root_.Go.Proofs.YtimpfeadpcjlgaaDoor.moreAt strAt
  rw [c1, c2]
  cases mo <;> rfl
theorem own_grown {w w' : World} {o : Obj} {B B' n n' : Nat} {v lv : Value} {xs ys : List Value} {e e' : TypeId} (h : w.ownsRow B e 1 v n xs) (hl : w.ownsRow B' e' 1 lv n' ys) (hne : e ≠ e') (hg : (w.alloc o).grownBy w' lv.ownBlock) : w'.ownsRow B e 1 v n xs := by
  refine ⟨h.1, ?_⟩
  rcases h.2 with h | ⟨g, cap, cur, ee, hg2, hr, hx⟩
  · exact .inl h
  · refine .inr ⟨g, cap, cur, ee, hg2, (hg.block g (by have := row_lt hr; simp; omega) (fun h2 => ?_)).trans (at_old hr), hx⟩
    rcases hl.2 with ⟨rfl, _⟩ | ⟨g2, cap2, cur2, rfl, _, hr2, _⟩
    · simp [Value.ownBlock] at h2
    · simp [Value.ownBlock] at h2
      subst h2
      rw [hr] at hr2
      injection hr2 with hr2
      injection hr2 with _ h3
      exact hne h3

theorem info_rowY : (Tryd.prog.info? 36).map (fun i => (i.zero, i.size, i.bytes)) = some (some (.slice none 0 0), 1, 24) := by kernel_rfl

theorem toList_empty (s : ByteArray) : s.toList.isEmpty = decide (s.size = 0) := by
  rw [show s.toList = bytesOf s from ByteArray.toList_eq s, ← bytes_len]
  cases bytesOf s <;> simp

def GrOut (l : Doms) (s : ByteArray) (w : World) (e : Ending) (w' : World) : Prop :=
  ∃ F, PlF l F l.length ∧ Below w.heap.size w w' ∧
    ((∃ (gs : List (List Nat)) (F' : ByteArray → Option Nat) (v : Value), groupsN F (textsOf s) = some (gs, F') ∧ e = .returned (.tuple #[v, .bool (decide (lens gs = l.length))]) ∧ lens gs ≤ l.length ∧ GRows w' w.heap.size v gs) ∨
     (groupsN F (textsOf s) = none ∧ e = .returned (.tuple #[.slice none 0 0, .bool false])))

set_option maxRecDepth 100000 in
set_option maxHeartbeats 4000000 in
theorem groups_any {w : World} {A : Option Addr} {l : Doms} {c : Nat} (hr : DRd w A l) (hck : Chk l) {s : ByteArray} (hs : s.size ≤ 1048576) :
    Calls Tryd.prog 19 #[.slice A l.length c, .string s] w (GrOut l s w) := by
  obtain ⟨i0, hi0, hz0, hz1, hz2⟩ := info_parts info_rowY
  have PL := Lib.hid (places_any (c := c) hr (by have := hck.len; omega) (fun d hd => by have := namedB_size (hck.each d hd).1; omega))
  have CK := Lib.hid hck
  have hmf : ∀ (fn : Fn) (first cap : Array Value) (w : World), (Instr.makeFunc fn first cap).run Tryd.prog w = .ok (.func fn first cap) w := fun _ _ _ _ => rfl
  clear hr hck
  go_enter Tryd.func19, Tryd.ntmps19
  go_wp2_with fail
  refine PL.out.mono ?_
  rintro e w1 ⟨m, F, n, rfl, hmb, hm, hp, hb⟩
  obtain rfl := hp.once.1 CK.out.once
  have HP := Lib.hid hp
  have HM := Lib.hid hm
  have HB := Lib.hid hb
  have HMB := Lib.hid hmb
  clear PL hm hb hmb
  have EM : ∃ mo : Bool, mo = !s.toList.isEmpty ∧ textsOf s = if mo then splitS 95 s else [] := by
    refine ⟨_, rfl, ?_⟩
    unfold textsOf
    by_cases h0 : s.size = 0
    · have : s.toList.isEmpty = true := by rw [toList_empty]; simp [h0]
      rw [if_pos h0, this]; rfl
    · have : s.toList.isEmpty = false := by rw [toList_empty]; simp [h0]
      rw [if_neg h0, this]; rfl
  obtain ⟨mo, hmo, htx⟩ := EM
  have HTX := Lib.hid htx
  have HMO := Lib.hid hmo.symm
  obtain ⟨w2, hw2⟩ : ∃ w2, w2 = ((w1.alloc (.cells #[.map (some m)] 44)).alloc (.cells #[.string s] 9)).alloc (.cells #[.bool mo] 4) := ⟨_, rfl⟩
  obtain ⟨N, hN⟩ : ∃ N, N = w1.heap.size := ⟨_, rfl⟩
  have hz2 : w2.heap.size = N + 3 := by rw [hw2, hN]; simp
  have lm := HM.out.lt_b
  have G0 : GS w2 (N + 1) (N + 2) N m s mo F l.length l.length := by
    have z1 : (w1.alloc (.cells #[.map (some m)] 44)).heap.size = N + 1 := by rw [hN]; simp
    have z2 : ((w1.alloc (.cells #[.map (some m)] 44)).alloc (.cells #[.string s] 9)).heap.size = N + 2 := by rw [hN]; simp
    rw [hw2]
    refine ⟨at_old ?_, ?_, at_old (at_old ?_), HM.out.keep ((((Below.refl _ w1).alloc (Nat.le_refl _) _).alloc (by simp) _).alloc (by simp; omega) _)⟩
    · have := heap_alloc_new (w1.alloc (.cells #[.map (some m)] 44)) (.cells #[.string s] 9); rwa [z1] at this
    · have := heap_alloc_new ((w1.alloc (.cells #[.map (some m)] 44)).alloc (.cells #[.string s] 9)) (.cells #[.bool mo] 4); rwa [z2] at this
    · have := heap_alloc_new w1 (.cells #[.map (some m)] 44); rwa [← hN] at this
  have B0 : Below w.heap.size w w2 := by
    rw [hw2]
    exact ((HB.out.alloc HB.out.size _).alloc (by have := HB.out.size; simp; omega) _).alloc (by have := HB.out.size; simp; omega) _
  have HNW : Hid (w.heap.size ≤ N) := Lib.hid (by rw [hN]; exact HB.out.size)
  have LMN : Hid (m < N) := Lib.hid (by rw [hN]; exact lm)
  have HG0 := Lib.hid G0
  have HB0 := Lib.hid B0
  have HZ2 := Lib.hid hz2
  have HHW := Lib.hid hw2
  have HNN := Lib.hid hN
  have L32 := CK.out.len
  clear hmo htx G0 B0 hw2 hz2 lm hp HM HB hN
  go_wp2_with fail
  rw [HMO.out, ← HHW.out, ← HNN.out]
  go_loopw [10, 11, 12] (fun lv _ _ wr => ∃ (dn : List ByteArray) (r : ByteArray) (mo : Bool) (gs : List (List Nat)) (F' : ByteArray → Option Nat), textsOf s = dn ++ (if mo then splitS 95 r else []) ∧ groupsN F dn = some (gs, F') ∧ lens gs ≤ l.length ∧ gs.length ≤ lens gs ∧ r.size ≤ s.size ∧ GS wr (N + 1) (N + 2) N m r mo F' (l.length - lens gs) l.length ∧ GRows wr (N + 3) lv gs ∧ Below w.heap.size w wr ∧ N + 3 ≤ wr.heap.size)
    (fun _ _ _ wr => moreAt wr (N + 2) (N + 1))
  case atStart => exact ⟨[], s, mo, [], F, HTX.out, rfl, Nat.zero_le _, Nat.zero_le _, Nat.le_refl _, HG0.out, GRows.nil _ _, HB0.out, by rw [HZ2.out]; omega⟩
  case round =>
    obtain ⟨dn, r, mr, gs, F', htx, hgn, hle, hgl, hrs, hgs, hrow, hbel, hsz⟩ := hrel
    have cm := cell_of_row _ _ 0 _ _ _ hgs.mo
    simp only [List.getElem?_toArray, List.getElem?_cons_zero] at cm
    have HTX2 := Lib.hid htx
    have HGN := Lib.hid hgn
    have HROW := Lib.hid hrow
    have HBEL := Lib.hid hbel
    have HGS := Lib.hid hgs
    have RS := Lib.hid hrs
    have WSZ := HBEL.out.size
    have hNW := HNW.out
    have hLM := LMN.out
    clear hgn hrow hbel hrs
    cases mr with
    | false =>
      have cl := cell_of_row _ _ 0 _ _ _ hgs.l
      simp only [List.getElem?_toArray, List.getElem?_cons_zero] at cl
      have hlen := hgs.map.len
      have DN : Hid (textsOf s = dn) := Lib.hid (by have := HTX2.out; simpa using this)
      clear hgs htx
      by_cases he : lens gs = l.length
      · have h0 : l.length - lens gs = 0 := by omega
        rw [h0] at hlen
        have hd : decide (lens gs = l.length) = true := decide_eq_true he
        go_wp2_with fail
        go_ret2
        exact ⟨F, HP.out, HBEL.out, .inl ⟨gs, F', _, by rw [DN.out]; exact HGN.out, by rw [hd]; rfl, hle, HROW.out.lower (by omega)⟩⟩
      · have h0 : 0 < ((l.length - lens gs : Nat) : Int) := by omega
        have h1 : (((l.length - lens gs : Nat) : Int) == 0) = false := by simp; omega
        have hd : decide (lens gs = l.length) = false := decide_eq_false he
        generalize l.length - lens gs = q at *
        go_wp2_with fail
        go_ret2
        exact ⟨F, HP.out, HBEL.out, .inl ⟨gs, F', _, by rw [DN.out]; exact HGN.out, by rw [hd]; rfl, hle, HROW.out.lower (by omega)⟩⟩
    | true =>
      have M0 : Hid (moreAt wr (N + 2) (N + 1) = r.size + 1) := Lib.hid (by rw [hgs.moreAt, if_pos rfl])
      have CT := Lib.hid (cut_in hgs (by omega) (by omega) (by omega) (by have := RS.out; omega) (by omega))
      have HSP : Hid (textsOf s = (dn ++ [(headT r).1]) ++ (if (headT r).2.2 then splitS 95 (headT r).2.1 else [])) := Lib.hid (by
        have := HTX2.out
        rw [if_pos rfl, headT_split] at this
        rw [this, List.append_assoc]; rfl)
      clear hgs htx
      go_wp2_with fail
      refine CT.out.mono ?_
      rintro e w3 ⟨tn, (⟨g, F2, v, hte, rfl, hov, hgk, hgs3⟩ | ⟨hte, rfl⟩)⟩
      · have hz3 := tn.size
        have hB3 : Below w.heap.size w w3 := Turn.to_below HBEL.out tn (fun i hi => by unfold OwnG at hi; rcases hi with h | h | h <;> (have := HMB.out; omega)) WSZ
        have hrow3 := HROW.out.turn tn (fun i hi => by unfold OwnG at hi; omega)
        have g1 : 1 ≤ g.length := by
          have := takeN_len _ _ _ _ hte
          rw [this]
          unfold splitS
          rw [List.length_map]
          have := splitB_ne 42 (bytesOf (headT r).1)
          exact List.length_pos_iff.2 this
        obtain ⟨vs, hvs, hgv⟩ := hrow3
        obtain ⟨vg, vc, rfl⟩ : ∃ vg vc, v = .slice (some ⟨vg, 0, none⟩) g.length vc := by
          rcases hov.2 with ⟨_, e⟩ | ⟨vg, vc, cur, e, _⟩
          · omega
          · exact ⟨_, _, e⟩
        have GN : Hid (groupsN F (dn ++ [(headT r).1]) = some (gs ++ [g], F2)) := Lib.hid (by rw [groupsN_snoc, HGN.out]; simp only [hte])
        have G3 := Lib.hid hgs3
        have B3 := Lib.hid hB3
        have OV := Lib.hid hov
        have GV := Lib.hid hgv
        clear CT hte hgs3 hB3 hov hgv tn HROW HGS
        go_wp2_with (at_builtin; refine wpList_append_own _ rfl _ _ 29 rfl (N + 3) 36 i0 (.slice none 0 0) 1 24 Tryd.underlying29 hi0 hz0 hz1 hz2 rfl (by decide) _ _ _ rfl (hvs.alloc _) ⟨w3.heap.size, 0, none⟩ 1 1 [.slice (some ⟨vg, 0, none⟩) g.length vc] rfl rfl ?c1 ?c2 ?c3 ?c4 ?c5 ?_)
        case c1 =>
          intro i u hu
          match i, hu with
          | 0, hu => simp at hu; subst hu; simp [Addr.add]
        case c2 => intro u hu; simp at hu; subst hu; rfl
        case c3 => (unfold maxLen) <;> omega
        case c4 => omega
        case c5 => simp <;> omega
        intro v5 w5 hown5 hgrow5 _
        have t5 : Turn (fun i => N + 3 ≤ i) w3 w5 := ((Turn.refl _ w3).alloc _).grown hgrow5 (fun i e => .inl (hvs.lt i e).1)
        have hz5 := t5.size
        have R5 : Hid (GRows w5 (N + 3) v5 (gs ++ [g])) := Lib.hid (by
          refine ⟨vs ++ [.slice (some ⟨vg, 0, none⟩) g.length vc], by rw [List.length_append]; exact hown5, fun i y hy => ?_⟩
          have hlv : vs.length = gs.length := by have := hvs.1; omega
          by_cases hi : i < gs.length
          · rw [List.getElem?_append_left hi] at hy
            obtain ⟨u, e1, e2⟩ := GV.out i y hy
            refine ⟨u, by rw [List.getElem?_append_left (by omega)]; exact e1, ?_⟩
            exact own_grown e2 hvs (by decide) hgrow5
          · rw [List.getElem?_append_right (by omega)] at hy
            have hi0 : i - gs.length = 0 := by
              rcases Nat.eq_zero_or_pos (i - gs.length) with h | h
              · exact h
              · rw [List.getElem?_eq_none (by simp; omega)] at hy; cases hy
            rw [hi0] at hy
            obtain rfl : g = y := by simpa using hy
            refine ⟨.slice (some ⟨vg, 0, none⟩) g.length vc, by rw [List.getElem?_append_right (by omega), hlv, hi0]; rfl, ?_⟩
            exact own_grown (own_lower OV.out (by omega)) hvs (by decide) hgrow5)
        have G5 : Hid (GS w5 (N + 1) (N + 2) N m (headT r).2.1 (headT r).2.2 F2 (l.length - lens gs - g.length) l.length) := Lib.hid (G3.out.of (fun i hi hj => t5.block i hi (fun h => by rcases hj with rfl | rfl | rfl | rfl <;> omega)))
        have B5 : Hid (Below w.heap.size w w5) := Lib.hid (Turn.to_below B3.out t5 (fun i hi => by omega) (by omega))
        have LL := lens_snoc gs g
        have ME : Hid (moreAt w5 (N + 2) (N + 1) < moreAt wr (N + 2) (N + 1)) := Lib.hid (by
          rw [G5.out.moreAt, M0.out]
          by_cases h2 : (headT r).2.2 = true
          · rw [if_pos h2]; have := headT_less h2; omega
          · rw [if_neg h2]; omega)
        clear t5 hown5 hgrow5 hvs
        go_wp2_with fail
        go_roundw
        case rel => exact ⟨dn ++ [(headT r).1], (headT r).2.1, (headT r).2.2, gs ++ [g], F2, HSP.out, GN.out, by rw [LL]; omega, by rw [LL, List.length_append]; simp; omega, by have := (headT_size r).2; have := RS.out; omega, by rw [LL, Nat.sub_add_eq]; exact G5.out, R5.out, B5.out, by omega⟩
        case measure => exact ME.out
      · have GN : Hid (groupsN F (textsOf s) = none) := Lib.hid (by
          refine groupsN_prefix (p := dn ++ [(headT r).1]) ?_ ?_
          · rw [HSP.out]; exact List.prefix_append _ _
          · rw [groupsN_snoc, HGN.out]; simp only [hte])
        have hB3 : Hid (Below w.heap.size w w3) := Lib.hid (Turn.to_below HBEL.out tn (fun i hi => by unfold OwnG at hi; rcases hi with h | h | h <;> (have := HMB.out; omega)) WSZ)
        clear CT hte tn
        go_wp2_with fail
        go_ret2
        exact ⟨F, HP.out, hB3.out, .inr ⟨GN.out, rfl⟩⟩
end Go.Proofs.YtimpfeadpcjlgaaDoor
