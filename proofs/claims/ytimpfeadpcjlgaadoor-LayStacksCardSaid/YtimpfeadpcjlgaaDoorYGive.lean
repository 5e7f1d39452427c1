/- Layer 7 (lay): give: a group's domains get their variables. -/
import Derived.Test.YtimpfeadpcjlgaaDoorYGroups
namespace Go.Proofs.YtimpfeadpcjlgaaDoor
open Go.ChangeShapes Go.WideShapes Go.ChangeAt Go.RowKit Go.Maps

/-- The bits of a group's domains at one turn; in all turns. -/
def bitT (wl : List Nat) (t i : Nat) : Option (Nat × Nat) := if t < wl.getD i 0 then some (i, wl.getD i 0 - 1 - t) else none
def seqT (wl g : List Nat) (t : Nat) : List (Nat × Nat) := g.filterMap (bitT wl t)
def maxW (wl : List Nat) : List Nat → Nat
  | [] => 0
  | i :: r => max (wl.getD i 0) (maxW wl r)
def seqTo (wl g : List Nat) (k : Nat) : List (Nat × Nat) := (List.range k).flatMap (seqT wl g)
def seqG (wl g : List Nat) : List (Nat × Nat) := seqTo wl g (maxW wl g)

theorem maxW_snoc (wl : List Nat) : ∀ (g : List Nat) (i : Nat), maxW wl (g ++ [i]) = max (maxW wl g) (wl.getD i 0)
  | [], i => by simp [maxW]
  | j :: r, i => by simp only [List.cons_append, maxW, maxW_snoc wl r i]; omega
theorem maxW_le {wl : List Nat} {M : Nat} (h : ∀ x ∈ wl, x ≤ M) : ∀ g, maxW wl g ≤ M
  | [] => Nat.zero_le _
  | i :: r => by
    have h1 : wl.getD i 0 ≤ M := by
      rw [List.getD_eq_getElem?_getD]
      cases hi : wl[i]? with
      | none => simp
      | some x => exact h x (List.mem_of_getElem? hi)
    have := maxW_le h r
    simp only [maxW]; omega
theorem seqT_snoc (wl g : List Nat) (t i : Nat) : seqT wl (g ++ [i]) t = seqT wl g t ++ (bitT wl t i).toList := by
  unfold seqT
  rw [List.filterMap_append, List.filterMap_cons, List.filterMap_nil]
  cases bitT wl t i <;> rfl
theorem seqTo_succ (wl g : List Nat) (k : Nat) : seqTo wl g (k + 1) = seqTo wl g k ++ seqT wl g k := by
  unfold seqTo
  rw [List.range_succ, List.flatMap_append]
  first | rfl | simp

theorem nodup_at {α : Type} : ∀ {l : List α} {i j : Nat} {x : α}, l.Nodup → l[i]? = some x → l[j]? = some x → i = j
  | [], i, j, x, _, h, _ => by simp at h
  | a :: r, 0, 0, x, _, _, _ => rfl
  | a :: r, 0, j + 1, x, hn, h1, h2 => by
    simp at h1 h2
    subst h1
    exact absurd (List.mem_of_getElem? h2) (List.nodup_cons.1 hn).1
  | a :: r, i + 1, 0, x, hn, h1, h2 => by
    simp at h1 h2
    subst h2
    exact absurd (List.mem_of_getElem? h1) (List.nodup_cons.1 hn).1
  | a :: r, i + 1, j + 1, x, hn, h1, h2 => by
    simp at h1 h2
    rw [nodup_at (List.nodup_cons.1 hn).2 h1 h2]

/-- Rows in blocks of their own, behind a row of their slices. -/
structure VR (w : World) (b : Nat) (bl : List Nat) (R : List (List Nat)) : Prop where
  len : bl.length = R.length
  out : ∀ (i g : Nat) (r : List Nat), bl[i]? = some g → R[i]? = some r → w.cell? ⟨b, i, none⟩ = some (.slice (some ⟨g, 0, none⟩) r.length r.length)
  row : ∀ (i g : Nat) (r : List Nat), bl[i]? = some g → R[i]? = some r → w.heap[g]? = some (.cells (nats r).toArray 3 (0, 0))
  nodup : bl.Nodup
  ne : b ∉ bl
  blt : b < w.heap.size

/-- What has come so far stands at its place. -/
def Filled (R : List (List Nat)) (P : List (Nat × Nat)) : Prop := ∀ (pos i bit : Nat), P[pos]? = some (i, bit) → ∃ r, R[i]? = some r ∧ r[bit]? = some pos

theorem Filled.step {R : List (List Nat)} {P : List (Nat × Nat)} (h : Filled R P) {i bit : Nat} {r : List Nat} (hr : R[i]? = some r) (hb : bit < r.length) (hn : (i, bit) ∉ P) : Filled (R.set i (r.set bit P.length)) (P ++ [(i, bit)]) := by
  intro pos j c hj
  have hi : i < R.length := (List.getElem?_eq_some_iff.1 hr).1
  by_cases hlt : pos < P.length
  · rw [List.getElem?_append_left hlt] at hj
    obtain ⟨q, h1, h2⟩ := h pos j c hj
    by_cases e : j = i
    · subst e
      rw [hr] at h1
      obtain rfl : r = q := by injection h1
      have hc : c ≠ bit := fun e => hn (by rw [← e]; exact List.mem_of_getElem? hj)
      exact ⟨_, List.getElem?_set_self hi, by rw [List.getElem?_set_ne (fun e => hc e.symm)]; exact h2⟩
    · exact ⟨q, by rw [List.getElem?_set_ne (fun e2 => e e2.symm)]; exact h1, h2⟩
  · rw [List.getElem?_append_right (by omega)] at hj
    have h0 : pos - P.length = 0 := by
      rcases Nat.eq_zero_or_pos (pos - P.length) with h | h
      · exact h
      · rw [List.getElem?_eq_none (by simp; omega)] at hj; cases hj
    rw [h0] at hj
    simp only [List.getElem?_cons_zero, Option.some.injEq, Prod.mk.injEq] at hj
    obtain ⟨rfl, rfl⟩ := hj
    exact ⟨_, List.getElem?_set_self hi, by rw [List.getElem?_set_self hb]; congr 1; omega⟩

section
variable {w w' : World} {b : Nat} {bl : List Nat} {R : List (List Nat)}
theorem VR.lt (h : VR w b bl R) {g : Nat} (hg : g ∈ bl) : g < w.heap.size := by
  obtain ⟨i, hi⟩ := List.getElem?_of_mem hg
  have hlt := (List.getElem?_eq_some_iff.1 hi).1
  have hlt2 : i < R.length := by have := h.len; omega
  exact row_lt (h.row i g R[i] hi (List.getElem?_eq_getElem hlt2))
theorem VR.of (h : VR w b bl R) (hb : ∀ i, i < w.heap.size → i = b ∨ i ∈ bl → w'.heap[i]? = w.heap[i]?) (hs : w.heap.size ≤ w'.heap.size) : VR w' b bl R :=
  ⟨h.len, fun i g r h1 h2 => (World.cell?_of_block (hb b h.blt (.inl rfl))).trans (h.out i g r h1 h2), fun i g r h1 h2 => (hb g (h.lt (List.mem_of_getElem? h1)) (.inr (List.mem_of_getElem? h1))).trans (h.row i g r h1 h2), h.nodup, h.ne, Nat.lt_of_lt_of_le h.blt hs⟩
theorem VR.set (h : VR w b bl R) {i g : Nat} {r : List Nat} (hg : bl[i]? = some g) (hr : R[i]? = some r) (bit x : Nat) : VR (w.setCell ⟨g, bit, none⟩ (.int .i64 (x : Int))) b bl (R.set i (r.set bit x)) := by
  have hgm := List.mem_of_getElem? hg
  have hbg : b ≠ g := fun e => h.ne (by rw [e]; exact hgm)
  have hi : i < R.length := (List.getElem?_eq_some_iff.1 hr).1
  refine ⟨by rw [List.length_set]; exact h.len, fun j q s h1 h2 => ?_, fun j q s h1 h2 => ?_, h.nodup, h.ne, by simpa [World.setCell] using h.blt⟩
  · rw [World.cell?_of_block (Below.heap_setCell w ⟨g, bit, none⟩ _ b hbg)]
    by_cases e : j = i
    · subst e
      rw [List.getElem?_set_self hi] at h2
      injection h2 with h2
      rw [← h2, List.length_set]
      exact h.out j q r h1 hr
    · rw [List.getElem?_set_ne (fun e2 => e e2.symm)] at h2
      exact h.out j q s h1 h2
  · by_cases e : j = i
    · subst e
      rw [List.getElem?_set_self hi] at h2
      injection h2 with h2
      rw [hg] at h1
      injection h1 with h1
      subst h1
      rw [heap_setCell_same _ _ _ _ _ _ (h.row j g r hg hr), ← h2]
      unfold nats
      rw [List.map_set]
      simp
    · rw [List.getElem?_set_ne (fun e2 => e e2.symm)] at h2
      have hq : q ≠ g := fun e2 => by
        subst e2
        have l1 := (List.getElem?_eq_some_iff.1 h1).1
        exact e (nodup_at h.nodup h1 hg)
      exact (Below.heap_setCell w ⟨g, bit, none⟩ _ q hq).trans (h.row j q s h1 h2)
end

theorem seqTo_prefix (wl g : List Nat) {k M : Nat} (h : k ≤ M) : seqTo wl g k <+: seqTo wl g M := by
  obtain ⟨d, rfl⟩ := Nat.le.dest h
  clear h
  induction d with
  | zero => exact List.prefix_refl _
  | succ d ih => rw [← Nat.add_assoc, seqTo_succ]; exact ih.trans (List.prefix_append _ _)
theorem seqT_prefix (wl g : List Nat) (t j : Nat) : seqT wl (g.take j) t <+: seqT wl g t := by
  refine ⟨(g.drop j).filterMap (bitT wl t), ?_⟩
  unfold seqT
  rw [← List.filterMap_append, List.take_append_drop]
theorem seq_prefix {wl g : List Nat} {P : List (Nat × Nat)} {t j : Nat} (ht : t < maxW wl g) : (P ++ seqTo wl g t) ++ seqT wl (g.take j) t <+: P ++ seqG wl g := by
  have h1 : seqTo wl g t ++ seqT wl g t <+: seqG wl g := by rw [← seqTo_succ]; exact seqTo_prefix wl g ht
  have h2 : seqTo wl g t ++ seqT wl (g.take j) t <+: seqG wl g := ((List.prefix_append_right_inj _).2 (seqT_prefix wl g t j)).trans h1
  rw [List.append_assoc]
  exact (List.prefix_append_right_inj _).2 h2

def GiveOut (b : Nat) (bl : List Nat) (wl g : List Nat) (P : List (Nat × Nat)) (w : World) (e : Ending) (w' : World) : Prop :=
  ∃ R', e = .returned (.int .i64 ((P ++ seqG wl g).length : Nat)) ∧ VR w' b bl R' ∧ R'.map List.length = wl ∧ Filled R' (P ++ seqG wl g) ∧ Turn (fun i => i ∈ bl) w w'

theorem wl_at {R : List (List Nat)} {wl : List Nat} (h : R.map List.length = wl) {i : Nat} {r : List Nat} (hr : R[i]? = some r) : wl.getD i 0 = r.length := by
  rw [List.getD_eq_getElem?_getD, ← h, List.getElem?_map, hr]; rfl

set_option maxRecDepth 100000 in
set_option maxHeartbeats 4000000 in
theorem give_any {w : World} {b n : Nat} {bl : List Nat} {R : List (List Nat)} {wl g : List Nat} {c gb goff : Nat} {P : List (Nat × Nat)} (hv : VR w b bl R) (hw : R.map List.length = wl) (hn : n = R.length) (_hn40 : n ≤ 1000) (hwl : ∀ x ∈ wl, x ≤ 30)
    (hg : ∀ (j x : Nat), g[j]? = some x → w.cell? ⟨gb, goff + j, none⟩ = some (.int .i64 (x : Int)) ∧ x < n) (hgb : gb ∉ bl) (hgl : g.length ≤ 1000) (hf : Filled R P) (hP : (P ++ seqG wl g).length ≤ 100000) (hnd : (P ++ seqG wl g).Nodup) :
    Calls Tryd.prog 21 #[.slice (some ⟨b, 0, none⟩) n n, .slice (some ⟨gb, goff, none⟩) g.length c, .int .i64 (P.length : Int)] w (GiveOut b bl wl g P w) := by
  have HV := Lib.hid hv
  have HW := Lib.hid hw
  have HN := Lib.hid hn
  have HWL := Lib.hid hwl
  have HG := Lib.hid hg
  have HGB := Lib.hid hgb
  have HF := Lib.hid hf
  have HND := Lib.hid hnd
  clear hv hw hn hwl hg hgb hf hnd
  go_enter Tryd.func21, Tryd.ntmps21
  go_wp2_with fail
  go_loopw [7, 9, 16] (fun mv _ iv wr => ∃ j : Nat, j ≤ g.length ∧ iv = .int .i64 (j : Int) ∧ mv = .int .i64 ((maxW wl (g.take j) : Nat) : Int) ∧ ∃ q, wr = w.drewN q) (fun _ _ iv _ => g.length - (intOf iv).toNat)
  case atStart => exact ⟨0, by omega, rfl, rfl, 0, rfl⟩
  case round =>
    obtain ⟨j, hj, rfl, rfl, q, rfl⟩ := hrel
    by_cases hlt : j < g.length
    · have hlt' : (j : Int) < g.length := by omega
      obtain ⟨x, hx⟩ : ∃ x, g[j]? = some x := ⟨_, List.getElem?_eq_getElem hlt⟩
      obtain ⟨cg, hxn⟩ := HG.out j x hx
      have cg : (w.drewN q).cell? ⟨gb, goff + j, none⟩ = some (.int .i64 (x : Int)) := cg
      obtain ⟨r, hr⟩ : ∃ r, R[x]? = some r := ⟨_, List.getElem?_eq_getElem (by have := HN.out; omega)⟩
      obtain ⟨gx, hgx⟩ : ∃ gx, bl[x]? = some gx := ⟨_, List.getElem?_eq_getElem (by have := HV.out.len; have := HN.out; omega)⟩
      have co : (w.drewN q).cell? ⟨b, x, none⟩ = some (.slice (some ⟨gx, 0, none⟩) r.length r.length) := HV.out.out x gx r hgx hr
      have hxn' : (x : Int) < n := by omega
      have NX : Hid (maxW wl (g.take (j + 1)) = max (maxW wl (g.take j)) r.length) := Lib.hid (by
        rw [List.take_add_one, hx]
        show maxW wl (g.take j ++ [x]) = _
        rw [maxW_snoc, wl_at HW.out hr])
      have NX2 : Hid (((maxW wl (g.take (j + 1)) : Nat) : Int) = max ((maxW wl (g.take j) : Nat) : Int) (r.length : Int)) := Lib.hid (by rw [NX.out]; omega)
      clear hx hr hgx
      go_wp2_with fail
      exact ⟨⟨j + 1, by omega, by go_num, by rw [NX2.out], q, rfl⟩, by simp [intOf]; omega⟩
    · obtain rfl : j = g.length := by omega
      rw [List.take_length]
      have M30 := maxW_le HWL.out g
      obtain ⟨M, hM⟩ : ∃ M, M = maxW wl g := ⟨_, rfl⟩
      have HM := Lib.hid hM
      rw [← hM] at M30 ⊢
      clear hM hlt hj
      go_wp2_with fail
      go_loopw [2, 10, 12, 13, 29, 34] (fun nv _ _ _ iv _ wr => ∃ (t : Nat) (R' : List (List Nat)), t ≤ M ∧ iv = .int .i64 (t : Int) ∧ nv = .int .i64 ((P ++ seqTo wl g t).length : Nat) ∧ VR wr b bl R' ∧ R'.map List.length = wl ∧ Filled R' (P ++ seqTo wl g t) ∧ Turn (fun i => i ∈ bl) w wr) (fun _ _ _ _ iv _ _ => M - (intOf iv).toNat)
      case atStart => exact ⟨0, R, Nat.zero_le _, rfl, by simp [seqTo], HV.out.of (fun _ _ _ => rfl) (Nat.le_refl _), HW.out, by simpa [seqTo] using HF.out, (Turn.refl _ w).drewN q⟩
      case round =>
        obtain ⟨t, R1, ht, rfl, rfl, hv1, hw1, hf1, ht1⟩ := hrel
        have HV1 := Lib.hid hv1
        have HW1 := Lib.hid hw1
        have HF1 := Lib.hid hf1
        have HT1 := Lib.hid ht1
        clear hv1 hw1 hf1 ht1
        by_cases hlt : t < M
        · have hlt' : (t : Int) < M := by omega
          have TM : Hid (t < maxW wl g) := Lib.hid (by rw [← HM.out]; exact hlt)
          go_wp2_with fail
          go_loopw [2, 12, 13, 34] (fun nv _ _ iv w5 => ∃ (j : Nat) (R' : List (List Nat)), j ≤ g.length ∧ iv = .int .i64 (j : Int) ∧ nv = .int .i64 (((P ++ seqTo wl g t) ++ seqT wl (g.take j) t).length : Nat) ∧ VR w5 b bl R' ∧ R'.map List.length = wl ∧ Filled R' ((P ++ seqTo wl g t) ++ seqT wl (g.take j) t) ∧ Turn (fun i => i ∈ bl) w w5) (fun _ _ _ iv _ => g.length - (intOf iv).toNat)
          case atStart => exact ⟨0, R1, Nat.zero_le _, rfl, by simp [seqT], HV1.out, HW1.out, by simpa [seqT] using HF1.out, HT1.out⟩
          case round =>
            obtain ⟨j, R2, hj, rfl, rfl, hv2, hw2, hf2, ht2⟩ := hrel
            have PL := (seq_prefix (P := P) (j := j) TM.out).length_le
            by_cases hjl : j < g.length
            · have hjl' : (j : Int) < g.length := by omega
              obtain ⟨x, hx⟩ : ∃ x, g[j]? = some x := ⟨_, List.getElem?_eq_getElem hjl⟩
              obtain ⟨cg, hxn⟩ := HG.out j x hx
              rename World => w5
              have cg := ht2.cell (p := ⟨gb, goff + j, none⟩) cg HGB.out
              have hxl : x < R2.length := by have := congrArg List.length (hw2.trans HW.out.symm); simp at this; have := HN.out; omega
              obtain ⟨r, hr⟩ : ∃ r, R2[x]? = some r := ⟨_, List.getElem?_eq_getElem hxl⟩
              obtain ⟨gx, hgx⟩ : ∃ gx, bl[x]? = some gx := ⟨_, List.getElem?_eq_getElem (by have := hv2.len; omega)⟩
              have co := hv2.out x gx r hgx hr
              have hxn' : (x : Int) < n := by omega
              have hwx := wl_at hw2 hr
              have SNX : g.take (j + 1) = g.take j ++ [x] := by rw [List.take_add_one, hx]; rfl
              have PL2 := (seq_prefix (P := P) (j := j + 1) TM.out).length_le
              have ND2 := List.Nodup.sublist (seq_prefix (P := P) (j := j + 1) TM.out).sublist HND.out
              rw [SNX, seqT_snoc, ← List.append_assoc] at ND2 PL2
              have r30 : r.length ≤ 30 := by rw [← hwx]; exact (by
                rw [List.getD_eq_getElem?_getD]
                cases hi : wl[x]? with
                | none => simp
                | some y => exact HWL.out y (List.mem_of_getElem? hi))
              by_cases hb : t < r.length
              · obtain ⟨k, hk⟩ : ∃ k, r.length = k + 1 + t := ⟨r.length - 1 - t, by omega⟩
                have e1 : (r.length : Int) - 1 - (t : Int) = (k : Int) := by omega
                have hkr : (k : Int) < r.length := by omega
                have BT : bitT wl t x = some (x, k) := by unfold bitT; rw [hwx, if_pos hb, show r.length - 1 - t = k by omega]
                rw [BT] at ND2 PL2
                simp only [Option.toList_some] at ND2 PL2
                obtain ⟨Q, hQ⟩ : ∃ Q, Q = (P ++ seqTo wl g t) ++ seqT wl (g.take j) t := ⟨_, rfl⟩
                have NXQ : Hid ((P ++ seqTo wl g t) ++ seqT wl (g.take (j + 1)) t = Q ++ [(x, k)]) := Lib.hid (by rw [SNX, seqT_snoc, ← List.append_assoc, BT, hQ]; rfl)
                rw [← hQ] at ND2 PL2 hf2 PL ⊢
                have hnot : (x, k) ∉ Q := fun h => by
                  have := (List.nodup_append.1 ND2).2.2 _ h (x, k) (by simp)
                  exact this rfl
                have F3 := Lib.hid (hf2.step hr (bit := k) (by omega) hnot)
                have V3 := Lib.hid (hv2.set hgx hr k Q.length)
                have W3 : Hid ((R2.set x (r.set k Q.length)).map List.length = wl) := Lib.hid (by
                  rw [List.map_set, List.length_set, hw2]
                  rw [← hw2]
                  apply List.ext_getElem?
                  intro i
                  by_cases hi : i = x
                  · subst hi; rw [List.getElem?_set_self (by simpa using hxl), List.getElem?_map, hr]; rfl
                  · rw [List.getElem?_set_ne (fun e => hi e.symm)])
                obtain ⟨z, hz⟩ : ∃ z, r[k]? = some z := ⟨_, List.getElem?_eq_getElem (by omega)⟩
                have crow : w5.cell? ⟨gx, k, none⟩ = some (.int .i64 (z : Int)) := by rw [cell_of_row _ _ k _ _ _ (hv2.row x gx r hgx hr)]; simp [nats, hz]
                have frow := frozen_of_row _ _ k _ _ (hv2.row x gx r hgx hr)
                have T3 : Hid (Turn (fun i => i ∈ bl) w (w5.setCell ⟨gx, k, none⟩ (.int .i64 (Q.length : Int)))) := Lib.hid (ht2.setCell (p := ⟨gx, k, none⟩) (.inl (List.mem_of_getElem? hgx)) _)
                have QL : (Q.length : Int) ≤ 100000 := by simp at PL2; omega
                clear hQ hnot ND2 PL2 hf2 hv2 hw2 ht2 hwx SNX BT hx hr hgx PL hk hz
                go_wp2_with fail
                first
                  | exact ⟨⟨j + 1, _, by omega, by go_num, by rw [NXQ.out, List.length_append]; go_num, V3.out, W3.out, by rw [NXQ.out]; exact F3.out, T3.out⟩, by simp [intOf]; omega⟩
                  | (go_roundw
                     case rel => exact ⟨j + 1, _, by omega, by go_num, by rw [NXQ.out, List.length_append]; go_num, V3.out, W3.out, by rw [NXQ.out]; exact F3.out, T3.out⟩
                     case measure => simp [intOf]; omega)
                  | fail
              · have hb' : (r.length : Int) - 1 - (t : Int) < 0 := by omega
                have BT : bitT wl t x = none := by unfold bitT; rw [hwx, if_neg hb]
                have NXQ : Hid ((P ++ seqTo wl g t) ++ seqT wl (g.take (j + 1)) t = (P ++ seqTo wl g t) ++ seqT wl (g.take j) t) := Lib.hid (by rw [SNX, seqT_snoc, BT]; simp)
                have HV2 := Lib.hid hv2
                have HW2 := Lib.hid hw2
                have HF2 := Lib.hid hf2
                have HT2 := Lib.hid ht2
                obtain ⟨z, hz⟩ : ∃ z : Int, z = (r.length : Int) - 1 - (t : Int) := ⟨_, rfl⟩
                have r0 : (0 : Int) ≤ r.length := by omega
                have rr : (r.length : Int) ≤ 30 := by omega
                have t30 : (t : Int) ≤ 30 := by omega
                clear hv2 hw2 hf2 ht2 hwx SNX BT hx hr hgx PL PL2 ND2 hz
                go_wp2_with fail
                first
                  | exact ⟨⟨j + 1, _, by omega, by go_num, by rw [NXQ.out], HV2.out, HW2.out, by rw [NXQ.out]; exact HF2.out, HT2.out⟩, by simp [intOf]; omega⟩
                  | (go_roundw
                     case rel => exact ⟨j + 1, _, by omega, by go_num, by rw [NXQ.out], HV2.out, HW2.out, by rw [NXQ.out]; exact HF2.out, HT2.out⟩
                     case measure => simp [intOf]; omega)
                  | fail
            · obtain rfl : j = g.length := by omega
              rw [List.take_length] at hf2 ⊢
              have HV2 := Lib.hid hv2
              have HW2 := Lib.hid hw2
              have HF2 := Lib.hid hf2
              have HT2 := Lib.hid ht2
              have NXT : Hid (P ++ seqTo wl g (t + 1) = (P ++ seqTo wl g t) ++ seqT wl g t) := Lib.hid (by rw [seqTo_succ, List.append_assoc])
              clear hv2 hw2 hf2 ht2 PL
              go_wp2_with fail
              first
                | exact ⟨⟨t + 1, _, by omega, by go_num, by rw [NXT.out], HV2.out, HW2.out, by rw [NXT.out]; exact HF2.out, HT2.out⟩, by simp [intOf]; omega⟩
                | (go_roundw
                   case rel => exact ⟨t + 1, _, by omega, by go_num, by rw [NXT.out], HV2.out, HW2.out, by rw [NXT.out]; exact HF2.out, HT2.out⟩
                   case measure => simp [intOf]; omega)
                | fail
        · obtain rfl : t = M := by omega
          have GE : Hid (seqTo wl g t = seqG wl g) := Lib.hid (by unfold seqG; rw [← HM.out])
          go_wp2_with fail
          first | go_ret | go_ret2
          exact ⟨R1, by rw [← GE.out]; rfl, HV1.out, HW1.out, by rw [← GE.out]; exact HF1.out, HT1.out⟩
end Go.Proofs.YtimpfeadpcjlgaaDoor
