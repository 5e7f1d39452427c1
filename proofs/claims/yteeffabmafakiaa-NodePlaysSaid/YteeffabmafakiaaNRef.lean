/- The document's store, beside the code's: is, Len, New, Ask, Eval. -/
import Derived.Test.YteeffabmafakiaaNSem
namespace Go.Proofs.Yteeffabmafakiaa
open Go.ChangeShapes Go.WideShapes Go.ChangeAt Go.RowKit

/-- A node as the document has it. -/
structure RN where
  b : Bool
  v : Int
  lo : Int
  hi : Int
  pins : Int

def RN.none : RN := ⟨false, 0, 0, 0, 0⟩
def rn (cs : List Nd) (i : Nat) : RN := match cs[i]? with
  | some c => if c.asks = -1 then RN.none else ⟨true, c.asks, c.low, c.high, c.pins⟩
  | Option.none => RN.none
def cellsR (n : RN) : List Value := [.bool n.b, .int .i64 n.v, .int .i64 n.lo, .int .i64 n.hi, .int .i64 n.pins]
def flatR (l : List RN) : List Value := l.flatMap cellsR
def refL (cs : List Nd) (N : Nat) : List RN := (List.range N).map (rn cs)

theorem refL_length (cs : List Nd) (N : Nat) : (refL cs N).length = N := by simp [refL]
theorem refL_get (cs : List Nd) (N i : Nat) (h : i < N) : (refL cs N)[i]? = some (rn cs i) := by simp [refL, h]

theorem rn_is {cs : List Nd} {i : Nat} {c : Nd} (h : Is cs i c) : rn cs i = ⟨true, c.asks, c.low, c.high, c.pins⟩ := by
  unfold rn; rw [h.1]; simp only [h.2, if_false]
theorem rn_b (cs : List Nd) (i : Nat) : (rn cs i).b = thereB cs (i : Int) := by
  unfold rn thereB
  rw [show ((i : Int).toNat) = i from rfl]
  cases cs[i]? with
  | none => simp [RN.none]
  | some c => by_cases h : c.asks = -1 <;> simp [h, RN.none]
theorem rn_not {cs : List Nd} {i : Nat} (h : (rn cs i).b = false) : rn cs i = RN.none := by
  unfold rn at h ⊢
  cases hc : cs[i]? with
  | none => rfl
  | some c =>
    rw [hc] at h
    by_cases e : c.asks = -1
    · simp [e]
    · simp [e] at h
theorem rn_yes {cs : List Nd} {i : Nat} (h : (rn cs i).b = true) : ∃ c, Is cs i c := by
  rw [rn_b] at h
  obtain ⟨n, c, e, hc⟩ := thereB_true h
  obtain rfl : i = n := Int.ofNat.inj e
  exact ⟨c, hc⟩

theorem flatR_length (l : List RN) : (flatR l).length = l.length * 5 := by
  induction l with
  | nil => rfl
  | cons p r ih =>
    show (cellsR p ++ flatR r).length = _
    rw [List.length_append, ih]; simp [cellsR]; omega

theorem flatR_get (l : List RN) : ∀ (x : Nat) (p : RN) (c : Nat), l[x]? = some p → c < 5 → (flatR l)[x * 5 + c]? = (cellsR p)[c]? := by
  induction l with
  | nil => intro x p c h; simp at h
  | cons q r ih =>
    intro x p c h hc
    show (cellsR q ++ flatR r)[x * 5 + c]? = _
    have hl : (cellsR q).length = 5 := rfl
    cases x with
    | zero =>
      simp at h
      subst h
      rw [List.getElem?_append_left (by omega)]
      simp
    | succ x =>
      simp at h
      rw [List.getElem?_append_right (by omega), hl, ← ih x p c h hc]
      congr 1; omega

theorem flatR_append (a b : List RN) : flatR (a ++ b) = flatR a ++ flatR b := by unfold flatR; rw [List.flatMap_append]

/-- The list in block g. -/
structure RL (w : World) (g : Nat) (l : List RN) : Prop where
  lt : g < w.heap.size
  cell : ∀ (j : Nat) (u : Value), (flatR l)[j]? = some u → w.cell? ⟨g, j, none⟩ = some u

theorem RL.keep {w w' : World} {g : Nat} {l : List RN} (h : RL w g l) (hb : Below w.heap.size w w') : RL w' g l :=
  ⟨Nat.lt_of_lt_of_le h.lt hb.size, fun j u hu => (hb.cell (p := ⟨g, j, none⟩) h.lt).trans (h.cell j u hu)⟩

theorem RL.cells {w : World} {g : Nat} {l : List RN} (h : RL w g l) {x : Nat} {p : RN} (hx : l[x]? = some p) :
    w.cell? ⟨g, x * 5, none⟩ = some (.bool p.b) ∧ w.cell? ⟨g, x * 5 + 1, none⟩ = some (.int .i64 p.v) ∧ w.cell? ⟨g, x * 5 + 2, none⟩ = some (.int .i64 p.lo) ∧ w.cell? ⟨g, x * 5 + 3, none⟩ = some (.int .i64 p.hi) ∧ w.cell? ⟨g, x * 5 + 4, none⟩ = some (.int .i64 p.pins) :=
  ⟨h.cell _ _ (flatR_get l x p 0 hx (by omega)), h.cell _ _ (flatR_get l x p 1 hx (by omega)), h.cell _ _ (flatR_get l x p 2 hx (by omega)), h.cell _ _ (flatR_get l x p 3 hx (by omega)), h.cell _ _ (flatR_get l x p 4 hx (by omega))⟩

/-- The document's store of cells cs: N numbers, in block g. -/
structure RS (w : World) (g N cap : Nat) (cs : List Nd) : Prop where
  rl : RL w g (refL cs N)
  le : cs.length ≤ N
  cap : N ≤ cap
  n : N ≤ 1000000

theorem RS.keep {w w' : World} {g N cap : Nat} {cs : List Nd} (h : RS w g N cap cs) (hb : Below w.heap.size w w') : RS w' g N cap cs := ⟨h.rl.keep hb, h.le, h.cap, h.n⟩

def rsV (h : Hd) (g N cap : Nat) : Value := .agg #[.int .i64 h.V, .int .i64 h.B, .int .i64 h.made, .int .i64 h.sweeps, .slice (some ⟨g, 0, none⟩) N cap]
def rsO (h : Hd) (g N cap : Nat) : Obj := .cells #[.int .i64 h.V, .int .i64 h.B, .int .i64 h.made, .int .i64 h.sweeps, .slice (some ⟨g, 0, none⟩) N cap] 29

theorem ris_any {w : World} {g N cap : Nat} {cs : List Nd} (rs : RS w g N cap cs) (h : Hd) (k : Int) :
    Calls Try.prog 38 #[rsV h g N cap, .int .i64 k] w fun e w' => e = .returned (.bool (thereB cs k)) ∧ Below w.heap.size w w' := by
  have rs1 := rs.keep ((Below.refl w.heap.size w).alloc (Nat.le_refl _) (rsO h g N cap))
  have hn := rs.n
  have hn' : (N : Int) ≤ 1000000 := by omega
  clear hn
  unfold rsV
  unfold rsO at rs1
  by_cases h0 : 0 ≤ k
  · obtain ⟨n, rfl⟩ : ∃ n : Nat, k = n := ⟨k.toNat, by omega⟩
    by_cases h1 : n < N
    · obtain ⟨d0, -⟩ := rs1.rl.cells (refL_get cs N n h1)
      rw [rn_b] at d0
      obtain ⟨b, hb⟩ : ∃ b, thereB cs (n : Int) = b := ⟨_, rfl⟩
      rw [hb] at d0 ⊢
      clear hb
      go_enter Try.func38, Try.ntmps38
      go_wp2
      go_ret
      exact ⟨rfl, (Below.refl _ _).alloc (Nat.le_refl _) _⟩
    · have e : thereB cs n = false := by have := rs.le; unfold thereB; rw [show ((n : Int).toNat) = n from rfl, List.getElem?_eq_none (by omega)]; simp
      rw [e]
      clear e
      go_enter Try.func38, Try.ntmps38
      go_wp2
      go_ret
      exact ⟨rfl, (Below.refl _ _).alloc (Nat.le_refl _) _⟩
  · have e : thereB cs k = false := by unfold thereB; simp [h0]
    rw [e]
    clear e
    go_enter Try.func38, Try.ntmps38
    go_wp2
    go_ret
    exact ⟨rfl, (Below.refl _ _).alloc (Nat.le_refl _) _⟩

def cntTo (cs : List Nd) (i : Nat) : Nat := (List.range i).countP fun j => (rn cs j).b
theorem cntTo_snoc (cs : List Nd) (i : Nat) : cntTo cs (i + 1) = cntTo cs i + if (rn cs i).b then 1 else 0 := by
  unfold cntTo; rw [List.range_succ, List.countP_append]; simp
theorem cntTo_le (cs : List Nd) (i : Nat) : cntTo cs i ≤ i := by
  unfold cntTo
  have := List.countP_le_length (p := fun j => (rn cs j).b) (l := List.range i)
  simpa using this
theorem cntTo_cnt (cs : List Nd) : cntTo cs cs.length = cnt cs := by
  rw [← length_nodesOf, nodesOf, ← List.countP_eq_length_filter]
  unfold cntTo
  apply List.countP_congr
  intro k hk
  rw [List.mem_range] at hk
  have hg : cs[k]? = some cs[k] := List.getElem?_eq_getElem hk
  unfold rn
  rw [hg]
  by_cases h : cs[k].asks = -1 <;> simp [h, RN.none]
theorem cntTo_all (cs : List Nd) : ∀ N, cs.length ≤ N → cntTo cs N = cnt cs := by
  intro N hN
  induction N with
  | zero => rw [← cntTo_cnt, show cs.length = 0 by omega]
  | succ n ih =>
    by_cases h : cs.length = n + 1
    · rw [← h, cntTo_cnt]
    · rw [cntTo_snoc, ih (by omega)]
      have : (rn cs n).b = false := by unfold rn; rw [List.getElem?_eq_none (by omega)]; rfl
      rw [this]; simp

theorem rlen_any {w : World} {g N cap : Nat} {cs : List Nd} (rs : RS w g N cap cs) (h : Hd) :
    Calls Try.prog 9 #[rsV h g N cap] w fun e w' => e = .returned (.int .i64 (cnt cs)) ∧ Below w.heap.size w w' := by
  have rs1 := rs.keep ((Below.refl w.heap.size w).alloc (Nat.le_refl _) (rsO h g N cap))
  have hn := rs.n
  have hn' : (N : Int) ≤ 1000000 := by omega
  have CA := Lib.hid (cntTo_all cs N rs.le)
  have BB := Lib.hid ((Below.refl w.heap.size w).alloc (Nat.le_refl _) (rsO h g N cap))
  clear hn rs
  unfold rsV
  unfold rsO at rs1 BB
  go_enter Try.func9, Try.ntmps9
  go_wp2
  go_loop [3, 4] (fun nv iv => ∃ i : Nat, i ≤ N ∧ iv = .int .i64 i ∧ nv = .int .i64 (cntTo cs i)) (fun _ iv => N - (intOf iv).toNat)
  case atStart => exact ⟨0, Nat.zero_le _, rfl, rfl⟩
  case round =>
    obtain ⟨i, hi, rfl, rfl⟩ := hrel
    have hle := cntTo_le cs i
    have hc' : (cntTo cs i : Int) ≤ 1000000 := by omega
    clear hle
    by_cases hlt : i < N
    · obtain ⟨d0, -⟩ := rs1.rl.cells (refL_get cs N i hlt)
      have SN := Lib.hid (cntTo_snoc cs i)
      cases hb : (rn cs i).b with
      | true =>
        rw [hb] at d0 SN
        clear hb
        go_wp2
        go_round
        case rel => exact ⟨i + 1, by omega, by go_num, by rw [SN.out]; go_num⟩
        case measure => simp [intOf]; omega
      | false =>
        rw [hb] at d0 SN
        clear hb
        go_wp2
        go_round
        case rel => exact ⟨i + 1, by omega, by go_num, by rw [SN.out]; go_num⟩
        case measure => simp [intOf]; omega
    · obtain rfl : i = N := by omega
      go_wp2
      go_ret
      exact ⟨congrArg (fun z : Nat => Ending.returned (Value.int .i64 (z : Int))) CA.out, BB.out⟩

/-- A node's cells are read as a whole. -/
theorem RS.row {w : World} {g N cap : Nat} {cs : List Nd} (rs : RS w g N cap cs) {k : Nat} {c : Nd} (hk : Is cs k c) :
    k < N ∧ w.cell? ⟨g, k * 5, none⟩ = some (.bool true) ∧ w.cell? ⟨g, k * 5 + 1, none⟩ = some (.int .i64 c.asks) ∧ w.cell? ⟨g, k * 5 + 2, none⟩ = some (.int .i64 c.low) ∧ w.cell? ⟨g, k * 5 + 3, none⟩ = some (.int .i64 c.high) ∧ w.cell? ⟨g, k * 5 + 4, none⟩ = some (.int .i64 c.pins) := by
  have hl : k < N := Nat.lt_of_lt_of_le hk.lt rs.le
  have := rs.rl.cells (refL_get cs N k hl)
  rw [rn_is hk] at this
  exact ⟨hl, this⟩

theorem rask_no {w : World} {g N cap : Nat} {cs : List Nd} (rs : RS w g N cap cs) (h : Hd) (k : Int) (hk : thereB cs k = false) :
    Calls Try.prog 19 #[rsV h g N cap, .int .i64 k] w fun e w' => e = .returned (.tuple #[.int .i64 0, .int .i64 0, .int .i64 0, .int .i64 3]) ∧ Below w.heap.size w w' := by
  have BB := (Below.refl w.heap.size w).alloc (Nat.le_refl _) (rsO h g N cap)
  have H := ris_any (rs.keep BB) h k
  rw [hk] at H
  have H := Lib.hid H
  have BB := Lib.hid BB
  clear rs hk
  unfold rsV at *
  unfold rsO at *
  go_enter Try.func19, Try.ntmps19
  go_wp2_with fail
  refine H.out.mono ?_
  rintro e w2 ⟨rfl, hb⟩
  go_wp2_with fail
  exact bodyPost_ret (v := .tuple #[.int .i64 0, .int .i64 0, .int .i64 0, .int .i64 3]) (by simp [results, Try.results19, go_sem]) rfl ⟨rfl, BB.out.trans (hb.mono BB.out.size)⟩

theorem rask_yes {w : World} {g N cap : Nat} {cs : List Nd} (rs : RS w g N cap cs) (h : Hd) {k : Nat} {c : Nd} (hk : Is cs k c) :
    Calls Try.prog 19 #[rsV h g N cap, .int .i64 (k : Int)] w fun e w' => e = .returned (.tuple #[.int .i64 c.asks, .int .i64 c.low, .int .i64 c.high, .int .i64 0]) ∧ Below w.heap.size w w' := by
  have BB := (Below.refl w.heap.size w).alloc (Nat.le_refl _) (rsO h g N cap)
  have H := ris_any (rs.keep BB) h k
  rw [thereB_is hk] at H
  have H := Lib.hid H
  have R1 := Lib.hid (rs.keep BB)
  have BB := Lib.hid BB
  have HK := Lib.hid hk
  have BX : Hid ((w.alloc (rsO h g N cap)).cell? ⟨w.heap.size, 4, none⟩ = some (.slice (some ⟨g, 0, none⟩) N cap)) := by
    show _ = _
    rw [cell_of_row _ _ 4 _ _ _ (heap_alloc_new w (rsO h g N cap))]; rfl
  clear rs hk
  unfold rsV at *
  unfold rsO at *
  go_enter Try.func19, Try.ntmps19
  go_wp2_with fail
  refine H.out.mono ?_
  rintro e w2 ⟨rfl, hb⟩
  obtain ⟨hl, d0, d1, d2, d3, d4⟩ := (R1.out.keep hb).row HK.out
  have c4 : w2.cell? ⟨w.heap.size, 4, none⟩ = some (.slice (some ⟨g, 0, none⟩) N cap) := (hb.cell (p := ⟨w.heap.size, 4, none⟩) (by simp)).trans BX.out
  have HB := Lib.hid (BB.out.trans (hb.mono BB.out.size))
  clear hb
  go_wp2_with fail
  go_quiet (fail)
  go_wp2_with fail
  exact bodyPost_ret (v := .tuple #[.int .i64 c.asks, .int .i64 c.low, .int .i64 c.high, .int .i64 0]) (by simp [results, Try.results19, go_sem]) rfl ⟨rfl, below_drewN (HB.out.alloc HB.out.size _) _⟩

end Go.Proofs.Yteeffabmafakiaa
