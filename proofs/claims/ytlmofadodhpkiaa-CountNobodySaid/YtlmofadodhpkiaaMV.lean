/- Merged: CFirst, CFst, CFirstL. -/
import Derived.Test.YtlmofadodhpkiaaMQ
import Derived.Test.YtlmofadodhpkiaaMU
import Derived.Test.YtlmofadodhpkiaaMG

/- The first values for which a function says true, and when there are none. Plain: no walk. -/
namespace Go.Proofs.Ytlmofadodhpkiaa

theorem cntN_zero {f : (Nat → Bool) → Bool} : ∀ (l : List Nat) (val : Nat → Bool), cntN f l val = 0 → ∀ u : Nat → Bool, (∀ i, i ∉ l → u i = val i) → f u = false
  | [], val, h, u, hu => by
    have e : u = val := funext fun i => hu i (by simp)
    unfold cntN at h
    rw [e]
    cases hf : f val with
    | false => rfl
    | true => rw [hf, if_pos rfl] at h; cases h
  | v :: r, val, h, u, hu => by
    unfold cntN at h
    have h0 := cntN_zero (f := f) r (upd val v false) (by omega) u
    have h1 := cntN_zero (f := f) r (upd val v true) (by omega) u
    cases hv : u v with
    | false =>
      refine h0 fun i hi => ?_
      unfold upd
      by_cases e : i = v
      · rw [if_pos e, e, hv]
      · rw [if_neg e]; exact hu i (by simp [e, hi])
    | true =>
      refine h1 fun i hi => ?_
      unfold upd
      by_cases e : i = v
      · rw [if_pos e, e, hv]
      · rw [if_neg e]; exact hu i (by simp [e, hi])

variable {V : Nat} {cs : List Nd}

theorem Says_below (g : NGood V cs) {val val' : Nat → Bool} (he : ∀ i : Nat, i < V → val i = val' i) : ∀ k c, Is cs k c → Says V cs val k = Says V cs val' k := by
  refine g.ind (P := fun k => Says V cs val k = Says V cs val' k) ?_ ?_ ?_
  · rw [Says_zero, Says_zero]
  · rw [Says_one, Says_one]
  · intro k c hk h il ih
    have ho := g.ok k c hk h
    rw [Says_step g val hk h, Says_step g val' hk h, ← he c.asks.toNat (by omega)]
    split
    · exact ih
    · exact il

/-- A node's values are none just if it is 0, whatever is said ahead of what it asks. -/
theorem count_zero (g : NGood V cs) {k u : Nat} {c : Nd} (h : Is cs k c) (hu : (u : Int) ≤ c.asks) (l : List Nat) (hl : ∀ i, u ≤ i → i < V → i ∈ l) (val : Nat → Bool) : cntN (fun val => Says V cs val k) l val = 0 ↔ k = 0 := by
  constructor
  · intro h0
    obtain ⟨p, i0⟩ := g.is0
    refine canon g h i0 fun x => ?_
    rw [Says_zero]
    have hz := cntN_zero l val h0 (fun i => if i ∈ l then x i else val i) (fun i hi => if_neg hi)
    rw [← hz]
    show Says V cs x k = Says V cs (fun i => if i ∈ l then x i else val i) k
    rw [Says_below g (val := x) (val' := fun i => if i < V then x i else (fun i => if i ∈ l then x i else val i) i) (fun i hi => by show x i = if i < V then _ else _; rw [if_pos hi]) k c h]
    refine Says_agree g k c h fun d hd i hi => ?_
    obtain rfl := h.same hd
    show (if i < V then x i else _) = _
    by_cases hV : i < V
    · rw [if_pos hV, if_pos (hl i (by omega) hV)]
    · rw [if_neg hV]
  · rintro rfl
    exact cntN_none (fun val => Says_zero val) l val

/-- The first values, variable by variable, false ahead of true. -/
def firstB (f : (Nat → Bool) → Bool) : List Nat → (Nat → Bool) → List Bool
  | [], _ => []
  | v :: r, val => decide (cntN f r (upd val v false) = 0) :: firstB f r (upd val v (decide (cntN f r (upd val v false) = 0)))

theorem firstB_congr {f g : (Nat → Bool) → Bool} (h : ∀ val, f val = g val) : ∀ l val, firstB f l val = firstB g l val
  | [], _ => rfl
  | v :: r, val => by unfold firstB; rw [cntN_congr h r, firstB_congr h r]
theorem firstB_len (f : (Nat → Bool) → Bool) : ∀ l val, (firstB f l val).length = l.length
  | [], _ => rfl
  | v :: r, val => by unfold firstB; rw [List.length_cons, firstB_len f r, List.length_cons]

/-- Four bits turned about. -/
def rev4 (k : Nat) : Nat := k / 8 % 2 + k / 4 % 2 * 2 + k / 2 % 2 * 4 + k % 2 * 8

def row4 (n : Nat) : List Bool := [n.testBit 0, n.testBit 1, n.testBit 2, n.testBit 3]

theorem first4_any {G : Nat → Bool} {k : Nat} (hk : k < 16) (h : G (rev4 k) = true) (hb : ∀ j, j < k → G (rev4 j) = false) (val : Nat → Bool) : firstB (fun val => G (tix val 4 0 0)) [0, 1, 2, 3] val = row4 (rev4 k) := by
  have e : ∀ j, j < k → G (rev4 j) = false := hb
  rcases (by omega : k = 0 ∨ k = 1 ∨ k = 2 ∨ k = 3 ∨ k = 4 ∨ k = 5 ∨ k = 6 ∨ k = 7 ∨ k = 8 ∨ k = 9 ∨ k = 10 ∨ k = 11 ∨ k = 12 ∨ k = 13 ∨ k = 14 ∨ k = 15) with rfl | rfl | rfl | rfl | rfl | rfl | rfl | rfl | rfl | rfl | rfl | rfl | rfl | rfl | rfl | rfl
  all_goals
    have d0 := e 0; have d1 := e 1; have d2 := e 2; have d3 := e 3; have d4 := e 4; have d5 := e 5; have d6 := e 6; have d7 := e 7
    have d8 := e 8; have d9 := e 9; have d10 := e 10; have d11 := e 11; have d12 := e 12; have d13 := e 13; have d14 := e 14
    simp [rev4] at h d0 d1 d2 d3 d4 d5 d6 d7 d8 d9 d10 d11 d12 d13 d14
    simp [firstB, cntN, tix, upd, row4, rev4, Nat.testBit, *]
end Go.Proofs.Ytlmofadodhpkiaa

/- Layer 6 (count): First. -/
namespace Go.Proofs.Ytlmofadodhpkiaa
open Go.ChangeShapes Go.WideShapes Go.ChangeAt Go.RowKit Go.Maps

/-- Of n variables: values that are no earlier than others, false ahead of true, variable by variable. -/
def LexGe (y val : Nat → Bool) (n : Nat) : Prop := (∀ i, i < n → val i = y i) ∨ ∃ i, i < n ∧ (∀ j, j < i → val j = y j) ∧ y i = false ∧ val i = true

theorem LexGe.more {y val : Nat → Bool} {n : Nat} (h : LexGe y val n) : ∀ n', n ≤ n' → (∀ i, n ≤ i → i < n' → y i = false) → LexGe y val n' := by
  intro n' hn
  induction n' with
  | zero => intro _; obtain rfl : n = 0 := by omega
            exact h
  | succ m ih =>
    intro hy
    by_cases e : n = m + 1
    · rw [← e]; exact h
    · rcases ih (by omega) (fun i h1 h2 => hy i h1 (by omega)) with h1 | ⟨i, h1, h2⟩
      · cases hv : val m with
        | false =>
          refine .inl fun i hi => ?_
          by_cases e2 : i = m
          · rw [e2, hv, hy m (by omega) (by omega)]
          · exact h1 i (by omega)
        | true => exact .inr ⟨m, by omega, h1, hy m (by omega) (by omega), hv⟩
      · exact .inr ⟨i, by omega, h2⟩

structure FstSt (V : Nat) (cs : List Nd) (k j : Nat) (d : Nd) (y : List Bool) : Prop where
  is : Is cs j d
  ne : j ≠ 0
  len : y.length = V
  open' : ∀ i : Nat, d.asks ≤ i → valOf y i = false
  same : ∀ val, (∀ i : Nat, (i : Int) < d.asks → val i = valOf y i) → Says V cs val k = Says V cs val j
  least : ∀ val, Says V cs val k = true → LexGe (valOf y) val d.asks.toNat

theorem valOf_set {y : List Bool} {v : Nat} (hv : v < y.length) (b : Bool) (i : Nat) : valOf (y.set v b) i = if i = v then b else valOf y i := by
  unfold valOf
  by_cases e : i = v
  · subst e; rw [if_pos rfl, List.getElem?_set_self hv]; rfl
  · rw [if_neg e, List.getElem?_set_ne (fun x => e x.symm)]
theorem valOf_none (V i : Nat) : valOf (List.replicate V false) i = false := by
  unfold valOf
  rw [List.getElem?_replicate]
  split <;> rfl

section
variable {V : Nat} {cs : List Nd} {k j : Nat} {d : Nd} {y : List Bool}
theorem FstSt.start {c : Nd} (hc : Is cs k c) (h0 : k ≠ 0) : FstSt V cs k k c (List.replicate V false) :=
  ⟨hc, h0, by simp, fun i _ => valOf_none V i, fun _ _ => rfl, fun val _ => LexGe.more (n := 0) (.inl fun i h => by omega) _ (by omega) fun i _ _ => valOf_none V i⟩

theorem FstSt.low (s : FstSt V cs k j d y) (g : NGood V cs) (h2 : 2 ≤ j) (hl : d.low ≠ 0) : ∃ d', FstSt V cs k d.low d' y ∧ d.asks < d'.asks := by
  obtain ⟨d', i', l'⟩ := g.lo j d h2 s.is
  have ho := g.ok j d h2 s.is
  refine ⟨d', ⟨i', hl, s.len, fun i hi => s.open' i (by omega), fun val hv => ?_, fun val hv => ?_⟩, l'⟩
  · rw [s.same val (fun i hi => hv i (by omega)), Says_step g val h2 s.is, hv d.asks.toNat (by omega), s.open' d.asks.toNat (by omega)]
    simp
  · rcases s.least val hv with h1 | ⟨i, h1, h3⟩
    · exact LexGe.more (n := d.asks.toNat) (.inl h1) _ (by omega) fun i h4 _ => s.open' i (by omega)
    · exact .inr ⟨i, by omega, h3⟩

theorem FstSt.high (s : FstSt V cs k j d y) (g : NGood V cs) (h2 : 2 ≤ j) (hl : d.low = 0) : ∃ d', FstSt V cs k d.high d' (y.set d.asks.toNat true) ∧ d.asks < d'.asks := by
  obtain ⟨d', i', l'⟩ := g.hi j d h2 s.is
  have ho := g.ok j d h2 s.is
  have hv : d.asks.toNat < y.length := by rw [s.len]; omega
  refine ⟨d', ⟨i', fun e => ho.2.2 (by rw [hl, e]), by rw [List.length_set]; exact s.len, fun i hi => ?_, fun val hval => ?_, fun val hval => ?_⟩, l'⟩
  · rw [valOf_set hv, if_neg (by omega)]; exact s.open' i (by omega)
  · have e1 := hval d.asks.toNat (by omega)
    rw [valOf_set hv, if_pos rfl] at e1
    rw [s.same val (fun i hi => by have := hval i (by omega); rwa [valOf_set hv, if_neg (by omega)] at this), Says_step g val h2 s.is, e1]
    simp
  · have key : LexGe (valOf (y.set d.asks.toNat true)) val (d.asks.toNat + 1) := by
      rcases s.least val hval with h1 | ⟨i, h1, h3, h4, h5⟩
      · have e1 := s.same val fun i hi => h1 i (by omega)
        rw [hval, Says_step g val h2 s.is, hl] at e1
        have e2 : val d.asks.toNat = true := by
          cases hx : val d.asks.toNat with
          | true => rfl
          | false => rw [hx, if_neg (by simp), Says_zero] at e1; cases e1
        refine .inl fun i hi => ?_
        rw [valOf_set hv]
        by_cases e : i = d.asks.toNat
        · rw [if_pos e, e, e2]
        · rw [if_neg e]; exact h1 i (by omega)
      · refine .inr ⟨i, by omega, fun m hm => ?_, ?_, h5⟩
        · rw [valOf_set hv, if_neg (by omega)]; exact h3 m hm
        · rw [valOf_set hv, if_neg (by omega)]; exact h4
    exact key.more _ (by omega) fun i h4 _ => by rw [valOf_set hv, if_neg (by omega)]; exact s.open' i (by omega)
end

def FirstOut (V : Nat) (cs : List Nd) (k : Nat) (w : World) (e : Ending) (w' : World) : Prop :=
  ∃ (r : Nat) (y : List Bool), e = .returned (.tuple #[.slice (some ⟨r, 0, none⟩) V V, .int .i64 0]) ∧ w'.heap[r]? = some (.cells (boolRow y) 4) ∧ Below w.heap.size w w' ∧ y.length = V ∧ Says V cs (valOf y) k = true ∧ ∀ val, Says V cs val k = true → LexGe (valOf y) val V

theorem fst_cell {w : World} {r v : Nat} {y : List Bool} (h : w.heap[r]? = some (.cells (boolRow y) 4)) (hv : v < y.length) : ∃ b : Bool, w.cell? ⟨r, v, none⟩ = some (.bool b) := by
  refine ⟨y[v], ?_⟩
  rw [cell_of_row _ _ _ _ _ _ h]
  unfold boolRow
  simp [hv]
theorem fst_set {w : World} {r v : Nat} {y : List Bool} (h : w.heap[r]? = some (.cells (boolRow y) 4)) (b : Bool) : (w.setCell ⟨r, v, none⟩ (.bool b)).heap[r]? = some (.cells (boolRow (y.set v b)) 4) := by
  rw [heap_setCell_same _ _ _ _ _ _ h]
  unfold boolRow
  rw [List.map_set]
  simp

set_option maxRecDepth 100000 in
set_option maxHeartbeats 4000000 in
theorem first_yes {w : World} {m : Mem} {h : Hd} {cs : List Nd} (s : St w m h cs) {k : Nat} {c : Nd} (hk : Is cs k c) (h0 : k ≠ 0) :
    Calls Try.prog 23 #[ptrV m.s, .int .i64 (k : Int)] w (FirstOut h.V cs k w) := by
  have RF := Lib.hid (cref_yes s hk)
  have S := Lib.hid s
  have F0 := Lib.hid (FstSt.start (V := h.V) hk h0)
  have hV := s.V
  have hmk := run_make_bools h.V (by omega)
  have hk0 : ((k : Int) == 0) = false := by simp; omega
  have IS := Lib.hid hk
  clear s hk h0
  unfold ptrV at *
  go_enter Try.func23, Try.ntmps23
  go_wp2_with fail
  refine RF.out.mono ?_
  rintro e w1 ⟨rfl, hb1⟩
  have S1 := Lib.hid (S.out.keep hb1)
  have B1 := Lib.hid hb1
  have VS := Lib.hid (vars_store S1.out.lay)
  clear hb1 RF
  unfold ptrV at *
  go_wp2_with fail
  refine VS.out.mono ?_
  rintro e w' ⟨rfl, rfl⟩
  clear VS
  go_wp2_with fail
  go_loopw [1] (fun kv wr => ∃ (j : Nat) (d : Nd) (y : List Bool), kv = .int .i64 (j : Int) ∧ FstSt h.V cs k j d y ∧ wr.heap[w1.heap.size]? = some (.cells (boolRow y) 4) ∧ Below w1.heap.size w1 wr) (fun kv _ => rkOf h.V cs (intOf kv).toNat)
  case atStart =>
    refine ⟨k, c, List.replicate h.V false, rfl, F0.out, ?_, (Below.refl _ _).alloc (Nat.le_refl _) _⟩
    rw [heap_alloc_new]
    unfold boolRow
    simp
  case round =>
    obtain ⟨j, d, y, rfl, hf, hrow, hbel⟩ := hrel
    have g := S1.out.good
    have S2 := Lib.hid (S1.out.keep hbel)
    have HF := Lib.hid hf
    have HR := Lib.hid hrow
    have HB := Lib.hid hbel
    by_cases h1 : j = 1
    · subst h1
      have e1 : ((1 : Nat) : Int) = 1 := rfl
      rw [e1]
      have ha := (g.base (by omega) hf.is).1
      have FIN : Hid (Says h.V cs (valOf y) k = true ∧ ∀ val, Says h.V cs val k = true → LexGe (valOf y) val h.V) := by
        refine Lib.hid ⟨?_, fun val hv => ?_⟩
        · rw [HF.out.same (valOf y) (fun _ _ => rfl), Says_one]
        · have := HF.out.least val hv
          rw [ha] at this
          exact this
      clear hf hrow hbel g ha
      go_wp2_with fail
      go_ret2
      exact ⟨_, y, rfl, HR.out, B1.out.trans (HB.out.mono B1.out.size), HF.out.len, FIN.out⟩
    · have h2 : 2 ≤ j := by have := hf.ne; omega
      have hj1 : ((j : Int) != 1) = true := by simp; omega
      have ho := g.ok j d h2 hf.is
      obtain ⟨v, ev⟩ : ∃ v : Nat, d.asks = v := ⟨d.asks.toNat, by omega⟩
      have evn : d.asks.toNat = v := by omega
      have hvV : v < h.V := by omega
      have hvV' : (v : Int) < h.V := by omega
      have ND := node_yesB S2.out hf.is
      rw [ev] at ND
      have ND := Lib.hid ND
      have G := Lib.hid g
      have H2 := Lib.hid h2
      have EVN := Lib.hid evn
      have RK : Hid (rkOf h.V cs j = rk h.V d) := rkOf_is hf.is
      clear hf hrow hbel g ho h1 h2 ev evn
      unfold ptrV at *
      go_wp2_with fail
      refine ND.out.mono ?_
      rintro e w2 ⟨rfl, hb2⟩
      have HB2 := Lib.hid (HB.out.trans (hb2.mono HB.out.size))
      have HR2 : Hid (w2.heap[w1.heap.size]? = some (.cells (boolRow y) 4)) := by
        have := HR.out
        exact Lib.hid ((hb2.block _ (row_lt this)).trans this)
      clear hb2 ND
      by_cases hl : d.low = 0
      · obtain ⟨d', fs, la⟩ := HF.out.high G.out H2.out hl
        rw [EVN.out] at fs
        obtain ⟨b0, crow⟩ := fst_cell HR2.out (v := v) (by rw [HF.out.len]; exact hvV)
        have frow : w2.frozen? ⟨w1.heap.size, v, none⟩ = false := frozen_of_row _ _ _ _ _ HR2.out
        have RK2 : Hid (rkOf h.V cs d.high = rk h.V d') := rkOf_is fs.is
        have rr := G.out.range fs.is
        have LA := Lib.hid la
        have FS := Lib.hid fs
        have hl' : ((d.low : Int) != 0) = false := by rw [hl]; rfl
        have RR := Lib.hid rr
        clear fs hl la rr
        go_wp2_with fail
        go_roundw
        case rel => exact ⟨_, d', _, rfl, FS.out, fst_set HR2.out true, set_below HB2.out (Nat.le_refl _) _ _⟩
        case measure =>
          show rkOf h.V cs ((d.high : Int)).toNat < rkOf h.V cs ((j : Int)).toNat
          rw [Int.toNat_natCast, Int.toNat_natCast, RK.out, RK2.out]
          have := LA.out
          have := RR.out
          unfold rk
          omega
      · obtain ⟨d', fs, la⟩ := HF.out.low G.out H2.out hl
        have RK2 : Hid (rkOf h.V cs d.low = rk h.V d') := rkOf_is fs.is
        have rr := G.out.range fs.is
        have LA := Lib.hid la
        have FS := Lib.hid fs
        have RR := Lib.hid rr
        have hl' : ((d.low : Int) != 0) = true := by simp; omega
        clear fs hl la rr
        go_wp2_with fail
        go_roundw
        case rel => exact ⟨_, d', _, rfl, FS.out, HR2.out, HB2.out⟩
        case measure =>
          show rkOf h.V cs ((d.low : Int)).toNat < rkOf h.V cs ((j : Int)).toNat
          rw [Int.toNat_natCast, Int.toNat_natCast, RK.out, RK2.out]
          have := LA.out
          have := RR.out
          unfold rk
          omega

set_option maxRecDepth 100000 in
theorem first_zero {w : World} {m : Mem} {h : Hd} {cs : List Nd} (s : St w m h cs) :
    Calls Try.prog 23 #[ptrV m.s, .int .i64 0] w fun e w' => e = .returned (.tuple #[.slice none 0 0, .int .i64 3]) ∧ Below w.heap.size w w' := by
  obtain ⟨p, i0⟩ := s.good.is0
  have RF := cref_yes s i0
  change Calls _ _ #[_, .int .i64 0] _ _ at RF
  have RF := Lib.hid RF
  clear s i0
  unfold ptrV at *
  go_enter Try.func23, Try.ntmps23
  go_wp2_with fail
  refine RF.out.mono ?_
  rintro e w1 ⟨rfl, hb1⟩
  clear RF
  go_wp2_with fail
  go_ret2
  exact ⟨rfl, hb1⟩

set_option maxRecDepth 100000 in
theorem first_nbs {w : World} {pv : Value} (hn : NBs w pv) (k : Int) :
    Calls Try.prog 23 #[pv, .int .i64 k] w fun e w' => e = .returned (.tuple #[.slice none 0 0, .int .i64 1]) ∧ w = w' := by
  have RF := Lib.hid (cref_nbs hn k)
  clear hn
  go_enter Try.func23, Try.ntmps23
  go_wp2_with fail
  refine RF.out.mono ?_
  rintro e w1 ⟨rfl, rfl⟩
  clear RF
  go_wp2_with fail
  go_ret2
  exact ⟨rfl, rfl⟩
end Go.Proofs.Ytlmofadodhpkiaa

/- Layer 6's laws: the first of sixteen answers; SameBits. -/
namespace Go.Proofs.Ytlmofadodhpkiaa
open Go.ChangeShapes Go.WideShapes Go.ChangeAt Go.RowKit Go.Maps

def lex4 (a b c d : Bool) : Nat := (if a then 8 else 0) + (if b then 4 else 0) + (if c then 2 else 0) + (if d then 1 else 0)
theorem lex4_ge {y val : Nat → Bool} (h : LexGe y val 4) : lex4 (y 0) (y 1) (y 2) (y 3) ≤ lex4 (val 0) (val 1) (val 2) (val 3) := by
  have key : ∀ a b c d, lex4 a b c d ≤ 15 := by decide
  have k3 : ∀ b c d b' c' d', lex4 false b c d ≤ lex4 true b' c' d' := by decide
  have k2 : ∀ a c d c' d', lex4 a false c d ≤ lex4 a true c' d' := by decide
  have k1 : ∀ a b d d', lex4 a b false d ≤ lex4 a b true d' := by decide
  have k0 : ∀ a b c, lex4 a b c false ≤ lex4 a b c true := by decide
  rcases h with h | ⟨i, hi, h1, h2, h3⟩
  · rw [h 0 (by omega), h 1 (by omega), h 2 (by omega), h 3 (by omega)]; exact Nat.le_refl _
  · rcases (by omega : i = 0 ∨ i = 1 ∨ i = 2 ∨ i = 3) with rfl | rfl | rfl | rfl
    · rw [h2, h3]; exact k3 _ _ _ _ _ _
    · rw [h1 0 (by omega), h2, h3]; exact k2 _ _ _ _ _
    · rw [h1 0 (by omega), h1 1 (by omega), h2, h3]; exact k1 _ _ _ _
    · rw [h1 0 (by omega), h1 1 (by omega), h1 2 (by omega), h2, h3]; exact k0 _ _ _
theorem rev4_lt : ∀ k, k < 16 → rev4 k < 16 := by decide
theorem lex4_lt : ∀ a b c d, lex4 a b c d < 16 := by decide
theorem lex4_rev : ∀ a b c d, rev4 (lex4 a b c d) = tC a b c d := by decide
theorem lex4_row : ∀ a b c d, row4 (rev4 (lex4 a b c d)) = [a, b, c, d] := by decide
theorem lex4_back : ∀ k, k < 16 → lex4 ((rev4 k).testBit 0) ((rev4 k).testBit 1) ((rev4 k).testBit 2) ((rev4 k).testBit 3) = k := by decide
theorem rev4_rev4 : ∀ k, k < 16 → rev4 (rev4 k) = k := by decide

theorem first_row {G : Nat → Bool} {y : List Bool} (hl : y.length = 4) (hy : G (tix (valOf y) 4 0 0) = true) (hm : ∀ val, G (tix val 4 0 0) = true → LexGe (valOf y) val 4) {i : Nat} (hi : i < 16) (h : G (rev4 i) = true) (hb : ∀ j, j < i → G (rev4 j) = false) : y = row4 (rev4 i) := by
  obtain ⟨a, b, c, d, rfl⟩ : ∃ a b c d, y = [a, b, c, d] := by
    match y, hl with
    | [a, b, c, d], _ => exact ⟨a, b, c, d, rfl⟩
  have h1 := lex4_ge (hm (fun u => (rev4 i).testBit u) (by rw [tix_back (rev4_lt i hi)]; exact h))
  have h2 : lex4 a b c d ≤ i := by
    have := lex4_back i hi
    rw [this] at h1
    exact h1
  have h3 : lex4 a b c d = i := by
    rcases Nat.lt_or_ge (lex4 a b c d) i with h4 | h4
    · have := hb _ h4
      rw [lex4_rev] at this
      have hy : G (tC a b c d) = true := hy
      rw [this] at hy
      cases hy
    · omega
  rw [← h3, lex4_row]

/-- The number turned about, bit by bit. -/
def rvN (i : Nat) : Nat → Nat
  | 0 => 0
  | v + 1 => rvN i v ||| if bitZ (i : Int) (3 - v) then 2 ^ v else 0
theorem rvN_lt : ∀ i, i < 16 → ∀ v, v < 5 → rvN i v < 16 := by decide
theorem rvN_rev : ∀ i, i < 16 → rvN i 4 = rev4 i := by decide

theorem or_small {n m : Nat} (hn : n < 16) (hm : m < 16) : bits BinOp.or IntKind.i64 (n : Int) (m : Int) = ((n ||| m : Nat) : Int) := by
  have h : n ||| m < 16 := Nat.or_lt_two_pow (n := 4) hn hm
  show IntKind.i64.wrap ((BitVec.ofInt 64 n ||| BitVec.ofInt 64 m).toNat : Int) = _
  rw [BitVec.toNat_or, BitVec.toNat_ofInt, BitVec.toNat_ofInt, IntKind.wrap_i64]
  have e1 : ((n : Int) % (2 ^ 64 : Nat)).toNat = n := by omega
  have e2 : ((m : Int) % (2 ^ 64 : Nat)).toNat = m := by omega
  rw [e1, e2]
  omega

theorem zero_of_bits {x : Nat} (hx : x < 65536) (h : ∀ n, n < 16 → bitZ (x : Int) n = false) : x = 0 := by
  have h1 := sumTo_nat x 16
  rw [sumTo_congr (g := fun _ => false) 16 h, show (2 : Nat) ^ 16 = 65536 from rfl, Nat.mod_eq_of_lt hx] at h1
  have h2 : sumTo (fun _ => false) 16 = 0 := by decide
  omega

set_option maxRecDepth 100000 in
set_option maxHeartbeats 4000000 in
theorem sameBits_any {w : World} {A B : Option Addr} {xs ys : List Bool} {c d : Nat} (ha : Rd w A (xs.map Value.bool)) (hb : Rd w B (ys.map Value.bool)) (hl : xs.length ≤ 1000) (heq : xs = ys) :
    Calls Try.prog 24 #[.slice A xs.length c, .slice B ys.length d] w fun e w' => e = .returned (.bool true) ∧ ∃ q, w' = w.drewN q := by
  subst heq
  have HA := Lib.hid ha
  have HB := Lib.hid hb
  clear ha hb
  go_enter Try.func24, Try.ntmps24
  go_wp2_with fail
  go_loopw [5] (fun iv wr => ∃ i : Nat, i ≤ xs.length ∧ iv = .int .i64 (i : Int) ∧ ∃ q, wr = w.drewN q) (fun iv _ => xs.length - (intOf iv).toNat)
  case atStart => exact ⟨0, Nat.zero_le _, rfl, 0, rfl⟩
  case round =>
    obtain ⟨i, hi, rfl, q, rfl⟩ := hrel
    by_cases hlt : i < xs.length
    · have hlt' : (i : Int) < xs.length := by omega
      obtain ⟨x, hx⟩ : ∃ x, xs[i]? = some x := ⟨_, List.getElem?_eq_getElem hlt⟩
      rcases HA.out with hnil | ⟨b1, o1, rfl, hb1, hc1⟩
      · exfalso
        have : xs = [] := by simpa using hnil
        rw [this] at hlt
        simp at hlt
      rcases HB.out with hnil | ⟨b2, o2, rfl, hb2, hc2⟩
      · exfalso
        have : xs = [] := by simpa using hnil
        rw [this] at hlt
        simp at hlt
      have c1 : w.cell? ⟨b1, o1 + i, none⟩ = some (.bool x) := hc1 i _ (by simp [hx])
      have c2 : w.cell? ⟨b2, o2 + i, none⟩ = some (.bool x) := hc2 i _ (by simp [hx])
      clear hx hb1 hb2 hc1 hc2 HA HB
      go_wp2_with fail
      go_quiet (fail)
      go_wp2_with fail
      go_roundw
      case rel => exact ⟨i + 1, by omega, by go_num, _, rfl⟩
      case measure => simp [intOf]; omega
    · obtain rfl : i = xs.length := by omega
      clear HA HB
      go_wp2_with fail
      go_ret
      exact ⟨rfl, q, rfl⟩
end Go.Proofs.Ytlmofadodhpkiaa
