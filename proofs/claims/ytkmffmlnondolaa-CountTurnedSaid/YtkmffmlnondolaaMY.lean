/- Merged: CNumL, CNumW, CNumX, CNumY, CNumO. -/
import Derived.Test.YtkmffmlnondolaaMX
import Derived.Test.YtkmffmlnondolaaMV
import Derived.Test.YtkmffmlnondolaaMT
import Derived.Laws.EntriesVeiled

/- Layer 6 (count): the numbers of a node, sorted: those below 2^n of whose bits the function says true. Plain: no walk. -/
namespace Go.Proofs.Ytkmffmlnondolaa

def bitN (x i : Nat) : Bool := x / 2 ^ i % 2 == 1

theorem bit_numOf (n : Nat) (y : Nat → Bool) (i : Nat) (hi : i < n) : bitN (numOf n y) i = y i := by
  have hl : ((List.range n).map y).length = n := by simp
  have e := B6.putN_getN ((List.range n).map y)
  have h1 : (B6.putN (numOf n y) n)[i]? = ((List.range n).map y)[i]? := by
    unfold numOf
    rw [hl] at e
    rw [e]
  have h2 : i < (B6.putN (numOf n y) n).length := by rw [B6.putN_length]; exact hi
  rw [List.getElem?_eq_getElem h2, B6.putN_get] at h1
  simpa [bitN, hi] using h1
theorem numOf_lt (n : Nat) (y : Nat → Bool) : numOf n y < 2 ^ n := by
  have := B6.getN_lt ((List.range n).map y)
  simpa [numOf] using this
theorem numOf_congr {n : Nat} {y y' : Nat → Bool} (h : ∀ i, i < n → y i = y' i) : numOf n y = numOf n y' := by
  unfold numOf
  congr 1
  exact List.map_congr_left fun i hi => h i (List.mem_range.1 hi)
theorem numOf_bit (n x : Nat) (hx : x < 2 ^ n) : numOf n (bitN x) = x := by
  have e : (List.range n).map (bitN x) = B6.putN x n := by
    refine List.ext_getElem (by rw [B6.putN_length]; simp) fun i h1 h2 => ?_
    rw [B6.putN_get]
    simp [bitN]
  unfold numOf
  rw [e, B6.getN_putN n x hx]

theorem mem_numsS (n : Nat) (F : (Nat → Bool) → Bool) (x : Nat) : ∀ o y, o.Nodup → (x ∈ numsS n F o y ↔ ∃ y', AgreeOut o y y' ∧ F y' = true ∧ numOf n y' = x)
  | [], y, _ => by
    unfold numsS
    constructor
    · intro h
      split at h
      · next hf => exact ⟨y, .refl _ _, hf, (List.mem_singleton.1 h).symm⟩
      · simp at h
    · rintro ⟨y', ha, hf, rfl⟩
      have e : y' = y := funext fun i => ha i (by simp)
      subst e
      rw [if_pos hf]
      simp
  | b :: r, y, hn => by
    obtain ⟨hb, hr⟩ := List.nodup_cons.1 hn
    unfold numsS
    rw [List.mem_append, mem_numsS n F x r _ hr, mem_numsS n F x r _ hr]
    constructor
    · rintro (⟨y', ha, hf, e⟩ | ⟨y', ha, hf, e⟩)
      · exact ⟨y', ha.upd, hf, e⟩
      · exact ⟨y', ha.upd, hf, e⟩
    · rintro ⟨y', ha, hf, e⟩
      have h1 : AgreeOut r (upd y b (y' b)) y' := fun i hi => by
        unfold upd
        by_cases hib : i = b
        · rw [if_pos hib, hib]
        · rw [if_neg hib]; exact ha i (by simp [hib, hi])
      cases hv : y' b with
      | false => rw [hv] at h1; exact .inl ⟨y', h1, hf, e⟩
      | true => rw [hv] at h1; exact .inr ⟨y', h1, hf, e⟩

theorem nodup_numsS (n : Nat) (F : (Nat → Bool) → Bool) : ∀ o y, o.Nodup → (∀ b ∈ o, b < n) → (numsS n F o y).Nodup
  | [], y, _, _ => by unfold numsS; split <;> simp
  | b :: r, y, hn, hlt => by
    obtain ⟨hb, hr⟩ := List.nodup_cons.1 hn
    have hlr : ∀ a ∈ r, a < n := fun a ha => hlt a (List.mem_cons_of_mem _ ha)
    unfold numsS
    refine List.nodup_append.2 ⟨nodup_numsS n F r _ hr hlr, nodup_numsS n F r _ hr hlr, fun x hx z hz e => ?_⟩
    subst e
    obtain ⟨y1, a1, _, e1⟩ := (mem_numsS n F x r _ hr).1 hx
    obtain ⟨y2, a2, _, e2⟩ := (mem_numsS n F x r _ hr).1 hz
    have b1 := bit_numOf n y1 b (hlt b (by simp))
    have b2 := bit_numOf n y2 b (hlt b (by simp))
    rw [e1, a1.at_ hb] at b1
    rw [e2, a2.at_ hb, b1] at b2
    exact absurd b2 (by decide)

theorem mem_nums {n : Nat} {F : (Nat → Bool) → Bool} {o : List Nat} (hn : o.Nodup) (ho : ∀ i, i ∈ o ↔ i < n) (hF : ∀ y y', (∀ i, i < n → y i = y' i) → F y = F y') (y : Nat → Bool) (x : Nat) : x ∈ numsS n F o y ↔ x < 2 ^ n ∧ F (bitN x) = true := by
  rw [mem_numsS n F x o y hn]
  constructor
  · rintro ⟨y', _, hf, rfl⟩
    exact ⟨numOf_lt n y', by rw [hF _ y' fun i hi => bit_numOf n y' i hi]; exact hf⟩
  · rintro ⟨hx, hf⟩
    have h1 : ∀ i, i < n → (fun i => if i < n then bitN x i else y i) i = bitN x i := fun i hi => by simp [hi]
    exact ⟨fun i => if i < n then bitN x i else y i, fun i hi => if_neg fun h => hi ((ho i).2 h), by rw [hF _ _ h1]; exact hf, by rw [numOf_congr h1, numOf_bit n x hx]⟩

/-- Sorted, they rise from 0. -/
theorem sort_nums {n : Nat} {F : (Nat → Bool) → Bool} {o : List Nat} (hn : o.Nodup) (ho : ∀ i, i ∈ o ↔ i < n) (hF : ∀ y y', (∀ i, i < n → y i = y' i) → F y = F y') (y : Nat → Bool) :
    sortI ((numsS n F o y).map fun x : Nat => (x : Int)) = ((List.range (2 ^ n)).filter fun x => F (bitN x)).map fun x : Nat => (x : Int) := by
  have hp : ((numsS n F o y).map fun x : Nat => (x : Int)).Perm (((List.range (2 ^ n)).filter fun x => F (bitN x)).map fun x : Nat => (x : Int)) := by
    refine List.Perm.map _ ?_
    rw [List.perm_ext_iff_of_nodup (nodup_numsS n F o y hn fun b hb => (ho b).1 hb) (List.Pairwise.filter _ List.nodup_range)]
    intro x
    rw [mem_nums hn ho hF y x, List.mem_filter, List.mem_range]
  unfold sortI
  refine List.Perm.eq_of_pairwise (le := fun a b : Int => a ≤ b) (fun a b _ _ h1 h2 => Int.le_antisymm h1 h2) ?_ ?_ ((List.mergeSort_perm _ _).trans hp)
  · have := List.pairwise_mergeSort (le := fun x y : Int => decide (x ≤ y)) (fun a b c h1 h2 => by simp at h1 h2 ⊢; omega) (fun a b => by simp; omega) ((numsS n F o y).map fun x : Nat => (x : Int))
    exact this.imp fun h => by simpa using h
  · rw [List.pairwise_map]
    refine (List.Pairwise.filter _ List.pairwise_lt_range).imp fun h => ?_
    omega
end Go.Proofs.Ytkmffmlnondolaa

/- Layer 6 (count): the numbers of a node: what the closure of numbers goes. -/
namespace Go.Proofs.Ytkmffmlnondolaa
open Go.ChangeShapes Go.WideShapes Go.ChangeAt Go.RowKit Go.Maps

/-- The blocks of walk's variables: values, the list, the store, vars, walk; the values' row. -/
structure NEnv where
  v : Nat
  l : Nat
  s : Nat
  a : Nat
  f : Nat
  r : Nat
def NEnv.fv (E : NEnv) : Value := .func (.func 51) #[] #[ptrV E.v, ptrV E.l, ptrV E.s, ptrV E.a, ptrV E.f]

/-- Behind the walk's start (at block B) lie the list's rows alone. -/
structure NSt (E : NEnv) (m : Mem) (h : Hd) (cs : List Nd) (B n : Nat) (A : Option Addr) (c : Nat) (vs : List Nat) (R : List Nat) (y : Nat → Bool) (w : World) : Prop where
  st : St w m h cs
  ct : w.heap[E.s]? = some (.cells #[ptrV m.s] 22)
  cl : ∃ lv, w.heap[E.l]? = some (.cells #[lv] 27) ∧ NRow w B lv R
  cv : w.heap[E.v]? = some (.cells #[.slice (some ⟨E.r, 0, none⟩) n n] 95)
  row : w.heap[E.r]? = some (.cells (boolRow ((List.range n).map y)) 4)
  ca : w.heap[E.a]? = some (.cells #[.slice A n c] 27)
  cf : w.heap[E.f]? = some (.cells #[E.fv] 102)
  rd : Rd w A (nats vs)
  rdb : ∀ b off, A = some ⟨b, off, none⟩ → b < B ∧ b ≠ E.r ∧ b ≠ E.l
  own : ∀ i, m.own i → i < B ∧ i ≠ E.r ∧ i ≠ E.l
  lt : E.v < B ∧ E.l < B ∧ E.s < B ∧ E.a < B ∧ E.f < B ∧ E.r < B
  ne : E.a ≠ E.l
  size : B ≤ w.heap.size

/-- What the walk may turn: the values' row, the list's variable, and what lies behind. -/
def NEnv.may (E : NEnv) (B i : Nat) : Prop := i = E.r ∨ i = E.l ∨ B ≤ i

section
variable {E : NEnv} {m : Mem} {h : Hd} {cs : List Nd} {B n : Nat} {A : Option Addr} {c : Nat} {vs R : List Nat} {y : Nat → Bool} {w w' : World}
theorem NSt.keep (s : NSt E m h cs B n A c vs R y w) (hb : Below w.heap.size w w') : NSt E m h cs B n A c vs R y w' := by
  obtain ⟨lv, c1, c2⟩ := s.cl
  have k : ∀ {i o}, w.heap[i]? = some o → w'.heap[i]? = some o := fun h => (hb.block _ (row_lt h)).trans h
  exact ⟨s.st.keep hb, k s.ct, ⟨lv, k c1, c2.keep hb⟩, k s.cv, k s.row, k s.ca, k s.cf, s.rd.keep hb, s.rdb, s.own, s.lt, s.ne, Nat.le_trans s.size hb.size⟩

theorem NSt.set (s : NSt E m h cs B n A c vs R y w) (b : Nat) (x : Bool) : NSt E m h cs B n A c vs R (upd y b x) (w.setCell ⟨E.r, b, none⟩ (.bool x)) ∧ Turn (E.may B) w (w.setCell ⟨E.r, b, none⟩ (.bool x)) := by
  obtain ⟨lv, c1, c2⟩ := s.cl
  have ty : ∀ {i : Nat} {cs : Array Value} {t : TypeId} {fr : Nat × Nat}, t ≠ 4 → w.heap[i]? = some (.cells cs t fr) → i ≠ E.r := fun ht hi e => by
    rw [e, s.row] at hi
    injection hi with hi
    injection hi with _ hi
    exact ht hi.symm
  have k : ∀ {i o}, i ≠ E.r → w.heap[i]? = some o → (w.setCell ⟨E.r, b, none⟩ (.bool x)).heap[i]? = some o := fun hi h => (heap_setCell_other _ _ _ _ hi).trans h
  have t1 : Turn (fun i => i = E.r) w (w.setCell ⟨E.r, b, none⟩ (.bool x)) := (Turn.refl (fun i => i = E.r) w).setCell (p := ⟨E.r, b, none⟩) (.inl rfl) (.bool x)
  have t2 : Turn (E.may B) w (w.setCell ⟨E.r, b, none⟩ (.bool x)) := ⟨t1.os, t1.tape, t1.output, t1.size, fun i hi hno => t1.block i hi fun e => hno (.inl e)⟩
  refine ⟨⟨s.st.apart t1 (fun i hi e => (s.own i hi).2.1 e), k (ty (by decide) s.ct) s.ct, ⟨lv, k (ty (by decide) c1) c1, ?_⟩, k (ty (by decide) s.cv) s.cv, ?_, k (ty (by decide) s.ca) s.ca, k (ty (by decide) s.cf) s.cf, ?_, s.rdb, s.own, s.lt, s.ne, ?_⟩, t2⟩
  · refine ⟨c2.1, ?_⟩
    rcases c2.2 with hx | ⟨g, cap, cur, e, hg, hr, hc⟩
    · exact .inl hx
    · exact .inr ⟨g, cap, cur, e, hg, k (ty (by decide) hr) hr, hc⟩
  · rw [fst_set s.row]
    congr 2
    congr 1
    refine List.ext_getElem? fun i => ?_
    by_cases hi : i < n
    · by_cases e : b = i
      · subst e; rw [List.getElem?_set_self (by simpa using hi)]; simp [hi, upd]
      · have e' : ¬ i = b := fun x => e x.symm
        rw [List.getElem?_set_ne e]; simp [hi, upd, e']
    · rw [List.getElem?_eq_none (by simp; omega), List.getElem?_eq_none (by simp; omega)]
  · rcases s.rd with hr | ⟨q, off, e, hlt, hc⟩
    · exact .inl hr
    · exact .inr ⟨q, off, e, Nat.lt_of_lt_of_le hlt t1.size, fun j u hu => t1.cell (hc j u hu) (s.rdb q off e).2.1⟩
  · exact Nat.le_trans s.size t1.size

/-- A number more. -/
theorem NSt.app (s : NSt E m h cs B n A c vs R y w) {lv v' : Value} {x : Nat} {o : Obj} {w1 : World} (c1 : w.heap[E.l]? = some (.cells #[lv] 27)) (c2 : NRow w B lv R) (hn : NRow w1 B v' (R ++ [x])) (hg : (w.alloc o).grownBy w1 lv.ownBlock) :
    NSt E m h cs B n A c vs (R ++ [x]) y (w1.setCell ⟨E.l, 0, none⟩ v') ∧ Turn (E.may B) w (w1.setCell ⟨E.l, 0, none⟩ v') ∧ w1.heap[E.l]? = some (.cells #[lv] 27) := by
  have lvB : ∀ q, lv.ownBlock = some q → B ≤ q := by
    intro q hq
    rcases c2.2 with ⟨rfl, _⟩ | ⟨g', cap', cur, rfl, hg', hr, _⟩
    · simp [Value.ownBlock] at hq
    · simp [Value.ownBlock] at hq
      omega
  have hb1 : Below B w w1 := ((Below.refl B w).alloc s.size o).grown hg (by have := s.size; simp; omega) fun q hq => lvB q hq
  have t0 : Turn (fun i => B ≤ i) w w1 := ⟨hb1.os, hb1.tape, hb1.output, hb1.size, fun i _ hi => hb1.block i (by omega)⟩
  have t1 : Turn (E.may B) w (w1.setCell ⟨E.l, 0, none⟩ v') := by
    have h1 : Turn (E.may B) w w1 := ⟨t0.os, t0.tape, t0.output, t0.size, fun i hi hno => t0.block i hi fun e => hno (.inr (.inr e))⟩
    exact h1.setCell (p := ⟨E.l, 0, none⟩) (.inl (.inr (.inl rfl))) _
  have k1 : ∀ {i o}, i < B → w.heap[i]? = some o → w1.heap[i]? = some o := fun hi h => (hb1.block _ hi).trans h
  have ty : ∀ {i : Nat} {cs : Array Value} {t : TypeId} {fr : Nat × Nat}, t ≠ 27 → w.heap[i]? = some (.cells cs t fr) → i ≠ E.l := fun ht hi e => by
    rw [e, c1] at hi
    injection hi with hi
    injection hi with _ hi
    exact ht hi.symm
  have k : ∀ {i o}, i < B → i ≠ E.l → w.heap[i]? = some o → (w1.setCell ⟨E.l, 0, none⟩ v').heap[i]? = some o := fun h1 h2 hi => (heap_setCell_other _ _ _ _ h2).trans (k1 h1 hi)
  obtain ⟨l1, l2, l3, l4, l5, l6⟩ := s.lt
  have rl := k1 l2 c1
  refine ⟨⟨s.st.apart t1 (fun i hi e => ?_), k l3 (ty (by decide) s.ct) s.ct, ⟨v', ?_, ?_⟩, k l1 (ty (by decide) s.cv) s.cv, k l6 (ty (by decide) s.row) s.row, k l4 s.ne s.ca, k l5 (ty (by decide) s.cf) s.cf, ?_, s.rdb, s.own, s.lt, s.ne, Nat.le_trans s.size t1.size⟩, t1, rl⟩
  · have := s.own i hi
    rcases e with e | e | e <;> omega
  · exact heap_setCell_same _ _ _ _ _ _ rl
  · refine ⟨hn.1, ?_⟩
    rcases hn.2 with hx | ⟨g, cap, cur, e, hg, hr, hc⟩
    · exact .inl hx
    · exact .inr ⟨g, cap, cur, e, hg, (heap_setCell_other _ _ _ _ (by show g ≠ E.l; omega)).trans hr, hc⟩
  · rcases s.rd with hr | ⟨q, off, e, hlt, hc⟩
    · exact .inl hr
    · have := s.rdb q off e
      exact .inr ⟨q, off, e, Nat.lt_of_lt_of_le hlt t1.size, fun j u hu => t1.cell (hc j u hu) (fun e2 => by rcases e2 with e2 | e2 | e2 <;> simp only at e2 <;> omega)⟩
end
end Go.Proofs.Ytkmffmlnondolaa

/- Layer 6 (count): the numbers of a node, gone. -/
namespace Go.Proofs.Ytkmffmlnondolaa
open Go.ChangeShapes Go.WideShapes Go.ChangeAt Go.RowKit Go.Maps

def varN (vs : List Nat) (i : Nat) : Nat := vs.getD i 0
def NOut (E : NEnv) (m : Mem) (h : Hd) (cs : List Nd) (B n : Nat) (A : Option Addr) (c : Nat) (vs R : List Nat) (F : (Nat → Bool) → Bool) (o : List Nat) (y : Nat → Bool) (w : World) (e : Ending) (w' : World) : Prop :=
  ∃ y', e = .returned (.tuple #[]) ∧ AgreeOut o y y' ∧ NSt E m h cs B n A c vs (R ++ numsS n F o y) y' w' ∧ Turn (E.may B) w w'

theorem NSt.val {E : NEnv} {m : Mem} {h : Hd} {cs : List Nd} {B n : Nat} {A : Option Addr} {c : Nat} {vs R : List Nat} {y : Nat → Bool} {w : World} (s : NSt E m h cs B n A c vs R y w) {b : Nat} (hb : b < n) :
    w.cell? ⟨E.r, b, none⟩ = some (.bool (y b)) ∧ w.frozen? ⟨E.r, b, none⟩ = false := by
  refine ⟨?_, frozen_of_row _ _ _ _ _ s.row⟩
  rw [cell_of_row _ _ _ _ _ _ s.row]
  unfold boolRow
  simp [hb]

set_option maxRecDepth 100000 in
set_option maxHeartbeats 4000000 in
/-- No place is left. -/
theorem cnum_nil {E : NEnv} {m : Mem} {h : Hd} {cs : List Nd} {B n : Nat} {A : Option Addr} {c : Nat} {vs : List Nat} {pl : Nat → Nat} {F : (Nat → Bool) → Bool} (hn : n ≤ 62) {R : List Nat} {y : Nat → Bool} {w : World} {k : Nat} {d : Nd} {oa : Option Addr} {oc : Nat} (s : NSt E m h cs B n A c vs R y w) (hd : Is cs k d) (hR : Rest h.V cs pl (varN vs) F k [] y) (hl : R.length ≤ 1000000) :
    Calls Try.prog 51 #[.int .i64 (k : Int), .slice oa 0 oc, ptrV E.v, ptrV E.l, ptrV E.s, ptrV E.a, ptrV E.f] w (NOut E m h cs B n A c vs R F [] y w) := by
  by_cases h0 : k = 0
  · subst h0
    have NZ : Hid (numsS n F [] y = []) := hR.zero n
    have S := Lib.hid s
    clear s hd hR
    change Calls _ _ #[.int .i64 0, _, _, _, _, _, _] _ _
    unfold ptrV
    go_enter Try.func51, Try.ntmps51
    go_wp2_with fail
    go_end0
    exact ⟨y, rfl, .refl _ _, by rw [NZ.out, List.append_nil]; exact S.out, Turn.refl _ _⟩
  · have ND : Hid (numsS n F [] y = [numOf n y]) := hR.done hd h0 n
    have hk0 : ((k : Int) == 0) = false := beq_eq_false_iff_ne.2 (by omega)
    obtain ⟨lv, c1, c2⟩ := s.cl
    obtain ⟨i0, hi, hz0, hz1, hz2⟩ := info_parts info_intC
    have cv : w.cell? ⟨E.v, 0, none⟩ = some (.slice (some ⟨E.r, 0, none⟩) n n) := cell_of_row _ _ 0 _ _ _ s.cv
    have cl : w.cell? ⟨E.l, 0, none⟩ = some lv := cell_of_row _ _ 0 _ _ _ c1
    have GE := B6.get_good (some ⟨E.r, 0, none⟩) ((List.range n).map y) n w (by simp; omega) (.inr ⟨E.r, 0, rfl, row_lt s.row, fun j u hu => by rw [Nat.zero_add, cell_of_row _ _ _ _ _ _ s.row]; unfold boolRow; simpa using hu⟩)
    rw [show ((List.range n).map y).length = n by simp] at GE
    have GE := Lib.hid GE
    have hlt := B6.getN_lt ((List.range n).map y)
    have NM : Hid (B6.getN ((List.range n).map y) = numOf n y) := rfl
    rw [NM.out] at GE
    have S := Lib.hid s
    have C1 := Lib.hid c1
    have hB : B ≤ w.heap.size := s.size
    have C2 := c2
    clear s hd hR h0 c1 hlt
    clear c2
    unfold ptrV
    go_enter Try.func51, Try.ntmps51
    go_wp2_with fail
    refine GE.out.mono ?_
    rintro e w1 ⟨rfl, rfl⟩
    clear GE
    go_wp2_with (at_builtin; refine wpList_append_own _ rfl _ _ 27 rfl B 3 i0 (.int .i64 0) 1 8 Try.underlying27 hi hz0 hz1 hz2 rfl (by decide) _ _ _ rfl (C2.alloc _) ⟨w.heap.size, 0, none⟩ 1 1 [.int .i64 (numOf n y : Nat)] rfl rfl ?c1 ?c2 ?c3 ?c4 ?c5 ?_)
    case c1 =>
      intro i u hu
      match i, hu with
      | 0, hu => simp at hu; subst hu; simp [Addr.add]
    case c2 => intro u hu; simp at hu; subst hu; rfl
    case c3 => unfold maxLen; omega
    case c4 => omega
    case c5 => simp; omega
    intro v' w1 hown' hgrow _
    have HO : NRow w1 B v' (R ++ [numOf n y]) := by
      show w1.ownsRow _ _ _ v' (R ++ [numOf n y]).length ((R ++ [numOf n y]).map fun (x : Nat) => Value.int .i64 (x : Int))
      simpa [nats] using hown'
    obtain ⟨g, gc, rfl⟩ := row_form HO (by simp)
    obtain ⟨s2, t2, r2⟩ := S.out.app C1.out C2 HO hgrow
    rw [List.length_append] at s2 t2
    rw [List.length_append]
    simp only [List.length_cons, List.length_nil, Nat.zero_add] at s2 t2 ⊢
    have cl2 : w1.cell? ⟨E.l, 0, none⟩ = some lv := cell_of_row _ _ 0 _ _ _ r2
    have fl2 : w1.frozen? ⟨E.l, 0, none⟩ = false := frozen_of_row _ _ _ _ _ r2
    have S2 := Lib.hid s2
    have T2 := Lib.hid t2
    clear HO hown' hgrow s2 t2 r2 C2
    go_wp2_with fail
    go_end0
    exact ⟨y, rfl, .refl _ _, by rw [ND.out]; exact S2.out, T2.out⟩
end Go.Proofs.Ytkmffmlnondolaa

/- Layer 6 (count): the numbers of a node: one place after another. -/
namespace Go.Proofs.Ytkmffmlnondolaa
open Go.ChangeShapes Go.WideShapes Go.ChangeAt Go.RowKit Go.Maps

theorem nats_at {w : World} {oa : Option Addr} {b : Nat} {r : List Nat} (h : Rd w oa (nats (b :: r))) : ∃ og off, oa = some ⟨og, off, none⟩ ∧ w.cell? ⟨og, off, none⟩ = some (.int .i64 (b : Int)) ∧ Rd w (some ⟨og, off + 1, none⟩) (nats r) := by
  rcases h with hn | ⟨og, off, rfl, hlt, hc⟩
  · simp [nats] at hn
  · refine ⟨og, off, rfl, hc 0 _ (by simp [nats]), .inr ⟨og, off + 1, rfl, hlt, fun j u hu => ?_⟩⟩
    rw [show off + 1 + j = off + (j + 1) by omega]
    exact hc (j + 1) u (by simpa [nats] using hu)
theorem vars_at {w : World} {A : Option Addr} {vs : List Nat} (h : Rd w A (nats vs)) {b : Nat} (hb : b < vs.length) : ∃ q off, A = some ⟨q, off, none⟩ ∧ w.cell? ⟨q, off + b, none⟩ = some (.int .i64 (varN vs b : Int)) := by
  rcases h with hn | ⟨q, off, rfl, hlt, hc⟩
  · have : vs = [] := by simpa [nats] using hn
    rw [this] at hb
    simp at hb
  · refine ⟨q, off, rfl, hc b _ ?_⟩
    unfold nats varN
    rw [List.getElem?_map, List.getD_eq_getElem?_getD, List.getElem?_eq_getElem hb]
    rfl

theorem rd_turn {own : Nat → Prop} {w w' : World} {A : Option Addr} {xs : List Value} (h : Rd w A xs) (t : Turn own w w') (hno : ∀ b off, A = some ⟨b, off, none⟩ → ¬ own b) : Rd w' A xs := by
  rcases h with h | ⟨b, off, e, hlt, hc⟩
  · exact .inl h
  · exact .inr ⟨b, off, e, Nat.lt_of_lt_of_le hlt t.size, fun j u hu => t.cell (hc j u hu) (hno b off e)⟩
theorem Rest.agree {V : Nat} {cs : List Nd} {pl vr : Nat → Nat} {F : (Nat → Bool) → Bool} {k : Nat} {o : List Nat} {y y1 : Nat → Bool} (h : Rest V cs pl vr F k o y) (ag : AgreeOut o y y1) : Rest V cs pl vr F k o y1 :=
  ⟨fun y' hy => h.same y' fun i hi => (hy i hi).trans (ag i hi), h.has, h.sort, h.back⟩
theorem agree_up {b : Nat} {r : List Nat} {y y3 : Nat → Bool} (h : AgreeOut r (upd y b false) y3) : AgreeOut r (upd y b true) (upd y3 b true) := fun i hi => by
  have h1 := h i hi
  unfold upd at h1 ⊢
  by_cases e : i = b
  · rw [if_pos e, if_pos e]
  · rw [if_neg e, if_neg e]; rwa [if_neg e] at h1
theorem agree_end {b : Nat} {r : List Nat} {y y3 y5 : Nat → Bool} (h : AgreeOut r (upd y b false) y3) (h5 : AgreeOut r (upd y3 b true) y5) : AgreeOut (b :: r) y y5 := fun i hi => by
  have hr : i ∉ r := fun e => hi (List.mem_cons_of_mem _ e)
  have hb : i ≠ b := fun e => hi (by rw [e]; simp)
  have h1 := h i hr
  have h2 := h5 i hr
  unfold upd at h1 h2
  rw [if_neg hb] at h1 h2
  exact h2.trans h1

set_option maxRecDepth 100000 in
set_option maxHeartbeats 4000000 in
theorem cnum_any {E : NEnv} {m : Mem} {h : Hd} {cs : List Nd} {B n : Nat} {A : Option Addr} {c : Nat} {vs : List Nat} {pl : Nat → Nat} {F : (Nat → Bool) → Bool} (hn : n ≤ 62) (hvs : vs.length = n) : ∀ (o : List Nat) (R : List Nat) (y : Nat → Bool) (w : World) (k : Nat) (d : Nd) (oa : Option Addr) (oc : Nat),
    NSt E m h cs B n A c vs R y w → Is cs k d → Rest h.V cs pl (varN vs) F k o y → (∀ b ∈ o, b < n) → Rd w oa (nats o) → (∀ b off, oa = some ⟨b, off, none⟩ → b < B ∧ b ≠ E.r ∧ b ≠ E.l) → o.length ≤ oc → R.length + (numsS n F o y).length ≤ 1000000 →
    Calls Try.prog 51 #[.int .i64 (k : Int), .slice oa o.length oc, ptrV E.v, ptrV E.l, ptrV E.s, ptrV E.a, ptrV E.f] w (NOut E m h cs B n A c vs R F o y w) := by
  intro o
  induction o with
  | nil => intro R y w k d oa oc s hd hR _ _ _ _ hl; exact cnum_nil hn s hd hR (by omega)
  | cons b r ih =>
    intro R y w k d oa oc s hd hR hbn hrd hoa hoc hl
    by_cases h0 : k = 0
    · subst h0
      have NZ : Hid (numsS n F (b :: r) y = []) := hR.zero n
      have S := Lib.hid s
      clear s hd hR ih hrd hoa hl
      change Calls _ _ #[.int .i64 0, _, _, _, _, _, _] _ _
      unfold ptrV
      go_enter Try.func51, Try.ntmps51
      go_wp2_with fail
      go_end0
      exact ⟨y, rfl, .refl _ _, by rw [NZ.out, List.append_nil]; exact S.out, Turn.refl _ _⟩
    · have hk0 : ((k : Int) == 0) = false := beq_eq_false_iff_ne.2 (by omega)
      have hbv : b < n := hbn b (by simp)
      obtain ⟨og, off, rfl, co, ro⟩ := nats_at hrd
      obtain ⟨hog, hogr, hogl⟩ := hoa og off rfl
      have g := s.st.good
      have ND := Lib.hid (node_yesB s.st hd)
      have ct : w.cell? ⟨E.s, 0, none⟩ = some (ptrV m.s) := cell_of_row _ _ 0 _ _ _ s.ct
      have hlen : (b :: r).length = r.length + 1 := rfl
      have hocI : (r.length : Int) + 1 ≤ oc := by rw [hlen] at hoc; omega
      rw [hlen] at hoc
      have NS : Hid (numsS n F (b :: r) y = numsS n F r (upd y b false) ++ numsS n F r (upd y b true)) := rfl
      have LL : Hid (R.length + (numsS n F r (upd y b false)).length + (numsS n F r (upd y b true)).length ≤ 1000000) := by
        show _ ≤ _
        rw [NS.out, List.length_append] at hl
        omega
      -- low and high, as the place's variable wants them
      obtain ⟨kl, kh, dl, dh, il, ih', rl, rh, hlh⟩ : ∃ (kl kh : Nat) (dl dh : Nd), Is cs kl dl ∧ Is cs kh dh ∧ Rest h.V cs pl (varN vs) F kl r (upd y b false) ∧ Rest h.V cs pl (varN vs) F kh r (upd y b true) ∧
          ((d.asks = (varN vs b : Int) ∧ kl = d.low ∧ kh = d.high) ∨ (d.asks ≠ (varN vs b : Int) ∧ kl = k ∧ kh = k)) := by
        by_cases ha : d.asks = (varN vs b : Int)
        · have h2 : 2 ≤ k := by
            rcases Nat.lt_or_ge k 2 with h3 | h3
            · have h4 := (g.base h3 hd).1
              have := (hR.back b (by simp)).2
              omega
            · exact h3
          obtain ⟨x, ix, _⟩ := g.lo k d h2 hd
          obtain ⟨z, iz, _⟩ := g.hi k d h2 hd
          exact ⟨d.low, d.high, x, z, ix, iz, hR.step g h2 hd ha false, hR.step g h2 hd ha true, .inl ⟨ha, rfl, rfl⟩⟩
        · exact ⟨k, k, d, d, hd, hd, hR.stay g hd ha false, hR.stay g hd ha true, .inr ⟨ha, rfl, rfl⟩⟩
      have HB := Lib.hid hR.head.1
      have S := Lib.hid s
      have IH := Lib.hid ih
      have IL := Lib.hid il
      have IHH := Lib.hid ih'
      have RL := Lib.hid rl
      have RH := Lib.hid rh
      have RO := Lib.hid ro
      have HBN : Hid (∀ a ∈ r, a < n) := fun a ha => hbn a (List.mem_cons_of_mem _ ha)
      obtain ⟨q, qo, rfl, cvv⟩ := vars_at s.rd (b := b) (by omega)
      have hbI : (b : Int) < n := by omega
      have HOAj : ∀ j, Hid (∀ b' off', some (⟨og, j, none⟩ : Addr) = some ⟨b', off', none⟩ → b' < B ∧ b' ≠ E.r ∧ b' ≠ E.l) := fun j b' off' e => by injection e with e; injection e with e1 e2; subst e1; exact ⟨hog, hogr, hogl⟩
      have HNOj : ∀ j, Hid (∀ b' off', some (⟨og, j, none⟩ : Addr) = some ⟨b', off', none⟩ → ¬ E.may B b') := fun j b' off' e hm => by have := (HOAj j).out b' off' e; rcases hm with hm | hm | hm <;> omega
      clear s hd hR ih il ih' rl rh ro hbn hrd hoa hl g h0 hlen
      rw [show (b :: r).length = r.length + 1 from rfl]
      by_cases hoc1 : oc = 1
      · have hr0 : r = [] := by rw [← List.length_eq_zero_iff]; omega
        subst hoc1
        subst hr0
        unfold ptrV at *
        go_enter Try.func51, Try.ntmps51
        go_wp2_with fail
        refine ND.out.mono ?_
        rintro e w1 ⟨rfl, hb1⟩
        have S1 := Lib.hid (S.out.keep hb1)
        have B1 := Lib.hid hb1
        have cvv1 := (hb1.cell (World.block_lt_of_cell? w _ cvv)).trans cvv
        have ca1 : w1.cell? ⟨E.a, 0, none⟩ = some (.slice (some ⟨q, qo, none⟩) n c) := cell_of_row _ _ 0 _ _ _ S1.out.ca
        have cv1 : w1.cell? ⟨E.v, 0, none⟩ = some (.slice (some ⟨E.r, 0, none⟩) n n) := cell_of_row _ _ 0 _ _ _ S1.out.cv
        obtain ⟨cr1, fr1⟩ := S1.out.val hbv
        obtain ⟨s2, t2⟩ := S1.out.set b false
        have S2 := Lib.hid s2
        have T2 : Hid (Turn (E.may B) w (w1.setCell ⟨E.r, b, none⟩ (.bool false))) := (Turn.of_below B1.out).trans t2 fun i hi => .inl hi
        have cf2 : (w1.setCell ⟨E.r, b, none⟩ (.bool false)).cell? ⟨E.f, 0, none⟩ = some E.fv := cell_of_row _ _ 0 _ _ _ s2.cf
        unfold NEnv.fv ptrV at cf2
        clear hb1 ND ct co cvv s2 t2
        rcases hlh with ⟨ha, rfl, rfl⟩ | ⟨ha, rfl, rfl⟩
        · rw [ha]
          go_wp2_with fail
          go_region_held3 (fun w' => w'.cell? ⟨E.f, 0, none⟩ = some (.func (.func 51) #[] #[.pointer (some ⟨E.v, 0, none⟩), .pointer (some ⟨E.l, 0, none⟩), .pointer (some ⟨E.s, 0, none⟩), .pointer (some ⟨E.a, 0, none⟩), .pointer (some ⟨E.f, 0, none⟩)]))
            (first | exact cf2 | assumption | go_keep)
            (first
              | (go_at_call 51; refine (IH.out R (upd y b false) (w1.setCell ⟨E.r, b, none⟩ (.bool false)).drew _ dl (some ⟨og, off, none⟩) 0 (S2.out.keep (below_drew _)) IL.out RL.out HBN.out (rd_turn (show Rd w (some ⟨og, off, none⟩) (nats []) from .inl rfl) T2.out.drew (HNOj (off)).out) (HOAj (off)).out (by omega) (by have := LL.out; omega)).mono ?_; rintro e w3 ⟨y3, rfl, ag3, s3, t3⟩; have AG3 := Lib.hid ag3; have S3 := Lib.hid s3; have T3 : Hid (Turn (E.may B) w w3) := Lib.hid (T2.out.drew.trans t3 fun i hi => .inl hi); have cf3 : w3.cell? ⟨E.f, 0, none⟩ = some (.func (.func 51) #[] #[.pointer (some ⟨E.v, 0, none⟩), .pointer (some ⟨E.l, 0, none⟩), .pointer (some ⟨E.s, 0, none⟩), .pointer (some ⟨E.a, 0, none⟩), .pointer (some ⟨E.f, 0, none⟩)]) := cell_of_row _ _ 0 _ _ _ s3.cf; clear ag3 s3 t3)
              | fail)
          have cv3 : w3.cell? ⟨E.v, 0, none⟩ = some (.slice (some ⟨E.r, 0, none⟩) n n) := cell_of_row _ _ 0 _ _ _ S3.out.cv
          obtain ⟨cr3, fr3⟩ := S3.out.val hbv
          obtain ⟨s4, t4⟩ := S3.out.set b true
          have S4 := Lib.hid s4
          have T4 : Hid (Turn (E.may B) w (w3.setCell ⟨E.r, b, none⟩ (.bool true))) := T3.out.trans t4 fun i hi => .inl hi
          have cf4 : (w3.setCell ⟨E.r, b, none⟩ (.bool true)).cell? ⟨E.f, 0, none⟩ = some (.func (.func 51) #[] #[.pointer (some ⟨E.v, 0, none⟩), .pointer (some ⟨E.l, 0, none⟩), .pointer (some ⟨E.s, 0, none⟩), .pointer (some ⟨E.a, 0, none⟩), .pointer (some ⟨E.f, 0, none⟩)]) := cell_of_row _ _ 0 _ _ _ s4.cf
          have CG : Hid (numsS n F [] (upd y3 b true) = numsS n F [] (upd y b true)) := (numsS_congr n F [] _ _ (agree_up AG3.out)).symm
          clear s4 t4 cf2 cf3
          go_wp2_with fail
          go_region_held3 (fun w' => w'.cell? ⟨E.f, 0, none⟩ = some (.func (.func 51) #[] #[.pointer (some ⟨E.v, 0, none⟩), .pointer (some ⟨E.l, 0, none⟩), .pointer (some ⟨E.s, 0, none⟩), .pointer (some ⟨E.a, 0, none⟩), .pointer (some ⟨E.f, 0, none⟩)]))
            (first | exact cf4 | assumption | go_keep)
            (first
              | (go_at_call 51; refine (IH.out (R ++ numsS n F [] (upd y b false)) (upd y3 b true) (w3.setCell ⟨E.r, b, none⟩ (.bool true)).drew _ dh (some ⟨og, off, none⟩) 0 (S4.out.keep (below_drew _)) IHH.out (RH.out.agree (agree_up AG3.out)) HBN.out (rd_turn (show Rd w (some ⟨og, off, none⟩) (nats []) from .inl rfl) T4.out.drew (HNOj (off)).out) (HOAj (off)).out (by omega) (by have := LL.out; rw [CG.out, List.length_append]; omega)).mono ?_; rintro e w5 ⟨y5, rfl, ag5, s5, t5⟩; have AG5 := Lib.hid ag5; have S5 := Lib.hid s5; have T5 : Hid (Turn (E.may B) w w5) := Lib.hid (T4.out.drew.trans t5 fun i hi => .inl hi); have cf5 : w5.cell? ⟨E.f, 0, none⟩ = some (.func (.func 51) #[] #[.pointer (some ⟨E.v, 0, none⟩), .pointer (some ⟨E.l, 0, none⟩), .pointer (some ⟨E.s, 0, none⟩), .pointer (some ⟨E.a, 0, none⟩), .pointer (some ⟨E.f, 0, none⟩)]) := cell_of_row _ _ 0 _ _ _ s5.cf; clear ag5 s5 t5)
              | fail)
          go_wp2_with fail
          go_end0
          exact ⟨y5, rfl, agree_end AG3.out AG5.out, by have h5 := S5.out; rw [CG.out, List.append_assoc, ← NS.out] at h5; exact h5, T5.out⟩
        · have hab : (d.asks != (varN vs b : Int)) = true := by simpa using ha
          go_wp2_with fail
          go_region_held3 (fun w' => w'.cell? ⟨E.f, 0, none⟩ = some (.func (.func 51) #[] #[.pointer (some ⟨E.v, 0, none⟩), .pointer (some ⟨E.l, 0, none⟩), .pointer (some ⟨E.s, 0, none⟩), .pointer (some ⟨E.a, 0, none⟩), .pointer (some ⟨E.f, 0, none⟩)]))
            (first | exact cf2 | assumption | go_keep)
            (first
              | (go_at_call 51; refine (IH.out R (upd y b false) (w1.setCell ⟨E.r, b, none⟩ (.bool false)).drew _ dl (some ⟨og, off, none⟩) 0 (S2.out.keep (below_drew _)) IL.out RL.out HBN.out (rd_turn (show Rd w (some ⟨og, off, none⟩) (nats []) from .inl rfl) T2.out.drew (HNOj (off)).out) (HOAj (off)).out (by omega) (by have := LL.out; omega)).mono ?_; rintro e w3 ⟨y3, rfl, ag3, s3, t3⟩; have AG3 := Lib.hid ag3; have S3 := Lib.hid s3; have T3 : Hid (Turn (E.may B) w w3) := Lib.hid (T2.out.drew.trans t3 fun i hi => .inl hi); have cf3 : w3.cell? ⟨E.f, 0, none⟩ = some (.func (.func 51) #[] #[.pointer (some ⟨E.v, 0, none⟩), .pointer (some ⟨E.l, 0, none⟩), .pointer (some ⟨E.s, 0, none⟩), .pointer (some ⟨E.a, 0, none⟩), .pointer (some ⟨E.f, 0, none⟩)]) := cell_of_row _ _ 0 _ _ _ s3.cf; clear ag3 s3 t3)
              | fail)
          have cv3 : w3.cell? ⟨E.v, 0, none⟩ = some (.slice (some ⟨E.r, 0, none⟩) n n) := cell_of_row _ _ 0 _ _ _ S3.out.cv
          obtain ⟨cr3, fr3⟩ := S3.out.val hbv
          obtain ⟨s4, t4⟩ := S3.out.set b true
          have S4 := Lib.hid s4
          have T4 : Hid (Turn (E.may B) w (w3.setCell ⟨E.r, b, none⟩ (.bool true))) := T3.out.trans t4 fun i hi => .inl hi
          have cf4 : (w3.setCell ⟨E.r, b, none⟩ (.bool true)).cell? ⟨E.f, 0, none⟩ = some (.func (.func 51) #[] #[.pointer (some ⟨E.v, 0, none⟩), .pointer (some ⟨E.l, 0, none⟩), .pointer (some ⟨E.s, 0, none⟩), .pointer (some ⟨E.a, 0, none⟩), .pointer (some ⟨E.f, 0, none⟩)]) := cell_of_row _ _ 0 _ _ _ s4.cf
          have CG : Hid (numsS n F [] (upd y3 b true) = numsS n F [] (upd y b true)) := (numsS_congr n F [] _ _ (agree_up AG3.out)).symm
          clear s4 t4 cf2 cf3
          go_wp2_with fail
          go_region_held3 (fun w' => w'.cell? ⟨E.f, 0, none⟩ = some (.func (.func 51) #[] #[.pointer (some ⟨E.v, 0, none⟩), .pointer (some ⟨E.l, 0, none⟩), .pointer (some ⟨E.s, 0, none⟩), .pointer (some ⟨E.a, 0, none⟩), .pointer (some ⟨E.f, 0, none⟩)]))
            (first | exact cf4 | assumption | go_keep)
            (first
              | (go_at_call 51; refine (IH.out (R ++ numsS n F [] (upd y b false)) (upd y3 b true) (w3.setCell ⟨E.r, b, none⟩ (.bool true)).drew _ dh (some ⟨og, off, none⟩) 0 (S4.out.keep (below_drew _)) IHH.out (RH.out.agree (agree_up AG3.out)) HBN.out (rd_turn (show Rd w (some ⟨og, off, none⟩) (nats []) from .inl rfl) T4.out.drew (HNOj (off)).out) (HOAj (off)).out (by omega) (by have := LL.out; rw [CG.out, List.length_append]; omega)).mono ?_; rintro e w5 ⟨y5, rfl, ag5, s5, t5⟩; have AG5 := Lib.hid ag5; have S5 := Lib.hid s5; have T5 : Hid (Turn (E.may B) w w5) := Lib.hid (T4.out.drew.trans t5 fun i hi => .inl hi); have cf5 : w5.cell? ⟨E.f, 0, none⟩ = some (.func (.func 51) #[] #[.pointer (some ⟨E.v, 0, none⟩), .pointer (some ⟨E.l, 0, none⟩), .pointer (some ⟨E.s, 0, none⟩), .pointer (some ⟨E.a, 0, none⟩), .pointer (some ⟨E.f, 0, none⟩)]) := cell_of_row _ _ 0 _ _ _ s5.cf; clear ag5 s5 t5)
              | fail)
          go_wp2_with fail
          go_end0
          exact ⟨y5, rfl, agree_end AG3.out AG5.out, by have h5 := S5.out; rw [CG.out, List.append_assoc, ← NS.out] at h5; exact h5, T5.out⟩
      · obtain ⟨L, hL⟩ : ∃ L, r.length + 1 = L := ⟨_, rfl⟩
        rw [hL]
        have hL1 : L - 1 = r.length := by omega
        have hL2 : (1 : Int) ≤ L := by omega
        have hL0 : ((L : Int) == 0) = false := beq_eq_false_iff_ne.2 (by omega)
        have hL3 : (0 : Int) < L := by omega
        have hL4 : Hid (r.length + 1 = L) := hL
        have hoc5 : Hid (r.length ≤ oc - 1) := by show _ ≤ _; omega
        clear hL hoc hocI
        unfold ptrV at *
        go_enter Try.func51, Try.ntmps51
        go_wp2_with fail
        refine ND.out.mono ?_
        rintro e w1 ⟨rfl, hb1⟩
        have S1 := Lib.hid (S.out.keep hb1)
        have B1 := Lib.hid hb1
        have cvv1 := (hb1.cell (World.block_lt_of_cell? w _ cvv)).trans cvv
        have ca1 : w1.cell? ⟨E.a, 0, none⟩ = some (.slice (some ⟨q, qo, none⟩) n c) := cell_of_row _ _ 0 _ _ _ S1.out.ca
        have cv1 : w1.cell? ⟨E.v, 0, none⟩ = some (.slice (some ⟨E.r, 0, none⟩) n n) := cell_of_row _ _ 0 _ _ _ S1.out.cv
        obtain ⟨cr1, fr1⟩ := S1.out.val hbv
        obtain ⟨s2, t2⟩ := S1.out.set b false
        have S2 := Lib.hid s2
        have T2 : Hid (Turn (E.may B) w (w1.setCell ⟨E.r, b, none⟩ (.bool false))) := (Turn.of_below B1.out).trans t2 fun i hi => .inl hi
        have cf2 : (w1.setCell ⟨E.r, b, none⟩ (.bool false)).cell? ⟨E.f, 0, none⟩ = some E.fv := cell_of_row _ _ 0 _ _ _ s2.cf
        unfold NEnv.fv ptrV at cf2
        clear hb1 ND ct co cvv s2 t2
        rcases hlh with ⟨ha, rfl, rfl⟩ | ⟨ha, rfl, rfl⟩
        · rw [ha]
          go_wp2_with fail
          go_region_held3 (fun w' => w'.cell? ⟨E.f, 0, none⟩ = some (.func (.func 51) #[] #[.pointer (some ⟨E.v, 0, none⟩), .pointer (some ⟨E.l, 0, none⟩), .pointer (some ⟨E.s, 0, none⟩), .pointer (some ⟨E.a, 0, none⟩), .pointer (some ⟨E.f, 0, none⟩)]))
            (first | exact cf2 | assumption | go_keep)
            (first
              | (go_at_call 51; refine (IH.out R (upd y b false) (w1.setCell ⟨E.r, b, none⟩ (.bool false)).drew _ dl (some ⟨og, off + 1, none⟩) (oc - 1) (S2.out.keep (below_drew _)) IL.out RL.out HBN.out (rd_turn RO.out T2.out.drew (HNOj (off + 1)).out) (HOAj (off + 1)).out hoc5.out (by have := LL.out; omega)).mono ?_; rintro e w3 ⟨y3, rfl, ag3, s3, t3⟩; have AG3 := Lib.hid ag3; have S3 := Lib.hid s3; have T3 : Hid (Turn (E.may B) w w3) := Lib.hid (T2.out.drew.trans t3 fun i hi => .inl hi); have cf3 : w3.cell? ⟨E.f, 0, none⟩ = some (.func (.func 51) #[] #[.pointer (some ⟨E.v, 0, none⟩), .pointer (some ⟨E.l, 0, none⟩), .pointer (some ⟨E.s, 0, none⟩), .pointer (some ⟨E.a, 0, none⟩), .pointer (some ⟨E.f, 0, none⟩)]) := cell_of_row _ _ 0 _ _ _ s3.cf; clear ag3 s3 t3)
              | fail)
          have cv3 : w3.cell? ⟨E.v, 0, none⟩ = some (.slice (some ⟨E.r, 0, none⟩) n n) := cell_of_row _ _ 0 _ _ _ S3.out.cv
          obtain ⟨cr3, fr3⟩ := S3.out.val hbv
          obtain ⟨s4, t4⟩ := S3.out.set b true
          have S4 := Lib.hid s4
          have T4 : Hid (Turn (E.may B) w (w3.setCell ⟨E.r, b, none⟩ (.bool true))) := T3.out.trans t4 fun i hi => .inl hi
          have cf4 : (w3.setCell ⟨E.r, b, none⟩ (.bool true)).cell? ⟨E.f, 0, none⟩ = some (.func (.func 51) #[] #[.pointer (some ⟨E.v, 0, none⟩), .pointer (some ⟨E.l, 0, none⟩), .pointer (some ⟨E.s, 0, none⟩), .pointer (some ⟨E.a, 0, none⟩), .pointer (some ⟨E.f, 0, none⟩)]) := cell_of_row _ _ 0 _ _ _ s4.cf
          have CG : Hid (numsS n F r (upd y3 b true) = numsS n F r (upd y b true)) := (numsS_congr n F r _ _ (agree_up AG3.out)).symm
          clear s4 t4 cf2 cf3
          go_wp2_with fail
          go_region_held3 (fun w' => w'.cell? ⟨E.f, 0, none⟩ = some (.func (.func 51) #[] #[.pointer (some ⟨E.v, 0, none⟩), .pointer (some ⟨E.l, 0, none⟩), .pointer (some ⟨E.s, 0, none⟩), .pointer (some ⟨E.a, 0, none⟩), .pointer (some ⟨E.f, 0, none⟩)]))
            (first | exact cf4 | assumption | go_keep)
            (first
              | (go_at_call 51; refine (IH.out (R ++ numsS n F r (upd y b false)) (upd y3 b true) (w3.setCell ⟨E.r, b, none⟩ (.bool true)).drew _ dh (some ⟨og, off + 1, none⟩) (oc - 1) (S4.out.keep (below_drew _)) IHH.out (RH.out.agree (agree_up AG3.out)) HBN.out (rd_turn RO.out T4.out.drew (HNOj (off + 1)).out) (HOAj (off + 1)).out hoc5.out (by have := LL.out; rw [CG.out, List.length_append]; omega)).mono ?_; rintro e w5 ⟨y5, rfl, ag5, s5, t5⟩; have AG5 := Lib.hid ag5; have S5 := Lib.hid s5; have T5 : Hid (Turn (E.may B) w w5) := Lib.hid (T4.out.drew.trans t5 fun i hi => .inl hi); have cf5 : w5.cell? ⟨E.f, 0, none⟩ = some (.func (.func 51) #[] #[.pointer (some ⟨E.v, 0, none⟩), .pointer (some ⟨E.l, 0, none⟩), .pointer (some ⟨E.s, 0, none⟩), .pointer (some ⟨E.a, 0, none⟩), .pointer (some ⟨E.f, 0, none⟩)]) := cell_of_row _ _ 0 _ _ _ s5.cf; clear ag5 s5 t5)
              | fail)
          go_wp2_with fail
          go_end0
          exact ⟨y5, rfl, agree_end AG3.out AG5.out, by have h5 := S5.out; rw [CG.out, List.append_assoc, ← NS.out] at h5; exact h5, T5.out⟩
        · have hab : (d.asks != (varN vs b : Int)) = true := by simpa using ha
          go_wp2_with fail
          go_region_held3 (fun w' => w'.cell? ⟨E.f, 0, none⟩ = some (.func (.func 51) #[] #[.pointer (some ⟨E.v, 0, none⟩), .pointer (some ⟨E.l, 0, none⟩), .pointer (some ⟨E.s, 0, none⟩), .pointer (some ⟨E.a, 0, none⟩), .pointer (some ⟨E.f, 0, none⟩)]))
            (first | exact cf2 | assumption | go_keep)
            (first
              | (go_at_call 51; refine (IH.out R (upd y b false) (w1.setCell ⟨E.r, b, none⟩ (.bool false)).drew _ dl (some ⟨og, off + 1, none⟩) (oc - 1) (S2.out.keep (below_drew _)) IL.out RL.out HBN.out (rd_turn RO.out T2.out.drew (HNOj (off + 1)).out) (HOAj (off + 1)).out hoc5.out (by have := LL.out; omega)).mono ?_; rintro e w3 ⟨y3, rfl, ag3, s3, t3⟩; have AG3 := Lib.hid ag3; have S3 := Lib.hid s3; have T3 : Hid (Turn (E.may B) w w3) := Lib.hid (T2.out.drew.trans t3 fun i hi => .inl hi); have cf3 : w3.cell? ⟨E.f, 0, none⟩ = some (.func (.func 51) #[] #[.pointer (some ⟨E.v, 0, none⟩), .pointer (some ⟨E.l, 0, none⟩), .pointer (some ⟨E.s, 0, none⟩), .pointer (some ⟨E.a, 0, none⟩), .pointer (some ⟨E.f, 0, none⟩)]) := cell_of_row _ _ 0 _ _ _ s3.cf; clear ag3 s3 t3)
              | fail)
          have cv3 : w3.cell? ⟨E.v, 0, none⟩ = some (.slice (some ⟨E.r, 0, none⟩) n n) := cell_of_row _ _ 0 _ _ _ S3.out.cv
          obtain ⟨cr3, fr3⟩ := S3.out.val hbv
          obtain ⟨s4, t4⟩ := S3.out.set b true
          have S4 := Lib.hid s4
          have T4 : Hid (Turn (E.may B) w (w3.setCell ⟨E.r, b, none⟩ (.bool true))) := T3.out.trans t4 fun i hi => .inl hi
          have cf4 : (w3.setCell ⟨E.r, b, none⟩ (.bool true)).cell? ⟨E.f, 0, none⟩ = some (.func (.func 51) #[] #[.pointer (some ⟨E.v, 0, none⟩), .pointer (some ⟨E.l, 0, none⟩), .pointer (some ⟨E.s, 0, none⟩), .pointer (some ⟨E.a, 0, none⟩), .pointer (some ⟨E.f, 0, none⟩)]) := cell_of_row _ _ 0 _ _ _ s4.cf
          have CG : Hid (numsS n F r (upd y3 b true) = numsS n F r (upd y b true)) := (numsS_congr n F r _ _ (agree_up AG3.out)).symm
          clear s4 t4 cf2 cf3
          go_wp2_with fail
          go_region_held3 (fun w' => w'.cell? ⟨E.f, 0, none⟩ = some (.func (.func 51) #[] #[.pointer (some ⟨E.v, 0, none⟩), .pointer (some ⟨E.l, 0, none⟩), .pointer (some ⟨E.s, 0, none⟩), .pointer (some ⟨E.a, 0, none⟩), .pointer (some ⟨E.f, 0, none⟩)]))
            (first | exact cf4 | assumption | go_keep)
            (first
              | (go_at_call 51; refine (IH.out (R ++ numsS n F r (upd y b false)) (upd y3 b true) (w3.setCell ⟨E.r, b, none⟩ (.bool true)).drew _ dh (some ⟨og, off + 1, none⟩) (oc - 1) (S4.out.keep (below_drew _)) IHH.out (RH.out.agree (agree_up AG3.out)) HBN.out (rd_turn RO.out T4.out.drew (HNOj (off + 1)).out) (HOAj (off + 1)).out hoc5.out (by have := LL.out; rw [CG.out, List.length_append]; omega)).mono ?_; rintro e w5 ⟨y5, rfl, ag5, s5, t5⟩; have AG5 := Lib.hid ag5; have S5 := Lib.hid s5; have T5 : Hid (Turn (E.may B) w w5) := Lib.hid (T4.out.drew.trans t5 fun i hi => .inl hi); have cf5 : w5.cell? ⟨E.f, 0, none⟩ = some (.func (.func 51) #[] #[.pointer (some ⟨E.v, 0, none⟩), .pointer (some ⟨E.l, 0, none⟩), .pointer (some ⟨E.s, 0, none⟩), .pointer (some ⟨E.a, 0, none⟩), .pointer (some ⟨E.f, 0, none⟩)]) := cell_of_row _ _ 0 _ _ _ s5.cf; clear ag5 s5 t5)
              | fail)
          go_wp2_with fail
          go_end0
          exact ⟨y5, rfl, agree_end AG3.out AG5.out, by have h5 := S5.out; rw [CG.out, List.append_assoc, ← NS.out] at h5; exact h5, T5.out⟩
end Go.Proofs.Ytkmffmlnondolaa

/- Layer 6 (count): the numbers of a node, at their start: the places of a list in the order of its variables. Plain: no walk. -/
namespace Go.Proofs.Ytkmffmlnondolaa

theorem order_mem (L : List Int) (i : Nat) : i ∈ orderL L ↔ i < L.length := by
  unfold orderL orderF
  rw [List.mem_map]
  constructor
  · rintro ⟨a, _, rfl⟩; exact a.isLt
  · intro h; exact ⟨⟨i, h⟩, List.mem_mergeSort.2 (List.mem_finRange _), rfl⟩
theorem order_nodup (L : List Int) : (orderL L).Nodup := by
  unfold orderL orderF
  refine List.pairwise_map.2 ?_
  have h : ((List.finRange L.length).mergeSort fun x y => !(Go.Proofs.ltOf (byL L)) y x).Nodup := (List.mergeSort_perm _ _).nodup_iff.2 (List.nodup_finRange _)
  exact List.Pairwise.imp (fun hne e => hne (Fin.ext e)) h
theorem order_sort {L : List Int} (hn : L.Nodup) : (orderL L).Pairwise fun a b => atL L a < atL L b := by
  have h1 : (orderL L).Pairwise fun a b => atL L a ≤ atL L b := by
    unfold orderL orderF
    refine List.pairwise_map.2 ?_
    have := List.pairwise_mergeSort (le := fun x y => !(Go.Proofs.ltOf (byL L)) y x) (fun a b c h1 h2 => by rw [lt_byL] at *; simp at *; omega) (fun a b => by rw [lt_byL, lt_byL]; simp; omega) (List.finRange L.length)
    exact this.imp fun h => by rw [lt_byL] at h; simpa using h
  have h2 := order_nodup L
  have h3 : (orderL L).Pairwise fun a b => a ≠ b ∧ atL L a ≤ atL L b := List.pairwise_and_iff.2 ⟨h2, h1⟩
  refine List.Pairwise.imp_of_mem (fun {a b} ha hb h => ?_) h3
  have e : atL L a ≠ atL L b := fun e => h.1 (atL_inj hn ((order_mem L a).1 ha) ((order_mem L b).1 hb) e)
  have := h.2
  omega

theorem atL_var (vs : List Nat) (i : Nat) : atL (vs.map fun v : Nat => (v : Int)) i = (varN vs i : Int) := by
  unfold atL varN
  rw [List.getD_eq_getElem?_getD, List.getD_eq_getElem?_getD, List.getElem?_map]
  cases vs[i]? <;> rfl

/-- A node says the same where the values of what it asks agree. -/
theorem says_has {V : Nat} {cs : List Nd} (g : NGood V cs) {ys : List Nat} {val val' : Nat → Bool} (he : ∀ v ∈ ys, val v = val' v) : ∀ k c, Is cs k c → Has cs k ys → Says V cs val k = Says V cs val' k := by
  refine g.ind (P := fun k => Has cs k ys → Says V cs val k = Says V cs val' k) ?_ ?_ ?_
  · intro _; rw [Says_zero, Says_zero]
  · intro _; rw [Says_one, Says_one]
  · intro k c hk h il ih hh
    rw [Says_step g val hk h, Says_step g val' hk h, ← he _ (hh k c (.self k) hk h)]
    split
    · exact ih fun j d p => hh j d (.high hk h p)
    · exact il fun j d p => hh j d (.low hk h p)

/-- A variable's place. -/
def plN (vs : List Nat) (v : Nat) : Nat := vs.idxOf v
theorem plN_var {vs : List Nat} (hn : vs.Nodup) {i : Nat} (hi : i < vs.length) : plN vs (varN vs i) = i := by
  unfold plN varN
  rw [List.getD_eq_getElem?_getD, List.getElem?_eq_getElem hi]
  exact hn.idxOf_getElem i hi
theorem varN_mem {vs : List Nat} {i : Nat} (hi : i < vs.length) : varN vs i ∈ vs := by
  unfold varN
  rw [List.getD_eq_getElem?_getD, List.getElem?_eq_getElem hi]
  exact List.getElem_mem hi

/-- What the node says, of values by their places. -/
def sayN (V : Nat) (cs : List Nd) (vs : List Nat) (k : Nat) (y : Nat → Bool) : Bool := Says V cs (fun v => y (plN vs v)) k

theorem sayN_congr {V : Nat} {cs : List Nd} (g : NGood V cs) {vs : List Nat} {k : Nat} {c : Nd} (h : Is cs k c) (hh : Has cs k vs) (y y' : Nat → Bool) (e : ∀ i, i < vs.length → y i = y' i) : sayN V cs vs k y = sayN V cs vs k y' :=
  says_has g (fun _ hv => e _ (List.idxOf_lt_length_of_mem hv)) k c h hh

theorem rest_start {V : Nat} {cs : List Nd} {vs : List Nat} {k : Nat} (hn : vs.Nodup) (hV : ∀ v ∈ vs, v < V) (hh : Has cs k vs) (y : Nat → Bool) :
    Rest V cs (plN vs) (varN vs) (sayN V cs vs k) k (orderL (vs.map fun v : Nat => (v : Int))) y := by
  have hni : (vs.map fun v : Nat => (v : Int)).Nodup := List.pairwise_map.2 (List.Pairwise.imp (fun h e => h (Int.ofNat.inj e)) hn)
  have hl : (vs.map fun v : Nat => (v : Int)).length = vs.length := by simp
  refine ⟨fun y' _ => rfl, fun j d p hj hd => ?_, ?_, fun b hb => ?_⟩
  · have hm := hh j d p hj hd
    obtain ⟨i, hi, e⟩ := List.getElem_of_mem hm
    refine List.mem_map.2 ⟨i, (order_mem _ i).2 (by rw [hl]; exact hi), ?_⟩
    unfold varN
    rw [List.getD_eq_getElem?_getD, List.getElem?_eq_getElem hi]
    exact e
  · exact (order_sort hni).imp fun h => by rw [atL_var, atL_var] at h; omega
  · have hb' : b < vs.length := by rw [← hl]; exact (order_mem _ b).1 hb
    exact ⟨plN_var hn hb', hV _ (varN_mem hb')⟩

/-- Sorted, the numbers of the walk. -/
theorem sort_says {V : Nat} {cs : List Nd} (g : NGood V cs) {vs : List Nat} {k : Nat} {c : Nd} (h : Is cs k c) (hh : Has cs k vs) (y : Nat → Bool) :
    sortI ((numsS vs.length (sayN V cs vs k) (orderL (vs.map fun v : Nat => (v : Int))) y).map fun x : Nat => (x : Int)) = ((List.range (2 ^ vs.length)).filter fun x => sayN V cs vs k (bitN x)).map fun x : Nat => (x : Int) :=
  sort_nums (order_nodup _) (fun i => by rw [order_mem]; simp) (sayN_congr g h hh) y
end Go.Proofs.Ytkmffmlnondolaa
