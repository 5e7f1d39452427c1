/- Merged: QBase, QTwo, QKeep, QRest, QOut, QRestrict. -/
import Derived.Test.YtmbkkifopmbkaaaMH
import Derived.Deep.RegionWith

/- Contracts of layer 5 (quan): where it lies; given, Ops, there, refusal, New. -/
namespace Go.Proofs.Ytmbkkifopmbkaaa
open Go.ChangeShapes Go.WideShapes Go.ChangeAt Go.RowKit Go.Maps

def QuanAt (w : World) (q o : Nat) : Prop := w.heap[q]? = some (.cells #[.pointer (some ⟨q, 0, none⟩), .pointer (some ⟨o, 0, none⟩)] 64 (0, 0))

section
variable {w : World} {q o : Nat}
theorem QuanAt.lt (h : QuanAt w q o) : q < w.heap.size := (Array.getElem?_eq_some_iff.1 h).1
theorem QuanAt.c0 (h : QuanAt w q o) : w.cell? ⟨q, 0, none⟩ = some (.pointer (some ⟨q, 0, none⟩)) := cell_of_row w q 0 _ _ _ h
theorem QuanAt.c1 (h : QuanAt w q o) : w.cell? ⟨q, 1, none⟩ = some (.pointer (some ⟨o, 0, none⟩)) := cell_of_row w q 1 _ _ _ h
theorem QuanAt.of (h : QuanAt w q o) {w' : World} (e : w'.heap[q]? = w.heap[q]?) : QuanAt w' q o := e.trans h
theorem QuanAt.keep (h : QuanAt w q o) {w' : World} (hb : Below w.heap.size w w') : QuanAt w' q o := h.of (hb.block _ h.lt)
end

theorem info_quan : (Try.prog.info? 64).map (fun i => (i.size, i.bytes)) = some (2, 16) := by kernel_rfl

theorem given_q {w : World} {q o : Nat} (ha : QuanAt w q o) : Calls Try.prog 37 #[.pointer (some ⟨q, 0, none⟩)] w fun e w' => e = .returned (.bool true) ∧ w = w' := by
  have c0 := ha.c0
  have hi : ∃ i, Try.prog.info? 64 = some i ∧ i.size = 2 := by
    have h := info_quan
    cases hc : Try.prog.info? 64 with
    | none => rw [hc] at h; cases h
    | some i => rw [hc] at h; injection h with h; injection h with h _; exact ⟨i, rfl, h⟩
  obtain ⟨j, hj, _⟩ := hi
  have heq := run_eql_ptr_same (P := Try.prog) w ⟨q, 0, none⟩ Try.underlying23 hj
  clear ha
  go_enter Try.func37, Try.ntmps37
  go_wp2
  go_ret
  exact ⟨rfl, rfl⟩

theorem given_qnob {w : World} {pv : Value} (h : NBs w pv) : Calls Try.prog 37 #[pv] w fun e w' => e = .returned (.bool false) ∧ w = w' := by
  rcases h with rfl | ⟨t, rfl, h0⟩
  · go_enter Try.func37, Try.ntmps37
    go_wp2
    go_ret
    exact ⟨rfl, rfl⟩
  · have heq : (binOp .eql 23 (.pointer none) (.pointer (some ⟨t, 0, none⟩))).run Try.prog w = .ok (.bool false) w := by kernel_rfl
    go_enter Try.func37, Try.ntmps37
    go_wp2
    go_ret
    exact ⟨rfl, rfl⟩

theorem ops_q {w : World} {q o : Nat} (ha : QuanAt w q o) : Calls Try.prog 19 #[.pointer (some ⟨q, 0, none⟩)] w fun e w' => e = .returned (.pointer (some ⟨o, 0, none⟩)) ∧ w = w' := by
  have H := Lib.hid (given_q ha)
  have c1 := ha.c1
  clear ha
  go_enter Try.func19, Try.ntmps19
  go_wp2_with fail
  refine H.out.mono ?_
  rintro e w' ⟨rfl, rfl⟩
  go_wp2_with fail
  go_ret
  exact ⟨rfl, rfl⟩

theorem ops_qnob {w : World} {pv : Value} (h : NBs w pv) : Calls Try.prog 19 #[pv] w fun e w' => e = .returned (.pointer none) ∧ w = w' := by
  have H := Lib.hid (given_qnob h)
  clear h
  go_enter Try.func19, Try.ntmps19
  go_wp2_with fail
  refine H.out.mono ?_
  rintro e w' ⟨rfl, rfl⟩
  go_wp2_with fail
  go_ret
  exact ⟨rfl, rfl⟩

/-- All of a list are variables of the store, and no more than may be. -/
def varB (V : Nat) (x : Int) : Bool := decide (0 ≤ x) && decide (x < V)
def listB (V : Nat) (xs : List Int) : Bool := decide (xs.length ≤ 256) && xs.all (varB V)
abbrev ints (xs : List Int) : List Value := xs.map (Value.int .i64)

theorem listB_long {V : Nat} {xs : List Int} (h : 256 < xs.length) : listB V xs = false := by
  unfold listB; rw [decide_eq_false (by omega)]; rfl
theorem listB_stop {V : Nat} {xs : List Int} {i : Nat} {x : Int} (hi : xs[i]? = some x) (h : varB V x = false) : listB V xs = false := by
  unfold listB
  have : xs.all (varB V) = false := by
    cases hh : xs.all (varB V) with
    | false => rfl
    | true =>
      have := List.all_eq_true.1 hh x (List.mem_of_getElem? hi)
      rw [h] at this
      cases this
  rw [this, Bool.and_false]
theorem listB_done {V : Nat} {xs : List Int} (hl : xs.length ≤ 256) (h : ∀ j x, j < xs.length → xs[j]? = some x → varB V x = true) : listB V xs = true := by
  unfold listB
  rw [decide_eq_true hl, Bool.true_and, List.all_eq_true]
  intro x hx
  obtain ⟨j, hj⟩ := List.getElem?_of_mem hx
  exact h j x (List.getElem?_eq_some_iff.1 hj).1 hj

def ThereOut (V : Nat) (xs : List Int) (w : World) (e : Ending) (w' : World) : Prop := e = .returned (.bool (listB V xs)) ∧ w = w'

set_option maxRecDepth 100000 in
set_option maxHeartbeats 1600000 in
theorem there_q {w : World} {m : Mem} {h : Hd} {cs : List Nd} {o : Nat} {mb : Option Nat} {q : Nat} (r : OSt w m h cs o mb) (ha : QuanAt w q o) {A : Option Addr} {c : Nat} {xs : List Int} (hx : Rd w A (ints xs)) (hl : xs.length ≤ 1000) :
    Calls Try.prog 47 #[.pointer (some ⟨q, 0, none⟩), .slice A xs.length c] w (ThereOut h.V xs w) := by
  have c1 := ha.c1
  have ST := Lib.hid (store_ops r)
  have VS := Lib.hid (vars_store r.st.lay)
  have HX := Lib.hid hx
  clear r ha hx
  unfold ptrV at *
  go_enter Try.func47, Try.ntmps47
  by_cases hlong : 256 < xs.length
  · have hd : decide ((256 : Int) < (xs.length : Int)) = true := by simp; omega
    have LB := Lib.hid (listB_long (V := h.V) hlong)
    go_wp2_with fail
    go_ret
    exact ⟨by rw [LB.out]; rfl, rfl⟩
  · have hd : decide ((256 : Int) < (xs.length : Int)) = false := by simp; omega
    have HL := Lib.hid hlong
    clear hlong
    go_wp2_with fail
    refine ST.out.mono ?_
    rintro e w' ⟨rfl, rfl⟩
    go_wp2_with fail
    refine VS.out.mono ?_
    rintro e w' ⟨rfl, rfl⟩
    go_wp2_with fail
    go_loopw [19] (fun ix wr => ∃ i : Nat, i ≤ xs.length ∧ ix = .int .i64 i ∧ (∀ j x, j < i → xs[j]? = some x → varB h.V x = true) ∧ w = wr) (fun ix _ => xs.length - (intOf ix).toNat)
    case atStart => exact ⟨0, Nat.zero_le _, rfl, fun j x hj => by omega, rfl⟩
    case round =>
      obtain ⟨i, hi, rfl, hall, rfl⟩ := hrel
      have HA := Lib.hid hall
      clear hall
      by_cases hlt : i < xs.length
      · obtain ⟨x, hxi⟩ : ∃ x, xs[i]? = some x := ⟨_, List.getElem?_eq_getElem hlt⟩
        rcases HX.out with hn | ⟨b, off, rfl, hbl, hcell⟩
        · rw [List.map_eq_nil_iff] at hn; subst hn; simp at hlt
        · have cx : w.cell? ⟨b, off + i, none⟩ = some (.int .i64 x) := hcell i _ (by rw [List.getElem?_map, hxi]; rfl)
          have XI := Lib.hid hxi
          clear hxi hcell hbl
          by_cases h1 : x < 0
          · have d1 : decide (x < 0) = true := decide_eq_true h1
            have LB := Lib.hid (listB_stop (V := h.V) XI.out (by simp [varB]; omega))
            clear h1
            go_wp2_with fail
            go_ret
            exact ⟨by rw [LB.out]; rfl, rfl⟩
          · by_cases h2 : x < h.V
            · have d1 : decide (x < 0) = false := decide_eq_false h1
              have d2 : decide ((h.V : Int) ≤ x) = false := decide_eq_false (by omega)
              have OKX : Hid (varB h.V x = true) := by show _ = _; simp [varB]; omega
              clear h1 h2
              go_wp2_with fail
              go_roundw
              case rel =>
                refine ⟨i + 1, by omega, by go_num, fun j y hj hy => ?_, trivial⟩
                rcases (by omega : j < i ∨ j = i) with h1 | rfl
                · exact HA.out j y h1 hy
                · rw [XI.out] at hy
                  injection hy with hy
                  rw [← hy]
                  exact OKX.out
              case measure => simp [intOf]; omega
            · have d1 : decide (x < 0) = false := decide_eq_false h1
              have d2 : decide ((h.V : Int) ≤ x) = true := decide_eq_true (by omega)
              have LB := Lib.hid (listB_stop (V := h.V) XI.out (by simp [varB]; omega))
              clear h1 h2
              go_wp2_with fail
              go_ret
              exact ⟨by rw [LB.out]; rfl, rfl⟩
      · obtain rfl : i = xs.length := by omega
        have LB := Lib.hid (listB_done (V := h.V) (xs := xs) (by have := HL.out; omega) HA.out)
        clear HA
        go_wp2_with fail
        go_ret
        exact ⟨by rw [LB.out]; rfl, rfl⟩

/-- Why a call is refused. -/
def refQ (V : Nat) (cs : List Nd) (vs ks : List Int) : Int := if listB V vs then (if ks.all (thereB cs) then 0 else 3) else 1
def RefQOut (V : Nat) (cs : List Nd) (vs ks : List Int) (w : World) (e : Ending) (w' : World) : Prop := e = .returned (.int .i64 (refQ V cs vs ks)) ∧ Below w.heap.size w w'

theorem refQ_bad {V : Nat} {cs : List Nd} {vs ks : List Int} (h : listB V vs = false) : refQ V cs vs ks = 1 := by unfold refQ; rw [h]; rfl
theorem refQ_none {V : Nat} {cs : List Nd} {vs ks : List Int} (h : listB V vs = true) (h2 : ks.all (thereB cs) = false) : refQ V cs vs ks = 3 := by unfold refQ; rw [h, h2]; rfl
theorem refQ_ok {V : Nat} {cs : List Nd} {vs ks : List Int} (h : listB V vs = true) (h2 : ks.all (thereB cs) = true) : refQ V cs vs ks = 0 := by unfold refQ; rw [h, h2]; rfl

set_option maxRecDepth 100000 in
set_option maxHeartbeats 1600000 in
theorem refusal_q {w : World} {m : Mem} {h : Hd} {cs : List Nd} {o : Nat} {mb : Option Nat} {q : Nat} (r : OSt w m h cs o mb) (ha : QuanAt w q o) {A : Option Addr} {c : Nat} {vs : List Int} (hv : Rd w A (ints vs)) (hl : vs.length ≤ 1000)
    {g c2 : Nat} {xs : List Int} (hl2 : xs.length ≤ 1000) (hg : g < w.heap.size) (hx : ∀ (i : Nat) (x : Int), xs[i]? = some x → w.cell? ⟨g, i, none⟩ = some (.int .i64 x)) :
    Calls Try.prog 29 #[.pointer (some ⟨q, 0, none⟩), .slice A vs.length c, .slice (some ⟨g, 0, none⟩) xs.length c2] w (RefQOut h.V cs vs xs w) := by
  have GV := Lib.hid (given_q ha)
  have TH := Lib.hid (there_q r ha hv (c := c) hl)
  have QC := Lib.hid fun (w' : World) (hb : Below w.heap.size w w') => (ha.keep hb).c1
  have RK := Lib.hid fun (w' : World) (hb : Below w.heap.size w w') => r.keep hb
  have HX := Lib.hid hx
  have HG := Lib.hid hg
  clear ha hx hg r hv
  go_enter Try.func29, Try.ntmps29
  go_wp2_with fail
  refine GV.out.mono ?_
  rintro e w' ⟨rfl, rfl⟩
  go_wp2_with fail
  refine TH.out.mono ?_
  rintro e w' ⟨rfl, rfl⟩
  cases hlb : listB h.V vs with
  | false =>
    have LB := Lib.hid (refQ_bad (cs := cs) (ks := xs) hlb)
    clear hlb
    go_wp2_with fail
    go_ret
    exact ⟨by rw [LB.out]; rfl, Below.refl _ _⟩
  | true =>
    have LB := Lib.hid hlb
    clear hlb
    go_wp2_with fail
    go_loopw [24] (fun ix wr => ∃ i : Nat, i ≤ xs.length ∧ ix = .int .i64 i ∧ (∀ j x, j < i → xs[j]? = some x → thereB cs x = true) ∧ Below w.heap.size w wr) (fun ix _ => xs.length - (intOf ix).toNat)
    case atStart => exact ⟨0, Nat.zero_le _, rfl, fun j x hj => by omega, Below.refl _ _⟩
    case round =>
      obtain ⟨i, hi, rfl, hall, hb⟩ := hrel
      have HA := Lib.hid hall
      have HB := Lib.hid hb
      clear hall
      by_cases hlt : i < xs.length
      · obtain ⟨x, hxi⟩ : ∃ x, xs[i]? = some x := ⟨_, List.getElem?_eq_getElem hlt⟩
        have cx := (hb.cell (p := ⟨g, i, none⟩) HG.out).trans (HX.out i x hxi)
        have oc := QC.out _ hb
        have XI := Lib.hid hxi
        have L1 := Lib.hid (RK.out _ hb)
        have SO := Lib.hid (store_ops L1.out)
        unfold ptrV at SO
        clear hxi hb
        go_wp2_with fail
        refine SO.out.mono ?_
        rintro e w1 ⟨rfl, rfl⟩
        cases ht : thereB cs x with
        | true =>
          obtain ⟨k, cn, rfl, hk⟩ := thereB_true ht
          have NY := Lib.hid (node_yes L1.out.st.lay hk)
          unfold ptrV at NY
          have HT := Lib.hid ht
          clear ht hk cx oc
          go_wp2_with fail
          refine NY.out.mono ?_
          rintro e w1 ⟨rfl, dn, rfl⟩
          go_wp2_with fail
          go_roundw
          case rel =>
            refine ⟨i + 1, by omega, by go_num, fun j y hj hy => ?_, HB.out.trans ((below_drewN0 _ dn).mono HB.out.size)⟩
            rcases (by omega : j < i ∨ j = i) with h1 | rfl
            · exact HA.out j y h1 hy
            · rw [XI.out] at hy
              injection hy with hy
              rw [← hy]
              exact HT.out
          case measure => simp [intOf]; omega
        | false =>
          have NN := Lib.hid (node_no L1.out.st.lay x ht)
          unfold ptrV at NN
          have HT := Lib.hid (refQ_none LB.out (all_stop XI.out ht))
          clear ht cx oc
          go_wp2_with fail
          refine NN.out.mono ?_
          rintro e w1 ⟨rfl, rfl⟩
          go_wp2_with fail
          go_ret
          exact ⟨by rw [HT.out]; rfl, HB.out⟩
      · obtain rfl : i = xs.length := by omega
        have HT := Lib.hid (refQ_ok LB.out (all_done HA.out))
        clear HA hb
        go_wp2_with fail
        go_ret
        exact ⟨by rw [HT.out]; rfl, HB.out⟩

theorem refusal_qnob {w : World} {pv : Value} (h : NBs w pv) (s1 s2 : Value) : Calls Try.prog 29 #[pv, s1, s2] w fun e w' => e = .returned (.int .i64 1) ∧ w = w' := by
  have H := Lib.hid (given_qnob h)
  clear h
  go_enter Try.func29, Try.ntmps29
  go_wp2_with fail
  refine H.out.mono ?_
  rintro e w' ⟨rfl, rfl⟩
  go_wp2_with fail
  go_ret
  exact ⟨rfl, rfl⟩

def NewQOut (o : Nat) (w : World) (e : Ending) (w' : World) : Prop :=
  ∃ q, e = .returned (.tuple #[.pointer (some ⟨q, 0, none⟩), .int .i64 0]) ∧ QuanAt w' q o ∧ Below w.heap.size w w' ∧ w.heap.size ≤ q

set_option maxRecDepth 100000 in
theorem newq_yes {w : World} {m : Mem} {h : Hd} {cs : List Nd} {o : Nat} {mb : Option Nat} (r : OSt w m h cs o mb) : Calls Try.prog 23 #[.pointer (some ⟨o, 0, none⟩)] w (NewQOut o w) := by
  have SO := Lib.hid (store_ops r)
  clear r
  unfold ptrV at *
  go_enter Try.func23, Try.ntmps23
  go_wp2_with fail
  refine SO.out.mono ?_
  rintro e w1 ⟨rfl, rfl⟩
  go_wp2_with fail
  go_ret2
  exact ⟨w.heap.size, rfl, heap_alloc_new w _, (Below.refl _ _).alloc (Nat.le_refl _) _, Nat.le_refl _⟩

theorem newq_nob {w : World} {pv : Value} (h : NBs w pv) : Calls Try.prog 23 #[pv] w fun e w' => e = .returned (.tuple #[.pointer none, .int .i64 1]) ∧ w = w' := by
  have SO := Lib.hid (store_nob h)
  clear h
  go_enter Try.func23, Try.ntmps23
  go_wp2_with fail
  refine SO.out.mono ?_
  rintro e w1 ⟨rfl, rfl⟩
  go_wp2_with fail
  go_ret2
  exact ⟨rfl, rfl⟩
end Go.Proofs.Ytmbkkifopmbkaaa

/- Layer 5 (quan): a store with its operations, and a draft beside it. -/
namespace Go.Proofs.Ytmbkkifopmbkaaa
open Go.ChangeShapes Go.WideShapes Go.ChangeAt Go.RowKit Go.Maps

theorem OSt.apart {w w' : World} {m : Mem} {h : Hd} {cs : List Nd} {o : Nat} {mb : Option Nat} (r : OSt w m h cs o mb) {own : Nat → Prop} (ht : Turn own w w') (hn : ∀ i, oown o m mb i → ¬ own i) : OSt w' m h cs o mb := by
  refine ⟨r.st.apart ht (fun i q => hn i (.inl q)), r.no, ?_⟩
  rcases r.cache with ⟨rfl, b, c⟩ | ⟨b, n, D, sw, rfl, c2, c3, c4, c5, c6⟩
  · exact .inl ⟨rfl, b.of (ht.block o b.lt (hn o (.inr (.inl rfl)))), c⟩
  · exact .inr ⟨b, n, D, sw, rfl, c2.of (ht.block o c2.lt (hn o (.inr (.inl rfl)))), c3.of (ht.block b c3.lt (hn b (.inr (.inr rfl)))), c4, c5, c6⟩

theorem OSt.next {w w' : World} {m m' : Mem} {h h' : Hd} {cs cs' : List Nd} {o : Nat} {mb : Option Nat} (r : OSt w m h cs o mb) (s' : St w' m' h' cs') (hx : Ext cs cs') (hV : h'.V = h.V) (hs : h'.sweeps = h.sweeps) (hn : Next m m' w w') : OSt w' m' h' cs' o mb := by
  refine ⟨s', hn.not_own (r.own_lt o (.inr (.inl rfl))) r.no, ?_⟩
  have g' : NGood h.V cs' := hV ▸ s'.good
  rcases r.cache with ⟨a, b, d⟩ | ⟨b, n, D, sw, c1, c2, c3, c4, c5, c6⟩
  · refine .inl ⟨a, ?_, by rw [hs]; exact d⟩
    rw [hn.s]
    exact b.of (hn.turn.block o b.lt r.no)
  · refine .inr ⟨b, n, D, sw, c1, ?_, c3.of (hn.turn.block b c3.lt c4), hn.not_own c3.lt c4, by rw [hs]; exact c5, fun e => ?_⟩
    · rw [hn.s]
      exact c2.of (hn.turn.block o c2.lt r.no)
    · rw [hV]
      rw [hs] at e
      exact (c6 e).ext hx r.st.good g'

/-- A store with what operations know of it. -/
structure OS where
  m : Mem
  h : Hd
  cs : List Nd
  mb : Option Nat

def OS.own (a : OS) (o i : Nat) : Prop := oown o a.m a.mb i
abbrev OS.at (a : OS) (o : Nat) (w : World) : Prop := OSt w a.m a.h a.cs o a.mb

/-- It has grown. -/
structure Grew (a a' : OS) : Prop where
  ext : Ext a.cs a'.cs
  fresh : Fresh a.cs a'.cs
  V : a'.h.V = a.h.V
  B : a'.h.B = a.h.B
  sweeps : a'.h.sweeps = a.h.sweeps
  s : a'.m.s = a.m.s

theorem Grew.refl (a : OS) : Grew a a := ⟨Ext.refl _, Fresh.refl _, rfl, rfl, rfl, rfl⟩
theorem Grew.trans {a b c : OS} (h : Grew a b) (k : Grew b c) : Grew a c := ⟨h.ext.trans k.ext, h.fresh.trans k.fresh, k.V.trans h.V, k.B.trans h.B, k.sweeps.trans h.sweeps, k.s.trans h.s⟩

/-- What quan's operations have and what a draft has, beside one another. -/
structure Two (o q d : Nat) (a b : OS) (w : World) : Prop where
  main : a.at o w
  draft : b.at d w
  quan : QuanAt w q o
  nq : ¬ a.own o q
  nq2 : ¬ b.own d q
  dis : ∀ i, a.own o i → ¬ b.own d i

def Two.own (o q d : Nat) (a b : OS) (i : Nat) : Prop := a.own o i ∨ i = q ∨ b.own d i

section
variable {o q d : Nat} {a b a' b' : OS} {w w' : World}
theorem Two.keep (t : Two o q d a b w) {P : Nat → Prop} (ht : Turn P w w') (hn : ∀ i, Two.own o q d a b i → ¬ P i) : Two o q d a b w' :=
  ⟨t.main.apart ht (fun i hi => hn i (.inl hi)), t.draft.apart ht (fun i hi => hn i (.inr (.inr hi))), t.quan.of (ht.block q t.quan.lt (hn q (.inr (.inl rfl)))), t.nq, t.nq2, t.dis⟩
theorem Two.lt (t : Two o q d a b w) {i : Nat} (h : Two.own o q d a b i) : i < w.heap.size := by
  rcases h with h | rfl | h
  · exact t.main.own_lt i h
  · exact t.quan.lt
  · exact t.draft.own_lt i h

theorem Two.main_step (t : Two o q d a b w) (hs : a'.at o w') (hn : ONext o a.m a.mb a'.m a'.mb w w') : Two o q d a' b w' ∧ Turn (Two.own o q d a b) w w' ∧ ∀ i, Two.own o q d a' b i → Two.own o q d a b i ∨ w.heap.size ≤ i :=
  ⟨⟨hs, t.draft.apart hn.turn (fun i hi hh => t.dis i hh hi), t.quan.of (hn.turn.block q t.quan.lt t.nq), fun hh => (hn.own q hh).elim t.nq fun h => by have := t.quan.lt; omega, t.nq2,
    fun i hi hd => (hn.own i hi).elim (fun h => t.dis i h hd) fun h => by have := t.draft.own_lt i hd; omega⟩,
   ⟨hn.turn.os, hn.turn.tape, hn.turn.output, hn.turn.size, fun i hi h1 => hn.turn.block i hi fun hh => h1 (.inl hh)⟩,
   fun i hi => hi.elim (fun h => (hn.own i h).imp .inl id) fun h => .inl (.inr h)⟩

theorem Two.draft_step (t : Two o q d a b w) (hs : b'.at d w') (hn : ONext d b.m b.mb b'.m b'.mb w w') : Two o q d a b' w' ∧ Turn (Two.own o q d a b) w w' ∧ ∀ i, Two.own o q d a b' i → Two.own o q d a b i ∨ w.heap.size ≤ i :=
  ⟨⟨t.main.apart hn.turn (fun i hi hh => t.dis i hi hh), hs, t.quan.of (hn.turn.block q t.quan.lt t.nq2), t.nq, fun hh => (hn.own q hh).elim t.nq2 fun h => by have := t.quan.lt; omega,
    fun i hi hd => (hn.own i hd).elim (fun h => t.dis i hi h) fun h => by have := t.main.own_lt i hi; omega⟩,
   ⟨hn.turn.os, hn.turn.tape, hn.turn.output, hn.turn.size, fun i hi h1 => hn.turn.block i hi fun hh => h1 (.inr (.inr hh))⟩,
   fun i hi => by
    rcases hi with h | h | h
    · exact .inl (.inl h)
    · exact .inl (.inr (.inl h))
    · exact (hn.own i h).imp (fun q => .inr (.inr q)) id⟩
end
end Go.Proofs.Ytmbkkifopmbkaaa

/- Contracts of layer 5 (quan): keep: the store's node of what a draft's says. -/
namespace Go.Proofs.Ytmbkkifopmbkaaa
open Go.ChangeShapes Go.WideShapes Go.ChangeAt Go.RowKit Go.Maps

structure KInv (o q d ms V B : Nat) (b : OS) (a : OS) (w : World) : Prop where
  two : Two o q d a b w
  eV : a.h.V = V
  eV2 : b.h.V = V
  eB : a.h.B = B
  eS : a.m.s = ms

def keepX (o q d ms V B : Nat) (b : OS) : RebX where
  T := OS
  Inv := KInv o q d ms V B b
  own a := Two.own o q d a b
  le := Grew
  num a := cnt a.cs
  Res a k n := (∃ c, Is b.cs k c ∧ At a.cs c.asks n) ∧ ∀ val, Says V a.cs val n = Says V b.cs val k
  Full a := B ≤ cnt a.cs
  J := 1
  V := V
  cs := b.cs
  Goes _ := True

theorem keepX_ok {o q d ms V B : Nat} {a b : OS} {w : World} (i : KInv o q d ms V B b a w) : (keepX o q d ms V B b).Ok (ptrV b.m.s) where
  good := by have := i.two.draft.st.good; rw [i.eV2] at this; exact this
  small := i.two.draft.st.lay.len
  keep := fun {s w w' P} j ht hn => ⟨j.two.keep ht hn, j.eV, j.eV2, j.eB, j.eS⟩
  lt := fun {s w i} j h => j.two.lt h
  node := fun {s w k c} j h => (node_yes j.two.draft.st.lay h).mono (by rintro e w' ⟨rfl, n, rfl⟩; exact ⟨rfl, below_drewN0 _ _⟩)
  refl := Grew.refl
  trans := fun h k => h.trans k
  mono := fun {s s' w w' k n} le j j' r => by
    obtain ⟨⟨c, h1, h2⟩, h3⟩ := r
    have g := j.two.main.st.good
    have g' := j'.two.main.st.good
    rw [j.eV] at g
    rw [j'.eV] at g'
    exact ⟨⟨c, h1, h2.ext le.ext⟩, fun val => (h2.says le.ext g g' val).trans (h3 val)⟩
  fits := fun {s w k n} j r => by
    obtain ⟨⟨c, h1, d, h2, _⟩, _⟩ := r
    have := h2.lt
    have := j.two.main.st.lay.len
    omega

theorem constant_any (k : Nat) (w : World) : Calls Try.prog 42 #[.int .i64 (k : Int)] w fun e w' => e = .returned (.tuple #[.int .i64 (k : Int), .bool (decide (k < 2))]) ∧ w = w' := by
  have hd : decide ((k : Int) < 2) = decide (k < 2) := by simp; omega
  go_enter Try.func42, Try.ntmps42
  go_wp2
  go_ret2
  exact ⟨rfl, rfl⟩

theorem keepX_told {o q d ms V B : Nat} {b : OS} (s : OS) (w : World) (k : Nat) (c : Nd) (j : KInv o q d ms V B b s w) (hk : Is b.cs k c) :
    Calls Try.prog 42 #[.int .i64 (k : Int)] w (ToldOut (keepX o q d ms V B b) s k w) := by
  refine (constant_any k w).mono ?_
  rintro e w' ⟨rfl, rfl⟩
  refine ⟨k, decide (k < 2), rfl, Below.refl _ _, fun h => ?_, fun h => ⟨by simpa using h, trivial⟩⟩
  have h2 : k < 2 := by simpa using h
  have g := j.two.main.st.good
  have gb := j.two.draft.st.good
  rw [j.eV] at g
  rw [j.eV2] at gb
  have ha := (gb.base h2 hk).1
  have : k = 0 ∨ k = 1 := by omega
  rcases this with rfl | rfl
  · exact ⟨⟨c, hk, by rw [ha]; exact g.at0 (Int.le_refl _)⟩, fun val => by rw [Says_zero, Says_zero]⟩
  · exact ⟨⟨c, hk, by rw [ha]; exact g.at1 (Int.le_refl _)⟩, fun val => by rw [Says_one, Says_one]⟩

theorem keepX_join {o q d ms V B : Nat} {b : OS} (s : OS) (w : World) (k x y : Nat) (c : Nd) (j : KInv o q d ms V B b s w) (hk : Is b.cs k c) (h2 : 2 ≤ k) (_ : (keepX o q d ms V B b).Goes k) (rx : (keepX o q d ms V B b).Res s c.low x) (ry : (keepX o q d ms V B b).Res s c.high y) :
    Calls Try.prog 33 #[ptrV ms, .int .i64 c.asks, .int .i64 (x : Int), .int .i64 (y : Int)] w (JoinOut (keepX o q d ms V B b) s k w) := by
  have gb := j.two.draft.st.good
  rw [j.eV2] at gb
  have g := j.two.main.st.good
  rw [j.eV] at g
  have ho := gb.ok k c h2 hk
  obtain ⟨v, hv⟩ : ∃ v : Nat, c.asks = v := ⟨c.asks.toNat, by omega⟩
  obtain ⟨⟨cl, hl, d1, i1, l1⟩, s1⟩ := rx
  obtain ⟨⟨ch, hh, d2, i2, l2⟩, s2⟩ := ry
  obtain ⟨cl', hl', ll⟩ := gb.lo k c h2 hk
  obtain ⟨ch', hh', lh⟩ := gb.hi k c h2 hk
  obtain rfl := hl.same hl'
  obtain rfl := hh.same hh'
  have MK := mk_semS j.two.main.st (v := v) (a := x) (b := y) (by have := j.eV; omega) i1 (by omega) i2 (by omega)
  rw [j.eS] at MK
  rw [hv]
  refine MK.mono ?_
  rintro e w' (⟨n, m', h', cs', cn, rfl, st, ex, is, le, sy, hV, hB, hS, hc, fr, nx⟩ | ⟨rfl, hb, hfull⟩)
  · have os := j.two.main.next st ex hV hS nx
    obtain ⟨t2, tn, on⟩ := j.two.main_step (a' := ⟨m', h', cs', s.mb⟩) os (Next.onext nx)
    refine ⟨n, 0, ⟨m', h', cs', s.mb⟩, rfl, ⟨t2, hV.trans j.eV, j.eV2, hB.trans j.eB, nx.s.trans j.eS⟩, ⟨ex, fr, hV, hB, hS, nx.s⟩, tn, on, hc, .inl ⟨rfl, ⟨c, hk, cn, is, by omega⟩, fun val => ?_⟩⟩
    rw [j.eV] at sy
    rw [sy, Says_step gb val h2 hk, hv, Int.toNat_natCast]
    cases val v with
    | true => exact s2 val
    | false => exact s1 val
  · exact ⟨0, 30, s, rfl, ⟨j.two.keep (P := fun _ => False) (Turn.of_below hb) (fun _ _ h => h), j.eV, j.eV2, j.eB, j.eS⟩, Grew.refl s, Turn.of_below hb, fun i hi => .inl hi, Nat.le_succ _, .inr ⟨rfl, rfl, by show B ≤ _; rw [hfull, j.eB]; exact Nat.le_refl _⟩⟩

def KeepOut (o q d ms V B : Nat) (b a : OS) (k : Nat) (w : World) (e : Ending) (w' : World) : Prop := RbOut (keepX o q d ms V B b) a V k w e w'

set_option maxRecDepth 100000 in
set_option maxHeartbeats 4000000 in
theorem keep_any {o q d ms V B : Nat} {a b : OS} {w : World} (j : KInv o q d ms V B b a w) (hV : 2 ^ V ≤ 2000000) {k : Nat} {c : Nd} (hk : Is b.cs k c) :
    Calls Try.prog 36 #[.pointer (some ⟨q, 0, none⟩), .pointer (some ⟨d, 0, none⟩), .int .i64 (k : Int)] w (KeepOut o q d ms V B b a k w) := by
  have ok := keepX_ok j
  have RB := Lib.hid fun (w' : World) (hb : Below w.heap.size w w') => rebuild_anyB ok keepX_told keepX_join (ok.keep (P := fun _ => False) j (Turn.of_below hb) (fun _ _ h => h)) hk (by show rk V c ≤ V; exact Nat.le_of_succ_le_succ (rk_le (by have := j.two.draft.st.good; rw [j.eV2] at this; exact this) hk)) hV
  have SD := Lib.hid fun (w' : World) (hb : Below w.heap.size w w') => store_ops (j.two.draft.keep hb)
  have SM := Lib.hid fun (w' : World) (hb : Below w.heap.size w w') => store_ops (j.two.main.keep hb)
  have MS := Lib.hid j.eS
  have c1 := j.two.quan.c1
  clear ok hV hk j
  unfold ptrV at *
  go_enter Try.func36, Try.ntmps36
  go_wp2_with fail
  go_region_with (first
    | (go_at_call 26; (with_reducible (first | refine (SD.out _ (below_drew _)).mono ?_ | refine (SM.out _ (below_drew _)).mono ?_)); rintro e w' ⟨rfl, rfl⟩)
    | (go_at_call 32; rw [MS.out]; refine (RB.out _ (below_drew _)).mono ?_; intro e w2 hout; have HO := Lib.hid hout; obtain ⟨r, x, s', rfl, -⟩ := hout))
  all_goals (go_wp2_with fail; go_ret2; exact RbOut.pre (below_drew _) HO.out)
end Go.Proofs.Ytmbkkifopmbkaaa

/- Contracts of layer 5 (quan): Restrict. -/
namespace Go.Proofs.Ytmbkkifopmbkaaa
open Go.ChangeShapes Go.WideShapes Go.ChangeAt Go.RowKit Go.Maps

structure RInv (o q p1 p2 p3 ms V B v : Nat) (x : Bool) (cs0 : List Nd) (a : OS) (w : World) : Prop where
  main : a.at o w
  quan : QuanAt w q o
  nq : ¬ a.own o q
  n1 : ¬ a.own o p1
  n2 : ¬ a.own o p2
  n3 : ¬ a.own o p3
  c1 : w.cell? ⟨p1, 0, none⟩ = some (ptrV ms)
  c2 : w.cell? ⟨p2, 0, none⟩ = some (.int .i64 (v : Int))
  c3 : w.cell? ⟨p3, 0, none⟩ = some (.bool x)
  eV : a.h.V = V
  eB : a.h.B = B
  eS : a.m.s = ms
  ext : Ext cs0 a.cs
  good : NGood V cs0
  small : cs0.length ≤ 1048576

def RInv.own (o q p1 p2 p3 : Nat) (a : OS) (i : Nat) : Prop := a.own o i ∨ i = q ∨ i = p1 ∨ i = p2 ∨ i = p3

theorem RInv.keep {o q p1 p2 p3 ms V B v : Nat} {x : Bool} {cs0 : List Nd} {a : OS} {w w' : World} {P : Nat → Prop} (j : RInv o q p1 p2 p3 ms V B v x cs0 a w) (ht : Turn P w w') (hn : ∀ i, RInv.own o q p1 p2 p3 a i → ¬ P i) : RInv o q p1 p2 p3 ms V B v x cs0 a w' :=
  ⟨j.main.apart ht (fun i hi => hn i (.inl hi)), j.quan.of (ht.block q j.quan.lt (hn q (.inr (.inl rfl)))), j.nq, j.n1, j.n2, j.n3,
   ht.cell j.c1 (hn p1 (.inr (.inr (.inl rfl)))), ht.cell j.c2 (hn p2 (.inr (.inr (.inr (.inl rfl))))), ht.cell j.c3 (hn p3 (.inr (.inr (.inr (.inr rfl))))), j.eV, j.eB, j.eS, j.ext, j.good, j.small⟩
theorem RInv.below {o q p1 p2 p3 ms V B v : Nat} {x : Bool} {cs0 : List Nd} {a : OS} {w w' : World} (j : RInv o q p1 p2 p3 ms V B v x cs0 a w) (hb : Below w.heap.size w w') : RInv o q p1 p2 p3 ms V B v x cs0 a w' :=
  j.keep (P := fun _ => False) (Turn.of_below hb) (fun _ _ h => h)

def restX (o q p1 p2 p3 ms V B v : Nat) (x : Bool) (cs0 : List Nd) : RebX where
  T := OS
  Inv := RInv o q p1 p2 p3 ms V B v x cs0
  own := RInv.own o q p1 p2 p3
  le := Grew
  num a := cnt a.cs
  Res a k n := (∃ c, Is cs0 k c ∧ At a.cs c.asks n) ∧ ∀ val, Says V a.cs val n = Says V cs0 (upd val v x) k
  Full a := B ≤ cnt a.cs
  J := 1
  V := V
  cs := cs0
  Goes k := ∀ c, Is cs0 k c → c.asks < v

theorem restX_ok {o q p1 p2 p3 ms V B v : Nat} {x : Bool} {cs0 : List Nd} {a : OS} {w : World} (i : RInv o q p1 p2 p3 ms V B v x cs0 a w) : (restX o q p1 p2 p3 ms V B v x cs0).Ok (ptrV ms) where
  good := i.good
  small := i.small
  keep := fun {s w w' P} j ht hn => j.keep ht hn
  lt := fun {s w i} j h => by
    rcases h with h | rfl | rfl | rfl | rfl
    · exact j.main.own_lt i h
    · exact j.quan.lt
    · exact cell_lt j.c1
    · exact cell_lt j.c2
    · exact cell_lt j.c3
  node := fun {s w k c} j h => by
    have := node_yes j.main.st.lay (j.ext k c h)
    rw [j.eS] at this
    exact this.mono (by rintro e w' ⟨rfl, n, rfl⟩; exact ⟨rfl, below_drewN0 _ _⟩)
  refl := Grew.refl
  trans := fun h k => h.trans k
  mono := fun {s s' w w' k n} le j j' r => by
    obtain ⟨⟨c, h1, h2⟩, h3⟩ := r
    have g := j.main.st.good
    have g' := j'.main.st.good
    rw [j.eV] at g
    rw [j'.eV] at g'
    exact ⟨⟨c, h1, h2.ext le.ext⟩, fun val => (h2.says le.ext g g' val).trans (h3 val)⟩
  fits := fun {s w k n} j r => by
    obtain ⟨⟨c, h1, d, h2, _⟩, _⟩ := r
    have := h2.lt
    have := j.main.st.lay.len
    omega

set_option maxRecDepth 100000 in
set_option maxHeartbeats 1600000 in
theorem restX_told {o q p1 p2 p3 ms V B v : Nat} {x : Bool} {cs0 : List Nd} (hv : v < V) (s : OS) (w : World) (k : Nat) (c : Nd) (j : RInv o q p1 p2 p3 ms V B v x cs0 s w) (hk : Is cs0 k c) :
    Calls Try.prog 30 #[.int .i64 (k : Int), ptrV p1, ptrV p2, ptrV p3] w (ToldOut (restX o q p1 p2 p3 ms V B v x cs0) s k w) := by
  have g := j.main.st.good
  rw [j.eV] at g
  have NY := node_yes j.main.st.lay (j.ext k c hk)
  rw [j.eS] at NY
  have NY := Lib.hid NY
  have c1 := j.c1
  have HD := Lib.hid fun (n : Nat) => j.below (below_drewN0 w n)
  have g0 := j.good
  -- what is told of it, by what it asks
  have R1 : Hid ((v : Int) < c.asks → (restX o q p1 p2 p3 ms V B v x cs0).Res s k k) := by
    show _ → _
    intro h
    have ha : At s.cs c.asks k := ⟨c, j.ext k c hk, Int.le_refl _⟩
    exact ⟨⟨c, hk, ha⟩, fun val => by rw [j.ext.says g0 g val hk, Says_upd g0 hk val v x h]⟩
  have K2 : c.asks ≤ v → 2 ≤ k := fun h => by
    rcases Nat.lt_or_ge k 2 with h2 | h2
    · have := (g0.base h2 hk).1; omega
    · exact h2
  have R2 : Hid (c.asks = v → (restX o q p1 p2 p3 ms V B v x cs0).Res s k (if x then c.high else c.low)) := by
    show _ → _
    intro h
    have h2 := K2 (by omega)
    obtain ⟨l, hl, ll⟩ := g0.lo k c h2 hk
    obtain ⟨r, hr, lr⟩ := g0.hi k c h2 hk
    cases x with
    | true =>
      have ha : At s.cs c.asks c.high := ⟨r, j.ext _ _ hr, by omega⟩
      exact ⟨⟨c, hk, ha⟩, fun val => by
        show Says V s.cs val c.high = _
        rw [j.ext.says g0 g val hr, Says_high g0 h2 hk, h, Int.toNat_natCast]⟩
    | false =>
      have ha : At s.cs c.asks c.low := ⟨l, j.ext _ _ hl, by omega⟩
      exact ⟨⟨c, hk, ha⟩, fun val => by
        show Says V s.cs val c.low = _
        rw [j.ext.says g0 g val hl, Says_low g0 h2 hk, h, Int.toNat_natCast]⟩
  have R3 : Hid (c.asks < v → 2 ≤ k ∧ (restX o q p1 p2 p3 ms V B v x cs0).Goes k) := by
    show _ → _
    intro h
    exact ⟨K2 (by omega), fun d hd => by obtain rfl := hk.same hd; exact h⟩
  clear K2 g g0 j hk hv
  unfold ptrV at *
  go_enter Try.func30, Try.ntmps30
  go_wp2_with fail
  refine NY.out.mono ?_
  rintro e w1 ⟨rfl, n, rfl⟩
  have c2 := (HD.out n).c2
  have c3 := (HD.out n).c3
  have BW := Lib.hid (below_drewN0 w n)
  clear HD NY c1
  rcases Int.lt_trichotomy c.asks v with h | h | h
  · have d1 : decide ((v : Int) < c.asks) = false := decide_eq_false (by omega)
    have d2 : (c.asks == (v : Int)) = false := by simp; omega
    have RR := Lib.hid (R3.out h)
    clear R1 R2 R3 h
    cases x with
    | true =>
      go_wp2_with fail
      go_ret2
      exact ⟨0, false, rfl, BW.out, (fun h => by cases h), fun _ => RR.out⟩
    | false =>
      go_wp2_with fail
      go_ret2
      exact ⟨0, false, rfl, BW.out, (fun h => by cases h), fun _ => RR.out⟩
  · have d1 : decide ((v : Int) < c.asks) = false := decide_eq_false (by omega)
    have d2 : (c.asks == (v : Int)) = true := by simpa using h
    have RR := Lib.hid (R2.out h)
    clear R1 R2 R3 h
    cases x with
    | true =>
      go_wp2_with fail
      go_ret2
      exact ⟨c.high, true, rfl, BW.out, fun _ => RR.out, fun h => by cases h⟩
    | false =>
      go_wp2_with fail
      go_ret2
      exact ⟨c.low, true, rfl, BW.out, fun _ => RR.out, fun h => by cases h⟩
  · have d1 : decide ((v : Int) < c.asks) = true := decide_eq_true h
    have RR := Lib.hid (R1.out h)
    clear R1 R2 R3 h
    go_wp2_with fail
    go_ret2
    exact ⟨k, true, rfl, BW.out, fun _ => RR.out, fun h => by cases h⟩

theorem restX_join {o q p1 p2 p3 ms V B v : Nat} {x : Bool} {cs0 : List Nd} (s : OS) (w : World) (k y z : Nat) (c : Nd) (j : RInv o q p1 p2 p3 ms V B v x cs0 s w) (hk : Is cs0 k c) (h2 : 2 ≤ k) (hg : (restX o q p1 p2 p3 ms V B v x cs0).Goes k)
    (ry : (restX o q p1 p2 p3 ms V B v x cs0).Res s c.low y) (rz : (restX o q p1 p2 p3 ms V B v x cs0).Res s c.high z) :
    Calls Try.prog 33 #[ptrV ms, .int .i64 c.asks, .int .i64 (y : Int), .int .i64 (z : Int)] w (JoinOut (restX o q p1 p2 p3 ms V B v x cs0) s k w) := by
  have g0 := j.good
  have g := j.main.st.good
  rw [j.eV] at g
  have ho := g0.ok k c h2 hk
  obtain ⟨u, hu⟩ : ∃ u : Nat, c.asks = u := ⟨c.asks.toNat, by omega⟩
  have hlt := hg c hk
  obtain ⟨⟨cl, hl, d1, i1, l1⟩, s1⟩ := ry
  obtain ⟨⟨ch, hh, d2, i2, l2⟩, s2⟩ := rz
  obtain ⟨cl', hl', ll⟩ := g0.lo k c h2 hk
  obtain ⟨ch', hh', lh⟩ := g0.hi k c h2 hk
  obtain rfl := hl.same hl'
  obtain rfl := hh.same hh'
  have MK := mk_semS j.main.st (v := u) (a := y) (b := z) (by have := j.eV; omega) i1 (by omega) i2 (by omega)
  rw [j.eS] at MK
  rw [hu]
  refine MK.mono ?_
  rintro e w' (⟨n, m', h', cs', cn, rfl, st, ex, is, le, sy, hV, hB, hS, hc, fr, nx⟩ | ⟨rfl, hb, hfull⟩)
  · have os := j.main.next st ex hV hS nx
    have on : ONext o s.m s.mb m' s.mb w w' := Next.onext nx
    have no : ∀ {i}, i < w.heap.size → ¬ s.own o i → ¬ OS.own ⟨m', h', cs', s.mb⟩ o i := fun hi h1 hh => (on.own _ hh).elim h1 (by omega)
    refine ⟨n, 0, ⟨m', h', cs', s.mb⟩, rfl, ⟨os, j.quan.of (on.turn.block q j.quan.lt j.nq), no j.quan.lt j.nq, no (cell_lt j.c1) j.n1, no (cell_lt j.c2) j.n2, no (cell_lt j.c3) j.n3, on.turn.cell j.c1 j.n1, on.turn.cell j.c2 j.n2, on.turn.cell j.c3 j.n3, hV.trans j.eV, hB.trans j.eB, nx.s.trans j.eS, j.ext.trans ex, j.good, j.small⟩,
      ⟨ex, fr, hV, hB, hS, nx.s⟩, ⟨on.turn.os, on.turn.tape, on.turn.output, on.turn.size, fun i hi h1 => on.turn.block i hi fun hh => h1 (.inl hh)⟩, fun i hi => hi.elim (fun h => (on.own i h).imp .inl id) (fun h => .inl (.inr h)), hc, .inl ⟨rfl, ⟨c, hk, cn, is, by omega⟩, fun val => ?_⟩⟩
    rw [j.eV] at sy
    have hne : upd val v x u = val u := by unfold upd; rw [if_neg (by omega)]
    rw [sy, Says_step g0 (upd val v x) h2 hk, hu, Int.toNat_natCast, hne]
    cases val u with
    | true => exact s2 val
    | false => exact s1 val
  · exact ⟨0, 30, s, rfl, j.below hb, Grew.refl s, Turn.of_below hb, fun i hi => .inl hi, Nat.le_succ _, .inr ⟨rfl, rfl, by show B ≤ _; rw [hfull, j.eB]; exact Nat.le_refl _⟩⟩
end Go.Proofs.Ytmbkkifopmbkaaa

/- Contracts of layer 5 (quan): what its operations leave. -/
namespace Go.Proofs.Ytmbkkifopmbkaaa
open Go.ChangeShapes Go.WideShapes Go.ChangeAt Go.RowKit Go.Maps

/-- The node that says F, or no room. -/
def QOut (V o q : Nat) (a : OS) (F : (Nat → Bool) → Bool) (w : World) (e : Ending) (w' : World) : Prop :=
  ∃ (r : Nat) (x : Int) (a' : OS), e = .returned (.tuple #[.int .i64 (r : Int), .int .i64 x]) ∧ a'.at o w' ∧ QuanAt w' q o ∧ ¬ a'.own o q ∧ Grew a a' ∧ Turn (fun i => a.own o i ∨ i = q) w w' ∧ (∀ i, a'.own o i → a.own o i ∨ w.heap.size ≤ i) ∧
    cnt a'.cs + 1 ≤ cnt a.cs + 2 ^ V ∧ ((x = 0 ∧ At a'.cs 0 r ∧ ∀ val, Says V a'.cs val r = F val) ∨ (x = 30 ∧ r = 0 ∧ a.h.B + 1 ≤ cnt a.cs + 2 ^ V))

theorem QOut.pre {V o q : Nat} {a : OS} {F : (Nat → Bool) → Bool} {w w1 w2 : World} {e : Ending} (hb : Below w.heap.size w w1) (f : QOut V o q a F w1 e w2) : QOut V o q a F w e w2 := by
  obtain ⟨r, x, a', e1, h1, h2, h3, h4, h5, h6, h7⟩ := f
  exact ⟨r, x, a', e1, h1, h2, h3, h4, (Turn.of_below hb).trans h5 (fun i h => .inl h), fun i hi => (h6 i hi).imp id fun q => Nat.le_trans hb.size q, h7⟩

theorem rd_one {w : World} {b : Nat} {x : Int} {t : TypeId} {z : Nat × Nat} (h : w.heap[b]? = some (.cells #[.int .i64 x] t z)) : Rd w (some ⟨b, 0, none⟩) (ints [x]) := by
  refine .inr ⟨b, 0, rfl, row_lt h, fun j u hu => ?_⟩
  match j, hu with
  | 0, hu => injection hu with hu; rw [← hu]; exact cell_of_row _ _ 0 _ _ _ h
  | j + 1, hu => simp at hu
theorem cells_one {w : World} {b : Nat} {x : Int} {t : TypeId} {z : Nat × Nat} (h : w.heap[b]? = some (.cells #[.int .i64 x] t z)) : ∀ (i : Nat) (y : Int), [x][i]? = some y → w.cell? ⟨b, i, none⟩ = some (.int .i64 y) := by
  intro i y hy
  match i, hy with
  | 0, hy => injection hy with hy; rw [← hy]; exact cell_of_row _ _ 0 _ _ _ h
  | i + 1, hy => simp at hy
theorem cells_two {w : World} {b : Nat} {x z : Int} {t : TypeId} {s : Nat × Nat} (h : w.heap[b]? = some (.cells #[.int .i64 x, .int .i64 z] t s)) : ∀ (i : Nat) (y : Int), [x, z][i]? = some y → w.cell? ⟨b, i, none⟩ = some (.int .i64 y) := by
  intro i y hy
  match i, hy with
  | 0, hy => injection hy with hy; rw [← hy]; exact cell_of_row _ _ 0 _ _ _ h
  | 1, hy => injection hy with hy; rw [← hy]; exact cell_of_row _ _ 1 _ _ _ h
  | i + 2, hy => simp at hy

/-- Of what there is, nothing is refused. -/
theorem there_at {cs : List Nd} {u : Int} {k : Nat} (h : At cs u k) : thereB cs (k : Int) = true := by
  obtain ⟨c, h, _⟩ := h; exact thereB_is h
theorem varB_nat {V v : Nat} (h : v < V) : varB V (v : Int) = true := by simp [varB]; omega

theorem At.rk_le {V : Nat} {cs : List Nd} {u : Int} {k : Nat} (g : NGood V cs) (h : At cs u k) : ∃ c, Is cs k c ∧ rk V c ≤ V := by
  obtain ⟨c, h, _⟩ := h
  exact ⟨c, h, Nat.le_of_succ_le_succ (Go.Proofs.Ytmbkkifopmbkaaa.rk_le g h)⟩
end Go.Proofs.Ytmbkkifopmbkaaa

/- Contracts of layer 5 (quan): Restrict, whole. -/
namespace Go.Proofs.Ytmbkkifopmbkaaa
open Go.ChangeShapes Go.WideShapes Go.ChangeAt Go.RowKit Go.Maps

theorem RbOut.rest {o q p1 p2 p3 ms V B v : Nat} {x : Bool} {a : OS} {k : Nat} {w0 w w' : World} {e : Ending} (hb : Below w0.heap.size w0 w) (hq : ∀ i, i = p1 ∨ i = p2 ∨ i = p3 → w0.heap.size ≤ i) (hB : a.h.B = B) (f : RbOut (restX o q p1 p2 p3 ms V B v x a.cs) a V k w e w') :
    QOut V o q a (fun val => Says V a.cs (upd val v x) k) w0 e w' := by
  obtain ⟨r, y, a', rfl, j, gr, t, ow, m, hout⟩ := f
  have m : cnt a'.cs + 1 ≤ cnt a.cs + 1 * 2 ^ V := m
  rw [Nat.one_mul] at m
  refine ⟨r, y, a', rfl, j.main, j.quan, j.nq, gr, (Turn.of_below hb).trans t ?_, fun i hi => ?_, m, ?_⟩
  · rintro i (h | rfl | h)
    · exact .inl (.inl h)
    · exact .inl (.inr rfl)
    · exact .inr (hq i h)
  · rcases ow i (.inl hi) with (h | rfl | h) | h
    · exact .inl h
    · exact absurd hi j.nq
    · exact .inr (hq i h)
    · exact .inr (Nat.le_trans hb.size h)
  · rcases hout with ⟨rfl, ⟨c, h1, h2⟩, h3⟩ | ⟨rfl, rfl, hf⟩
    · exact .inl ⟨rfl, h2.mono (by have := j.good.range h1; omega), h3⟩
    · have hf : B ≤ cnt a'.cs := hf
      exact .inr ⟨rfl, rfl, by omega⟩

set_option maxRecDepth 100000 in
set_option maxHeartbeats 4000000 in
theorem restrict_good {V o q : Nat} {a : OS} {w : World} (r : a.at o w) (ha : QuanAt w q o) (nq : ¬ a.own o q) (hV : a.h.V = V) (hV2 : 2 ^ V ≤ 2000000) {k v : Nat} (x : Bool) (hv : v < V) (hk : At a.cs 0 k) :
    Calls Try.prog 13 #[.pointer (some ⟨q, 0, none⟩), .int .i64 (k : Int), .int .i64 (v : Int), .bool x] w (QOut V o q a (fun val => Says V a.cs (upd val v x) k) w) := by
  have g := r.st.good
  rw [hV] at g
  obtain ⟨c, ic, rc⟩ := hk.rk_le g
  have bw := (((((Below.refl w.heap.size w).alloc (Nat.le_refl _) (.cells #[.int .i64 (v : Int)] 3)).alloc (by simp) (.cells #[.bool x] 4)).alloc (by simp; omega) (.cells #[.int .i64 (v : Int)] 3)).alloc (by simp; omega) (.cells #[.int .i64 (k : Int)] 3))
  have h1 := at_old (.cells #[.int .i64 (k : Int)] 3) (at_old (.cells #[.int .i64 (v : Int)] 3) (at_old (.cells #[.bool x] 4) (heap_alloc_new w (.cells #[.int .i64 (v : Int)] 3))))
  have h2 := at_old (.cells #[.int .i64 (k : Int)] 3) (at_old (.cells #[.int .i64 (v : Int)] 3) (at_new (n := w.heap.size + 1) (w := w.alloc (.cells #[.int .i64 (v : Int)] 3)) (.cells #[.bool x] 4) (by simp)))
  have h3 := at_old (.cells #[.int .i64 (k : Int)] 3) (at_new (n := w.heap.size + 1 + 1) (w := (w.alloc (.cells #[.int .i64 (v : Int)] 3)).alloc (.cells #[.bool x] 4)) (.cells #[.int .i64 (v : Int)] 3) (by simp))
  have h4 := at_new (n := w.heap.size + 1 + 1 + 1) (w := ((w.alloc (.cells #[.int .i64 (v : Int)] 3)).alloc (.cells #[.bool x] 4)).alloc (.cells #[.int .i64 (v : Int)] 3)) (.cells #[.int .i64 (k : Int)] 3) (by simp)
  have RF := refusal_q (r.keep bw) (ha.keep bw) (c := 1) (vs := [(v : Int)]) (rd_one h3) (by simp) (c2 := 1) (xs := [(k : Int)]) (by simp) (row_lt h4) (cells_one h4)
  have hz : refQ a.h.V a.cs [(v : Int)] [(k : Int)] = 0 := refQ_ok (by unfold listB; simp [varB_nat (show v < a.h.V by omega)]) (by simp [there_at hk])
  unfold RefQOut at RF
  rw [hz] at RF
  change Calls _ _ #[_, .slice _ 1 _, .slice _ 1 _] _ _ at RF
  have RF := Lib.hid RF
  have BW := Lib.hid bw
  have R0 := Lib.hid (r.keep bw)
  have Q0 := Lib.hid (ha.keep bw)
  have G := Lib.hid g
  have NQ := Lib.hid nq
  have OL := Lib.hid r.own_lt
  have QL := Lib.hid ha.lt
  have IC := Lib.hid ic
  have RC := Lib.hid rc
  have EV := Lib.hid hV
  have EV2 := Lib.hid hV2
  have HV := Lib.hid hv
  have H1 := Lib.hid h1
  have H2 := Lib.hid h2
  have hmf : ∀ (fn : Fn) (first cap : Array Value) (w : World), (Instr.makeFunc fn first cap).run Try.prog w = .ok (.func fn first cap) w := fun _ _ _ _ => rfl
  clear bw h1 h2 h3 h4 g ic rc hz r ha nq hV hV2 hv hk
  go_enter Try.func13, Try.ntmps13
  go_wp2_with fail
  refine RF.out.mono ?_
  rintro e w5 ⟨rfl, hb⟩
  have B5 := Lib.hid (BW.out.trans (hb.mono BW.out.size))
  have R5 := Lib.hid (R0.out.keep hb)
  have Q5 := Lib.hid (Q0.out.keep hb)
  have H1 := Lib.hid ((hb.block _ (row_lt H1.out)).trans H1.out)
  have H2 := Lib.hid ((hb.block _ (row_lt H2.out)).trans H2.out)
  have c1 := Q5.out.c1
  have SO := Lib.hid (store_ops R5.out)
  unfold ptrV at SO
  clear RF BW R0 Q0 hb
  go_wp2_with fail
  refine SO.out.mono ?_
  rintro e w6 ⟨rfl, rfl⟩
  have b6 := (Below.refl w5.heap.size w5).alloc (Nat.le_refl _) (.cells #[.pointer (some ⟨a.m.s, 0, none⟩)] 22)
  have hp := heap_alloc_new w5 (.cells #[.pointer (some ⟨a.m.s, 0, none⟩)] 22)
  have RI : RInv o q w5.heap.size w.heap.size (w.heap.size + 1) a.m.s V a.h.B v x a.cs a (w5.alloc (.cells #[.pointer (some ⟨a.m.s, 0, none⟩)] 22)) :=
    ⟨R5.out.keep b6, Q5.out.keep b6, NQ.out, fun h => by have := OL.out _ h; have := B5.out.size; omega, fun h => by have := OL.out _ h; omega, fun h => by have := OL.out _ h; omega,
      cell_of_row _ _ 0 _ _ _ hp, cell_of_row _ _ 0 _ _ _ (at_old _ H1.out), cell_of_row _ _ 0 _ _ _ (at_old _ H2.out), EV.out, rfl, rfl, Ext.refl _, G.out, R5.out.st.lay.len⟩
  have RB := Lib.hid (rebuild_anyA (restX_ok RI) (restX_told HV.out) restX_join RI IC.out RC.out EV2.out)
  have B6 := Lib.hid (B5.out.trans (b6.mono B5.out.size))
  have PL : Hid (∀ i, i = w5.heap.size ∨ i = w.heap.size ∨ i = w.heap.size + 1 → w.heap.size ≤ i) := by
    show ∀ i, _ → _
    intro i hi
    have := B5.out.size
    omega
  clear RI b6 hp SO c1 OL
  unfold ptrV at RB
  go_wp2_with fail
  refine RB.out.mono ?_
  intro e w7 hout
  have HO := Lib.hid (RbOut.rest B6.out PL.out rfl hout)
  obtain ⟨r, x, s', rfl, -⟩ := hout
  clear RB
  go_wp2_with fail
  go_ret2
  exact HO.out

theorem restrict_bad {w : World} {m : Mem} {h : Hd} {cs : List Nd} {o q : Nat} {mb : Option Nat} (r : OSt w m h cs o mb) (ha : QuanAt w q o) (k v : Int) (x : Bool) (hne : refQ h.V cs [v] [k] ≠ 0) :
    Calls Try.prog 13 #[.pointer (some ⟨q, 0, none⟩), .int .i64 k, .int .i64 v, .bool x] w fun e w' => e = .returned (.tuple #[.int .i64 0, .int .i64 (refQ h.V cs [v] [k])]) ∧ Below w.heap.size w w' := by
  have bw := (((((Below.refl w.heap.size w).alloc (Nat.le_refl _) (.cells #[.int .i64 v] 3)).alloc (by simp) (.cells #[.bool x] 4)).alloc (by simp; omega) (.cells #[.int .i64 v] 3)).alloc (by simp; omega) (.cells #[.int .i64 k] 3))
  have h3 := at_old (.cells #[.int .i64 k] 3) (at_new (n := w.heap.size + 1 + 1) (w := (w.alloc (.cells #[.int .i64 v] 3)).alloc (.cells #[.bool x] 4)) (.cells #[.int .i64 v] 3) (by simp))
  have h4 := at_new (n := w.heap.size + 1 + 1 + 1) (w := ((w.alloc (.cells #[.int .i64 v] 3)).alloc (.cells #[.bool x] 4)).alloc (.cells #[.int .i64 v] 3)) (.cells #[.int .i64 k] 3) (by simp)
  have RF := refusal_q (r.keep bw) (ha.keep bw) (c := 1) (vs := [v]) (rd_one h3) (by simp) (c2 := 1) (xs := [k]) (by simp) (row_lt h4) (cells_one h4)
  change Calls _ _ #[_, .slice _ 1 _, .slice _ 1 _] _ _ at RF
  have hd : (refQ h.V cs [v] [k] != 0) = true := by simpa using hne
  unfold RefQOut at RF
  have RF := Lib.hid RF
  have BW := Lib.hid bw
  clear bw h3 h4 r ha hne
  generalize refQ h.V cs [v] [k] = z at *
  go_enter Try.func13, Try.ntmps13
  go_wp2_with fail
  refine RF.out.mono ?_
  rintro e w5 ⟨rfl, hb⟩
  have B5 := Lib.hid (BW.out.trans (hb.mono BW.out.size))
  clear hb RF
  go_wp2_with fail
  go_ret2
  exact ⟨rfl, B5.out⟩

theorem restrict_nob {w : World} {pv : Value} (h : NBs w pv) (k v : Int) (x : Bool) :
    Calls Try.prog 13 #[pv, .int .i64 k, .int .i64 v, .bool x] w fun e w' => e = .returned (.tuple #[.int .i64 0, .int .i64 1]) ∧ Below w.heap.size w w' := by
  have bw := (((((Below.refl w.heap.size w).alloc (Nat.le_refl _) (.cells #[.int .i64 v] 3)).alloc (by simp) (.cells #[.bool x] 4)).alloc (by simp; omega) (.cells #[.int .i64 v] 3)).alloc (by simp; omega) (.cells #[.int .i64 k] 3))
  have RF := Lib.hid (fun s1 s2 => refusal_qnob (h.keep bw) s1 s2)
  have BW := Lib.hid bw
  clear bw h
  go_enter Try.func13, Try.ntmps13
  go_wp2_with fail
  refine (RF.out _ _).mono ?_
  rintro e w5 ⟨rfl, rfl⟩
  go_wp2_with fail
  go_ret2
  exact ⟨rfl, BW.out⟩
end Go.Proofs.Ytmbkkifopmbkaaa
