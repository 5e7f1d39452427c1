/- Layer 3: a call on both sides. -/
import Derived.Test.YteeffabmafakiaaNRefNew
namespace Go.Proofs.Yteeffabmafakiaa
open Go.ChangeShapes Go.WideShapes Go.ChangeAt Go.RowKit

/-- The store and the document's, of the same cells. -/
structure Both (w : World) (m : Mem) (h : Hd) (cs : List Nd) (g N cap : Nat) : Prop where
  st : St w m h cs
  rs : RS w g N cap cs
  apart : ¬ m.own g

theorem Both.keep {w w' : World} {m : Mem} {h : Hd} {cs : List Nd} {g N cap : Nat} (b : Both w m h cs g N cap) (hb : Below w.heap.size w w') : Both w' m h cs g N cap :=
  ⟨b.st.keep hb, b.rs.keep hb, b.apart⟩

/-- Behind a call on both sides: sv is the document's store. -/
def Step (m : Mem) (h : Hd) (N : Nat) (w w' : World) (sv : Value) : Prop :=
  ∃ m' h' cs' g' N' cap', sv = rsV h' g' N' cap' ∧ Both w' m' h' cs' g' N' cap' ∧ h'.V = h.V ∧ h.made ≤ h'.made ∧ h'.made ≤ h.made + 1 ∧ h.sweeps ≤ h'.sweeps ∧ h'.sweeps ≤ h.sweeps + 1 ∧ N' ≤ N + 1 ∧ Next m m' w w'

theorem Step.same {w w' : World} {m : Mem} {h : Hd} {cs : List Nd} {g N cap : Nat} (b : Both w m h cs g N cap) (hb : Below w.heap.size w w') : Step m h N w w' (rsV h g N cap) :=
  ⟨m, h, cs, g, N, cap, rfl, b.keep hb, rfl, Int.le_refl _, by omega, Int.le_refl _, by omega, by omega, Next.below hb⟩

/-- The same cells, in a new block. -/
theorem Step.moved {w u u' : World} {m : Mem} {h : Hd} {cs : List Nd} {g N cap g' cap' : Nat} (b : Both w m h cs g N cap) (hb : Below w.heap.size w u) (rs : RS u' g' N cap' cs) (hn : ¬ m.own g') (hb' : Below u.heap.size u u') : Step m h N w u' (rsV h g' N cap') :=
  have hw := hb.trans (hb'.mono hb.size)
  ⟨m, h, cs, g', N, cap', rfl, ⟨b.st.keep hw, rs, hn⟩, rfl, Int.le_refl _, by omega, Int.le_refl _, by omega, by omega, Next.below hw⟩

def NodeSim (h : Hd) (g N cap : Nat) (k : Int) (w : World) (e : Ending) (w' : World) : Prop :=
  ∃ a b c x : Int, e = .returned (.tuple #[.int .i64 a, .int .i64 b, .int .i64 c, .int .i64 x]) ∧ Below w.heap.size w w' ∧
    ∀ u, Below w'.heap.size w' u → Calls Try.prog 19 #[rsV h g N cap, .int .i64 k] u fun e2 u2 => e2 = .returned (.tuple #[.int .i64 a, .int .i64 b, .int .i64 c, .int .i64 x]) ∧ Below u.heap.size u u2

theorem node_sim {w : World} {m : Mem} {h : Hd} {cs : List Nd} {g N cap : Nat} (b : Both w m h cs g N cap) (k : Int) :
    Calls Try.prog 18 #[ptrV m.s, .int .i64 k] w (NodeSim h g N cap k w) := by
  cases hk : thereB cs k with
  | false =>
    refine (node_no b.st.lay k hk).mono ?_
    rintro e w' ⟨rfl, rfl⟩
    exact ⟨_, _, _, _, rfl, Below.refl _ _, fun u hu => rask_no (b.rs.keep hu) h k hk⟩
  | true =>
    obtain ⟨n, c, rfl, hc⟩ := thereB_true hk
    refine (node_yes b.st.lay hc).mono ?_
    rintro e w' ⟨rfl, q, rfl⟩
    have hb : Below w.heap.size w (w.drewN q) := below_drewN (Below.refl _ _) q
    exact ⟨_, _, _, _, rfl, hb, fun u hu => rask_yes ((b.rs.keep hb).keep hu) h hc⟩

def EvalSim (h : Hd) (g N cap : Nat) (k : Int) (v : Value) (w : World) (e : Ending) (w' : World) : Prop :=
  ∃ (a : Bool) (x : Int), e = .returned (.tuple #[.bool a, .int .i64 x]) ∧ Below w.heap.size w w' ∧
    ∀ u, Below w'.heap.size w' u → Calls Try.prog 20 #[rsV h g N cap, .int .i64 k, v] u fun e2 u2 => e2 = .returned (.tuple #[.bool a, .int .i64 x]) ∧ Below u.heap.size u u2

theorem eval_sim {w : World} {m : Mem} {h : Hd} {cs : List Nd} {g N cap : Nat} (b : Both w m h cs g N cap) (k : Int) {A : Option Addr} {vs : List Bool} {cap2 : Nat} (hr : Rd w A (vs.map Value.bool)) (hm : vs.length ≤ 9223372036854775807) :
    Calls Try.prog 16 #[ptrV m.s, .int .i64 k, .slice A vs.length cap2] w (EvalSim h g N cap k (.slice A vs.length cap2) w) := by
  cases hk : thereB cs k with
  | false =>
    refine (eval_no b.st.lay k _ hk).mono ?_
    rintro e w' ⟨rfl, rfl⟩
    exact ⟨_, _, rfl, Below.refl _ _, fun u hu => reval_no (b.rs.keep hu) h k _ hk⟩
  | true =>
    obtain ⟨n, c, rfl, hc⟩ := thereB_true hk
    refine (eval_yes b.st hc hr hm).mono ?_
    rintro e w' ⟨rfl, rfl⟩
    exact ⟨_, _, rfl, Below.refl _ _, fun u hu => reval_yes (b.rs.keep hu) h b.st.good hc (hr.keep hu) hm⟩

def SizeSim (h : Hd) (g N cap : Nat) (k : Int) (w : World) (e : Ending) (w' : World) : Prop :=
  ∃ (a x : Int), e = .returned (.tuple #[.int .i64 a, .int .i64 x]) ∧ Below w.heap.size w w' ∧
    ∀ u, Below w'.heap.size w' u → Calls Try.prog 22 #[rsV h g N cap, .int .i64 k] u fun e2 u2 => e2 = .returned (.tuple #[.int .i64 a, .int .i64 x]) ∧ Below u.heap.size u u2

theorem size_sim {w : World} {m : Mem} {h : Hd} {cs : List Nd} {g N cap : Nat} (b : Both w m h cs g N cap) (k : Int) :
    Calls Try.prog 21 #[ptrV m.s, .int .i64 k] w (SizeSim h g N cap k w) := by
  cases hk : thereB cs k with
  | false =>
    refine (size_no b.st.lay k hk).mono ?_
    rintro e w' ⟨rfl, rfl⟩
    exact ⟨_, _, rfl, Below.refl _ _, fun u hu => rsize_no (b.rs.keep hu) h k hk⟩
  | true =>
    obtain ⟨n, c, rfl, hc⟩ := thereB_true hk
    refine (size_yes b.st hc).mono ?_
    rintro e w' ⟨rfl, hb⟩
    exact ⟨_, _, rfl, hb, fun u hu => rsize_yes ((b.rs.keep hb).keep hu) h b.st.good hc⟩

/-- What owns what shows by its first cell. -/
theorem RS.not_own {w : World} {m : Mem} {h : Hd} {cs cs' : List Nd} {g N cap : Nat} (st : St w m h cs) (rs : RS w g N cap cs') (h2 : 0 < N) : ¬ m.own g := by
  have h0 := (rs.rl.cells (refL_get cs' N 0 h2)).1
  obtain ⟨f, n, htab, _⟩ := st.tab
  rintro (rfl | rfl | rfl | rfl)
  · have := st.lay.tops.1
    simp only [Nat.zero_mul] at h0
    rw [this] at h0; cases h0
  · obtain ⟨ps, u, hl⟩ := htab
    have := cell_of_row w m.t 0 _ _ _ hl.1.lies.head
    simp only [Nat.zero_mul] at h0
    rw [this] at h0; cases h0
  · obtain ⟨ps, u, hl⟩ := htab
    have := cell_of_row w m.b 0 _ _ _ hl.1.lies.row
    simp only [Nat.zero_mul] at h0
    rw [this, List.getElem?_toArray] at h0
    cases ps with
    | nil => cases h0
    | cons p r => cases h0
  · obtain ⟨p, hp⟩ := st.good.c0
    have := (st.lay.cells hp).1
    simp only [Nat.zero_mul] at h0 this
    rw [this] at h0; cases h0

/-- The document's, then the code's: both have new cells. -/
theorem Step.turned {w w1 u u2 : World} {m : Mem} {h h' : Hd} {cs cs' : List Nd} {g N cap N' g' cap' : Nat} (b : Both w m h cs g N cap) (hb : Below w.heap.size w w1) (rs : RS w1 g' N' cap' cs') (hu : Below w1.heap.size w1 u) (st : St u2 m h' cs') (ht : Turn m.own u u2)
    (e1 : h'.V = h.V) (e2 : h.made ≤ h'.made) (e3 : h'.made ≤ h.made + 1) (e4 : h.sweeps ≤ h'.sweeps) (e5 : h'.sweeps ≤ h.sweeps + 1) (e6 : N' ≤ N + 1) : Step m h N w u2 (rsV h' g' N' cap') := by
  have hn : ¬ m.own g' := by
    have h1 := b.st.keep hb
    exact RS.not_own h1 rs (by have := st.good.len; have := rs.le; omega)
  have rs2 : RS u2 g' N' cap' cs' := by
    have r := rs.keep hu
    refine ⟨⟨Nat.lt_of_lt_of_le r.rl.lt ht.size, fun j v hv => ht.cell (p := ⟨g', j, none⟩) (r.rl.cell j v hv) hn⟩, r.le, r.cap, r.n⟩
  exact ⟨m, h', cs', g', N', cap', rfl, ⟨st, rs2, hn⟩, e1, e2, e3, e4, e5, e6, ⟨(Turn.of_below (hb.trans (hu.mono hb.size))).trans ht (fun i hi => .inl hi), rfl, fun i hi => .inl hi⟩⟩

/-- The code's part of a Pin or an Unpin, behind the document's. -/
def PinOk (P : World → Prop) (m : Mem) (h : Hd) (N : Nat) (x : Int) (sv : Value) (w : World) (e : Ending) (w' : World) : Prop := e = .returned (.int .i64 x) ∧ Step m h N w w' sv ∧ P w'

def PinSim (m : Mem) (h : Hd) (N : Nat) (k : Int) (w : World) (e : Ending) (w' : World) : Prop :=
  ∃ (g' cap' : Nat) (x : Int), e = .returned (.tuple #[rsV h g' N cap', .int .i64 x]) ∧ Below w.heap.size w w' ∧
    ∀ u, Below w'.heap.size w' u → Calls Try.prog 24 #[ptrV m.s, .int .i64 k] u fun e2 u2 => e2 = .returned (.int .i64 x) ∧ Step m h N w u2 (rsV h g' N cap') ∧ Turn m.own u u2
def UnpinSim (m : Mem) (h : Hd) (N : Nat) (k : Int) (w : World) (e : Ending) (w' : World) : Prop :=
  ∃ (g' cap' : Nat) (x : Int), e = .returned (.tuple #[rsV h g' N cap', .int .i64 x]) ∧ Below w.heap.size w w' ∧
    ∀ u, Below w'.heap.size w' u → Calls Try.prog 26 #[ptrV m.s, .int .i64 k] u fun e2 u2 => e2 = .returned (.int .i64 x) ∧ Step m h N w u2 (rsV h g' N cap') ∧ Turn m.own u u2

theorem pin_sim {w : World} {m : Mem} {h : Hd} {cs : List Nd} {g N cap : Nat} (b : Both w m h cs g N cap) (k : Int) :
    Calls Try.prog 23 #[rsV h g N cap, .int .i64 k] w (PinSim m h N k w) := by
  cases hk : thereB cs k with
  | false =>
    refine (rpin_no b.rs h k hk).mono ?_
    rintro e w' ⟨g', cap', rfl, rs, hb⟩
    refine ⟨g', cap', _, rfl, hb, fun u hu => (pin_no ((b.st.keep hb).keep hu).lay k hk).mono ?_⟩
    rintro e2 u2 ⟨rfl, rfl⟩
    exact ⟨rfl, Step.turned b hb rs hu ((b.st.keep hb).keep hu) (Turn.refl _ _) rfl (Int.le_refl _) (by omega) (Int.le_refl _) (by omega) (by omega), Turn.refl _ _⟩
  | true =>
    obtain ⟨n, c, rfl, hc⟩ := thereB_true hk
    by_cases hp : c.pins = 1073741824
    · refine (rpin_full b.rs h hc hp).mono ?_
      rintro e w' ⟨g', cap', rfl, rs, hb⟩
      refine ⟨g', cap', _, rfl, hb, fun u hu => (pin_full ((b.st.keep hb).keep hu).lay hc hp).mono ?_⟩
      rintro e2 u2 ⟨rfl, rfl⟩
      exact ⟨rfl, Step.turned b hb rs hu ((b.st.keep hb).keep hu) (Turn.refl _ _) rfl (Int.le_refl _) (by omega) (Int.le_refl _) (by omega) (by omega), Turn.refl _ _⟩
    · refine (rpin_yes b.rs h b.st.good hc hp).mono ?_
      rintro e w' ⟨g', cap', rfl, rs, hb⟩
      refine ⟨g', cap', _, rfl, hb, fun u hu => (pin_yes ((b.st.keep hb).keep hu) hc hp).mono ?_⟩
      rintro e2 u2 ⟨rfl, st, ht⟩
      exact ⟨rfl, Step.turned b hb rs hu st ht rfl (Int.le_refl _) (by omega) (Int.le_refl _) (by omega) (by omega), ht⟩

theorem unpin_sim {w : World} {m : Mem} {h : Hd} {cs : List Nd} {g N cap : Nat} (b : Both w m h cs g N cap) (k : Int) :
    Calls Try.prog 25 #[rsV h g N cap, .int .i64 k] w (UnpinSim m h N k w) := by
  cases hk : thereB cs k with
  | false =>
    refine (runpin_no b.rs h k hk).mono ?_
    rintro e w' ⟨g', cap', rfl, rs, hb⟩
    refine ⟨g', cap', _, rfl, hb, fun u hu => (unpin_no ((b.st.keep hb).keep hu).lay k hk).mono ?_⟩
    rintro e2 u2 ⟨rfl, rfl⟩
    exact ⟨rfl, Step.turned b hb rs hu ((b.st.keep hb).keep hu) (Turn.refl _ _) rfl (Int.le_refl _) (by omega) (Int.le_refl _) (by omega) (by omega), Turn.refl _ _⟩
  | true =>
    obtain ⟨n, c, rfl, hc⟩ := thereB_true hk
    cases hp : c.pins with
    | zero =>
      refine (runpin_none b.rs h hc hp).mono ?_
      rintro e w' ⟨g', cap', rfl, rs, hb⟩
      refine ⟨g', cap', _, rfl, hb, fun u hu => (unpin_none ((b.st.keep hb).keep hu).lay hc hp).mono ?_⟩
      rintro e2 u2 ⟨rfl, rfl⟩
      exact ⟨rfl, Step.turned b hb rs hu ((b.st.keep hb).keep hu) (Turn.refl _ _) rfl (Int.le_refl _) (by omega) (Int.le_refl _) (by omega) (by omega), Turn.refl _ _⟩
    | succ p =>
      refine (runpin_yes b.rs h b.st.good hc hp).mono ?_
      rintro e w' ⟨g', cap', rfl, rs, hb⟩
      refine ⟨g', cap', _, rfl, hb, fun u hu => (unpin_yes ((b.st.keep hb).keep hu) hc hp).mono ?_⟩
      rintro e2 u2 ⟨rfl, st, ht⟩
      exact ⟨rfl, Step.turned b hb rs hu st ht rfl (Int.le_refl _) (by omega) (Int.le_refl _) (by omega) (by omega), ht⟩

def SweepSim (m : Mem) (h : Hd) (N : Nat) (w : World) (e : Ending) (w' : World) : Prop :=
  ∃ (h' : Hd) (g' cap' : Nat) (x : Int), e = .returned (.tuple #[rsV h' g' N cap', .int .i64 x]) ∧ Below w.heap.size w w' ∧
    ∀ u, Below w'.heap.size w' u → Calls Try.prog 28 #[ptrV m.s] u fun e2 u2 => e2 = .returned (.int .i64 x) ∧ Step m h N w u2 (rsV h' g' N cap') ∧ Turn m.own u u2

theorem sweep_sim {w : World} {m : Mem} {h : Hd} {cs : List Nd} {g N cap : Nat} (b : Both w m h cs g N cap) (hs0 : 0 ≤ h.sweeps) (hs1 : h.sweeps ≤ 1000000) :
    Calls Try.prog 27 #[rsV h g N cap] w (SweepSim m h N w) := by
  refine (rsweep_any b.rs h b.st.good hs0 hs1).mono ?_
  rintro e w' ⟨g', cap', rfl, rs, hb⟩
  refine ⟨{ h with lf := 2, nodes := cnt (swept (roots h.V cs cs.length) cs), sweeps := h.sweeps + 1 }, g', cap', _, rfl, hb, fun u hu => (sweep_any ((b.st.keep hb).keep hu)).mono ?_⟩
  rintro e2 u2 ⟨rfl, st, ht⟩
  rw [wrap64_small _ (by omega) (by omega)] at st
  exact ⟨rfl, Step.turned b hb rs hu st ht rfl (Int.le_refl _) (by show h.made ≤ _; omega) (by show _ ≤ h.sweeps + 1; omega) (Int.le_refl _) (by omega), ht⟩

theorem rmk_arg {w : World} {g N cap : Nat} {cs : List Nd} (rs : RS w g N cap cs) (h : Hd) (v a b : Int) (hv : v < 0 ∨ h.V ≤ v ∨ behindB cs a v = false ∨ behindB cs b v = false) :
    Calls Try.prog 17 #[rsV h g N cap, .int .i64 v, .int .i64 a, .int .i64 b] w (RMOut h N cs 0 1 w) := by
  by_cases h0 : v < 0
  · exact rmk_neg rs h v a b h0
  by_cases h1 : h.V ≤ v
  · exact rmk_big rs h v a b (by omega) h1
  have h3 := (hv.resolve_left h0).resolve_left h1
  cases ha : thereB cs a with
  | false => exact rmk_nolow rs h v a b (by omega) (by omega) ha
  | true =>
    cases hb : thereB cs b with
    | false => exact rmk_nohigh rs h v a b (by omega) (by omega) ha hb
    | true =>
      obtain ⟨na, ca, rfl, hca⟩ := thereB_true ha
      obtain ⟨nb, cb, rfl, hcb⟩ := thereB_true hb
      by_cases h4 : ca.asks ≤ v
      · exact rmk_low rs h v (by omega) (by omega) hca hcb h4
      · by_cases h5 : cb.asks ≤ v
        · exact rmk_high rs h v (by omega) (by omega) hca hcb (by omega) h5
        · rw [behindB_is hca (by omega), behindB_is hcb (by omega)] at h3
          simp at h3

def MkSim (m : Mem) (h : Hd) (g N cap : Nat) (v a b : Int) (w : World) (e : Ending) (w' : World) : Prop :=
  ∃ (k x : Int), e = .returned (.tuple #[.int .i64 k, .int .i64 x]) ∧ Turn m.own w w' ∧
    ∀ u, Below w'.heap.size w' u → Calls Try.prog 17 #[rsV h g N cap, .int .i64 v, .int .i64 a, .int .i64 b] u fun e2 u2 => ∃ h' g' N' cap', e2 = .returned (.tuple #[rsV h' g' N' cap', .int .i64 k, .int .i64 x]) ∧ Step m h N w u2 (rsV h' g' N' cap') ∧ Below u.heap.size u u2

/-- The code's, then the document's: the code has new cells. -/
theorem Step.after {w w1 u u2 : World} {m m' : Mem} {h h' : Hd} {cs' : List Nd} {N N' g' cap' : Nat} (st : St w1 m' h' cs') (hn : Next m m' w w1) (hu : Below w1.heap.size w1 u) (rs : RS u2 g' N' cap' cs') (hu2 : Below u.heap.size u u2)
    (e1 : h'.V = h.V) (e2 : h.made ≤ h'.made) (e3 : h'.made ≤ h.made + 1) (e4 : h.sweeps ≤ h'.sweeps) (e5 : h'.sweeps ≤ h.sweeps + 1) (e6 : N' ≤ N + 1) : Step m h N w u2 (rsV h' g' N' cap') := by
  have hb := hu.trans (hu2.mono hu.size)
  have st2 := st.keep hb
  exact ⟨m', h', cs', g', N', cap', rfl, ⟨st2, rs, RS.not_own st2 rs (by have := st.good.len; have := rs.le; omega)⟩, e1, e2, e3, e4, e5, e6, ⟨hn.turn.below hb, hn.s, hn.own⟩⟩

theorem RS.under {w w' : World} {own : Nat → Prop} {g N cap : Nat} {cs : List Nd} (r : RS w g N cap cs) (ht : Turn own w w') (hn : ¬ own g) : RS w' g N cap cs :=
  ⟨⟨Nat.lt_of_lt_of_le r.rl.lt ht.size, fun j v hv => ht.cell (p := ⟨g, j, none⟩) (r.rl.cell j v hv) hn⟩, r.le, r.cap, r.n⟩

theorem free_same {cs : List Nd} {k f : Nat} (h1 : Free cs k) (h2 : ∀ j, j < k → ∃ d, Is cs j d) (h3 : Free cs f) (h4 : ∀ j, j < f → ∃ d, Is cs j d) : k = f := by
  rcases Nat.lt_trichotomy k f with h | h | h
  · obtain ⟨d, hd⟩ := h4 k h
    exact absurd (h1.2 d hd.1) hd.2
  · exact h
  · obtain ⟨d, hd⟩ := h2 f h
    exact absurd (h3.2 d hd.1) hd.2

theorem mk_sim {w : World} {m : Mem} {h : Hd} {cs : List Nd} {g N cap : Nat} (bo : Both w m h cs g N cap) (hN : N < 1000000) (hm0 : 0 ≤ h.made) (hm1 : h.made ≤ 1000000) (v a b : Int) :
    Calls Try.prog 15 #[ptrV m.s, .int .i64 v, .int .i64 a, .int .i64 b] w (MkSim m h g N cap v a b w) := by
  by_cases hv : v < 0 ∨ h.V ≤ v ∨ behindB cs a v = false ∨ behindB cs b v = false
  · refine (mk_arg bo.st.lay v a b hv).mono ?_
    rintro e w' ⟨rfl, rfl⟩
    refine ⟨_, _, rfl, Turn.refl _ _, fun u hu => (rmk_arg (bo.rs.keep hu) h v a b hv).mono ?_⟩
    rintro e2 u2 ⟨g', cap', rfl, rs, hb⟩
    exact ⟨h, g', N, cap', rfl, Step.after bo.st (Next.refl _ _) hu rs hb rfl (Int.le_refl _) (by omega) (Int.le_refl _) (by omega) (by omega), hb⟩
  have h0 : 0 ≤ v := Int.not_lt.1 fun q => hv (.inl q)
  have h1 : v < h.V := Int.not_le.1 fun q => hv (.inr (.inl q))
  have ha : behindB cs a v = true := by cases q : behindB cs a v with | true => rfl | false => exact absurd (.inr (.inr (.inl q))) hv
  have hb : behindB cs b v = true := by cases q : behindB cs b v with | true => rfl | false => exact absurd (.inr (.inr (.inr q))) hv
  obtain ⟨na, ca, rfl, hca, hva⟩ := behindB_true ha
  obtain ⟨nb, cb, rfl, hcb, hvb⟩ := behindB_true hb
  by_cases hab : na = nb
  · subst hab
    refine (mk_same bo.st.lay h0 h1 hca hva).mono ?_
    rintro e w' ⟨rfl, rfl⟩
    refine ⟨_, _, rfl, Turn.refl _ _, fun u hu => (rmk_same (bo.rs.keep hu) h v h0 h1 hca hva).mono ?_⟩
    rintro e2 u2 ⟨g', cap', rfl, rs, hb⟩
    exact ⟨h, g', N, cap', rfl, Step.after bo.st (Next.refl _ _) hu rs hb rfl (Int.le_refl _) (by omega) (Int.le_refl _) (by omega) (by omega), hb⟩
  by_cases hold : ∃ k ck, 2 ≤ k ∧ Is cs k ck ∧ ck.key = ⟨v, na, nb⟩
  · obtain ⟨k, ck, hk2, hck, hkk⟩ := hold
    refine (mk_old bo.st h0 h1 hca hva hcb hvb hab hk2 hck hkk).mono ?_
    rintro e w' ⟨rfl, hbw⟩
    refine ⟨_, _, rfl, Turn.of_below hbw, fun u hu => (rmk_any ((bo.rs.keep hbw).keep hu) h bo.st.good hN hm0 hm1 v h0 h1 hca hva hcb hvb hab).mono ?_⟩
    rintro e2 u2 (⟨j, cj, hj2, hcj, hjk, g', cap', rfl, rs, hb⟩ | ⟨hno, _⟩ | ⟨hno, _⟩)
    · obtain rfl := bo.st.good.uniq k j ck cj hk2 hj2 hck hcj (hkk.trans hjk.symm)
      exact ⟨h, g', N, cap', rfl, Step.after (bo.st.keep hbw) (Next.below hbw) hu rs hb rfl (Int.le_refl _) (by omega) (Int.le_refl _) (by omega) (by omega), hb⟩
    · exact absurd hkk (hno k ck hk2 hck)
    · exact absurd hkk (hno k ck hk2 hck)
  · have hnone : ∀ k ck, 2 ≤ k → Is cs k ck → ck.key ≠ ⟨v, na, nb⟩ := fun k ck q1 q2 q3 => hold ⟨k, ck, q1, q2, q3⟩
    refine (mk_none bo.st h0 h1 hca hva hcb hvb hab hnone).mono ?_
    intro e w' ho
    unfold MkNoneOut at ho
    by_cases hfull : cnt cs = h.B
    · rw [if_pos hfull] at ho
      obtain ⟨rfl, hbw⟩ := ho
      refine ⟨_, _, rfl, Turn.of_below hbw, fun u hu => (rmk_any ((bo.rs.keep hbw).keep hu) h bo.st.good hN hm0 hm1 v h0 h1 hca hva hcb hvb hab).mono ?_⟩
      rintro e2 u2 (⟨j, cj, hj2, hcj, hjk, _⟩ | ⟨_, _, g', cap', rfl, rs, hb⟩ | ⟨_, hlt, _⟩)
      · exact absurd hjk (hnone j cj hj2 hcj)
      · exact ⟨h, g', N, cap', rfl, Step.after (bo.st.keep hbw) (Next.below hbw) hu rs hb rfl (Int.le_refl _) (by omega) (Int.le_refl _) (by omega) (by omega), hb⟩
      · omega
    · rw [if_neg hfull] at ho
      obtain ⟨k, m', lf', rfl, st, hfr, hk2, hall, ht, hs, hown⟩ := ho
      refine ⟨_, _, rfl, ht, fun u hu => (rmk_any ((bo.rs.under ht bo.apart).keep hu) h bo.st.good hN hm0 hm1 v h0 h1 hca hva hcb hvb hab).mono ?_⟩
      rintro e2 u2 (⟨j, cj, hj2, hcj, hjk, _⟩ | ⟨_, hle, _⟩ | ⟨_, hlt, f, hff, hf2, hfall, g', cap', rfl, rs, hb⟩)
      · exact absurd hjk (hnone j cj hj2 hcj)
      · have := bo.st.room; omega
      · obtain rfl := free_same hfr hall hff hfall
        rw [wrap64_small _ (by omega) (by omega)] at st
        exact ⟨{ h with lf := lf', nodes := (cnt cs : Int) + 1, made := h.made + 1 }, g', _, cap', rfl, Step.after st ⟨ht, hs, hown⟩ hu rs hb rfl (by show h.made ≤ h.made + 1; omega) (Int.le_refl _) (Int.le_refl _) (by show h.sweeps ≤ h.sweeps + 1; omega) (by split <;> omega), hb⟩
end Go.Proofs.Yteeffabmafakiaa
