/- Contracts of layer 3 (node): mark, Size, Pin, Unpin. -/
import Derived.Test.YtfdebadmikmnaaaNEval
import Derived.Maps.OwnSet
import Derived.Maps.Views
namespace Go.Proofs.Ytfdebadmikmnaaa
open Go.ChangeShapes Go.WideShapes Go.ChangeAt Go.RowKit Go.Maps

theorem lawInt : Keyed Try.prog 3 := int_keyed Try.underlying3
theorem zeroUnit (w : World) : (zeroValue 47).run Try.prog w = .ok (.agg #[]) w := by kernel_rfl

/-- Block b is the set of the numbers l. -/
structure MSet (w : World) (b : Nat) (l : List Nat) : Prop where
  own : ∃ D : DataW Unit, w.ownsMap Try.prog 3 unitElem b l.length D ∧ (∀ k : Nat, Maps.has D (.int .i64 k) = decide (k ∈ l)) ∧ Maps.size D = l.length
  nodup : l.Nodup
  lt : ∀ x ∈ l, x < 1048576

theorem MSet.len {w : World} {b : Nat} {l : List Nat} (h : MSet w b l) : l.length ≤ 1048576 := by
  have := sub_length l (List.range 1048576) h.nodup fun x hx => List.mem_range.2 (h.lt x hx)
  rw [List.length_range] at this
  exact this

theorem MSet.lt_b {w : World} {b : Nat} {l : List Nat} (h : MSet w b l) : b < w.heap.size := by
  obtain ⟨D, h1, _⟩ := h.own; exact h1.lt

theorem MSet.of {w w' : World} {b : Nat} {l : List Nat} (h : MSet w b l) (e : w'.heap[b]? = w.heap[b]?) : MSet w' b l := by
  obtain ⟨D, ⟨es, clock, h1, h2⟩, h3⟩ := h.own
  exact ⟨⟨D, ⟨es, clock, e.trans h1, h2⟩, h3⟩, h.nodup, h.lt⟩
theorem MSet.keep {w w' : World} {b : Nat} {l : List Nat} (h : MSet w b l) (hb : Below w.heap.size w w') : MSet w' b l := h.of (hb.block _ h.lt_b)

theorem MSet.made (w : World) : MSet (w.alloc (.map #[] 0)) w.heap.size [] :=
  ⟨⟨.map [], World.ownsMap_made _ _ _ _, fun k => by simp [Maps.has], rfl⟩, List.nodup_nil, fun x h => by cases h⟩

theorem keyInt (k : Nat) (hk : k < 1048576) : keyOf Try.prog 3 (.int .i64 (k : Int)) = some (.int .i64 (k : Int)) :=
  keyOf_int_mk Try.underlying3 (WalkArith.wf_i64 (by omega))

theorem MSet.put {w w' : World} {b : Nat} {l : List Nat} {D : DataW Unit} (h : w.ownsMap Try.prog 3 unitElem b l.length D) (hh : ∀ k : Nat, Maps.has D (.int .i64 k) = decide (k ∈ l)) (hs : Maps.size D = l.length) (nd : l.Nodup) (lt : ∀ x ∈ l, x < 1048576)
    {k : Nat} (hk : k < 1048576) (hn : k ∉ l) (h' : w'.ownsMap Try.prog 3 unitElem b (l.length + 1) (D.put (.int .i64 (k : Int)) (.agg []))) : MSet w' b (k :: l) := by
  have hi := h.isMap
  have ht := h.tidy lawInt
  refine ⟨⟨_, h', fun j => ?_, ?_⟩, List.nodup_cons.2 ⟨hn, nd⟩, ?_⟩
  · by_cases e : j = k
    · subst e; rw [has_put_same hi (by simp [WideAt.IsKeyLit])]; simp
    · rw [has_put_other (by simp; omega), hh]; simp [e]
  · rw [size_put ht, hh, hs]; simp [hn]
  · intro x hx
    rcases List.mem_cons.1 hx with rfl | hx
    · exact hk
    · exact lt x hx

def MarkOut (b : Nat) (l : List Nat) (w : World) (e : Ending) (w' : World) : Prop := e = .returned (.tuple #[]) ∧ MSet w' b l ∧ Turn (fun i => i = b) w w'

theorem mark_in {w : World} {s b k : Nat} {l : List Nat} (hm : MSet w b l) (hk : k < 1048576) (hin : k ∈ l) :
    Calls Try.prog 50 #[ptrV s, .int .i64 k, .map (some b)] w (MarkOut b l w) := by
  obtain ⟨D, hown, hh, _⟩ := hm.own
  have hkey := Lib.hid (keyInt k hk)
  have HO := Lib.hid hown
  have H1 : Hid (Maps.has D (.int .i64 (k : Int)) = true) := by show _ = _; rw [hh]; simpa using hin
  clear hown hh hk
  unfold ptrV
  go_enter Try.func50, Try.ntmps50
  go_wp2_with (at_lookup; refine wpList_lookup_own_unit _ rfl _ _ 83 rfl 3 47 lawInt Try.underlying83 (zeroUnit _) b l.length D rfl HO.out _ _ rfl hkey.out ?_; rw [H1.out])
  go_end0
  exact ⟨rfl, hm.keep ((Below.refl _ _).alloc (Nat.le_refl _) _), (Turn.refl _ _).alloc _⟩

theorem Lay.turn {w w' : World} {m : Mem} {h : Hd} {cs : List Nd} (l : Lay w m h cs) {own : Nat → Prop} (ht : Turn own w w') (h1 : ¬ own m.s) (h2 : ¬ own m.c) : Lay w' m h cs :=
  l.of (ht.block _ l.lt_s h1) (ht.block _ l.lt_c h2)

theorem mark_step {w w1 : World} {m : Mem} {h : Hd} {cs : List Nd} {b : Nat} {l : List Nat} {D : DataW Unit} {o : Obj} (hl : Lay w m h cs) (hbs : m.s ≠ b) (hbc : m.c ≠ b) (hh : ∀ k : Nat, Maps.has D (.int .i64 k) = decide (k ∈ l)) (hs : Maps.size D = l.length) (hm : MSet w b l)
    {k : Nat} (hk : k < 1048576) (hn : k ∉ l) {n : Nat} (hn2 : n = l.length) (h' : w1.ownsMap Try.prog 3 unitElem b (n + 1) (D.put (.int .i64 (k : Int)) (.agg []))) (ho : w.ownsMap Try.prog 3 unitElem b l.length D) (hg : (w.alloc o).grownBy w1 (some b)) :
    MSet w1 b (k :: l) ∧ Turn (fun i => i = b) w w1 ∧ Lay w1 m h cs := by
  subst hn2
  have ht1 : Turn (fun i => i = b) w w1 := ((Turn.refl _ w).alloc _).grown hg (fun i hi => .inl (by injection hi with hi; exact hi.symm))
  exact ⟨MSet.put ho hh hs hm.nodup hm.lt hk hn h', ht1, hl.turn ht1 hbs hbc⟩

theorem mark_any {m : Mem} {h : Hd} {cs : List Nd} {b : Nat} (hbs : m.s ≠ b) (hbc : m.c ≠ b) (g : NGood h.V cs) : ∀ (n : Nat) (k : Nat) (c : Nd) (l : List Nat) (w : World), Is cs k c → rk h.V c + 1 ≤ n → Lay w m h cs → MSet w b l →
    Calls Try.prog 50 #[ptrV m.s, .int .i64 k, .map (some b)] w (MarkOut b (mark cs n l k) w) := by
  intro n
  induction n with
  | zero => intro k c l w _ h1; omega
  | succ n ih =>
    intro k c l w hc hn hl hm
    have hlen := hl.len
    have hlt := hc.lt
    have hk : k < 1048576 := by omega
    by_cases hin : k ∈ l
    · have e : mark cs (n + 1) l k = l := by unfold mark; rw [if_pos hin]
      rw [e]
      exact mark_in hm hk hin
    · have e : mark cs (n + 1) l k = mark cs n (mark cs n (k :: l) c.low) c.high := by
        conv => lhs; unfold mark
        rw [if_neg hin]; simp only [hc.1]
      rw [e]
      -- the two calls below, by the induction or at once
      have callIt : ∀ (j : Nat) (l' : List Nat) (w : World), (k ∈ l' → j = k ∨ ∃ d, Is cs j d ∧ c.asks < d.asks) → k ∈ l' → Lay w m h cs → MSet w b l' →
          Calls Try.prog 50 #[ptrV m.s, .int .i64 j, .map (some b)] w (MarkOut b (mark cs n l' j) w) := by
        intro j l' w hj hkl hl hm
        rcases hj hkl with rfl | ⟨d, hd, hd2⟩
        · have e2 : mark cs n l' j = l' := by
            cases n with
            | zero => rfl
            | succ n => unfold mark; rw [if_pos hkl]
          rw [e2]
          exact mark_in hm hk hkl
        · exact ih j d l' w hd (by have := g.range hd; unfold rk at hn ⊢; omega) hl hm
      have hlow : c.low = k ∨ ∃ d, Is cs c.low d ∧ c.asks < d.asks := by
        by_cases h2 : k < 2
        · exact .inl (g.base h2 hc).2.1
        · exact .inr (g.lo k c (by omega) hc)
      have hhigh : c.high = k ∨ ∃ d, Is cs c.high d ∧ c.asks < d.asks := by
        by_cases h2 : k < 2
        · exact .inl (g.base h2 hc).2.2
        · exact .inr (g.hi k c (by omega) hc)
      have hmem : k ∈ mark cs n (k :: l) c.low := by
        have : ∀ n l j, k ∈ l → k ∈ mark cs n l j := by
          intro n
          induction n with
          | zero => intro l j h; exact h
          | succ n ih =>
            intro l j h
            unfold mark
            split
            · exact h
            · split
              · exact ih _ _ (ih _ _ (List.mem_cons_of_mem _ h))
              · exact h
        exact this n _ _ (by simp)
      obtain ⟨D, hown, hh, hs⟩ := hm.own
      have hkey := Lib.hid (keyInt k hk)
      have HO := Lib.hid hown
      have HH := Lib.hid hh
      have HS := Lib.hid hs
      have H1 : Hid (Maps.has D (.int .i64 (k : Int)) = false) := by show _ = _; rw [hh]; simpa using hin
      have H2 := Lib.hid callIt
      have HN := Lib.hid ih
      have HLO := Lib.hid hlow
      have HHI := Lib.hid hhigh
      have HC := Lib.hid hc
      have HML : Hid (l.length < maxLen) := by have := hm.len; show l.length < maxLen; unfold maxLen; omega
      have HKL := Lib.hid hk
      have HBS := Lib.hid hbs
      have HBC := Lib.hid hbc
      have HIN := Lib.hid hin
      have HMEM := Lib.hid hmem
      clear hown hh hs callIt ih hlow hhigh hc e hk hlen hbs hbc hin hn hmem
      unfold ptrV at *
      go_enter Try.func50, Try.ntmps50
      go_wp2_with (first
        | (at_lookup; refine wpList_lookup_own_unit _ rfl _ _ 83 rfl 3 47 lawInt Try.underlying83 (zeroUnit _) b l.length D rfl HO.out _ _ rfl hkey.out ?_; rw [H1.out])
        | (at_mapUpdate; refine wpList_mapUpdate_own _ rfl _ _ _ 83 rfl 3 47 lawInt Try.underlying83 (unitElem (H := Unit)) b l.length D rfl (HO.out.alloc _) HML.out _ _ _ rfl rfl hkey.out _ [] unitElem_mk ?_; intro w1 hown1 hgrow1; obtain ⟨hm1, ht1, hl1⟩ := mark_step hl HBS.out HBC.out HH.out HS.out hm HKL.out HIN.out rfl hown1 HO.out hgrow1; clear hown1 hgrow1; obtain ⟨_, _, _, c3, -⟩ := hl1.tops; obtain ⟨_, d1, d2, -⟩ := hl1.cells HC.out.1))
      refine (H2.out c.low (k :: l) w1 (fun _ => HLO.out) (by simp) hl1 hm1).mono ?_
      rintro e w2 ⟨rfl, hm2, ht2⟩
      clear c3 d1 d2
      have hl2 := hl1.turn ht2 HBS.out HBC.out
      obtain ⟨_, _, _, c3, -⟩ := hl2.tops
      obtain ⟨_, d1, d2, -⟩ := hl2.cells HC.out.1
      go_wp2_with fail
      refine (H2.out c.high _ w2 (fun _ => HHI.out) HMEM.out hl2 hm2).mono ?_
      rintro e w3 ⟨rfl, hm3, ht3⟩
      clear c3 d1 d2
      go_wp2_with fail
      go_end0
      exact ⟨rfl, hm3, (ht1.trans ht2 (fun i hi => .inl hi)).trans ht3 (fun i hi => .inl hi)⟩


end Go.Proofs.Ytfdebadmikmnaaa
