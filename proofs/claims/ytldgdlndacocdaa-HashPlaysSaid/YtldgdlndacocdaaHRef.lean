/- Layer 2: the document's own table: place, Get. -/
import Derived.Test.YtldgdlndacocdaaHArgs
import Derived.OwnWalk
import Derived.Laws.AppendOwn
import Derived.Laws.OwnMore
import Derived.StillTailTactics
namespace Go.Proofs.Ytldgdlndacocdaa
open Go.ChangeShapes Go.WideShapes Go.ChangeAt Go.RowKit

def flatK (L : List (Key × Int)) : List Value := L.flatMap fun x => keyC x.1
def flatV (L : List (Key × Int)) : List Value := L.map fun x => Value.int .i64 x.2

theorem flatK_length (L : List (Key × Int)) : (flatK L).length = L.length * 3 := by
  induction L with
  | nil => rfl
  | cons p r ih =>
    show (keyC p.1 ++ flatK r).length = _
    rw [List.length_append, ih]; simp [keyC]; omega

theorem flatK_get (L : List (Key × Int)) : ∀ (x : Nat) (p : Key × Int) (c : Nat), L[x]? = some p → c < 3 → (flatK L)[x * 3 + c]? = (keyC p.1)[c]? := by
  induction L with
  | nil => intro x p c h; simp at h
  | cons q r ih =>
    intro x p c h hc
    show (keyC q.1 ++ flatK r)[x * 3 + c]? = _
    have hl : (keyC q.1).length = 3 := rfl
    cases x with
    | zero =>
      simp at h
      subst h
      rw [List.getElem?_append_left (by omega)]
      simp
    | succ x =>
      simp at h
      rw [List.getElem?_append_right (by omega), hl, ← ih x p c h hc]
      congr 1; omega

theorem flatK_append (L M : List (Key × Int)) : flatK (L ++ M) = flatK L ++ flatK M := List.flatMap_append
theorem flatV_append (L M : List (Key × Int)) : flatV (L ++ M) = flatV L ++ flatV M := List.map_append

/-- The document's table: two slices, both nil when nothing is there. -/
structure RT (w : World) (vK vV : Value) (L : List (Key × Int)) : Prop where
  ks : w.ownsRow 0 29 3 vK L.length (flatK L)
  vs : w.ownsRow 0 3 1 vV L.length (flatV L)
  k0 : vK = .slice none 0 0 ↔ L = []
  v0 : vV = .slice none 0 0 ↔ L = []

theorem own_below {w w' : World} {base : Nat} {e : TypeId} {size n : Nat} {v : Value} {xs : List Value} (h : w.ownsRow base e size v n xs) (hb : Below w.heap.size w w') : w'.ownsRow base e size v n xs :=
  h.kept (row := none) ⟨hb.os, hb.tape, hb.output, hb.size, fun k hk _ => hb.block k hk⟩ (by cases hv : v.ownBlock <;> simp)

theorem own_base {w : World} {base base' : Nat} {e : TypeId} {size n : Nat} {v : Value} {xs : List Value} (h : w.ownsRow base e size v n xs) (hb : base' ≤ base) : w.ownsRow base' e size v n xs := by
  refine ⟨h.1, ?_⟩
  rcases h.2 with h2 | ⟨g, cap, cur, e1, e2, e3⟩
  · exact .inl h2
  · exact .inr ⟨g, cap, cur, e1, by omega, e3⟩

/-- A row's block is none of another type. -/
theorem own_ne {w : World} {base : Nat} {e T : TypeId} {size n g : Nat} {v : Value} {xs : List Value} {cs : Array Value} {fr : Nat × Nat} (h : w.ownsRow base e size v n xs) (hg : w.heap[g]? = some (.cells cs T fr)) (hne : e ≠ T) : v.ownBlock ≠ some g := by
  rcases h.2 with ⟨rfl, _⟩ | ⟨g', cap, cur, rfl, _, hh, _⟩
  · simp [Value.ownBlock]
  · intro he
    have : g' = g := by simpa [Value.ownBlock] using he
    subst this
    rw [hh] at hg
    injection hg with hg
    injection hg with _ ht
    exact hne ht

/-- Two rows of different types lie apart. -/
theorem own_apart {w : World} {base base' : Nat} {e e' : TypeId} {size size' n n' : Nat} {v v' : Value} {xs xs' : List Value} (h : w.ownsRow base e size v n xs) (h' : w.ownsRow base' e' size' v' n' xs') (hne : e ≠ e') : v.ownBlock = none ∨ v.ownBlock ≠ v'.ownBlock := by
  rcases h'.2 with ⟨rfl, _⟩ | ⟨g', cap, cur, rfl, _, hh, _⟩
  · cases hv : v.ownBlock <;> simp [Value.ownBlock]
  · exact .inr (own_ne h hh hne)

theorem RT.below {w w' : World} {vK vV : Value} {L : List (Key × Int)} (h : RT w vK vV L) (hb : Below w.heap.size w w') : RT w' vK vV L :=
  ⟨own_below h.ks hb, own_below h.vs hb, h.k0, h.v0⟩

theorem RT.some_ {w : World} {vK vV : Value} {L : List (Key × Int)} (h : RT w vK vV L) (hL : L ≠ []) :
    ∃ gk ck gv cv, vK = .slice (some ⟨gk, 0, none⟩) L.length ck ∧ vV = .slice (some ⟨gv, 0, none⟩) L.length cv ∧ gk < w.heap.size ∧ gv < w.heap.size := by
  rcases h.ks.2 with ⟨e, _⟩ | ⟨gk, ck, curk, ek, _, hk, _⟩
  · exact absurd (h.k0.1 e) hL
  · rcases h.vs.2 with ⟨e, _⟩ | ⟨gv, cv, curv, ev, _, hv, _⟩
    · exact absurd (h.v0.1 e) hL
    · exact ⟨gk, ck, gv, cv, ek, ev, (Array.getElem?_eq_some_iff.1 hk).1, (Array.getElem?_eq_some_iff.1 hv).1⟩

theorem RT.at_ {w : World} {gk ck gv cv : Nat} {L : List (Key × Int)} (h : RT w (.slice (some ⟨gk, 0, none⟩) L.length ck) (.slice (some ⟨gv, 0, none⟩) L.length cv) L) {j : Nat} {x : Key × Int} (hj : L[j]? = some x) :
    (w.cell? ⟨gk, j * 3, none⟩ = some (.int .i64 x.1.a) ∧ w.cell? ⟨gk, j * 3 + 1, none⟩ = some (.int .i64 x.1.b) ∧ w.cell? ⟨gk, j * 3 + 2, none⟩ = some (.int .i64 x.1.c)) ∧ w.cell? ⟨gv, j, none⟩ = some (.int .i64 x.2) := by
  have hl : j < L.length := (List.getElem?_eq_some_iff.1 hj).1
  have hc : ∀ c, c < 3 → w.cell? ⟨gk, j * 3 + c, none⟩ = (keyC x.1)[c]? := fun c hc => by
    rw [h.ks.cellAt (j * 3 + c) (by omega)]; exact flatK_get L j x c hj hc
  refine ⟨⟨hc 0 (by omega), hc 1 (by omega), hc 2 (by omega)⟩, ?_⟩
  rw [h.vs.cellAt j (by omega), flatV, List.getElem?_map, hj]; rfl

theorem ret_int {k : IntKind} {a b : Int} (h : a = b) : Ending.returned (.int k a) = .returned (.int k b) := by rw [h]

/-- Where the key stands: at j, or nowhere (j is the length). -/
structure PlaceAt (L : List (Key × Int)) (k : Key) (j : Nat) : Prop where
  le : j ≤ L.length
  ahead : ∀ (i : Nat) (x : Key × Int), i < j → L[i]? = some x → x.1 ≠ k
  here : ∀ x, L[j]? = some x → x.1 = k

def placeI (L : List (Key × Int)) (j : Nat) : Int := if j = L.length then -1 else j

def PlRel (j : Nat) (w2 : World) (ix : Value) (wr : World) : Prop := ∃ i q : Nat, i ≤ j ∧ ix = .int .i64 i ∧ wr = w2.drewN q

theorem place_empty (k : Key) (w : World) : Calls Try.prog 20 #[.agg #[.slice none 0 0, .slice none 0 0], keyV k] w fun e w' => e = .returned (.int .i64 (-1)) ∧ Below w.heap.size w w' := by
  unfold keyV
  go_enter Try.func20, Try.ntmps20
  go_wp2
  refine wp_loop_rounds 1 ?_
  rw [rounds_succ]
  go_wp2
  go_ret
  exact ⟨rfl, ((Below.refl _ _).alloc (Nat.le_refl _) _).alloc (by simp) _⟩

theorem place_any (gk ck gv cv : Nat) (L : List (Key × Int)) (k : Key) (j : Nat) (w : World) (h : RT w (.slice (some ⟨gk, 0, none⟩) L.length ck) (.slice (some ⟨gv, 0, none⟩) L.length cv) L) (hp : PlaceAt L k j) (hl : L.length ≤ 1048576) (hgk : gk < w.heap.size) :
    Calls Try.prog 20 #[.agg #[.slice (some ⟨gk, 0, none⟩) L.length ck, .slice (some ⟨gv, 0, none⟩) L.length cv], keyV k] w fun e w' => e = .returned (.int .i64 (placeI L j)) ∧ Below w.heap.size w w' := by
  obtain ⟨le, ahead, here⟩ := hp
  have HA := Lib.hid ahead
  have HH := Lib.hid here
  clear ahead here
  unfold keyV
  go_enter Try.func20, Try.ntmps20
  go_wp2
  have hb : Below w.heap.size w _ := ((Below.refl _ _).alloc (Nat.le_refl _) (.cells #[.slice (some ⟨gk, 0, none⟩) L.length ck, .slice (some ⟨gv, 0, none⟩) L.length cv] 28)).alloc (by simp) (.cells #[.int .i64 k.a, .int .i64 k.b, .int .i64 k.c] 29)
  go_loopw [5] (PlRel j ((w.alloc (.cells #[.slice (some ⟨gk, 0, none⟩) L.length ck, .slice (some ⟨gv, 0, none⟩) L.length cv] 28)).alloc (.cells #[.int .i64 k.a, .int .i64 k.b, .int .i64 k.c] 29))) (fun ix _ => L.length - (intOf ix).toNat)
  case atStart => exact ⟨0, 0, by omega, rfl, rfl⟩
  case round =>
    obtain ⟨i, q, hi, rfl, rfl⟩ := hrel
    by_cases hlt : i < L.length
    · obtain ⟨x, hx⟩ : ∃ x, L[i]? = some x := ⟨_, List.getElem?_eq_getElem hlt⟩
      obtain ⟨⟨c0, c1, c2⟩, _⟩ := h.at_ hx
      by_cases hk : x.1 = k
      · have hij : i = j := by
          rcases Nat.lt_or_ge i j with h1 | h1
          · exact absurd hk (HA.out i x h1 hx)
          · omega
        have he : ∀ w, (Op.equalIn 10000 29 (.agg #[.int .i64 k.a, .int .i64 k.b, .int .i64 k.c]) (.agg #[.int .i64 k.a, .int .i64 k.b, .int .i64 k.c])).run Try.prog w = .ok true w := fun w => by rw [eqKey, decide_eq_true rfl]
        rw [hk] at c0 c1 c2
        have HIJ := Lib.hid hij
        clear hx hk hij
        go_wp2_with fail
        go_quiet (fail)
        go_wp2_with fail
        go_ret
        have hij := HIJ.out
        subst hij
        refine ⟨?_, ?_⟩
        · exact ret_int (show (i : Int) = placeI L i by unfold placeI; rw [if_neg (by omega)])
        · first | exact below_drewN hb _ | exact below_drewN (below_drewN hb _) _
      · have he : ∀ w, (Op.equalIn 10000 29 (.agg #[.int .i64 x.1.a, .int .i64 x.1.b, .int .i64 x.1.c]) (.agg #[.int .i64 k.a, .int .i64 k.b, .int .i64 k.c])).run Try.prog w = .ok false w := fun w => by rw [eqKey, decide_eq_false hk]
        have hij : i < j := by
          rcases Nat.lt_or_ge i j with h1 | h1
          · exact h1
          · obtain rfl : i = j := by omega
            exact absurd (HH.out x hx) hk
        clear hx hk
        go_wp2_with fail
        go_quiet (fail)
        go_wp2_with fail
        go_roundw
        case rel =>
          first
            | exact ⟨i + 1, _, hij, by go_num, rfl⟩
            | exact ⟨i + 1, _, hij, by go_num, (World.drewN_drewN _ _ _)⟩
        case measure => simp [intOf]; omega
    · have hij : j = L.length := by omega
      have HIJ := Lib.hid hij
      clear hij
      go_wp2_with fail
      go_ret
      exact ⟨ret_int (show (-1 : Int) = placeI L j by unfold placeI; rw [if_pos HIJ.out]), below_drewN hb _⟩

theorem place_RT {vK vV : Value} {L : List (Key × Int)} {k : Key} {j : Nat} {w : World} (h : RT w vK vV L) (hp : PlaceAt L k j) (hl : L.length ≤ 1048576) :
    Calls Try.prog 20 #[.agg #[vK, vV], keyV k] w fun e w' => e = .returned (.int .i64 (placeI L j)) ∧ Below w.heap.size w w' := by
  by_cases hL : L = []
  · have e1 := h.k0.2 hL
    have e2 := h.v0.2 hL
    subst e1 e2 hL
    have hj : j = 0 := by have := hp.le; simpa using this
    subst hj
    exact place_empty k w
  · obtain ⟨gk, ck, gv, cv, e1, e2, h1, _⟩ := h.some_ hL
    subst e1 e2
    exact place_any gk ck gv cv L k j w h hp hl h1

theorem rget_none {vK vV : Value} {L : List (Key × Int)} {k : Key} {w : World} (h : RT w vK vV L) (hp : PlaceAt L k L.length) (hl : L.length ≤ 1048576) :
    Calls Try.prog 13 #[.agg #[vK, vV], keyV k] w fun e w' => e = .returned (.tuple #[.int .i64 0, .int .i64 3]) ∧ Below w.heap.size w w' := by
  have hb : Below w.heap.size w ((w.alloc (.cells #[vK, vV] 28)).alloc (.cells #[.int .i64 k.a, .int .i64 k.b, .int .i64 k.c] 29)) := ((Below.refl _ _).alloc (Nat.le_refl _) _).alloc (by simp) _
  have H1 := place_RT (h.below hb) hp hl
  have e1 : placeI L L.length = -1 := by unfold placeI; rw [if_pos rfl]
  rw [e1] at H1
  have H := Lib.hid H1
  clear H1 e1
  unfold keyV
  go_enter Try.func13, Try.ntmps13
  go_wp2_with fail
  refine H.out.mono ?_
  rintro e w2 ⟨rfl, hb2⟩
  go_wp2_with fail
  go_ret2
  exact ⟨rfl, hb.trans (hb2.mono hb.size)⟩

theorem rget_some {vK vV : Value} {L : List (Key × Int)} {k : Key} {v : Int} {j : Nat} {w : World} (h : RT w vK vV L) (hp : PlaceAt L k j) (hj : L[j]? = some (k, v)) (hl : L.length ≤ 1048576) :
    Calls Try.prog 13 #[.agg #[vK, vV], keyV k] w fun e w' => e = .returned (.tuple #[.int .i64 v, .int .i64 0]) ∧ Below w.heap.size w w' := by
  have hjl : j < L.length := (List.getElem?_eq_some_iff.1 hj).1
  obtain ⟨gk, ck, gv, cv, e1, e2, l1, l2⟩ := h.some_ (by rintro rfl; simp at hjl)
  subst e1 e2
  have hb : Below w.heap.size w ((w.alloc (.cells #[.slice (some ⟨gk, 0, none⟩) L.length ck, .slice (some ⟨gv, 0, none⟩) L.length cv] 28)).alloc (.cells #[.int .i64 k.a, .int .i64 k.b, .int .i64 k.c] 29)) := ((Below.refl _ _).alloc (Nat.le_refl _) _).alloc (by simp) _
  have hbox := heap_alloc2_old w (.cells #[.slice (some ⟨gk, 0, none⟩) L.length ck, .slice (some ⟨gv, 0, none⟩) L.length cv] 28) (.cells #[.int .i64 k.a, .int .i64 k.b, .int .i64 k.c] 29)
  have hR := h.below hb
  have H1 := place_RT hR hp hl
  have e1 : placeI L j = j := by unfold placeI; rw [if_neg (by omega)]
  rw [e1] at H1
  have H := Lib.hid H1
  have HJ := Lib.hid hj
  have HB := Lib.hid hbox
  clear H1 e1 hj hbox
  unfold keyV
  go_enter Try.func13, Try.ntmps13
  go_wp2_with fail
  refine H.out.mono ?_
  rintro e w2 ⟨rfl, hb2⟩
  have hR2 := hR.below hb2
  obtain ⟨_, d0⟩ := hR2.at_ HJ.out
  have hB2 : w2.heap[w.heap.size]? = _ := (hb2.block w.heap.size (by simp; omega)).trans HB.out
  have b1 := cell_of_row w2 _ 1 _ _ _ hB2
  simp at b1
  clear hB2
  go_wp2_with fail
  go_ret2
  exact ⟨rfl, hb.trans (hb2.mono hb.size)⟩

end Go.Proofs.Ytldgdlndacocdaa
