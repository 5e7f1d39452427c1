/- Layer 2: the document's own table: Drop. -/
import Derived.Test.YtldgdlndacocdaaHRef
import Derived.Deep.AppendLies
import Derived.Deep.RegionLaw
namespace Go.Proofs.Ytldgdlndacocdaa
open Go.ChangeShapes Go.WideShapes Go.ChangeAt Go.RowKit

theorem info_key : (Try.prog.info? 29).map (fun i => (i.zero, i.size, i.bytes)) = some (some (.agg #[.int .i64 0, .int .i64 0, .int .i64 0]), 3, 24) := by kernel_rfl
theorem info_int : (Try.prog.info? 3).map (fun i => (i.zero, i.size, i.bytes)) = some (some (.int .i64 0), 1, 8) := by kernel_rfl

/-- The same, made by the call: from block B on. -/
structure RTB (B : Nat) (w : World) (vK vV : Value) (L : List (Key × Int)) : Prop where
  ks : w.ownsRow B 29 3 vK L.length (flatK L)
  vs : w.ownsRow B 3 1 vV L.length (flatV L)
  k0 : vK = .slice none 0 0 ↔ L = []
  v0 : vV = .slice none 0 0 ↔ L = []

theorem RTB.rt {B : Nat} {w : World} {vK vV : Value} {L : List (Key × Int)} (h : RTB B w vK vV L) : RT w vK vV L := ⟨own_base h.ks (Nat.zero_le _), own_base h.vs (Nat.zero_le _), h.k0, h.v0⟩
theorem RTB.nil (B : Nat) (w : World) : RTB B w (.slice none 0 0) (.slice none 0 0) [] := ⟨World.ownsRow_nil _ _ _ _, World.ownsRow_nil _ _ _ _, by simp, by simp⟩

def RDropOut (L : List (Key × Int)) (b : Bool) (w : World) (e : Ending) (w' : World) : Prop :=
  ∃ vK vV, e = .returned (.tuple #[.agg #[vK, vV], .bool b]) ∧ RT w' vK vV L ∧ Below w.heap.size w w'

/-- The three blocks with which Drop begins. -/
def drop0 (w : World) (vK vV : Value) (k : Key) : World :=
  ((w.alloc (.cells #[vK, vV] 28)).alloc (.cells #[.int .i64 k.a, .int .i64 k.b, .int .i64 k.c] 29)).alloc (.cells #[.slice none 0 0, .slice none 0 0] 28)

theorem drop0_facts (w : World) (vK vV : Value) (k : Key) :
    Below w.heap.size w (drop0 w vK vV k) ∧ (drop0 w vK vV k).heap.size = w.heap.size + 1 + 1 + 1 ∧
    (drop0 w vK vV k).heap[w.heap.size]? = some (.cells #[vK, vV] 28 (0, 0)) ∧
    (drop0 w vK vV k).heap[w.heap.size + 1 + 1]? = some (.cells #[.slice none 0 0, .slice none 0 0] 28 (0, 0)) := by
  unfold drop0
  refine ⟨(((Below.refl _ _).alloc (Nat.le_refl _) _).alloc (by simp) _).alloc (by simp; omega) _, by simp, ?_, ?_⟩
  · rw [Below.heap_alloc _ _ _ (by simp; omega), Below.heap_alloc _ _ _ (by simp)]; exact heap_alloc_new w _
  · have e := heap_alloc_new ((w.alloc (.cells #[vK, vV] 28)).alloc (.cells #[.int .i64 k.a, .int .i64 k.b, .int .i64 k.c] 29)) (.cells #[.slice none 0 0, .slice none 0 0] 28)
    simpa using e

/-- A block of two cells. -/
theorem two_cells {w : World} {g : Nat} {a b : Value} {T : TypeId} (h : w.heap[g]? = some (.cells #[a, b] T (0, 0))) :
    w.cell? ⟨g, 0, none⟩ = some a ∧ w.cell? ⟨g, 1, none⟩ = some b ∧ w.frozen? ⟨g, 0, none⟩ = false ∧ w.frozen? ⟨g, 1, none⟩ = false ∧ g < w.heap.size :=
  ⟨cell_of_row w g 0 _ _ _ h, cell_of_row w g 1 _ _ _ h, frozen_of_row w g 0 _ _ h, frozen_of_row w g 1 _ _ h, (Array.getElem?_eq_some_iff.1 h).1⟩

theorem own_shape {w : World} {base : Nat} {e : TypeId} {size n : Nat} {v : Value} {xs : List Value} (h : w.ownsRow base e size v n xs) : ∃ A c, v = .slice A n c := by
  rcases h.2 with ⟨rfl, rfl⟩ | ⟨g, cap, cur, rfl, _⟩
  · exact ⟨none, 0, rfl⟩
  · exact ⟨_, _, rfl⟩

theorem RT.shape {w : World} {vK vV : Value} {L : List (Key × Int)} (h : RT w vK vV L) : ∃ A c A2 c2, vK = .slice A L.length c ∧ vV = .slice A2 L.length c2 := by
  obtain ⟨A, c, e1⟩ := own_shape h.ks
  obtain ⟨A2, c2, e2⟩ := own_shape h.vs
  exact ⟨A, c, A2, c2, e1, e2⟩

theorem own_far {w : World} {base : Nat} {e T : TypeId} {size n g i : Nat} {v u : Value} {xs : List Value} {cs : Array Value} (h : w.ownsRow base e size v n xs) (hg : w.heap[g]? = some (.cells cs T (0, 0))) (hne : e ≠ T) : (w.setCell ⟨g, i, none⟩ u).ownsRow base e size v n xs :=
  h.kept (row := some g) ⟨rfl, rfl, rfl, by simp [World.setCell], fun k _ hk => Below.heap_setCell w _ u k (fun e => hk (by rw [e]))⟩ (.inr (own_ne h hg hne))

theorem RT.far {w : World} {vK vV u : Value} {L : List (Key × Int)} {g i : Nat} {cs : Array Value} (h : RT w vK vV L) (hg : w.heap[g]? = some (.cells cs 28 (0, 0))) : RT (w.setCell ⟨g, i, none⟩ u) vK vV L :=
  ⟨own_far h.ks hg (by decide), own_far h.vs hg (by decide), h.k0, h.v0⟩

/-- Two cells written. -/
theorem RT.far2 {w : World} {vK vV u0 u1 : Value} {L : List (Key × Int)} {g : Nat} {cs : Array Value} (h : RT w vK vV L) (hg : w.heap[g]? = some (.cells cs 28 (0, 0))) : RT ((w.setCell ⟨g, 0, none⟩ u0).setCell ⟨g, 1, none⟩ u1) vK vV L :=
  (h.far hg).far (heap_setCell_same w g 0 _ _ u0 hg)

theorem rdrop_none {vK vV : Value} {L : List (Key × Int)} {k : Key} {w : World} (h : RT w vK vV L) (hp : PlaceAt L k L.length) (hl : L.length ≤ 1048576) :
    Calls Try.prog 14 #[.agg #[vK, vV], keyV k] w (RDropOut L false w) := by
  obtain ⟨A, c, A2, c2, e1, e2⟩ := h.shape
  subst e1 e2
  obtain ⟨hb, hsz, hbx, hrs⟩ := drop0_facts w (.slice A L.length c) (.slice A2 L.length c2) k
  have hR := h.below hb
  have H1 := place_RT hR hp hl
  have e1 : placeI L L.length = -1 := by unfold placeI; rw [if_pos rfl]
  rw [e1] at H1
  have H := Lib.hid H1
  have HX := Lib.hid hbx
  have HS := Lib.hid hrs
  have HZ := Lib.hid hsz
  clear H1 e1 hbx hrs hsz
  obtain ⟨G, hG⟩ : ∃ G, w.heap.size = G := ⟨_, rfl⟩
  have HG := Lib.hid hG
  unfold keyV
  go_enter Try.func14, Try.ntmps14
  go_wp2_with fail
  refine H.out.mono ?_
  rintro e w2 ⟨rfl, hb2⟩
  have hb3 := hb.trans (hb2.mono hb.size)
  obtain ⟨x0, x1, _, _, x4⟩ := two_cells ((hb2.block w.heap.size (by rw [HZ.out]; omega)).trans HX.out)
  obtain ⟨r0, r1, f0, f1, r4⟩ := two_cells ((hb2.block (w.heap.size + 1 + 1) (by rw [HZ.out]; omega)).trans HS.out)
  rw [hG] at x0 x1 x4 r0 r1 f0 f1 r4
  clear hG
  go_wp2_with fail
  refine bodyPost_ret (v := .tuple #[.agg #[.slice A L.length c, .slice A2 L.length c2], .bool false]) (by simp [results, Try.results14, go_sem, r0, r1]) rfl ?_
  have hr := (hb2.block (w.heap.size + 1 + 1) (by rw [HZ.out]; omega)).trans HS.out
  rw [HG.out] at hr
  exact ⟨_, _, rfl, (hR.below hb2).far2 hr, (hb3.setCell (by show w.heap.size ≤ G + 1 + 1; rw [HG.out]; omega) _).setCell (by show w.heap.size ≤ G + 1 + 1; rw [HG.out]; omega) _⟩

theorem grow_keep {w w1 : World} {g base n : Nat} {size : Nat} {v : Value} {xs : List Value} {e T : TypeId} {cs : Array Value} {o : Obj} (hg : w.heap[g]? = some (.cells cs T (0, 0))) (h : w.ownsRow base e size v n xs) (hne : e ≠ T) (hgrow : ((w.alloc o).drew).grownBy w1 v.ownBlock) : w1.heap[g]? = some (.cells cs T (0, 0)) := by
  have hl : g < w.heap.size := (Array.getElem?_eq_some_iff.1 hg).1
  rw [hgrow.block g (by show g < (w.alloc o).heap.size; simp; omega) (fun e => own_ne h hg hne e.symm)]
  exact (Below.heap_alloc w o g hl).trans hg

theorem grow_own {w w1 : World} {base n base' n' : Nat} {size size' : Nat} {v v' : Value} {xs xs' : List Value} {e e' : TypeId} {o : Obj} (h' : w.ownsRow base' e' size' v' n' xs') (h : w.ownsRow base e size v n xs) (hne : e' ≠ e) (hgrow : ((w.alloc o).drew).grownBy w1 v.ownBlock) : w1.ownsRow base' e' size' v' n' xs' :=
  ((h'.alloc o).drew).kept hgrow (own_apart h' h hne)

/-- A round's head in Drop: the first i entries but the j-th one have been copied. -/
def RDRel (B gb gr gn j : Nat) (L : List (Key × Int)) (w : World) (bx : Array Value) (ix : Value) (wr : World) : Prop :=
  ∃ (i : Nat) (A A2 : Option Addr) (c c2 m : Nat), i ≤ L.length ∧ ix = .int .i64 i ∧ Below B w wr ∧ B ≤ wr.heap.size ∧
    wr.heap[gb]? = some (.cells bx 28 (0, 0)) ∧ wr.heap[gr]? = some (.cells #[.slice none 0 0, .slice none 0 0] 28 (0, 0)) ∧
    wr.heap[gn]? = some (.cells #[.slice A m c, .slice A2 m c2] 28 (0, 0)) ∧ Hid (m = ((L.take i).eraseIdx j).length) ∧ m ≤ i ∧ RTB B wr (.slice A m c) (.slice A2 m c2) ((L.take i).eraseIdx j)

theorem erase_step {α : Type} {L : List α} {i j : Nat} {x : α} (hx : L[i]? = some x) (hij : i ≠ j) : (L.take (i + 1)).eraseIdx j = (L.take i).eraseIdx j ++ [x] := by
  have hi : i < L.length := (List.getElem?_eq_some_iff.1 hx).1
  have hl : (L.take i).length = i := by rw [List.length_take]; omega
  have e : L.take (i + 1) = L.take i ++ [x] := by rw [List.take_add_one, hx]; rfl
  rw [e]
  rcases Nat.lt_or_ge j i with h | h
  · rw [List.eraseIdx_append_of_lt_length (by omega)]
  · rw [List.eraseIdx_of_length_le (by simp [hl]; omega), List.eraseIdx_of_length_le (by omega)]

theorem erase_skip {α : Type} {L : List α} {j : Nat} {x : α} (hx : L[j]? = some x) : (L.take (j + 1)).eraseIdx j = (L.take j).eraseIdx j := by
  have hi : j < L.length := (List.getElem?_eq_some_iff.1 hx).1
  have hl : (L.take j).length = j := by rw [List.length_take]; omega
  have e : L.take (j + 1) = L.take j ++ [x] := by rw [List.take_add_one, hx]; rfl
  rw [e, List.eraseIdx_append_of_length_le (by omega), hl, Nat.sub_self, show ([x] : List α).eraseIdx 0 = [] from rfl, List.append_nil, List.eraseIdx_of_length_le (by omega)]

theorem rd_close {G gn j i m cap cap2 c2 g g2 : Nat} {A2 : Option Addr} {L out : List (Key × Int)} {w w1 w5 : World} {bx : Array Value} {x : Key × Int} (hlt : i < L.length) (hx : L[i]? = some x) (hij : i ≠ j)
    (hout : (L.take i).eraseIdx j = out) (hm : m = out.length) (hmi : m ≤ i)
    (hB1 : w1.heap[G]? = some (.cells bx 28 (0, 0))) (hS1 : w1.heap[G + 1 + 1]? = some (.cells #[.slice none 0 0, .slice none 0 0] 28 (0, 0))) (hbw1 : Below G w w1) (hsz1 : G ≤ w1.heap.size) (hgG : G + 1 + 1 < gn)
    (HV : (w1.setCell ⟨gn, 0, none⟩ (.slice (some ⟨g, 0, none⟩) (m + 1) cap)).ownsRow G 3 1 (.slice A2 m c2) m (flatV out))
    (HK : (w1.setCell ⟨gn, 0, none⟩ (.slice (some ⟨g, 0, none⟩) (m + 1) cap)).ownsRow G 29 3 (.slice (some ⟨g, 0, none⟩) (m + 1) cap) (m + 1) (flatK out ++ [.int .i64 x.1.a, .int .i64 x.1.b, .int .i64 x.1.c]))
    (hgrow2 : (((w1.setCell ⟨gn, 0, none⟩ (.slice (some ⟨g, 0, none⟩) (m + 1) cap)).alloc (.cells #[.int .i64 x.2] 3)).drew).grownBy w5 (Value.slice A2 m c2).ownBlock)
    (hown2 : w5.ownsRow G 3 1 (.slice (some ⟨g2, 0, none⟩) (m + 1) cap2) (m + 1) (flatV out ++ [.int .i64 x.2]))
    (hN3 : w5.heap[gn]? = some (.cells #[.slice (some ⟨g, 0, none⟩) (m + 1) cap, .slice A2 m c2] 28 (0, 0))) :
    RDRel G G (G + 1 + 1) gn j L w bx (.int .i64 ((i : Int) + 1)) (w5.setCell ⟨gn, 1, none⟩ (.slice (some ⟨g2, 0, none⟩) (m + 1) cap2)) := by
  have eo : (L.take (i + 1)).eraseIdx j = out ++ [x] := by rw [erase_step hx hij, hout]
  have hB2 := (heap_setCell_other w1 ⟨gn, 0, none⟩ G (.slice (some ⟨g, 0, none⟩) (m + 1) cap) (by show G ≠ gn; omega)).trans hB1
  have hS2 := (heap_setCell_other w1 ⟨gn, 0, none⟩ (G + 1 + 1) (.slice (some ⟨g, 0, none⟩) (m + 1) cap) (by show G + 1 + 1 ≠ gn; omega)).trans hS1
  have hB3 := grow_keep hB2 HV (by decide) hgrow2
  have hS3 := grow_keep hS2 HV (by decide) hgrow2
  have hK3 := grow_own HK HV (by decide) hgrow2
  have bs : G ≤ (((w1.setCell ⟨gn, 0, none⟩ (.slice (some ⟨g, 0, none⟩) (m + 1) cap)).alloc (.cells #[.int .i64 x.2] 3)).drew).heap.size := by
    show G ≤ (World.alloc _ _).heap.size
    simp; omega
  have hb2 : Below G w (w1.setCell ⟨gn, 0, none⟩ (.slice (some ⟨g, 0, none⟩) (m + 1) cap)) := hbw1.setCell (by show G ≤ gn; omega) _
  have hb5 : Below G w w5 := ((hb2.alloc (by rw [size_setCell]; exact hsz1) _).drew).grown hgrow2 bs (fun k hk => (HV.lt k hk).1)
  have sz5 : G ≤ w5.heap.size := Nat.le_trans bs hgrow2.size
  refine ⟨i + 1, some ⟨g, 0, none⟩, some ⟨g2, 0, none⟩, cap, cap2, m + 1, hlt, by go_num, hb5.setCell (by show G ≤ gn; omega) _, by rw [size_setCell]; exact sz5, ?_, ?_, ?_, ?_, by omega, ?_⟩
  · exact (heap_setCell_other w5 ⟨gn, 1, none⟩ G _ (by show G ≠ gn; omega)).trans hB3
  · exact (heap_setCell_other w5 ⟨gn, 1, none⟩ (G + 1 + 1) _ (by show G + 1 + 1 ≠ gn; omega)).trans hS3
  · exact heap_setCell_same w5 gn 1 _ _ _ hN3
  · rw [eo]; exact Lib.hid (by simp [hm])
  · rw [eo]
    have hlen : (out ++ [x]).length = m + 1 := by simp [hm]
    refine ⟨?_, ?_, by simp, by simp⟩
    · rw [hlen, flatK_append]
      exact own_far hK3 hN3 (by decide)
    · rw [hlen, flatV_append]
      exact own_far hown2 hN3 (by decide)

set_option maxHeartbeats 8000000 in
theorem rdrop_some {vK vV : Value} {L : List (Key × Int)} {k : Key} {j : Nat} {w : World} (h : RT w vK vV L) (hp : PlaceAt L k j) (hj : j < L.length) (hl : L.length ≤ 1048576) :
    Calls Try.prog 14 #[.agg #[vK, vV], keyV k] w (RDropOut (L.eraseIdx j) true w) := by
  obtain ⟨gk, ck, gv, cv, e1, e2, hgk, hgv⟩ := h.some_ (by rintro rfl; simp at hj)
  subst e1 e2
  obtain ⟨hb, hsz, hbx, hrs⟩ := drop0_facts w (.slice (some ⟨gk, 0, none⟩) L.length ck) (.slice (some ⟨gv, 0, none⟩) L.length cv) k
  have hR := h.below hb
  have H1 := place_RT hR hp hl
  have e1 : placeI L j = j := by unfold placeI; rw [if_neg (by omega)]
  rw [e1] at H1
  have H := Lib.hid H1
  have HX := Lib.hid hbx
  have HS := Lib.hid hrs
  have HZ := Lib.hid hsz
  clear H1 e1 hbx hrs hsz
  obtain ⟨G, hG⟩ : ∃ G, w.heap.size = G := ⟨_, rfl⟩
  have HG := Lib.hid hG
  unfold keyV
  go_enter Try.func14, Try.ntmps14
  go_wp2_with fail
  refine H.out.mono ?_
  rintro e w2 ⟨rfl, hb2⟩
  have hb3 := hb.trans (hb2.mono hb.size)
  have hB2 := (hb2.block w.heap.size (by rw [HZ.out]; omega)).trans HX.out
  have hS2 := (hb2.block (w.heap.size + 1 + 1) (by rw [HZ.out]; omega)).trans HS.out
  have hR2 := hR.below hb2
  rw [hG] at hB2 hS2 hb3
  clear hG
  go_wp2_with fail
  have hsz2 : G ≤ w2.heap.size := by have := hb3.size; have := HG.out; omega
  obtain ⟨gn, hgn⟩ : ∃ gn, w2.heap.size = gn := ⟨_, rfl⟩
  have hN : (w2.alloc (.cells #[.slice none 0 0, .slice none 0 0] 28)).heap[gn]? = some (.cells #[.slice none 0 0, .slice none 0 0] 28 (0, 0)) := by rw [← hgn]; exact heap_alloc_new w2 _
  have hgG : G + 1 + 1 < gn := by rw [← hgn]; exact (Array.getElem?_eq_some_iff.1 hS2).1
  rw [hgn]
  have HW := Lib.hid hR2
  clear hgn hR2
  go_loopw [8] (RDRel G G (G + 1 + 1) gn j L w #[.slice (some ⟨gk, 0, none⟩) L.length ck, .slice (some ⟨gv, 0, none⟩) L.length cv]) (fun ix _ => L.length - (intOf ix).toNat)
  case atStart =>
    refine ⟨0, none, none, 0, 0, 0, by omega, rfl, hb3.alloc hsz2 _, by simp; omega, ?_, ?_, hN, Lib.hid (by simp), by omega, ?_⟩
    · rw [Below.heap_alloc _ _ _ (Array.getElem?_eq_some_iff.1 hB2).1]; exact hB2
    · rw [Below.heap_alloc _ _ _ (Array.getElem?_eq_some_iff.1 hS2).1]; exact hS2
    · have e : (L.take 0).eraseIdx j = [] := by simp
      rw [e]; exact RTB.nil _ _
  case round =>
    clear hB2 hS2 hN hsz2
    obtain ⟨i, A, A2, c, c2, m, hi, rfl, hbw, hsz, hB, hS, hN, hm, hmi, hT⟩ := hrel
    obtain ⟨b0, b1, _, _, b4⟩ := two_cells hB
    obtain ⟨n0, n1, n2, n3, n4⟩ := two_cells hN
    by_cases hlt : i < L.length
    · obtain ⟨x, hx⟩ : ∃ x, L[i]? = some x := ⟨_, List.getElem?_eq_getElem hlt⟩
      by_cases hij : i = j
      · subst hij
        have HJ := Lib.hid (erase_skip hx)
        have hjj : ((i : Int) != (i : Int)) = false := by simp
        clear hx
        go_wp2_with fail
        go_roundw
        case rel => exact ⟨i + 1, A, A2, c, c2, m, hlt, by go_num, hbw, hsz, hB, hS, hN, by rw [HJ.out]; exact hm, by omega, by rw [HJ.out]; exact hT⟩
        case measure => simp [intOf]; omega
      · have hij' : ((i : Int) != (j : Int)) = true := by simp; omega
        obtain ⟨⟨c0, c1, c2'⟩, cv0⟩ := h.at_ hx
        have cg : ∀ (g o : Nat) (v : Value), g < G → w.cell? ⟨g, o, none⟩ = some v → wr.cell? ⟨g, o, none⟩ = some v := fun g o v hg hv => (hbw.cell (p := ⟨g, o, none⟩) hg).trans hv
        have hgkG : gk < G := by have := HG.out; omega
        have hgvG : gv < G := by have := HG.out; omega
        have c0 := cg _ _ _ hgkG c0
        have c1 := cg _ _ _ hgkG c1
        have c2' := cg _ _ _ hgkG c2'
        have cv0 := cg _ _ _ hgvG cv0
        have HIJ := Lib.hid hij
        have HX := Lib.hid hx
        clear cg hx hij
        go_wp2_with fail
        obtain ⟨out, hout⟩ : ∃ out, (L.take i).eraseIdx j = out := ⟨_, rfl⟩
        rw [hout] at hm hT
        have hm := hm.out
        have hK := hT.ks
        have hV := hT.vs
        rw [← hm] at hK hV
        obtain ⟨i0, hi0, hz0, hz1, hz2⟩ := info_parts info_key
        obtain ⟨i1, hi1, hy0, hy1, hy2⟩ := info_parts info_int
        have HO := Lib.hid hout
        have HM := Lib.hid hm
        clear hm hout
        have mx : m + 1 ≤ maxLen := by unfold maxLen; omega
        have mb : (m + 1) * 24 ≤ 140737488355328 := by omega
        have bs : G ≤ ((wr.alloc (.cells #[.int .i64 x.1.a, .int .i64 x.1.b, .int .i64 x.1.c] 29)).drew).heap.size := by show G ≤ (wr.alloc _).heap.size; simp; omega
        go_region_law (first
          | (refine step_append_lies _ rfl (.tmp 34) (.tmp 40) 25 rfl G 29 i0 _ 3 24 Try.underlying25 hi0 hz0 hz1 hz2 rfl (by omega) (.slice A m c) m (flatK out) (by simp [Act.eval]) ((hK.alloc _).drew) ⟨wr.heap.size, 0, none⟩ 1 1 [.int .i64 x.1.a, .int .i64 x.1.b, .int .i64 x.1.c] (by simp [Act.eval]) (by rfl)
              (World.news_of_block (cs := #[.int .i64 x.1.a, .int .i64 x.1.b, .int .i64 x.1.c]) (t := 29) (fr := (0, 0)) (heap_alloc_new wr _)) (by simp [Value.oneCell']) (by omega) mx mb bs (wr.heap.size + 1) (by simp) ?_; intro g cap w1 hown1 hgrow hat hlt1; have hN1 := grow_keep hN hK (by decide) hgrow; obtain ⟨p0, p1, p2, p3, p4⟩ := two_cells hN1))
        all_goals
          have hB1 := grow_keep hB hK (by decide) hgrow
          have hS1 := grow_keep hS hK (by decide) hgrow
          have hV1 := grow_own hV hK (by decide) hgrow
          have hbw1 : Below G w w1 := ((hbw.alloc hsz _).drew).grown hgrow bs (fun k hk => (hK.lt k hk).1)
          have hsz1 : G ≤ w1.heap.size := Nat.le_trans bs hgrow.size
          have cv1 : w1.cell? ⟨gv, i, none⟩ = some (.int .i64 x.2) := by
            obtain ⟨_, q⟩ := h.at_ HX.out
            exact (hbw1.cell (p := ⟨gv, i, none⟩) hgvG).trans q
          obtain ⟨q0, q1, _, _, q4⟩ := two_cells hB1
          have hN2 := heap_setCell_same w1 gn 0 _ _ (.slice (some ⟨g, 0, none⟩) (m + 1) cap) hN1
          have hV2 := own_far (i := 0) (u := .slice (some ⟨g, 0, none⟩) (m + 1) cap) hV1 hN1 (by decide)
          have hK2 := own_far (i := 0) (u := .slice (some ⟨g, 0, none⟩) (m + 1) cap) hown1 hN1 (by decide)
          have hnew : ((w1.setCell ⟨gn, 0, none⟩ (.slice (some ⟨g, 0, none⟩) (m + 1) cap)).alloc (.cells #[.int .i64 x.2] 3)).drew.heap[w1.heap.size]? = some (.cells #[.int .i64 x.2] 3 (0, 0)) := by
            have := heap_alloc_new (w1.setCell ⟨gn, 0, none⟩ (.slice (some ⟨g, 0, none⟩) (m + 1) cap)) (.cells #[.int .i64 x.2] 3)
            rw [size_setCell] at this
            exact this
          have bs2 : G ≤ ((w1.setCell ⟨gn, 0, none⟩ (.slice (some ⟨g, 0, none⟩) (m + 1) cap)).alloc (.cells #[.int .i64 x.2] 3)).drew.heap.size := by
            show G ≤ (World.alloc _ _).heap.size
            simp; omega
          have sz2 : ((w1.setCell ⟨gn, 0, none⟩ (.slice (some ⟨g, 0, none⟩) (m + 1) cap)).alloc (.cells #[.int .i64 x.2] 3)).drew.heap.size = w1.heap.size + 1 := by
            show (World.alloc _ _).heap.size = _
            simp
          have HV := Lib.hid hV2
          have HK := Lib.hid hK2
          have HN := Lib.hid hN2
          have HW1 := Lib.hid hnew
          have HZ2 := Lib.hid sz2
          have mb1 : (m + 1) * 8 ≤ 140737488355328 := by omega
          clear b0 b1 n0 n1 n2 n3 c0 c1 c2' cv0 hN2 hV2 hK2 hnew hgrow hat hown1 sz2
          go_wp2_with fail
          go_region_law (first
            | (refine step_append_lies _ rfl (.tmp 44) (.tmp 50) 26 rfl G 3 i1 _ 1 8 Try.underlying26 hi1 hy0 hy1 hy2 rfl (by omega) (.slice A2 m c2) m (flatV out) (by simp [Act.eval]) ((HV.out.alloc _).drew) ⟨w1.heap.size, 0, none⟩ 1 1 [.int .i64 x.2] (by simp [Act.eval]) (by rfl)
                (World.news_of_block (cs := #[.int .i64 x.2]) (t := 3) (fr := (0, 0)) HW1.out) (by simp [Value.oneCell']) (by omega) mx mb1 bs2 (w1.heap.size + 1) HZ2.out ?_; intro g2 cap2 w5 hown2 hgrow2 hat2 hlt2; have hN3 := grow_keep HN.out HV.out (by decide) hgrow2; obtain ⟨r0, r1, r2, r3, r4⟩ := two_cells hN3))
          all_goals
            go_wp2_with fail
            go_roundw
            case rel => exact rd_close hlt HX.out HIJ.out HO.out HM.out hmi hB1 hS1 hbw1 hsz1 hgG HV.out HK.out hgrow2 hown2 hN3
            case measure => simp [intOf]; omega
    · obtain ⟨s0, s1, s2, s3, s4⟩ := two_cells hS
      have hil : i = L.length := by omega
      have HS5 := Lib.hid hS
      have HM := Lib.hid hil
      clear hS hil
      go_wp2_with fail
      refine bodyPost_ret (v := .tuple #[.agg #[.slice A m c, .slice A2 m c2], .bool true]) (by simp [results, Try.results14, go_sem, s0, s1]) rfl ?_
      have hil := HM.out
      rw [hil, List.take_length] at hT
      have hbG := HG.out
      refine ⟨_, _, rfl, hT.rt.far2 HS5.out, ?_⟩
      rw [hbG]
      exact (hbw.setCell (by show G ≤ G + 1 + 1; omega) _).setCell (by show G ≤ G + 1 + 1; omega) _
end Go.Proofs.Ytldgdlndacocdaa
