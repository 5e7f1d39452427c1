/- Layer 2: the document's own table: Put. -/
import Derived.Test.YtldgdlndacocdaaHRDrop
import Derived.Laws.AppendOwnNone
namespace Go.Proofs.Ytldgdlndacocdaa
open Go.ChangeShapes Go.WideShapes Go.ChangeAt Go.RowKit

theorem rdrop_any {vK vV : Value} {L : List (Key × Int)} {k : Key} {j : Nat} {w : World} (h : RT w vK vV L) (hp : PlaceAt L k j) (hl : L.length ≤ 1048576) :
    Calls Try.prog 14 #[.agg #[vK, vV], keyV k] w (RDropOut (L.eraseIdx j) (decide (j < L.length)) w) := by
  by_cases hj : j < L.length
  · rw [decide_eq_true hj]; exact rdrop_some h hp hj hl
  · have : j = L.length := by have := hp.le; omega
    subst this
    rw [decide_eq_false hj, List.eraseIdx_of_length_le (Nat.le_refl _)]
    exact rdrop_none h hp hl

def RPutOut (L : List (Key × Int)) (w : World) (e : Ending) (w' : World) : Prop :=
  ∃ vK vV, e = .returned (.tuple #[.agg #[vK, vV], .int .i64 0]) ∧ RT w' vK vV L ∧ Below w.heap.size w w'

theorem keep1 {w w1 : World} {g base n : Nat} {size : Nat} {v : Value} {xs : List Value} {e T : TypeId} {cs : Array Value} {o : Obj} (hg : w.heap[g]? = some (.cells cs T (0, 0))) (h : w.ownsRow base e size v n xs) (hne : e ≠ T) (hgrow : (w.alloc o).grownBy w1 v.ownBlock) : w1.heap[g]? = some (.cells cs T (0, 0)) := by
  have hl : g < w.heap.size := (Array.getElem?_eq_some_iff.1 hg).1
  rw [hgrow.block g (by simp; omega) (fun e => own_ne h hg hne e.symm)]
  exact (Below.heap_alloc w o g hl).trans hg

theorem own1 {w w1 : World} {base n base' n' : Nat} {size size' : Nat} {v v' : Value} {xs xs' : List Value} {e e' : TypeId} {o : Obj} (h' : w.ownsRow base' e' size' v' n' xs') (h : w.ownsRow base e size v n xs) (hne : e' ≠ e) (hgrow : (w.alloc o).grownBy w1 v.ownBlock) : w1.ownsRow base' e' size' v' n' xs' :=
  (h'.alloc o).kept hgrow (own_apart h' h hne)

/-- Put's end: the answer's two slices lie in its result. -/
theorem put_close {G n c d g g' : Nat} {k : Key} {v : Int} {L' : List (Key × Int)} {w w' : World} (hG : w.heap.size = G) (hn : n = L'.length + 1)
    (hK : w'.ownsRow G 29 3 (.slice (some ⟨g, 0, none⟩) n c) n (flatK L' ++ [.int .i64 k.a, .int .i64 k.b, .int .i64 k.c]))
    (hV : w'.ownsRow G 3 1 (.slice (some ⟨g', 0, none⟩) n d) n (flatV L' ++ [.int .i64 v]))
    (hS : w'.heap[G + 1 + 1]? = some (.cells #[.slice none 0 0, .slice none 0 0] 28 (0, 0))) (hb : Below G w w') :
    RPutOut (L' ++ [(k, v)]) w (.returned (.tuple #[.agg #[.slice (some ⟨g, 0, none⟩) n c, .slice (some ⟨g', 0, none⟩) n d], .int .i64 0])) ((w'.setCell ⟨G + 1 + 1, 0, none⟩ (.slice (some ⟨g, 0, none⟩) n c)).setCell ⟨G + 1 + 1, 1, none⟩ (.slice (some ⟨g', 0, none⟩) n d)) := by
  have hlen : (L' ++ [(k, v)]).length = n := by simp [hn]
  have hR : RT w' (.slice (some ⟨g, 0, none⟩) n c) (.slice (some ⟨g', 0, none⟩) n d) (L' ++ [(k, v)]) := by
    refine ⟨?_, ?_, by simp, by simp⟩
    · rw [hlen, flatK_append]; exact own_base hK (Nat.zero_le _)
    · rw [hlen, flatV_append]; exact own_base hV (Nat.zero_le _)
  refine ⟨_, _, rfl, hR.far2 hS, ?_⟩
  rw [hG]
  exact (hb.setCell (by show G ≤ G + 1 + 1; omega) _).setCell (by show G ≤ G + 1 + 1; omega) _

theorem below_none {w w' : World} (h : w.grownBy w' none) : Below w.heap.size w w' := ⟨h.os, h.tape, h.output, h.size, fun k hk => h.block k hk (by simp)⟩

set_option maxRecDepth 100000 in
set_option maxHeartbeats 4000000 in
theorem rput_any {vK vV : Value} {L : List (Key × Int)} {k : Key} {v : Int} {j : Nat} {w : World} (h : RT w vK vV L) (hp : PlaceAt L k j) (hl : L.length < 1048576) :
    Calls Try.prog 10 #[.agg #[vK, vV], keyV k, .int .i64 v] w (RPutOut (L.eraseIdx j ++ [(k, v)]) w) := by
  obtain ⟨A, c, A2, c2, e1, e2⟩ := h.shape
  subst e1 e2
  obtain ⟨hb, hsz, hbx, hrs⟩ := drop0_facts w (.slice A L.length c) (.slice A2 L.length c2) k
  have hkb : (drop0 w (.slice A L.length c) (.slice A2 L.length c2) k).heap[w.heap.size + 1]? = some (.cells #[.int .i64 k.a, .int .i64 k.b, .int .i64 k.c] 29 (0, 0)) := by
    unfold drop0
    rw [Below.heap_alloc _ _ _ (by simp)]
    have e := heap_alloc_new (w.alloc (.cells #[.slice A L.length c, .slice A2 L.length c2] 28)) (.cells #[.int .i64 k.a, .int .i64 k.b, .int .i64 k.c] 29)
    simpa using e
  have hR := h.below hb
  have H := Lib.hid (place_RT hR hp (by omega))
  have HX := Lib.hid hbx
  have HS := Lib.hid hrs
  have HZ := Lib.hid hsz
  have HK := Lib.hid hkb
  clear hbx hrs hsz hkb
  obtain ⟨G, hG⟩ : ∃ G, w.heap.size = G := ⟨_, rfl⟩
  have HG := Lib.hid hG
  have hlow : placeI L j = -1 ∨ 0 ≤ placeI L j := by unfold placeI; split <;> omega
  obtain ⟨p, hpe⟩ : ∃ p, placeI L j = p := ⟨_, rfl⟩
  rw [hpe] at H hlow
  clear hpe
  unfold keyV
  go_enter Try.func10, Try.ntmps10
  go_wp2_with fail
  refine H.out.mono ?_
  rintro e w2 ⟨rfl, hb2⟩
  have hb3 := hb.trans (hb2.mono hb.size)
  have hB2 := (hb2.block w.heap.size (by rw [HZ.out]; omega)).trans HX.out
  have hS2 := (hb2.block (w.heap.size + 1 + 1) (by rw [HZ.out]; omega)).trans HS.out
  have hK2 := (hb2.block (w.heap.size + 1) (by rw [HZ.out]; omega)).trans HK.out
  have hR2 := hR.below hb2
  rw [hG] at hB2 hS2 hK2 hb3
  clear hG
  obtain ⟨b0, b1, _, _, b4⟩ := two_cells hB2
  have k0 := cell_of_row w2 _ 0 _ _ _ hK2
  have k1 := cell_of_row w2 _ 1 _ _ _ hK2
  have k2 := cell_of_row w2 _ 2 _ _ _ hK2
  simp at k0 k1 k2
  rcases hlow with rfl | hlow
  all_goals
    have hg : decide ((1048576 : Int) ≤ (L.length : Int)) = false := by simp; omega
    have HL := Lib.hid hl
    clear hl
    go_wp2_with fail
    refine (rdrop_any hR2 hp (Nat.le_of_lt HL.out)).mono ?_
    rintro e w3 ⟨wK, wV, rfl, hR3, hb4⟩
    obtain ⟨L', hL'⟩ : ∃ L', L.eraseIdx j = L' := ⟨_, rfl⟩
    rw [hL'] at hR3 ⊢
    obtain ⟨D, d, D2, d2, e1, e2⟩ := hR3.shape
    subst e1 e2
    clear b0 b1 k0 k1 k2
    have hG2 : G ≤ w2.heap.size := by have := hb3.size; have := HG.out; omega
    have hb5 := hb3.trans (hb4.mono hG2)
    have hsz3 : G ≤ w3.heap.size := Nat.le_trans hG2 hb4.size
    have hS3 := (hb4.block _ (Array.getElem?_eq_some_iff.1 hS2).1).trans hS2
    have hK3 := (hb4.block _ (Array.getElem?_eq_some_iff.1 hK2).1).trans hK2
    have hlen : L'.length ≤ 1048576 := by
      have := HL.out
      rw [← hL', List.length_eraseIdx]; split <;> omega
    obtain ⟨i0, hi0, hz0, hz1, hz2⟩ := info_parts info_key
    obtain ⟨i1, hi1, hy0, hy1, hy2⟩ := info_parts info_int
    by_cases hLe : L' = []
    · have e1 := hR3.k0.2 hLe
      have e2 := hR3.v0.2 hLe
      rw [e1, e2]
      have hK4 := (Below.heap_alloc w3 (.cells #[.slice none 0 0, .slice none 0 0] 28) _ (Array.getElem?_eq_some_iff.1 hK3).1).trans hK3
      have hS4 := (Below.heap_alloc w3 (.cells #[.slice none 0 0, .slice none 0 0] 28) _ (Array.getElem?_eq_some_iff.1 hS3).1).trans hS3
      have BB := hb5.alloc hsz3 (.cells #[.slice none 0 0, .slice none 0 0] 28)
      have bsb : G ≤ (w3.alloc (.cells #[.slice none 0 0, .slice none 0 0] 28)).heap.size := by simp; omega
      have hnext : (w3.alloc (.cells #[.slice none 0 0, .slice none 0 0] 28)).heap[w3.heap.size]? = some (.cells #[.slice none 0 0, .slice none 0 0] 28 (0, 0)) := heap_alloc_new w3 _
      have hL0 : L'.length = 0 := by rw [hLe]; rfl
      have HL0 := Lib.hid hL0
      have HLE := Lib.hid hLe
      have mx1 : 0 + 1 ≤ maxLen := by unfold maxLen; omega
      have mb2 : (0 + 1) * 24 ≤ 140737488355328 := by omega
      have mb3 : (0 + 1) * 8 ≤ 140737488355328 := by omega
      have HK30 := Lib.hid hK3
      have HL2 := Lib.hid hL'
      clear hR3 e1 e2 hL0 hLe hlen hB2 hS2 hK2 hR2 hL' hS3 hK3
      have HS5 := Lib.hid hS4
      obtain ⟨x0, x1, _, _, x4⟩ := two_cells hnext
      have k0 := cell_of_row w3 _ 0 _ _ _ HK30.out
      have k1 := cell_of_row w3 _ 1 _ _ _ HK30.out
      have k2 := cell_of_row w3 _ 2 _ _ _ HK30.out
      simp at k0 k1 k2
      have k9 : G + 1 < w3.heap.size := (Array.getElem?_eq_some_iff.1 HK30.out).1
      have bsb1 : G ≤ ((w3.alloc (.cells #[.slice none 0 0, .slice none 0 0] 28)).alloc (.cells #[.int .i64 k.a, .int .i64 k.b, .int .i64 k.c] 29)).heap.size := by simp; omega
      have OK1 : ∀ u ∈ [Value.int .i64 k.a, .int .i64 k.b, .int .i64 k.c], u.oneCell' = true := by simp [Value.oneCell']
      have OK2 : ∀ u ∈ [Value.int .i64 v], u.oneCell' = true := by simp [Value.oneCell']
      have OK1 := Lib.hid OK1
      have OK2 := Lib.hid OK2
      clear hS4 hK4 hnext
      go_wp2_with (first
        | (at_builtin; refine wpList_append_lies _ rfl (.tmp 37) (.tmp 39) 25 rfl G 29 i0 _ 3 24 Try.underlying25 hi0 hz0 hz1 hz2 rfl (by omega) (.slice none 0 0) 0 [] rfl ((World.ownsRow_nil (w3.alloc (.cells #[.slice none 0 0, .slice none 0 0] 28)) G 29 3).alloc _) ⟨w3.heap.size + 1, 0, none⟩ 1 1 [.int .i64 k.a, .int .i64 k.b, .int .i64 k.c] rfl rfl (World.news_of_block (cs := #[.int .i64 k.a, .int .i64 k.b, .int .i64 k.c]) (t := 29) (fr := (0, 0)) (heap_alloc2_new w3 _ _)) OK1.out (by omega) mx1 mb2 bsb1 _ rfl ?_
           intro gc cc wc hownc hgrowc hatc hltc
           have HOC := Lib.hid hownc
           have HOB2 := Lib.hid (own1 (World.ownsRow_nil (w3.alloc (.cells #[.slice none 0 0, .slice none 0 0] 28)) G 3 1) (World.ownsRow_nil (w3.alloc (.cells #[.slice none 0 0, .slice none 0 0] 28)) G 29 3) (by decide) hgrowc)
           have HS6 := Lib.hid (keep1 HS5.out (World.ownsRow_nil (w3.alloc (.cells #[.slice none 0 0, .slice none 0 0] 28)) G 29 3) (by decide) hgrowc)
           have B3 := Lib.hid ((BB.alloc bsb (.cells #[.int .i64 k.a, .int .i64 k.b, .int .i64 k.c] 29)).grown hgrowc bsb1 (fun q hq => ((World.ownsRow_nil (w3.alloc (.cells #[.slice none 0 0, .slice none 0 0] 28)) G 29 3).lt q hq).1))
           have bsc := Nat.le_trans bsb1 hgrowc.size
           have bsc1 : G ≤ (wc.alloc (.cells #[.int .i64 v] 3)).heap.size := by simp; omega
           clear hownc hgrowc hatc)
        | (at_builtin; refine wpList_append_lies _ rfl (.tmp 41) (.tmp 43) 26 rfl G 3 i1 _ 1 8 Try.underlying26 hi1 hy0 hy1 hy2 rfl (by omega) (.slice none 0 0) 0 [] rfl (HOB2.out.alloc _) ⟨wc.heap.size, 0, none⟩ 1 1 [.int .i64 v] rfl rfl (World.news_of_block (cs := #[.int .i64 v]) (t := 3) (fr := (0, 0)) (heap_alloc_new wc _)) OK2.out (by omega) mx1 mb3 bsc1 _ rfl ?_
           intro gd cd wd hownd hgrowd hatd hltd
           have HOD := Lib.hid hownd
           have HOC2 := Lib.hid (own1 HOC.out HOB2.out (by decide) hgrowd)
           have HS7 := Lib.hid (keep1 HS6.out HOB2.out (by decide) hgrowd)
           have B4 := Lib.hid ((B3.out.alloc bsc (.cells #[.int .i64 v] 3)).grown hgrowd bsc1 (fun q hq => (HOB2.out.lt q hq).1))
           obtain ⟨r0, r1, r2, r3, r4⟩ := two_cells HS7.out
           clear hownd hgrowd hatd))
      refine bodyPost_ret (v := .tuple #[.agg #[.slice (some ⟨gc, 0, none⟩) (0 + 1) cc, .slice (some ⟨gd, 0, none⟩) (0 + 1) cd], .int .i64 0]) (by simp [results, Try.results10, go_sem, r0, r1]) rfl ?_
      exact put_close HG.out (by rw [HL2.out, HL0.out]) (by rw [HL2.out, HLE.out]; exact HOC2.out) (by rw [HL2.out, HLE.out]; exact HOD.out) HS7.out B4.out
    · obtain ⟨gk, ck, gv, cv, e1, e2, hgk, hgv⟩ := hR3.some_ hLe
      have hpos : 0 < L'.length := List.length_pos_iff.2 hLe
      rw [e1, e2] at hR3 ⊢
      clear e1 e2
      have hR4 := hR3.below ((Below.refl _ _).alloc (Nat.le_refl _) (.cells #[.slice (some ⟨gk, 0, none⟩) L'.length ck, .slice (some ⟨gv, 0, none⟩) L'.length cv] 28))
      obtain ⟨m, hm⟩ : ∃ m, L'.length = m := ⟨_, rfl⟩
      have hKs := hR4.ks
      have hVs := hR4.vs
      rw [hm] at hKs hVs hpos hlen ⊢
      have HM := Lib.hid hm
      have HKs := Lib.hid hKs
      have HVs := Lib.hid hVs
      have fl : (flatK L').length = m * 3 := by rw [flatK_length, hm]
      have fv : (flatV L').length = m * 1 := by rw [flatV, List.length_map, hm, Nat.mul_one]
      have o1 : ∀ u ∈ flatK L', u.oneCell' = true := by
        intro u hu
        simp only [flatK, List.mem_flatMap, keyC] at hu
        obtain ⟨x, _, hx⟩ := hu
        simp at hx
        rcases hx with rfl | rfl | rfl <;> rfl
      have o2 : ∀ u ∈ flatV L', u.oneCell' = true := by
        intro u hu
        simp only [flatV, List.mem_map] at hu
        obtain ⟨x, _, rfl⟩ := hu
        rfl
      have FL := Lib.hid fl
      have FV := Lib.hid fv
      have O1 := Lib.hid o1
      have O2 := Lib.hid o2
      have HLE := Lib.hid hLe
      have HL2 := Lib.hid hL'
      have mx : 0 + m ≤ maxLen := by unfold maxLen; omega
      have mx1 : m + 1 ≤ maxLen := by unfold maxLen; omega
      have mb : (0 + m) * 24 ≤ 140737488355328 := by omega
      have mb1 : (0 + m) * 8 ≤ 140737488355328 := by omega
      have mb2 : (m + 1) * 24 ≤ 140737488355328 := by omega
      have mb3 : (m + 1) * 8 ≤ 140737488355328 := by omega
      have bs : G ≤ (w3.alloc (.cells #[.slice (some ⟨gk, 0, none⟩) m ck, .slice (some ⟨gv, 0, none⟩) m cv] 28)).heap.size := by simp; omega
      clear hm hKs hVs fl fv o1 o2 hLe hL' hR3 hR4
      have OK1 : ∀ u ∈ [Value.int .i64 k.a, .int .i64 k.b, .int .i64 k.c], u.oneCell' = true := by simp [Value.oneCell']
      have OK2 : ∀ u ∈ [Value.int .i64 v], u.oneCell' = true := by simp [Value.oneCell']
      have OK1 := Lib.hid OK1
      have OK2 := Lib.hid OK2
      have hnext : (w3.alloc (.cells #[.slice (some ⟨gk, 0, none⟩) m ck, .slice (some ⟨gv, 0, none⟩) m cv] 28)).heap[w3.heap.size]? = some (.cells #[.slice (some ⟨gk, 0, none⟩) m ck, .slice (some ⟨gv, 0, none⟩) m cv] 28 (0, 0)) := heap_alloc_new w3 _
      have hK4 := (Below.heap_alloc w3 (.cells #[.slice (some ⟨gk, 0, none⟩) m ck, .slice (some ⟨gv, 0, none⟩) m cv] 28) _ (Array.getElem?_eq_some_iff.1 hK3).1).trans hK3
      have hS4 := (Below.heap_alloc w3 (.cells #[.slice (some ⟨gk, 0, none⟩) m ck, .slice (some ⟨gv, 0, none⟩) m cv] 28) _ (Array.getElem?_eq_some_iff.1 hS3).1).trans hS3
      have hb6 := hb5.alloc hsz3 (.cells #[.slice (some ⟨gk, 0, none⟩) m ck, .slice (some ⟨gv, 0, none⟩) m cv] 28)
      have HN := Lib.hid hnext
      have HK4 := Lib.hid hK4
      have HS4 := Lib.hid hS4
      clear hnext hK4 hS4 hB2 hS2 hK2 hS3 hK3 hR2
      go_wp2_with (first
        | (at_builtin; refine wpList_append_lies _ rfl (.tmp 29) (.tmp 31) 25 rfl G 29 i0 _ 3 24 Try.underlying25 hi0 hz0 hz1 hz2 rfl (by omega) (.slice none 0 0) 0 [] rfl (World.ownsRow_nil _ _ _ _) ⟨gk, 0, none⟩ m ck (flatK L') rfl FL.out (HKs.out.cells rfl) O1.out hpos mx mb bs _ rfl ?_
           intro ga ca wa howna hgrowa hata hlta
           rw [Nat.zero_add, List.nil_append] at howna
           have B1 := below_none hgrowa
           have HOA := Lib.hid howna
           have bsa := Nat.le_trans bs B1.size
           obtain ⟨x0, x1, _, _, x4⟩ := two_cells ((B1.block _ (by simp)).trans HN.out)
           clear hgrowa howna hata)
        | (at_builtin; refine wpList_append_lies _ rfl (.tmp 33) (.tmp 35) 26 rfl G 3 i1 _ 1 8 Try.underlying26 hi1 hy0 hy1 hy2 rfl (by omega) (.slice none 0 0) 0 [] rfl (World.ownsRow_nil _ _ _ _) ⟨gv, 0, none⟩ m cv (flatV L') rfl FV.out ((own_below HVs.out B1).cells rfl) O2.out hpos mx mb1 bsa _ rfl ?_
           intro gb cb wb hownb hgrowb hatb hltb
           rw [Nat.zero_add, List.nil_append] at hownb
           have B2 := below_none hgrowb
           have HOB := Lib.hid hownb
           have bsb := Nat.le_trans bsa B2.size
           have bsb1 : G ≤ (wb.alloc (.cells #[.int .i64 k.a, .int .i64 k.b, .int .i64 k.c] 29)).heap.size := by simp; omega
           have HK5 := Lib.hid ((B2.block _ (Nat.lt_of_lt_of_le (Array.getElem?_eq_some_iff.1 HK4.out).1 B1.size)).trans ((B1.block _ (Array.getElem?_eq_some_iff.1 HK4.out).1).trans HK4.out))
           have k0 := cell_of_row wb _ 0 _ _ _ HK5.out
           have k1 := cell_of_row wb _ 1 _ _ _ HK5.out
           have k2 := cell_of_row wb _ 2 _ _ _ HK5.out
           simp at k0 k1 k2
           have HS5 := Lib.hid ((B2.block _ (Nat.lt_of_lt_of_le (Array.getElem?_eq_some_iff.1 HS4.out).1 B1.size)).trans ((B1.block _ (Array.getElem?_eq_some_iff.1 HS4.out).1).trans HS4.out))
           have HOA2 := Lib.hid (own_below HOA.out B2)
           have BB : Below G w wb := (hb6.trans (B1.mono bs)).trans (B2.mono bsa)
           clear hgrowb hownb hatb x0 x1 x4)
        | (at_builtin; refine wpList_append_lies _ rfl (.tmp 37) (.tmp 39) 25 rfl G 29 i0 _ 3 24 Try.underlying25 hi0 hz0 hz1 hz2 rfl (by omega) (.slice (some ⟨ga, 0, none⟩) m ca) m (flatK L') rfl (HOA2.out.alloc _) ⟨wb.heap.size, 0, none⟩ 1 1 [.int .i64 k.a, .int .i64 k.b, .int .i64 k.c] rfl rfl (World.news_of_block (cs := #[.int .i64 k.a, .int .i64 k.b, .int .i64 k.c]) (t := 29) (fr := (0, 0)) (heap_alloc_new wb _)) OK1.out (by omega) mx1 mb2 bsb1 _ rfl ?_
           intro gc cc wc hownc hgrowc hatc hltc
           have HOC := Lib.hid hownc
           have HOB2 := Lib.hid (own1 HOB.out HOA2.out (by decide) hgrowc)
           have HS6 := Lib.hid (keep1 HS5.out HOA2.out (by decide) hgrowc)
           have B3 := Lib.hid ((BB.alloc bsb (.cells #[.int .i64 k.a, .int .i64 k.b, .int .i64 k.c] 29)).grown hgrowc bsb1 (fun q hq => (HOA2.out.lt q hq).1))
           have bsc := Nat.le_trans bsb1 hgrowc.size
           have bsc1 : G ≤ (wc.alloc (.cells #[.int .i64 v] 3)).heap.size := by simp; omega
           clear hownc hgrowc hatc)
        | (at_builtin; refine wpList_append_lies _ rfl (.tmp 41) (.tmp 43) 26 rfl G 3 i1 _ 1 8 Try.underlying26 hi1 hy0 hy1 hy2 rfl (by omega) (.slice (some ⟨gb, 0, none⟩) m cb) m (flatV L') rfl (HOB2.out.alloc _) ⟨wc.heap.size, 0, none⟩ 1 1 [.int .i64 v] rfl rfl (World.news_of_block (cs := #[.int .i64 v]) (t := 3) (fr := (0, 0)) (heap_alloc_new wc _)) OK2.out (by omega) mx1 mb3 bsc1 _ rfl ?_
           intro gd cd wd hownd hgrowd hatd hltd
           have HOD := Lib.hid hownd
           have HOC2 := Lib.hid (own1 HOC.out HOB2.out (by decide) hgrowd)
           have HS7 := Lib.hid (keep1 HS6.out HOB2.out (by decide) hgrowd)
           have B4 := Lib.hid ((B3.out.alloc bsc (.cells #[.int .i64 v] 3)).grown hgrowd bsc1 (fun q hq => (HOB2.out.lt q hq).1))
           obtain ⟨r0, r1, r2, r3, r4⟩ := two_cells HS7.out
           clear hownd hgrowd hatd))
      refine bodyPost_ret (v := .tuple #[.agg #[.slice (some ⟨gc, 0, none⟩) (m + 1) cc, .slice (some ⟨gd, 0, none⟩) (m + 1) cd], .int .i64 0]) (by simp [results, Try.results10, go_sem, r0, r1]) rfl ?_
      exact put_close HG.out (by rw [HL2.out, HM.out]) (by rw [HL2.out]; exact HOC2.out) (by rw [HL2.out]; exact HOD.out) HS7.out B4.out
end Go.Proofs.Ytldgdlndacocdaa
