/- For any list of calls: whatever is put, dropped and asked for, a table tells what the document's does: the law returns true. No condition. -/
import Derived.Test.YtldgdlndacocdaaHOpsArg
namespace Go.Proofs.Ytldgdlndacocdaa
open Go.ChangeShapes Go.WideShapes Go.ChangeAt Go.RowKit

theorem put_any {w : World} {t b : Nat} {f : Key → Option Int} {n : Nat} (h : Tab w t b f n) (k : Key) (v : Int) (hn : n < 1048576) :
    Calls Try.prog 11 #[.pointer (some ⟨t, 0, none⟩), keyV k, .int .i64 v] w (PutOut t b (fset f k (some v)) (if f k = none then n + 1 else n) w) := by
  cases hk : f k with
  | none => rw [if_pos rfl]; exact put_new h k v hk hn
  | some v0 => rw [if_neg (by simp)]; exact put_old h k v0 v hk

/-- A round's head. -/
def PlayRel (B : Nat) (W : World) (s gq len : Nat) (ix : Value) (wr : World) : Prop :=
  ∃ (i n : Nat) (f : Key → Option Int) (L : List (Key × Int)) (vK vV : Value), i ≤ len ∧ i ≤ 300 ∧ n ≤ i ∧ ix = .int .i64 i ∧ Match f L n ∧ PS B W s gq f n L vK vV wr

theorem len_quiet {w : World} {t b : Nat} {f : Key → Option Int} {n : Nat} (h : Tab w t b f n) (q : Nat) : Calls Try.prog 17 #[.pointer (some ⟨t, 0, none⟩)] (w.drewN q) fun e w' => e = .returned (.int .i64 n) ∧ ∃ m, w' = w.drewN m :=
  (len_any (h.keep (below_drewN (Below.refl _ _) q))).mono fun _ _ ⟨he, hw⟩ => ⟨he, q, hw.symm⟩

set_option maxRecDepth 100000 in
set_option maxHeartbeats 8000000 in
theorem plays_core (A : Option Addr) (os : List OpT) (c : Nat) (W : World) (B : Nat) (hB : W.heap.size = B) (hm : os.length ≤ 9223372036854775807) (hr : RdO B W A os) :
    Calls Try.prog 3 #[.slice A os.length c] W fun e w' => e = .returned (.bool true) ∧ Below W.heap.size W w' := by
  have HB := Lib.hid hB
  clear hB
  go_enter Try.func3, Try.ntmps3
  go_wp2_with fail
  refine (new_tab _).mono ?_
  rintro e w1 ⟨s, a, rfl, h1, hb1, hs, ha⟩
  have hz1 := hb1.size
  rw [HB.out] at hb1 hs ha hz1
  obtain ⟨gq, hgq⟩ : ∃ gq, w1.heap.size = gq := ⟨_, rfl⟩
  have ps : PS B W s gq (fun _ => none) 0 [] (.slice none 0 0) (.slice none 0 0) (w1.alloc (.cells #[.slice none 0 0, .slice none 0 0] 28)) := by
    have hb2 : Below w1.heap.size w1 (w1.alloc (.cells #[.slice none 0 0, .slice none 0 0] 28)) := (Below.refl _ _).alloc (Nat.le_refl _) _
    refine ⟨hb1.trans (hb2.mono hz1), Nat.le_trans hz1 hb2.size, hs, by omega, ⟨a, h1.keep hb2, ha⟩, ⟨World.ownsRow_nil _ _ _ _, World.ownsRow_nil _ _ _ _, by simp, by simp⟩, ?_⟩
    rw [← hgq]; exact heap_alloc_new w1 _
  go_wp2_with fail
  clear h1 hb1 hs ha hz1 hgq
  go_loopw [5] (PlayRel B W s gq os.length) (fun ix _ => os.length - (intOf ix).toNat)
  case atStart => exact ⟨0, 0, _, _, _, _, by omega, by omega, by omega, rfl, Match.nil, ps⟩
  case round =>
    clear ps
    obtain ⟨i, n, f, L, vK, vV, hi, hi3, hni, rfl, hmt, ps⟩ := hrel
    by_cases hlt : i < os.length ∧ i < 300
    · obtain ⟨hlt, hlt3⟩ := hlt
      obtain ⟨o, ho⟩ : ∃ o, os[i]? = some o := ⟨_, List.getElem?_eq_getElem hlt⟩
      rcases hr with h0 | ⟨kb, off, rfl, hkb, hc⟩
      · rw [h0] at hlt; simp at hlt
      · have cg : ∀ (o : Nat) (v : Value), W.cell? ⟨kb, o, none⟩ = some v → wr.cell? ⟨kb, o, none⟩ = some v := fun o v hv => (ps.bel.cell (p := ⟨kb, o, none⟩) hkb).trans hv
        obtain ⟨c0, c1, c2, c3, c4⟩ := hc i o ho
        have c0 := cg _ _ c0
        have c1 := cg _ _ c1
        have c2 := cg _ _ c2
        have c3 := cg _ _ c3
        have c4 := cg _ _ c4
        clear cg hc ho
        have hkw : kb < wr.heap.size := Nat.lt_of_lt_of_le hkb ps.sz
        obtain ⟨D, d, D2, d2, e1, e2⟩ := ps.rt.shape
        subst e1 e2
        obtain ⟨q0, q1, q2, q3, q4⟩ := two_cells ps.q
        obtain ⟨j, hpl, hpj⟩ := hmt.place o.key
        have hnL := hmt.count
        have HNL := Lib.hid hnL
        clear hnL
        by_cases k1 : o.kind = 1
        · rw [k1] at c0
          clear k1
          have T1 := Lib.hid ps
          clear ps
          go_wp2_with fail
          have ps := T1.out.keep ((Below.refl _ _).alloc (Nat.le_refl _) (.cells #[.int .i64 1, .int .i64 o.key.a, .int .i64 o.key.b, .int .i64 o.key.c, .int .i64 o.n] 31))
          have hbox := heap_alloc_new wr (.cells #[.int .i64 1, .int .i64 o.key.a, .int .i64 o.key.b, .int .i64 o.key.c, .int .i64 o.n] 31)
          revert ps hbox
          clear T1 c0 c1 c2 c3 c4 q0 q1 q2 q3 q4 hkw
          generalize wr.alloc (.cells #[.int .i64 1, .int .i64 o.key.a, .int .i64 o.key.b, .int .i64 o.key.c, .int .i64 o.n] 31) = w2
          generalize wr.heap.size = gx
          intro ps hbox
          refine (rput_any ps.rt hpl (by have := HNL.out; omega)).mono ?_
          rintro e w3 ⟨E1, E2, rfl, hR3, hb3⟩
          have hm' := hmt.put_any o.n hpj
          obtain ⟨L', hL'⟩ : ∃ L', L.eraseIdx j ++ [(o.key, o.n)] = L' := ⟨_, rfl⟩
          obtain ⟨n', hn'⟩ : ∃ n', (if f o.key = none then n + 1 else n) = n' := ⟨_, rfl⟩
          have hn1 : n' ≤ i + 1 := by rw [← hn']; split <;> omega
          have HNN := Lib.hid hn'
          rw [hL', hn'] at hm'
          rw [hL'] at hR3
          clear hL' hn'
          have HM := Lib.hid hm'
          clear hm'
          obtain ⟨F, g1, F2, g2, e1, e2⟩ := hR3.shape
          subst e1 e2
          have ps3 := Lib.hid (ps.keep hb3)
          have box3 := (hb3.block _ (Array.getElem?_eq_some_iff.1 hbox).1).trans hbox
          have HR3 := Lib.hid hR3
          have x0 := cell_of_row w3 _ 1 _ _ _ box3
          have x1 := cell_of_row w3 _ 2 _ _ _ box3
          have x2 := cell_of_row w3 _ 3 _ _ _ box3
          have x3 := cell_of_row w3 _ 4 _ _ _ box3
          have x4 := (Array.getElem?_eq_some_iff.1 box3).1
          simp at x0 x1 x2 x3
          clear ps hbox box3 hR3
          go_wp2_with fail
          have hbn : Below w3.heap.size w3 (w3.alloc (.cells #[.slice F L'.length g1, .slice F2 L'.length g2] 28)) := (Below.refl _ _).alloc (Nat.le_refl _) _
          have ps := ps3.out.keep hbn
          have hnext := heap_alloc_new w3 (.cells #[.slice F L'.length g1, .slice F2 L'.length g2] 28)
          have hR4 := HR3.out.below hbn
          revert ps hnext hR4
          clear ps3 HR3 x0 x1 x2 x3 x4 hbn hb3
          generalize w3.alloc (.cells #[.slice F L'.length g1, .slice F2 L'.length g2] 28) = w4
          generalize w3.heap.size = gy
          intro ps hnext hR4
          obtain ⟨b, hT, hbB⟩ := ps.tab
          refine (put_any hT o.key o.n (by omega)).mono ?_
          rintro e w5 ⟨rfl, b', hT', hbb, hmu⟩
          rw [HNN.out] at hT'
          have hb'B : B ≤ b' := by have := ps.sz; rcases hbb with rfl | hbb <;> omega
          have PF := Lib.hid (ps.turn hT hbB hR4 hT' hb'B hmu)
          obtain ⟨y0, y1, _, _, y4⟩ := two_cells (keepM hT hmu hnext (by decide) (by decide))
          obtain ⟨z0, z1, z2, z3, z4⟩ := two_cells (keepM hT hmu ps.q (by decide) (by decide))
          have hne : ((n' : Int) != (L'.length : Int)) = false := by rw [HM.out.count]; simp
          clear hnext hR4 hT' hbb hmu hT ps hbB hb'B
          go_wp2_with fail
          obtain ⟨b6, hT6, hb6⟩ := PF.out.tab
          go_quiet ((go_at_call 17; exact len_quiet hT6 _))
          go_wp2_with fail
          go_roundw
          case rel => exact ⟨i + 1, n', _, L', _, _, hlt, by omega, hn1, by go_num, HM.out, PF.out.keep (below_drewN (Below.refl _ _) _)⟩
          case measure => simp [intOf]; omega
        · by_cases k2 : o.kind = 2
          · rw [k2] at c0
            clear k1 k2
            have T1 := Lib.hid ps
            clear ps
            go_wp2_with fail
            have ps := T1.out.keep ((Below.refl _ _).alloc (Nat.le_refl _) (.cells #[.int .i64 2, .int .i64 o.key.a, .int .i64 o.key.b, .int .i64 o.key.c, .int .i64 o.n] 31))
            have hbox := heap_alloc_new wr (.cells #[.int .i64 2, .int .i64 o.key.a, .int .i64 o.key.b, .int .i64 o.key.c, .int .i64 o.n] 31)
            revert ps hbox
            clear T1 c0 c1 c2 c3 c4 q0 q1 q2 q3 q4 hkw
            generalize wr.alloc (.cells #[.int .i64 2, .int .i64 o.key.a, .int .i64 o.key.b, .int .i64 o.key.c, .int .i64 o.n] 31) = w2
            generalize wr.heap.size = gx
            intro ps hbox
            have x0 := cell_of_row w2 _ 1 _ _ _ hbox
            have x1 := cell_of_row w2 _ 2 _ _ _ hbox
            have x2 := cell_of_row w2 _ 3 _ _ _ hbox
            have x3 := cell_of_row w2 _ 4 _ _ _ hbox
            have x4 := (Array.getElem?_eq_some_iff.1 hbox).1
            simp at x0 x1 x2 x3
            obtain ⟨b, hT, hbB⟩ := ps.tab
            have hne : ((n : Int) != (L.length : Int)) = false := by rw [HNL.out]; simp
            rcases hpj with ⟨hk, hj⟩ | ⟨v, hk, hj⟩
            · have H1 := Lib.hid (get_none hT o.key hk)
              subst hj
              have PS2 := Lib.hid ps
              have HX := Lib.hid hbox
              clear hk hT ps hbox
              go_wp2_with fail
              refine H1.out.mono ?_
              rintro e w3 ⟨rfl, hb3⟩
              have ps := PS2.out.keep hb3
              have box3 := (hb3.block _ (Array.getElem?_eq_some_iff.1 HX.out).1).trans HX.out
              clear x0 x1 x2 x3 x4
              obtain ⟨q0, q1, q2, q3, q4⟩ := two_cells ps.q
              have x0 := cell_of_row w3 _ 1 _ _ _ box3
              have x1 := cell_of_row w3 _ 2 _ _ _ box3
              have x2 := cell_of_row w3 _ 3 _ _ _ box3
              have x3 := cell_of_row w3 _ 4 _ _ _ box3
              have x4 := (Array.getElem?_eq_some_iff.1 box3).1
              simp at x0 x1 x2 x3
              have H2 := Lib.hid (rget_none ps.rt hpl (by have := HNL.out; omega))
              have PS3 := Lib.hid ps
              clear ps box3
              go_wp2_with fail
              refine H2.out.mono ?_
              rintro e w4 ⟨rfl, hb4⟩
              have PF := Lib.hid (PS3.out.keep hb4)
              clear q0 q1 q2 q3 q4
              obtain ⟨q0, q1, q2, q3, q4⟩ := two_cells PF.out.q
              go_wp2_with fail
              obtain ⟨b6, hT6, hb6⟩ := PF.out.tab
              go_quiet ((go_at_call 17; exact len_quiet hT6 _))
              go_wp2_with fail
              go_roundw
              case rel => exact ⟨i + 1, n, _, L, _, _, hlt, by omega, by omega, by go_num, hmt, PF.out.keep (below_drewN (Below.refl _ _) _)⟩
              case measure => simp [intOf]; omega
            · have H1 := Lib.hid (get_some hT o.key v hk)
              have PS2 := Lib.hid ps
              have HX := Lib.hid hbox
              have HJ := Lib.hid hj
              have hvv : (v != v) = false := by simp
              clear hk hT ps hbox hj
              go_wp2_with fail
              refine H1.out.mono ?_
              rintro e w3 ⟨rfl, hb3⟩
              have ps := PS2.out.keep hb3
              have box3 := (hb3.block _ (Array.getElem?_eq_some_iff.1 HX.out).1).trans HX.out
              clear x0 x1 x2 x3 x4
              obtain ⟨q0, q1, q2, q3, q4⟩ := two_cells ps.q
              have x0 := cell_of_row w3 _ 1 _ _ _ box3
              have x1 := cell_of_row w3 _ 2 _ _ _ box3
              have x2 := cell_of_row w3 _ 3 _ _ _ box3
              have x3 := cell_of_row w3 _ 4 _ _ _ box3
              have x4 := (Array.getElem?_eq_some_iff.1 box3).1
              simp at x0 x1 x2 x3
              have H2 := Lib.hid (rget_some ps.rt hpl HJ.out (by have := HNL.out; omega))
              have PS3 := Lib.hid ps
              clear ps box3
              go_wp2_with fail
              refine H2.out.mono ?_
              rintro e w4 ⟨rfl, hb4⟩
              have PF := Lib.hid (PS3.out.keep hb4)
              clear q0 q1 q2 q3 q4
              obtain ⟨q0, q1, q2, q3, q4⟩ := two_cells PF.out.q
              go_wp2_with fail
              obtain ⟨b6, hT6, hb6⟩ := PF.out.tab
              go_quiet ((go_at_call 17; exact len_quiet hT6 _))
              go_wp2_with fail
              go_roundw
              case rel => exact ⟨i + 1, n, _, L, _, _, hlt, by omega, by omega, by go_num, hmt, PF.out.keep (below_drewN (Below.refl _ _) _)⟩
              case measure => simp [intOf]; omega
          · by_cases k3 : o.kind = 3
            · rw [k3] at c0
              clear k1 k2 k3
              have T1 := Lib.hid ps
              clear ps
              go_wp2_with fail
              have ps := T1.out.keep ((Below.refl _ _).alloc (Nat.le_refl _) (.cells #[.int .i64 3, .int .i64 o.key.a, .int .i64 o.key.b, .int .i64 o.key.c, .int .i64 o.n] 31))
              have hbox := heap_alloc_new wr (.cells #[.int .i64 3, .int .i64 o.key.a, .int .i64 o.key.b, .int .i64 o.key.c, .int .i64 o.n] 31)
              revert ps hbox
              clear T1 c0 c1 c2 c3 c4 q0 q1 q2 q3 q4 hkw
              generalize wr.alloc (.cells #[.int .i64 3, .int .i64 o.key.a, .int .i64 o.key.b, .int .i64 o.key.c, .int .i64 o.n] 31) = w2
              generalize wr.heap.size = gx
              intro ps hbox
              refine (rdrop_any ps.rt hpl (by have := HNL.out; omega)).mono ?_
              rintro e w3 ⟨E1, E2, rfl, hR3, hb3⟩
              obtain ⟨L', hL'⟩ : ∃ L', L.eraseIdx j = L' := ⟨_, rfl⟩
              rcases hpj with ⟨hk, hj⟩ | ⟨v, hk, hj⟩
              · have hm' := hmt.none_drop hj
                rw [decide_eq_false (by omega : ¬ j < L.length)]
                rw [hL'] at hm' hR3
                clear hL' hj
                have HM := Lib.hid hm'
                have HK := Lib.hid hk
                clear hm' hk
                obtain ⟨F, g1, F2, g2, e1, e2⟩ := hR3.shape
                subst e1 e2
                have ps3 := Lib.hid (ps.keep hb3)
                have box3 := (hb3.block _ (Array.getElem?_eq_some_iff.1 hbox).1).trans hbox
                have HR3 := Lib.hid hR3
                have x0 := cell_of_row w3 _ 1 _ _ _ box3
                have x1 := cell_of_row w3 _ 2 _ _ _ box3
                have x2 := cell_of_row w3 _ 3 _ _ _ box3
                have x3 := cell_of_row w3 _ 4 _ _ _ box3
                have x4 := (Array.getElem?_eq_some_iff.1 box3).1
                simp at x0 x1 x2 x3
                clear ps hbox box3 hR3
                go_wp2_with fail
                have hbn : Below w3.heap.size w3 (w3.alloc (.cells #[.slice F L'.length g1, .slice F2 L'.length g2] 28)) := (Below.refl _ _).alloc (Nat.le_refl _) _
                have ps := ps3.out.keep hbn
                have hnext := heap_alloc_new w3 (.cells #[.slice F L'.length g1, .slice F2 L'.length g2] 28)
                have hR4 := HR3.out.below hbn
                revert ps hnext hR4
                clear ps3 HR3 x0 x1 x2 x3 x4 hbn hb3
                generalize w3.alloc (.cells #[.slice F L'.length g1, .slice F2 L'.length g2] 28) = w4
                generalize w3.heap.size = gy
                intro ps hnext hR4
                obtain ⟨b, hT, hbB⟩ := ps.tab
                refine (drop_none hT o.key HK.out).mono ?_
                rintro e w5 ⟨rfl, hb5⟩
                have PF := Lib.hid ((ps.turn hT hbB hR4 (hT.keep hb5) hbB ((Mut.refl s b w4).below hb5)))
                obtain ⟨y0, y1, _, _, y4⟩ := two_cells ((hb5.block _ (Array.getElem?_eq_some_iff.1 hnext).1).trans hnext)
                obtain ⟨z0, z1, z2, z3, z4⟩ := two_cells ((hb5.block _ (Array.getElem?_eq_some_iff.1 ps.q).1).trans ps.q)
                have hne : ((n : Int) != (L'.length : Int)) = false := by rw [HM.out.count]; simp
                clear hnext hR4 hT ps hbB
                go_wp2_with fail
                obtain ⟨b6, hT6, hb6⟩ := PF.out.tab
                go_quiet ((go_at_call 17; exact len_quiet hT6 _))
                go_wp2_with fail
                go_roundw
                case rel => exact ⟨i + 1, n, _, L', _, _, hlt, by omega, by omega, by go_num, HM.out, PF.out.keep (below_drewN (Below.refl _ _) _)⟩
                case measure => simp [intOf]; omega
              · have hm' := hmt.some_drop hj
                have hjl : j < L.length := (List.getElem?_eq_some_iff.1 hj).1
                rw [decide_eq_true hjl]
                rw [hL'] at hm' hR3
                clear hL' hj hjl
                have HM := Lib.hid hm'
                have HK := Lib.hid hk
                clear hm' hk
                obtain ⟨F, g1, F2, g2, e1, e2⟩ := hR3.shape
                subst e1 e2
                have ps3 := Lib.hid (ps.keep hb3)
                have box3 := (hb3.block _ (Array.getElem?_eq_some_iff.1 hbox).1).trans hbox
                have HR3 := Lib.hid hR3
                have x0 := cell_of_row w3 _ 1 _ _ _ box3
                have x1 := cell_of_row w3 _ 2 _ _ _ box3
                have x2 := cell_of_row w3 _ 3 _ _ _ box3
                have x3 := cell_of_row w3 _ 4 _ _ _ box3
                have x4 := (Array.getElem?_eq_some_iff.1 box3).1
                simp at x0 x1 x2 x3
                clear ps hbox box3 hR3
                go_wp2_with fail
                have hbn : Below w3.heap.size w3 (w3.alloc (.cells #[.slice F L'.length g1, .slice F2 L'.length g2] 28)) := (Below.refl _ _).alloc (Nat.le_refl _) _
                have ps := ps3.out.keep hbn
                have hnext := heap_alloc_new w3 (.cells #[.slice F L'.length g1, .slice F2 L'.length g2] 28)
                have hR4 := HR3.out.below hbn
                revert ps hnext hR4
                clear ps3 HR3 x0 x1 x2 x3 x4 hbn hb3
                generalize w3.alloc (.cells #[.slice F L'.length g1, .slice F2 L'.length g2] 28) = w4
                generalize w3.heap.size = gy
                intro ps hnext hR4
                obtain ⟨b, hT, hbB⟩ := ps.tab
                refine (drop_some hT o.key v HK.out).mono ?_
                rintro e w5 ⟨rfl, hT', hmu⟩
                have PF := Lib.hid (ps.turn hT hbB hR4 hT' hbB hmu)
                obtain ⟨y0, y1, _, _, y4⟩ := two_cells (keepM hT hmu hnext (by decide) (by decide))
                obtain ⟨z0, z1, z2, z3, z4⟩ := two_cells (keepM hT hmu ps.q (by decide) (by decide))
                obtain ⟨n', hn'⟩ : ∃ n', n - 1 = n' := ⟨_, rfl⟩
                have hm2 := HM.out
                rw [hn'] at PF hm2
                have hn1 : n' ≤ i := by omega
                have HM := Lib.hid hm2
                have hne : ((n' : Int) != (L'.length : Int)) = false := by rw [hm2.count]; simp
                clear hnext hR4 hT' hmu hT ps hbB hm2 hn'
                go_wp2_with fail
                obtain ⟨b6, hT6, hb6⟩ := PF.out.tab
                go_quiet ((go_at_call 17; exact len_quiet hT6 _))
                go_wp2_with fail
                go_roundw
                case rel => exact ⟨i + 1, n', _, L', _, _, hlt, by omega, by omega, by go_num, HM.out, PF.out.keep (below_drewN (Below.refl _ _) _)⟩
                case measure => simp [intOf]; omega
            · have g1 : (o.kind == 1) = false := by simp; exact k1
              have g2 : (o.kind == 2) = false := by simp; exact k2
              have g3 : (o.kind == 3) = false := by simp; exact k3
              clear k1 k2 k3
              have T1 := Lib.hid ps
              clear ps
              go_wp2_with fail
              have ps := T1.out.keep ((Below.refl _ _).alloc (Nat.le_refl _) (.cells #[.int .i64 o.kind, .int .i64 o.key.a, .int .i64 o.key.b, .int .i64 o.key.c, .int .i64 o.n] 31))
              have hbox := heap_alloc_new wr (.cells #[.int .i64 o.kind, .int .i64 o.key.a, .int .i64 o.key.b, .int .i64 o.key.c, .int .i64 o.n] 31)
              revert ps hbox
              clear T1 c0 c1 c2 c3 c4 q0 q1 q2 q3 q4 hkw
              generalize wr.alloc (.cells #[.int .i64 o.kind, .int .i64 o.key.a, .int .i64 o.key.b, .int .i64 o.key.c, .int .i64 o.n] 31) = w2
              generalize wr.heap.size = gx
              intro ps hbox
              obtain ⟨b, hT, hbB⟩ := ps.tab
              refine (clear_any hT).mono ?_
              rintro e w5 ⟨rfl, b', hT', hbb, hmu⟩
              have hb'B : B ≤ b' := Nat.le_trans ps.sz hbb
              have PF := Lib.hid (ps.turn hT hbB ⟨World.ownsRow_nil _ _ _ _, World.ownsRow_nil _ _ _ _, by simp, by simp⟩ hT' hb'B hmu (L' := []) (u0 := .slice none 0 0) (u1 := .slice none 0 0))
              obtain ⟨z0, z1, z2, z3, z4⟩ := two_cells (keepM hT hmu ps.q (by decide) (by decide))
              clear hT' hbb hmu hT ps hbB hb'B hbox
              go_wp2_with fail
              obtain ⟨b6, hT6, hb6⟩ := PF.out.tab
              go_quiet ((go_at_call 17; exact len_quiet hT6 _))
              go_wp2_with fail
              go_roundw
              case rel => exact ⟨i + 1, 0, _, [], _, _, hlt, by omega, by omega, by go_num, Match.nil, PF.out.keep (below_drewN (Below.refl _ _) _)⟩
              case measure => simp [intOf]; omega
    · have hend : ¬ (i < os.length) ∨ (i < os.length ∧ ¬ (i < 300)) := by omega
      have ps0 := ps
      clear ps
      rcases hend with hend | ⟨hend, hend2⟩
      all_goals
        clear hlt
        go_wp2_with fail
        refine (awake_any _).mono ?_
        rintro e w2 ⟨rfl, hb2⟩
        go_wp2_with fail
        go_ret
        exact ⟨rfl, by rw [HB.out]; exact ps0.bel.trans (hb2.mono ps0.sz)⟩

theorem hashPlays_walk (v : Value) (W : World) (h : ∃ (A : Option Addr) (os : List OpT) (c : Nat), v = .slice A os.length c ∧ os.length ≤ 9223372036854775807 ∧ RdO W.heap.size W A os) :
    Calls Try.prog 3 #[v] W fun e w' => e = .returned (.bool true) ∧ Below W.heap.size W w' := by
  obtain ⟨A, os, c, rfl, hm, hr⟩ := h
  exact plays_core A os c W _ rfl hm hr

namespace hashPlays
set_option linter.unusedVariables false
theorem own : ownKnob Try.prog.godebug = none := by kernel_rfl
theorem laidOut : laidOutB Try.prog = true := by kernel_rfl
set_option maxRecDepth 100000 in
theorem lifted (os : Os) (started : os.Started) (H : Type) (enc : TypeId × Value → H) :
    ReturnsInHanded {} Try.checked os 3 .any (Rows.hashPlaysSpec.pre6 enc Try.prog Try.f3 Rows.hashPlaysRow.domain false) (Rows.hashPlaysSpec.post enc Try.prog Try.f3 false true false false) := by
  refine returnsInHanded_of_change (C := Try.checked) own started (by kernel_rfl) Try.func3
    (ChangeSpec.witness6 (enc := enc) (C := Try.checked) false ⟨#[], #[.slice none 0 0], []⟩ 8 (by kernel_rfl) (by kernel_rfl) (by kernel_rfl) (by kernel_rfl)) ?_
  intro W base args ds gs before hval0 hW hcnd hsz
  have hval : ∀ (j : Nat) t v, Try.f3.params[j]? = some t → args[j]? = some v → Value.okWide Try.prog W .any base t v := hval0
  have hW' := hW
  obtain ⟨p, q, hA0, hV, rfl, hfz, hnd⟩ := hW
  have hA : DataW.TrodAll enc Try.prog W 0 (fun _ => true) true Try.f3.params.toList args.toList ds p := hA0
  rw [Try.params3] at hA hval
  obtain ⟨v0, vs0, d0, ds0, p0, q0, hargs, rfl, rfl, h0, r0⟩ := trodAll_cons hA
  obtain ⟨rfl, rfl, rfl⟩ := trodAll_nil r0
  obtain rfl : args = #[v0] := by cases args; simp_all
  obtain ⟨rfl, rfl⟩ := trodVars_none hV
  have k0 := h0
  have lt0 : ∀ x ∈ p0, x.block < W.heap.size := by obtain ⟨m, hm⟩ := k0; exact DataW.trod_lt m _ _ _ hm
  clear hA0 hval0
  refine (hashPlays_walk v0 W (arg_ops h0 (hval 0 22 v0 rfl rfl))).mono fun e W' ⟨he, bel⟩ => ?_
  subst he
  exact ⟨_, rfl, _, _, _, [], _, [], hW', trodAll_mk1 (shut_bool Try.underlying4 _), (trodAll_cons_mk (Below.trod laidOut (by kernel_rfl) (of_decide_eq_true (by kernel_rfl)) k0 bel lt0) trodAll_mk0), rfl, bel.frame _, fun h => by cases h⟩
theorem over : Rows.hashPlaysRow.holds Try.pinned (OpenSpec.ofChange Rows.hashPlaysSpec) :=
  OpenClaim.holds_of_wide 3 Try.f3 rfl rfl rfl rfl rfl rfl rfl ⟨rfl, rfl, rfl, rfl, rfl⟩ rfl rfl rfl rfl rfl (by kernel_rfl) Try.func3 (by kernel_rfl)
    (of_decide_eq_true (by kernel_rfl)) (by unfold Func.isWrapper; first | (rw [if_pos (by decide +kernel)]; kernel_rfl) | (rw [if_neg (by decide +kernel)]; exact ⟨rfl, rfl⟩))
    (fun os started H enc _ => lifted os started H enc)
/-- THE STATEMENT. -/
theorem proved : Rows.HashPlaysSaid := over
end hashPlays
#print axioms hashPlays.proved
end Go.Proofs.Ytldgdlndacocdaa
