/- For any two numbers: a node says what its low, or its high says, as its variable is; the sizes of two nodes of which the one was made of the other one differ by what is new: the law returns true. No condition. -/
import Derived.Test.YtmfghmnnacagbaaNBits
namespace Go.Proofs.Ytmfghmnnacagbaa
open Go.ChangeShapes Go.WideShapes Go.ChangeAt Go.RowKit

theorem mem_allOf {V : Nat} {cs : List Nd} (g : NGood V cs) {k : Nat} {c : Nd} (h : Is cs k c) (x : Nat) : x ∈ allOf V cs k ↔ Reach cs k x := by
  rw [(allOf_spec g h).mem]; simp

/-- Sizes of a node, its low and its high. -/
theorem size_split {V : Nat} {cs : List Nd} (g : NGood V cs) {k : Nat} {c l r : Nd} (hk : 2 ≤ k) (h : Is cs k c) (hl : Is cs c.low l) (hr : Is cs c.high r) (hl2 : c.asks < l.asks) (hr2 : c.asks < r.asks) :
    (allOf V cs k).length ≤ (allOf V cs c.low).length + (allOf V cs c.high).length + 1 ∧ (allOf V cs c.low).length < (allOf V cs k).length ∧ (allOf V cs c.high).length < (allOf V cs k).length := by
  have nk := (allOf_spec g h).nodup List.nodup_nil
  have nl := (allOf_spec g hl).nodup List.nodup_nil
  have nr := (allOf_spec g hr).nodup List.nodup_nil
  have mk := mem_allOf g h
  have ml := mem_allOf g hl
  have mr := mem_allOf g hr
  refine ⟨?_, ?_, ?_⟩
  · have := sub_length (allOf V cs k) (k :: (allOf V cs c.low ++ allOf V cs c.high)) nk (by
      intro x hx
      rw [mk] at hx
      rw [List.mem_cons, List.mem_append, ml, mr]
      cases hx with
      | here => exact .inl rfl
      | low _ hd hx => obtain rfl := h.same hd; exact .inr (.inl hx)
      | high _ hd hx => obtain rfl := h.same hd; exact .inr (.inr hx))
    simp at this; omega
  · have := sub_length (k :: allOf V cs c.low) (allOf V cs k) (List.nodup_cons.2 ⟨fun hx => by
      rw [ml] at hx
      have := mark_spec.reach_asks g hx l hl c h
      omega, nl⟩) (by
      intro x hx
      rw [mk]
      rcases List.mem_cons.1 hx with rfl | hx
      · exact .here _
      · exact .low hk h ((ml x).1 hx))
    simp at this; omega
  · have := sub_length (k :: allOf V cs c.high) (allOf V cs k) (List.nodup_cons.2 ⟨fun hx => by
      rw [mr] at hx
      have := mark_spec.reach_asks g hx r hr c h
      omega, nr⟩) (by
      intro x hx
      rw [mk]
      rcases List.mem_cons.1 hx with rfl | hx
      · exact .here _
      · exact .high hk h ((mr x).1 hx))
    simp at this; omega

/-- A block of bools. -/
def Blk (w : World) (g : Nat) (l : List Bool) : Prop := w.heap[g]? = some (.cells (l.map Value.bool).toArray 4 (0, 0))

theorem Blk.lt {w : World} {g : Nat} {l : List Bool} (h : Blk w g l) : g < w.heap.size := by
  rcases Nat.lt_or_ge g w.heap.size with h1 | h1
  · exact h1
  · unfold Blk at h; rw [Array.getElem?_eq_none h1] at h; cases h
theorem Blk.rd {w : World} {g : Nat} {l : List Bool} (h : Blk w g l) : Rd w (some ⟨g, 0, none⟩) (l.map Value.bool) :=
  .inr ⟨g, 0, rfl, h.lt, fun j u hu => by rw [cell_of_row w g (0 + j) _ _ _ h, Nat.zero_add, List.getElem?_toArray]; exact hu⟩
theorem Blk.keep {w w' : World} {g : Nat} {l : List Bool} (h : Blk w g l) (hb : Below w.heap.size w w') : Blk w' g l := (hb.block g h.lt).trans h
theorem Blk.set {w : World} {g : Nat} {l : List Bool} (h : Blk w g l) (i : Nat) (x : Bool) : Blk (w.setCell ⟨g, i, none⟩ (.bool x)) g (l.set i x) := by
  unfold Blk
  rw [heap_setCell_same w g i _ _ _ h, List.setIfInBounds_toArray, List.map_set]
theorem Blk.cell {w : World} {g : Nat} {l : List Bool} (h : Blk w g l) {i : Nat} (hi : i < l.length) : w.cell? ⟨g, i, none⟩ = some (.bool l[i]) := by
  rw [cell_of_row w g i _ _ _ h, List.getElem?_toArray, List.getElem?_map, List.getElem?_eq_getElem hi]; rfl
theorem Blk.some {w : World} {g : Nat} {l : List Bool} (h : Blk w g l) {i : Nat} (hi : i < l.length) : ∃ b, w.cell? ⟨g, i, none⟩ = some (.bool b) := ⟨_, h.cell hi⟩
theorem Blk.free {w : World} {g : Nat} {l : List Bool} (h : Blk w g l) (i : Nat) : w.frozen? ⟨g, i, none⟩ = false := frozen_of_row w g i _ _ h

theorem valOf_set (l : List Bool) (i : Nat) (x : Bool) (hi : i < l.length) : valOf (l.set i x) i = x := by
  unfold valOf; simp [hi]

/-- What is known of the world. -/
structure SplW (m : Mem) (h : Hd) (cs : List Nd) (s : Nat) (W w : World) : Prop where
  st : St w m h cs
  V : h.V = 4
  below : Below W.heap.size W w
  s : m.s = s

theorem SplW.keep {m : Mem} {h : Hd} {cs : List Nd} {s : Nat} {W w w' : World} (o : SplW m h cs s W w) (hb : Below w.heap.size w w') : SplW m h cs s W w' :=
  ⟨o.st.keep hb, o.V, o.below.trans (hb.mono o.below.size), o.s⟩

/-- Its own block of bools is written: the store stays. -/
theorem SplW.set {m : Mem} {h : Hd} {cs : List Nd} {s : Nat} {W w : World} (o : SplW m h cs s W w) {g : Nat} (hg : W.heap.size ≤ g) (hn : ¬ m.own g) (i : Nat) (x : Value) : SplW m h cs s W (w.setCell ⟨g, i, none⟩ x) :=
  ⟨o.st.apart (own := fun j => j = g) ((Turn.refl (fun j => j = g) w).setCell (p := ⟨g, i, none⟩) (.inl rfl) x) (fun _ hj e => hn (e ▸ hj)), o.V, o.below.setCell hg _, o.s⟩

theorem eval_spl {w : World} {m : Mem} {h : Hd} {cs : List Nd} {s : Nat} {W : World} (o : SplW m h cs s W w) {k g : Nat} {c : Nd} (hk : Is cs k c) {l : List Bool} (hl : l.length = 4) (hb : Blk w g l) :
    Calls Try.prog 20 #[.pointer (some ⟨s, 0, none⟩), .int .i64 (k : Int), .slice (some ⟨g, 0, none⟩) 4 4] w fun e w' => e = .returned (.tuple #[.bool (Says 4 cs (valOf l) k), .int .i64 0]) ∧ w = w' := by
  have := eval_yes o.st hk (cap := 4) hb.rd (by omega)
  rw [hl, o.V] at this
  unfold ptrV at this
  rw [o.s] at this
  exact this

theorem size_spl {w : World} {m : Mem} {h : Hd} {cs : List Nd} {s : Nat} {W : World} (o : SplW m h cs s W w) {k : Nat} {c : Nd} (hk : Is cs k c) {z : Int} (hz : ((allOf 4 cs k).length : Int) = z) :
    Calls Try.prog 23 #[.pointer (some ⟨s, 0, none⟩), .int .i64 (k : Int)] w fun e w' => e = .returned (.tuple #[.int .i64 z, .int .i64 0]) ∧ Below w.heap.size w w' := by
  have := size_yes o.st hk
  rw [o.V, hz] at this
  unfold ptrV at this
  rw [o.s] at this
  exact this

def SplRel (m : Mem) (h : Hd) (cs : List Nd) (s : Nat) (W : World) (kv : Value) (wr : World) : Prop := ∃ k c, Is cs k c ∧ kv = .int .i64 (k : Nat) ∧ SplW m h cs s W wr

set_option maxHeartbeats 8000000 in
set_option maxRecDepth 100000 in
theorem nodeSplits_walk (x y : Int) (W : World) (_ : (Lit.int .i64 x).wf = true) (_ : (Lit.int .i64 y).wf = true) :
    Calls Try.prog 8 #[.int .i64 x, .int .i64 y] W fun e w' => e = .returned (.bool true) ∧ Below W.heap.size W w' := by
  go_enter Try.func8, Try.ntmps8
  go_wp2_with fail
  refine (newst_yes 4 200 (by omega) (by omega) (by omega) _).mono ?_
  rintro e w1 ⟨m0, rfl, s1, hb1, ho1⟩
  have S1 := Lib.hid s1
  have B1 := Lib.hid hb1
  have O1 := Lib.hid ho1
  obtain ⟨s, hs⟩ : ∃ s, m0.s = s := ⟨_, rfl⟩
  have HS := Lib.hid hs
  clear s1 hb1 ho1
  unfold ptrV
  rw [hs]
  clear hs
  go_wp2_with fail
  refine (bits_any x _).mono ?_
  rintro e w2 ⟨gx, capx, rfl, rx, hgx, hgx2, hb2⟩
  have T2 := table_any (cap := capx) (S1.out.keep hb2) rfl (by rw [first_cnt]; show 2 + 16 ≤ 200 + 1; omega) (bitsL_length x 16) rx hgx2 (fun h => by have := S1.out.own_lt gx h; omega)
  unfold ptrV at T2
  rw [HS.out] at T2
  have T2 := Lib.hid T2
  have B2 := Lib.hid (B1.out.trans (hb2.mono B1.out.size))
  clear rx hgx hgx2 hb2
  go_wp2_with fail
  refine T2.out.mono ?_
  rintro e w3 ⟨k, m, h, cs, ck, rfl, s3, _, ik, _, _, v3, _, _, _, n3⟩
  have hbo := n3.to_below B2.out O1.out B2.out.size
  have V3 : h.V = 4 := v3
  have R0 : Hid (SplRel m h cs s W (.int .i64 (k : Int)) w3) := ⟨k, ck, ik, rfl, s3, V3, hbo.1, n3.s.trans HS.out⟩
  have OWN := Lib.hid hbo.2
  have G : Hid (NGood 4 cs) := by have := s3.good; rw [V3] at this; exact this
  clear s3 ik v3 n3 hbo V3
  go_wp2_with fail
  go_loopw [7] (fun kv wr => SplRel m h cs s W kv wr) (fun kv _ => rkOf 4 cs (intOf kv).toNat)
  case atStart => exact R0.out
  case round =>
    clear R0
    obtain ⟨k, c, hc, rfl, ho⟩ := hrel
    have HO := Lib.hid ho
    have HC := Lib.hid hc
    by_cases hk : 2 ≤ k
    · have ok := G.out.ok k c hk hc
      obtain ⟨l, hl, hl2⟩ := G.out.lo k c hk hc
      obtain ⟨r, hr, hr2⟩ := G.out.hi k c hk hc
      obtain ⟨a, ha⟩ : ∃ a : Nat, c.asks = a := ⟨c.asks.toNat, by omega⟩
      have a4 : a < 4 := by omega
      have HA := Lib.hid ha
      have HL := Lib.hid hl
      have HR := Lib.hid hr
      have NK := node_yes ho.st.lay hc
      unfold ptrV at NK
      rw [ho.s, ha] at NK
      have NK := Lib.hid NK
      have SZ := size_split G.out hk hc hl hr hl2 hr2
      have hne : ((c.low : Int) == (c.high : Int)) = false := by have := ok.2.2; simp; omega
      have hk2 : ¬ (k : Int) ≤ 1 := by omega
      have RKL : Hid (rkOf 4 cs (intOf (.int .i64 (c.low : Int))).toNat < rkOf 4 cs (intOf (.int .i64 (k : Int))).toNat) := by
        show rkOf 4 cs ((c.low : Int)).toNat < rkOf 4 cs ((k : Int)).toNat
        rw [Int.toNat_natCast, Int.toNat_natCast, rkOf_is hl, rkOf_is hc]; unfold rk; omega
      have RKH : Hid (rkOf 4 cs (intOf (.int .i64 (c.high : Int))).toNat < rkOf 4 cs (intOf (.int .i64 (k : Int))).toNat) := by
        show rkOf 4 cs ((c.high : Int)).toNat < rkOf 4 cs ((k : Int)).toNat
        rw [Int.toNat_natCast, Int.toNat_natCast, rkOf_is hr, rkOf_is hc]; unfold rk; omega
      obtain ⟨zk, hzk⟩ : ∃ z : Int, ((allOf 4 cs k).length : Int) = z := ⟨_, rfl⟩
      obtain ⟨zl, hzl⟩ : ∃ z : Int, ((allOf 4 cs c.low).length : Int) = z := ⟨_, rfl⟩
      obtain ⟨zh, hzh⟩ : ∃ z : Int, ((allOf 4 cs c.high).length : Int) = z := ⟨_, rfl⟩
      have f1 : zk ≤ zl + zh + 1 := by omega
      have f2 : zl < zk := by omega
      have f3 : zh < zk := by omega
      have f4 : 0 ≤ zl := by omega
      have f5 : 0 ≤ zh := by omega
      have f6 : zk ≤ 1048576 := by
        have h1 := (allOf_spec G.out hc).nodes (fun x hx => by cases hx)
        have h2 := sub_length (allOf 4 cs k) (List.range cs.length) ((allOf_spec G.out hc).nodup List.nodup_nil) (fun x hx => by obtain ⟨d, hd⟩ := h1 x hx; exact List.mem_range.2 hd.lt)
        rw [List.length_range] at h2
        have h3 := ho.st.lay.len
        omega
      have ZK := Lib.hid hzk
      have ZL := Lib.hid hzl
      have ZH := Lib.hid hzh
      have HK := Lib.hid hk
      clear ho hc ok hl hl2 hr hr2 ha SZ hzk hzl hzh hk
      go_wp2_with fail
      refine NK.out.mono ?_
      rintro e w4 ⟨rfl, q, rfl⟩
      have W4 := Lib.hid (HO.out.keep (below_drewN0 wr q))
      go_wp2_with fail
      refine (vals_any y _).mono ?_
      rintro e w5 ⟨g, rfl, hg, hgs, hb5⟩
      have W5 := W4.out.keep hb5
      have K5 : Blk w5 g (valsZ y) := hg
      have NG : Hid (¬ m.own g) := fun h => by have := W4.out.st.own_lt g h; omega
      have GS : Hid (W.heap.size ≤ g) := Nat.le_trans W4.out.below.size hgs
      have LV : (valsZ y).length = 4 := rfl
      obtain ⟨vs, hvs⟩ : ∃ vs, valsZ y = vs := ⟨_, rfl⟩
      rw [hvs] at K5 LV
      obtain ⟨b5, cl⟩ := K5.some (i := a) (by omega)
      have fl := K5.free a
      have W6 := Lib.hid (W5.set GS.out NG.out a (.bool false))
      have K6 := Lib.hid (K5.set a false)
      have L6 : Hid ((vs.set a false).length = 4) := by show _ = _; simpa using LV
      have V6 : Hid (valOf (vs.set a false) a = false) := valOf_set vs a false (by omega)
      obtain ⟨b6, cl6⟩ := K6.out.some (i := a) (by have := L6.out; omega)
      have fl6 := K6.out.free a
      have W7 := Lib.hid (W6.out.set GS.out NG.out a (.bool true))
      have K7 := Lib.hid (K6.out.set a true)
      have L7 : Hid (((vs.set a false).set a true).length = 4) := by show _ = _; simpa using LV
      have V7 : Hid (valOf ((vs.set a false).set a true) a = true) := valOf_set (vs.set a false) a true (by have := L6.out; omega)
      have E1 := eval_spl W6.out HC.out L6.out K6.out
      rw [Says_step G.out _ HK.out HC.out, HA.out, Int.toNat_natCast, V6.out, if_neg (by simp)] at E1
      have E2 := eval_spl W6.out HL.out L6.out K6.out
      have E3 := eval_spl W7.out HC.out L7.out K7.out
      rw [Says_step G.out _ HK.out HC.out, HA.out, Int.toNat_natCast, V7.out, if_pos rfl] at E3
      have E4 := eval_spl W7.out HR.out L7.out K7.out
      obtain ⟨b1, hb1⟩ : ∃ b, Says 4 cs (valOf (vs.set a false)) c.low = b := ⟨_, rfl⟩
      obtain ⟨b2, hb2⟩ : ∃ b, Says 4 cs (valOf ((vs.set a false).set a true)) c.high = b := ⟨_, rfl⟩
      rw [hb1] at E1 E2
      rw [hb2] at E3 E4
      have E1 := Lib.hid E1
      have E2 := Lib.hid E2
      have E3 := Lib.hid E3
      have E4 := Lib.hid E4
      clear hg hgs hb5 W5 K5 LV hvs hb1 hb2
      go_wp2_with fail
      refine E1.out.mono ?_
      rintro e w6 ⟨rfl, rfl⟩
      go_wp2_with fail
      refine E2.out.mono ?_
      rintro e w6 ⟨rfl, rfl⟩
      clear cl fl
      go_wp2_with fail
      refine E3.out.mono ?_
      rintro e w6 ⟨rfl, rfl⟩
      go_wp2_with fail
      refine E4.out.mono ?_
      rintro e w6 ⟨rfl, rfl⟩
      clear cl6 fl6
      revert W7
      generalize (w5.setCell ⟨g, a, none⟩ (.bool false)).setCell ⟨g, a, none⟩ (.bool true) = w7
      intro W7
      have P1 := Lib.hid (size_spl W7.out HC.out ZK.out)
      go_wp2_with fail
      refine P1.out.mono ?_
      rintro e w8 ⟨rfl, hb8⟩
      have W8 := Lib.hid (W7.out.keep hb8)
      have P2 := Lib.hid (size_spl W8.out HL.out ZL.out)
      clear hb8
      go_wp2_with fail
      refine P2.out.mono ?_
      rintro e w9 ⟨rfl, hb9⟩
      have W9 := Lib.hid (W8.out.keep hb9)
      have P3 := Lib.hid (size_spl W9.out HR.out ZH.out)
      clear hb9
      have PA := and_one y
      by_cases hp : y % 2 = 0
      · have PB : (bits BinOp.and IntKind.i64 y 1 == 0) = true := by rw [PA, hp]; rfl
        clear PA hp
        by_cases hz : zl ≤ zh
        · go_wp2_with fail
          refine P3.out.mono ?_
          rintro e w10 ⟨rfl, hb10⟩
          have WA := Lib.hid (W9.out.keep hb10)
          clear hb10
          go_wp2_with fail
          go_roundw
          case rel => exact ⟨c.low, _, HL.out, rfl, WA.out⟩
          case measure => exact RKL.out
        · go_wp2_with fail
          refine P3.out.mono ?_
          rintro e w10 ⟨rfl, hb10⟩
          have WA := Lib.hid (W9.out.keep hb10)
          clear hb10
          go_wp2_with fail
          go_roundw
          case rel => exact ⟨c.low, _, HL.out, rfl, WA.out⟩
          case measure => exact RKL.out
      · have PB : (bits BinOp.and IntKind.i64 y 1 == 0) = false := by rw [PA]; simpa using hp
        clear PA hp
        by_cases hz : zl ≤ zh
        · go_wp2_with fail
          refine P3.out.mono ?_
          rintro e w10 ⟨rfl, hb10⟩
          have WA := Lib.hid (W9.out.keep hb10)
          clear hb10
          go_wp2_with fail
          go_roundw
          case rel => exact ⟨c.high, _, HR.out, rfl, WA.out⟩
          case measure => exact RKH.out
        · go_wp2_with fail
          refine P3.out.mono ?_
          rintro e w10 ⟨rfl, hb10⟩
          have WA := Lib.hid (W9.out.keep hb10)
          clear hb10
          go_wp2_with fail
          go_roundw
          case rel => exact ⟨c.high, _, HR.out, rfl, WA.out⟩
          case measure => exact RKH.out
    · have hb := G.out.base (by omega) hc
      have NK := node_yes ho.st.lay hc
      unfold ptrV at NK
      rw [ho.s, hb.1, hb.2.1, hb.2.2] at NK
      have NK : Calls Try.prog 27 #[.pointer (some ⟨s, 0, none⟩), .int .i64 (k : Int)] wr fun e w' => e = .returned (.tuple #[.int .i64 4, .int .i64 (k : Int), .int .i64 (k : Int), .int .i64 0]) ∧ ∃ q, w' = wr.drewN q := NK
      have NK := Lib.hid NK
      have hk2 : (k : Int) ≤ 1 := by omega
      clear hb hc ho hk
      go_wp2_with fail
      refine NK.out.mono ?_
      rintro e w4 ⟨rfl, q, rfl⟩
      have W4 := Lib.hid (HO.out.keep (below_drewN0 wr q))
      go_wp2_with fail
      refine (awake3 _).mono ?_
      rintro e w5 ⟨rfl, hb5⟩
      go_wp2_with fail
      go_ret
      exact ⟨rfl, (W4.out.keep hb5).below⟩
namespace nodeSplits
set_option linter.unusedVariables false
theorem own : ownKnob Try.prog.godebug = none := by kernel_rfl
theorem laidOut : laidOutB Try.prog = true := by kernel_rfl
set_option maxRecDepth 100000 in
theorem lifted (os : Os) (started : os.Started) (H : Type) (enc : TypeId × Value → H) :
    ReturnsInHanded {} Try.checked os 8 .any (Rows.nodeSplitsSpec.pre6 enc Try.prog Try.f8 Rows.nodeSplitsRow.domain false) (Rows.nodeSplitsSpec.post enc Try.prog Try.f8 false true false false) := by
  refine returnsInHanded_of_change (C := Try.checked) own started (by kernel_rfl) Try.func8
    (ChangeSpec.witness6 (enc := enc) (C := Try.checked) false ⟨#[], #[.int .i64 0, .int .i64 0], []⟩ 8 (by kernel_rfl) (by kernel_rfl) (by kernel_rfl) (by kernel_rfl)) ?_
  intro W base args ds gs before hval0 hW hcnd hsz
  have hval : ∀ (j : Nat) t v, Try.f8.params[j]? = some t → args[j]? = some v → Value.okWide Try.prog W .any base t v := hval0
  have hW' := hW
  obtain ⟨p, q, hA0, hV, rfl, hfz, hnd⟩ := hW
  have hA : DataW.TrodAll enc Try.prog W 0 (fun _ => true) true Try.f8.params.toList args.toList ds p := hA0
  rw [Try.params8] at hA hval
  obtain ⟨v0, vs0, d0, ds0, p0, q0, hargs, rfl, rfl, h0, r0⟩ := trodAll_cons hA
  obtain ⟨v1, vs1, d1, ds1, p1, q1, rfl, rfl, rfl, h1, r1⟩ := trodAll_cons r0
  obtain ⟨rfl, rfl, rfl⟩ := trodAll_nil r1
  obtain rfl : args = #[v0, v1] := by cases args; simp_all
  obtain ⟨rfl, rfl⟩ := trodVars_none hV
  obtain ⟨a0, rfl, rfl, rfl, w0⟩ := open_int Try.underlying3 (hval 0 3 v0 rfl rfl) h0
  obtain ⟨a1, rfl, rfl, rfl, w1⟩ := open_int Try.underlying3 (hval 1 3 v1 rfl rfl) h1
  clear hA0 hval0
  refine (nodeSplits_walk a0 a1 W w0 w1).mono fun e W' ⟨he, bel⟩ => ?_
  subst he
  exact ⟨_, rfl, _, _, _, [], _, [], hW', trodAll_mk1 (shut_bool Try.underlying4 _), (trodAll_cons_mk (shut_int Try.underlying3 w0) (trodAll_cons_mk (shut_int Try.underlying3 w1) trodAll_mk0)), rfl, bel.frame _, fun h => by cases h⟩
theorem over : Rows.nodeSplitsRow.holds Try.pinned (OpenSpec.ofChange Rows.nodeSplitsSpec) :=
  OpenClaim.holds_of_wide 8 Try.f8 rfl rfl rfl rfl rfl rfl rfl ⟨rfl, rfl, rfl, rfl, rfl⟩ rfl rfl rfl rfl rfl (by kernel_rfl) Try.func8 (by kernel_rfl)
    (of_decide_eq_true (by kernel_rfl)) (by unfold Func.isWrapper; first | (rw [if_pos (by decide +kernel)]; kernel_rfl) | (rw [if_neg (by decide +kernel)]; exact ⟨rfl, rfl⟩))
    (fun os started H enc _ => lifted os started H enc)
/-- THE STATEMENT. -/
theorem proved : Rows.NodeSplitsSaid := over
end nodeSplits
#print axioms nodeSplits.proved
end Go.Proofs.Ytmfghmnnacagbaa
