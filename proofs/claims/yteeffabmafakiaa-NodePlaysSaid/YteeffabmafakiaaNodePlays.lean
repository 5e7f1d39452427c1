/- For any number of variables, any budget and any calls: whatever is made, pinned and swept, a store has the document's nodes, each under its number: the law returns true. No condition. -/
import Derived.Test.YteeffabmafakiaaNPlayNext
import Derived.Deep.DeepCutAuto
namespace Go.Proofs.Yteeffabmafakiaa
open Go.ChangeShapes Go.WideShapes Go.ChangeAt Go.RowKit

/-- Behind the call of a round: next lies in a variable of its own, q is as it was. -/
def PlMid (W : World) (s gq V i : Nat) (x1 x2 x3 x4 x5 : Value) (s12 s13 : Value) (wx : World) : Prop :=
  ∃ (nx : Nat) (m' : Mem) (h' : Hd) (cs' : List Nd) (g' N' cap' : Nat), s12 = .pointer (some ⟨nx, 0, none⟩) ∧ s13 = .bool true ∧
    wx.heap[nx]? = some (.cells #[.int .i64 h'.V, .int .i64 h'.B, .int .i64 h'.made, .int .i64 h'.sweeps, .slice (some ⟨g', 0, none⟩) N' cap'] 29 (0, 0)) ∧ nx ≠ gq ∧
    wx.heap[gq]? = some (.cells #[x1, x2, x3, x4, x5] 29 (0, 0)) ∧ m'.s = s ∧ h'.V = V ∧ 0 ≤ h'.made ∧ h'.made ≤ i + 1 ∧ 0 ≤ h'.sweeps ∧ h'.sweeps ≤ i + 1 ∧ N' ≤ 2 + (i + 1) ∧
    PlW W m' h' cs' g' N' cap' gq (Fin5 wx gq h' g' N' cap')

theorem PlW.mid_new {W w0 w4 : World} {m m' : Mem} {h h' : Hd} {cs cs' : List Nd} {g N cap g' N' cap' gq V i : Nat} (p : PlW W m h cs g N cap gq w0) (hn : Next m m' w0 w4) (bo : Both w4 m' h' cs' g' N' cap')
    (e1 : h'.V = h.V) (e2 : h.made ≤ h'.made) (e3 : h'.made ≤ h.made + 1) (e4 : h.sweeps ≤ h'.sweeps) (e5 : h'.sweeps ≤ h.sweeps + 1) (e6 : N' ≤ N + 1) (v1 : h.V = V) (m0 : 0 ≤ h.made) (m1 : h.made ≤ i) (t0 : 0 ≤ h.sweeps) (t1 : h.sweeps ≤ i) (n1 : N ≤ 2 + i) :
    PlMid W m.s gq V i (.int .i64 h.V) (.int .i64 h.B) (.int .i64 h.made) (.int .i64 h.sweeps) (.slice (some ⟨g, 0, none⟩) N cap) (.pointer (some ⟨w4.heap.size, 0, none⟩)) (.bool true) (w4.alloc (.cells #[.int .i64 h'.V, .int .i64 h'.B, .int .i64 h'.made, .int .i64 h'.sweeps, .slice (some ⟨g', 0, none⟩) N' cap'] 29)) := by
  have gl : gq < w0.heap.size := (Array.getElem?_eq_some_iff.1 p.q).1
  have gl4 : gq < w4.heap.size := Nat.lt_of_lt_of_le gl hn.turn.size
  exact ⟨_, m', h', cs', g', N', cap', rfl, rfl, heap_alloc_new w4 _, by omega, (Below.heap_alloc w4 _ gq gl4).trans ((hn.turn.block gq gl p.gn).trans p.q), hn.s, by omega, by omega, by omega, by omega, by omega, by omega, p.next_new hn bo _⟩

theorem PlW.mid_old {W w0 w1 w4 : World} {m m' : Mem} {h h' : Hd} {cs cs' : List Nd} {g N cap g' N' cap' gq V i : Nat} (p : PlW W m h cs g N cap gq w0) (hw : Below w0.heap.size w0 w1) (hz : w1.heap[w0.heap.size]? = some (.cells #[.int .i64 0, .int .i64 0, .int .i64 0, .int .i64 0, .slice none 0 0] 29 (0, 0))) (hn : Next m m' w1 w4) (bo : Both w4 m' h' cs' g' N' cap')
    (e1 : h'.V = h.V) (e2 : h.made ≤ h'.made) (e3 : h'.made ≤ h.made + 1) (e4 : h.sweeps ≤ h'.sweeps) (e5 : h'.sweeps ≤ h.sweeps + 1) (e6 : N' ≤ N + 1) (v1 : h.V = V) (m0 : 0 ≤ h.made) (m1 : h.made ≤ i) (t0 : 0 ≤ h.sweeps) (t1 : h.sweeps ≤ i) (n1 : N ≤ 2 + i) :
    PlMid W m.s gq V i (.int .i64 h.V) (.int .i64 h.B) (.int .i64 h.made) (.int .i64 h.sweeps) (.slice (some ⟨g, 0, none⟩) N cap) (.pointer (some ⟨w0.heap.size, 0, none⟩)) (.bool true) (Fin5 w4 w0.heap.size h' g' N' cap') := by
  have gl : gq < w0.heap.size := (Array.getElem?_eq_some_iff.1 p.q).1
  have hno : ¬ m.own w0.heap.size := fun q => by have := p.both.st.own_lt _ q; omega
  have zl : w0.heap.size < w1.heap.size := (Array.getElem?_eq_some_iff.1 hz).1
  have z4 := (hn.turn.block _ zl hno).trans hz
  have p1 := p.keep hw
  have gl1 : gq < w1.heap.size := by omega
  have ft := fin5_turn w4 w0.heap.size h' g' N' cap'
  have hN0 : 0 < N' := by have := bo.st.good.len; have := bo.rs.le; omega
  have hgz : g' ≠ w0.heap.size := bo.rs.not_var (z := 0) (r := [.int .i64 0, .int .i64 0, .int .i64 0, .slice none 0 0]) hN0 z4
  have gl4 : gq < w4.heap.size := Nat.lt_of_lt_of_le gl1 hn.turn.size
  exact ⟨_, m', h', cs', g', N', cap', rfl, rfl, fin5 z4, by omega, (ft.block gq gl4 (by omega)).trans ((hn.turn.block gq gl1 p.gn).trans p1.q), hn.s, by omega, by omega, by omega, by omega, by omega, by omega,
    p1.next hn bo ft (hn.not_own zl hno) hgz (by have := p.below.size; omega) (by omega)⟩

set_option maxHeartbeats 8000000 in
set_option maxRecDepth 100000 in
theorem plays_yes (V B : Nat) (hV : V ≤ 256) (hB : B ≤ 1048576) (hB2 : 2 ≤ B) (A : Option Addr) (os : List OpN) (c : Nat) (W : World) (hm : os.length ≤ 9223372036854775807) (hr : RdN W.heap.size W A os) :
    Calls Try.prog 3 #[.int .i64 (V : Int), .int .i64 (B : Int), .slice A os.length c] W fun e w' => e = .returned (.bool true) ∧ Below W.heap.size W w' := by
  have NS := Lib.hid (newst_yes V B hV hB hB2)
  have RN := Lib.hid (fun w => rnew_yes (w := w) V B hV hB hB2)
  have HR := Lib.hid hr
  clear hr hV hB hB2
  go_enter Try.func3, Try.ntmps3
  go_wp2_with fail
  refine (NS.out _).mono ?_
  rintro e w1 ⟨m, rfl, s1, hb1, ho1⟩
  have ST := Lib.hid s1
  have HB1 := Lib.hid hb1
  have HO1 := Lib.hid ho1
  clear s1 hb1 ho1
  unfold ptrV
  go_wp2_with fail
  refine (RN.out _).mono ?_
  rintro e w2 ⟨g, cap, rfl, rs, hb2⟩
  have hbw := HB1.out.trans (hb2.mono HB1.out.size)
  have st2 := ST.out.keep hb2
  have bo : Both w2 m ⟨V, B, 2, 2, 0, 0⟩ [⟨V, 0, 0, 0⟩, ⟨V, 1, 1, 0⟩] g 2 cap := ⟨st2, rs, RS.not_own st2 rs (by omega)⟩
  have R0 : Hid (PlRel W m.s w2.heap.size V os.length (.int .i64 0) (w2.alloc (.cells #[.int .i64 V, .int .i64 B, .int .i64 0, .int .i64 0, .slice (some ⟨g, 0, none⟩) 2 cap] 29))) := by
    have ba := (Below.refl w2.heap.size w2).alloc (Nat.le_refl _) (.cells #[.int .i64 V, .int .i64 B, .int .i64 0, .int .i64 0, .slice (some ⟨g, 0, none⟩) 2 cap] 29)
    exact ⟨0, m, ⟨V, B, 2, 2, 0, 0⟩, [⟨V, 0, 0, 0⟩, ⟨V, 1, 1, 0⟩], g, 2, cap, Nat.zero_le _, by omega, rfl, rfl, rfl, Int.le_refl _, Int.le_refl _, Int.le_refl _, Int.le_refl _, by omega, bo.keep ba, heap_alloc_new w2 _, hbw.trans (ba.mono hbw.size), HO1.out, hbw.size, fun q => by have := st2.own_lt _ q; omega⟩
  clear bo st2 rs hb2 ST HB1 HO1 NS RN
  unfold rsV
  go_wp2_with fail
  clear hbw
  revert R0
  generalize w2.alloc (.cells #[.int .i64 V, .int .i64 B, .int .i64 0, .int .i64 0, .slice (some ⟨g, 0, none⟩) 2 cap] 29) = w3
  generalize w2.heap.size = gq
  generalize m.s = s
  intro R0
  go_loopw [11] (PlRel W s gq V os.length) (fun ix _ => os.length - (intOf ix).toNat)
  case atStart => exact R0.out
  case round =>
    clear R0
    obtain ⟨i, m, h, cs, g, N, cap, hi, hi2, rfl, rfl, hV, hm0, hm1, hs0, hs1, hN, pw⟩ := hrel
    have HVV := Lib.hid hV
    have HM0 := Lib.hid hm0
    have HM1 := Lib.hid hm1
    have HS0 := Lib.hid hs0
    have HS1 := Lib.hid hs1
    have HNN := Lib.hid hN
    clear hV hm0 hm1 hs0 hs1 hN
    by_cases hlt : i < os.length ∧ i < 200
    · obtain ⟨hlt, hlt3⟩ := hlt
      obtain ⟨o, ho⟩ : ∃ o, os[i]? = some o := ⟨_, List.getElem?_eq_getElem hlt⟩
      rcases HR.out with h0 | ⟨kb, off, rfl, hkb, hc⟩
      · rw [h0] at hlt; simp at hlt
      · obtain ⟨hcc, hrd, hvl⟩ := hc i o ho
        have pwn := pw.keep ((Below.refl wr.heap.size wr).alloc (Nat.le_refl _) (.cells #[.int .i64 0, .int .i64 0, .int .i64 0, .int .i64 0, .slice none 0 0] 29))
        have bz := heap_alloc_new wr (.cells #[.int .i64 0, .int .i64 0, .int .i64 0, .int .i64 0, .slice none 0 0] 29)
        have nxo : ∀ q, m.own q → q < wr.heap.size := pw.both.st.own_lt
        have gqn : gq < wr.heap.size := (Array.getElem?_eq_some_iff.1 pw.q).1
        have HCC := Lib.hid hcc
        have HRD := Lib.hid hrd
        have HVL := Lib.hid hvl
        have PW0 := Lib.hid pw
        have KO : Hid (¬ m.own kb) := fun q => by have := pw.own _ q; omega
        have NO : Hid (¬ m.own wr.heap.size) := fun q => by have := nxo _ q; omega
        have DA := fun (u : World) (hu : Below wr.heap.size wr u) => (does_any (pw.keep hu).both o.kind o.a o.b o.c o.A o.vs o.cap (by have := HNN.out; omega) HM0.out (by have := HM1.out; omega) HS0.out (by have := HS1.out; omega) (HRD.out.keep (pw.keep hu).below) HVL.out)
        unfold opV rsV ptrV at DA
        have bw1 := below_drew wr
        have bw2 := ((Below.refl wr.heap.size wr).alloc (Nat.le_refl _) (.cells #[.int .i64 0, .int .i64 0, .int .i64 0, .int .i64 0, .slice none 0 0] 29)).trans ((below_drew (wr.alloc (.cells #[.int .i64 0, .int .i64 0, .int .i64 0, .int .i64 0, .slice none 0 0] 29))).mono (by simp))
        have D1 := Lib.hid (DA _ bw1)
        have D2 := Lib.hid (DA _ bw2)
        have BW1 := Lib.hid bw1
        have BW2 := Lib.hid bw2
        have NZ0 := Lib.hid (((below_drew (wr.alloc (.cells #[.int .i64 0, .int .i64 0, .int .i64 0, .int .i64 0, .slice none 0 0] 29))).block wr.heap.size (by simp)).trans bz)
        have NL : Hid (wr.heap.size < (wr.alloc (.cells #[.int .i64 0, .int .i64 0, .int .i64 0, .int .i64 0, .slice none 0 0] 29)).drew.heap.size) := Nat.lt_of_lt_of_le (by simp) (below_drew (wr.alloc (.cells #[.int .i64 0, .int .i64 0, .int .i64 0, .int .i64 0, .slice none 0 0] 29))).size
        have hgx : ¬ gq = wr.heap.size := by omega
        clear DA bw1 bw2
        have q0 := cell_of_row _ (gq) 0 _ _ _ pw.q
        have q1 := cell_of_row _ (gq) 1 _ _ _ pw.q
        have q2 := cell_of_row _ (gq) 2 _ _ _ pw.q
        have q3 := cell_of_row _ (gq) 3 _ _ _ pw.q
        have q4 := cell_of_row _ (gq) 4 _ _ _ pw.q
        have qf := fun o => frozen_of_row _ (gq) o _ _ pw.q
        simp at q0 q1 q2 q3 q4
        have qq0 := cell_of_row _ (gq) 0 _ _ _ pwn.q
        have qq1 := cell_of_row _ (gq) 1 _ _ _ pwn.q
        have qq2 := cell_of_row _ (gq) 2 _ _ _ pwn.q
        have qq3 := cell_of_row _ (gq) 3 _ _ _ pwn.q
        have qq4 := cell_of_row _ (gq) 4 _ _ _ pwn.q
        have qqf := fun o => frozen_of_row _ (gq) o _ _ pwn.q
        simp at qq0 qq1 qq2 qq3 qq4
        have cg : ∀ (o : Nat) (v : Value), W.cell? ⟨kb, o, none⟩ = some v → wr.cell? ⟨kb, o, none⟩ = some v := fun o v hv => (pw.below.cell (p := ⟨kb, o, none⟩) hkb).trans hv
        have cga : ∀ (o : Nat) (v : Value), W.cell? ⟨kb, o, none⟩ = some v → (wr.alloc (.cells #[.int .i64 0, .int .i64 0, .int .i64 0, .int .i64 0, .slice none 0 0] 29)).cell? ⟨kb, o, none⟩ = some v := fun o v hv => (pwn.below.cell (p := ⟨kb, o, none⟩) hkb).trans hv
        obtain ⟨c0, c1, c2, c3, c4⟩ := hcc
        have cc0 := cga _ _ c0
        have cc1 := cga _ _ c1
        have cc2 := cga _ _ c2
        have cc3 := cga _ _ c3
        have cc4 := cga _ _ c4
        have c0 := cg _ _ c0
        have c1 := cg _ _ c1
        have c2 := cg _ _ c2
        have c3 := cg _ _ c3
        have c4 := cg _ _ c4
        clear cg cga hc ho hrd hvl pw pwn bz nxo gqn HCC qf qqf
        go_upto_region 10 with fail
        go_cut [12, 13] from 39 to 86 (fun s12 s13 wx => PlMid W m.s gq V i (.int .i64 h.V) (.int .i64 h.B) (.int .i64 h.made) (.int .i64 h.sweeps) (.slice (some ⟨g, 0, none⟩) N cap) s12 s13 wx)
        case first =>
          go_region_with (first
            | (go_at_call 7; refine D1.out.mono ?_; rintro e w4 ⟨sv, rfl, m', h', cs', g', N', cap', rfl, bo', e1, e2, e3, e4, e5, e6, hn⟩; have CF : Hid True := trivial; have BO := Lib.hid bo'; have E1 := Lib.hid e1; have E2 := Lib.hid e2; have E3 := Lib.hid e3; have E4 := Lib.hid e4; have E5 := Lib.hid e5; have E6 := Lib.hid e6; have HNX := Lib.hid hn; clear bo' e1 e2 e3 e4 e5 e6 hn; unfold rsV)
            | (go_at_call 7; refine D2.out.mono ?_; rintro e w4 ⟨sv, rfl, m', h', cs', g', N', cap', rfl, bo', e1, e2, e3, e4, e5, e6, hn⟩; have NZ := Lib.hid ((hn.turn.block wr.heap.size NL.out NO.out).trans NZ0.out); have z0 := cell_of_row _ (wr.heap.size) 0 _ _ _ NZ.out; have z1 := cell_of_row _ (wr.heap.size) 1 _ _ _ NZ.out; have z2 := cell_of_row _ (wr.heap.size) 2 _ _ _ NZ.out; have z3 := cell_of_row _ (wr.heap.size) 3 _ _ _ NZ.out; have z4 := cell_of_row _ (wr.heap.size) 4 _ _ _ NZ.out; have zf := fun o => frozen_of_row _ (wr.heap.size) o _ _ NZ.out; simp at z0 z1 z2 z3 z4; have BO := Lib.hid bo'; have E1 := Lib.hid e1; have E2 := Lib.hid e2; have E3 := Lib.hid e3; have E4 := Lib.hid e4; have E5 := Lib.hid e5; have E6 := Lib.hid e6; have HNX := Lib.hid hn; clear bo' e1 e2 e3 e4 e5 e6 hn; unfold rsV))
          all_goals
            clear q0 q1 q2 q3 q4 qq0 qq1 qq2 qq3 qq4 c0 c1 c2 c3 c4 cc0 cc1 cc2 cc3 cc4
            go_wp2_with fail
            go_meet
            first
              | (have CG := CF; exact (PW0.out.keep BW1.out).mid_new HNX.out BO.out E1.out E2.out E3.out E4.out E5.out E6.out HVV.out HM0.out HM1.out HS0.out HS1.out HNN.out)
              | exact PW0.out.mid_old BW2.out NZ0.out HNX.out BO.out E1.out E2.out E3.out E4.out E5.out E6.out HVV.out HM0.out HM1.out HS0.out HS1.out HNN.out
        case rest =>
          clear q0 q1 q2 q3 q4 qq0 qq1 qq2 qq3 qq4 c0 c1 c2 c3 c4 cc0 cc1 cc2 cc3 cc4 D1 D2 BW1 BW2 NZ0 NL hgx PW0 KO NO HVV HM0 HM1 HS0 HS1 HNN HRD HVL
          obtain ⟨nx, m', h', cs', g', N', cap', rfl, rfl, hnx, hne, hgq, e1, e2, m0, m1, t0, t1, nn1, pw⟩ := hcut
          have E1 := Lib.hid e1
          have E2 := Lib.hid e2
          have M0 := Lib.hid m0
          have M1 := Lib.hid m1
          have T0 := Lib.hid t0
          have T1 := Lib.hid t1
          have N1 := Lib.hid nn1
          have PW := Lib.hid pw
          have hne2 : ¬ gq = nx := by omega
          have n0 := cell_of_row _ (nx) 0 _ _ _ hnx
          have n1 := cell_of_row _ (nx) 1 _ _ _ hnx
          have n2 := cell_of_row _ (nx) 2 _ _ _ hnx
          have n3 := cell_of_row _ (nx) 3 _ _ _ hnx
          have n4 := cell_of_row _ (nx) 4 _ _ _ hnx
          have nf := fun o => frozen_of_row _ (nx) o _ _ hnx
          simp at n0 n1 n2 n3 n4
          have q0 := cell_of_row _ (gq) 0 _ _ _ hgq
          have q1 := cell_of_row _ (gq) 1 _ _ _ hgq
          have q2 := cell_of_row _ (gq) 2 _ _ _ hgq
          have q3 := cell_of_row _ (gq) 3 _ _ _ hgq
          have q4 := cell_of_row _ (gq) 4 _ _ _ hgq
          have qf := fun o => frozen_of_row _ (gq) o _ _ hgq
          simp at q0 q1 q2 q3 q4
          clear e1 e2 m0 m1 t0 t1 nn1 pw hnx hgq nf
          unfold Fin5 at PW
          go_wp2_with fail
          clear n0 n1 n2 n3 n4 q0 q1 q2 q3 q4 qf
          revert PW
          generalize (((((wc.setCell ⟨gq, 0, none⟩ (.int .i64 h'.V)).setCell ⟨gq, 1, none⟩ (.int .i64 h'.B)).setCell ⟨gq, 2, none⟩ (.int .i64 h'.made)).setCell ⟨gq, 3, none⟩ (.int .i64 h'.sweeps)).setCell ⟨gq, 4, none⟩ (.slice (some ⟨g', 0, none⟩) N' cap')) = w5
          intro PW
          have q0 := cell_of_row _ (gq) 0 _ _ _ PW.out.q
          have q1 := cell_of_row _ (gq) 1 _ _ _ PW.out.q
          have q2 := cell_of_row _ (gq) 2 _ _ _ PW.out.q
          have q3 := cell_of_row _ (gq) 3 _ _ _ PW.out.q
          have q4 := cell_of_row _ (gq) 4 _ _ _ PW.out.q
          have qf := fun o => frozen_of_row _ (gq) o _ _ PW.out.q
          simp at q0 q1 q2 q3 q4
          clear qf
          have LN : ∀ u : World, Below w5.heap.size w5 u → Calls Try.prog 8 #[ptrV m.s] u fun e w' => e = .returned (.int .i64 (cnt cs')) ∧ u = w' := fun u hu => by
            have := len_store (PW.out.keep hu).both.st.lay
            rw [(PW.out.keep hu).both.st.nodes, E1.out] at this
            exact this
          have LN := Lib.hid LN
          have RL := Lib.hid fun (u : World) (hu : Below w5.heap.size w5 u) => rlen_any (PW.out.keep hu).both.rs h'
          have MD : ∀ u : World, PlW W m' h' cs' g' N' cap' gq u → Calls Try.prog 10 #[ptrV m.s] u fun e w' => e = .returned (.int .i64 h'.made) ∧ u = w' := fun u hu => by
            have := made_store hu.both.st.lay
            rw [E1.out] at this
            exact this
          have MD := Lib.hid MD
          have SW : ∀ u : World, PlW W m' h' cs' g' N' cap' gq u → Calls Try.prog 11 #[ptrV m.s] u fun e w' => e = .returned (.int .i64 h'.sweeps) ∧ u = w' := fun u hu => by
            have := sweeps_store hu.both.st.lay
            rw [E1.out] at this
            exact this
          have SW := Lib.hid SW
          have VR : ∀ u : World, PlW W m' h' cs' g' N' cap' gq u → Calls Try.prog 12 #[ptrV m.s] u fun e w' => e = .returned (.int .i64 V) ∧ u = w' := fun u hu => by
            have := vars_store hu.both.st.lay
            rw [E2.out, E1.out] at this
            exact this
          have VR := Lib.hid VR
          unfold rsV at RL
          unfold ptrV at LN MD SW VR
          go_region_held3 (fun w' => w'.cell? ⟨gq, 0, none⟩ = some (.int .i64 h'.V) ∧ w'.cell? ⟨gq, 1, none⟩ = some (.int .i64 h'.B) ∧ w'.cell? ⟨gq, 2, none⟩ = some (.int .i64 h'.made) ∧ w'.cell? ⟨gq, 3, none⟩ = some (.int .i64 h'.sweeps) ∧ w'.cell? ⟨gq, 4, none⟩ = some (.slice (some ⟨g', 0, none⟩) N' cap'))
            (first | exact ⟨q0, q1, q2, q3, q4⟩ | exact ⟨by assumption, by assumption, by assumption, by assumption, by assumption⟩ | go_keep)
            (first
              | (go_at_call 8; refine (LN.out _ (below_drew _)).mono ?_; rintro e w' ⟨rfl, rfl⟩)
              | (go_at_call 9; refine (RL.out _ (below_drew _)).mono ?_; rintro e w6 ⟨rfl, hb6⟩; have PW6 := Lib.hid ((PW.out.keep (below_drew _)).keep hb6); have p0 := cell_of_row _ (gq) 0 _ _ _ PW6.out.q; have p1 := cell_of_row _ (gq) 1 _ _ _ PW6.out.q; have p2 := cell_of_row _ (gq) 2 _ _ _ PW6.out.q; have p3 := cell_of_row _ (gq) 3 _ _ _ PW6.out.q; have p4 := cell_of_row _ (gq) 4 _ _ _ PW6.out.q; have pf := fun o => frozen_of_row _ (gq) o _ _ PW6.out.q; simp at p0 p1 p2 p3 p4; clear hb6 pf)
              | (go_at_call 10; refine (MD.out _ PW6.out).mono ?_; rintro e w' ⟨rfl, rfl⟩)
              | (go_at_call 11; refine (SW.out _ PW6.out).mono ?_; rintro e w' ⟨rfl, rfl⟩)
              | (go_at_call 12; refine (VR.out _ PW6.out).mono ?_; rintro e w' ⟨rfl, rfl⟩))
          go_wp2_with fail
          go_round
          case rel => exact ⟨i + 1, m', h', cs', g', N', cap', by omega, by omega, by go_num, E1.out, E2.out, M0.out, by have := M1.out; omega, T0.out, by have := T1.out; omega, N1.out, PW6.out⟩
          case measure => simp [intOf]; omega
    · clear HVV HM0 HM1 HS0 HS1 HNN
      have PW := Lib.hid pw
      clear pw
      by_cases hl : i < os.length
      · obtain rfl : i = 200 := by omega
        clear hlt
        go_wp2_with fail
        refine (awake3 _).mono ?_
        rintro e w9 ⟨rfl, hb9⟩
        go_wp2_with fail
        go_ret
        exact ⟨rfl, PW.out.below.trans (hb9.mono PW.out.below.size)⟩
      · clear hlt
        go_wp2_with fail
        refine (awake3 _).mono ?_
        rintro e w9 ⟨rfl, hb9⟩
        go_wp2_with fail
        go_ret
        exact ⟨rfl, PW.out.below.trans (hb9.mono PW.out.below.size)⟩

theorem nodePlays_walk (v b : Int) (l : Value) (W : World) (_hv : (Lit.int .i64 v).wf = true) (_hb : (Lit.int .i64 b).wf = true) (h : ∃ (A : Option Addr) (os : List OpN) (c : Nat), l = .slice A os.length c ∧ os.length ≤ 9223372036854775807 ∧ RdN W.heap.size W A os) :
    Calls Try.prog 3 #[.int .i64 v, .int .i64 b, l] W fun e w' => e = .returned (.bool true) ∧ Below W.heap.size W w' := by
  obtain ⟨A, os, c, rfl, hm, hr⟩ := h
  by_cases h0 : v < 0 ∨ 256 < v ∨ b < 2 ∨ 1048576 < b
  · exact plays_no v b _ W h0
  · obtain ⟨V, rfl⟩ : ∃ V : Nat, v = V := ⟨v.toNat, by omega⟩
    obtain ⟨B, rfl⟩ : ∃ B : Nat, b = B := ⟨b.toNat, by omega⟩
    exact plays_yes V B (by omega) (by omega) (by omega) A os c W hm hr

namespace nodePlays
set_option linter.unusedVariables false
theorem own : ownKnob Try.prog.godebug = none := by kernel_rfl
theorem laidOut : laidOutB Try.prog = true := by kernel_rfl
set_option maxRecDepth 100000 in
theorem lifted (os : Os) (started : os.Started) (H : Type) (enc : TypeId × Value → H) :
    ReturnsInHanded {} Try.checked os 3 .any (Rows.nodePlaysSpec.pre6 enc Try.prog Try.f3 Rows.nodePlaysRow.domain false) (Rows.nodePlaysSpec.post enc Try.prog Try.f3 false true false false) := by
  refine returnsInHanded_of_change (C := Try.checked) own started (by kernel_rfl) Try.func3
    (ChangeSpec.witness6 (enc := enc) (C := Try.checked) false ⟨#[], #[.int .i64 0, .int .i64 0, .slice none 0 0], []⟩ 8 (by kernel_rfl) (by kernel_rfl) (by kernel_rfl) (by kernel_rfl)) ?_
  intro W base args ds gs before hval0 hW hcnd hsz
  have hval : ∀ (j : Nat) t v, Try.f3.params[j]? = some t → args[j]? = some v → Value.okWide Try.prog W .any base t v := hval0
  have hW' := hW
  obtain ⟨p, q, hA0, hV, rfl, hfz, hnd⟩ := hW
  have hA : DataW.TrodAll enc Try.prog W 0 (fun _ => true) true Try.f3.params.toList args.toList ds p := hA0
  rw [Try.params3] at hA hval
  obtain ⟨v0, vs0, d0, ds0, p0, q0, hargs, rfl, rfl, h0, r0⟩ := trodAll_cons hA
  obtain ⟨v1, vs1, d1, ds1, p1, q1, rfl, rfl, rfl, h1, r1⟩ := trodAll_cons r0
  obtain ⟨v2, vs2, d2, ds2, p2, q2, rfl, rfl, rfl, h2, r2⟩ := trodAll_cons r1
  obtain ⟨rfl, rfl, rfl⟩ := trodAll_nil r2
  obtain rfl : args = #[v0, v1, v2] := by cases args; simp_all
  obtain ⟨rfl, rfl⟩ := trodVars_none hV
  obtain ⟨a0, rfl, rfl, rfl, w0⟩ := open_int Try.underlying3 (hval 0 3 v0 rfl rfl) h0
  obtain ⟨a1, rfl, rfl, rfl, w1⟩ := open_int Try.underlying3 (hval 1 3 v1 rfl rfl) h1
  have k2 := h2
  have lt2 : ∀ x ∈ p2, x.block < W.heap.size := by obtain ⟨m, hm⟩ := k2; exact DataW.trod_lt m _ _ _ hm
  clear hA0 hval0
  refine (nodePlays_walk a0 a1 v2 W w0 w1 (arg_opn h2 (hval 2 22 v2 rfl rfl))).mono fun e W' ⟨he, bel⟩ => ?_
  subst he
  exact ⟨_, rfl, _, _, _, [], _, [], hW', trodAll_mk1 (shut_bool Try.underlying4 _), (trodAll_cons_mk (shut_int Try.underlying3 w0) (trodAll_cons_mk (shut_int Try.underlying3 w1) (trodAll_cons_mk (Below.trod laidOut (by kernel_rfl) (of_decide_eq_true (by kernel_rfl)) k2 bel lt2) trodAll_mk0))), rfl, bel.frame _, fun h => by cases h⟩
theorem over : Rows.nodePlaysRow.holds Try.pinned (OpenSpec.ofChange Rows.nodePlaysSpec) :=
  OpenClaim.holds_of_wide 3 Try.f3 rfl rfl rfl rfl rfl rfl rfl ⟨rfl, rfl, rfl, rfl, rfl⟩ rfl rfl rfl rfl rfl (by kernel_rfl) Try.func3 (by kernel_rfl)
    (of_decide_eq_true (by kernel_rfl)) (by unfold Func.isWrapper; first | (rw [if_pos (by decide +kernel)]; kernel_rfl) | (rw [if_neg (by decide +kernel)]; exact ⟨rfl, rfl⟩))
    (fun os started H enc _ => lifted os started H enc)
/-- THE STATEMENT. -/
theorem proved : Rows.NodePlaysSaid := over
end nodePlays
#print axioms nodePlays.proved
end Go.Proofs.Yteeffabmafakiaa
