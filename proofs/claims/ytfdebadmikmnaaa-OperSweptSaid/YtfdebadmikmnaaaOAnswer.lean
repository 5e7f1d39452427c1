/- Contracts of layer 4 (oper): answer. -/
import Derived.Test.YtfdebadmikmnaaaOAns
namespace Go.Proofs.Ytfdebadmikmnaaa
open Go.ChangeShapes Go.WideShapes Go.ChangeAt Go.RowKit Go.Maps

/-- answer keeps its word, so many variables below. -/
def AnsAt (o b n : Nat) : Prop := ∀ (w : World) (m : Mem) (h : Hd) (cs : List Nd) (N : Nat) (u : Int) (q : Qu), Rdy w m h cs o b N → QAt cs u q → 0 ≤ u → u ≤ h.V → (h.V : Int) ≤ u + n → N + 2 ^ n ≤ 2000000 →
  Calls Try.prog 47 #[.pointer (some ⟨o, 0, none⟩), quV q] w (AnsOut m h cs o b N n u q w)

theorem join_sem {V : Nat} {cs cs1 cs2 cs3 : List Nd} {u : Int} {qf qt q1 : Qu} {k1 k2 k vn : Nat} (g : NGood V cs) (g1 : NGood V cs1) (g2 : NGood V cs2) (X1 : Ext cs cs1) (X2 : Ext cs1 cs2) (hqt : QAt cs u qt) (a1 : At cs1 u k1)
    (s1 : ∀ val, Says V cs1 val k1 = qsem V cs val qf) (s2 : ∀ val, Says V cs2 val k2 = qsem V cs1 val qt) (s3 : ∀ val, Says V cs3 val k = if val vn then Says V cs2 val k2 else Says V cs2 val k1)
    (sem : ∀ val, qsem V cs val q1 = if val vn then qsem V cs val qt else qsem V cs val qf) : ∀ val, Says V cs3 val k = qsem V cs val q1 := by
  intro val
  rw [s3, sem, s2, a1.says X2 g1 g2, s1, hqt.sem X1 g g1]

theorem ONext.put {o b : Nat} {m : Mem} {w w' : World} (ht : Turn (fun i => i = b) w w') : ONext o m (some b) m (some b) w w' :=
  ⟨⟨ht.os, ht.tape, ht.output, ht.size, fun i hi hn => ht.block i hi (fun e => hn (.inr (.inr (by rw [e]))))⟩, rfl, fun _ h => .inl h⟩

set_option maxRecDepth 100000 in
set_option maxHeartbeats 4000000 in
theorem answer_step {o b n : Nat} (ih : AnsAt o b n) {w : World} {m : Mem} {h : Hd} {cs : List Nd} {N : Nat} {u : Int} {q : Qu} (r : Rdy w m h cs o b N) (hq : QAt cs u q) (hu0 : 0 ≤ u) (hu : u ≤ h.V) (hn : (h.V : Int) ≤ u + (n + 1 : Nat)) (hN : N + 2 ^ (n + 1) ≤ 2000000) (ht : (settleQ q).2.2 = false) :
    Calls Try.prog 47 #[.pointer (some ⟨o, 0, none⟩), quV q] w (AnsOut m h cs o b N (n + 1) u q w) := by
  obtain ⟨hq1, hs, h2⟩ := (settle_ok r.st.good hu hq).left ht
  have HS := settle_any q hq.kind
  obtain ⟨⟨q1, k0, t⟩, hS⟩ : ∃ p, settleQ q = p := ⟨_, rfl⟩
  rw [hS] at ht HS hq1 hs h2
  obtain rfl : t = false := ht
  clear hS
  have hq1 : QAt cs u q1 := hq1
  have hs : ∀ val, qsem h.V cs val q1 = qsem h.V cs val q := hs
  obtain ⟨v0, v1, v2⟩ := splitV_range r.st.good hq1 h2
  have qs := QAt.split (V := h.V) hq1
  obtain ⟨vn, hvn⟩ : ∃ vn : Nat, splitV h.V cs q1 = vn := ⟨(splitV h.V cs q1).toNat, by omega⟩
  have hf : Fits q1 := hq1.fits r.st
  have SPL := fun (w' : World) (r' : Rdy w' m h cs o b N) => split_any r'.st r'.head hq1
  unfold SplOut at SPL
  rw [hvn] at SPL v0 v1 v2 qs
  have h0 := half_at r.st.good v1 qs false
  have h1 := half_at r.st.good v1 qs true
  have sem := fun val => half_sem r.st.good v1 qs val
  obtain ⟨qf, hqf⟩ : ∃ qf, qf = half false vn cs q1 := ⟨_, rfl⟩
  obtain ⟨qt, hqt⟩ : ∃ qt, qt = half true vn cs q1 := ⟨_, rfl⟩
  have UU : Hid (∀ u' : Int, QAt cs u' q1 → u' ≤ vn) := by
    show ∀ u' : Int, QAt cs u' q1 → u' ≤ vn
    intro u' hu'
    have := (splitV_range r.st.good hu' h2).2.2
    rw [hvn] at this
    exact this
  have Q0 := Lib.hid (hq1.mono hu0)
  have P2 : Hid (2 ^ (n + 1) = 2 ^ n + 2 ^ n) := by show _ = _; rw [Nat.pow_succ]; omega
  have P1 := Lib.hid (Nat.one_le_two_pow (n := n))
  have SEM : Hid (∀ val, qsem h.V cs val q1 = if val vn then qsem h.V cs val qt else qsem h.V cs val qf) := by
    show ∀ val, qsem h.V cs val q1 = if val vn then qsem h.V cs val qt else qsem h.V cs val qf
    intro val
    rw [sem val, Int.toNat_natCast]
    cases val vn with
    | true => rw [hqt]; rfl
    | false => rw [hqf]; rfl
  rw [← hqf, ← hqt] at SPL
  rw [← hqf] at h0
  rw [← hqt] at h1
  clear hqf hqt sem qs hvn
  have HS := Lib.hid HS
  have SPL := Lib.hid SPL
  have H0 := Lib.hid h0
  have H1 := Lib.hid h1
  have HQ := Lib.hid hq1
  have HF := Lib.hid hf
  have SQ := Lib.hid hs
  have RR := Lib.hid r
  have V0 := Lib.hid v0
  have V1 := Lib.hid v1
  have V2 := Lib.hid v2
  have HN := Lib.hid hn
  have HNN := Lib.hid hN
  have IH := Lib.hid ih
  have HU := Lib.hid hu
  have OO := Lib.hid r.ost.own_lt
  clear h0 h1 hq1 hf hs v0 v1 v2 hn hN ih h2 r hq hu0 hu
  unfold quV
  go_enter Try.func47, Try.ntmps47
  go_wp2_with fail
  refine (HS.out _).mono ?_
  rintro e w2 ⟨rfl, hb2⟩
  obtain ⟨fb, fr⟩ := settled_world (q1 := q1) hb2
  have b2 := (hb2.block _ (row_lt (heap_alloc_new w (quO q)))).trans (heap_alloc_new w (quO q))
  obtain ⟨z0, z1, z2, z3, zf⟩ := qu_cells b2
  have FB := Lib.hid fb
  have FR := Lib.hid fr
  unfold Fin4 at FB FR
  clear hb2 b2 fb fr
  unfold quV
  go_wp2_with fail
  clear z0 z1 z2 z3 zf
  revert FB FR
  generalize ((((w2.setCell ⟨w.heap.size, 0, none⟩ (.int .i64 q1.kind)).setCell ⟨w.heap.size, 1, none⟩ (.int .i64 q1.a)).setCell ⟨w.heap.size, 2, none⟩ (.int .i64 q1.b)).setCell ⟨w.heap.size, 3, none⟩ (.int .i64 q1.c)) = w3
  obtain ⟨bq, hbq⟩ : ∃ bq, w.heap.size = bq := ⟨_, rfl⟩
  rw [hbq]
  intro FB FR
  have BQ := Lib.hid hbq
  clear hbq
  have fb : Below w.heap.size w w3 := by rw [BQ.out]; exact FB.out
  have r3 := RR.out.keep fb
  have FD := Lib.hid (fb.trans ((below_drew w3).mono fb.size))
  have R4 := Lib.hid (r3.keep (below_drew w3))
  have c5 := r3.head.c5
  obtain ⟨z0, z1, z2, z3, zf⟩ := qu_cells FR.out
  clear r3 fb
  rcases R4.out.look HF.out with ⟨k, tk, hlk⟩ | ⟨kx, hlk⟩
  · have AT := Lib.hid (tk.at HQ.out)
    have SY := Lib.hid (fun val => (tk.says val).trans (SQ.out val))
    unfold quV at hlk
    clear tk
    go_region
    go_wp2_with fail
    go_ret2
    exact AnsOut.same RR.out FD.out AT.out SY.out
  · unfold quV at hlk
    go_region
    go_wp2_with fail
    clear hlk c5 z0 z1 z2 z3 zf
    have FR4 : Hid (w3.drew.heap[bq]? = some (quO q1)) := FR.out
    clear FR FB
    revert FD R4 FR4
    generalize w3.drew = w4
    intro FD R4 FR4
    have SP := SPL.out _ R4.out
    unfold quV at SP
    refine SP.mono ?_
    clear SP SPL
    rintro e w5 ⟨rfl, hb5⟩
    have FD5 := Lib.hid (FD.out.trans (hb5.mono FD.out.size))
    have R5 := Lib.hid (R4.out.keep hb5)
    have FR5 := Lib.hid ((hb5.block _ (row_lt FR4.out)).trans FR4.out)
    clear hb5 FD R4 FR4
    go_wp2_with fail
    have b6 := ((Below.refl w5.heap.size w5).alloc (Nat.le_refl _) (quO qf)).alloc (by simp) (quO qt)
    have t6 := heap_alloc_new (w5.alloc (quO qf)) (quO qt)
    rw [show (w5.alloc (quO qf)).heap.size = w5.heap.size + 1 by simp] at t6
    have NQ : Hid (¬ oown o m (some b) bq) := fun q => by have := OO.out _ q; have := BQ.out; omega
    have NT : Hid (¬ oown o m (some b) (w5.heap.size + 1)) := fun q => by have := OO.out _ q; have := FD5.out.size; omega
    have FD6 := Lib.hid (FD5.out.trans (b6.mono FD5.out.size))
    have R6 := Lib.hid (R5.out.keep b6)
    have FR6 := Lib.hid ((b6.block _ (row_lt FR5.out)).trans FR5.out)
    have FT6 := Lib.hid t6
    clear b6 t6 FD5 R5 FR5
    unfold quO at FD6 R6 FR6 FT6
    revert FD6 R6 FR6 FT6 NT
    generalize (w5.alloc (.cells #[.int .i64 qf.kind, .int .i64 qf.a, .int .i64 qf.b, .int .i64 qf.c] 98)).alloc (.cells #[.int .i64 qt.kind, .int .i64 qt.a, .int .i64 qt.b, .int .i64 qt.c] 98) = w6
    generalize w5.heap.size + 1 = bt
    intro NT FD6 R6 FR6 FT6
    have I1 := IH.out w6 m h cs N (vn + 1) qf R6.out H0.out (by have := V0.out; omega) (by have := V1.out; omega) (by have := HN.out; have := V2.out; omega) (by have := HNN.out; have := P2.out; have := P1.out; omega)
    unfold quV at I1
    refine I1.mono ?_
    clear I1
    rintro e w7 ⟨k1, x1, m1, h1, cs1, N1, rfl, r7, e7, fr7, v7, bb7, s7, c7, n7, on7, hout⟩
    have R7 := Lib.hid r7
    have E7 := Lib.hid e7
    have FS7 := Lib.hid fr7
    have V7 := Lib.hid v7
    have BB7 := Lib.hid bb7
    have S7 := Lib.hid s7
    have C7 := Lib.hid c7
    have N7 := Lib.hid n7
    have ON7 := Lib.hid on7
    have FR7 := Lib.hid (on7.row FR6.out NQ.out)
    have FT7 := Lib.hid (on7.row FT6.out NT.out)
    have NQ7 := Lib.hid (on7.not_own (row_lt FR6.out) NQ.out)
    clear r7 e7 fr7 v7 bb7 s7 c7 n7 on7
    rcases hout with ⟨rfl, at1, says1⟩ | ⟨rfl, rfl, hb⟩
    · have AT1 := Lib.hid at1
      have SY1 := Lib.hid says1
      clear at1 says1
      obtain ⟨t0, t1, t2, t3, tf⟩ := qu_cells FT7.out
      go_wp2_with fail
      clear t0 t1 t2 t3 tf
      have I2 := IH.out w7 m1 h1 cs1 N1 (vn + 1) qt R7.out (H1.out.ext E7.out) (by have := V0.out; omega) (by have := V1.out; have := V7.out; omega) (by have := HN.out; have := V2.out; have := V7.out; omega) (by have := HNN.out; have := P2.out; have := P1.out; have := N7.out; omega)
      unfold quV at I2
      refine I2.mono ?_
      clear I2
      rintro e w8 ⟨k2, x2, m2, h2, cs2, N2, rfl, r8, e8, fr8, v8, bb8, s8, c8, n8, on8, hout⟩
      have R8 := Lib.hid r8
      have E8 := Lib.hid e8
      have FS8 := Lib.hid fr8
      have V8 := Lib.hid v8
      have BB8 := Lib.hid bb8
      have S8 := Lib.hid s8
      have C8 := Lib.hid c8
      have N8 := Lib.hid n8
      have ON8 := Lib.hid on8
      have FR8 := Lib.hid (on8.row FR7.out NQ7.out)
      have NQ8 := Lib.hid (on8.not_own (row_lt FR7.out) NQ7.out)
      clear r8 e8 fr8 v8 bb8 s8 c8 n8 on8
      rcases hout with ⟨rfl, at2, says2⟩ | ⟨rfl, rfl, hb⟩
      · obtain ⟨ca, ia, la⟩ := AT1.out.ext E8.out
        obtain ⟨cb, ib, lb⟩ := at2
        have MK := Lib.hid (mk_semS R8.out.st (v := vn) (by have := V1.out; have := V7.out; have := V8.out; omega) ia (by omega) ib (by omega))
        have SY2 := Lib.hid says2
        have c1 := R8.out.head.c1
        clear says2 ia la ib lb
        unfold ptrV at MK
        go_wp2_with fail
        clear c1
        refine MK.out.mono ?_
        intro e w9 hout
        clear MK
        rcases hout with ⟨k, m3, h3, cs3, c, rfl, s9, e9, i9, l9, y9, v9, bb9, sw9, c9, fr9, nx9⟩ | ⟨rfl, hbel, hfull⟩
        · have R9 := Lib.hid (R8.out.next s9 e9 v9 sw9 nx9)
          have ON9 := Lib.hid (Next.onext (o := o) (mb := some b) nx9)
          have FR9 := Lib.hid (ON9.out.row FR8.out NQ8.out)
          have E9 := Lib.hid e9
          have I9 := Lib.hid i9
          have L9 := Lib.hid l9
          have V9 := Lib.hid v9
          have BB9 := Lib.hid bb9
          have S9 := Lib.hid sw9
          have C9 := Lib.hid c9
          have FS9 := Lib.hid fr9
          have e1 : h1.V = h.V := V7.out
          have e2 : h2.V = h.V := V8.out.trans V7.out
          have e3 : h3.V = h.V := v9.trans e2
          have SY : ∀ val, Says h.V cs3 val k = qsem h.V cs val q1 := by
            have g1 : NGood h.V cs1 := e1 ▸ R7.out.st.good
            have g2 : NGood h.V cs2 := e2 ▸ R8.out.st.good
            have y2 := SY2.out
            rw [e1] at y2
            rw [e2] at y9
            exact join_sem RR.out.st.good g1 g2 E7.out E8.out H1.out AT1.out SY1.out y2 y9 SEM.out
          have X3 : Ext cs cs3 := (E7.out.trans E8.out).trans e9
          have g3 : NGood h.V cs3 := e3 ▸ s9.good
          have TD : Told h3.V cs3 q1 k := by
            refine ⟨Q0.out.ext X3, ⟨c, i9, fun u' hu' => ?_⟩, fun val => ?_⟩
            · have := UU.out u' (Q0.out.back X3 hu')
              omega
            · rw [e3, SY val, Q0.out.sem X3 RR.out.st.good g3]
          have YY := Lib.hid SY
          have R9D := Lib.hid (R9.out.keep (below_drew w9))
          have LN : Hid (N2 < 2000000) := by show N2 < 2000000; have := HNN.out; have := P2.out; have := P1.out; have := N7.out; have := N8.out; omega
          have KN : Hid (k < 9223372036854775808) := by show k < _; have := i9.lt; have := s9.lay.len; omega
          obtain ⟨w10, hmu, r10, t10⟩ := R9D.out.put LN.out HF.out KN.out TD
          have R10 := Lib.hid r10
          have T10 := Lib.hid t10
          have AK : Hid (At cs3 u k) := ⟨c, i9, by have := V2.out; omega⟩
          clear s9 e9 i9 l9 y9 v9 bb9 sw9 c9 fr9 nx9 e1 e2 e3 SY X3 g3 TD r10 t10
          obtain ⟨z0, z1, z2, z3, zf⟩ := qu_cells FR9.out
          have c5 := R9.out.head.c5
          unfold quV at hmu
          go_wp2_with fail
          go_region
          go_wp2_with fail
          go_ret2
          have P2' := P2.out
          have P1' := P1.out
          have C7' := C7.out
          have C8' := C8.out
          have C9' := C9.out
          have N7' := N7.out
          have N8' := N8.out
          refine ⟨k, 0, m3, h3, cs3, N2 + 1, rfl, R10.out, (E7.out.trans E8.out).trans E9.out, (FS7.out.trans FS8.out).trans FS9.out, V9.out.trans (V8.out.trans V7.out), BB9.out.trans (BB8.out.trans BB7.out), S9.out.trans (S8.out.trans S7.out), by omega, by omega, ?_, .inl ⟨rfl, AK.out, fun val => (YY.out val).trans (SQ.out val)⟩⟩
          exact ((((ONext.below FD6.out).trans ON7.out).trans ON8.out).trans ON9.out).trans ((ONext.below (below_drew w9)).trans (ONext.put T10.out))
        · have HF9 := Lib.hid hfull
          have BL9 := Lib.hid hbel
          clear hfull hbel
          go_wp2_with fail
          go_ret2
          have P2' := P2.out
          have P1' := P1.out
          have C7' := C7.out
          have C8' := C8.out
          have N7' := N7.out
          have N8' := N8.out
          have HF' := HF9.out
          have B7' := BB7.out
          have B8' := BB8.out
          exact ⟨0, 30, m2, h2, cs2, N2, rfl, R8.out.keep BL9.out, E7.out.trans E8.out, FS7.out.trans FS8.out, V8.out.trans V7.out, BB8.out.trans BB7.out, S8.out.trans S7.out, by omega, by omega, (((ONext.below FD6.out).trans ON7.out).trans ON8.out).trans (ONext.below BL9.out), .inr ⟨rfl, rfl, by omega⟩⟩
      · have HB := Lib.hid hb
        clear hb
        go_wp2_with fail
        go_ret2
        have P2' := P2.out
        have P1' := P1.out
        have C7' := C7.out
        have C8' := C8.out
        have N7' := N7.out
        have N8' := N8.out
        have HB' := HB.out
        have B7' := BB7.out
        exact ⟨0, 30, m2, h2, cs2, N2, rfl, R8.out, E7.out.trans E8.out, FS7.out.trans FS8.out, V8.out.trans V7.out, BB8.out.trans BB7.out, S8.out.trans S7.out, by omega, by omega, ((ONext.below FD6.out).trans ON7.out).trans ON8.out, .inr ⟨rfl, rfl, by omega⟩⟩
    · have HB := Lib.hid hb
      clear hb
      go_wp2_with fail
      go_ret2
      have P2' := P2.out
      have P1' := P1.out
      have C7' := C7.out
      have N7' := N7.out
      have HB' := HB.out
      exact ⟨0, 30, m1, h1, cs1, N1, rfl, R7.out, E7.out, FS7.out, V7.out, BB7.out, S7.out, by omega, by omega, (ONext.below FD6.out).trans ON7.out, .inr ⟨rfl, rfl, by omega⟩⟩

theorem answer_any (o b : Nat) : ∀ n, AnsAt o b n := by
  intro n
  induction n with
  | zero =>
    intro w m h cs N u q r hq hu0 hu hn hN
    cases ht : (settleQ q).2.2 with
    | true => exact answer_told r hq hu ht 0
    | false =>
      obtain ⟨hq1, _, h2⟩ := (settle_ok r.st.good hu hq).left ht
      have := splitV_range r.st.good hq1 h2
      omega
  | succ n ih =>
    intro w m h cs N u q r hq hu0 hu hn hN
    cases ht : (settleQ q).2.2 with
    | true => exact answer_told r hq hu ht (n + 1)
    | false => exact answer_step ih r hq hu0 hu hn hN ht
end Go.Proofs.Ytfdebadmikmnaaa
