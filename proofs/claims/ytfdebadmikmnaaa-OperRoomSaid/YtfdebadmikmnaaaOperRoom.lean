/- For any two numbers of sixteen bits, each operation and so much room: with little room an operation gives what it must, or ErrBudget, and nothing else: the law returns true. No condition. -/
import Derived.Test.YtfdebadmikmnaaaOperTables
import Derived.Deep.RegionHeld3
namespace Go.Proofs.Ytfdebadmikmnaaa
open Go.ChangeShapes Go.WideShapes Go.ChangeAt Go.RowKit Go.Maps

theorem room5 (z : Int) : ∃ r : Nat, r < 32 ∧ bits BinOp.and IntKind.i64 z 31 = (r : Int) := by
  refine ⟨(z % 32).toNat, by omega, ?_⟩
  show IntKind.i64.wrap ((BitVec.ofInt 64 z &&& BitVec.ofInt 64 ((31 : Nat) : Int)).toNat : Int) = _
  have h := Nat.and_two_pow_sub_one_eq_mod (BitVec.ofInt 64 z).toNat 5
  rw [BitVec.toNat_and, ofInt_i64 31 (by omega), show (31 : Nat) = 2 ^ 5 - 1 from rfl, h, IntKind.wrap_i64, BitVec.toNat_ofInt]
  omega

section
variable {W : World} {B : Nat} {m : Mem} {h : Hd} {cs : List Nd} {o : Nat} {mb : Option Nat} {c : Nat} {w : World}

theorem LSt.full {m : Mem} {h : Hd} {cs : List Nd} {mb : Option Nat} {c : Nat} {w : World} (l : LSt W B m h cs o mb c w) : LSt W B m h cs o mb B w := ⟨l.ost, l.V, l.B, l.B ▸ l.ost.st.room, l.below, l.own⟩

/-- Nodes made, if there is room. -/
theorem LSt.tryMake (l : LSt W B m h cs o mb c w) {n : Int} {e : Ending} {w' : World} (a : MakeOut4 m h cs n w e w') :
    ∃ (k : Nat) (t : Bool) (m' : Mem) (h' : Hd) (cs' : List Nd), e = .returned (.tuple #[.int .i64 (k : Int), .bool t]) ∧ LSt W B m' h' cs' o mb B w' ∧ Ext cs cs' ∧ m'.s = m.s ∧ (t = true → At cs' 0 k ∧ ∀ val, Says 4 cs' val k = bitZ n (tix val 4 0 0)) := by
  obtain ⟨k, t, m', h', cs', rfl, st, ex, fr, v, b, s, cn, on, hout⟩ := a
  refine ⟨k, t, m', h', cs', rfl, (l.next st ex v b s (Nat.le_refl _) on).full, ex, on.s, fun ht => ?_⟩
  rcases hout with ⟨_, hat, hs⟩ | ⟨h0, _⟩
  · exact ⟨hat, hs⟩
  · rw [ht] at h0; cases h0

/-- An operation asked, if there is room. -/
theorem LSt.tryAsk (l : LSt W B m h cs o mb c w) {q : Qu} {e : Ending} {w' : World} (a : AskOut m h cs o mb q w e w') :
    ∃ (k : Nat) (x : Int) (m' : Mem) (h' : Hd) (cs' : List Nd) (mb' : Option Nat), e = .returned (.tuple #[.int .i64 (k : Int), .int .i64 x]) ∧ LSt W B m' h' cs' o mb' B w' ∧ Ext cs cs' ∧ m'.s = m.s ∧ ((x = 0 ∧ At cs' 0 k ∧ ∀ val, Says 4 cs' val k = qsem 4 cs val q) ∨ (x = 30 ∧ k = 0)) := by
  obtain ⟨k, x, m', h', cs', mb', rfl, os, ex, fr, v, b, s, cn, on, hout⟩ := a
  obtain ⟨b1, o1⟩ := on.to_below l.below l.own l.below.size
  have hV := l.V
  refine ⟨k, x, m', h', cs', mb', rfl, LSt.full (c := _root_.Go.Proofs.Ytfdebadmikmnaaa.cnt cs') ⟨os, v.trans l.V, b.trans l.B, Nat.le_refl _, b1, o1⟩, ex, on.s, ?_⟩
  rcases hout with ⟨rfl, hat, hs⟩ | ⟨rfl, rfl, _⟩
  · rw [hV] at hs
    exact .inl ⟨rfl, hat, hs⟩
  · exact .inr ⟨rfl, rfl⟩
end

set_option maxHeartbeats 8000000 in
set_option maxRecDepth 100000 in
theorem room_core (x y z kd rm : Int) (w : World) : Calls Try.prog 6 #[.agg #[.int .i64 x, .int .i64 y, .int .i64 z], .int .i64 kd, .int .i64 rm] w fun e w' => e = .returned (.bool true) ∧ Below w.heap.size w w' := by
  obtain ⟨a, ha, ea⟩ := low16 x
  obtain ⟨b, hb, eb⟩ := low16 y
  obtain ⟨c, hc, ec⟩ := low16 z
  obtain ⟨r, hr5, er⟩ := room5 rm
  obtain ⟨j, K, -, hK, ej, ek, -⟩ := kind6 kd
  have bw := (Below.refl w.heap.size w).alloc (Nat.le_refl _) (.cells #[.int .i64 x, .int .i64 y, .int .i64 z] 22)
  have hr := heap_alloc_new w (.cells #[.int .i64 x, .int .i64 y, .int .i64 z] 22)
  have BG := begun_any (20 + r) (by omega) (by omega) (w.alloc (.cells #[.int .i64 x, .int .i64 y, .int .i64 z] 22))
  rw [show ((20 + r : Nat) : Int) = 20 + (r : Int) by omega] at BG
  have BG := Lib.hid BG
  have BW := Lib.hid bw
  have HR := Lib.hid hr
  have HA := Lib.hid ha
  have HB := Lib.hid hb
  have HC := Lib.hid hc
  have HK := Lib.hid hK
  have AW := Lib.hid awake4
  have r0 : (0 : Int) ≤ (r : Int) := by omega
  have r1 : (r : Int) < 32 := by omega
  clear bw hr ha hb hc hK hr5
  go_enter Try.func6, Try.ntmps6
  go_wp2_with fail
  refine BG.out.mono ?_
  rintro e w1 ⟨m1, o, rfl, l1⟩
  have L1 := Lib.hid l1
  clear l1 BG
  unfold ptrV at *
  have x0 := cell_of_row _ _ 0 _ _ _ ((L1.out.below.block _ (row_lt HR.out)).trans HR.out)
  simp at x0
  have T := make_any L1.out.ost.st L1.out.V (a : Int)
  unfold ptrV at T
  have T := Lib.hid T
  go_wp2_with fail
  clear x0
  refine T.out.mono ?_
  intro e w2 hout
  obtain ⟨nx, p, m2, h2, cs2, rfl, l2, ex, sN, aN⟩ := L1.out.tryMake hout
  clear hout T
  have IN_nx_2 := Lib.hid aN
  have S2 := Lib.hid (sN)
  have L2 := Lib.hid l2
  clear l2 ex sN aN L1
  have x1 := cell_of_row _ _ 1 _ _ _ ((L2.out.below.block _ (row_lt HR.out)).trans HR.out)
  simp at x1
  have T := make_any L2.out.ost.st L2.out.V (b : Int)
  rw [S2.out] at T
  unfold ptrV at T
  have T := Lib.hid T
  go_wp2_with fail
  clear x1
  refine T.out.mono ?_
  intro e w3 hout
  obtain ⟨ny, q, m3, h3, cs3, rfl, l3, ex, sN, aN⟩ := L2.out.tryMake hout
  clear hout T
  have IN_nx_3 : Hid (p = true → At cs3 0 nx ∧ ∀ val, Says 4 cs3 val nx = bitZ (a : Int) (tix val 4 0 0)) := fun hk => ⟨(IN_nx_2.out hk).1.ext ex, Says_at (IN_nx_2.out hk).1 ex L2.out.good l3.good (IN_nx_2.out hk).2⟩
  clear IN_nx_2
  have IN_ny_3 := Lib.hid aN
  have S3 := Lib.hid (sN.trans S2.out)
  have L3 := Lib.hid l3
  clear l3 ex sN aN L2 S2
  have x2 := cell_of_row _ _ 2 _ _ _ ((L3.out.below.block _ (row_lt HR.out)).trans HR.out)
  simp at x2
  have T := make_any L3.out.ost.st L3.out.V (c : Int)
  rw [S3.out] at T
  unfold ptrV at T
  have T := Lib.hid T
  go_wp2_with fail
  clear x2
  refine T.out.mono ?_
  intro e w4 hout
  obtain ⟨nz, t, m4, h4, cs4, rfl, l4, ex, sN, aN⟩ := L3.out.tryMake hout
  clear hout T
  have IN_nx_4 : Hid (p = true → At cs4 0 nx ∧ ∀ val, Says 4 cs4 val nx = bitZ (a : Int) (tix val 4 0 0)) := fun hk => ⟨(IN_nx_3.out hk).1.ext ex, Says_at (IN_nx_3.out hk).1 ex L3.out.good l4.good (IN_nx_3.out hk).2⟩
  clear IN_nx_3
  have IN_ny_4 : Hid (q = true → At cs4 0 ny ∧ ∀ val, Says 4 cs4 val ny = bitZ (b : Int) (tix val 4 0 0)) := fun hk => ⟨(IN_ny_3.out hk).1.ext ex, Says_at (IN_ny_3.out hk).1 ex L3.out.good l4.good (IN_ny_3.out hk).2⟩
  clear IN_ny_3
  have IN_nz_4 := Lib.hid aN
  have S4 := Lib.hid (sN.trans S3.out)
  have L4 := Lib.hid l4
  clear l4 ex sN aN L3 S3
  cases p with
  | false =>
    go_wp2_with fail
    refine (AW.out _).mono ?_
    rintro e w9 ⟨rfl, hb9⟩
    have B9 := Lib.hid (L4.out.below.trans (hb9.mono L4.out.below.size))
    clear hb9
    go_wp2_with fail
    go_ret
    exact ⟨rfl, BW.out.trans (B9.out.mono BW.out.size)⟩
  | true =>
  cases q with
  | false =>
    go_wp2_with fail
    refine (AW.out _).mono ?_
    rintro e w9 ⟨rfl, hb9⟩
    have B9 := Lib.hid (L4.out.below.trans (hb9.mono L4.out.below.size))
    clear hb9
    go_wp2_with fail
    go_ret
    exact ⟨rfl, BW.out.trans (B9.out.mono BW.out.size)⟩
  | true =>
  cases t with
  | false =>
    go_wp2_with fail
    refine (AW.out _).mono ?_
    rintro e w9 ⟨rfl, hb9⟩
    have B9 := Lib.hid (L4.out.below.trans (hb9.mono L4.out.below.size))
    clear hb9
    go_wp2_with fail
    go_ret
    exact ⟨rfl, BW.out.trans (B9.out.mono BW.out.size)⟩
  | true =>
    obtain ⟨ax, sx⟩ := IN_nx_4.out rfl
    obtain ⟨ay, sy⟩ := IN_ny_4.out rfl
    obtain ⟨az, sz⟩ := IN_nz_4.out rfl
    have T := Lib.hid (does_good L4.out.ost L4.out.room HK.out ax ay az)
    have MS : Hid (∀ val, qsem 4 cs4 val (qOf K nx ny nz) = bitZ (mustN K a b c : Nat) (tix val 4 0 0)) := must_says sx sy sz
    have ML := Lib.hid (mustN_lt (K := K) HA.out HB.out HC.out)
    have MU := Lib.hid (fun w => must_any (w := w) HK.out HA.out HB.out HC.out)
    unfold MustOut at MU
    revert MU ML MS
    generalize mustN K a b c = M
    intro MS ML MU
    have AX := Lib.hid ax
    have AY := Lib.hid ay
    have SX := Lib.hid sx
    have SY := Lib.hid sy
    clear ax ay az sx sy sz IN_nx_4 IN_ny_4 IN_nz_4
    go_wp2_with fail
    refine T.out.mono ?_
    intro e w5 hout
    obtain ⟨n, xe, m5, h5, cs5, mb5, rfl, l5, ex, sN, hout⟩ := L4.out.tryAsk hout
    clear T
    rcases hout with ⟨rfl, an, sn⟩ | ⟨rfl, rfl⟩
    · have sn : ∀ val, Says 4 cs5 val n = bitZ (M : Int) (tix val 4 0 0) := fun val => (sn val).trans (MS.out val)
      have SYN : ∀ u : World, Below w5.heap.size w5 u → Calls Try.prog 13 #[.pointer (some ⟨m1.s, 0, none⟩), .int .i64 n] u fun e w' => e = .returned (.int .i64 (M : Int)) ∧ Below u.heap.size u w' := fun u hu => by
        have := says_any (l5.keep hu).ost.st (l5.keep hu).V an
        unfold SaysOut at this
        rw [ans_bits sn ML.out, sN.trans S4.out] at this
        exact this
      have SYN := Lib.hid SYN
      have L5 := Lib.hid l5
      clear l5 ex sN an sn
      have rc := (L5.out.below.block _ (row_lt HR.out)).trans HR.out
      have c0 := cell_of_row _ _ 0 _ _ _ rc
      have c1 := cell_of_row _ _ 1 _ _ _ rc
      have c2 := cell_of_row _ _ 2 _ _ _ rc
      simp at c0 c1 c2
      clear rc
      go_wp2_with fail
      go_region_held3 (fun u' => u'.cell? ⟨w.heap.size, 0, none⟩ = some (.int .i64 x) ∧ u'.cell? ⟨w.heap.size, 1, none⟩ = some (.int .i64 y) ∧ u'.cell? ⟨w.heap.size, 2, none⟩ = some (.int .i64 z))
        (first | exact ⟨c0, c1, c2⟩ | exact ⟨by assumption, by assumption, by assumption⟩ | go_keep)
        (first
          | (go_at_call 13; refine (SYN.out _ (below_drew _)).mono ?_; rintro e w6 ⟨rfl, hb6⟩; have B6 := Lib.hid ((L5.out.below.trans ((below_drew w5).mono L5.out.below.size)).trans (hb6.mono (L5.out.below.trans ((below_drew w5).mono L5.out.below.size)).size)); clear hb6; have rd := (B6.out.block _ (row_lt HR.out)).trans HR.out; have d0 := cell_of_row _ _ 0 _ _ _ rd; have d1 := cell_of_row _ _ 1 _ _ _ rd; have d2 := cell_of_row _ _ 2 _ _ _ rd; simp at d0 d1 d2; clear rd)
          | (go_at_call 11; refine (MU.out _).mono ?_; rintro e w' ⟨rfl, rfl⟩)
          | (go_at_call 14; refine (AW.out _).mono ?_; rintro e w7 ⟨rfl, hb7⟩; have B7 := Lib.hid (B6.out.trans (hb7.mono B6.out.size)); clear hb7; have rf := (B7.out.block _ (row_lt HR.out)).trans HR.out; have f0 := cell_of_row _ _ 0 _ _ _ rf; have f1 := cell_of_row _ _ 1 _ _ _ rf; have f2 := cell_of_row _ _ 2 _ _ _ rf; simp at f0 f1 f2; clear rf))
      go_wp2_with fail
      go_ret
      exact ⟨rfl, BW.out.trans (B7.out.mono BW.out.size)⟩
    · have sx5 := Says_at AX.out ex L4.out.good l5.good SX.out
      have sy5 := Says_at AY.out ex L4.out.good l5.good SY.out
      have ax5 := AX.out.ext ex
      have ay5 := AY.out.ext ex
      have SYX : ∀ u : World, Below w5.heap.size w5 u → Calls Try.prog 13 #[.pointer (some ⟨m1.s, 0, none⟩), .int .i64 nx] u fun e w' => e = .returned (.int .i64 (a : Int)) ∧ Below u.heap.size u w' := fun u hu => by
        have := says_any (l5.keep hu).ost.st (l5.keep hu).V ax5
        unfold SaysOut at this
        rw [ans_bits sx5 HA.out, sN.trans S4.out] at this
        exact this
      have SYY : ∀ u : World, Below w5.heap.size w5 u → Calls Try.prog 13 #[.pointer (some ⟨m1.s, 0, none⟩), .int .i64 ny] u fun e w' => e = .returned (.int .i64 (b : Int)) ∧ Below u.heap.size u w' := fun u hu => by
        have := says_any (l5.keep hu).ost.st (l5.keep hu).V ay5
        unfold SaysOut at this
        rw [ans_bits sy5 HB.out, sN.trans S4.out] at this
        exact this
      have LN : ∀ u : World, Below w5.heap.size w5 u → Calls Try.prog 22 #[.pointer (some ⟨m1.s, 0, none⟩)] u fun e w' => e = .returned (.int .i64 (cnt cs5)) ∧ u = w' := fun u hu => by
        have := len_store (l5.keep hu).ost.st.lay
        rw [(l5.keep hu).ost.st.nodes, sN.trans S4.out] at this
        exact this
      have hcn : (cnt cs5 : Int) ≤ 20 + (r : Int) := by have := l5.cnt; omega
      have hwr : IntKind.i64.wrap (20 + (r : Int)) = 20 + (r : Int) := by rw [IntKind.wrap_i64]; omega
      have hcb : decide ((cnt cs5 : Int) ≤ IntKind.i64.wrap (20 + (r : Int))) = true := decide_eq_true (by rw [hwr]; exact hcn)
      clear hwr
      have SYX := Lib.hid SYX
      have SYY := Lib.hid SYY
      have LN := Lib.hid LN
      have L5 := Lib.hid l5
      clear l5 ex sN sx5 sy5 ax5 ay5 AX AY SX SY
      have rc := (L5.out.below.block _ (row_lt HR.out)).trans HR.out
      have c0 := cell_of_row _ _ 0 _ _ _ rc
      have c1 := cell_of_row _ _ 1 _ _ _ rc
      have c2 := cell_of_row _ _ 2 _ _ _ rc
      simp at c0 c1 c2
      clear rc
      go_wp2_with fail
      go_region_held3 (fun u' => u'.cell? ⟨w.heap.size, 0, none⟩ = some (.int .i64 x) ∧ u'.cell? ⟨w.heap.size, 1, none⟩ = some (.int .i64 y) ∧ u'.cell? ⟨w.heap.size, 2, none⟩ = some (.int .i64 z))
        (first | exact ⟨c0, c1, c2⟩ | exact ⟨by assumption, by assumption, by assumption⟩ | go_keep)
        (first
          | (go_at_call 22; refine (LN.out _ (below_drew _)).mono ?_; rintro e w' ⟨rfl, rfl⟩)
          | (go_at_call 13; (with_reducible refine (SYX.out _ (below_drew _)).mono ?_); rintro e w6 ⟨rfl, hb6⟩; have B6 := Lib.hid ((below_drew w5).trans (hb6.mono (below_drew w5).size)); have BL6 := Lib.hid (L5.out.below.trans (B6.out.mono L5.out.below.size)); clear hb6; have rd := (BL6.out.block _ (row_lt HR.out)).trans HR.out; have d0 := cell_of_row _ _ 0 _ _ _ rd; have d1 := cell_of_row _ _ 1 _ _ _ rd; have d2 := cell_of_row _ _ 2 _ _ _ rd; simp at d0 d1 d2; clear rd)
          | (go_at_call 13; (with_reducible refine (SYY.out _ B6.out).mono ?_); rintro e w7 ⟨rfl, hb7⟩; have B7 := Lib.hid (BL6.out.trans (hb7.mono BL6.out.size)); clear hb7; have rf := (B7.out.block _ (row_lt HR.out)).trans HR.out; have f0 := cell_of_row _ _ 0 _ _ _ rf; have f1 := cell_of_row _ _ 1 _ _ _ rf; have f2 := cell_of_row _ _ 2 _ _ _ rf; simp at f0 f1 f2; clear rf)
          | (go_at_call 14; refine (AW.out _).mono ?_; rintro e w8 ⟨rfl, hb8⟩; have B8 := Lib.hid (B7.out.trans (hb8.mono B7.out.size)); clear hb8; have rg := (B8.out.block _ (row_lt HR.out)).trans HR.out; have g0 := cell_of_row _ _ 0 _ _ _ rg; have g1 := cell_of_row _ _ 1 _ _ _ rg; have g2 := cell_of_row _ _ 2 _ _ _ rg; simp at g0 g1 g2; clear rg))
      go_wp2_with fail
      go_ret
      exact ⟨rfl, BW.out.trans (B8.out.mono BW.out.size)⟩

theorem operRoom_walk (v : Value) (kd rm : Int) (w : World) (h : ∃ k : Key, v = .agg #[.int .i64 k.a, .int .i64 k.b, .int .i64 k.c]) (_hk : (Lit.int .i64 kd).wf = true) (_hr : (Lit.int .i64 rm).wf = true) :
    Calls Try.prog 6 #[v, .int .i64 kd, .int .i64 rm] w fun e w' => e = .returned (.bool true) ∧ Below w.heap.size w w' := by
  obtain ⟨k, rfl⟩ := h
  exact room_core k.a k.b k.c kd rm w

namespace operRoom
set_option linter.unusedVariables false
theorem own : ownKnob Try.prog.godebug = none := by kernel_rfl
theorem laidOut : laidOutB Try.prog = true := by kernel_rfl
set_option maxRecDepth 100000 in
theorem lifted (os : Os) (started : os.Started) (H : Type) (enc : TypeId × Value → H) :
    ReturnsInHanded {} Try.checked os 6 .any (Rows.operRoomSpec.pre6 enc Try.prog Try.f6 Rows.operRoomRow.domain false) (Rows.operRoomSpec.post enc Try.prog Try.f6 false true false false) := by
  refine returnsInHanded_of_change (C := Try.checked) own started (by kernel_rfl) Try.func6
    (ChangeSpec.witness6 (enc := enc) (C := Try.checked) false ⟨#[], #[.agg #[.int .i64 0, .int .i64 0, .int .i64 0], .int .i64 0, .int .i64 0], []⟩ 8 (by kernel_rfl) (by kernel_rfl) (by kernel_rfl) (by kernel_rfl)) ?_
  intro W base args ds gs before hval0 hW hcnd hsz
  have hval : ∀ (j : Nat) t v, Try.f6.params[j]? = some t → args[j]? = some v → Value.okWide Try.prog W .any base t v := hval0
  have hW' := hW
  obtain ⟨p, q, hA0, hV, rfl, hfz, hnd⟩ := hW
  have hA : DataW.TrodAll enc Try.prog W 0 (fun _ => true) true Try.f6.params.toList args.toList ds p := hA0
  rw [Try.params6] at hA hval
  obtain ⟨v0, vs0, d0, ds0, p0, q0, hargs, rfl, rfl, h0, r0⟩ := trodAll_cons hA
  obtain ⟨v1, vs1, d1, ds1, p1, q1, rfl, rfl, rfl, h1, r1⟩ := trodAll_cons r0
  obtain ⟨v2, vs2, d2, ds2, p2, q2, rfl, rfl, rfl, h2, r2⟩ := trodAll_cons r1
  obtain ⟨rfl, rfl, rfl⟩ := trodAll_nil r2
  obtain rfl : args = #[v0, v1, v2] := by cases args; simp_all
  obtain ⟨rfl, rfl⟩ := trodVars_none hV
  have k0 := h0
  have lt0 : ∀ x ∈ p0, x.block < W.heap.size := by obtain ⟨m, hm⟩ := k0; exact DataW.trod_lt m _ _ _ hm
  obtain ⟨a1, rfl, rfl, rfl, w1⟩ := open_int Try.underlying3 (hval 1 3 v1 rfl rfl) h1
  obtain ⟨a2, rfl, rfl, rfl, w2⟩ := open_int Try.underlying3 (hval 2 3 v2 rfl rfl) h2
  clear hA0 hval0
  refine (operRoom_walk v0 a1 a2 W (arg_key h0 (hval 0 22 v0 rfl rfl)) w1 w2).mono fun e W' ⟨he, bel⟩ => ?_
  subst he
  exact ⟨_, rfl, _, _, _, [], _, [], hW', trodAll_mk1 (shut_bool Try.underlying4 _), (trodAll_cons_mk (Below.trod laidOut (by kernel_rfl) (of_decide_eq_true (by kernel_rfl)) k0 bel lt0) (trodAll_cons_mk (shut_int Try.underlying3 w1) (trodAll_cons_mk (shut_int Try.underlying3 w2) trodAll_mk0))), rfl, bel.frame _, fun h => by cases h⟩
theorem over : Rows.operRoomRow.holds Try.pinned (OpenSpec.ofChange Rows.operRoomSpec) :=
  OpenClaim.holds_of_wide 6 Try.f6 rfl rfl rfl rfl rfl rfl rfl ⟨rfl, rfl, rfl, rfl, rfl⟩ rfl rfl rfl rfl rfl (by kernel_rfl) Try.func6 (by kernel_rfl)
    (of_decide_eq_true (by kernel_rfl)) (by unfold Func.isWrapper; first | (rw [if_pos (by decide +kernel)]; kernel_rfl) | (rw [if_neg (by decide +kernel)]; exact ⟨rfl, rfl⟩))
    (fun os started H enc _ => lifted os started H enc)
/-- THE STATEMENT. -/
theorem proved : Rows.OperRoomSaid := over
end operRoom
#print axioms operRoom.proved
end Go.Proofs.Ytfdebadmikmnaaa
