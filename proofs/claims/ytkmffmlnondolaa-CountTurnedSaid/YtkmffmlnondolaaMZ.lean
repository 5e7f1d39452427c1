/- Merged: CNumG, CEach, CManyP, CEach4. -/
import Derived.Test.YtkmffmlnondolaaMY
import Derived.Test.YtkmffmlnondolaaMX
import Derived.Test.YtkmffmlnondolaaMR
import Derived.Test.YtkmffmlnondolaaMT
import Derived.Test.YtkmffmlnondolaaMU

/- Layer 6 (count): numbers: the values of a list's variables for which a node says true, rising. -/
namespace Go.Proofs.Ytkmffmlnondolaa
open Go.ChangeShapes Go.WideShapes Go.ChangeAt Go.RowKit Go.Maps

theorem nats_intsC (vs : List Nat) : intsC (vs.map fun v : Nat => (v : Int)) = nats vs := by unfold intsC nats; simp

/-- The boxes as the walk finds them. -/
theorem nums_world {w w1 : World} {m : Mem} {h : Hd} {cs : List Nd} (s : St w m h cs) {vs : List Nat} {n : Nat} (hnn : vs.length = n) {q off c : Nat} (hr : Rd w (some ⟨q, off, none⟩) (nats vs)) (hq : q < w.heap.size)
    (b1 : Below w.heap.size w w1) (c1 : w1.heap[w.heap.size]? = some (.cells #[ptrV m.s] 22)) (c2 : w1.heap[w.heap.size + 1]? = some (.cells #[.slice (some ⟨q, off, none⟩) n c] 27)) :
    NSt ⟨w1.heap.size + 2, w1.heap.size, w.heap.size, w.heap.size + 1, w1.heap.size + 3, w1.heap.size + 1⟩ m h cs (w1.heap.size + 4) n (some ⟨q, off, none⟩) c vs [] (fun _ => false)
      ((((w1.alloc (.cells #[.slice none 0 0] 27)).alloc (.cells (Array.replicate n (Value.bool false)) 4)).alloc (.cells #[.slice (some ⟨w1.heap.size + 1, 0, none⟩) n n] 95)).alloc (.cells #[NEnv.fv ⟨w1.heap.size + 2, w1.heap.size, w.heap.size, w.heap.size + 1, w1.heap.size + 3, w1.heap.size + 1⟩] 102)) := by
  subst hnn
  have b2 := ((((Below.refl w1.heap.size w1).alloc (Nat.le_refl _) (.cells #[.slice none 0 0] 27)).alloc (by simp) (.cells (Array.replicate vs.length (Value.bool false)) 4)).alloc (by simp; omega) (.cells #[.slice (some ⟨w1.heap.size + 1, 0, none⟩) vs.length vs.length] 95)).alloc (by simp; omega) (.cells #[NEnv.fv ⟨w1.heap.size + 2, w1.heap.size, w.heap.size, w.heap.size + 1, w1.heap.size + 3, w1.heap.size + 1⟩] 102)
  have z1 := row_lt c2
  have own := s.own_lt
  refine ⟨(s.keep b1).keep b2, (b2.block _ (by show w.heap.size < _; omega)).trans c1, ⟨_, at_oldC _ (at_oldC _ (at_oldC _ (heap_alloc_new w1 _))), NRow.nil _ _⟩, at_oldC _ (at_newC _ (by simp)), ?_, (b2.block _ z1).trans c2, at_newC _ (by simp), (hr.keep b1).keep b2, fun b o e => ?_, fun i hi => ?_, ?_, ?_, by simp⟩
  · rw [at_oldC _ (at_oldC _ (at_newC _ (by simp)))]
    unfold boolRow
    congr 2
    apply Array.ext'
    simp
    exact List.ext_getElem (by simp) (by simp)
  · injection e with e; injection e with e1 e2; subst e1
    show _ ∧ _ ≠ _ ∧ _ ≠ _
    simp only
    omega
  · have := own i hi
    show _ ∧ _ ≠ _ ∧ _ ≠ _
    simp only
    omega
  · show _ < _ ∧ _ < _ ∧ _ < _ ∧ _ < _ ∧ _ < _ ∧ _ < _
    simp only
    omega
  · show _ ≠ _
    simp only
    omega

set_option maxRecDepth 100000 in
set_option maxHeartbeats 4000000 in
theorem numbers_any {w : World} {m : Mem} {h : Hd} {cs : List Nd} (s : St w m h cs) {k c : Nat} {d : Nd} {A : Option Addr} {vs : List Nat} {n : Nat} (hnn : vs.length = n) (hd : Is cs k d) (hrd : Rd w A (nats vs)) (h0 : 0 < n) (hn : n ≤ 62) (hvs : vs.Nodup) (hV : ∀ v ∈ vs, v < h.V) (hh : Has cs k vs) (hl : cntN (sayN h.V cs vs k) (orderL (vs.map fun v : Nat => (v : Int))) (fun _ => false) ≤ 1000000) :
    Calls Try.prog 31 #[ptrV m.s, .int .i64 (k : Int), .slice A n c] w fun e w' => ∃ v, e = .returned v ∧ NRow w' w.heap.size v ((List.range (2 ^ n)).filter fun x => sayN h.V cs vs k (bitN x)) ∧ Below w.heap.size w w' := by
  obtain ⟨q, off, rfl, hq⟩ : ∃ q off, A = some ⟨q, off, none⟩ ∧ q < w.heap.size := by
    rcases hrd with e | ⟨q, off, e, hlt, _⟩
    · simp [nats] at e; rw [e] at hnn; simp at hnn; omega
    · exact ⟨q, off, e, hlt⟩
  obtain ⟨i0, hi, hz0, hz1, hz2⟩ := info_parts info_intC
  have S := Lib.hid s
  have b0 : Below w.heap.size w ((w.alloc (.cells #[ptrV m.s] 22)).alloc (.cells #[.slice (some ⟨q, off, none⟩) n c] 27)) := ((Below.refl _ _).alloc (Nat.le_refl _) _).alloc (by simp) _
  obtain ⟨w0, hw0⟩ : ∃ w0, w0 = ((w.alloc (.cells #[ptrV m.s] 22)).alloc (.cells #[.slice (some ⟨q, off, none⟩) n c] 27)) := ⟨_, rfl⟩
  have hz : w0.heap.size = w.heap.size + 2 := by rw [hw0]; simp
  have c1 : w0.heap[w.heap.size]? = some (.cells #[ptrV m.s] 22) := by rw [hw0]; exact at_oldC _ (heap_alloc_new w _)
  have c2 : w0.heap[w.heap.size + 1]? = some (.cells #[.slice (some ⟨q, off, none⟩) n c] 27) := by rw [hw0]; exact at_newC _ (by simp)
  rw [← hw0] at b0
  have ca : w0.cell? ⟨w.heap.size + 1, 0, none⟩ = some (.slice (some ⟨q, off, none⟩) n c) := cell_of_row _ _ 0 _ _ _ c2
  have B0 := Lib.hid b0
  have C1 := Lib.hid c1
  have C2 := Lib.hid c2
  have HW := Lib.hid hw0
  have HD := Lib.hid hd
  have HR := Lib.hid hrd
  have HH := Lib.hid hh
  have HLL := Lib.hid hl
  have HVS := Lib.hid hvs
  have HV := Lib.hid hV
  have NN := Lib.hid hnn
  have HZ0 := Lib.hid hz
  have HQ := Lib.hid hq
  clear hz hq
  clear s hd hrd hh hl hvs hV b0 c1 c2
  have hmk := run_make_bools n (by omega)
  clear hnn
  unfold ptrV at *
  go_enter Try.func31, Try.ntmps31
  go_wp2_with fail
  rw [← hw0]
  clear hw0
  go_loopw [7, 8, 14] (fun lv _ iv wr => ∃ j : Nat, j ≤ n ∧ iv = .int .i64 j ∧ NRow wr w0.heap.size lv (List.range j) ∧ Below w0.heap.size w0 wr) (fun _ _ iv _ => n - (intOf iv).toNat)
  case atStart => exact ⟨0, Nat.zero_le _, rfl, NRow.nil _ _, Below.refl _ _⟩
  case round =>
    obtain ⟨j, hj, rfl, hown, hbel⟩ := hrel
    by_cases hlt : j < n
    · have hlt' : (j : Int) < n := by omega
      have LS : Hid (List.range (j + 1) = List.range j ++ [j]) := List.range_succ
      have hsz := hbel.size
      have hlr : (List.range j).length = j := List.length_range
      go_wp2_with (at_builtin; refine wpList_append_own _ rfl _ _ 27 rfl w0.heap.size 3 i0 (.int .i64 0) 1 8 Try.underlying27 hi hz0 hz1 hz2 rfl (by decide) _ _ _ rfl (hown.alloc _) ⟨wr.heap.size, 0, none⟩ 1 1 [.int .i64 (j : Int)] rfl rfl ?c1 ?c2 ?c3 ?c4 ?c5 ?_)
      case c1 =>
        intro i u hu
        match i, hu with
        | 0, hu => simp at hu; subst hu; simp [Addr.add]
      case c2 => intro u hu; simp at hu; subst hu; rfl
      case c3 => unfold maxLen; rw [hlr]; omega
      case c4 => rw [hlr]; omega
      case c5 => simp; omega
      intro v' w5 hown' hgrow _
      have HO : Hid (NRow w5 w0.heap.size v' (List.range (j + 1))) := Lib.hid (by
        rw [LS.out]
        show w5.ownsRow _ _ _ v' (List.range j ++ [j]).length ((List.range j ++ [j]).map fun (x : Nat) => Value.int .i64 (x : Int))
        simpa only [nats, List.length_append, List.length_range, List.length_cons, List.length_nil, List.map_append, List.map_cons, List.map_nil, Nat.zero_add] using hown')
      have hb1 : Below w0.heap.size w0 w5 := (hbel.alloc (by omega) _).grown hgrow (by simp; omega) (by
        intro g hg
        rcases hown.2 with ⟨rfl, _⟩ | ⟨g', cap, cur, rfl, hb, _⟩
        · simp [Value.ownBlock] at hg
        · simp [Value.ownBlock] at hg; omega)
      clear hown' hgrow hown hbel
      go_wp2_with fail
      go_roundw
      case rel => exact ⟨j + 1, by omega, by go_num, HO.out, hb1⟩
      case measure => simp [intOf]; omega
    · obtain rfl : j = n := by omega
      have ca1 := (hbel.cell (World.block_lt_of_cell? w0 _ ca)).trans ca
      have RR := (HR.out.keep B0.out).keep hbel
      obtain ⟨g, gc, rfl⟩ := row_form hown (by simpa using h0)
      have hg : w0.heap.size ≤ g := by
        rcases hown.2 with ⟨e, _⟩ | ⟨g', cap, cur, e, hb, _⟩
        · cases e
        · injection e with e; injection e with e; injection e with e; omega
      have hzz := hbel.size
      have hz := HZ0.out
      have hq := HQ.out
      have LI : (vs.map fun v : Nat => (v : Int)).length = j := by rw [List.length_map]; exact NN.out
      have SO_own := hown.2
      have SO := sort_order (w := wr) (B := w0.heap.size) (t := w.heap.size + 1) (v := .slice (some ⟨g, 0, none⟩) j gc) (A := some ⟨q, off, none⟩) (L := vs.map fun v : Nat => (v : Int)) (c := c)
        (by have h := hown; unfold NRow at h; rw [List.length_range] at h; rw [LI]; exact h) (by omega) (by omega) (List.pairwise_map.2 (List.Pairwise.imp (fun h e => h (Int.ofNat.inj e)) HVS.out))
        (fun x hx => by obtain ⟨v, hv, rfl⟩ := List.mem_map.1 hx; have := HV.out v hv; have := S.out.V; omega)
        (by rw [LI]; exact ca1) (by rw [nats_intsC]; exact RR) (fun g' hg' => by simp [Value.ownBlock] at hg'; subst hg'; exact ⟨by omega, fun b o e => by injection e with e; injection e with e1 e2; omega⟩)
      have SO := Lib.hid SO
      have HB := Lib.hid hbel
      have LI := Lib.hid LI
      have GC : Hid (j ≤ gc) := Lib.hid (by
        rcases SO_own with ⟨e, _⟩ | ⟨g', cap, cur, e, hb, hr, h1, h2, _⟩
        · cases e
        · injection e with e1 e2 e3; subst e3; first | omega | (simp at h1 h2; omega))
      have GB : Hid (∀ g', (Value.slice (some ⟨g, 0, none⟩) j gc).ownBlock = some g' → w0.heap.size ≤ g') := fun g' hg' => by simp [Value.ownBlock] at hg'; omega
      have HZ := Lib.hid hzz
      have HG := Lib.hid hg
      clear hown hbel RR hlt hzz hg hz hq SO_own
      have hmf : ∀ (fn : Fn) (first cap : Array Value) (w : World), (Instr.makeFunc fn first cap).run Try.prog w = .ok (.func fn first cap) w := fun _ _ _ _ => rfl
      rw [List.length_range]
      unfold ptrV at *
      go_wp2_with fail
      refine SO.out.mono ?_
      rintro e w2 ⟨rfl, ho2, gr2⟩
      rw [LI.out] at ho2
      have hb2 : Below w0.heap.size w0 w2 := HB.out.grown gr2 HZ.out GB.out
      have hb3 : Below w.heap.size w w2 := B0.out.trans (hb2.mono B0.out.size)
      have hz := HZ0.out
      have hq := HQ.out
      have hg := HG.out
      have d1 := (hb2.block _ (row_lt C1.out)).trans C1.out
      have d2 := (hb2.block _ (row_lt C2.out)).trans C2.out
      have NW := nums_world S.out NN.out HR.out hq hb3 d1 d2
      have hgl : g < w2.heap.size := by
        rcases ho2.2 with ⟨e, _⟩ | ⟨g', cap, cur, e, hb, hr, _⟩
        · cases e
        · injection e with e1 e2 e3; injection e1 with e1; injection e1 with e1; rw [e1]; exact row_lt hr
      have OL : (orderL (vs.map fun v : Nat => (v : Int))).length = j := by unfold orderL orderF; rw [List.length_map, List.length_mergeSort, List.length_finRange, LI.out]
      have hbw := (((((Below.refl w2.heap.size w2).alloc (Nat.le_refl _) (.cells #[.slice none 0 0] 27)).alloc (by simp) (.cells (Array.replicate j (Value.bool false)) 4)).alloc (by simp; omega) (.cells #[.slice (some ⟨w2.heap.size + 1, 0, none⟩) j j] 95)).alloc (by simp; omega) (.cells #[NEnv.fv ⟨w2.heap.size + 2, w2.heap.size, w.heap.size, w.heap.size + 1, w2.heap.size + 3, w2.heap.size + 1⟩] 102))
      have RW : Rd w2 (some ⟨g, 0, none⟩) (nats (orderL (vs.map fun v : Nat => (v : Int)))) := by
        have hN : NRow w2 w0.heap.size (.slice (some ⟨g, 0, none⟩) j gc) (orderL (vs.map fun v : Nat => (v : Int))) := by unfold NRow; rw [OL]; exact ho2
        obtain ⟨A', c', e, rd', _⟩ := hN.rd
        injection e with e1 e2 e3
        rw [e1]; exact rd'
      have CN := cnum_any (by omega) NN.out (orderL (vs.map fun v : Nat => (v : Int))) [] (fun _ => false) _ k d (some ⟨g, 0, none⟩) gc NW HD.out (rest_start HVS.out HV.out HH.out _)
        (fun b hb => by have := (order_mem _ b).1 hb; rw [LI.out] at this; exact this) (RW.keep hbw) (fun b o e => by injection e with e; injection e with e1 e2; subst e1; show _ ∧ _ ≠ _ ∧ _ ≠ _; simp only; omega) (by rw [OL]; exact GC.out) (by rw [numsS_len]; have := HLL.out; simpa using this)
      rw [OL] at CN
      have CN := Lib.hid CN
      have ca2 : w2.cell? ⟨w.heap.size + 1, 0, none⟩ = some (.slice (some ⟨q, off, none⟩) j c) := cell_of_row _ _ 0 _ _ _ d2
      have ca3 : (w2.alloc (.cells #[.slice none 0 0] 27)).cell? ⟨w.heap.size + 1, 0, none⟩ = some (.slice (some ⟨q, off, none⟩) j c) := cell_alloc ca2
      have HB2 := Lib.hid hb3
      have HBW := Lib.hid hbw
      clear SO NW RW hbw hgl OL hb3 hb2 d1 d2 ho2 gr2 hz hq hg ca1
      unfold NEnv.fv ptrV at CN
      go_wp2_with fail
      refine CN.out.mono ?_
      rintro e w5 ⟨y5, rfl, _, s5, t5⟩
      rw [List.nil_append] at s5
      obtain ⟨lv, c5, o5⟩ := s5.cl
      have cl5 : w5.cell? ⟨w2.heap.size, 0, none⟩ = some lv := cell_of_row _ _ 0 _ _ _ c5
      have NL : (numsS j (sayN h.V cs vs k) (orderL (vs.map fun v : Nat => (v : Int))) (fun _ => false)).length = cntN (sayN h.V cs vs k) (orderL (vs.map fun v : Nat => (v : Int))) (fun _ => false) := numsS_len _ _ _ _
      have SS := sort_says (V := h.V) (cs := cs) S.out.good HD.out HH.out (fun _ => false)
      rw [NN.out] at SS
      generalize numsS j (sayN h.V cs vs k) (orderL (vs.map fun v : Nat => (v : Int))) (fun _ => false) = N at *
      have hll := HLL.out
      have SR := sort_row_any (w := w5) (B := w2.heap.size + 4) (v := lv) (zs := N.map fun x : Nat => (x : Int)) (by rw [List.length_map, nats_intsC]; exact o5) (by rw [List.length_map]; omega)
      rw [SS, nats_intsC, List.length_map] at SR
      have FL : N.length = ((List.range (2 ^ j)).filter fun x => sayN h.V cs vs k (bitN x)).length := by
        have := congrArg List.length SS
        unfold sortI at this
        simpa [List.length_mergeSort] using this
      rw [FL] at SR
      have b5 : Below w.heap.size w w5 := Turn.to_below (HB2.out.trans (HBW.out.mono HB2.out.size)) t5 (fun i e => by
        have := HB2.out.size
        rcases e with e | e | e
        · rw [e]; show _ ≤ w2.heap.size + 1; omega
        · rw [e]; exact this
        · omega) (by have := HB2.out.size; have := HBW.out.size; omega)
      have ob : ∀ g', lv.ownBlock = some g' → w2.heap.size + 4 ≤ g' := by
        intro g' hg'
        rcases o5.2 with ⟨rfl, _⟩ | ⟨g2, cap, cur, rfl, hb, _⟩
        · simp [Value.ownBlock] at hg'
        · simp [Value.ownBlock] at hg'; omega
      have SR := Lib.hid SR
      have OB := Lib.hid ob
      have B5 := Lib.hid b5
      have C5 := Lib.hid c5
      have HL2 : Hid (w.heap.size ≤ w2.heap.size) := Lib.hid HB2.out.size
      clear s5 t5 o5 c5 CN SS FL NL b5 ob hll
      go_wp2_with fail
      refine SR.out.mono ?_
      rintro e w6 ⟨rfl, o6, gr6⟩
      have cl6 : w6.cell? ⟨w2.heap.size, 0, none⟩ = some lv := cell_of_row _ _ 0 _ _ _ ((gr6.block _ (row_lt C5.out) (fun e => by have := OB.out _ e.symm; omega)).trans C5.out)
      have B6 : Hid (Below w.heap.size w w6) := Lib.hid (B5.out.grown gr6 B5.out.size (fun k hk => by have := OB.out k hk; have := HL2.out; omega))
      have O6 : Hid (NRow w6 w.heap.size lv ((List.range (2 ^ j)).filter fun x => sayN h.V cs vs k (bitN x))) := Lib.hid (NRow.lower (B := w2.heap.size + 4) o6 (by have := HL2.out; omega))
      clear o6 gr6 SR cl5
      go_wp2_with fail
      go_ret
      exact ⟨_, rfl, O6.out, B6.out⟩
end Go.Proofs.Ytkmffmlnondolaa

/- Layer 6 (count): Each: the values of a list's variables for which a node says true, as numbers; with the bound. -/
namespace Go.Proofs.Ytkmffmlnondolaa
open Go.ChangeShapes Go.WideShapes Go.ChangeAt Go.RowKit Go.Maps

/-- Counting by places is counting by the variables that stand there. -/
theorem cntN_ren {F G : (Nat → Bool) → Bool} {vr : Nat → Nat} : ∀ (o : List Nat) (y val : Nat → Bool), (o.map vr).Nodup →
    (∀ y' val' : Nat → Bool, AgreeOut o y y' → (∀ b ∈ o, val' (vr b) = y' b) → (∀ v, v ∉ o.map vr → val' v = val v) → F y' = G val') → cntN F o y = cntN G (o.map vr) val
  | [], y, val, _, h => by
    show (if F y then 1 else 0) = (if G val then 1 else 0)
    rw [h y val (AgreeOut.refl _ _) (fun b hb => by cases hb) (fun v _ => rfl)]
  | b :: r, y, val, hn, h => by
    have hn' : (vr b :: r.map vr).Nodup := hn
    obtain ⟨h1, h2⟩ := List.nodup_cons.1 hn'
    have go : ∀ x, cntN F r (upd y b x) = cntN G (r.map vr) (upd val (vr b) x) := fun x =>
      cntN_ren r _ _ h2 fun y' val' ha hb hv => h y' val' ha.upd (fun a hm => by
        rcases List.mem_cons.1 hm with rfl | hm
        · have : a ∉ r := fun e => h1 (List.mem_map.2 ⟨a, e, rfl⟩)
          rw [hv _ h1, ha.at_ this]; unfold upd; rw [if_pos rfl]
        · exact hb a hm) (fun v hm => by
        have h3 : v ≠ vr b := fun e => hm (by rw [e]; exact List.mem_cons_self ..)
        rw [hv v (fun e => hm (List.mem_cons_of_mem _ e))]; unfold upd; rw [if_neg h3])
    show _ + _ = _ + _
    rw [go false, go true]

theorem order_vars {vs : List Nat} (hn : vs.Nodup) : ((orderL (vs.map fun v : Nat => (v : Int))).map (varN vs)).Perm vs := by
  have inj : ((orderL (vs.map fun v : Nat => (v : Int))).map (varN vs)).Nodup := by
    refine List.Pairwise.map _ ?_ (List.Pairwise.and_mem.1 (order_nodup (vs.map fun v : Nat => (v : Int))))
    rintro a b ⟨ha, hb, hne⟩ e
    have ha := (order_mem _ a).1 ha
    have hb := (order_mem _ b).1 hb
    rw [List.length_map] at ha hb
    exact hne (by rw [← plN_var hn ha, ← plN_var hn hb, e])
  refine (List.perm_ext_iff_of_nodup inj hn).2 fun v => ?_
  rw [List.mem_map]
  constructor
  · rintro ⟨b, hb, rfl⟩
    have hb := (order_mem _ b).1 hb
    rw [List.length_map] at hb
    exact varN_mem hb
  · intro hv
    have hi := List.idxOf_lt_length_of_mem hv
    refine ⟨vs.idxOf v, (order_mem _ _).2 (by rw [List.length_map]; exact hi), ?_⟩
    unfold varN
    rw [List.getD_eq_getElem?_getD, List.getElem?_eq_getElem hi]
    exact List.getElem_idxOf hi

theorem cnt_order {V : Nat} {cs : List Nd} (g : NGood V cs) {vs : List Nat} {k : Nat} {c : Nd} (h : Is cs k c) (hn : vs.Nodup) (hh : Has cs k vs) (y val : Nat → Bool) :
    cntN (sayN V cs vs k) (orderL (vs.map fun v : Nat => (v : Int))) y = cntN (fun val => Says V cs val k) vs val := by
  have p := order_vars hn
  rw [cntN_ren (G := fun val => Says V cs val k) (vr := varN vs) _ y val (p.nodup_iff.2 hn) (fun y' val' _ hb _ => by
    unfold sayN
    refine says_has g (fun v hv => ?_) k c h hh
    have hi := List.idxOf_lt_length_of_mem hv
    have e : varN vs (plN vs v) = v := by
      unfold varN plN
      rw [List.getD_eq_getElem?_getD, List.getElem?_eq_getElem hi]
      exact List.getElem_idxOf hi
    have := hb (plN vs v) ((order_mem _ _).2 (by rw [List.length_map]; exact hi))
    rw [e] at this
    exact this.symm)]
  exact cntN_perm p (p.nodup_iff.2 hn) val

def EachOut (V : Nat) (cs : List Nd) (vs : List Nat) (k n : Nat) (most : Int) (w : World) (e : Ending) (w' : World) : Prop :=
  ∃ (v : Value) (x : Int), e = .returned (.tuple #[v, .int .i64 x]) ∧ Below w.heap.size w w' ∧
    ((62 < n ∧ x = 1 ∧ v = .slice none 0 0) ∨ (n ≤ 62 ∧ most < cntC V cs vs k 0 ∧ x = 2 ∧ v = .slice none 0 0) ∨
      (n ≤ 62 ∧ cntC V cs vs k 0 ≤ most ∧ x = 0 ∧ NRow w' w.heap.size v ((List.range (2 ^ n)).filter fun x => sayN V cs vs k (bitN x))))

set_option maxRecDepth 100000 in
set_option maxHeartbeats 4000000 in
theorem each_any {w : World} {m : Mem} {h : Hd} {cs : List Nd} (s : St w m h cs) {k c : Nat} {d : Nd} {A : Option Addr} {vs : List Nat} {n : Nat} (hnn : vs.length = n) (hd : Is cs k d) (hrd : Rd w A (nats vs)) (h0 : 0 < n) (hn : n ≤ 1000) (hvs : vs.Nodup) (hV : ∀ v ∈ vs, v < h.V) (hh : Has cs k vs) {most : Int} (hm0 : 0 ≤ most) (hm1 : most ≤ 16384) :
    Calls Try.prog 12 #[ptrV m.s, .int .i64 (k : Int), .slice A n c, .int .i64 most] w (EachOut h.V cs vs k n most w) := by
  have MB := maybe_any most w
  rw [decide_eq_true ⟨hm0, hm1⟩] at MB
  have MB := Lib.hid MB
  have ST := sat_yes (L := castL vs) (ys := vs) (cap := c) s hd (by rw [← nats_cast]; exact hrd) (by simp [castL]; omega) ⟨rfl, hvs, hV⟩
  rw [show (castL vs).length = n by simp [castL]; exact hnn] at ST
  have ST := Lib.hid ST
  have S := Lib.hid s
  have HD := Lib.hid hd
  have HR := Lib.hid hrd
  have HH := Lib.hid hh
  have HVS := Lib.hid hvs
  have HV := Lib.hid hV
  have NN := Lib.hid hnn
  clear s hd hrd hh hvs hV hnn
  unfold ptrV at *
  by_cases h62 : n ≤ 62
  · have h62' : (n : Int) ≤ 62 := by omega
    go_enter Try.func12, Try.ntmps12
    go_wp2_with fail
    refine MB.out.mono ?_
    rintro e w' ⟨rfl, rfl⟩
    clear MB
    go_wp2_with fail
    refine ST.out.mono ?_
    rintro e w2 ⟨z, x, rfl, hb, hout⟩
    obtain ⟨-, rfl, hz⟩ := hout.resolve_right fun hno => hno.1 HH.out
    have HB := Lib.hid hb
    have HZ := Lib.hid hz
    clear ST hb hz
    by_cases hle : z ≤ most
    · have CL : Hid (cntN (sayN h.V cs vs k) (orderL (vs.map fun v : Nat => (v : Int))) (fun _ => false) ≤ 1000000) := Lib.hid (by
        rw [cnt_order S.out.good HD.out HVS.out HH.out _ (fun _ => false)]
        have e := HZ.out
        unfold cntC at e
        rw [above_zero] at e
        generalize cntN (fun val => Says h.V cs val k) vs (fun _ => false) = q at e ⊢
        unfold clip topC at e
        first | omega | (split at e <;> omega))
      have NM := Lib.hid (numbers_any (c := c) (S.out.keep HB.out) NN.out HD.out (HR.out.keep HB.out) h0 h62 HVS.out HV.out HH.out CL.out)
      unfold ptrV at NM
      go_wp2_with fail
      refine NM.out.mono ?_
      rintro e w3 ⟨v, rfl, o3, b3⟩
      have O3 := Lib.hid o3
      have B3 := Lib.hid b3
      clear o3 b3 NM
      go_wp2_with fail
      go_ret2
      exact ⟨_, 0, rfl, HB.out.trans (B3.out.mono HB.out.size), .inr (.inr ⟨h62, by rw [← HZ.out]; exact hle, rfl, NRow.lower O3.out HB.out.size⟩)⟩
    · have hlt : most < z := by omega
      clear hle
      go_wp2_with fail
      go_ret2
      exact ⟨_, 2, rfl, HB.out, .inr (.inl ⟨h62, by rw [← HZ.out]; exact hlt, rfl, rfl⟩)⟩
  · have h62' : (62 : Int) < n := by omega
    clear ST
    go_enter Try.func12, Try.ntmps12
    go_wp2_with fail
    refine MB.out.mono ?_
    rintro e w' ⟨rfl, rfl⟩
    clear MB
    go_wp2_with fail
    go_ret2
    exact ⟨_, 1, rfl, Below.refl _ _, .inl ⟨by omega, rfl, rfl⟩⟩
end Go.Proofs.Ytkmffmlnondolaa

/- Layer 6's laws: a node that says what one variable, the last one, is: its counts. Plain: no walk. -/
namespace Go.Proofs.Ytkmffmlnondolaa
open Go.ChangeShapes Go.WideShapes Go.ChangeAt Go.RowKit Go.Maps

theorem idle_last {f : (Nat → Bool) → Bool} {r : Nat} (hf : ∀ val, f val = val r) {v : Nat} (hv : v ≠ r) : Idle f v := fun val b => by
  rw [hf, hf]; unfold upd; rw [if_neg (fun e => hv e.symm)]
theorem cnt_one {f : (Nat → Bool) → Bool} {r : Nat} (hf : ∀ val, f val = val r) (val : Nat → Bool) : cntN f [r] val = 1 := by
  unfold cntN cntN
  rw [hf, hf]
  unfold upd
  simp
theorem cnt_last {f : (Nat → Bool) → Bool} {r : Nat} (hf : ∀ val, f val = val r) (val : Nat → Bool) : cntN f (List.range (r + 1)) val = 2 ^ r := by
  rw [List.range_succ, idle_many _ _ (fun v hv => idle_last hf (by have := List.mem_range.1 hv; omega)), cnt_one hf, List.length_range, Nat.mul_one]

/-- What CountMany wants. -/
def manyW (r : Nat) : Int := if r < 62 then ((2 ^ r : Nat) : Int) else 4611686018427387903

theorem pow62 {r : Nat} (h : r < 62) : 2 ^ r ≤ 2305843009213693952 := by
  have := Nat.pow_le_pow_right (n := 2) (by omega) (show r ≤ 61 by omega)
  simpa using this
theorem pow63 {r : Nat} (h : 62 ≤ r) : 4611686018427387904 ≤ 2 ^ r := by
  have := Nat.pow_le_pow_right (n := 2) (by omega) h
  simpa using this

theorem cntC_last {V : Nat} {cs : List Nd} {k r : Nat} (hf : ∀ val, Says V cs val k = val r) : cntC V cs (List.range (r + 1)) k 0 = manyW r := by
  unfold cntC manyW
  rw [above_zero, cnt_last hf]
  by_cases h : r < 62
  · have := pow62 h
    rw [if_pos h]
    generalize 2 ^ r = p at *
    exact clip_of (Int.natCast_nonneg _) (by omega)
  · have := pow63 (r := r) (by omega)
    rw [if_neg h]
    generalize 2 ^ r = p at *
    unfold clip topC
    rw [if_neg (by omega), if_pos (by omega)]
theorem cntC_this {V : Nat} {cs : List Nd} {k r : Nat} (hf : ∀ val, Says V cs val k = val r) : cntC V cs [r] k 0 = 1 := by
  unfold cntC
  rw [above_zero, cnt_one hf]
  rfl
theorem manyW_le {r : Nat} : manyW r ≤ 16 ↔ r < 5 := by
  unfold manyW
  by_cases h : r < 5
  · rw [if_pos (by omega)]
    have := Nat.pow_le_pow_right (n := 2) (by omega) (show r ≤ 4 by omega)
    generalize 2 ^ r = p at *
    omega
  · by_cases h2 : r < 62
    · rw [if_pos h2]
      have := Nat.pow_le_pow_right (n := 2) (by omega) (show 5 ≤ r by omega)
      generalize 2 ^ r = p at *
      omega
    · rw [if_neg h2]; omega

theorem has_all {V : Nat} {cs : List Nd} {k : Nat} (g : NGood V cs) : Has cs k (List.range V) := fun j d _ hj hd => by
  have ho := g.ok j d hj hd
  exact List.mem_range.2 (by omega)
theorem has_this {V : Nat} {cs : List Nd} {k r : Nat} {c : Nd} (g : NGood V cs) (hc : Is cs k c) (hV : V = r + 1) (hle : (r : Int) ≤ c.asks) : Has cs k [r] := fun j d p hj hd => by
  obtain ⟨d', h', le⟩ := p.is g hc
  obtain rfl := hd.same h'
  have ho := g.ok j d hj hd
  rw [List.mem_singleton]
  omega
theorem has_less {V : Nat} {cs : List Nd} {k r : Nat} {c : Nd} (g : NGood V cs) (hc : Is cs k c) (hf : ∀ val, Says V cs val k = val r) : ¬ Has cs k (List.range r) := fun h => by
  have := says_has g (val := fun _ => false) (val' := fun i => decide (i = r)) (fun v hv => by have := List.mem_range.1 hv; simp; omega) k c hc h
  rw [hf, hf] at this
  simp at this
theorem rd_less {w : World} {A : Option Addr} {r : Nat} (h : Rd w A (nats (List.range (r + 1)))) : Rd w A (nats (List.range r)) := by
  rcases h with h | ⟨b, off, e, hlt, hc⟩
  · simp [nats] at h
  · refine .inr ⟨b, off, e, hlt, fun j u hu => hc j u ?_⟩
    unfold nats at *
    rw [List.getElem?_map] at *
    by_cases hj : j < r
    · rw [List.getElem?_range hj] at hu
      rw [List.getElem?_range (by omega)]
      exact hu
    · rw [List.getElem?_eq_none (by simp; omega)] at hu
      cases hu
end Go.Proofs.Ytkmffmlnondolaa

/- Layer 6's laws: Each of four variables, in whatever order. -/
namespace Go.Proofs.Ytkmffmlnondolaa
open Go.ChangeShapes Go.WideShapes Go.ChangeAt Go.RowKit Go.Maps

/-- The numbers by four variables. -/
def nums4 (cs : List Nd) (vs : List Nat) (k : Nat) : List Nat := (List.range 16).filter fun x => sayN 4 cs vs k (bitN x)

theorem tix_bits {x : Nat} (hx : x < 16) : tix (fun v => bitN x (plN [0, 1, 2, 3] v)) 4 0 0 = x := by
  have : ∀ y : Fin 16, tix (fun v => bitN y.val (plN [0, 1, 2, 3] v)) 4 0 0 = y.val := by decide
  exact this ⟨x, hx⟩

theorem nums_trues {cs : List Nd} {k : Nat} {a : Int} (hs : ∀ val, Says 4 cs val k = bitZ a (tix val 4 0 0)) : nums4 cs [0, 1, 2, 3] k = truesL a 16 := by
  unfold nums4 truesL
  refine List.filter_congr fun x hx => ?_
  unfold sayN
  rw [hs, tix_bits (List.mem_range.1 hx)]

theorem n4_trues {cs : List Nd} {k : Nat} {a : Int} (hs : ∀ val, Says 4 cs val k = bitZ a (tix val 4 0 0)) : n4 cs k = (truesL a 16).length := by
  unfold n4
  rw [cntN_congr hs]
  exact cntN_bits a _

theorem has_perm {cs : List Nd} {k : Nat} {vs : List Nat} (g : NGood 4 cs) (hp : vs.Perm [0, 1, 2, 3]) : Has cs k vs := fun j d p hj hd => hp.mem_iff.2 (has4 g j d p hj hd)

theorem cntC_perm {cs : List Nd} {k : Nat} {vs : List Nat} (hp : vs.Perm [0, 1, 2, 3]) : cntC 4 cs vs k 0 = (n4 cs k : Int) := by
  rw [← cntC_four]
  unfold cntC
  rw [above_zero, above_zero, cntN_perm hp (hp.nodup_iff.2 (by decide))]

def Each4Out (cs : List Nd) (vs : List Nat) (k : Nat) (most : Int) (w : World) (e : Ending) (w' : World) : Prop :=
  ∃ (v : Value) (x : Int), e = .returned (.tuple #[v, .int .i64 x]) ∧ Below w.heap.size w w' ∧
    ((most < n4 cs k ∧ x = 2 ∧ v = .slice none 0 0) ∨ ((n4 cs k : Int) ≤ most ∧ x = 0 ∧ NRow w' w.heap.size v (nums4 cs vs k)))

theorem each4 {w : World} {m : Mem} {h : Hd} {cs : List Nd} (s : St w m h cs) (hV : h.V = 4) {k : Nat} {c : Nd} (hk : Is cs k c) {A : Option Addr} {cap : Nat} {vs : List Nat} (hp : vs.Perm [0, 1, 2, 3]) (hr : Rd w A (nats vs)) {most : Int} (h0 : 0 ≤ most) (h1 : most ≤ 16384) :
    Calls Try.prog 12 #[ptrV m.s, .int .i64 (k : Int), .slice A 4 cap, .int .i64 most] w (Each4Out cs vs k most w) := by
  have g : NGood 4 cs := hV ▸ s.good
  have E := each_any (c := cap) (n := 4) s (by have := hp.length_eq; simpa using this) hk hr (by omega) (by omega) (hp.nodup_iff.2 (by decide)) (fun v hv => by rw [hV]; have := hp.mem_iff.1 hv; simp at this; omega) (has_perm g hp) h0 h1
  refine E.mono ?_
  rintro e w' ⟨v, x, rfl, hb, hout⟩
  rw [hV] at hout
  refine ⟨v, x, rfl, hb, ?_⟩
  rcases hout with ⟨h, _⟩ | ⟨_, h, rfl, rfl⟩ | ⟨_, h, rfl, hn⟩
  · omega
  · rw [cntC_perm hp] at h
    exact .inl ⟨h, rfl, rfl⟩
  · rw [cntC_perm hp] at h
    exact .inr ⟨h, rfl, hn⟩
end Go.Proofs.Ytkmffmlnondolaa
