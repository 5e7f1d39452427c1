/- Contracts of layer 3 (node): drop, Sweep. -/
import Derived.Test.YtfdebadmikmnaaaNMarked
namespace Go.Proofs.Ytfdebadmikmnaaa
open Go.ChangeShapes Go.WideShapes Go.ChangeAt Go.RowKit Go.Maps

theorem keyc (c : Nd) (w : World) : Calls Try.prog 43 #[.agg #[.int .i64 c.asks, .int .i64 c.low, .int .i64 c.high, .int .i64 c.pins]] w fun e w' => e = .returned (.agg #[.int .i64 c.asks, .int .i64 c.low, .int .i64 c.high]) ∧ Below w.heap.size w w' := key_any c w
theorem dropc {w : World} {t b : Nat} {f : Key → Option Int} {n : Nat} (h : Tab w t b f n) (c : Nd) (z : Int) (hk : f c.key = some z) :
    Calls Try.prog 49 #[.pointer (some ⟨t, 0, none⟩), .agg #[.int .i64 c.asks, .int .i64 c.low, .int .i64 c.high]] w (DropOut t b (fset f c.key none) (n - 1) w) := drop_some h c.key z hk

/-- While nodes are dropped: what is known of the world. -/
structure Drops (m : Mem) (h : Hd) (cs : List Nd) (M : List Nat) (bm : Nat) (w0 : World) (i : Nat) (wr : World) : Prop where
  lay : Lay wr m h (sweepTo M cs i)
  tab : ∃ f n, Tab wr m.t m.b f n ∧ Keys (sweepTo M cs i) f n
  set : MSet wr bm M
  turn : Turn m.own w0 wr
  far : ¬ m.own bm

theorem Drops.below {m : Mem} {h : Hd} {cs : List Nd} {M : List Nat} {bm i : Nat} {w0 wr w' : World} (d : Drops m h cs M bm w0 i wr) (hb : Below wr.heap.size wr w') : Drops m h cs M bm w0 i w' := by
  obtain ⟨f, n, h1, h2⟩ := d.tab
  exact ⟨d.lay.keep hb, ⟨f, n, h1.keep hb, h2⟩, d.set.keep hb, d.turn.below hb, d.far⟩

theorem sweepTo_in {M : List Nat} {cs : List Nd} {i : Nat} (h : i ∈ M) : sweepTo M cs (i + 1) = sweepTo M cs i := by conv => lhs; unfold sweepTo; rw [if_pos h]
theorem sweepTo_out {M : List Nat} {cs : List Nd} {i : Nat} (h : i ∉ M) : sweepTo M cs (i + 1) = (sweepTo M cs i).set i Nd.gone := by conv => lhs; unfold sweepTo; rw [if_neg h]
theorem endTo_in {M : List Nat} {i : Nat} (h : i ∈ M) : endTo M (i + 1) = i + 1 := by conv => lhs; unfold endTo; rw [if_pos h]
theorem endTo_out {M : List Nat} {i : Nat} (h : i ∉ M) : endTo M (i + 1) = endTo M i := by conv => lhs; unfold endTo; rw [if_neg h]
theorem goneTo_in {M : List Nat} {cs : List Nd} {i : Nat} (h : i ∈ M) : goneTo M cs (i + 1) = goneTo M cs i := by conv => lhs; unfold goneTo; rw [if_pos h]; simp
theorem goneTo_is {M : List Nat} {cs : List Nd} {i : Nat} {c : Nd} (h : i ∉ M) (hc : Is cs i c) : goneTo M cs (i + 1) = goneTo M cs i + 1 := by
  conv => lhs; unfold goneTo
  rw [if_neg h, hc.1]; simp only [hc.2, if_false]
theorem goneTo_free {M : List Nat} {cs : List Nd} {i : Nat} {c : Nd} (h : i ∉ M) (hc : cs[i]? = some c) (ha : c.asks = -1) : goneTo M cs (i + 1) = goneTo M cs i := by
  conv => lhs; unfold goneTo
  rw [if_neg h, hc]; simp [ha]

theorem sweepTo_at {M : List Nat} {cs : List Nd} {i : Nat} (hi : i < cs.length) : (sweepTo M cs i)[i]? = cs[i]? := by
  rw [sweepTo_get M cs i (by omega), if_neg (by omega)]

theorem goneTo_le (M : List Nat) (cs : List Nd) (i : Nat) (hi : i ≤ cs.length) : goneTo M cs i ≤ cs.length := by
  have h1 := cnt_sweepTo M cs i hi
  have h2 : cnt cs ≤ cs.length := List.countP_le_length
  omega

/-- A node is dropped. -/
theorem Drops.drop {m : Mem} {h : Hd} {cs : List Nd} {M : List Nat} {bm i n : Nat} {w0 wr w4 : World} {f : Key → Option Int} (d : Drops m h cs M bm w0 i wr) (g : NGood h.V cs) (h0 : 0 ∈ M) (h1 : 1 ∈ M) (hi : i < cs.length) (hM : i ∉ M) {c : Nd} (hc : Is cs i c)
    (htab : Tab w4 m.t m.b (fset f c.key none) (n - 1)) (hk : Keys (sweepTo M cs i) f n) (hm : Mut m.t m.b wr w4) (q : Int) (hq : q = 0) :
    Lay w4 m h (sweepTo M cs i) ∧
    Drops m h cs M bm w0 (i + 1) ((((w4.setCell ⟨m.c, i * 4, none⟩ (.int .i64 (-1))).setCell ⟨m.c, i * 4 + 1, none⟩ (.int .i64 q)).setCell ⟨m.c, i * 4 + 2, none⟩ (.int .i64 q)).setCell ⟨m.c, i * 4 + 3, none⟩ (.int .i64 q)) := by
  subst hq
  have hl4 : Lay w4 m h (sweepTo M cs i) := d.lay.of (hm.block _ d.lay.lt_s d.lay.st d.lay.sb) (hm.block _ d.lay.lt_c d.lay.ct d.lay.cb)
  have h2 : 2 ≤ i := by
    rcases Nat.lt_or_ge i 2 with h | h
    · have : i = 0 ∨ i = 1 := by omega
      rcases this with rfl | rfl
      · exact absurd h0 hM
      · exact absurd h1 hM
    · exact h
  have hcs : Is (sweepTo M cs i) i c := (sweepTo_is (by omega)).2 ⟨hc, .inl (Nat.le_refl _)⟩
  have hn : ∃ n', n = n' + 1 := by
    have e := hk.count
    have l3 := sub_length [0, 1, i] (nodesOf (sweepTo M cs i)) (by simp; omega) (by
      intro x hx
      rw [mem_nodesOf]
      simp at hx
      rcases hx with rfl | rfl | rfl
      · obtain ⟨p, hp⟩ := g.is0; exact ⟨_, (sweepTo_is (by omega)).2 ⟨hp, .inr h0⟩⟩
      · obtain ⟨p, hp⟩ := g.is1; exact ⟨_, (sweepTo_is (by omega)).2 ⟨hp, .inr h1⟩⟩
      · exact ⟨c, hcs⟩)
    rw [length_nodesOf] at l3
    simp at l3
    exact ⟨n - 1, by omega⟩
  obtain ⟨n', rfl⟩ := hn
  have own : m.own m.c := .inr (.inr (.inr rfl))
  have oo : ∀ z, z ≠ m.c → ((((w4.setCell ⟨m.c, i * 4, none⟩ (.int .i64 (-1))).setCell ⟨m.c, i * 4 + 1, none⟩ (.int .i64 0)).setCell ⟨m.c, i * 4 + 2, none⟩ (.int .i64 0)).setCell ⟨m.c, i * 4 + 3, none⟩ (.int .i64 0)).heap[z]? = w4.heap[z]? := fun z hz => by
    rw [heap_setCell_other _ _ _ _ hz, heap_setCell_other _ _ _ _ hz, heap_setCell_other _ _ _ _ hz, heap_setCell_other _ _ _ _ hz]
  have t4 : Turn m.own w0 w4 := d.turn.trans (Turn.of_mut hm (.inr (.inl rfl)) (.inr (.inr (.inl rfl)))) fun j hj => .inl hj
  refine ⟨hl4, ⟨?_, ⟨_, n', htab.of (oo _ d.lay.ct.symm) (oo _ d.lay.cb.symm), ?_⟩, ?_, ?_, d.far⟩⟩
  · rw [sweepTo_out hM]
    exact hl4.setC (by rw [sweepTo_length]; exact hi) Nd.gone
  · rw [sweepTo_out hM]
    exact hk.drop hcs fun j e hj he hkey => g.uniq j i e c hj h2 ((sweepTo_is (by omega)).1 he).1 hc hkey
  · refine d.set.of ((oo bm fun e => d.far (e ▸ own)).trans (hm.block bm d.set.lt_b (fun e => d.far (e ▸ .inr (.inl rfl))) (fun e => d.far (e ▸ .inr (.inr (.inl rfl))))))
  · exact (((t4.setCell (p := ⟨m.c, _, none⟩) (.inl own) _).setCell (p := ⟨m.c, _, none⟩) (.inl own) _).setCell (p := ⟨m.c, _, none⟩) (.inl own) _).setCell (p := ⟨m.c, _, none⟩) (.inl own) _

def DropsRel (m : Mem) (h : Hd) (cs : List Nd) (M : List Nat) (bm : Nat) (w0 : World) (dv ev iv : Value) (wr : World) : Prop :=
  ∃ i : Nat, i ≤ cs.length ∧ iv = .int .i64 i ∧ dv = .int .i64 (goneTo M cs i) ∧ ev = .int .i64 (endTo M i) ∧ Drops m h cs M bm w0 i wr

/-- Behind drop: the store but for its counters. -/
def DroppedOut (m : Mem) (h : Hd) (cs : List Nd) (M : List Nat) (w : World) (e : Ending) (w' : World) : Prop :=
  e = .returned (.int .i64 (goneTo M cs cs.length)) ∧ Lay w' m { h with lf := 2 } (swept M cs) ∧ (∃ f n, Tab w' m.t m.b f n ∧ Keys (swept M cs) f n) ∧ Turn m.own w w'

theorem Lay.trim {w : World} {m : Mem} {h : Hd} {cs : List Nd} (l : Lay w m h cs) (e : Nat) (he : e ≤ cs.length) : Lay (w.setCell ⟨m.s, 3, none⟩ (.slice (some ⟨m.c, 0, none⟩) e m.cap)) m h (cs.take e) := by
  have hl : (cs.take e).length = e := by simp; omega
  refine ⟨?_, ?_, l.st, l.sb, l.sc, l.ct, l.cb, by rw [hl]; have := l.len; omega⟩
  · rw [hl]; exact (heap_setCell_same w m.s 3 _ _ _ l.head).trans rfl
  · rw [hl]
    have hr : w.ownsRow 0 81 4 (.slice (some ⟨m.c, 0, none⟩) e m.cap) e (flatN (cs.take e)) := by
      obtain ⟨r1, r2⟩ := l.row
      refine ⟨by rw [flatN_length, hl], ?_⟩
      rcases r2 with ⟨r2, _⟩ | ⟨g, cap, cur, ee, b0, hg, hnc, hcm, hcs, ht⟩
      · cases r2
      · simp only [Value.slice.injEq, Option.some.injEq, Addr.mk.injEq, and_true, true_and] at ee
        obtain ⟨rfl, rfl⟩ := ee
        refine .inr ⟨m.c, m.cap, cur, rfl, b0, hg, by omega, hcm, hcs, ?_⟩
        have : flatN (cs.take e) = (flatN cs).take (e * 4) := by
          have h1 : flatN cs = flatN (cs.take e) ++ flatN (cs.drop e) := by
            conv => lhs; rw [← List.take_append_drop e cs]
            unfold flatN; rw [List.flatMap_append]
          rw [h1, List.take_left' (by rw [flatN_length, hl])]
        rw [this, ← ht, List.take_take]
        congr 1
        omega
    exact hr.kept (grown_set w m.s 3 _) (.inr (by simp only [Value.ownBlock]; intro e; injection e with e; exact l.sc e.symm))

theorem Drops.done {m : Mem} {h : Hd} {cs : List Nd} {M : List Nat} {bm : Nat} {w0 wr : World} (d : Drops m h cs M bm w0 cs.length wr) {q : Int} (hq : q = 2) :
    DroppedOut m h cs M w0 (.returned (.int .i64 (goneTo M cs cs.length))) ((wr.setCell ⟨m.s, 3, none⟩ (.slice (some ⟨m.c, 0, none⟩) (endTo M cs.length) m.cap)).setCell ⟨m.s, 5, none⟩ (.int .i64 q)) := by
  subst hq
  obtain ⟨f, n, h1, h2⟩ := d.tab
  have he := endTo_le M cs.length
  refine ⟨rfl, (d.lay.trim (endTo M cs.length) (by rw [sweepTo_length]; exact he)).setLf 2 rfl, ⟨f, n, h1.of ((heap_setCell_other _ _ _ _ d.lay.st.symm).trans (heap_setCell_other _ _ _ _ d.lay.st.symm)) ((heap_setCell_other _ _ _ _ d.lay.sb.symm).trans (heap_setCell_other _ _ _ _ d.lay.sb.symm)), h2.take _ ?_⟩,
    (d.turn.setCell (p := ⟨m.s, 3, none⟩) (.inl (.inl rfl)) _).setCell (p := ⟨m.s, 5, none⟩) (.inl (.inl rfl)) _⟩
  intro k c hc
  obtain ⟨hc1, hc2⟩ := (sweepTo_is (Nat.le_refl _)).1 hc
  have := hc1.lt
  exact endTo_gt M _ _ (hc2.resolve_left (by omega)) hc1.lt

set_option maxHeartbeats 2000000 in
set_option maxRecDepth 100000 in
theorem drop_store {w : World} {m : Mem} {h : Hd} {cs : List Nd} (s : St w m h cs) {M : List Nat} {bm : Nat} (hset : MSet w bm M) (hfar : ¬ m.own bm) (h0 : 0 ∈ M) (h1 : 1 ∈ M) :
    Calls Try.prog 33 #[ptrV m.s, .map (some bm)] w (DroppedOut m h cs M w) := by
  obtain ⟨_, _, _, c3, -⟩ := s.lay.tops
  have D0 : Hid (Drops m h cs M bm w 0 w) := ⟨s.lay, s.tab, hset, Turn.refl _ _, hfar⟩
  have G := Lib.hid s.good
  have hlen := s.lay.len
  have hlen' : (cs.length : Int) ≤ 1048576 := by omega
  have H0 := Lib.hid h0
  have H1 := Lib.hid h1
  clear s hset hfar h0 h1 hlen
  unfold ptrV
  go_enter Try.func33, Try.ntmps33
  go_wp2_with fail
  clear c3
  go_loopw [5, 6, 15] (fun dv ev iv wr => DropsRel m h cs M bm w dv ev iv wr) (fun _ _ iv _ => cs.length - (intOf iv).toNat)
  case atStart => exact ⟨0, Nat.zero_le _, rfl, rfl, rfl, D0.out⟩
  case round =>
    obtain ⟨i, hi, rfl, rfl, rfl, hd⟩ := hrel
    obtain ⟨_, _, _, c3, c4, -⟩ := hd.lay.tops
    have hle := endTo_le M i
    have hgl := goneTo_le M cs i hi
    have hgl' : (goneTo M cs i : Int) ≤ 1048576 := by omega
    have el : (sweepTo M cs i).length = cs.length := sweepTo_length M cs i
    rw [el] at c3
    by_cases hlt : i < cs.length
    · obtain ⟨D, hown, hh, _⟩ := hd.set.own
      have hkey : Hid (keyOf Try.prog 3 (.int .i64 (i : Int)) = some (.int .i64 (i : Int))) := keyInt i (by omega)
      have HO := Lib.hid hown
      have HH := Lib.hid hh
      clear hown hh
      obtain ⟨c, hc⟩ : ∃ c, cs[i]? = some c := ⟨_, List.getElem?_eq_getElem hlt⟩
      have EL := Lib.hid el
      by_cases hin : i ∈ M
      · have B1 : Hid (Maps.has D (.int .i64 (i : Int)) = true) := by show _ = _; rw [HH.out]; simpa using hin
        have HD := Lib.hid hd
        have E1 := Lib.hid (sweepTo_in (cs := cs) hin)
        have E2 := Lib.hid (endTo_in hin)
        have E3 := Lib.hid (goneTo_in (cs := cs) hin)
        clear hd hc hin hgl el
        go_wp2_with (at_lookup; refine wpList_lookup_own_unit _ rfl _ _ 83 rfl 3 47 lawInt Try.underlying83 (zeroUnit _) bm M.length D rfl HO.out _ _ rfl hkey.out ?_; rw [B1.out])
        refine ⟨⟨i + 1, by omega, by go_num, by rw [E3.out], by rw [E2.out]; go_num, ?_⟩, by simp [intOf]; omega⟩
        have k := HD.out.below ((Below.refl _ _).alloc (Nat.le_refl _) (.cells #[] 47))
        exact ⟨by rw [E1.out]; exact k.lay, by rw [E1.out]; exact k.tab, k.set, k.turn, k.far⟩
      · have B1 : Hid (Maps.has D (.int .i64 (i : Int)) = false) := by show _ = _; rw [HH.out]; simpa using hin
        have HD := Lib.hid hd
        have E1 := Lib.hid (sweepTo_out (cs := cs) hin)
        have E2 := Lib.hid (endTo_out hin)
        have hbb := (Below.refl wr.heap.size wr).alloc (Nat.le_refl _) (.cells #[] 47)
        have HD1 := Lib.hid (hd.below hbb)
        have TH := Lib.hid (there_any HD1.out.lay (i : Int))
        unfold ptrV at TH
        have at_ : (sweepTo M cs i)[i]? = some c := (sweepTo_at hlt).trans hc
        by_cases ha : c.asks = -1
        · have E3 := Lib.hid (goneTo_free (cs := cs) hin hc ha)
          have hf : thereB (sweepTo M cs i) (i : Int) = false := by
            cases hq : thereB (sweepTo M cs i) (i : Int) with
            | false => rfl
            | true =>
              obtain ⟨j, d, e, hd2⟩ := thereB_true hq
              obtain rfl : i = j := Int.ofNat.inj e
              obtain rfl : c = d := by have := at_.symm.trans hd2.1; injection this
              exact absurd ha hd2.2
          rw [hf] at TH
          have EG : Hid ((sweepTo M cs i).set i Nd.gone = sweepTo M cs i) := by
            have := G.out.gone i c hc ha
            exact list_set_same _ _ _ (this ▸ at_)
          clear hd hc hin hgl el at_ ha hf hbb c3 c4
          go_wp2_with (at_lookup; refine wpList_lookup_own_unit _ rfl _ _ 83 rfl 3 47 lawInt Try.underlying83 (zeroUnit _) bm M.length D rfl HO.out _ _ rfl hkey.out ?_; rw [B1.out])
          refine TH.out.mono ?_
          rintro e w2 ⟨rfl, rfl⟩
          go_wp2_with fail
          refine ⟨⟨i + 1, by omega, by go_num, by rw [E3.out], by rw [E2.out], ?_⟩, by simp [intOf]; omega⟩
          have k := HD1.out
          exact ⟨by rw [E1.out, EG.out]; exact k.lay, by rw [E1.out, EG.out]; exact k.tab, k.set, k.turn, k.far⟩
        · have hci : Is cs i c := ⟨hc, ha⟩
          have E3 := Lib.hid (goneTo_is (cs := cs) hin hci)
          have hf : thereB (sweepTo M cs i) (i : Int) = true := thereB_is ⟨at_, ha⟩
          rw [hf] at TH
          have HCI := Lib.hid hci
          have HIN := Lib.hid hin
          have ATT := Lib.hid at_
          clear hd hc hin hgl el at_ ha hf hbb c3 c4 hci
          go_wp2_with (at_lookup; refine wpList_lookup_own_unit _ rfl _ _ 83 rfl 3 47 lawInt Try.underlying83 (zeroUnit _) bm M.length D rfl HO.out _ _ rfl hkey.out ?_; rw [B1.out])
          refine TH.out.mono ?_
          rintro e w2 ⟨rfl, rfl⟩
          clear TH
          revert HD1
          generalize wr.alloc (.cells #[] 47) = w2
          intro HD1
          obtain ⟨_, _, _, s3, s4, -⟩ := HD1.out.lay.tops
          rw [EL.out] at s3
          obtain ⟨d0, d1, d2, d3⟩ := HD1.out.lay.cells ATT.out
          go_wp2_with fail
          obtain ⟨f, n, ht2, hk2⟩ := HD1.out.tab
          have h2 : 2 ≤ i := by
            rcases Nat.lt_or_ge i 2 with h | h
            · have : i = 0 ∨ i = 1 := by omega
              rcases this with rfl | rfl
              · exact absurd H0.out HIN.out
              · exact absurd H1.out HIN.out
            · exact h
          have HFK : Hid (f c.key = some (i : Int)) := (hk2.says _ _).2 ⟨i, c, h2, rfl, ⟨ATT.out, HCI.out.2⟩, rfl⟩
          have HT2 := Lib.hid ht2
          have HK2 := Lib.hid hk2
          clear ht2 hk2
          go_region_held3 (fun w' => w'.cell? ⟨m.s, 4, none⟩ = some (.pointer (some ⟨m.t, 0, none⟩)) ∧ w'.cell? ⟨m.s, 3, none⟩ = some (.slice (some ⟨m.c, 0, none⟩) cs.length m.cap) ∧ w'.cell? ⟨m.c, i * 4, none⟩ = some (.int .i64 c.asks) ∧ w'.cell? ⟨m.c, i * 4 + 1, none⟩ = some (.int .i64 c.low) ∧ w'.cell? ⟨m.c, i * 4 + 2, none⟩ = some (.int .i64 c.high) ∧ w'.cell? ⟨m.c, i * 4 + 3, none⟩ = some (.int .i64 c.pins))
            (first | exact ⟨s4, s3, d0, d1, d2, d3⟩ | exact ⟨by assumption, by assumption, by assumption, by assumption, by assumption, by assumption⟩ | go_keep)
            (first
              | (go_at_call 43; refine (keyc c _).mono ?_; rintro e w3 ⟨rfl, hb3⟩; have hb3 := Lib.hid (below_undrew hb3); have hi3 := Lib.hid (HD1.out.below hb3.out); obtain ⟨_, _, _, x3, x4, -⟩ := hi3.out.lay.tops; rw [EL.out] at x3; obtain ⟨e0, e1, e2, e3⟩ := hi3.out.lay.cells ATT.out)
              | (go_at_call 49; refine (dropc (HT2.out.keep hb3.out) c _ HFK.out).mono ?_; rintro e w4 ⟨rfl, htab4, hm4⟩; have D4 := hi3.out.drop G.out H0.out H1.out hlt HIN.out HCI.out htab4 HK2.out hm4 0 rfl; obtain ⟨_, _, _, y3, y4, -⟩ := D4.1.tops; rw [EL.out] at y3; obtain ⟨z0, z1, z2, z3⟩ := D4.1.cells ATT.out; obtain ⟨f1, f2⟩ := D4.1.free; have D4 := Lib.hid D4.2; clear htab4 hm4))
          clear s3 s4 d0 d1 d2 d3 x3 x4 e0 e1 e2 e3
          go_wp2_with fail
          exact ⟨⟨i + 1, by omega, by go_num, by rw [E3.out]; go_num, by rw [E2.out], D4.out⟩, by simp [intOf]; omega⟩
    · obtain rfl : i = cs.length := by omega
      obtain ⟨f1, f2⟩ := hd.lay.free
      obtain ⟨_, _, _, _, _, c5, -⟩ := hd.lay.tops
      have hcap : cs.length ≤ m.cap := by
        have h2 := hd.lay.row.2
        rw [el] at h2
        rcases h2 with ⟨h2, _⟩ | ⟨g, cap, cur, ee, b0, hg, hnc, _⟩
        · cases h2
        · simp only [Value.slice.injEq, Option.some.injEq, Addr.mk.injEq, and_true, true_and] at ee
          omega
      have hecap : endTo M cs.length ≤ m.cap := by omega
      have FIN := Lib.hid (hd.done (q := 2) rfl)
      clear hd
      go_wp2_with fail
      go_ret
      exact FIN.out

def SweepOut (m : Mem) (h : Hd) (cs : List Nd) (w : World) (e : Ending) (w' : World) : Prop :=
  e = .returned (.int .i64 (goneTo (roots h.V cs cs.length) cs cs.length)) ∧ St w' m { h with lf := 2, nodes := cnt (swept (roots h.V cs cs.length) cs), sweeps := wrap64 (h.sweeps + 1) } (swept (roots h.V cs cs.length) cs) ∧ Turn m.own w w'

theorem swept_st {w w2 w3 : World} {m : Mem} {h : Hd} {cs : List Nd} (s : St w m h cs) (hb : Below w.heap.size w w2) {e : Ending} (d : DroppedOut m h cs (roots h.V cs cs.length) w2 e w3) :
    Lay w3 m { h with lf := 2 } (swept (roots h.V cs cs.length) cs) ∧
    SweepOut m h cs w (.returned (.int .i64 (goneTo (roots h.V cs cs.length) cs cs.length))) ((w3.setCell ⟨m.s, 6, none⟩ (.int .i64 (wrap64 (h.nodes + -(goneTo (roots h.V cs cs.length) cs cs.length : Int))))).setCell ⟨m.s, 8, none⟩ (.int .i64 (wrap64 (h.sweeps + 1)))) := by
  obtain ⟨_, hl, ⟨f, n, ht, hk⟩, htu⟩ := d
  have R := roots_spec s.good cs.length
  have hc := cnt_swept (roots h.V cs cs.length) cs
  have hc2 : cnt cs ≤ 1048576 := Nat.le_trans s.room s.B
  have en : wrap64 (h.nodes + -(goneTo (roots h.V cs cs.length) cs cs.length : Int)) = (cnt (swept (roots h.V cs cs.length) cs) : Int) := by
    rw [s.nodes, wrap64_small _ (by omega) (by omega)]; omega
  refine ⟨hl, rfl, ?_, ?_⟩
  · rw [en]
    refine ⟨(hl.setNodes _).setSweeps _, ⟨f, n, ht.of ((heap_setCell_other _ _ _ _ hl.st.symm).trans (heap_setCell_other _ _ _ _ hl.st.symm)) ((heap_setCell_other _ _ _ _ hl.sb.symm).trans (heap_setCell_other _ _ _ _ hl.sb.symm)), hk⟩, s.good.swept R, rfl, s.V, s.B, Nat.le_trans (by omega) s.room, Nat.le_refl _, ?_, ?_⟩
    · exact (s.good.swept R).len
    · intro i hi
      have hi : i < 2 := hi
      have : i = 0 ∨ i = 1 := by omega
      rcases this with rfl | rfl
      · obtain ⟨p, hp⟩ := (s.good.swept R).is0; exact ⟨_, hp⟩
      · obtain ⟨p, hp⟩ := (s.good.swept R).is1; exact ⟨_, hp⟩
  · exact (((Turn.of_below hb).trans htu fun j hj => .inl hj).setCell (p := ⟨m.s, 6, none⟩) (.inl (.inl rfl)) _).setCell (p := ⟨m.s, 8, none⟩) (.inl (.inl rfl)) _

set_option maxHeartbeats 1000000 in
set_option maxRecDepth 100000 in
theorem sweep_any {w : World} {m : Mem} {h : Hd} {cs : List Nd} (s : St w m h cs) :
    Calls Try.prog 21 #[ptrV m.s] w (SweepOut m h cs w) := by
  have H := Lib.hid (given_store s.lay)
  have MK := Lib.hid (marked_any s)
  have HS := Lib.hid s
  have R := roots_spec s.good cs.length
  have hl2 := s.good.len
  have r0 : 0 ∈ roots h.V cs cs.length := (R.mem 0).2 ⟨0, by omega, .inl (by omega), .here _⟩
  have r1 : 1 ∈ roots h.V cs cs.length := (R.mem 1).2 ⟨1, by omega, .inl (by omega), .here _⟩
  have R0 := Lib.hid r0
  have R1 := Lib.hid r1
  have hg : goneTo (roots h.V cs cs.length) cs cs.length ≤ 1048576 := Nat.le_trans (goneTo_le _ _ _ (Nat.le_refl _)) s.lay.len
  obtain ⟨z, hz⟩ : ∃ z : Int, (goneTo (roots h.V cs cs.length) cs cs.length : Int) = z := ⟨_, rfl⟩
  have z0 : 0 ≤ z := by omega
  have z1 : z ≤ 1048576 := by omega
  have HZ := Lib.hid hz
  clear s R hl2 r0 r1 hg hz
  unfold ptrV at *
  go_enter Try.func21, Try.ntmps21
  go_wp2_with fail
  refine H.out.mono ?_
  rintro e w' ⟨rfl, rfl⟩
  go_wp2_with fail
  refine MK.out.mono ?_
  rintro e w2 ⟨b, rfl, hset, hb, hbw⟩
  have S2 := Lib.hid (HS.out.keep hb)
  have DR := Lib.hid (drop_store S2.out hset (fun hh => by have := HS.out.own_lt b hh; omega) R0.out R1.out)
  have HB := Lib.hid hb
  clear hset hb hbw
  unfold ptrV at DR
  go_wp2_with fail
  refine DR.out.mono ?_
  rintro e w3 hd
  obtain rfl := hd.1
  obtain ⟨hl, hfin⟩ := swept_st HS.out HB.out hd
  rw [HZ.out] at hfin ⊢
  have c6 : w3.cell? ⟨m.s, 6, none⟩ = some (.int .i64 h.nodes) := hl.tops.2.2.2.2.2.2.1
  have f6 : w3.frozen? ⟨m.s, 6, none⟩ = false := hl.free.1 6
  have c8 : (w3.setCell ⟨m.s, 6, none⟩ (.int .i64 (wrap64 (h.nodes + -z)))).cell? ⟨m.s, 8, none⟩ = some (.int .i64 h.sweeps) := (hl.setNodes (wrap64 (h.nodes + -z))).tops.2.2.2.2.2.2.2.2
  have f8 : (w3.setCell ⟨m.s, 6, none⟩ (.int .i64 (wrap64 (h.nodes + -z)))).frozen? ⟨m.s, 8, none⟩ = false := (hl.setNodes (wrap64 (h.nodes + -z))).free.1 8
  have A1 := Lib.hid (add_any (y := -z) c6 f6)
  have A2 := Lib.hid (add_any (y := 1) c8 f8)
  have FIN := Lib.hid hfin
  clear hd hl hfin c6 f6 c8 f8
  go_wp2_with fail
  refine A1.out.mono ?_
  rintro e w5 ⟨rfl, rfl⟩
  go_wp2_with fail
  refine A2.out.mono ?_
  rintro e w6 ⟨rfl, rfl⟩
  go_wp2_with fail
  go_ret
  exact FIN.out
end Go.Proofs.Ytfdebadmikmnaaa
