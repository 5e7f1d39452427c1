/- Contracts of layer 4 (oper): what Mk leaves; the cache asked and written. -/
import Derived.Test.YtfdebadmikmnaaaOPrep
import Derived.Test.YtfdebadmikmnaaaOHalf
namespace Go.Proofs.Ytfdebadmikmnaaa
open Go.ChangeShapes Go.WideShapes Go.ChangeAt Go.RowKit Go.Maps

def MkOkS (m : Mem) (h : Hd) (cs : List Nd) (v a b : Nat) (w : World) (e : Ending) (w' : World) : Prop :=
  ∃ (k : Nat) (m' : Mem) (h' : Hd) (cs' : List Nd) (c : Nd), e = .returned (.tuple #[.int .i64 (k : Int), .int .i64 0]) ∧ St w' m' h' cs' ∧ Ext cs cs' ∧ Is cs' k c ∧ (v : Int) ≤ c.asks ∧
    (∀ val, Says h.V cs' val k = if val v then Says h.V cs val b else Says h.V cs val a) ∧ h'.V = h.V ∧ h'.B = h.B ∧ h'.sweeps = h.sweeps ∧ cnt cs' ≤ cnt cs + 1 ∧ Fresh cs cs' ∧ Next m m' w w'

def MkSemS (m : Mem) (h : Hd) (cs : List Nd) (v a b : Nat) (w : World) (e : Ending) (w' : World) : Prop :=
  MkOkS m h cs v a b w e w' ∨ (e = .returned (.tuple #[.int .i64 0, .int .i64 30]) ∧ Below w.heap.size w w' ∧ cnt cs = h.B)

theorem mk_semS {w : World} {m : Mem} {h : Hd} {cs : List Nd} (s : St w m h cs) {v a b : Nat} {ca cb : Nd} (h1 : v < h.V) (ha : Is cs a ca) (hva : (v : Int) < ca.asks) (hb : Is cs b cb) (hvb : (v : Int) < cb.asks) :
    Calls Try.prog 29 #[ptrV m.s, .int .i64 (v : Int), .int .i64 a, .int .i64 b] w (MkSemS m h cs v a b w) := by
  have hv0 : (0 : Int) ≤ (v : Int) := by omega
  have hv1 : (v : Int) < h.V := by omega
  by_cases hab : a = b
  · subst hab
    refine (mk_same s.lay hv0 hv1 ha hva).mono ?_
    rintro e w' ⟨rfl, rfl⟩
    exact .inl ⟨a, m, h, cs, ca, rfl, s, Ext.refl _, ha, by omega, fun val => by simp, rfl, rfl, rfl, by omega, Fresh.refl _, Next.refl _ _⟩
  · rcases Classical.em (∃ k ck, 2 ≤ k ∧ Is cs k ck ∧ ck.key = ⟨v, a, b⟩) with ⟨k, ck, hk2, hk, hkk⟩ | hno
    · refine (mk_old s hv0 hv1 ha hva hb hvb hab hk2 hk hkk).mono ?_
      rintro e w' ⟨rfl, hbel⟩
      unfold Nd.key at hkk
      injection hkk with k1 k2 k3
      have k2 := Int.ofNat.inj k2
      have k3 := Int.ofNat.inj k3
      refine .inl ⟨k, m, h, cs, ck, rfl, s.keep hbel, Ext.refl _, hk, by omega, fun val => ?_, rfl, rfl, rfl, by omega, Fresh.refl _, Next.below hbel⟩
      rw [Says_step s.good val hk2 hk, k1, k2, k3, Int.toNat_natCast]
      by_cases hv : val v
      · rw [if_pos hv, if_pos hv]
      · rw [if_neg hv, if_neg hv]
    · refine (mk_none s hv0 hv1 ha hva hb hvb hab fun j d hj hd he => hno ⟨j, d, hj, hd, he⟩).mono ?_
      intro e w' hout
      unfold MkNoneOut at hout
      by_cases hf : cnt cs = h.B
      · rw [if_pos hf] at hout
        exact .inr ⟨hout.1, hout.2, hf⟩
      · rw [if_neg hf] at hout
        obtain ⟨k, m', lf', rfl, hst, hfree, hk2, hfu, htu, hs', hown⟩ := hout
        have hne : (v : Int) ≠ -1 := by omega
        have hx : Ext cs (addAt cs k ⟨v, a, b, 0⟩) := fun i d hd => addAt_is hfree hd
        have hk : Is (addAt cs k ⟨v, a, b, 0⟩) k ⟨v, a, b, 0⟩ := ⟨by rw [addAt_get cs k _ hfree.1, if_pos rfl], hne⟩
        have hfr : Fresh cs (addAt cs k ⟨v, a, b, 0⟩) := by
          intro i d hd
          have h1 := hd.1
          rw [addAt_get cs k _ hfree.1] at h1
          by_cases e : k = i
          · rw [if_pos e] at h1; injection h1 with h1; subst h1; exact .inr rfl
          · rw [if_neg e] at h1; exact .inl ⟨h1, hd.2⟩
        refine .inl ⟨k, m', _, _, _, rfl, hst, hx, hk, Int.le_refl _, fun val => ?_, rfl, rfl, rfl, by rw [addAt_cnt hfree hne]; exact Nat.le_refl _, hfr, htu, hs', hown⟩
        have g' : NGood h.V (addAt cs k ⟨v, a, b, 0⟩) := hst.good
        rw [Says_step g' val hk2 hk]
        show Says h.V _ val (if val (v : Int).toNat = true then b else a) = _
        rw [Int.toNat_natCast]
        by_cases hv : val v
        · rw [if_pos hv, if_pos hv, hx.says s.good g' val hb]
        · rw [if_neg hv, if_neg hv, hx.says s.good g' val ha]

theorem mk_roomS {w : World} {m : Mem} {h : Hd} {cs : List Nd} (s : St w m h cs) (hr : cnt cs < h.B) {v a b : Nat} {ca cb : Nd} (h1 : v < h.V) (ha : Is cs a ca) (hva : (v : Int) < ca.asks) (hb : Is cs b cb) (hvb : (v : Int) < cb.asks) :
    Calls Try.prog 29 #[ptrV m.s, .int .i64 (v : Int), .int .i64 a, .int .i64 b] w (MkOkS m h cs v a b w) :=
  (mk_semS s h1 ha hva hb hvb).mono fun _ _ h => h.elim id fun hh => by omega


theorem QAt.fits {w : World} {m : Mem} {h : Hd} {cs : List Nd} (s : St w m h cs) {u : Int} {q : Qu} (hq : QAt cs u q) : Fits q := by
  have := s.lay.len
  have a := hq.a.is.1.lt
  have b := hq.b.is.1.lt
  have c := hq.c.is.1.lt
  exact ⟨hq.kind, by omega, by omega, by omega⟩

section
variable {w : World} {m : Mem} {h : Hd} {cs : List Nd} {o b n : Nat}

theorem Rdy.look (r : Rdy w m h cs o b n) {q : Qu} (hf : Fits q) :
    (∃ k : Nat, Told h.V cs q k ∧ (Instr.lookup 64 (.map (some b)) (quV q) true).run Try.prog w = .ok (.tuple #[.int .i64 (k : Int), .bool true]) w) ∨
    (∃ k : Int, (Instr.lookup 64 (.map (some b)) (quV q) true).run Try.prog w = .ok (.tuple #[.int .i64 k, .bool false]) w) := by
  obtain ⟨D, cm, cg⟩ := r.cache
  obtain ⟨l, hl⟩ := key_some hf
  have hz : (zeroValue 3).run Try.prog w = .ok (.int .i64 0) w := by kernel_rfl
  obtain ⟨v, ps, hrun, hv⟩ := World.ownsMap.look_ok cm lawQ Try.underlying64 hz (plainElem_int Try.underlying3 (a := 0) (by decide)) hl
  obtain ⟨c, rfl, hc, _⟩ := plainElem_int_inv Try.underlying3 hv
  have hc := congrArg Prod.fst hc
  cases hh : Maps.has D l with
  | false => rw [hh] at hrun; exact .inr ⟨c, hrun⟩
  | true =>
    rw [hh] at hrun
    obtain ⟨k, h1, h2⟩ := cg q l hl hh
    have hc : D.atKey l (.lit (.int .i64 0)) = .lit (.int .i64 c) := hc
    rw [h1] at hc
    injection hc with hc
    injection hc with _ hc
    subst hc
    exact .inl ⟨k, h2, hrun⟩

theorem Rdy.turn (r : Rdy w m h cs o b n) {w' : World} {n' : Nat} (ht : Turn (fun i => i = b) w w') (hc : ∃ D, CMap w' b n' D ∧ CGood h.V cs D) : Rdy w' m h cs o b n' := by
  have ob : o ≠ b := by
    rintro rfl
    obtain ⟨D, cm, _⟩ := r.cache
    exact cm.not_cells r.head
  exact ⟨r.st.apart ht (fun i q e => r.nb (e ▸ q)), r.no, r.nb, r.head.of (ht.block o r.head.lt ob), hc⟩

set_option maxRecDepth 100000 in
theorem Rdy.put (r : Rdy w m h cs o b n) (hn : n < 2000000) {q : Qu} (hf : Fits q) {k : Nat} (hk : k < 9223372036854775808) (t : Told h.V cs q k) :
    ∃ w', (Instr.mapUpdate 64 (.map (some b)) (quV q) (.int .i64 (k : Int))).run Try.prog w = .ok () w' ∧ Rdy w' m h cs o b (n + 1) ∧ Turn (fun i => i = b) w w' := by
  obtain ⟨D, cm, cg⟩ := r.cache
  obtain ⟨l, hl⟩ := key_some hf
  obtain ⟨w', hrun, r1, r2⟩ := World.ownsMap.update cm lawQ Try.underlying64 (by unfold maxLen; omega) hl (plainElem_int Try.underlying3 (a := (k : Int)) (WalkArith.wf_i64 (by omega)))
  have ht : Turn (fun i => i = b) w w' := (Turn.refl _ w).grown r2 (fun i e => .inl (by injection e with e; exact e.symm))
  exact ⟨w', hrun, r.turn ht ⟨_, r1, cg.put (World.ownsMap.isMap cm) hl t⟩, ht⟩

theorem Rdy.next (r : Rdy w m h cs o b n) {w' : World} {m' : Mem} {h' : Hd} {cs' : List Nd} (s' : St w' m' h' cs') (hx : Ext cs cs') (hV : h'.V = h.V) (hs : h'.sweeps = h.sweeps) (hn : Next m m' w w') : Rdy w' m' h' cs' o b n := by
  obtain ⟨D, cm, cg⟩ := r.cache
  have g' : NGood h.V cs' := hV ▸ s'.good
  refine ⟨s', hn.not_own r.head.lt r.no, hn.not_own cm.lt r.nb, ?_, D, cm.of (hn.turn.block b cm.lt r.nb), ?_⟩
  · have := r.head.of (hn.turn.block o r.head.lt r.no)
    rw [hn.s, hs]
    exact this
  · rw [hV]
    exact cg.ext hx r.st.good g'
end

theorem ONext.not_own {o : Nat} {m m1 : Mem} {mb mb1 : Option Nat} {w w1 : World} (n : ONext o m mb m1 mb1 w w1) {i : Nat} (hi : i < w.heap.size) (hn : ¬ oown o m mb i) : ¬ oown o m1 mb1 i := fun hh => (n.own i hh).elim hn (by omega)
end Go.Proofs.Ytfdebadmikmnaaa
