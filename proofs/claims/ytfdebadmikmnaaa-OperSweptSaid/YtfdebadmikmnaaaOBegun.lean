/- Layer 4's laws: operations begun; one of six done. -/
import Derived.Test.YtfdebadmikmnaaaOSays
import Derived.Test.YtfdebadmikmnaaaOOps
namespace Go.Proofs.Ytfdebadmikmnaaa
open Go.ChangeShapes Go.WideShapes Go.ChangeAt Go.RowKit Go.Maps

def NewOpsOut (m : Mem) (h : Hd) (cs : List Nd) (w : World) (e : Ending) (w' : World) : Prop :=
  ∃ o, e = .returned (.tuple #[.pointer (some ⟨o, 0, none⟩), .int .i64 0]) ∧ OSt w' m h cs o none ∧ Below w.heap.size w w' ∧ w.heap.size ≤ o

theorem newops_yes {w : World} {m : Mem} {h : Hd} {cs : List Nd} (s : St w m h cs) (h0 : 0 ≤ h.sweeps) : Calls Try.prog 23 #[ptrV m.s] w (NewOpsOut m h cs w) := by
  obtain ⟨p, hz⟩ := s.good.is0
  have NY := node_yes s.lay hz
  change Calls _ _ #[_, .int .i64 0] _ _ at NY
  have NY := Lib.hid NY
  have S := Lib.hid s
  have H0 := Lib.hid h0
  clear s hz h0
  unfold ptrV at *
  go_enter Try.func23, Try.ntmps23
  go_wp2_with fail
  refine NY.out.mono ?_
  rintro e w1 ⟨rfl, dn, rfl⟩
  have B1 := Lib.hid (below_drewN0 w dn)
  have S1 := Lib.hid (S.out.keep (below_drewN0 w dn))
  have Z1 : Hid ((w.drewN dn).heap.size = w.heap.size) := rfl
  revert B1 S1 Z1
  generalize w.drewN dn = w1
  intro B1 S1 Z1
  go_wp2_with fail
  go_ret2
  have HA : OpsAt (w1.alloc (.cells (opsC w1.heap.size m.s 0 0 none 0) 66)) w1.heap.size m.s 0 0 none 0 := heap_alloc_new w1 _
  have BA := (Below.refl w1.heap.size w1).alloc (Nat.le_refl _) (.cells (opsC w1.heap.size m.s 0 0 none 0) 66)
  have Z1' := Z1.out
  exact ⟨w1.heap.size, rfl, ⟨S1.out.keep BA, fun q => by have := S1.out.own_lt _ q; omega, .inl ⟨rfl, HA, H0.out⟩⟩, B1.out.trans (BA.mono B1.out.size), by omega⟩

theorem newops_nob {w : World} {pv : Value} (h : NBs w pv) : Calls Try.prog 23 #[pv] w fun e w' => e = .returned (.tuple #[.pointer none, .int .i64 1]) ∧ w = w' := by
  have NY := Lib.hid (node_nbs h 0)
  clear h
  go_enter Try.func23, Try.ntmps23
  go_wp2_with fail
  refine NY.out.mono ?_
  rintro e w1 ⟨rfl, rfl⟩
  go_wp2_with fail
  go_ret2
  exact ⟨rfl, rfl⟩

def first4 : List Nd := [⟨(4 : Nat), 0, 0, 0⟩, ⟨(4 : Nat), 1, 1, 0⟩]
theorem first4_cnt : cnt first4 = 2 := by decide

/-- What is known in a law: the operations of a store of four variables, with so many nodes at the most. -/
structure LSt (W : World) (B : Nat) (m : Mem) (h : Hd) (cs : List Nd) (o : Nat) (mb : Option Nat) (c : Nat) (w : World) : Prop where
  ost : OSt w m h cs o mb
  V : h.V = 4
  B : h.B = B
  cnt : cnt cs ≤ c
  below : Below W.heap.size W w
  own : ∀ i, oown o m mb i → W.heap.size ≤ i

def BegunOut (B : Nat) (w : World) (e : Ending) (w' : World) : Prop :=
  ∃ m o, e = .returned (.tuple #[ptrV m.s, .pointer (some ⟨o, 0, none⟩), .bool true]) ∧ LSt w B m ⟨4, B, 2, 2, 0, 0⟩ first4 o none 2 w'

theorem begun_any (B : Nat) (hB : B ≤ 1048576) (hB2 : 2 ≤ B) (w : World) : Calls Try.prog 9 #[.int .i64 (B : Int)] w (BegunOut B w) := by
  have NS := newst_yes 4 B (by omega) hB hB2 w
  change Calls _ _ #[.int .i64 4, _] _ _ at NS
  have NS := Lib.hid NS
  clear hB hB2
  go_enter Try.func9, Try.ntmps9
  go_wp2_with fail
  refine NS.out.mono ?_
  rintro e w1 ⟨m, rfl, s1, hb1, ho1⟩
  have NO := Lib.hid (newops_yes s1 (Int.le_refl 0))
  have B1 := Lib.hid hb1
  have O1 := Lib.hid ho1
  clear s1 hb1 ho1 NS
  unfold ptrV at *
  go_wp2_with fail
  refine NO.out.mono ?_
  rintro e w2 ⟨o, rfl, os, hb2, hol⟩
  have FIN : LSt w B m ⟨4, B, 2, 2, 0, 0⟩ first4 o none 2 w2 := ⟨os, rfl, rfl, by rw [first4_cnt]; omega, B1.out.trans (hb2.mono B1.out.size), fun i hi => by
    rcases hi with hi | rfl | hi
    · exact O1.out i hi
    · exact Nat.le_trans B1.out.size hol
    · cases hi⟩
  have FIN := Lib.hid FIN
  clear os hb2 hol NO
  go_wp2_with fail
  exact bodyPost_ret (v := .tuple #[ptrV m.s, .pointer (some ⟨o, 0, none⟩), .bool true]) (by simp [results, Try.results9, go_sem, ptrV]) rfl ⟨m, o, rfl, FIN.out⟩

section
variable {W : World} {B : Nat} {m : Mem} {h : Hd} {cs : List Nd} {o : Nat} {mb : Option Nat} {c : Nat} {w : World}

theorem LSt.good (l : LSt W B m h cs o mb c w) : NGood 4 cs := l.V ▸ l.ost.st.good
theorem LSt.room (l : LSt W B m h cs o mb c w) : 2 ^ h.V ≤ 900000 := by rw [l.V]; decide
theorem LSt.keep (l : LSt W B m h cs o mb c w) {w' : World} (hb : Below w.heap.size w w') : LSt W B m h cs o mb c w' :=
  ⟨l.ost.keep hb, l.V, l.B, l.cnt, l.below.trans (hb.mono l.below.size), l.own⟩

theorem LSt.ask (l : LSt W B m h cs o mb c w) (hr : c + 15 ≤ B) {q : Qu} {e : Ending} {w' : World} (a : AskOut m h cs o mb q w e w') :
    ∃ (k : Nat) (m' : Mem) (h' : Hd) (cs' : List Nd) (mb' : Option Nat), e = .returned (.tuple #[.int .i64 (k : Int), .int .i64 0]) ∧ LSt W B m' h' cs' o mb' (c + 15) w' ∧ Ext cs cs' ∧ Fresh cs cs' ∧ m'.s = m.s ∧ At cs' 0 k ∧ ∀ val, Says 4 cs' val k = qsem 4 cs val q := by
  obtain ⟨k, x, m', h', cs', mb', rfl, os, ex, fr, v, b, s, cn, on, hout⟩ := a
  have hV := l.V
  have hB := l.B
  have hc := l.cnt
  rw [hV] at cn
  rcases hout with ⟨rfl, hat, hs⟩ | ⟨_, _, hb⟩
  · obtain ⟨b1, o1⟩ := on.to_below l.below l.own l.below.size
    rw [hV] at hs
    exact ⟨k, m', h', cs', mb', rfl, ⟨os, v.trans hV, b.trans hB, by omega, b1, o1⟩, ex, fr, on.s, hat, hs⟩
  · rw [hV] at hb
    omega

theorem LSt.next (l : LSt W B m h cs o mb c w) {w' : World} {m' : Mem} {h' : Hd} {cs' : List Nd} {c' : Nat} (s' : St w' m' h' cs') (hx : Ext cs cs') (hV : h'.V = h.V) (hB : h'.B = h.B) (hs : h'.sweeps = h.sweeps) (hc : _root_.Go.Proofs.Ytfdebadmikmnaaa.cnt cs' ≤ c') (hn : Next m m' w w') : LSt W B m' h' cs' o mb c' w' := by
  have on : ONext o m mb m' mb w w' := Next.onext hn
  obtain ⟨b1, o1⟩ := on.to_below l.below l.own l.below.size
  refine ⟨⟨s', hn.not_own (l.ost.own_lt o (.inr (.inl rfl))) l.ost.no, ?_⟩, hV.trans l.V, hB.trans l.B, hc, b1, o1⟩
  have g' : NGood h.V cs' := hV ▸ s'.good
  rcases l.ost.cache with ⟨a, b, d⟩ | ⟨b, n, D, sw, c1, c2, c3, c4, c5, c6⟩
  · refine .inl ⟨a, ?_, by rw [hs]; exact d⟩
    rw [hn.s]
    exact b.of (hn.turn.block o b.lt l.ost.no)
  · refine .inr ⟨b, n, D, sw, c1, ?_, c3.of (hn.turn.block b c3.lt c4), hn.not_own c3.lt c4, by rw [hs]; exact c5, fun e => ?_⟩
    · rw [hn.s]
      exact c2.of (hn.turn.block o c2.lt l.ost.no)
    · rw [hV]
      rw [hs] at e
      exact (c6 e).ext hx l.ost.st.good g'

theorem LSt.make (l : LSt W B m h cs o mb c w) (hr : c + 15 ≤ B) {n : Int} {e : Ending} {w' : World} (a : MakeOut4 m h cs n w e w') :
    ∃ (k : Nat) (m' : Mem) (h' : Hd) (cs' : List Nd), e = .returned (.tuple #[.int .i64 (k : Int), .bool true]) ∧ LSt W B m' h' cs' o mb (c + 15) w' ∧ Ext cs cs' ∧ Fresh cs cs' ∧ m'.s = m.s ∧ At cs' 0 k ∧ ∀ val, Says 4 cs' val k = bitZ n (tix val 4 0 0) := by
  obtain ⟨k, t, m', h', cs', rfl, st, ex, fr, v, b, s, cn, on, hout⟩ := a
  have hB := l.B
  have hc := l.cnt
  have cn : _root_.Go.Proofs.Ytfdebadmikmnaaa.cnt cs' + 1 ≤ _root_.Go.Proofs.Ytfdebadmikmnaaa.cnt cs + 16 := cn
  rcases hout with ⟨rfl, hat, hs⟩ | ⟨_, _, hb⟩
  · exact ⟨k, m', h', cs', rfl, l.next st ex v b s (by omega) on, ex, fr, on.s, hat, hs⟩
  · have hb : h.B + 2 ≤ _root_.Go.Proofs.Ytfdebadmikmnaaa.cnt cs + 16 := hb
    omega
end

/-- The question of an operation, by its number. -/
def qOf (K a b c : Nat) : Qu := match K with | 0 => ⟨0, a, 0, 1⟩ | 1 => ⟨0, a, b, 0⟩ | 2 => ⟨0, a, 1, b⟩ | 3 => ⟨1, a, b, 0⟩ | 4 => ⟨0, b, 0, a⟩ | _ => ⟨0, a, b, c⟩
/-- The numbers that an operation asks. -/
def numsOf (K : Nat) (a b c : Int) : List Int := match K with | 0 => [a, 0, 1] | 1 => [a, b, 0] | 2 => [a, 1, b] | 3 => [a, b] | 4 => [b, 0, a] | _ => [a, b, c]

theorem does_good {w : World} {m : Mem} {h : Hd} {cs : List Nd} {o : Nat} {mb : Option Nat} (r : OSt w m h cs o mb) (hV : 2 ^ h.V ≤ 900000) {K a b c : Nat} (hK : K < 6) (ha : At cs 0 a) (hb : At cs 0 b) (hc : At cs 0 c) :
    Calls Try.prog 12 #[.pointer (some ⟨o, 0, none⟩), .int .i64 K, .int .i64 a, .int .i64 b, .int .i64 c] w (AskOut m h cs o mb (qOf K a b c) w) := by
  match K, hK with
  | 0, _ =>
    have AK := Lib.hid (not_good r hV ha)
    clear r hV ha hb hc
    change Calls Try.prog 12 #[_, .int .i64 0, _, _, _] w _
    go_enter Try.func12, Try.ntmps12
    go_wp2_with fail
    · refine AK.out.mono ?_
      intro e w' hout
      have HO := Lib.hid hout
      obtain ⟨k, x, m', h', cs', mb', rfl, -⟩ := hout
      clear AK
      go_wp2_with fail
      go_ret2
      exact HO.out
  | 1, _ =>
    have AK := Lib.hid (and_good r hV ha hb)
    clear r hV ha hb hc
    change Calls Try.prog 12 #[_, .int .i64 1, _, _, _] w _
    go_enter Try.func12, Try.ntmps12
    go_wp2_with fail
    · refine AK.out.mono ?_
      intro e w' hout
      have HO := Lib.hid hout
      obtain ⟨k, x, m', h', cs', mb', rfl, -⟩ := hout
      clear AK
      go_wp2_with fail
      go_ret2
      exact HO.out
  | 2, _ =>
    have AK := Lib.hid (or_good r hV ha hb)
    clear r hV ha hb hc
    change Calls Try.prog 12 #[_, .int .i64 2, _, _, _] w _
    go_enter Try.func12, Try.ntmps12
    go_wp2_with fail
    · refine AK.out.mono ?_
      intro e w' hout
      have HO := Lib.hid hout
      obtain ⟨k, x, m', h', cs', mb', rfl, -⟩ := hout
      clear AK
      go_wp2_with fail
      go_ret2
      exact HO.out
  | 3, _ =>
    have AK := Lib.hid (xor_good r hV ha hb)
    clear r hV ha hb hc
    change Calls Try.prog 12 #[_, .int .i64 3, _, _, _] w _
    go_enter Try.func12, Try.ntmps12
    go_wp2_with fail
    · refine AK.out.mono ?_
      intro e w' hout
      have HO := Lib.hid hout
      obtain ⟨k, x, m', h', cs', mb', rfl, -⟩ := hout
      clear AK
      go_wp2_with fail
      go_ret2
      exact HO.out
  | 4, _ =>
    have AK := Lib.hid (diff_good r hV ha hb)
    clear r hV ha hb hc
    change Calls Try.prog 12 #[_, .int .i64 4, _, _, _] w _
    go_enter Try.func12, Try.ntmps12
    go_wp2_with fail
    · refine AK.out.mono ?_
      intro e w' hout
      have HO := Lib.hid hout
      obtain ⟨k, x, m', h', cs', mb', rfl, -⟩ := hout
      clear AK
      go_wp2_with fail
      go_ret2
      exact HO.out
  | 5, _ =>
    have AK := Lib.hid (ite_good r hV ha hb hc)
    clear r hV ha hb hc
    change Calls Try.prog 12 #[_, .int .i64 5, _, _, _] w _
    go_enter Try.func12, Try.ntmps12
    go_wp2_with fail
    · refine AK.out.mono ?_
      intro e w' hout
      have HO := Lib.hid hout
      obtain ⟨k, x, m', h', cs', mb', rfl, -⟩ := hout
      clear AK
      go_wp2_with fail
      go_ret2
      exact HO.out

theorem does_bad {w : World} {m : Mem} {h : Hd} {cs : List Nd} {o : Nat} {mb : Option Nat} (r : OSt w m h cs o mb) {K : Nat} (hK : K < 6) (a b c : Int) (hbad : (numsOf K a b c).all (thereB cs) = false) :
    Calls Try.prog 12 #[.pointer (some ⟨o, 0, none⟩), .int .i64 K, .int .i64 a, .int .i64 b, .int .i64 c] w fun e w' => e = .returned (.tuple #[.int .i64 0, .int .i64 3]) ∧ Below w.heap.size w w' := by
  match K, hK, hbad with
  | 0, _, hbad =>
    have AK := Lib.hid (not_bad r a hbad)
    clear r hbad
    change Calls Try.prog 12 #[_, .int .i64 0, _, _, _] w _
    go_enter Try.func12, Try.ntmps12
    go_wp2_with fail
    · refine AK.out.mono ?_
      rintro e w' ⟨rfl, hb⟩
      have HB := Lib.hid hb
      clear AK hb
      go_wp2_with fail
      go_ret2
      exact ⟨rfl, HB.out⟩
  | 1, _, hbad =>
    have AK := Lib.hid (and_bad r a b hbad)
    clear r hbad
    change Calls Try.prog 12 #[_, .int .i64 1, _, _, _] w _
    go_enter Try.func12, Try.ntmps12
    go_wp2_with fail
    · refine AK.out.mono ?_
      rintro e w' ⟨rfl, hb⟩
      have HB := Lib.hid hb
      clear AK hb
      go_wp2_with fail
      go_ret2
      exact ⟨rfl, HB.out⟩
  | 2, _, hbad =>
    have AK := Lib.hid (or_bad r a b hbad)
    clear r hbad
    change Calls Try.prog 12 #[_, .int .i64 2, _, _, _] w _
    go_enter Try.func12, Try.ntmps12
    go_wp2_with fail
    · refine AK.out.mono ?_
      rintro e w' ⟨rfl, hb⟩
      have HB := Lib.hid hb
      clear AK hb
      go_wp2_with fail
      go_ret2
      exact ⟨rfl, HB.out⟩
  | 3, _, hbad =>
    have AK := Lib.hid (xor_bad r a b hbad)
    clear r hbad
    change Calls Try.prog 12 #[_, .int .i64 3, _, _, _] w _
    go_enter Try.func12, Try.ntmps12
    go_wp2_with fail
    · refine AK.out.mono ?_
      rintro e w' ⟨rfl, hb⟩
      have HB := Lib.hid hb
      clear AK hb
      go_wp2_with fail
      go_ret2
      exact ⟨rfl, HB.out⟩
  | 4, _, hbad =>
    have AK := Lib.hid (diff_bad r a b hbad)
    clear r hbad
    change Calls Try.prog 12 #[_, .int .i64 4, _, _, _] w _
    go_enter Try.func12, Try.ntmps12
    go_wp2_with fail
    · refine AK.out.mono ?_
      rintro e w' ⟨rfl, hb⟩
      have HB := Lib.hid hb
      clear AK hb
      go_wp2_with fail
      go_ret2
      exact ⟨rfl, HB.out⟩
  | 5, _, hbad =>
    have AK := Lib.hid (ite_bad r a b c hbad)
    clear r hbad
    change Calls Try.prog 12 #[_, .int .i64 5, _, _, _] w _
    go_enter Try.func12, Try.ntmps12
    go_wp2_with fail
    · refine AK.out.mono ?_
      rintro e w' ⟨rfl, hb⟩
      have HB := Lib.hid hb
      clear AK hb
      go_wp2_with fail
      go_ret2
      exact ⟨rfl, HB.out⟩

theorem does_nob {w : World} {pv : Value} (h : NBs w pv) {K : Nat} (hK : K < 6) (a b c : Int) :
    Calls Try.prog 12 #[pv, .int .i64 K, .int .i64 a, .int .i64 b, .int .i64 c] w fun e w' => e = .returned (.tuple #[.int .i64 0, .int .i64 1]) ∧ Below w.heap.size w w' := by
  match K, hK with
  | 0, _ =>
    have AK := Lib.hid (not_nob h a)
    clear h
    change Calls Try.prog 12 #[_, .int .i64 0, _, _, _] w _
    go_enter Try.func12, Try.ntmps12
    go_wp2_with fail
    · refine AK.out.mono ?_
      rintro e w' ⟨rfl, hb⟩
      have HB := Lib.hid hb
      clear AK hb
      go_wp2_with fail
      go_ret2
      exact ⟨rfl, HB.out⟩
  | 1, _ =>
    have AK := Lib.hid (and_nob h a b)
    clear h
    change Calls Try.prog 12 #[_, .int .i64 1, _, _, _] w _
    go_enter Try.func12, Try.ntmps12
    go_wp2_with fail
    · refine AK.out.mono ?_
      rintro e w' ⟨rfl, hb⟩
      have HB := Lib.hid hb
      clear AK hb
      go_wp2_with fail
      go_ret2
      exact ⟨rfl, HB.out⟩
  | 2, _ =>
    have AK := Lib.hid (or_nob h a b)
    clear h
    change Calls Try.prog 12 #[_, .int .i64 2, _, _, _] w _
    go_enter Try.func12, Try.ntmps12
    go_wp2_with fail
    · refine AK.out.mono ?_
      rintro e w' ⟨rfl, hb⟩
      have HB := Lib.hid hb
      clear AK hb
      go_wp2_with fail
      go_ret2
      exact ⟨rfl, HB.out⟩
  | 3, _ =>
    have AK := Lib.hid (xor_nob h a b)
    clear h
    change Calls Try.prog 12 #[_, .int .i64 3, _, _, _] w _
    go_enter Try.func12, Try.ntmps12
    go_wp2_with fail
    · refine AK.out.mono ?_
      rintro e w' ⟨rfl, hb⟩
      have HB := Lib.hid hb
      clear AK hb
      go_wp2_with fail
      go_ret2
      exact ⟨rfl, HB.out⟩
  | 4, _ =>
    have AK := Lib.hid (diff_nob h a b)
    clear h
    change Calls Try.prog 12 #[_, .int .i64 4, _, _, _] w _
    go_enter Try.func12, Try.ntmps12
    go_wp2_with fail
    · refine AK.out.mono ?_
      rintro e w' ⟨rfl, hb⟩
      have HB := Lib.hid hb
      clear AK hb
      go_wp2_with fail
      go_ret2
      exact ⟨rfl, HB.out⟩
  | 5, _ =>
    have AK := Lib.hid (ite_nob h a b c)
    clear h
    change Calls Try.prog 12 #[_, .int .i64 5, _, _, _] w _
    go_enter Try.func12, Try.ntmps12
    go_wp2_with fail
    · refine AK.out.mono ?_
      rintro e w' ⟨rfl, hb⟩
      have HB := Lib.hid hb
      clear AK hb
      go_wp2_with fail
      go_ret2
      exact ⟨rfl, HB.out⟩

end Go.Proofs.Ytfdebadmikmnaaa
