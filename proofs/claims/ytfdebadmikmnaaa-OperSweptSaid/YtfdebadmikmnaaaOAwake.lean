/- Layer 4's laws: what must come, whatever the arguments are (awake). -/
import Derived.Test.YtfdebadmikmnaaaOBegun
namespace Go.Proofs.Ytfdebadmikmnaaa
open Go.ChangeShapes Go.WideShapes Go.ChangeAt Go.RowKit Go.Maps

def LMkOut (W : World) (B : Nat) (m : Mem) (cs : List Nd) (o : Nat) (mb : Option Nat) (c v a b : Nat) (e : Ending) (w' : World) : Prop :=
  ∃ (k : Nat) (m' : Mem) (h' : Hd) (cs' : List Nd), e = .returned (.tuple #[.int .i64 (k : Int), .int .i64 0]) ∧ LSt W B m' h' cs' o mb (c + 1) w' ∧ Ext cs cs' ∧ m'.s = m.s ∧ At cs' v k ∧ ∀ val, Says 4 cs' val k = if val v then Says 4 cs val b else Says 4 cs val a

theorem LSt.mkn {W : World} {B : Nat} {m : Mem} {h : Hd} {cs : List Nd} {o : Nat} {mb : Option Nat} {c : Nat} {w : World} (l : LSt W B m h cs o mb c w) (hr : c + 1 ≤ B) {v a b : Nat} (hv : v < 4) (ha : At cs (v + 1 : Nat) a) (hb : At cs (v + 1 : Nat) b) :
    Calls Try.prog 29 #[ptrV m.s, .int .i64 (v : Int), .int .i64 a, .int .i64 b] w (LMkOut W B m cs o mb c v a b) := by
  obtain ⟨ca, ia, la⟩ := ha
  obtain ⟨cb, ib, lb⟩ := hb
  have hc := l.cnt
  have hB := l.B
  refine (mk_roomS l.ost.st (by omega) (by have := l.V; omega) ia (by omega) ib (by omega)).mono ?_
  rintro e w' ⟨k, m', h', cs', d, rfl, s', x, i, le, y, v', b', sw, cn, fr, n⟩
  rw [l.V] at y
  exact ⟨k, m', h', cs', rfl, l.next s' x v' b' sw (by omega) n, x, n.s, ⟨d, i, le⟩, y⟩

theorem Says_at {cs cs' : List Nd} {u : Int} {k : Nat} (a : At cs u k) (x : Ext cs cs') (g : NGood 4 cs) (g' : NGood 4 cs') {f : (Nat → Bool) → Bool} (hs : ∀ val, Says 4 cs val k = f val) : ∀ val, Says 4 cs' val k = f val := fun val => (a.says x g g' val).trans (hs val)

theorem same_node {cs : List Nd} {u v : Int} {k j : Nat} (g : NGood 4 cs) (hk : At cs u k) (hj : At cs v j) (h : ∀ val, Says 4 cs val k = Says 4 cs val j) : k = j := by
  obtain ⟨c, ic, _⟩ := hk
  obtain ⟨d, id, _⟩ := hj
  exact canon g ic id h

set_option maxHeartbeats 2000000 in
set_option maxRecDepth 100000 in
theorem awake4 (w : World) : Calls Try.prog 14 #[] w fun e w' => e = .returned (.bool true) ∧ Below w.heap.size w w' := by
  have BG := begun_any 50 (by omega) (by omega) w
  change Calls _ _ #[.int .i64 50] _ _ at BG
  have BG := Lib.hid BG
  go_enter Try.func14, Try.ntmps14
  go_wp2_with fail
  refine BG.out.mono ?_
  rintro e w1 ⟨m1, o, rfl, l1⟩
  have M1 := l1.mkn (v := 0) (a := 0) (b := 1) (by omega) (by omega) (l1.good.at0 (by omega)) (l1.good.at1 (by omega))
  change Calls _ _ #[_, .int .i64 0, .int .i64 0, .int .i64 1] _ _ at M1
  unfold ptrV at *
  have M1 := Lib.hid M1
  have L1 := Lib.hid l1
  clear l1 BG
  go_wp2_with fail
  refine M1.out.mono ?_
  rintro e w2 ⟨x, m2, h2, cs2, rfl, l2, x2, s2, ax, sx⟩
  have sx : ∀ val, Says 4 cs2 val x = val 0 := fun val => by rw [sx, Says_one, Says_zero]; cases val 0 <;> rfl
  have M2 := l2.mkn (v := 1) (a := 0) (b := 1) (by omega) (by omega) (l2.good.at0 (by omega)) (l2.good.at1 (by omega))
  change Calls _ _ #[_, .int .i64 1, .int .i64 0, .int .i64 1] _ _ at M2
  rw [s2] at M2
  unfold ptrV at M2
  have M2 := Lib.hid M2
  have L2 := Lib.hid l2
  have AX := Lib.hid ax
  have SX := Lib.hid sx
  have S2 := Lib.hid s2
  clear l2 x2 s2 ax sx M1
  go_wp2_with fail
  refine M2.out.mono ?_
  rintro e w3 ⟨y, m3, h3, cs3, rfl, l3, x3, s3, ay, sy⟩
  have sy : ∀ val, Says 4 cs3 val y = val 1 := fun val => by rw [sy, Says_one, Says_zero]; cases val 1 <;> rfl
  have sx := Says_at AX.out x3 L2.out.good l3.good SX.out
  have ax := AX.out.ext x3
  have NT := Lib.hid (not_good l3.ost l3.room (ax.mono (by omega)))
  have L3 := Lib.hid l3
  have AX := Lib.hid (ax.mono (v := 0) (by omega))
  have SX := Lib.hid sx
  have AY := Lib.hid (ay.mono (v := 0) (by omega))
  have SY := Lib.hid sy
  have S3 := Lib.hid (s3.trans S2.out)
  clear l3 x3 s3 ay sy sx ax M2
  go_wp2_with fail
  refine NT.out.mono ?_
  intro e w4 hout
  obtain ⟨n, m4, h4, cs4, mb4, rfl, l4, x4, -, s4, an, sn⟩ := L3.out.ask (by omega) hout
  clear hout
  have sn : ∀ val, Says 4 cs4 val n = !val 0 := fun val => by
    rw [sn]
    simp only [qsem, Says_one, Says_zero, SX.out]
    cases val 0 <;> rfl
  have sx := Says_at AX.out x4 L3.out.good l4.good SX.out
  have sy := Says_at AY.out x4 L3.out.good l4.good SY.out
  have AN1 := Lib.hid (and_good l4.ost l4.room (AX.out.ext x4) an)
  have L4 := Lib.hid l4
  have AX := Lib.hid (AX.out.ext x4)
  have SX := Lib.hid sx
  have AY := Lib.hid (AY.out.ext x4)
  have SY := Lib.hid sy
  have AN := Lib.hid an
  have SN := Lib.hid sn
  have S4 := Lib.hid (s4.trans S3.out)
  clear l4 x4 s4 an sn sx sy NT
  go_wp2_with fail
  refine AN1.out.mono ?_
  intro e w5 hout
  obtain ⟨a, m5, h5, cs5, mb5, rfl, l5, x5, -, s5, aa, sa⟩ := L4.out.ask (by omega) hout
  clear hout
  have ha : a = 0 := same_node l5.good aa (l5.good.at0 (u := 0) (by omega)) fun val => by
    rw [sa, Says_zero]
    simp only [qsem, Says_zero, SX.out, SN.out]
    cases val 0 <;> rfl
  have sx := Says_at AX.out x5 L4.out.good l5.good SX.out
  have sy := Says_at AY.out x5 L4.out.good l5.good SY.out
  have OR := Lib.hid (or_good l5.ost l5.room (AX.out.ext x5) (AY.out.ext x5))
  have L5 := Lib.hid l5
  have SX := Lib.hid sx
  have SY := Lib.hid sy
  have HA : ((a : Int) == 0) = true := by subst ha; rfl
  have S5 := Lib.hid (s5.trans S4.out)
  clear l5 x5 s5 aa sa sx sy AN1 ha AX AY
  go_wp2_with fail
  refine OR.out.mono ?_
  intro e w6 hout
  obtain ⟨b, m6, h6, cs6, mb6, rfl, l6, x6, -, s6, ab, sb⟩ := L5.out.ask (by omega) hout
  clear hout
  have sb : ∀ val, Says 4 cs6 val b = (val 0 || val 1) := fun val => by
    rw [sb]
    simp only [qsem, Says_one, SX.out, SY.out]
    cases val 0 <;> rfl
  have hb2 : (1 : Int) < (b : Int) := by
    have h0 : b ≠ 0 := by
      rintro rfl
      have h1 := sb (fun _ => true)
      rw [Says_zero] at h1
      cases h1
    have h1 : b ≠ 1 := by
      rintro rfl
      have h1 := sb (fun _ => false)
      rw [Says_one] at h1
      cases h1
    omega
  have S6 := s6.trans S5.out
  have hbx := (Below.refl w6.heap.size w6).alloc (Nat.le_refl _) (.cells #[.bool false, .bool true] 4)
  have R6 : Rd (w6.alloc (.cells #[.bool false, .bool true] 4)) (some ⟨w6.heap.size, 0, none⟩) ([false, true].map Value.bool) := by
    refine .inr ⟨w6.heap.size, 0, rfl, by simp, fun j u hu => ?_⟩
    have := World.news_of_block (heap_alloc_new w6 (.cells #[.bool false, .bool true] 4)) j u hu
    rw [Nat.zero_add]
    match j with
    | 0 => exact this
    | 1 => exact this
    | j + 2 => simp at hu
  have l7 := l6.keep hbx
  obtain ⟨cb, ib, _⟩ := ab
  have EV := eval_yes l7.ost.st ib (cap := 2) R6 (by simp)
  rw [l7.V, sb] at EV
  change Calls _ _ #[_, _, .slice _ 2 2] _ _ at EV
  rw [S6] at EV
  have EV := Lib.hid EV
  have ST := store_ops l7.ost
  have LN := len_store l7.ost.st.lay
  rw [S6] at ST LN
  have ST := Lib.hid ST
  have LN := Lib.hid LN
  have L7 := Lib.hid l7
  unfold ptrV at EV ST LN
  clear l6 x6 s6 sb S6 hbx R6 l7 ib OR
  go_wp2_with fail
  refine EV.out.mono ?_
  rintro e w8 ⟨rfl, rfl⟩
  have hv : (valOf [false, true] 0 || valOf [false, true] 1) = true := rfl
  rw [hv]
  clear hv EV
  go_wp2_with fail
  refine ST.out.mono ?_
  rintro e w9 ⟨rfl, rfl⟩
  go_wp2_with fail
  refine LN.out.mono ?_
  rintro e w9 ⟨rfl, rfl⟩
  go_wp2_with fail
  refine LN.out.mono ?_
  rintro e w9 ⟨rfl, rfl⟩
  go_wp2_with fail
  go_ret
  exact ⟨rfl, L7.out.below⟩
end Go.Proofs.Ytfdebadmikmnaaa
