/- Layer 3's laws: bits of a number, values of four variables, the node that says what bits say. -/
import Derived.Test.YtmfghmnnacagbaaNSem
namespace Go.Proofs.Ytmfghmnnacagbaa
open Go.ChangeShapes Go.WideShapes Go.ChangeAt Go.RowKit

theorem and_one (z : Int) : bits BinOp.and IntKind.i64 z 1 = z % 2 := by
  show IntKind.i64.wrap ((BitVec.ofInt 64 z &&& BitVec.ofInt 64 ((1 : Nat) : Int)).toNat : Int) = _
  rw [BitVec.toNat_and, ofInt_i64 1 (by omega), Nat.and_one_is_mod, IntKind.wrap_i64, BitVec.toNat_ofInt]
  omega
theorem and_mask16 (z : Int) : bits BinOp.and IntKind.i64 z 65535 = z % 65536 := by
  show IntKind.i64.wrap ((BitVec.ofInt 64 z &&& BitVec.ofInt 64 ((65535 : Nat) : Int)).toNat : Int) = _
  have h := Nat.and_two_pow_sub_one_eq_mod (BitVec.ofInt 64 z).toNat 16
  rw [BitVec.toNat_and, ofInt_i64 65535 (by omega), show (65535 : Nat) = 2 ^ 16 - 1 from rfl, h, IntKind.wrap_i64, BitVec.toNat_ofInt]
  omega
theorem and_mask4 (z : Int) : bits BinOp.and IntKind.i64 z 15 = z % 16 := by
  show IntKind.i64.wrap ((BitVec.ofInt 64 z &&& BitVec.ofInt 64 ((15 : Nat) : Int)).toNat : Int) = _
  have h := Nat.and_two_pow_sub_one_eq_mod (BitVec.ofInt 64 z).toNat 4
  rw [BitVec.toNat_and, ofInt_i64 15 (by omega), show (15 : Nat) = 2 ^ 4 - 1 from rfl, h, IntKind.wrap_i64, BitVec.toNat_ofInt]
  omega

/-- Bit i of a number. -/
def bitZ (n : Int) (i : Nat) : Bool := n / 2 ^ i % 2 == 1
def bitsL (n : Int) (j : Nat) : List Bool := (List.range j).map (bitZ n)
theorem bitsL_length (n : Int) (j : Nat) : (bitsL n j).length = j := by simp [bitsL]
theorem bitsL_snoc (n : Int) (j : Nat) : bitsL n (j + 1) = bitsL n j ++ [bitZ n j] := by simp [bitsL, List.range_succ]
theorem bitsL_get (n : Int) (j i : Nat) (h : i < j) : (bitsL n j)[i]? = some (bitZ n i) := by simp [bitsL, h]

def BitsOut (n : Int) (w : World) (e : Ending) (w' : World) : Prop :=
  ∃ g cap, e = .returned (.slice (some ⟨g, 0, none⟩) 16 cap) ∧ Rd w' (some ⟨g, 0, none⟩) ((bitsL n 16).map Value.bool) ∧ w.heap.size ≤ g ∧ g < w'.heap.size ∧ Below w.heap.size w w'

theorem info_bool3 : (Try.prog.info? 4).map (fun i => (i.zero, i.size, i.bytes)) = some (some (.bool false), 1, 1) := by kernel_rfl

set_option maxHeartbeats 1000000 in
set_option maxRecDepth 100000 in
theorem bits_any (n : Int) (w : World) : Calls Try.prog 18 #[.int .i64 n] w (BitsOut n w) := by
  obtain ⟨i0, hi, hz0, hz1, hz2⟩ := info_parts info_bool3
  have HI := Lib.hid hi
  have HZ0 := Lib.hid hz0
  have HZ1 := Lib.hid hz1
  have HZ2 := Lib.hid hz2
  clear hi hz0 hz1 hz2
  go_enter Try.func18, Try.ntmps18
  go_wp2_with fail
  go_loopw [3, 4] (fun v iv wr => ∃ j : Nat, j ≤ 16 ∧ iv = .int .i64 j ∧ wr.ownsRow w.heap.size 4 1 v j ((bitsL n j).map Value.bool) ∧ Below w.heap.size w wr) (fun _ iv _ => 16 - (intOf iv).toNat)
  case atStart => exact ⟨0, by omega, rfl, World.ownsRow_nil _ _ _ _, Below.refl _ _⟩
  case round =>
    obtain ⟨j, hj, rfl, hrow, hbel⟩ := hrel
    have HROW := Lib.hid hrow
    have HB := Lib.hid hbel
    clear hrow hbel
    by_cases hlt : j < 16
    · have mx : Hid (j + 1 ≤ maxLen) := by show _ ≤ _; unfold maxLen; omega
      have mb : Hid ((j + 1) * 1 ≤ 140737488355328) := by show _ ≤ _; omega
      have hb : (bits BinOp.and IntKind.i64 (n / 2 ^ j) 1 == 1) = bitZ n j := by unfold bitZ; rw [and_one]
      have bs : Hid (w.heap.size ≤ (wr.alloc (.cells #[.bool (bitZ n j)] 4)).heap.size) := by have := HB.out.size; show _ ≤ _; simp; omega
      go_wp2_with (at_builtin; refine wpList_append_own _ rfl (.tmp 9) (.tmp 15) 35 rfl w.heap.size 4 i0 _ 1 1 Try.underlying35 HI.out HZ0.out HZ1.out HZ2.out rfl (by omega) _ j _ rfl (HROW.out.alloc _) ⟨wr.heap.size, 0, none⟩ 1 1 [.bool (bitZ n j)] rfl rfl (World.news_of_block (cs := #[.bool (bitZ n j)]) (t := 4) (fr := (0, 0)) (heap_alloc_new wr _)) (by simp [Value.oneCell']) mx.out mb.out bs.out ?_; intro v' w2 hown hgrow _; have HO := Lib.hid hown; have HG := Lib.hid hgrow; clear hown hgrow)
      go_roundw
      case rel => exact ⟨j + 1, by omega, by go_num, by rw [bitsL_snoc, List.map_append]; exact HO.out, (HB.out.alloc HB.out.size _).grown HG.out bs.out (fun k hk => (HROW.out.lt k hk).1)⟩
      case measure => simp [intOf]; omega
    · obtain rfl : j = 16 := by omega
      obtain ⟨g, cap, hv, hgb, hgl⟩ := HROW.out.form (by omega)
      subst hv
      go_wp2_with fail
      go_ret
      refine ⟨g, cap, rfl, .inr ⟨g, 0, rfl, hgl, fun j u hu => ?_⟩, hgb, hgl, HB.out⟩
      have := HROW.out.cells (g := g) rfl j u hu
      have hadd : (⟨g, 0, none⟩ : Addr).add j = ⟨g, j, none⟩ := by unfold Addr.add; split <;> simp_all
      rw [hadd] at this
      rw [Nat.zero_add]
      exact this

def valsZ (n : Int) : List Bool := [n % 2 == 1, n / 2 % 2 == 1, n / 4 % 2 == 1, n / 8 % 2 == 1]

def ValsOut (n : Int) (w : World) (e : Ending) (w' : World) : Prop :=
  ∃ g, e = .returned (.slice (some ⟨g, 0, none⟩) 4 4) ∧ w'.heap[g]? = some (.cells #[.bool (n % 2 == 1), .bool (n / 2 % 2 == 1), .bool (n / 4 % 2 == 1), .bool (n / 8 % 2 == 1)] 4 (0, 0)) ∧ w.heap.size ≤ g ∧ Below w.heap.size w w'

theorem vals_any (n : Int) (w : World) : Calls Try.prog 21 #[.int .i64 n] w (ValsOut n w) := by
  have a0 : (bits BinOp.and IntKind.i64 n 1 == 1) = (n % 2 == 1) := by rw [and_one]
  have a1 : (bits BinOp.and IntKind.i64 (n / 2) 1 == 1) = (n / 2 % 2 == 1) := by rw [and_one]
  have a2 : (bits BinOp.and IntKind.i64 (n / 4) 1 == 1) = (n / 4 % 2 == 1) := by rw [and_one]
  have a3 : (bits BinOp.and IntKind.i64 (n / 8) 1 == 1) = (n / 8 % 2 == 1) := by rw [and_one]
  obtain ⟨x0, h0⟩ : ∃ x : Bool, (n % 2 == 1) = x := ⟨_, rfl⟩
  obtain ⟨x1, h1⟩ : ∃ x : Bool, (n / 2 % 2 == 1) = x := ⟨_, rfl⟩
  obtain ⟨x2, h2⟩ : ∃ x : Bool, (n / 4 % 2 == 1) = x := ⟨_, rfl⟩
  obtain ⟨x3, h3⟩ : ∃ x : Bool, (n / 8 % 2 == 1) = x := ⟨_, rfl⟩
  rw [h0] at a0
  rw [h1] at a1
  rw [h2] at a2
  rw [h3] at a3
  unfold ValsOut
  rw [h0, h1, h2, h3]
  clear h0 h1 h2 h3
  go_enter Try.func21, Try.ntmps21
  go_wp2
  go_ret
  exact ⟨w.heap.size, rfl, heap_alloc_new w _, Nat.le_refl _, (Below.refl _ _).alloc (Nat.le_refl _) _⟩

/-- Which bit a node's answer is, that asks v and later variables. -/
def tix (val : Nat → Bool) : Nat → Nat → Nat → Nat
  | 0, _, from' => from'
  | d + 1, v, from' => tix val d (v + 1) (if val v then from' + 2 ^ v else from')

theorem tix_lt (val : Nat → Bool) : ∀ d v f, f < 2 ^ v → tix val d v f < 2 ^ (v + d) := by
  intro d
  induction d with
  | zero => intro v f h; exact h
  | succ d ih =>
    intro v f h
    unfold tix
    have := ih (v + 1) (if val v then f + 2 ^ v else f) (by split <;> (rw [Nat.pow_succ]; omega))
    rwa [show v + 1 + d = v + (d + 1) by omega] at this

/-- The store behind table. -/
def TabOut (m : Mem) (h : Hd) (cs : List Nd) (bs : List Bool) (d v f : Nat) (w : World) (e : Ending) (w' : World) : Prop :=
  ∃ (k : Nat) (m' : Mem) (h' : Hd) (cs' : List Nd) (c : Nd), e = .returned (.tuple #[.int .i64 (k : Int), .bool true]) ∧ St w' m' h' cs' ∧ Ext cs cs' ∧ Is cs' k c ∧ (v : Int) ≤ c.asks ∧
    (∀ val, Says 4 cs' val k = (bs[tix val d v f]?).getD false) ∧ h'.V = h.V ∧ h'.B = h.B ∧ cnt cs' + 1 ≤ cnt cs + 2 ^ d ∧ Fresh cs cs' ∧ Next m m' w w'

theorem Rd.next {w w' : World} {m m' : Mem} {g : Nat} {xs : List Value} (h : Rd w (some ⟨g, 0, none⟩) xs) (hn : Next m m' w w') (hg : g < w.heap.size) (ho : ¬ m.own g) : Rd w' (some ⟨g, 0, none⟩) xs := by
  rcases h with h | ⟨b, off, e, _, hc⟩
  · exact .inl h
  · simp only [Option.some.injEq, Addr.mk.injEq, and_true] at e
    obtain ⟨rfl, rfl⟩ := e
    exact .inr ⟨g, 0, rfl, Nat.lt_of_lt_of_le hg hn.turn.size, fun j u hu => hn.cell (hc j u hu) ho⟩

theorem table_leaf {w : World} {m : Mem} {h : Hd} {cs : List Nd} (s : St w m h cs) (hV : h.V = 4) {f g cap : Nat} {bs : List Bool} (hf : f < 16) (hbs : bs.length = 16) (hr : Rd w (some ⟨g, 0, none⟩) (bs.map Value.bool)) :
    Calls Try.prog 19 #[ptrV m.s, .int .i64 4, .int .i64 (f : Int), .slice (some ⟨g, 0, none⟩) 16 cap] w (TabOut m h cs bs 0 4 f w) := by
  have hx : bits BinOp.and IntKind.i64 (f : Int) 15 = (f : Int) := by rw [and_mask4]; omega
  have hget : bs[f]? = some bs[f] := List.getElem?_eq_getElem (by omega)
  have hu : w.cell? ⟨g, f, none⟩ = some (.bool bs[f]) := by
    rcases hr with hr | ⟨b, off, e, _, hc⟩
    · rw [List.map_eq_nil_iff] at hr; rw [hr] at hbs; cases hbs
    · simp only [Option.some.injEq, Addr.mk.injEq, and_true] at e
      obtain ⟨rfl, rfl⟩ := e
      have := hc f (.bool bs[f]) (by rw [List.getElem?_map, hget]; rfl)
      rwa [Nat.zero_add] at this
  obtain ⟨p0, q0⟩ := s.good.is0
  obtain ⟨p1, q1⟩ := s.good.is1
  rw [hV] at q0 q1
  have S := Lib.hid s
  have Q0 := Lib.hid q0
  have Q1 := Lib.hid q1
  have HG := Lib.hid hget
  clear s q0 q1 hget hr hV
  unfold ptrV
  cases hb : bs[f] with
  | true =>
    rw [hb] at hu HG
    clear hb
    go_enter Try.func19, Try.ntmps19
    go_wp2_with fail
    go_ret2
    exact ⟨1, m, h, cs, _, rfl, S.out, Ext.refl _, Q1.out, Int.le_refl _, fun val => by rw [Says_one]; unfold tix; rw [HG.out]; rfl, rfl, rfl, Nat.le_refl _, Fresh.refl _, Next.refl _ _⟩
  | false =>
    rw [hb] at hu HG
    clear hb
    go_enter Try.func19, Try.ntmps19
    go_wp2_with fail
    go_ret2
    exact ⟨0, m, h, cs, _, rfl, S.out, Ext.refl _, Q0.out, Int.le_refl _, fun val => by rw [Says_zero]; unfold tix; rw [HG.out]; rfl, rfl, rfl, Nat.le_refl _, Fresh.refl _, Next.refl _ _⟩

/-- One step of table, from what its two calls give. -/
def TabAt (bs : List Bool) (g cap d v : Nat) : Prop := ∀ (f : Nat) (m : Mem) (h : Hd) (cs : List Nd) (w : World), f < 2 ^ v → St w m h cs → h.V = 4 → cnt cs + 2 ^ d ≤ h.B + 1 → Rd w (some ⟨g, 0, none⟩) (bs.map Value.bool) → g < w.heap.size → ¬ m.own g →
  Calls Try.prog 19 #[ptrV m.s, .int .i64 (v : Int), .int .i64 (f : Int), .slice (some ⟨g, 0, none⟩) 16 cap] w (TabOut m h cs bs d v f w)

theorem tab_join {m m1 m2 m3 : Mem} {h h1 h2 h3 : Hd} {cs cs1 cs2 cs3 : List Nd} {bs : List Bool} {d v f a b k : Nat} {w w1 w2 w3 : World} {c ca : Nd} (g0 : h.V = 4) (s1 : St w1 m1 h1 cs1) (x1 : Ext cs cs1) (ia : Is cs1 a ca) (sa : ∀ val, Says 4 cs1 val a = (bs[tix val d (v + 1) f]?).getD false) (v1 : h1.V = h.V) (b1 : h1.B = h.B) (c1 : cnt cs1 + 1 ≤ cnt cs + 2 ^ d) (q1 : Fresh cs cs1) (n1 : Next m m1 w w1)
    (s2 : St w2 m2 h2 cs2) (x2 : Ext cs1 cs2) (sb : ∀ val, Says 4 cs2 val b = (bs[tix val d (v + 1) (f + 2 ^ v)]?).getD false) (v2 : h2.V = h1.V) (b2 : h2.B = h1.B) (c2 : cnt cs2 + 1 ≤ cnt cs1 + 2 ^ d) (q2 : Fresh cs1 cs2) (n2 : Next m1 m2 w1 w2)
    (s3 : St w3 m3 h3 cs3) (x3 : Ext cs2 cs3) (ik : Is cs3 k c) (hk : (v : Int) ≤ c.asks) (sk : ∀ val, Says h2.V cs3 val k = if val v then Says h2.V cs2 val b else Says h2.V cs2 val a) (v3 : h3.V = h2.V) (b3 : h3.B = h2.B) (c3 : cnt cs3 ≤ cnt cs2 + 1) (q3 : Fresh cs2 cs3) (n3 : Next m2 m3 w2 w3) :
    TabOut m h cs bs (d + 1) v f w (.returned (.tuple #[.int .i64 (k : Int), .bool true])) w3 := by
  have e1 : h1.V = 4 := v1.trans g0
  have e2 : h2.V = 4 := v2.trans e1
  rw [e2] at sk
  have ga := s1.good
  have gb := s2.good
  rw [e1] at ga
  rw [e2] at gb
  refine ⟨k, m3, h3, cs3, c, rfl, s3, (x1.trans x2).trans x3, ik, hk, fun val => ?_, (v3.trans v2).trans v1, (b3.trans b2).trans b1, ?_, (q1.trans q2).trans q3, (n1.trans n2).trans n3⟩
  · rw [sk val]
    show _ = (bs[tix val d (v + 1) (if val v then f + 2 ^ v else f)]?).getD false
    by_cases hv : val v
    · rw [if_pos hv, if_pos hv, sb]
    · rw [if_neg hv, if_neg hv, x2.says ga gb val ia, sa]
  · rw [Nat.pow_succ]; omega

set_option maxHeartbeats 2000000 in
set_option maxRecDepth 100000 in
theorem tab_step3 {bs : List Bool} {g cap : Nat} (ih : TabAt bs g cap 0 4) : TabAt bs g cap 1 3 := by
  intro f m h cs w hf s hV hroom hr hg ho
  have hf : f < 8 := hf
  have hroom : cnt cs + 2 ≤ h.B + 1 := hroom
  have T1 := ih f m h cs w (by show f < 16; omega) s hV (by show cnt cs + 1 ≤ h.B + 1; omega) hr hg ho
  have IH := Lib.hid ih
  have S := Lib.hid s
  have HF := Lib.hid hf
  have HV := Lib.hid hV
  have HRO := Lib.hid hroom
  have HR := Lib.hid hr
  have HG := Lib.hid hg
  have HO := Lib.hid ho
  have T1 := Lib.hid T1
  have hf8 : (f : Int) < 8 := by omega
  clear ih s hf hV hroom hr hg ho
  unfold ptrV at *
  show Calls Try.prog 19 #[.pointer (some ⟨m.s, 0, none⟩), .int .i64 3, .int .i64 (f : Int), .slice (some ⟨g, 0, none⟩) 16 cap] w _
  go_enter Try.func19, Try.ntmps19
  go_wp2_with fail
  refine T1.out.mono ?_
  rintro e w1 ⟨a, m1, h1, cs1, ca, rfl, s1, x1, ia, la, sa, v1, b1, c1, q1, n1⟩
  have c1 : cnt cs1 + 1 ≤ cnt cs + 1 := c1
  have T2 := IH.out (f + 8) m1 h1 cs1 w1 (by have := HF.out; show f + 8 < 16; omega) s1 (v1.trans HV.out) (by have := HRO.out; show cnt cs1 + 1 ≤ h1.B + 1; omega) (HR.out.next n1 HG.out HO.out) (Nat.lt_of_lt_of_le HG.out n1.turn.size) (n1.not_own HG.out HO.out)
  rw [n1.s, show ((f + 8 : Nat) : Int) = (f : Int) + 8 by omega] at T2
  have T2 := Lib.hid T2
  unfold ptrV at T2
  have S1 := Lib.hid s1
  have X1 := Lib.hid x1
  have IA := Lib.hid ia
  have LA := Lib.hid la
  have SA := Lib.hid sa
  have V1 := Lib.hid v1
  have B1 := Lib.hid b1
  have C1 := Lib.hid c1
  have N1 := Lib.hid n1
  have Q1 := Lib.hid q1
  clear s1 x1 ia la sa v1 b1 c1 q1 n1
  go_wp2_with fail
  refine T2.out.mono ?_
  rintro e w2 ⟨b, m2, h2, cs2, cb, rfl, s2, x2, ib, lb, sb, v2, b2, c2, q2, n2⟩
  have c2 : cnt cs2 + 1 ≤ cnt cs1 + 1 := c2
  have MK := mk_room (v := 3) (a := a) (b := b) s2 (by have := HRO.out; have := C1.out; have := B1.out; omega) (by rw [v2, V1.out, HV.out]; omega) (X1.out |> fun _ => x2 a ca IA.out) (by have h := LA.out; have h : (4 : Int) ≤ ca.asks := h; show (3 : Int) < ca.asks; omega) ib (by have h : (4 : Int) ≤ cb.asks := lb; show (3 : Int) < cb.asks; omega)
  rw [n2.s, N1.out.s] at MK
  have MK := Lib.hid MK
  unfold ptrV at MK
  have S2 := Lib.hid s2
  have X2 := Lib.hid x2
  have SB := Lib.hid sb
  have V2 := Lib.hid v2
  have B2 := Lib.hid b2
  have C2 := Lib.hid c2
  have N2 := Lib.hid n2
  have Q2 := Lib.hid q2
  clear s2 x2 ib lb sb v2 b2 c2 q2 n2
  go_wp2_with fail
  refine MK.out.mono ?_
  rintro e w3 ⟨k, m3, h3, cs3, c, rfl, s3, x3, ik, hk, sk, v3, b3, c3, q3, n3⟩
  have FIN := Lib.hid (tab_join (d := 0) (v := 3) (f := f) HV.out S1.out X1.out IA.out SA.out V1.out B1.out C1.out Q1.out N1.out S2.out X2.out SB.out V2.out B2.out C2.out Q2.out N2.out s3 x3 ik hk sk v3 b3 c3 q3 n3)
  clear s3 x3 ik hk sk v3 b3 c3 q3 n3
  go_wp2_with fail
  go_ret2
  exact FIN.out

set_option maxHeartbeats 2000000 in
set_option maxRecDepth 100000 in
theorem tab_step2 {bs : List Bool} {g cap : Nat} (ih : TabAt bs g cap 1 3) : TabAt bs g cap 2 2 := by
  intro f m h cs w hf s hV hroom hr hg ho
  have hf : f < 4 := hf
  have hroom : cnt cs + 4 ≤ h.B + 1 := hroom
  have T1 := ih f m h cs w (by show f < 8; omega) s hV (by show cnt cs + 2 ≤ h.B + 1; omega) hr hg ho
  have IH := Lib.hid ih
  have S := Lib.hid s
  have HF := Lib.hid hf
  have HV := Lib.hid hV
  have HRO := Lib.hid hroom
  have HR := Lib.hid hr
  have HG := Lib.hid hg
  have HO := Lib.hid ho
  have T1 := Lib.hid T1
  have hf8 : (f : Int) < 4 := by omega
  clear ih s hf hV hroom hr hg ho
  unfold ptrV at *
  show Calls Try.prog 19 #[.pointer (some ⟨m.s, 0, none⟩), .int .i64 2, .int .i64 (f : Int), .slice (some ⟨g, 0, none⟩) 16 cap] w _
  go_enter Try.func19, Try.ntmps19
  go_wp2_with fail
  refine T1.out.mono ?_
  rintro e w1 ⟨a, m1, h1, cs1, ca, rfl, s1, x1, ia, la, sa, v1, b1, c1, q1, n1⟩
  have c1 : cnt cs1 + 1 ≤ cnt cs + 2 := c1
  have T2 := IH.out (f + 4) m1 h1 cs1 w1 (by have := HF.out; show f + 4 < 8; omega) s1 (v1.trans HV.out) (by have := HRO.out; show cnt cs1 + 2 ≤ h1.B + 1; omega) (HR.out.next n1 HG.out HO.out) (Nat.lt_of_lt_of_le HG.out n1.turn.size) (n1.not_own HG.out HO.out)
  rw [n1.s, show ((f + 4 : Nat) : Int) = (f : Int) + 4 by omega] at T2
  have T2 := Lib.hid T2
  unfold ptrV at T2
  have S1 := Lib.hid s1
  have X1 := Lib.hid x1
  have IA := Lib.hid ia
  have LA := Lib.hid la
  have SA := Lib.hid sa
  have V1 := Lib.hid v1
  have B1 := Lib.hid b1
  have C1 := Lib.hid c1
  have N1 := Lib.hid n1
  have Q1 := Lib.hid q1
  clear s1 x1 ia la sa v1 b1 c1 q1 n1
  go_wp2_with fail
  refine T2.out.mono ?_
  rintro e w2 ⟨b, m2, h2, cs2, cb, rfl, s2, x2, ib, lb, sb, v2, b2, c2, q2, n2⟩
  have c2 : cnt cs2 + 1 ≤ cnt cs1 + 2 := c2
  have MK := mk_room (v := 2) (a := a) (b := b) s2 (by have := HRO.out; have := C1.out; have := B1.out; omega) (by rw [v2, V1.out, HV.out]; omega) (X1.out |> fun _ => x2 a ca IA.out) (by have h := LA.out; have h : (3 : Int) ≤ ca.asks := h; show (2 : Int) < ca.asks; omega) ib (by have h : (3 : Int) ≤ cb.asks := lb; show (2 : Int) < cb.asks; omega)
  rw [n2.s, N1.out.s] at MK
  have MK := Lib.hid MK
  unfold ptrV at MK
  have S2 := Lib.hid s2
  have X2 := Lib.hid x2
  have SB := Lib.hid sb
  have V2 := Lib.hid v2
  have B2 := Lib.hid b2
  have C2 := Lib.hid c2
  have N2 := Lib.hid n2
  have Q2 := Lib.hid q2
  clear s2 x2 ib lb sb v2 b2 c2 q2 n2
  go_wp2_with fail
  refine MK.out.mono ?_
  rintro e w3 ⟨k, m3, h3, cs3, c, rfl, s3, x3, ik, hk, sk, v3, b3, c3, q3, n3⟩
  have FIN := Lib.hid (tab_join (d := 1) (v := 2) (f := f) HV.out S1.out X1.out IA.out SA.out V1.out B1.out C1.out Q1.out N1.out S2.out X2.out SB.out V2.out B2.out C2.out Q2.out N2.out s3 x3 ik hk sk v3 b3 c3 q3 n3)
  clear s3 x3 ik hk sk v3 b3 c3 q3 n3
  go_wp2_with fail
  go_ret2
  exact FIN.out

set_option maxHeartbeats 2000000 in
set_option maxRecDepth 100000 in
theorem tab_step1 {bs : List Bool} {g cap : Nat} (ih : TabAt bs g cap 2 2) : TabAt bs g cap 3 1 := by
  intro f m h cs w hf s hV hroom hr hg ho
  have hf : f < 2 := hf
  have hroom : cnt cs + 8 ≤ h.B + 1 := hroom
  have T1 := ih f m h cs w (by show f < 4; omega) s hV (by show cnt cs + 4 ≤ h.B + 1; omega) hr hg ho
  have IH := Lib.hid ih
  have S := Lib.hid s
  have HF := Lib.hid hf
  have HV := Lib.hid hV
  have HRO := Lib.hid hroom
  have HR := Lib.hid hr
  have HG := Lib.hid hg
  have HO := Lib.hid ho
  have T1 := Lib.hid T1
  have hf8 : (f : Int) < 2 := by omega
  clear ih s hf hV hroom hr hg ho
  unfold ptrV at *
  show Calls Try.prog 19 #[.pointer (some ⟨m.s, 0, none⟩), .int .i64 1, .int .i64 (f : Int), .slice (some ⟨g, 0, none⟩) 16 cap] w _
  go_enter Try.func19, Try.ntmps19
  go_wp2_with fail
  refine T1.out.mono ?_
  rintro e w1 ⟨a, m1, h1, cs1, ca, rfl, s1, x1, ia, la, sa, v1, b1, c1, q1, n1⟩
  have c1 : cnt cs1 + 1 ≤ cnt cs + 4 := c1
  have T2 := IH.out (f + 2) m1 h1 cs1 w1 (by have := HF.out; show f + 2 < 4; omega) s1 (v1.trans HV.out) (by have := HRO.out; show cnt cs1 + 4 ≤ h1.B + 1; omega) (HR.out.next n1 HG.out HO.out) (Nat.lt_of_lt_of_le HG.out n1.turn.size) (n1.not_own HG.out HO.out)
  rw [n1.s, show ((f + 2 : Nat) : Int) = (f : Int) + 2 by omega] at T2
  have T2 := Lib.hid T2
  unfold ptrV at T2
  have S1 := Lib.hid s1
  have X1 := Lib.hid x1
  have IA := Lib.hid ia
  have LA := Lib.hid la
  have SA := Lib.hid sa
  have V1 := Lib.hid v1
  have B1 := Lib.hid b1
  have C1 := Lib.hid c1
  have N1 := Lib.hid n1
  have Q1 := Lib.hid q1
  clear s1 x1 ia la sa v1 b1 c1 q1 n1
  go_wp2_with fail
  refine T2.out.mono ?_
  rintro e w2 ⟨b, m2, h2, cs2, cb, rfl, s2, x2, ib, lb, sb, v2, b2, c2, q2, n2⟩
  have c2 : cnt cs2 + 1 ≤ cnt cs1 + 4 := c2
  have MK := mk_room (v := 1) (a := a) (b := b) s2 (by have := HRO.out; have := C1.out; have := B1.out; omega) (by rw [v2, V1.out, HV.out]; omega) (X1.out |> fun _ => x2 a ca IA.out) (by have h := LA.out; have h : (2 : Int) ≤ ca.asks := h; show (1 : Int) < ca.asks; omega) ib (by have h : (2 : Int) ≤ cb.asks := lb; show (1 : Int) < cb.asks; omega)
  rw [n2.s, N1.out.s] at MK
  have MK := Lib.hid MK
  unfold ptrV at MK
  have S2 := Lib.hid s2
  have X2 := Lib.hid x2
  have SB := Lib.hid sb
  have V2 := Lib.hid v2
  have B2 := Lib.hid b2
  have C2 := Lib.hid c2
  have N2 := Lib.hid n2
  have Q2 := Lib.hid q2
  clear s2 x2 ib lb sb v2 b2 c2 q2 n2
  go_wp2_with fail
  refine MK.out.mono ?_
  rintro e w3 ⟨k, m3, h3, cs3, c, rfl, s3, x3, ik, hk, sk, v3, b3, c3, q3, n3⟩
  have FIN := Lib.hid (tab_join (d := 2) (v := 1) (f := f) HV.out S1.out X1.out IA.out SA.out V1.out B1.out C1.out Q1.out N1.out S2.out X2.out SB.out V2.out B2.out C2.out Q2.out N2.out s3 x3 ik hk sk v3 b3 c3 q3 n3)
  clear s3 x3 ik hk sk v3 b3 c3 q3 n3
  go_wp2_with fail
  go_ret2
  exact FIN.out

set_option maxHeartbeats 2000000 in
set_option maxRecDepth 100000 in
theorem tab_step0 {bs : List Bool} {g cap : Nat} (ih : TabAt bs g cap 3 1) : TabAt bs g cap 4 0 := by
  intro f m h cs w hf s hV hroom hr hg ho
  have hf : f < 1 := hf
  have hroom : cnt cs + 16 ≤ h.B + 1 := hroom
  have T1 := ih f m h cs w (by show f < 2; omega) s hV (by show cnt cs + 8 ≤ h.B + 1; omega) hr hg ho
  have IH := Lib.hid ih
  have S := Lib.hid s
  have HF := Lib.hid hf
  have HV := Lib.hid hV
  have HRO := Lib.hid hroom
  have HR := Lib.hid hr
  have HG := Lib.hid hg
  have HO := Lib.hid ho
  have T1 := Lib.hid T1
  have hf8 : (f : Int) < 1 := by omega
  clear ih s hf hV hroom hr hg ho
  unfold ptrV at *
  show Calls Try.prog 19 #[.pointer (some ⟨m.s, 0, none⟩), .int .i64 0, .int .i64 (f : Int), .slice (some ⟨g, 0, none⟩) 16 cap] w _
  go_enter Try.func19, Try.ntmps19
  go_wp2_with fail
  refine T1.out.mono ?_
  rintro e w1 ⟨a, m1, h1, cs1, ca, rfl, s1, x1, ia, la, sa, v1, b1, c1, q1, n1⟩
  have c1 : cnt cs1 + 1 ≤ cnt cs + 8 := c1
  have T2 := IH.out (f + 1) m1 h1 cs1 w1 (by have := HF.out; show f + 1 < 2; omega) s1 (v1.trans HV.out) (by have := HRO.out; show cnt cs1 + 8 ≤ h1.B + 1; omega) (HR.out.next n1 HG.out HO.out) (Nat.lt_of_lt_of_le HG.out n1.turn.size) (n1.not_own HG.out HO.out)
  rw [n1.s, show ((f + 1 : Nat) : Int) = (f : Int) + 1 by omega] at T2
  have T2 := Lib.hid T2
  unfold ptrV at T2
  have S1 := Lib.hid s1
  have X1 := Lib.hid x1
  have IA := Lib.hid ia
  have LA := Lib.hid la
  have SA := Lib.hid sa
  have V1 := Lib.hid v1
  have B1 := Lib.hid b1
  have C1 := Lib.hid c1
  have N1 := Lib.hid n1
  have Q1 := Lib.hid q1
  clear s1 x1 ia la sa v1 b1 c1 q1 n1
  go_wp2_with fail
  refine T2.out.mono ?_
  rintro e w2 ⟨b, m2, h2, cs2, cb, rfl, s2, x2, ib, lb, sb, v2, b2, c2, q2, n2⟩
  have c2 : cnt cs2 + 1 ≤ cnt cs1 + 8 := c2
  have MK := mk_room (v := 0) (a := a) (b := b) s2 (by have := HRO.out; have := C1.out; have := B1.out; omega) (by rw [v2, V1.out, HV.out]; omega) (X1.out |> fun _ => x2 a ca IA.out) (by have h := LA.out; have h : (1 : Int) ≤ ca.asks := h; show (0 : Int) < ca.asks; omega) ib (by have h : (1 : Int) ≤ cb.asks := lb; show (0 : Int) < cb.asks; omega)
  rw [n2.s, N1.out.s] at MK
  have MK := Lib.hid MK
  unfold ptrV at MK
  have S2 := Lib.hid s2
  have X2 := Lib.hid x2
  have SB := Lib.hid sb
  have V2 := Lib.hid v2
  have B2 := Lib.hid b2
  have C2 := Lib.hid c2
  have N2 := Lib.hid n2
  have Q2 := Lib.hid q2
  clear s2 x2 ib lb sb v2 b2 c2 q2 n2
  go_wp2_with fail
  refine MK.out.mono ?_
  rintro e w3 ⟨k, m3, h3, cs3, c, rfl, s3, x3, ik, hk, sk, v3, b3, c3, q3, n3⟩
  have FIN := Lib.hid (tab_join (d := 3) (v := 0) (f := f) HV.out S1.out X1.out IA.out SA.out V1.out B1.out C1.out Q1.out N1.out S2.out X2.out SB.out V2.out B2.out C2.out Q2.out N2.out s3 x3 ik hk sk v3 b3 c3 q3 n3)
  clear s3 x3 ik hk sk v3 b3 c3 q3 n3
  go_wp2_with fail
  go_ret2
  exact FIN.out

theorem table_any {w : World} {m : Mem} {h : Hd} {cs : List Nd} (s : St w m h cs) (hV : h.V = 4) (hroom : cnt cs + 16 ≤ h.B + 1) {g cap : Nat} {bs : List Bool} (hbs : bs.length = 16) (hr : Rd w (some ⟨g, 0, none⟩) (bs.map Value.bool)) (hg : g < w.heap.size) (ho : ¬ m.own g) :
    Calls Try.prog 19 #[ptrV m.s, .int .i64 0, .int .i64 0, .slice (some ⟨g, 0, none⟩) 16 cap] w (TabOut m h cs bs 4 0 0 w) := by
  have t4 : TabAt bs g cap 0 4 := fun f m h cs w hf s hV _ hr _ _ => table_leaf s hV hf hbs hr
  exact tab_step0 (tab_step1 (tab_step2 (tab_step3 t4))) 0 m h cs w (by omega) s hV hroom hr hg ho
end Go.Proofs.Ytmfghmnnacagbaa
