/- For any sixteen answers and any order of the four variables: Each's numbers by the variables in that order are the others turned about, rising: the law returns true. No condition. -/
import Derived.Test.YtkmffmlnondolaaM1
namespace Go.Proofs.Ytkmffmlnondolaa
open Go.ChangeShapes Go.WideShapes Go.ChangeAt Go.RowKit Go.Maps

theorem and_seven (z : Int) : ∃ r : Nat, r < 8 ∧ bits BinOp.and IntKind.i64 z 7 = (r : Int) := by
  refine ⟨(z % 8).toNat, by omega, ?_⟩
  show IntKind.i64.wrap ((BitVec.ofInt 64 z &&& BitVec.ofInt 64 ((7 : Nat) : Int)).toNat : Int) = _
  have h := Nat.and_two_pow_sub_one_eq_mod (BitVec.ofInt 64 z).toNat 3
  rw [BitVec.toNat_and, ofInt_i64 7 (by omega), show (7 : Nat) = 2 ^ 3 - 1 from rfl, h, IntKind.wrap_i64, BitVec.toNat_ofInt]
  omega

theorem nat_set {w : World} {b i : Nat} {vs : List Nat} (h : w.heap[b]? = some (.cells (nats vs).toArray 3)) (x : Nat) : (w.setCell ⟨b, i, none⟩ (.int .i64 (x : Int))).heap[b]? = some (.cells (nats (vs.set i x)).toArray 3) := by
  rw [heap_setCell_same _ _ _ _ _ _ h]
  unfold nats
  rw [List.map_set]
  simp
theorem nat_cell {w : World} {b i : Nat} {vs : List Nat} (h : w.heap[b]? = some (.cells (nats vs).toArray 3)) (hi : i < vs.length) : w.cell? ⟨b, i, none⟩ = some (.int .i64 ((varN vs i : Nat) : Int)) := by
  rw [cell_of_row _ _ _ _ _ _ h]
  unfold nats varN
  rw [List.getD_eq_getElem?_getD, List.getElem?_eq_getElem hi]
  simp [hi]
theorem nat_rd {w : World} {b : Nat} {vs : List Nat} (h : w.heap[b]? = some (.cells (nats vs).toArray 3)) : Rd w (some ⟨b, 0, none⟩) (nats vs) :=
  .inr ⟨b, 0, rfl, row_lt h, fun j u hu => by rw [Nat.zero_add, cell_of_row _ _ _ _ _ _ h]; simpa using hu⟩
theorem swap_perm4 {vs : List Nat} {i k : Nat} (hp : vs.Perm [0, 1, 2, 3]) (hi : i < 4) (hk : k < 4) : ((vs.set i (varN vs k)).set k (varN vs i)).Perm [0, 1, 2, 3] := by
  have hl : vs.length = 4 := by have := hp.length_eq; simpa using this
  have h := @List.set_set_perm _ vs i k (by omega) (by omega)
  have e1 : varN vs i = vs[i] := by unfold varN; rw [List.getD_eq_getElem?_getD, List.getElem?_eq_getElem (by omega)]; rfl
  have e2 : varN vs k = vs[k] := by unfold varN; rw [List.getD_eq_getElem?_getD, List.getElem?_eq_getElem (by omega)]; rfl
  rw [e1, e2]
  exact h.trans hp

theorem Rows1.openR {w : World} {B : Nat} {v : Value} {zs : List Int} (h : Rows1 w B v zs) : ∃ A c, v = .slice A zs.length c ∧ ∀ (i : Nat) (z : Int), zs[i]? = some z → ∃ g b off cp, A = some ⟨g, 0, none⟩ ∧ g < w.heap.size ∧ w.cell? ⟨g, i, none⟩ = some (.slice (some ⟨b, off, none⟩) 1 cp) ∧ w.cell? ⟨b, off, none⟩ = some (.int .i64 z) ∧ b < w.heap.size := by
  obtain ⟨vs, h1, h2, -⟩ := h
  rcases h1.2 with ⟨rfl, h0⟩ | ⟨g, cap, cur, rfl, hg, hr, hn, hm, hs, ht⟩
  · refine ⟨none, 0, by rw [h0], fun i z hz => ?_⟩
    rw [List.length_eq_zero_iff.1 h0] at hz
    simp at hz
  · refine ⟨_, cap, rfl, fun i z hz => ?_⟩
    obtain ⟨b, off, cp, e1, e2, e3, e4⟩ := h2 i z hz
    refine ⟨g, b, off, cp, rfl, row_lt hr, ?_, e2, e3⟩
    rw [cell_of_row _ _ _ _ _ _ hr]
    rw [← ht, List.getElem?_take] at e1
    split at e1
    · simpa using e1
    · cases e1

set_option maxHeartbeats 4000000 in
set_option maxRecDepth 100000 in
theorem turned_core (n ord : Int) (w : World) : Calls Try.prog 4 #[.int .i64 n, .int .i64 ord] w fun e w' => e = .returned (.bool true) ∧ Below w.heap.size w w' := by
  obtain ⟨x, hx, ex, -⟩ := low16C n
  have BG := Lib.hid (begun6 w)
  have FU := Lib.hid four_any
  have HX := Lib.hid hx
  clear hx
  go_enter Try.func4, Try.ntmps4
  go_wp2_with fail
  refine BG.out.mono ?_
  rintro e w1 ⟨m1, rfl, s1⟩
  have S1 := Lib.hid s1
  unfold ptrV at *
  clear s1 BG
  go_wp2_with fail
  refine (FU.out _).mono ?_
  rintro e w' ⟨rfl, hw'⟩
  obtain ⟨b, hb⟩ : ∃ b, b = w1.heap.size := ⟨_, rfl⟩
  have r0 : w'.heap[b]? = some (.cells (nats [0, 1, 2, 3]).toArray 3) := by rw [hw', hb]; exact heap_alloc_new w1 _
  have b0 : Below b w1 w' := by rw [hw', hb]; exact (Below.refl _ _).alloc (Nat.le_refl _) _
  rw [← hb]
  have HB0 := Lib.hid hb
  have R0 := Lib.hid r0
  have B0 := Lib.hid b0
  clear hw' hb r0 b0
  go_wp2_with fail
  go_loopw [8, 9, 10] (fun iv _ _ wr => ∃ (i : Nat) (vs : List Nat), i ≤ 3 ∧ iv = .int .i64 (i : Int) ∧ vs.Perm [0, 1, 2, 3] ∧ wr.heap[b]? = some (.cells (nats vs).toArray 3) ∧ Below b w1 wr) (fun iv _ _ _ => (intOf iv).toNat)
  case atStart => exact ⟨3, _, by omega, rfl, List.Perm.refl _, R0.out, B0.out⟩
  case round =>
    obtain ⟨i, vs, hi, rfl, hp, hr, hbel⟩ := hrel
    have hl : vs.length = 4 := by have := hp.length_eq; simpa using this
    rcases (by omega : i = 0 ∨ i = 1 ∨ i = 2 ∨ i = 3) with rfl | rfl | rfl | rfl
    · have TR := Lib.hid (trues_any (x := x) wr)
      have HP := Lib.hid hp
      have HR := Lib.hid hr
      have HBL := Lib.hid hbel
      have HL := Lib.hid hl
      clear hp hr hbel hi hl
      go_wp2_with fail
      refine TR.out.mono ?_
      rintro e w3 ⟨tv, rfl, nr, hb3⟩
      obtain ⟨tA, tc, rfl, trd, -⟩ := nr.rd
      have R3 := Lib.hid ((hb3.block _ (row_lt HR.out)).trans HR.out)
      have B3 := Lib.hid (HBL.out.trans (hb3.mono (Nat.le_trans (by rw [HB0.out]; exact Nat.le_refl _) HBL.out.size)))
      have TRD := Lib.hid trd
      have TL := truesL_len (x : Int) 16
      obtain ⟨l, hl⟩ : ∃ l, l = truesL (x : Int) 16 := ⟨_, rfl⟩
      have LM : Hid (∀ y ∈ l, y < 16) := Lib.hid (fun y hy => by rw [hl] at hy; exact (truesL_mem.1 hy).1)
      rw [← hl] at TL TRD ⊢
      have HL2 := Lib.hid hl
      clear nr hb3 trd TR HR HBL hl
      go_wp2_with fail
      go_loopw [11, 13, 14, 15, 59] (fun rv _ _ _ iv wr => ∃ j : Nat, j ≤ l.length ∧ iv = .int .i64 (j : Int) ∧ Rows1 wr w3.heap.size rv (rowsOf ((l.take j).map (turnN vs))) ∧ Below w3.heap.size w3 wr) (fun _ _ _ _ iv _ => l.length - (intOf iv).toNat)
      case atStart => exact ⟨0, Nat.zero_le _, rfl, Rows1.nil _ _, Below.refl _ _⟩
      case round =>
        obtain ⟨j, hj, rfl, hrow, hbel⟩ := hrel
        by_cases hlt : j < l.length
        · have hlt' : (j : Int) < l.length := by omega
          obtain ⟨y, hy⟩ : ∃ y, l[j]? = some y := ⟨_, List.getElem?_eq_getElem hlt⟩
          have hy16 : y < 16 := LM.out y (List.mem_of_getElem? hy)
          rcases TRD.out with hnil | ⟨tb, off, rfl, htb, hc⟩
          · exfalso
            have : l = [] := by simpa [nats] using hnil
            rw [this] at hlt
            simp at hlt
          have cy : wr.cell? ⟨tb, off + j, none⟩ = some (.int .i64 (y : Int)) := by
            rw [hbel.cell (by exact htb)]
            exact hc j _ (nats_get hy)
          have HY := Lib.hid hy
          have HROW := Lib.hid hrow
          have HBL := Lib.hid hbel
          have R5 := Lib.hid ((hbel.block _ (row_lt R3.out)).trans R3.out)
          clear hy htb hc hrow hbel
          go_wp2_with fail
          go_loopw [14, 15] (fun mv iv w5 => ∃ i : Nat, i ≤ 4 ∧ iv = .int .i64 (i : Int) ∧ mv = .int .i64 ((numOf i (turnB vs y) : Nat) : Int) ∧ ∃ q, w5 = wr.drewN q) (fun _ iv _ => 4 - (intOf iv).toNat)
          case atStart => exact ⟨0, by omega, rfl, rfl, 0, rfl⟩
          case round =>
            obtain ⟨i, hi, rfl, rfl, q, rfl⟩ := hrel
            by_cases hi4 : i < 4
            · have hi4' : (i : Int) < 4 := by omega
              have cv : (wr.drewN q).cell? ⟨b, i, none⟩ = some (.int .i64 ((varN vs i : Nat) : Int)) := nat_cell R5.out (by have := HL.out; omega)
              have hv4 : varN vs i < 4 := var_lt HP.out hi4
              have hb := bitZ_and (y : Int) (varN vs i)
              have TB : turnB vs y i = bitZ (y : Int) (varN vs i) := by
                unfold turnB bitN bitZ
                rw [show ((y : Int) / 2 ^ varN vs i % 2) = ((y / 2 ^ varN vs i % 2 : Nat) : Int) by rw [Int.natCast_emod, Int.natCast_ediv, Int.natCast_pow]; rfl]
                rcases (by omega : y / 2 ^ varN vs i % 2 = 0 ∨ y / 2 ^ varN vs i % 2 = 1) with e | e <;> rw [e] <;> rfl
              have hv64 : ((varN vs i : Nat) : Int) < 64 := by omega
              generalize varN vs i = v at *
              cases hbb : bitZ (y : Int) v with
              | true =>
                rw [hbb] at hb TB
                dsimp only [b2i] at hb
                have ho := turn_or hi4 TB
                have NX := Lib.hid (rfl : numOf (i + 1) (turnB vs y) = numOf (i + 1) (turnB vs y))
                clear hbb TB
                go_wp2_with fail
                exact ⟨⟨i + 1, by omega, by go_num, rfl, q, rfl⟩, by simp [intOf]; omega⟩
              | false =>
                rw [hbb] at hb TB
                dsimp only [b2i] at hb
                have ho := turn_or0 hi4 TB
                clear hbb TB
                go_wp2_with fail
                exact ⟨⟨i + 1, by omega, by go_num, rfl, q, rfl⟩, by simp [intOf]; omega⟩
            · obtain rfl : i = 4 := by omega
              have b6 : Below wr.heap.size wr ((wr.drewN q).alloc (.cells #[.int .i64 ((numOf 4 (turnB vs y) : Nat) : Int)] 3)) := (below_drewN0 _ _).alloc (Nat.le_refl _) _
              have PR := Lib.hid (put_any (w := (wr.drewN q).alloc (.cells #[.int .i64 ((numOf 4 (turnB vs y) : Nat) : Int)] 3)) (B := w3.heap.size) (rc := 1) (z := ((numOf 4 (turnB vs y) : Nat) : Int)) (q := (wr.drewN q).heap.size) (o := 0) (Nat.le_trans HBL.out.size b6.size) (HROW.out.keep b6)
                (Nat.le_trans (rowsOf_len _) (by rw [List.length_map, List.length_take]; omega)) (cell_of_row _ _ 0 _ _ _ (heap_alloc_new _ _)) (row_lt (heap_alloc_new _ _)) (by have := HBL.out.size; have := (below_drewN0 wr q).size; omega))
              have B6 := Lib.hid b6
              clear b6
              go_wp2_with fail
              refine PR.out.mono ?_
              rintro e w7 ⟨v7, rfl, r7, b7⟩
              have b8 := B6.out.trans (b7.mono B6.out.size)
              have R7 : Hid (Rows1 w7 w3.heap.size v7 (rowsOf ((l.take (j + 1)).map (turnN vs)))) := Lib.hid (by
                rw [List.take_add_one, HY.out, List.map_append]
                show Rows1 _ _ _ (rowsOf (_ ++ [turnN vs y]))
                rw [rowsOf_snoc]; exact r7)
              have B8 := Lib.hid (HBL.out.trans (b8.mono HBL.out.size))
              clear r7 b7 b8 PR B6 HROW
              go_wp2_with fail
              go_roundw
              case rel => exact ⟨j + 1, by omega, by go_num, R7.out, B8.out⟩
              case measure => simp [intOf]; omega
        · obtain rfl : j = l.length := by omega
          rw [List.take_length] at hrow
          have b10 := B3.out.trans (hbel.mono (Nat.le_trans (by rw [HB0.out]; exact Nat.le_refl _) B3.out.size))
          have B10 := Lib.hid b10
          have S10 := Lib.hid (S1.out.keep (HB0.out ▸ b10))
          have R10 := Lib.hid ((hbel.block _ (row_lt R3.out)).trans R3.out)
          have RW := Lib.hid hrow
          have MK := Lib.hid (make_any S10.out.st S10.out.V (x : Int))
          have HXX := HX.out
          clear hlt hbel hrow b10
          unfold ptrV at MK
          go_wp2_with fail
          refine MK.out.mono ?_
          intro e w11 hout
          have OW : ∀ i, m1.own i → i < b := fun i hi => by rw [HB0.out]; exact S1.out.st.own_lt i hi
          have TN : Turn m1.own wr w11 := by
            obtain ⟨k0, t0, m0, h0, cs0, -, -, -, -, -, -, -, -, nx0, -⟩ := hout
            exact nx0.turn
          have b3 : b ≤ w3.heap.size := Nat.le_trans (by rw [HB0.out]; exact Nat.le_refl _) B3.out.size
          have RW11 := Lib.hid (RW.out.turn TN (fun i hi => Nat.lt_of_lt_of_le (OW i hi) b3))
          have R11 := (TN.block b (row_lt R10.out) (fun h => Nat.lt_irrefl _ (OW b h))).trans R10.out
          obtain ⟨nx, m2, h2, cs2, rfl, s2, x2, p2, ⟨c, ic, _⟩, sx⟩ := S10.out.make (by omega) hout
          have EA := each4 (cap := 4) (most := 16) s2.st s2.V ic HP.out (nat_rd R11) (by omega) (by omega)
          rw [p2] at EA
          unfold ptrV at EA
          have EA := Lib.hid EA
          have TU : Hid (rowsOf (l.map (turnN vs)) = castL (nums4 cs2 vs nx)) := Lib.hid (by rw [HL2.out]; exact turn_rows HP.out sx)
          have N16 := n4_le cs2 nx
          have S11 := Lib.hid s2
          clear hout OW TN b3 R11 s2 x2 p2 ic sx MK S10 R10 RW
          go_wp2_with fail
          refine EA.out.mono ?_
          rintro e w12 ⟨v, y, rfl, hb12, hout⟩
          obtain ⟨-, rfl, hnr⟩ := hout.resolve_left fun hh => by omega
          have S12 := Lib.hid (S11.out.keep hb12)
          have RW12 := RW11.out.keep hb12
          rw [TU.out] at RW12
          obtain ⟨vA, vc, rfl, vrd, -⟩ := hnr.rd
          obtain ⟨G, hG⟩ : ∃ G, G = nums4 cs2 vs nx := ⟨_, rfl⟩
          rw [← hG] at vrd RW12 ⊢
          have G16 : G.length ≤ 16 := by rw [hG]; unfold nums4; exact Nat.le_trans (List.length_filter_le _ _) (by simp)
          obtain ⟨WA, wc, rfl, hcells⟩ := RW12.openR
          rw [castL_len]
          have VRD := Lib.hid vrd
          have HCE := Lib.hid hcells
          clear hb12 hout hnr vrd RW12 hcells hG EA TU RW11 S11
          go_wp2_with fail
          go_loopw [20] (fun iv w13 => ∃ i : Nat, i ≤ G.length ∧ iv = .int .i64 (i : Int) ∧ Below w12.heap.size w12 w13) (fun iv _ => G.length - (intOf iv).toNat)
          case atStart => exact ⟨0, by omega, rfl, Below.refl _ _⟩
          case round =>
            obtain ⟨i, hi, rfl, hbel⟩ := hrel
            have HB := Lib.hid hbel
            by_cases hlt : i < G.length
            · have hlt' : (i : Int) < G.length := by omega
              obtain ⟨z, hz⟩ : ∃ z, G[i]? = some z := ⟨_, List.getElem?_eq_getElem hlt⟩
              obtain ⟨g, q, off, cp, rfl, g1, e1, e2, q1⟩ := HCE.out i (z : Int) (by unfold castL; rw [List.getElem?_map, hz]; rfl)
              rcases VRD.out with hnil | ⟨vb, voff, rfl, hvb, hc⟩
              · exfalso
                have : G = [] := by simpa [nats] using hnil
                rw [this] at hlt
                simp at hlt
              have c1 := (hbel.cell (by exact hvb)).trans (hc i _ (nats_get hz))
              have c2 := (hbel.cell (by exact g1)).trans e1
              have c3 := (hbel.cell (by exact q1)).trans e2
              clear hc hvb g1 e1 e2 q1 hbel hz
              go_wp2_with fail
              go_quiet (fail)
              go_wp2_with fail
              go_roundw
              case rel => exact ⟨i + 1, by omega, by go_num, HB.out.trans ((below_drewN0 _ _).mono HB.out.size)⟩
              case measure => simp [intOf]; omega
            · obtain rfl : i = G.length := by omega
              have S13 := Lib.hid (S12.out.keep hbel)
              rename World => w13
              have AW := Lib.hid (awake6 w13)
              clear hbel hlt
              go_wp2_with fail
              refine AW.out.mono ?_
              rintro e w14 ⟨rfl, hb14⟩
              have BL := Lib.hid (S13.out.below.trans (hb14.mono S13.out.below.size))
              clear hb14 AW
              go_wp2_with fail
              go_ret
              exact ⟨rfl, BL.out⟩
    · obtain ⟨r, hr8, er⟩ := and_seven (ord / 8)
      obtain ⟨k, hk⟩ : ∃ k, k = r % 2 := ⟨_, rfl⟩
      have hki : k < 2 := by omega
      have et : Int.tmod (r : Int) 2 = (k : Int) := by
        rw [Int.tmod_eq_emod_of_nonneg (by omega), hk]; omega
      have ci := nat_cell hr (i := 1) (by omega)
      have ck := nat_cell hr (i := k) (by omega)
      have hr1 := nat_set (i := 1) hr (varN vs k)
      have hr2 := nat_set (i := k) hr1 (varN vs 1)
      have ck1 := nat_cell hr1 (i := k) (by rw [List.length_set]; omega)
      have fz1 := frozen_of_row wr b 1 _ _ hr
      have fz2 := frozen_of_row _ b k _ _ hr1
      have HP2 := Lib.hid (swap_perm4 hp (i := 1) (k := k) (by omega) (by omega))
      have hk4 : (k : Int) < 4 := by omega
      have bset : ∀ (u : World) (o : Nat) (v : Value), Below b w1 u → Below b w1 (u.setCell ⟨b, o, none⟩ v) := fun u o v h => h.setCell (Nat.le_refl _) v
      have HB2 := Lib.hid (bset _ k (.int .i64 ((varN vs 1 : Nat) : Int)) (bset _ 1 (.int .i64 ((varN vs k : Nat) : Int)) hbel))
      have HR2 := Lib.hid hr2
      have HR1 := Lib.hid hr1
      have HR := Lib.hid hr
      clear hk hp hr hr1 hr2 hbel bset hl hr8 hi
      go_wp2_with fail
      exact ⟨⟨0, _, by omega, by go_num, HP2.out, HR2.out, HB2.out⟩, by simp [intOf]⟩
    · obtain ⟨r, hr8, er⟩ := and_seven (ord / 64)
      obtain ⟨k, hk⟩ : ∃ k, k = r % 3 := ⟨_, rfl⟩
      have hki : k < 3 := by omega
      have et : Int.tmod (r : Int) 3 = (k : Int) := by
        rw [Int.tmod_eq_emod_of_nonneg (by omega), hk]; omega
      have ci := nat_cell hr (i := 2) (by omega)
      have ck := nat_cell hr (i := k) (by omega)
      have hr1 := nat_set (i := 2) hr (varN vs k)
      have hr2 := nat_set (i := k) hr1 (varN vs 2)
      have ck1 := nat_cell hr1 (i := k) (by rw [List.length_set]; omega)
      have fz1 := frozen_of_row wr b 2 _ _ hr
      have fz2 := frozen_of_row _ b k _ _ hr1
      have HP2 := Lib.hid (swap_perm4 hp (i := 2) (k := k) (by omega) (by omega))
      have hk4 : (k : Int) < 4 := by omega
      have bset : ∀ (u : World) (o : Nat) (v : Value), Below b w1 u → Below b w1 (u.setCell ⟨b, o, none⟩ v) := fun u o v h => h.setCell (Nat.le_refl _) v
      have HB2 := Lib.hid (bset _ k (.int .i64 ((varN vs 2 : Nat) : Int)) (bset _ 2 (.int .i64 ((varN vs k : Nat) : Int)) hbel))
      have HR2 := Lib.hid hr2
      have HR1 := Lib.hid hr1
      have HR := Lib.hid hr
      clear hk hp hr hr1 hr2 hbel bset hl hr8 hi
      go_wp2_with fail
      exact ⟨⟨1, _, by omega, by go_num, HP2.out, HR2.out, HB2.out⟩, by simp [intOf]⟩
    · obtain ⟨r, hr8, er⟩ := and_seven (ord / 512)
      obtain ⟨k, hk⟩ : ∃ k, k = r % 4 := ⟨_, rfl⟩
      have hki : k < 4 := by omega
      have et : Int.tmod (r : Int) 4 = (k : Int) := by
        rw [Int.tmod_eq_emod_of_nonneg (by omega), hk]; omega
      have ci := nat_cell hr (i := 3) (by omega)
      have ck := nat_cell hr (i := k) (by omega)
      have hr1 := nat_set (i := 3) hr (varN vs k)
      have hr2 := nat_set (i := k) hr1 (varN vs 3)
      have ck1 := nat_cell hr1 (i := k) (by rw [List.length_set]; omega)
      have fz1 := frozen_of_row wr b 3 _ _ hr
      have fz2 := frozen_of_row _ b k _ _ hr1
      have HP2 := Lib.hid (swap_perm4 hp (i := 3) (k := k) (by omega) (by omega))
      have hk4 : (k : Int) < 4 := by omega
      have bset : ∀ (u : World) (o : Nat) (v : Value), Below b w1 u → Below b w1 (u.setCell ⟨b, o, none⟩ v) := fun u o v h => h.setCell (Nat.le_refl _) v
      have HB2 := Lib.hid (bset _ k (.int .i64 ((varN vs 3 : Nat) : Int)) (bset _ 3 (.int .i64 ((varN vs k : Nat) : Int)) hbel))
      have HR2 := Lib.hid hr2
      have HR1 := Lib.hid hr1
      have HR := Lib.hid hr
      clear hk hp hr hr1 hr2 hbel bset hl hr8 hi
      go_wp2_with fail
      exact ⟨⟨2, _, by omega, by go_num, HP2.out, HR2.out, HB2.out⟩, by simp [intOf]⟩

theorem countTurned_walk (n ord : Int) (w : World) (_hn : (Lit.int .i64 n).wf = true) (_ho : (Lit.int .i64 ord).wf = true) :
    Calls Try.prog 4 #[.int .i64 n, .int .i64 ord] w fun e w' => e = .returned (.bool true) ∧ Below w.heap.size w w' := turned_core n ord w

namespace countTurned
set_option linter.unusedVariables false
theorem own : ownKnob Try.prog.godebug = none := by kernel_rfl
theorem laidOut : laidOutB Try.prog = true := by kernel_rfl
set_option maxRecDepth 100000 in
theorem lifted (os : Os) (started : os.Started) (H : Type) (enc : TypeId × Value → H) :
    ReturnsInHanded {} Try.checked os 4 .any (Rows.countTurnedSpec.pre6 enc Try.prog Try.f4 Rows.countTurnedRow.domain false) (Rows.countTurnedSpec.post enc Try.prog Try.f4 false true false false) := by
  refine returnsInHanded_of_change (C := Try.checked) own started (by kernel_rfl) Try.func4
    (ChangeSpec.witness6 (enc := enc) (C := Try.checked) false ⟨#[], #[.int .i64 0, .int .i64 0], []⟩ 8 (by kernel_rfl) (by kernel_rfl) (by kernel_rfl) (by kernel_rfl)) ?_
  intro W base args ds gs before hval0 hW hcnd hsz
  have hval : ∀ (j : Nat) t v, Try.f4.params[j]? = some t → args[j]? = some v → Value.okWide Try.prog W .any base t v := hval0
  have hW' := hW
  obtain ⟨p, q, hA0, hV, rfl, hfz, hnd⟩ := hW
  have hA : DataW.TrodAll enc Try.prog W 0 (fun _ => true) true Try.f4.params.toList args.toList ds p := hA0
  rw [Try.params4] at hA hval
  obtain ⟨v0, vs0, d0, ds0, p0, q0, hargs, rfl, rfl, h0, r0⟩ := trodAll_cons hA
  obtain ⟨v1, vs1, d1, ds1, p1, q1, rfl, rfl, rfl, h1, r1⟩ := trodAll_cons r0
  obtain ⟨rfl, rfl, rfl⟩ := trodAll_nil r1
  obtain rfl : args = #[v0, v1] := by cases args; simp_all
  obtain ⟨rfl, rfl⟩ := trodVars_none hV
  obtain ⟨a0, rfl, rfl, rfl, w0⟩ := open_int Try.underlying3 (hval 0 3 v0 rfl rfl) h0
  obtain ⟨a1, rfl, rfl, rfl, w1⟩ := open_int Try.underlying3 (hval 1 3 v1 rfl rfl) h1
  clear hA0 hval0
  refine (countTurned_walk a0 a1 W w0 w1).mono fun e W' ⟨he, bel⟩ => ?_
  subst he
  exact ⟨_, rfl, _, _, _, [], _, [], hW', trodAll_mk1 (shut_bool Try.underlying4 _), (trodAll_cons_mk (shut_int Try.underlying3 w0) (trodAll_cons_mk (shut_int Try.underlying3 w1) trodAll_mk0)), rfl, bel.frame _, fun h => by cases h⟩
theorem over : Rows.countTurnedRow.holds Try.pinned (OpenSpec.ofChange Rows.countTurnedSpec) :=
  OpenClaim.holds_of_wide 4 Try.f4 rfl rfl rfl rfl rfl rfl rfl ⟨rfl, rfl, rfl, rfl, rfl⟩ rfl rfl rfl rfl rfl (by kernel_rfl) Try.func4 (by kernel_rfl)
    (of_decide_eq_true (by kernel_rfl)) (by unfold Func.isWrapper; first | (rw [if_pos (by decide +kernel)]; kernel_rfl) | (rw [if_neg (by decide +kernel)]; exact ⟨rfl, rfl⟩))
    (fun os started H enc _ => lifted os started H enc)
/-- THE STATEMENT. -/
theorem proved : Rows.CountTurnedSaid := over
end countTurned
#print axioms countTurned.proved
end Go.Proofs.Ytkmffmlnondolaa
