/- Domains of one width, stacked and woven: where their bits stand; the law returns true. No condition. -/
import Derived.Test.YtimpfeadpcjlgaaDoorYStk
import Derived.Laws.IdiomStrings
import Derived.Deep.DrawnRows
import Derived.Test.YtimpfeadpcjlgaaDoorTie
import Derived.Test.YtimpfeadpcjlgaaDoorCards
import Derived.Lay
import Derived.LaidMore
import Derived.Stop.Joined
import Derived.LaidOnce
import Derived.SevenTiedAt
namespace Go.Proofs.YtimpfeadpcjlgaaDoor
open Go.ChangeShapes Go.WideShapes Go.ChangeAt Go.RowKit Go.Maps

theorem low4Y (z : Int) : ∃ n : Nat, n < 16 ∧ bits BinOp.and IntKind.i64 z 15 = (n : Int) := by
  refine ⟨(z % 16).toNat, by omega, ?_⟩
  show IntKind.i64.wrap ((BitVec.ofInt 64 z &&& BitVec.ofInt 64 ((15 : Nat) : Int)).toNat : Int) = _
  have h := Nat.and_two_pow_sub_one_eq_mod (BitVec.ofInt 64 z).toNat 4
  have h15 : (BitVec.ofInt 64 ((15 : Nat) : Int)).toNat = 15 := by decide
  rw [BitVec.toNat_and, h15, show (15 : Nat) = 2 ^ 4 - 1 from rfl, h, IntKind.wrap_i64, BitVec.toNat_ofInt]
  omega

def dcells (l : Doms) : List Value := l.flatMap fun d => [.string d.1, .int .i64 d.2]
theorem dcells_get : ∀ (l : Doms) (i : Nat) (s : ByteArray) (n : Int), l[i]? = some (s, n) → (dcells l)[i * 2]? = some (.string s) ∧ (dcells l)[i * 2 + 1]? = some (.int .i64 n)
  | [], i, s, n, h => by simp at h
  | (t, m) :: r, 0, s, n, h => by
    simp at h
    obtain ⟨rfl, rfl⟩ := h
    exact ⟨rfl, rfl⟩
  | d :: r, i + 1, s, n, h => by
    rw [List.getElem?_cons_succ] at h
    have := dcells_get r i s n h
    show ((_ :: _ :: dcells r)[(i + 1) * 2]? = _ ∧ (_ :: _ :: dcells r)[(i + 1) * 2 + 1]? = _)
    rw [show (i + 1) * 2 = i * 2 + 1 + 1 by omega, show i * 2 + 1 + 1 + 1 = (i * 2 + 1) + 1 + 1 from rfl]
    simp only [List.getElem?_cons_succ]
    exact this
theorem dcells_len (l : Doms) : (dcells l).length = l.length * 2 := by
  induction l with
  | nil => rfl
  | cons d r ih => show (_ :: _ :: dcells r).length = _; simp only [List.length_cons, ih]; omega
/-- A row of domains of the call's own. -/
def DRow (w : World) (B : Nat) (v : Value) (l : Doms) : Prop := w.ownsRow B 28 2 v l.length (dcells l)
theorem DRow.nil (w : World) (B : Nat) : DRow w B (.slice none 0 0) [] := World.ownsRow_nil _ _ _ _
theorem DRow.rd {w : World} {B : Nat} {v : Value} {l : Doms} (h : DRow w B v l) (hne : l ≠ []) : ∃ A c, v = .slice A l.length c ∧ DRd w A l := by
  rcases h.2 with ⟨_, e⟩ | ⟨g, cap, cur, rfl, hb, hrow, hn, hm, hs, ht⟩
  · exact absurd (List.length_eq_zero_iff.1 e) hne
  · refine ⟨_, cap, rfl, .inr ⟨g, 0, rfl, row_lt hrow, fun i s n hi => ?_⟩⟩
    obtain ⟨h1, h2⟩ := dcells_get l i s n hi
    have key : ∀ (k : Nat) u, (dcells l)[k]? = some u → w.cell? ⟨g, k, none⟩ = some u := fun k u hu => by
      rw [cell_of_row _ _ _ _ _ _ hrow]
      rw [← ht, List.getElem?_take] at hu
      split at hu
      · simpa using hu
      · cases hu
    rw [Nat.zero_add]
    exact ⟨key _ _ h1, key _ _ h2⟩
theorem dS_succ (k w : Nat) : dS (k + 1) w = dS k w ++ [(nmS k, ((2 ^ w : Nat) : Int))] := by unfold dS; rw [List.range_succ]; simp
theorem info_domY : (Tryd.prog.info? 28).map (fun i => (i.zero, i.size, i.bytes)) = some (some (.agg #[.string ⟨#[]⟩, .int .i64 0]), 2, 24) := by kernel_rfl

theorem add_row (g i : Nat) : (⟨g, 0, none⟩ : Addr).add i = ⟨g, 0 + i, none⟩ := by
  unfold Addr.add
  split
  · next h => subst h; rfl
  · rfl
theorem byte_wrap {j : Nat} (hj : j < 16) : IntKind.u8.wrap (IntKind.i64.wrap (97 + (j : Int))) = ((UInt8.ofNat (97 + j)).toNat : Int) := by
  have : ∀ j < 16, IntKind.u8.wrap (IntKind.i64.wrap (97 + ((j : Nat) : Int))) = ((UInt8.ofNat (97 + j)).toNat : Int) := by decide +kernel
  exact this j hj
/-- The name of a domain: string([]byte{'d', byte('a' + j)}). -/
theorem name_conv {j : Nat} (hj : j < 16) (w : World) :
    (convert 38 9 (.slice (some ⟨w.heap.size, 0, none⟩) 2 2)).run Tryd.prog (w.alloc (.cells #[.int .u8 100, .int .u8 (IntKind.u8.wrap (IntKind.i64.wrap (97 + (j : Int))))] 5)).drew =
      .ok (.string (nmS j)) (w.alloc (.cells #[.int .u8 100, .int .u8 (IntKind.u8.wrap (IntKind.i64.wrap (97 + (j : Int))))] 5)).drew := by
  have h := run_convert_bytes_back (P := Tryd.prog) (w.alloc (.cells #[.int .u8 100, .int .u8 (IntKind.u8.wrap (IntKind.i64.wrap (97 + (j : Int))))] 5)).drew 38 9 5 ⟨w.heap.size, 0, none⟩ 2 [100, UInt8.ofNat (97 + j)] Tryd.underlying38 Tryd.underlying5 Tryd.underlying9 (fun i hi => by
    rw [add_row]
    show (w.alloc _).cell? ⟨w.heap.size, 0 + i, none⟩ = _
    rw [Nat.zero_add, cell_of_row _ _ _ _ _ _ (heap_alloc_new w _), byte_wrap hj]
    match i, hi with
    | 0, _ => rfl
    | 1, _ => rfl)
  exact h
theorem pow_wrap {k : Nat} (hk : k ≤ 16) : IntKind.i64.wrap ((2 : Int) ^ k) = ((2 ^ k : Nat) : Int) := by
  have : ∀ k < 17, IntKind.i64.wrap ((2 : Int) ^ k) = ((2 ^ k : Nat) : Int) := by decide +kernel
  exact this k (by omega)
theorem jn_size : ∀ n < 17, (jn n 95).size ≤ 1048576 ∧ (jn n 42).size ≤ 1048576 := by decide +kernel
/-- Rows of numbers, as the loops read them. -/
def ShowAt (w : World) (b n k : Nat) (f : Nat → Nat → Nat) : Prop := ∀ i, i < n → ∃ g, w.cell? ⟨b, i, none⟩ = some (.slice (some ⟨g, 0, none⟩) k k) ∧ ∀ j, j < k → w.cell? ⟨g, j, none⟩ = some (.int .i64 (f i j : Nat))
theorem ShowAt.keep {w w' : World} {b n k : Nat} {f : Nat → Nat → Nat} (h : ShowAt w b n k f) (hb : Below w.heap.size w w') : ShowAt w' b n k f := fun i hi => by
  obtain ⟨g, h1, h2⟩ := h i hi
  exact ⟨g, (hb.cell (p := ⟨b, i, none⟩) (lt_of_cell h1)).trans h1, fun j hj => (hb.cell (p := ⟨g, j, none⟩) (lt_of_cell (h2 j hj))).trans (h2 j hj)⟩
theorem show_of {w : World} {b n k : Nat} {bl : List Nat} {R : List (List Nat)} {f : Nat → Nat → Nat} (hv : VR w b bl R) (hr : RowsAre n k f R) : ShowAt w b n k f := fun i hi => by
  obtain ⟨hn, hr⟩ := hr
  obtain ⟨r, h1, h2, h3⟩ := hr i hi
  obtain ⟨g, hg⟩ : ∃ g, bl[i]? = some g := ⟨_, List.getElem?_eq_getElem (by have := hv.len; omega)⟩
  have ho := hv.out i g r hg h1
  rw [h2] at ho
  refine ⟨g, ho, fun j hj => ?_⟩
  rw [cell_of_row _ _ _ _ _ _ (hv.row i g r hg h1)]
  simpa using nats_get (h3 j hj)

attribute [local go_sem ↓] Go.wp_at_zero Go.wp_at_succ
set_option maxRecDepth 100000 in
set_option maxHeartbeats 4000000 in
theorem layStacks_walk (a b : Int) (w : World) (_ha : (Lit.int .i64 a).wf = true) (_hb : (Lit.int .i64 b).wf = true) :
    Calls Tryd.prog 4 #[.int .i64 a, .int .i64 b] w fun e w' => e = .returned (.bool true) ∧ Below w.heap.size w w' := by
  obtain ⟨n0, hn0, en⟩ := low4Y a
  obtain ⟨k0, hk0, ek⟩ := low4Y b
  obtain ⟨n, hn⟩ : ∃ n : Nat, n = n0 + 1 := ⟨_, rfl⟩
  obtain ⟨k, hk⟩ : ∃ k : Nat, k = k0 + 1 := ⟨_, rfl⟩
  have e1 : (1 : Int) + (n0 : Int) = (n : Int) := by omega
  have e2 : (1 : Int) + (k0 : Int) = (k : Int) := by omega
  obtain ⟨i0, hi, hz0, hz1, hz2⟩ := info_parts info_domY
  have HN : Hid (0 < n ∧ n ≤ 16) := Lib.hid (by omega)
  have HK : Hid (0 < k ∧ k ≤ 16) := Lib.hid (by omega)
  clear hn hk
  go_enter Tryd.func4, Tryd.ntmps4
  go_wp2_with fail
  go_loopw [7, 8] (fun lv iv wr => ∃ j : Nat, j ≤ n ∧ iv = .int .i64 (j : Int) ∧ DRow wr w.heap.size lv (dS j k) ∧ Below w.heap.size w wr) (fun _ iv _ => n - (intOf iv).toNat)
  case atStart => exact ⟨0, Nat.zero_le _, rfl, DRow.nil _ _, Below.refl _ _⟩
  case round =>
    obtain ⟨j, hj, rfl, hown, hbel⟩ := hrel
    by_cases hlt : j < n
    · have hlt' : (j : Int) < n := by omega
      obtain ⟨l, hl, hln⟩ : ∃ l, l = dS j k ∧ l.length = j := ⟨_, rfl, len_dS j k⟩
      rw [← hl] at hown
      have DL := Lib.hid hl
      have LL := Lib.hid hln
      have DR := Lib.hid hown
      have HB := Lib.hid hbel
      clear hl hln hown hbel
      have hk1 : (0 : Int) ≤ (k : Int) := by omega
      have CV := name_conv (by have := HN.out; omega : j < 16) wr
      have PW := pow_wrap HK.out.2
      have ML : Hid (l.length + 1 ≤ maxLen) := Lib.hid (by show _ ≤ _; unfold maxLen; have := LL.out; have := HN.out; omega)
      have MB : Hid ((l.length + 1) * 24 ≤ 140737488355328) := Lib.hid (by have := LL.out; have := HN.out; omega)
      have SZ : Hid (∀ o1 o2 : Obj, (((wr.alloc o1).alloc o2).drew).heap.size = wr.heap.size + 2) := Lib.hid (fun o1 o2 => by simp)
      have BS : Hid (∀ o1 o2 : Obj, w.heap.size ≤ (((wr.alloc o1).alloc o2).drew).heap.size) := Lib.hid (fun o1 o2 => by rw [SZ.out]; have := HB.out.size; omega)
      have NB : Hid (∀ o1 : Obj, (((wr.alloc o1).alloc (.cells #[.string (nmS j), .int .i64 (2 ^ k)] 28)).drew).heap[wr.heap.size + 1]? = some (.cells #[.string (nmS j), .int .i64 (2 ^ k)] 28 (0, 0))) := Lib.hid (fun o1 => by
        have h := heap_alloc_new (wr.alloc o1) (.cells #[.string (nmS j), .int .i64 (2 ^ k)] 28)
        rw [show (wr.alloc o1).heap.size = wr.heap.size + 1 by simp] at h
        exact h)
      go_wp2_with fail
      go_region_law (first
        | (refine step_append_lies _ rfl (.tmp 26) (.tmp 35) 22 rfl w.heap.size 28 i0 _ 2 24 Tryd.underlying22 hi hz0 hz1 hz2 rfl (by omega) _ l.length (dcells l) (by simp [Act.eval]) (((DR.out.alloc _).alloc _).drew) ⟨wr.heap.size + 1, 0, none⟩ 1 1 [.string (nmS j), .int .i64 (2 ^ k)] (by simp [Act.eval]) (by rfl) (World.news_of_block (NB.out _)) (by intro u hu; simp at hu; rcases hu with rfl | rfl <;> rfl) (by omega) ML.out MB.out (BS.out _ _) (wr.heap.size + 2) (SZ.out _ _) ?_; intro g cap w2 hown hgrow hat hlt2)
        | fail)
      all_goals
        have HB2 : Hid (Below w.heap.size w w2) := Lib.hid (((((HB.out.alloc HB.out.size _).alloc (by simp; have := HB.out.size; omega) _).drew).grown hgrow (BS.out _ _) (by
          intro g' hg'
          rcases DR.out.2 with ⟨rfl, _⟩ | ⟨g1, cap1, cur1, rfl, hb1, _⟩
          · simp [Value.ownBlock] at hg'
          · simp [Value.ownBlock] at hg'; omega)))
        have DR2 : Hid (DRow w2 w.heap.size (.slice (some ⟨g, 0, none⟩) (j + 1) cap) (dS (j + 1) k)) := Lib.hid (by
          have e : dcells (dS (j + 1) k) = dcells l ++ [.string (nmS j), .int .i64 (2 ^ k)] := by
            rw [dS_succ, ← DL.out]
            unfold dcells
            rw [List.flatMap_append]
            simp
          unfold DRow
          rw [e, len_dS]
          have := hown
          rw [LL.out] at this
          exact this)
        have LN := LL.out
        clear hown hgrow hat hlt2
        rw [LN]
        go_wp2_with fail
        go_roundw
        case rel => exact ⟨j + 1, by omega, by go_num, DR2.out, HB2.out⟩
        case measure => simp [intOf]; omega
    · obtain rfl : j = n := by omega
      obtain ⟨A, c, rfl, hrd⟩ := hown.rd (by intro e; have h := congrArg List.length e; rw [len_dS] at h; have h0 : j = 0 := h; have := HN.out; omega)
      obtain ⟨l, hl, hln⟩ : ∃ l, l = dS j k ∧ l.length = j := ⟨_, rfl, len_dS j k⟩
      rw [← hl] at hrd ⊢
      have DL := Lib.hid hl
      have LL := Lib.hid hln
      have DR := Lib.hid hrd
      have HB := Lib.hid hbel
      have hjk : (j : Int) * (k : Int) ≤ 256 := by
        have := Nat.mul_le_mul HN.out.2 HK.out.2
        rw [← Int.natCast_mul]
        omega
      have hjk0 : (0 : Int) ≤ (j : Int) * (k : Int) := by rw [← Int.natCast_mul]; omega
      clear hl hln hrd hbel hown hlt e1 e2 en ek
      have SK := Lib.hid (stacked_any (c := c) DR.out (by have := LL.out; have := HN.out; omega))
      have CK : Hid (Chk l) := Lib.hid (by rw [DL.out]; exact chk_dS HN.out.2 HK.out.2)
      go_wp2_with fail
      refine SK.out.mono ?_
      rintro e w1 ⟨hb1, h⟩
      obtain ⟨-, rfl⟩ := h.resolve_right fun h => h.1 CK.out
      have B1 := Lib.hid hb1
      have PA : Hid (Calls Tryd.prog 9 #[.slice A l.length c, .string (joinD l 95)] w1 (StOut j k (fS k) w1)) := Lib.hid ((place_any (c := c) (DR.out.keep hb1) (by have := LL.out; have := HN.out; omega) (s := joinD l 95) (by rw [DL.out, join_dS]; exact (jn_size j (by have := HN.out; omega)).1)).mono fun e w' h => st_out HN.out.2 HK.out.2 (groups_stk j (by have := HN.out; omega) HN.out.1) (lens_stk j (by have := HN.out; omega)) (stk_at HN.out.2 HK.out.2) (by rw [DL.out, join_dS] at h; exact h))
      clear hb1 h SK
      go_wp2_with fail
      refine PA.out.mono ?_
      rintro e w2 ⟨hb2, R, b1, bl, rfl, hv, hr⟩
      have S1 : Hid (ShowAt w2 b1 j k (fS k)) := Lib.hid (show_of hv hr)
      have B2 := Lib.hid (B1.out.trans (hb2.mono B1.out.size))
      clear hv hr hb2 PA B1
      have WK := Lib.hid (woven_any (c := c) (DR.out.keep B2.out) (by have := LL.out; have := HN.out; omega))
      go_wp2_with fail
      refine WK.out.mono ?_
      rintro e w3 ⟨hb3, h⟩
      obtain ⟨-, rfl⟩ := h.resolve_right fun h => h.1 CK.out
      have S2 : Hid (ShowAt w3 b1 j k (fS k)) := Lib.hid (S1.out.keep hb3)
      have B3 := Lib.hid (B2.out.trans (hb3.mono B2.out.size))
      clear S1 B2 hb3 h WK
      have PB : Hid (Calls Tryd.prog 9 #[.slice A l.length c, .string (joinD l 42)] w3 (StOut j k (fW j k) w3)) := Lib.hid ((place_any (c := c) (DR.out.keep B3.out) (by have := LL.out; have := HN.out; omega) (s := joinD l 42) (by rw [DL.out, join_dS]; exact (jn_size j (by have := HN.out; omega)).2)).mono fun e w' h => st_out HN.out.2 HK.out.2 (groups_wov j (by have := HN.out; omega) HN.out.1) (lens_wov j) (wov_at HN.out.2 HK.out.2) (by rw [DL.out, join_dS] at h; exact h))
      go_wp2_with fail
      refine PB.out.mono ?_
      rintro e w4 ⟨hb4, R2, b2, bl2, rfl, hv2, hr2⟩
      have SA : Hid (ShowAt w4 b1 j k (fS k)) := Lib.hid (S2.out.keep hb4)
      have SB : Hid (ShowAt w4 b2 j k (fW j k)) := Lib.hid (show_of hv2 hr2)
      have B4 := Lib.hid (HB.out.trans ((B3.out.trans (hb4.mono B3.out.size)).mono HB.out.size))
      clear hv2 hr2 hb4 PB B3 S2 DR CK LL DL HB
      have hkk := HK.out.2
      have hjj := HN.out.2
      go_wp2_with fail
      go_loopw [13, 14] (fun iv _ wr => ∃ i : Nat, i ≤ j ∧ iv = .int .i64 (i : Int) ∧ Below w4.heap.size w4 wr) (fun iv _ _ => j - (intOf iv).toNat)
      case atStart => exact ⟨0, Nat.zero_le _, rfl, by first | exact Below.refl _ _ | exact below_drewN0 _ _ | exact (Below.refl _ _).drew⟩
      case round =>
        obtain ⟨i, hi2, rfl, hbw⟩ := hrel
        by_cases hlt : i < j
        · have hlt' : (i : Int) < j := by omega
          obtain ⟨g1, c1, d1⟩ := (SA.out.keep hbw) i hlt
          obtain ⟨g2, c2, d2⟩ := (SB.out.keep hbw) i hlt
          have D1 := Lib.hid d1
          have D2 := Lib.hid d2
          have HW := Lib.hid hbw
          clear d1 d2 hbw
          go_wp2_with fail
          go_loopw [14] (fun tv wr2 => ∃ t : Nat, t ≤ k ∧ tv = .int .i64 (t : Int) ∧ Below w4.heap.size w4 wr2) (fun tv _ => k - (intOf tv).toNat)
          case atStart => exact ⟨0, Nat.zero_le _, rfl, HW.out⟩
          case round =>
            obtain ⟨t, ht, rfl, hbt⟩ := hrel
            by_cases hlt2 : t < k
            · have hlt2' : (t : Int) < k := by omega
              clear c1 c2 D1 D2
              obtain ⟨g1, c1, d1⟩ := (SA.out.keep hbt) i hlt
              obtain ⟨g2, c2, d2⟩ := (SB.out.keep hbt) i hlt
              obtain ⟨x, hx⟩ : ∃ x : Nat, x = fS k i t := ⟨_, rfl⟩
              obtain ⟨y, hy⟩ : ∃ y : Nat, y = fW j k i t := ⟨_, rfl⟩
              have c3 := d1 t hlt2
              have c4 := d2 t hlt2
              rw [← hx] at c3
              rw [← hy] at c4
              clear d1 d2
              obtain ⟨p, hp⟩ : ∃ p : Nat, p = i * k := ⟨_, rfl⟩
              obtain ⟨q, hq⟩ : ∃ q : Nat, q = k - 1 - t := ⟨_, rfl⟩
              obtain ⟨r, hr⟩ : ∃ r : Nat, r = q * j := ⟨_, rfl⟩
              have hp2 : p ≤ 256 := by rw [hp]; exact Nat.mul_le_mul (show i ≤ 16 by have := HN.out; omega) HK.out.2
              have hr2 : r ≤ 256 := by rw [hr]; exact Nat.mul_le_mul (show q ≤ 16 by have := HK.out; omega) HN.out.2
              have f1 : (i : Int) * (k : Int) = (p : Int) := by rw [hp, Int.natCast_mul]
              have f2 : (p : Int) + (k : Int) - 1 - (t : Int) = (x : Int) := by rw [hx]; unfold fS; rw [← hp]; omega
              have f3 : (k : Int) - 1 - (t : Int) = (q : Int) := by omega
              have f4 : (q : Int) * (j : Int) = (r : Int) := by rw [hr, Int.natCast_mul]
              have f5 : (r : Int) + (i : Int) = (y : Int) := by rw [hy]; unfold fW; rw [← hq, ← hr]; omega
              have HW2 := Lib.hid hbt
              clear hx hy hp hq hr hbt
              go_wp2_with fail
              go_roundw
              case rel => exact ⟨t + 1, by omega, by go_num, HW2.out⟩
              case measure => simp [intOf]; omega
            · obtain rfl : t = k := by omega
              have HW2 := Lib.hid hbt
              clear hbt
              go_wp2_with fail
              go_roundw
              case rel => exact ⟨i + 1, by omega, by go_num, HW2.out⟩
              case measure => simp [intOf]; omega
        · obtain rfl : i = j := by omega
          have B5 := Lib.hid (B4.out.trans (hbw.mono B4.out.size))
          have AW := Lib.hid (awake7 wr)
          clear hbw
          go_wp2_with fail
          refine AW.out.mono ?_
          rintro e w5 ⟨rfl, hb5⟩
          have B6 := Lib.hid (B5.out.trans (hb5.mono B5.out.size))
          clear AW hb5 B5
          go_wp2_with fail
          go_ret
          exact ⟨rfl, B6.out⟩
namespace layStacks
set_option linter.unusedVariables false
theorem own : ownKnob Tryd.prog.godebug = none := by kernel_rfl
theorem laidOut : laidOutB Tryd.prog = true := by kernel_rfl
set_option maxRecDepth 100000 in
set_option maxHeartbeats 2000000 in
theorem lifted (os : Os) (started : os.Started) (H : Type) (enc : TypeId × Value → H) :
    ReturnsInHanded {} Tryd.checked os 4 .any (fun w args => (Rows.layStacksSpec.pre enc Tryd.prog Tryd.f4 [] false w args ∧ laidMetH Tryd.prog Rows.layStacksRow.laid w) ∧ sizedMet enc Tryd.prog Tryd.f4 (OpenSpec.ofChange Rows.layStacksSpec) false w args) (Rows.layStacksSpec.post enc Tryd.prog Tryd.f4 false true false false) := by
  refine returnsInHanded_of_change_and (C := Tryd.checked) (X := fun w _ => laidMetH Tryd.prog Rows.layStacksRow.laid w) (fun _ _ _ hh h => h.of_heap hh) own started (by kernel_rfl) Tryd.func4
    (ChangeSpec.witness_shaped (enc := enc) (C := Tryd.checked) (os := os) (X := fun w _ => laidMetH Tryd.prog Rows.layStacksRow.laid w) false (World.laidAll Tryd.prog os Rows.layStacksRow.laid) #[.int .i64 0, .int .i64 0] 8 (World.laidAll_os _ _ _) (World.shaped_of_ZipB (by kernel_rfl) (by kernel_rfl)) (by kernel_rfl) (by kernel_rfl) (by kernel_rfl) (by rw [MakeChecks.laidMetH_plain _ _ _ (by kernel_rfl)]; exact laidMet_laidAll _ (by kernel_rfl) (by kernel_rfl))) ?_
  intro W base args ds gs before hval0 hW hcnd hsz _ _
  have hval : ∀ (j : Nat) t v, Tryd.f4.params[j]? = some t → args[j]? = some v → Value.okWide Tryd.prog W .any base t v := hval0
  have hW' := hW
  obtain ⟨p, q, hA0, hV, rfl, hfz, hnd⟩ := hW
  have hA : DataW.TrodAll enc Tryd.prog W 0 (fun _ => true) true Tryd.f4.params.toList args.toList ds p := hA0
  rw [Tryd.params4] at hA hval
  obtain ⟨v0, vs0, d0, ds0, p0, q0, hargs, rfl, rfl, h0, r0⟩ := trodAll_cons hA
  obtain ⟨v1, vs1, d1, ds1, p1, q1, rfl, rfl, rfl, h1, r1⟩ := trodAll_cons r0
  obtain ⟨rfl, rfl, rfl⟩ := trodAll_nil r1
  obtain rfl : args = #[v0, v1] := by cases args; simp_all
  obtain ⟨rfl, rfl⟩ := trodVars_none hV
  obtain ⟨a0, rfl, rfl, rfl, w0⟩ := open_int Tryd.underlying3 (hval 0 3 v0 rfl rfl) h0
  obtain ⟨a1, rfl, rfl, rfl, w1⟩ := open_int Tryd.underlying3 (hval 1 3 v1 rfl rfl) h1
  clear hA0 hval0
  refine (layStacks_walk a0 a1 W w0 w1).mono fun e W' ⟨he, bel⟩ => ?_
  subst he
  exact ⟨_, rfl, _, _, _, [], _, [], hW', trodAll_mk1 (shut_bool Tryd.underlying4 _), (trodAll_cons_mk (shut_int Tryd.underlying3 w0) (trodAll_cons_mk (shut_int Tryd.underlying3 w1) trodAll_mk0)), rfl, bel.frame _, fun h => by cases h⟩
theorem over : Rows.layStacksRow.holds Tryd.pinned (OpenSpec.ofChange Rows.layStacksSpec) :=
  OpenClaim.holds_of_wide 4 Tryd.f4 rfl rfl rfl rfl rfl rfl rfl ⟨rfl, rfl, rfl, rfl, rfl⟩ rfl rfl rfl rfl rfl (by kernel_rfl) Tryd.func4 (by kernel_rfl)
    (of_decide_eq_true (by kernel_rfl)) (by unfold Func.isWrapper; first | (rw [if_pos (by decide +kernel)]; kernel_rfl) | (rw [if_neg (by decide +kernel)]; exact ⟨rfl, rfl⟩))
    (fun os started H enc _ => lifted os started H enc)
/-- THE STATEMENT: the card over the row. -/
theorem proved : Rows.LayStacksCardSaid :=
  Claim7.holds_tied_plain_at .later [] [.data, .pinned] true _ false over (fun _ h => by cases h) (by kernel_rfl) (fun _ h => by cases h) layStacks_row_tie rfl ⟨rfl, rfl⟩ (by kernel_rfl) rfl
    (fun f fn hf hfn => by
      obtain rfl : f = 4 := Option.some.inj ((show Tryd.prog.funcNamed "osier/osierlaw07.LayStacks" = some 4 by kernel_rfl).symm.trans hf) |>.symm
      obtain rfl : fn = Tryd.f4 := (Option.some.inj (Tryd.func4.symm.trans hfn)).symm
      exact ⟨by kernel_rfl, fun j t ht => by
        rw [Tryd.params4] at ht
        have hm : t ∈ [3, 3] := by simpa using Array.mem_of_getElem? ht
        have hall : ([3, 3].all fun u => !Tryd.prog.wantsStandIn u) = true := by kernel_rfl
        exact (show Tryd.prog.wantsStandIn t = false by simpa using List.all_eq_true.1 hall t hm)⟩)
    (by kernel_rfl)
end layStacks
end Go.Proofs.YtimpfeadpcjlgaaDoor
