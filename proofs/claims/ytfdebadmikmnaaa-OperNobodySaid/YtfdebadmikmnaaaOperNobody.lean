/- For any numbers: what is no node is refused; operations that nobody made answer nothing, and do not fail: the law returns true. No condition. -/
import Derived.Test.YtfdebadmikmnaaaOperTables
namespace Go.Proofs.Ytfdebadmikmnaaa
open Go.ChangeShapes Go.WideShapes Go.ChangeAt Go.RowKit Go.Maps

theorem first4_there (z : Int) : thereB first4 z = true ↔ (z = 0 ∨ z = 1) := by
  unfold thereB first4
  constructor
  · intro h
    rw [Bool.and_eq_true] at h
    obtain ⟨h1, h2⟩ := h
    have h1 : 0 ≤ z := by simpa using h1
    rcases (by omega : z.toNat = 0 ∨ z.toNat = 1 ∨ 2 ≤ z.toNat) with h | h | h
    · omega
    · omega
    · rw [List.getElem?_eq_none (by simpa using h)] at h2
      cases h2
  · rintro (rfl | rfl) <;> rfl

theorem first4_not {z : Int} (h : z < 0 ∨ 1 < z) : thereB first4 z = false := by
  cases hh : thereB first4 z with
  | false => rfl
  | true => have := (first4_there z).1 hh; omega

theorem nums_bad {K : Nat} {a b : Int} (h : (a < 0 ∨ 1 < a) ∨ (0 < K ∧ (b < 0 ∨ 1 < b))) : (numsOf K a b b).all (thereB first4) = false := by
  rcases h with h | ⟨hk, h⟩
  · have := first4_not h
    unfold numsOf
    split <;> simp [this]
  · have := first4_not h
    unfold numsOf
    split
    · omega
    all_goals simp [this]

theorem does_zero {w : World} {m : Mem} {h : Hd} {cs : List Nd} {o : Nat} {mb : Option Nat} (r : OSt w m h cs o mb) (hV : 2 ^ h.V ≤ 900000) {a : Nat} (ha : At cs 0 a) (b c : Int) :
    Calls Try.prog 12 #[.pointer (some ⟨o, 0, none⟩), .int .i64 0, .int .i64 a, .int .i64 b, .int .i64 c] w (AskOut m h cs o mb (qOf 0 a 0 0) w) := by
  have AK := Lib.hid (not_good r hV ha)
  clear r hV ha
  go_enter Try.func12, Try.ntmps12
  go_wp2_with fail
  refine AK.out.mono ?_
  intro e w' hout
  have HO := Lib.hid hout
  obtain ⟨k, x, m', h', cs', mb', rfl, -⟩ := hout
  clear AK
  go_wp2_with fail
  go_ret2
  exact HO.out

theorem const_node {cs : List Nd} {n : Nat} {u : Int} {x : Bool} (g : NGood 4 cs) (h : At cs u n) (hs : ∀ val, Says 4 cs val n = x) : n ≤ 1 := by
  cases x with
  | false => have := same_node g h (g.at0 (u := 0) (by omega)) (fun val => by rw [hs, Says_zero]); omega
  | true => have := same_node g h (g.at1 (u := 0) (by omega)) (fun val => by rw [hs, Says_one]); omega

theorem says_const {cs : List Nd} {a : Nat} (ha : a ≤ 1) (val : Nat → Bool) : Says 4 cs val a = decide (a = 1) := by
  rcases (by omega : a = 0 ∨ a = 1) with rfl | rfl
  · exact Says_zero val
  · exact Says_one val

set_option maxHeartbeats 8000000 in
set_option maxRecDepth 100000 in
theorem nobody_core (a b kd : Int) (w : World) : Calls Try.prog 7 #[.int .i64 a, .int .i64 b, .int .i64 kd] w fun e w' => e = .returned (.bool true) ∧ Below w.heap.size w w' := by
  obtain ⟨j, K, -, hK, ej, ek, -⟩ := kind6 kd
  have BG := begun_any 50 (by omega) (by omega) w
  change Calls _ _ #[.int .i64 50] _ _ at BG
  have BG := Lib.hid BG
  have HK := Lib.hid hK
  clear hK
  go_enter Try.func7, Try.ntmps7
  go_wp2_with fail
  refine BG.out.mono ?_
  rintro e w1 ⟨m1, o, rfl, l1⟩
  have L1 := Lib.hid l1
  clear l1 BG
  unfold ptrV at *
  by_cases h1 : a < 0
  · have HBD : Hid True := trivial
    have T := Lib.hid (does_bad L1.out.ost HK.out a b b (nums_bad (.inl (.inl h1))))
    clear HBD
    go_wp2_with fail
    refine T.out.mono ?_
    rintro e w2 ⟨rfl, hb2⟩
    have B2 := Lib.hid (L1.out.below.trans (hb2.mono L1.out.below.size))
    clear hb2 T L1
    have N1 := Lib.hid (newops_nob (w := w2) (.inl rfl))
    have b0 := (Below.refl w2.heap.size w2).alloc (Nat.le_refl _) (.cells #[.pointer none, .int .i64 0, .int .i64 0, .slice none 0 0, .pointer none, .int .i64 0, .int .i64 0, .int .i64 0, .int .i64 0] 53)
    have h0 := cell_of_row _ _ 0 _ _ _ (heap_alloc_new w2 (.cells #[.pointer none, .int .i64 0, .int .i64 0, .slice none 0 0, .pointer none, .int .i64 0, .int .i64 0, .int .i64 0, .int .i64 0] 53))
    have N2 := Lib.hid (newops_nob (w := w2.alloc (.cells #[.pointer none, .int .i64 0, .int .i64 0, .slice none 0 0, .pointer none, .int .i64 0, .int .i64 0, .int .i64 0, .int .i64 0] 53)) (.inr ⟨w2.heap.size, rfl, h0⟩))
    have z1 : (w2.alloc (.cells #[.pointer none, .int .i64 0, .int .i64 0, .slice none 0 0, .pointer none, .int .i64 0, .int .i64 0, .int .i64 0, .int .i64 0] 53)).heap.size = w2.heap.size + 1 := by simp
    have z2 : ((w2.alloc (.cells #[.pointer none, .int .i64 0, .int .i64 0, .slice none 0 0, .pointer none, .int .i64 0, .int .i64 0, .int .i64 0, .int .i64 0] 53)).alloc (.cells #[.pointer none, .pointer none, .int .u32 0, .int .i32 0, .int .u32 0, .map none, .int .i64 0] 66)).heap.size = w2.heap.size + 1 + 1 := by simp
    have b3 := (b0.alloc (by rw [z1]; omega) (.cells #[.pointer none, .pointer none, .int .u32 0, .int .i32 0, .int .u32 0, .map none, .int .i64 0] 66)).alloc (by rw [z2]; omega) (.cells #[.pointer none, .pointer (some ⟨w2.heap.size + 1, 0, none⟩)] 24)
    have g1 := heap_alloc_new (w2.alloc (.cells #[.pointer none, .int .i64 0, .int .i64 0, .slice none 0 0, .pointer none, .int .i64 0, .int .i64 0, .int .i64 0, .int .i64 0] 53)) (.cells #[.pointer none, .pointer none, .int .u32 0, .int .i32 0, .int .u32 0, .map none, .int .i64 0] 66)
    rw [z1] at g1
    have g2 := (Below.heap_alloc ((w2.alloc (.cells #[.pointer none, .int .i64 0, .int .i64 0, .slice none 0 0, .pointer none, .int .i64 0, .int .i64 0, .int .i64 0, .int .i64 0] 53)).alloc (.cells #[.pointer none, .pointer none, .int .u32 0, .int .i32 0, .int .u32 0, .map none, .int .i64 0] 66)) (.cells #[.pointer none, .pointer (some ⟨w2.heap.size + 1, 0, none⟩)] 24) (w2.heap.size + 1) (by rw [z2]; omega)).trans g1
    have g3 := heap_alloc_new ((w2.alloc (.cells #[.pointer none, .int .i64 0, .int .i64 0, .slice none 0 0, .pointer none, .int .i64 0, .int .i64 0, .int .i64 0, .int .i64 0] 53)).alloc (.cells #[.pointer none, .pointer none, .int .u32 0, .int .i32 0, .int .u32 0, .map none, .int .i64 0] 66)) (.cells #[.pointer none, .pointer (some ⟨w2.heap.size + 1, 0, none⟩)] 24)
    rw [z2] at g3
    have G2 := Lib.hid g2
    have G3 := Lib.hid g3
    have B3 := Lib.hid (B2.out.trans (b3.mono B2.out.size))
    have AW := Lib.hid awake4
    clear b0 h0 z1 z2 b3 g1 g2 g3 B2
    go_wp2_with fail
    refine N1.out.mono ?_
    rintro e w' ⟨rfl, rfl⟩
    go_wp2_with fail
    refine N2.out.mono ?_
    rintro e w' ⟨rfl, rfl⟩
    go_wp2_with fail
    clear N1 N2
    revert G2 G3 B3
    generalize (((w2.alloc (.cells #[.pointer none, .int .i64 0, .int .i64 0, .slice none 0 0, .pointer none, .int .i64 0, .int .i64 0, .int .i64 0, .int .i64 0] 53)).alloc (.cells #[.pointer none, .pointer none, .int .u32 0, .int .i32 0, .int .u32 0, .map none, .int .i64 0] 66)).alloc (.cells #[.pointer none, .pointer (some ⟨w2.heap.size + 1, 0, none⟩)] 24)) = w3
    generalize w2.heap.size + 1 + 1 = gl
    generalize w2.heap.size + 1 = gz
    intro G2 G3 B3
    go_loopw [19] (fun ix wr => ∃ i : Nat, i ≤ 2 ∧ ix = .int .i64 i ∧ Below w3.heap.size w3 wr) (fun ix _ => 2 - (intOf ix).toNat)
    case atStart => exact ⟨0, by omega, rfl, Below.refl _ _⟩
    case round =>
      obtain ⟨i, hi, rfl, hb⟩ := hrel
      have r3 := (hb.block _ (row_lt G3.out)).trans G3.out
      have c0 := cell_of_row _ _ 0 _ _ _ r3
      have c1 := cell_of_row _ _ 1 _ _ _ r3
      simp at c0 c1
      have nz : NBs wr (.pointer (some ⟨gz, 0, none⟩)) := .inr ⟨gz, rfl, cell_of_row _ _ 0 _ _ _ ((hb.block _ (row_lt G2.out)).trans G2.out)⟩
      have HB := Lib.hid hb
      clear hb r3
      rcases (by omega : i = 0 ∨ i = 1 ∨ i = 2) with rfl | rfl | rfl
      · have DN := Lib.hid (does_nob (.inl rfl : NBs wr (.pointer none)) HK.out a b b)
        have ST := Lib.hid (fun (u : World) (hu : Below wr.heap.size wr u) => store_nob (NBs.keep (.inl rfl : NBs wr (.pointer none)) hu))
        have KC := Lib.hid (fun (u : World) (hu : Below wr.heap.size wr u) => hu.cell (p := ⟨gl, 0, none⟩) (World.block_lt_of_cell? wr ⟨gl, 0, none⟩ c0))
        have C1 := Lib.hid c0
        clear nz
        go_wp2_with fail
        refine DN.out.mono ?_
        rintro e w5 ⟨rfl, hb5⟩
        have d0 := (KC.out _ hb5).trans C1.out
        have S5 := Lib.hid (ST.out _ hb5)
        have B5 := Lib.hid (HB.out.trans (hb5.mono HB.out.size))
        clear hb5 c0 c1 DN ST KC C1
        go_wp2_with fail
        refine S5.out.mono ?_
        rintro e w' ⟨rfl, rfl⟩
        clear S5
        go_wp2_with fail
        go_roundw
        case rel => exact ⟨1, by omega, rfl, B5.out⟩
        case measure => simp [intOf]
      · have DN := Lib.hid (does_nob nz HK.out a b b)
        have ST := Lib.hid (fun (u : World) (hu : Below wr.heap.size wr u) => store_nob (NBs.keep nz hu))
        have KC := Lib.hid (fun (u : World) (hu : Below wr.heap.size wr u) => hu.cell (p := ⟨gl, 1, none⟩) (World.block_lt_of_cell? wr ⟨gl, 1, none⟩ c1))
        have C1 := Lib.hid c1
        clear nz
        go_wp2_with fail
        refine DN.out.mono ?_
        rintro e w5 ⟨rfl, hb5⟩
        have d1 := (KC.out _ hb5).trans C1.out
        have S5 := Lib.hid (ST.out _ hb5)
        have B5 := Lib.hid (HB.out.trans (hb5.mono HB.out.size))
        clear hb5 c0 c1 DN ST KC C1
        go_wp2_with fail
        refine S5.out.mono ?_
        rintro e w' ⟨rfl, rfl⟩
        clear S5
        go_wp2_with fail
        go_roundw
        case rel => exact ⟨2, by omega, rfl, B5.out⟩
        case measure => simp [intOf]
      · clear c0 c1 nz
        go_wp2_with fail
        refine (AW.out _).mono ?_
        rintro e w9 ⟨rfl, hb9⟩
        have B9 := Lib.hid ((B3.out.trans (HB.out.mono B3.out.size)).trans (hb9.mono (B3.out.trans (HB.out.mono B3.out.size)).size))
        clear hb9
        go_wp2_with fail
        go_ret
        exact ⟨rfl, B9.out⟩
  by_cases h2 : 1 < a
  · have HBD : Hid True := trivial
    have T := Lib.hid (does_bad L1.out.ost HK.out a b b (nums_bad (.inl (.inr h2))))
    clear HBD
    go_wp2_with fail
    refine T.out.mono ?_
    rintro e w2 ⟨rfl, hb2⟩
    have B2 := Lib.hid (L1.out.below.trans (hb2.mono L1.out.below.size))
    clear hb2 T L1
    have N1 := Lib.hid (newops_nob (w := w2) (.inl rfl))
    have b0 := (Below.refl w2.heap.size w2).alloc (Nat.le_refl _) (.cells #[.pointer none, .int .i64 0, .int .i64 0, .slice none 0 0, .pointer none, .int .i64 0, .int .i64 0, .int .i64 0, .int .i64 0] 53)
    have h0 := cell_of_row _ _ 0 _ _ _ (heap_alloc_new w2 (.cells #[.pointer none, .int .i64 0, .int .i64 0, .slice none 0 0, .pointer none, .int .i64 0, .int .i64 0, .int .i64 0, .int .i64 0] 53))
    have N2 := Lib.hid (newops_nob (w := w2.alloc (.cells #[.pointer none, .int .i64 0, .int .i64 0, .slice none 0 0, .pointer none, .int .i64 0, .int .i64 0, .int .i64 0, .int .i64 0] 53)) (.inr ⟨w2.heap.size, rfl, h0⟩))
    have z1 : (w2.alloc (.cells #[.pointer none, .int .i64 0, .int .i64 0, .slice none 0 0, .pointer none, .int .i64 0, .int .i64 0, .int .i64 0, .int .i64 0] 53)).heap.size = w2.heap.size + 1 := by simp
    have z2 : ((w2.alloc (.cells #[.pointer none, .int .i64 0, .int .i64 0, .slice none 0 0, .pointer none, .int .i64 0, .int .i64 0, .int .i64 0, .int .i64 0] 53)).alloc (.cells #[.pointer none, .pointer none, .int .u32 0, .int .i32 0, .int .u32 0, .map none, .int .i64 0] 66)).heap.size = w2.heap.size + 1 + 1 := by simp
    have b3 := (b0.alloc (by rw [z1]; omega) (.cells #[.pointer none, .pointer none, .int .u32 0, .int .i32 0, .int .u32 0, .map none, .int .i64 0] 66)).alloc (by rw [z2]; omega) (.cells #[.pointer none, .pointer (some ⟨w2.heap.size + 1, 0, none⟩)] 24)
    have g1 := heap_alloc_new (w2.alloc (.cells #[.pointer none, .int .i64 0, .int .i64 0, .slice none 0 0, .pointer none, .int .i64 0, .int .i64 0, .int .i64 0, .int .i64 0] 53)) (.cells #[.pointer none, .pointer none, .int .u32 0, .int .i32 0, .int .u32 0, .map none, .int .i64 0] 66)
    rw [z1] at g1
    have g2 := (Below.heap_alloc ((w2.alloc (.cells #[.pointer none, .int .i64 0, .int .i64 0, .slice none 0 0, .pointer none, .int .i64 0, .int .i64 0, .int .i64 0, .int .i64 0] 53)).alloc (.cells #[.pointer none, .pointer none, .int .u32 0, .int .i32 0, .int .u32 0, .map none, .int .i64 0] 66)) (.cells #[.pointer none, .pointer (some ⟨w2.heap.size + 1, 0, none⟩)] 24) (w2.heap.size + 1) (by rw [z2]; omega)).trans g1
    have g3 := heap_alloc_new ((w2.alloc (.cells #[.pointer none, .int .i64 0, .int .i64 0, .slice none 0 0, .pointer none, .int .i64 0, .int .i64 0, .int .i64 0, .int .i64 0] 53)).alloc (.cells #[.pointer none, .pointer none, .int .u32 0, .int .i32 0, .int .u32 0, .map none, .int .i64 0] 66)) (.cells #[.pointer none, .pointer (some ⟨w2.heap.size + 1, 0, none⟩)] 24)
    rw [z2] at g3
    have G2 := Lib.hid g2
    have G3 := Lib.hid g3
    have B3 := Lib.hid (B2.out.trans (b3.mono B2.out.size))
    have AW := Lib.hid awake4
    clear b0 h0 z1 z2 b3 g1 g2 g3 B2
    go_wp2_with fail
    refine N1.out.mono ?_
    rintro e w' ⟨rfl, rfl⟩
    go_wp2_with fail
    refine N2.out.mono ?_
    rintro e w' ⟨rfl, rfl⟩
    go_wp2_with fail
    clear N1 N2
    revert G2 G3 B3
    generalize (((w2.alloc (.cells #[.pointer none, .int .i64 0, .int .i64 0, .slice none 0 0, .pointer none, .int .i64 0, .int .i64 0, .int .i64 0, .int .i64 0] 53)).alloc (.cells #[.pointer none, .pointer none, .int .u32 0, .int .i32 0, .int .u32 0, .map none, .int .i64 0] 66)).alloc (.cells #[.pointer none, .pointer (some ⟨w2.heap.size + 1, 0, none⟩)] 24)) = w3
    generalize w2.heap.size + 1 + 1 = gl
    generalize w2.heap.size + 1 = gz
    intro G2 G3 B3
    go_loopw [19] (fun ix wr => ∃ i : Nat, i ≤ 2 ∧ ix = .int .i64 i ∧ Below w3.heap.size w3 wr) (fun ix _ => 2 - (intOf ix).toNat)
    case atStart => exact ⟨0, by omega, rfl, Below.refl _ _⟩
    case round =>
      obtain ⟨i, hi, rfl, hb⟩ := hrel
      have r3 := (hb.block _ (row_lt G3.out)).trans G3.out
      have c0 := cell_of_row _ _ 0 _ _ _ r3
      have c1 := cell_of_row _ _ 1 _ _ _ r3
      simp at c0 c1
      have nz : NBs wr (.pointer (some ⟨gz, 0, none⟩)) := .inr ⟨gz, rfl, cell_of_row _ _ 0 _ _ _ ((hb.block _ (row_lt G2.out)).trans G2.out)⟩
      have HB := Lib.hid hb
      clear hb r3
      rcases (by omega : i = 0 ∨ i = 1 ∨ i = 2) with rfl | rfl | rfl
      · have DN := Lib.hid (does_nob (.inl rfl : NBs wr (.pointer none)) HK.out a b b)
        have ST := Lib.hid (fun (u : World) (hu : Below wr.heap.size wr u) => store_nob (NBs.keep (.inl rfl : NBs wr (.pointer none)) hu))
        have KC := Lib.hid (fun (u : World) (hu : Below wr.heap.size wr u) => hu.cell (p := ⟨gl, 0, none⟩) (World.block_lt_of_cell? wr ⟨gl, 0, none⟩ c0))
        have C1 := Lib.hid c0
        clear nz
        go_wp2_with fail
        refine DN.out.mono ?_
        rintro e w5 ⟨rfl, hb5⟩
        have d0 := (KC.out _ hb5).trans C1.out
        have S5 := Lib.hid (ST.out _ hb5)
        have B5 := Lib.hid (HB.out.trans (hb5.mono HB.out.size))
        clear hb5 c0 c1 DN ST KC C1
        go_wp2_with fail
        refine S5.out.mono ?_
        rintro e w' ⟨rfl, rfl⟩
        clear S5
        go_wp2_with fail
        go_roundw
        case rel => exact ⟨1, by omega, rfl, B5.out⟩
        case measure => simp [intOf]
      · have DN := Lib.hid (does_nob nz HK.out a b b)
        have ST := Lib.hid (fun (u : World) (hu : Below wr.heap.size wr u) => store_nob (NBs.keep nz hu))
        have KC := Lib.hid (fun (u : World) (hu : Below wr.heap.size wr u) => hu.cell (p := ⟨gl, 1, none⟩) (World.block_lt_of_cell? wr ⟨gl, 1, none⟩ c1))
        have C1 := Lib.hid c1
        clear nz
        go_wp2_with fail
        refine DN.out.mono ?_
        rintro e w5 ⟨rfl, hb5⟩
        have d1 := (KC.out _ hb5).trans C1.out
        have S5 := Lib.hid (ST.out _ hb5)
        have B5 := Lib.hid (HB.out.trans (hb5.mono HB.out.size))
        clear hb5 c0 c1 DN ST KC C1
        go_wp2_with fail
        refine S5.out.mono ?_
        rintro e w' ⟨rfl, rfl⟩
        clear S5
        go_wp2_with fail
        go_roundw
        case rel => exact ⟨2, by omega, rfl, B5.out⟩
        case measure => simp [intOf]
      · clear c0 c1 nz
        go_wp2_with fail
        refine (AW.out _).mono ?_
        rintro e w9 ⟨rfl, hb9⟩
        have B9 := Lib.hid ((B3.out.trans (HB.out.mono B3.out.size)).trans (hb9.mono (B3.out.trans (HB.out.mono B3.out.size)).size))
        clear hb9
        go_wp2_with fail
        go_ret
        exact ⟨rfl, B9.out⟩
  by_cases h3 : (0 : Int) < (K : Int)
  · by_cases h4 : b < 0
    · have HBD : Hid True := trivial
      have T := Lib.hid (does_bad L1.out.ost HK.out a b b (nums_bad (.inr ⟨by omega, .inl h4⟩)))
      clear HBD
      go_wp2_with fail
      refine T.out.mono ?_
      rintro e w2 ⟨rfl, hb2⟩
      have B2 := Lib.hid (L1.out.below.trans (hb2.mono L1.out.below.size))
      clear hb2 T L1
      have N1 := Lib.hid (newops_nob (w := w2) (.inl rfl))
      have b0 := (Below.refl w2.heap.size w2).alloc (Nat.le_refl _) (.cells #[.pointer none, .int .i64 0, .int .i64 0, .slice none 0 0, .pointer none, .int .i64 0, .int .i64 0, .int .i64 0, .int .i64 0] 53)
      have h0 := cell_of_row _ _ 0 _ _ _ (heap_alloc_new w2 (.cells #[.pointer none, .int .i64 0, .int .i64 0, .slice none 0 0, .pointer none, .int .i64 0, .int .i64 0, .int .i64 0, .int .i64 0] 53))
      have N2 := Lib.hid (newops_nob (w := w2.alloc (.cells #[.pointer none, .int .i64 0, .int .i64 0, .slice none 0 0, .pointer none, .int .i64 0, .int .i64 0, .int .i64 0, .int .i64 0] 53)) (.inr ⟨w2.heap.size, rfl, h0⟩))
      have z1 : (w2.alloc (.cells #[.pointer none, .int .i64 0, .int .i64 0, .slice none 0 0, .pointer none, .int .i64 0, .int .i64 0, .int .i64 0, .int .i64 0] 53)).heap.size = w2.heap.size + 1 := by simp
      have z2 : ((w2.alloc (.cells #[.pointer none, .int .i64 0, .int .i64 0, .slice none 0 0, .pointer none, .int .i64 0, .int .i64 0, .int .i64 0, .int .i64 0] 53)).alloc (.cells #[.pointer none, .pointer none, .int .u32 0, .int .i32 0, .int .u32 0, .map none, .int .i64 0] 66)).heap.size = w2.heap.size + 1 + 1 := by simp
      have b3 := (b0.alloc (by rw [z1]; omega) (.cells #[.pointer none, .pointer none, .int .u32 0, .int .i32 0, .int .u32 0, .map none, .int .i64 0] 66)).alloc (by rw [z2]; omega) (.cells #[.pointer none, .pointer (some ⟨w2.heap.size + 1, 0, none⟩)] 24)
      have g1 := heap_alloc_new (w2.alloc (.cells #[.pointer none, .int .i64 0, .int .i64 0, .slice none 0 0, .pointer none, .int .i64 0, .int .i64 0, .int .i64 0, .int .i64 0] 53)) (.cells #[.pointer none, .pointer none, .int .u32 0, .int .i32 0, .int .u32 0, .map none, .int .i64 0] 66)
      rw [z1] at g1
      have g2 := (Below.heap_alloc ((w2.alloc (.cells #[.pointer none, .int .i64 0, .int .i64 0, .slice none 0 0, .pointer none, .int .i64 0, .int .i64 0, .int .i64 0, .int .i64 0] 53)).alloc (.cells #[.pointer none, .pointer none, .int .u32 0, .int .i32 0, .int .u32 0, .map none, .int .i64 0] 66)) (.cells #[.pointer none, .pointer (some ⟨w2.heap.size + 1, 0, none⟩)] 24) (w2.heap.size + 1) (by rw [z2]; omega)).trans g1
      have g3 := heap_alloc_new ((w2.alloc (.cells #[.pointer none, .int .i64 0, .int .i64 0, .slice none 0 0, .pointer none, .int .i64 0, .int .i64 0, .int .i64 0, .int .i64 0] 53)).alloc (.cells #[.pointer none, .pointer none, .int .u32 0, .int .i32 0, .int .u32 0, .map none, .int .i64 0] 66)) (.cells #[.pointer none, .pointer (some ⟨w2.heap.size + 1, 0, none⟩)] 24)
      rw [z2] at g3
      have G2 := Lib.hid g2
      have G3 := Lib.hid g3
      have B3 := Lib.hid (B2.out.trans (b3.mono B2.out.size))
      have AW := Lib.hid awake4
      clear b0 h0 z1 z2 b3 g1 g2 g3 B2
      go_wp2_with fail
      refine N1.out.mono ?_
      rintro e w' ⟨rfl, rfl⟩
      go_wp2_with fail
      refine N2.out.mono ?_
      rintro e w' ⟨rfl, rfl⟩
      go_wp2_with fail
      clear N1 N2
      revert G2 G3 B3
      generalize (((w2.alloc (.cells #[.pointer none, .int .i64 0, .int .i64 0, .slice none 0 0, .pointer none, .int .i64 0, .int .i64 0, .int .i64 0, .int .i64 0] 53)).alloc (.cells #[.pointer none, .pointer none, .int .u32 0, .int .i32 0, .int .u32 0, .map none, .int .i64 0] 66)).alloc (.cells #[.pointer none, .pointer (some ⟨w2.heap.size + 1, 0, none⟩)] 24)) = w3
      generalize w2.heap.size + 1 + 1 = gl
      generalize w2.heap.size + 1 = gz
      intro G2 G3 B3
      go_loopw [19] (fun ix wr => ∃ i : Nat, i ≤ 2 ∧ ix = .int .i64 i ∧ Below w3.heap.size w3 wr) (fun ix _ => 2 - (intOf ix).toNat)
      case atStart => exact ⟨0, by omega, rfl, Below.refl _ _⟩
      case round =>
        obtain ⟨i, hi, rfl, hb⟩ := hrel
        have r3 := (hb.block _ (row_lt G3.out)).trans G3.out
        have c0 := cell_of_row _ _ 0 _ _ _ r3
        have c1 := cell_of_row _ _ 1 _ _ _ r3
        simp at c0 c1
        have nz : NBs wr (.pointer (some ⟨gz, 0, none⟩)) := .inr ⟨gz, rfl, cell_of_row _ _ 0 _ _ _ ((hb.block _ (row_lt G2.out)).trans G2.out)⟩
        have HB := Lib.hid hb
        clear hb r3
        rcases (by omega : i = 0 ∨ i = 1 ∨ i = 2) with rfl | rfl | rfl
        · have DN := Lib.hid (does_nob (.inl rfl : NBs wr (.pointer none)) HK.out a b b)
          have ST := Lib.hid (fun (u : World) (hu : Below wr.heap.size wr u) => store_nob (NBs.keep (.inl rfl : NBs wr (.pointer none)) hu))
          have KC := Lib.hid (fun (u : World) (hu : Below wr.heap.size wr u) => hu.cell (p := ⟨gl, 0, none⟩) (World.block_lt_of_cell? wr ⟨gl, 0, none⟩ c0))
          have C1 := Lib.hid c0
          clear nz
          go_wp2_with fail
          refine DN.out.mono ?_
          rintro e w5 ⟨rfl, hb5⟩
          have d0 := (KC.out _ hb5).trans C1.out
          have S5 := Lib.hid (ST.out _ hb5)
          have B5 := Lib.hid (HB.out.trans (hb5.mono HB.out.size))
          clear hb5 c0 c1 DN ST KC C1
          go_wp2_with fail
          refine S5.out.mono ?_
          rintro e w' ⟨rfl, rfl⟩
          clear S5
          go_wp2_with fail
          go_roundw
          case rel => exact ⟨1, by omega, rfl, B5.out⟩
          case measure => simp [intOf]
        · have DN := Lib.hid (does_nob nz HK.out a b b)
          have ST := Lib.hid (fun (u : World) (hu : Below wr.heap.size wr u) => store_nob (NBs.keep nz hu))
          have KC := Lib.hid (fun (u : World) (hu : Below wr.heap.size wr u) => hu.cell (p := ⟨gl, 1, none⟩) (World.block_lt_of_cell? wr ⟨gl, 1, none⟩ c1))
          have C1 := Lib.hid c1
          clear nz
          go_wp2_with fail
          refine DN.out.mono ?_
          rintro e w5 ⟨rfl, hb5⟩
          have d1 := (KC.out _ hb5).trans C1.out
          have S5 := Lib.hid (ST.out _ hb5)
          have B5 := Lib.hid (HB.out.trans (hb5.mono HB.out.size))
          clear hb5 c0 c1 DN ST KC C1
          go_wp2_with fail
          refine S5.out.mono ?_
          rintro e w' ⟨rfl, rfl⟩
          clear S5
          go_wp2_with fail
          go_roundw
          case rel => exact ⟨2, by omega, rfl, B5.out⟩
          case measure => simp [intOf]
        · clear c0 c1 nz
          go_wp2_with fail
          refine (AW.out _).mono ?_
          rintro e w9 ⟨rfl, hb9⟩
          have B9 := Lib.hid ((B3.out.trans (HB.out.mono B3.out.size)).trans (hb9.mono (B3.out.trans (HB.out.mono B3.out.size)).size))
          clear hb9
          go_wp2_with fail
          go_ret
          exact ⟨rfl, B9.out⟩
    by_cases h5 : 1 < b
    · have HBD : Hid True := trivial
      have T := Lib.hid (does_bad L1.out.ost HK.out a b b (nums_bad (.inr ⟨by omega, .inr h5⟩)))
      clear HBD
      go_wp2_with fail
      refine T.out.mono ?_
      rintro e w2 ⟨rfl, hb2⟩
      have B2 := Lib.hid (L1.out.below.trans (hb2.mono L1.out.below.size))
      clear hb2 T L1
      have N1 := Lib.hid (newops_nob (w := w2) (.inl rfl))
      have b0 := (Below.refl w2.heap.size w2).alloc (Nat.le_refl _) (.cells #[.pointer none, .int .i64 0, .int .i64 0, .slice none 0 0, .pointer none, .int .i64 0, .int .i64 0, .int .i64 0, .int .i64 0] 53)
      have h0 := cell_of_row _ _ 0 _ _ _ (heap_alloc_new w2 (.cells #[.pointer none, .int .i64 0, .int .i64 0, .slice none 0 0, .pointer none, .int .i64 0, .int .i64 0, .int .i64 0, .int .i64 0] 53))
      have N2 := Lib.hid (newops_nob (w := w2.alloc (.cells #[.pointer none, .int .i64 0, .int .i64 0, .slice none 0 0, .pointer none, .int .i64 0, .int .i64 0, .int .i64 0, .int .i64 0] 53)) (.inr ⟨w2.heap.size, rfl, h0⟩))
      have z1 : (w2.alloc (.cells #[.pointer none, .int .i64 0, .int .i64 0, .slice none 0 0, .pointer none, .int .i64 0, .int .i64 0, .int .i64 0, .int .i64 0] 53)).heap.size = w2.heap.size + 1 := by simp
      have z2 : ((w2.alloc (.cells #[.pointer none, .int .i64 0, .int .i64 0, .slice none 0 0, .pointer none, .int .i64 0, .int .i64 0, .int .i64 0, .int .i64 0] 53)).alloc (.cells #[.pointer none, .pointer none, .int .u32 0, .int .i32 0, .int .u32 0, .map none, .int .i64 0] 66)).heap.size = w2.heap.size + 1 + 1 := by simp
      have b3 := (b0.alloc (by rw [z1]; omega) (.cells #[.pointer none, .pointer none, .int .u32 0, .int .i32 0, .int .u32 0, .map none, .int .i64 0] 66)).alloc (by rw [z2]; omega) (.cells #[.pointer none, .pointer (some ⟨w2.heap.size + 1, 0, none⟩)] 24)
      have g1 := heap_alloc_new (w2.alloc (.cells #[.pointer none, .int .i64 0, .int .i64 0, .slice none 0 0, .pointer none, .int .i64 0, .int .i64 0, .int .i64 0, .int .i64 0] 53)) (.cells #[.pointer none, .pointer none, .int .u32 0, .int .i32 0, .int .u32 0, .map none, .int .i64 0] 66)
      rw [z1] at g1
      have g2 := (Below.heap_alloc ((w2.alloc (.cells #[.pointer none, .int .i64 0, .int .i64 0, .slice none 0 0, .pointer none, .int .i64 0, .int .i64 0, .int .i64 0, .int .i64 0] 53)).alloc (.cells #[.pointer none, .pointer none, .int .u32 0, .int .i32 0, .int .u32 0, .map none, .int .i64 0] 66)) (.cells #[.pointer none, .pointer (some ⟨w2.heap.size + 1, 0, none⟩)] 24) (w2.heap.size + 1) (by rw [z2]; omega)).trans g1
      have g3 := heap_alloc_new ((w2.alloc (.cells #[.pointer none, .int .i64 0, .int .i64 0, .slice none 0 0, .pointer none, .int .i64 0, .int .i64 0, .int .i64 0, .int .i64 0] 53)).alloc (.cells #[.pointer none, .pointer none, .int .u32 0, .int .i32 0, .int .u32 0, .map none, .int .i64 0] 66)) (.cells #[.pointer none, .pointer (some ⟨w2.heap.size + 1, 0, none⟩)] 24)
      rw [z2] at g3
      have G2 := Lib.hid g2
      have G3 := Lib.hid g3
      have B3 := Lib.hid (B2.out.trans (b3.mono B2.out.size))
      have AW := Lib.hid awake4
      clear b0 h0 z1 z2 b3 g1 g2 g3 B2
      go_wp2_with fail
      refine N1.out.mono ?_
      rintro e w' ⟨rfl, rfl⟩
      go_wp2_with fail
      refine N2.out.mono ?_
      rintro e w' ⟨rfl, rfl⟩
      go_wp2_with fail
      clear N1 N2
      revert G2 G3 B3
      generalize (((w2.alloc (.cells #[.pointer none, .int .i64 0, .int .i64 0, .slice none 0 0, .pointer none, .int .i64 0, .int .i64 0, .int .i64 0, .int .i64 0] 53)).alloc (.cells #[.pointer none, .pointer none, .int .u32 0, .int .i32 0, .int .u32 0, .map none, .int .i64 0] 66)).alloc (.cells #[.pointer none, .pointer (some ⟨w2.heap.size + 1, 0, none⟩)] 24)) = w3
      generalize w2.heap.size + 1 + 1 = gl
      generalize w2.heap.size + 1 = gz
      intro G2 G3 B3
      go_loopw [19] (fun ix wr => ∃ i : Nat, i ≤ 2 ∧ ix = .int .i64 i ∧ Below w3.heap.size w3 wr) (fun ix _ => 2 - (intOf ix).toNat)
      case atStart => exact ⟨0, by omega, rfl, Below.refl _ _⟩
      case round =>
        obtain ⟨i, hi, rfl, hb⟩ := hrel
        have r3 := (hb.block _ (row_lt G3.out)).trans G3.out
        have c0 := cell_of_row _ _ 0 _ _ _ r3
        have c1 := cell_of_row _ _ 1 _ _ _ r3
        simp at c0 c1
        have nz : NBs wr (.pointer (some ⟨gz, 0, none⟩)) := .inr ⟨gz, rfl, cell_of_row _ _ 0 _ _ _ ((hb.block _ (row_lt G2.out)).trans G2.out)⟩
        have HB := Lib.hid hb
        clear hb r3
        rcases (by omega : i = 0 ∨ i = 1 ∨ i = 2) with rfl | rfl | rfl
        · have DN := Lib.hid (does_nob (.inl rfl : NBs wr (.pointer none)) HK.out a b b)
          have ST := Lib.hid (fun (u : World) (hu : Below wr.heap.size wr u) => store_nob (NBs.keep (.inl rfl : NBs wr (.pointer none)) hu))
          have KC := Lib.hid (fun (u : World) (hu : Below wr.heap.size wr u) => hu.cell (p := ⟨gl, 0, none⟩) (World.block_lt_of_cell? wr ⟨gl, 0, none⟩ c0))
          have C1 := Lib.hid c0
          clear nz
          go_wp2_with fail
          refine DN.out.mono ?_
          rintro e w5 ⟨rfl, hb5⟩
          have d0 := (KC.out _ hb5).trans C1.out
          have S5 := Lib.hid (ST.out _ hb5)
          have B5 := Lib.hid (HB.out.trans (hb5.mono HB.out.size))
          clear hb5 c0 c1 DN ST KC C1
          go_wp2_with fail
          refine S5.out.mono ?_
          rintro e w' ⟨rfl, rfl⟩
          clear S5
          go_wp2_with fail
          go_roundw
          case rel => exact ⟨1, by omega, rfl, B5.out⟩
          case measure => simp [intOf]
        · have DN := Lib.hid (does_nob nz HK.out a b b)
          have ST := Lib.hid (fun (u : World) (hu : Below wr.heap.size wr u) => store_nob (NBs.keep nz hu))
          have KC := Lib.hid (fun (u : World) (hu : Below wr.heap.size wr u) => hu.cell (p := ⟨gl, 1, none⟩) (World.block_lt_of_cell? wr ⟨gl, 1, none⟩ c1))
          have C1 := Lib.hid c1
          clear nz
          go_wp2_with fail
          refine DN.out.mono ?_
          rintro e w5 ⟨rfl, hb5⟩
          have d1 := (KC.out _ hb5).trans C1.out
          have S5 := Lib.hid (ST.out _ hb5)
          have B5 := Lib.hid (HB.out.trans (hb5.mono HB.out.size))
          clear hb5 c0 c1 DN ST KC C1
          go_wp2_with fail
          refine S5.out.mono ?_
          rintro e w' ⟨rfl, rfl⟩
          clear S5
          go_wp2_with fail
          go_roundw
          case rel => exact ⟨2, by omega, rfl, B5.out⟩
          case measure => simp [intOf]
        · clear c0 c1 nz
          go_wp2_with fail
          refine (AW.out _).mono ?_
          rintro e w9 ⟨rfl, hb9⟩
          have B9 := Lib.hid ((B3.out.trans (HB.out.mono B3.out.size)).trans (hb9.mono (B3.out.trans (HB.out.mono B3.out.size)).size))
          clear hb9
          go_wp2_with fail
          go_ret
          exact ⟨rfl, B9.out⟩
    obtain ⟨na, rfl⟩ : ∃ n : Nat, a = n := ⟨a.toNat, by omega⟩
    obtain ⟨nb, rfl⟩ : ∃ n : Nat, b = n := ⟨b.toNat, by omega⟩
    have at_ : ∀ k : Nat, k ≤ 1 → At first4 0 k := fun k hk => by
      rcases (by omega : k = 0 ∨ k = 1) with rfl | rfl
      · exact L1.out.good.at0 (by omega)
      · exact L1.out.good.at1 (by omega)
    have T := Lib.hid (does_good L1.out.ost L1.out.room HK.out (at_ na (by omega)) (at_ nb (by omega)) (at_ nb (by omega)))
    have A1 : Hid (na ≤ 1) := by show na ≤ 1; omega
    have A2 : Hid (nb ≤ 1) := by show nb ≤ 1; omega
    clear at_
    go_wp2_with fail
    refine T.out.mono ?_
    intro e w2 hout
    obtain ⟨n, m2, h2', cs2, mb2, rfl, l2, ex, -, sN, aN, sN2⟩ := L1.out.ask (by omega) hout
    have hn := const_node l2.good aN (x := opB K (decide (na = 1)) (decide (nb = 1)) (decide (nb = 1))) fun val => by rw [sN2, qsem_op, says_const A1.out, says_const A2.out]
    have hn0 : ¬ (n : Int) < 0 := by omega
    have hn1 : ¬ (1 : Int) < (n : Int) := by omega
    have B2 := Lib.hid l2.below
    clear hout l2 ex sN aN sN2 hn T L1
    have N1 := Lib.hid (newops_nob (w := w2) (.inl rfl))
    have b0 := (Below.refl w2.heap.size w2).alloc (Nat.le_refl _) (.cells #[.pointer none, .int .i64 0, .int .i64 0, .slice none 0 0, .pointer none, .int .i64 0, .int .i64 0, .int .i64 0, .int .i64 0] 53)
    have h0 := cell_of_row _ _ 0 _ _ _ (heap_alloc_new w2 (.cells #[.pointer none, .int .i64 0, .int .i64 0, .slice none 0 0, .pointer none, .int .i64 0, .int .i64 0, .int .i64 0, .int .i64 0] 53))
    have N2 := Lib.hid (newops_nob (w := w2.alloc (.cells #[.pointer none, .int .i64 0, .int .i64 0, .slice none 0 0, .pointer none, .int .i64 0, .int .i64 0, .int .i64 0, .int .i64 0] 53)) (.inr ⟨w2.heap.size, rfl, h0⟩))
    have z1 : (w2.alloc (.cells #[.pointer none, .int .i64 0, .int .i64 0, .slice none 0 0, .pointer none, .int .i64 0, .int .i64 0, .int .i64 0, .int .i64 0] 53)).heap.size = w2.heap.size + 1 := by simp
    have z2 : ((w2.alloc (.cells #[.pointer none, .int .i64 0, .int .i64 0, .slice none 0 0, .pointer none, .int .i64 0, .int .i64 0, .int .i64 0, .int .i64 0] 53)).alloc (.cells #[.pointer none, .pointer none, .int .u32 0, .int .i32 0, .int .u32 0, .map none, .int .i64 0] 66)).heap.size = w2.heap.size + 1 + 1 := by simp
    have b3 := (b0.alloc (by rw [z1]; omega) (.cells #[.pointer none, .pointer none, .int .u32 0, .int .i32 0, .int .u32 0, .map none, .int .i64 0] 66)).alloc (by rw [z2]; omega) (.cells #[.pointer none, .pointer (some ⟨w2.heap.size + 1, 0, none⟩)] 24)
    have g1 := heap_alloc_new (w2.alloc (.cells #[.pointer none, .int .i64 0, .int .i64 0, .slice none 0 0, .pointer none, .int .i64 0, .int .i64 0, .int .i64 0, .int .i64 0] 53)) (.cells #[.pointer none, .pointer none, .int .u32 0, .int .i32 0, .int .u32 0, .map none, .int .i64 0] 66)
    rw [z1] at g1
    have g2 := (Below.heap_alloc ((w2.alloc (.cells #[.pointer none, .int .i64 0, .int .i64 0, .slice none 0 0, .pointer none, .int .i64 0, .int .i64 0, .int .i64 0, .int .i64 0] 53)).alloc (.cells #[.pointer none, .pointer none, .int .u32 0, .int .i32 0, .int .u32 0, .map none, .int .i64 0] 66)) (.cells #[.pointer none, .pointer (some ⟨w2.heap.size + 1, 0, none⟩)] 24) (w2.heap.size + 1) (by rw [z2]; omega)).trans g1
    have g3 := heap_alloc_new ((w2.alloc (.cells #[.pointer none, .int .i64 0, .int .i64 0, .slice none 0 0, .pointer none, .int .i64 0, .int .i64 0, .int .i64 0, .int .i64 0] 53)).alloc (.cells #[.pointer none, .pointer none, .int .u32 0, .int .i32 0, .int .u32 0, .map none, .int .i64 0] 66)) (.cells #[.pointer none, .pointer (some ⟨w2.heap.size + 1, 0, none⟩)] 24)
    rw [z2] at g3
    have G2 := Lib.hid g2
    have G3 := Lib.hid g3
    have B3 := Lib.hid (B2.out.trans (b3.mono B2.out.size))
    have AW := Lib.hid awake4
    clear b0 h0 z1 z2 b3 g1 g2 g3 B2
    go_wp2_with fail
    refine N1.out.mono ?_
    rintro e w' ⟨rfl, rfl⟩
    go_wp2_with fail
    refine N2.out.mono ?_
    rintro e w' ⟨rfl, rfl⟩
    go_wp2_with fail
    clear N1 N2
    revert G2 G3 B3
    generalize (((w2.alloc (.cells #[.pointer none, .int .i64 0, .int .i64 0, .slice none 0 0, .pointer none, .int .i64 0, .int .i64 0, .int .i64 0, .int .i64 0] 53)).alloc (.cells #[.pointer none, .pointer none, .int .u32 0, .int .i32 0, .int .u32 0, .map none, .int .i64 0] 66)).alloc (.cells #[.pointer none, .pointer (some ⟨w2.heap.size + 1, 0, none⟩)] 24)) = w3
    generalize w2.heap.size + 1 + 1 = gl
    generalize w2.heap.size + 1 = gz
    intro G2 G3 B3
    go_loopw [19] (fun ix wr => ∃ i : Nat, i ≤ 2 ∧ ix = .int .i64 i ∧ Below w3.heap.size w3 wr) (fun ix _ => 2 - (intOf ix).toNat)
    case atStart => exact ⟨0, by omega, rfl, Below.refl _ _⟩
    case round =>
      obtain ⟨i, hi, rfl, hb⟩ := hrel
      have r3 := (hb.block _ (row_lt G3.out)).trans G3.out
      have c0 := cell_of_row _ _ 0 _ _ _ r3
      have c1 := cell_of_row _ _ 1 _ _ _ r3
      simp at c0 c1
      have nz : NBs wr (.pointer (some ⟨gz, 0, none⟩)) := .inr ⟨gz, rfl, cell_of_row _ _ 0 _ _ _ ((hb.block _ (row_lt G2.out)).trans G2.out)⟩
      have HB := Lib.hid hb
      clear hb r3
      rcases (by omega : i = 0 ∨ i = 1 ∨ i = 2) with rfl | rfl | rfl
      · have DN := Lib.hid (does_nob (.inl rfl : NBs wr (.pointer none)) HK.out na nb nb)
        have ST := Lib.hid (fun (u : World) (hu : Below wr.heap.size wr u) => store_nob (NBs.keep (.inl rfl : NBs wr (.pointer none)) hu))
        have KC := Lib.hid (fun (u : World) (hu : Below wr.heap.size wr u) => hu.cell (p := ⟨gl, 0, none⟩) (World.block_lt_of_cell? wr ⟨gl, 0, none⟩ c0))
        have C1 := Lib.hid c0
        clear nz
        go_wp2_with fail
        refine DN.out.mono ?_
        rintro e w5 ⟨rfl, hb5⟩
        have d0 := (KC.out _ hb5).trans C1.out
        have S5 := Lib.hid (ST.out _ hb5)
        have B5 := Lib.hid (HB.out.trans (hb5.mono HB.out.size))
        clear hb5 c0 c1 DN ST KC C1
        go_wp2_with fail
        refine S5.out.mono ?_
        rintro e w' ⟨rfl, rfl⟩
        clear S5
        go_wp2_with fail
        go_roundw
        case rel => exact ⟨1, by omega, rfl, B5.out⟩
        case measure => simp [intOf]
      · have DN := Lib.hid (does_nob nz HK.out na nb nb)
        have ST := Lib.hid (fun (u : World) (hu : Below wr.heap.size wr u) => store_nob (NBs.keep nz hu))
        have KC := Lib.hid (fun (u : World) (hu : Below wr.heap.size wr u) => hu.cell (p := ⟨gl, 1, none⟩) (World.block_lt_of_cell? wr ⟨gl, 1, none⟩ c1))
        have C1 := Lib.hid c1
        clear nz
        go_wp2_with fail
        refine DN.out.mono ?_
        rintro e w5 ⟨rfl, hb5⟩
        have d1 := (KC.out _ hb5).trans C1.out
        have S5 := Lib.hid (ST.out _ hb5)
        have B5 := Lib.hid (HB.out.trans (hb5.mono HB.out.size))
        clear hb5 c0 c1 DN ST KC C1
        go_wp2_with fail
        refine S5.out.mono ?_
        rintro e w' ⟨rfl, rfl⟩
        clear S5
        go_wp2_with fail
        go_roundw
        case rel => exact ⟨2, by omega, rfl, B5.out⟩
        case measure => simp [intOf]
      · clear c0 c1 nz
        go_wp2_with fail
        refine (AW.out _).mono ?_
        rintro e w9 ⟨rfl, hb9⟩
        have B9 := Lib.hid ((B3.out.trans (HB.out.mono B3.out.size)).trans (hb9.mono (B3.out.trans (HB.out.mono B3.out.size)).size))
        clear hb9
        go_wp2_with fail
        go_ret
        exact ⟨rfl, B9.out⟩
  · obtain ⟨na, rfl⟩ : ∃ n : Nat, a = n := ⟨a.toNat, by omega⟩
    obtain rfl : K = 0 := by omega
    have at_ : At first4 0 na := by
      rcases (by omega : na = 0 ∨ na = 1) with rfl | rfl
      · exact L1.out.good.at0 (by omega)
      · exact L1.out.good.at1 (by omega)
    have T := Lib.hid (does_zero L1.out.ost L1.out.room at_ b b)
    have A1 : Hid (na ≤ 1) := by show na ≤ 1; omega
    clear at_
    go_wp2_with fail
    refine T.out.mono ?_
    intro e w2 hout
    obtain ⟨n, m2, h2', cs2, mb2, rfl, l2, ex, -, sN, aN, sN2⟩ := L1.out.ask (by omega) hout
    have hn := const_node l2.good aN (x := !decide (na = 1)) fun val => by rw [sN2, qsem_op, says_const A1.out]; rfl
    have hn0 : ¬ (n : Int) < 0 := by omega
    have hn1 : ¬ (1 : Int) < (n : Int) := by omega
    have B2 := Lib.hid l2.below
    clear hout l2 ex sN aN sN2 hn T L1
    have N1 := Lib.hid (newops_nob (w := w2) (.inl rfl))
    have b0 := (Below.refl w2.heap.size w2).alloc (Nat.le_refl _) (.cells #[.pointer none, .int .i64 0, .int .i64 0, .slice none 0 0, .pointer none, .int .i64 0, .int .i64 0, .int .i64 0, .int .i64 0] 53)
    have h0 := cell_of_row _ _ 0 _ _ _ (heap_alloc_new w2 (.cells #[.pointer none, .int .i64 0, .int .i64 0, .slice none 0 0, .pointer none, .int .i64 0, .int .i64 0, .int .i64 0, .int .i64 0] 53))
    have N2 := Lib.hid (newops_nob (w := w2.alloc (.cells #[.pointer none, .int .i64 0, .int .i64 0, .slice none 0 0, .pointer none, .int .i64 0, .int .i64 0, .int .i64 0, .int .i64 0] 53)) (.inr ⟨w2.heap.size, rfl, h0⟩))
    have z1 : (w2.alloc (.cells #[.pointer none, .int .i64 0, .int .i64 0, .slice none 0 0, .pointer none, .int .i64 0, .int .i64 0, .int .i64 0, .int .i64 0] 53)).heap.size = w2.heap.size + 1 := by simp
    have z2 : ((w2.alloc (.cells #[.pointer none, .int .i64 0, .int .i64 0, .slice none 0 0, .pointer none, .int .i64 0, .int .i64 0, .int .i64 0, .int .i64 0] 53)).alloc (.cells #[.pointer none, .pointer none, .int .u32 0, .int .i32 0, .int .u32 0, .map none, .int .i64 0] 66)).heap.size = w2.heap.size + 1 + 1 := by simp
    have b3 := (b0.alloc (by rw [z1]; omega) (.cells #[.pointer none, .pointer none, .int .u32 0, .int .i32 0, .int .u32 0, .map none, .int .i64 0] 66)).alloc (by rw [z2]; omega) (.cells #[.pointer none, .pointer (some ⟨w2.heap.size + 1, 0, none⟩)] 24)
    have g1 := heap_alloc_new (w2.alloc (.cells #[.pointer none, .int .i64 0, .int .i64 0, .slice none 0 0, .pointer none, .int .i64 0, .int .i64 0, .int .i64 0, .int .i64 0] 53)) (.cells #[.pointer none, .pointer none, .int .u32 0, .int .i32 0, .int .u32 0, .map none, .int .i64 0] 66)
    rw [z1] at g1
    have g2 := (Below.heap_alloc ((w2.alloc (.cells #[.pointer none, .int .i64 0, .int .i64 0, .slice none 0 0, .pointer none, .int .i64 0, .int .i64 0, .int .i64 0, .int .i64 0] 53)).alloc (.cells #[.pointer none, .pointer none, .int .u32 0, .int .i32 0, .int .u32 0, .map none, .int .i64 0] 66)) (.cells #[.pointer none, .pointer (some ⟨w2.heap.size + 1, 0, none⟩)] 24) (w2.heap.size + 1) (by rw [z2]; omega)).trans g1
    have g3 := heap_alloc_new ((w2.alloc (.cells #[.pointer none, .int .i64 0, .int .i64 0, .slice none 0 0, .pointer none, .int .i64 0, .int .i64 0, .int .i64 0, .int .i64 0] 53)).alloc (.cells #[.pointer none, .pointer none, .int .u32 0, .int .i32 0, .int .u32 0, .map none, .int .i64 0] 66)) (.cells #[.pointer none, .pointer (some ⟨w2.heap.size + 1, 0, none⟩)] 24)
    rw [z2] at g3
    have G2 := Lib.hid g2
    have G3 := Lib.hid g3
    have B3 := Lib.hid (B2.out.trans (b3.mono B2.out.size))
    have AW := Lib.hid awake4
    clear b0 h0 z1 z2 b3 g1 g2 g3 B2
    go_wp2_with fail
    refine N1.out.mono ?_
    rintro e w' ⟨rfl, rfl⟩
    go_wp2_with fail
    refine N2.out.mono ?_
    rintro e w' ⟨rfl, rfl⟩
    go_wp2_with fail
    clear N1 N2
    revert G2 G3 B3
    generalize (((w2.alloc (.cells #[.pointer none, .int .i64 0, .int .i64 0, .slice none 0 0, .pointer none, .int .i64 0, .int .i64 0, .int .i64 0, .int .i64 0] 53)).alloc (.cells #[.pointer none, .pointer none, .int .u32 0, .int .i32 0, .int .u32 0, .map none, .int .i64 0] 66)).alloc (.cells #[.pointer none, .pointer (some ⟨w2.heap.size + 1, 0, none⟩)] 24)) = w3
    generalize w2.heap.size + 1 + 1 = gl
    generalize w2.heap.size + 1 = gz
    intro G2 G3 B3
    go_loopw [19] (fun ix wr => ∃ i : Nat, i ≤ 2 ∧ ix = .int .i64 i ∧ Below w3.heap.size w3 wr) (fun ix _ => 2 - (intOf ix).toNat)
    case atStart => exact ⟨0, by omega, rfl, Below.refl _ _⟩
    case round =>
      obtain ⟨i, hi, rfl, hb⟩ := hrel
      have r3 := (hb.block _ (row_lt G3.out)).trans G3.out
      have c0 := cell_of_row _ _ 0 _ _ _ r3
      have c1 := cell_of_row _ _ 1 _ _ _ r3
      simp at c0 c1
      have nz : NBs wr (.pointer (some ⟨gz, 0, none⟩)) := .inr ⟨gz, rfl, cell_of_row _ _ 0 _ _ _ ((hb.block _ (row_lt G2.out)).trans G2.out)⟩
      have HB := Lib.hid hb
      clear hb r3
      rcases (by omega : i = 0 ∨ i = 1 ∨ i = 2) with rfl | rfl | rfl
      · have DN := Lib.hid (does_nob (.inl rfl : NBs wr (.pointer none)) (K := 0) (by omega) na b b)
        have ST := Lib.hid (fun (u : World) (hu : Below wr.heap.size wr u) => store_nob (NBs.keep (.inl rfl : NBs wr (.pointer none)) hu))
        have KC := Lib.hid (fun (u : World) (hu : Below wr.heap.size wr u) => hu.cell (p := ⟨gl, 0, none⟩) (World.block_lt_of_cell? wr ⟨gl, 0, none⟩ c0))
        have C1 := Lib.hid c0
        clear nz
        go_wp2_with fail
        refine DN.out.mono ?_
        rintro e w5 ⟨rfl, hb5⟩
        have d0 := (KC.out _ hb5).trans C1.out
        have S5 := Lib.hid (ST.out _ hb5)
        have B5 := Lib.hid (HB.out.trans (hb5.mono HB.out.size))
        clear hb5 c0 c1 DN ST KC C1
        go_wp2_with fail
        refine S5.out.mono ?_
        rintro e w' ⟨rfl, rfl⟩
        clear S5
        go_wp2_with fail
        go_roundw
        case rel => exact ⟨1, by omega, rfl, B5.out⟩
        case measure => simp [intOf]
      · have DN := Lib.hid (does_nob nz (K := 0) (by omega) na b b)
        have ST := Lib.hid (fun (u : World) (hu : Below wr.heap.size wr u) => store_nob (NBs.keep nz hu))
        have KC := Lib.hid (fun (u : World) (hu : Below wr.heap.size wr u) => hu.cell (p := ⟨gl, 1, none⟩) (World.block_lt_of_cell? wr ⟨gl, 1, none⟩ c1))
        have C1 := Lib.hid c1
        clear nz
        go_wp2_with fail
        refine DN.out.mono ?_
        rintro e w5 ⟨rfl, hb5⟩
        have d1 := (KC.out _ hb5).trans C1.out
        have S5 := Lib.hid (ST.out _ hb5)
        have B5 := Lib.hid (HB.out.trans (hb5.mono HB.out.size))
        clear hb5 c0 c1 DN ST KC C1
        go_wp2_with fail
        refine S5.out.mono ?_
        rintro e w' ⟨rfl, rfl⟩
        clear S5
        go_wp2_with fail
        go_roundw
        case rel => exact ⟨2, by omega, rfl, B5.out⟩
        case measure => simp [intOf]
      · clear c0 c1 nz
        go_wp2_with fail
        refine (AW.out _).mono ?_
        rintro e w9 ⟨rfl, hb9⟩
        have B9 := Lib.hid ((B3.out.trans (HB.out.mono B3.out.size)).trans (hb9.mono (B3.out.trans (HB.out.mono B3.out.size)).size))
        clear hb9
        go_wp2_with fail
        go_ret
        exact ⟨rfl, B9.out⟩

theorem operNobody_walk (a b kd : Int) (w : World) (_ha : (Lit.int .i64 a).wf = true) (_hb : (Lit.int .i64 b).wf = true) (_hk : (Lit.int .i64 kd).wf = true) :
    Calls Try.prog 7 #[.int .i64 a, .int .i64 b, .int .i64 kd] w fun e w' => e = .returned (.bool true) ∧ Below w.heap.size w w' := nobody_core a b kd w

namespace operNobody
set_option linter.unusedVariables false
theorem own : ownKnob Try.prog.godebug = none := by kernel_rfl
theorem laidOut : laidOutB Try.prog = true := by kernel_rfl
set_option maxRecDepth 100000 in
theorem lifted (os : Os) (started : os.Started) (H : Type) (enc : TypeId × Value → H) :
    ReturnsInHanded {} Try.checked os 7 .any (Rows.operNobodySpec.pre6 enc Try.prog Try.f7 Rows.operNobodyRow.domain false) (Rows.operNobodySpec.post enc Try.prog Try.f7 false true false false) := by
  refine returnsInHanded_of_change (C := Try.checked) own started (by kernel_rfl) Try.func7
    (ChangeSpec.witness6 (enc := enc) (C := Try.checked) false ⟨#[], #[.int .i64 0, .int .i64 0, .int .i64 0], []⟩ 8 (by kernel_rfl) (by kernel_rfl) (by kernel_rfl) (by kernel_rfl)) ?_
  intro W base args ds gs before hval0 hW hcnd hsz
  have hval : ∀ (j : Nat) t v, Try.f7.params[j]? = some t → args[j]? = some v → Value.okWide Try.prog W .any base t v := hval0
  have hW' := hW
  obtain ⟨p, q, hA0, hV, rfl, hfz, hnd⟩ := hW
  have hA : DataW.TrodAll enc Try.prog W 0 (fun _ => true) true Try.f7.params.toList args.toList ds p := hA0
  rw [Try.params7] at hA hval
  obtain ⟨v0, vs0, d0, ds0, p0, q0, hargs, rfl, rfl, h0, r0⟩ := trodAll_cons hA
  obtain ⟨v1, vs1, d1, ds1, p1, q1, rfl, rfl, rfl, h1, r1⟩ := trodAll_cons r0
  obtain ⟨v2, vs2, d2, ds2, p2, q2, rfl, rfl, rfl, h2, r2⟩ := trodAll_cons r1
  obtain ⟨rfl, rfl, rfl⟩ := trodAll_nil r2
  obtain rfl : args = #[v0, v1, v2] := by cases args; simp_all
  obtain ⟨rfl, rfl⟩ := trodVars_none hV
  obtain ⟨a0, rfl, rfl, rfl, w0⟩ := open_int Try.underlying3 (hval 0 3 v0 rfl rfl) h0
  obtain ⟨a1, rfl, rfl, rfl, w1⟩ := open_int Try.underlying3 (hval 1 3 v1 rfl rfl) h1
  obtain ⟨a2, rfl, rfl, rfl, w2⟩ := open_int Try.underlying3 (hval 2 3 v2 rfl rfl) h2
  clear hA0 hval0
  refine (operNobody_walk a0 a1 a2 W w0 w1 w2).mono fun e W' ⟨he, bel⟩ => ?_
  subst he
  exact ⟨_, rfl, _, _, _, [], _, [], hW', trodAll_mk1 (shut_bool Try.underlying4 _), (trodAll_cons_mk (shut_int Try.underlying3 w0) (trodAll_cons_mk (shut_int Try.underlying3 w1) (trodAll_cons_mk (shut_int Try.underlying3 w2) trodAll_mk0))), rfl, bel.frame _, fun h => by cases h⟩
theorem over : Rows.operNobodyRow.holds Try.pinned (OpenSpec.ofChange Rows.operNobodySpec) :=
  OpenClaim.holds_of_wide 7 Try.f7 rfl rfl rfl rfl rfl rfl rfl ⟨rfl, rfl, rfl, rfl, rfl⟩ rfl rfl rfl rfl rfl (by kernel_rfl) Try.func7 (by kernel_rfl)
    (of_decide_eq_true (by kernel_rfl)) (by unfold Func.isWrapper; first | (rw [if_pos (by decide +kernel)]; kernel_rfl) | (rw [if_neg (by decide +kernel)]; exact ⟨rfl, rfl⟩))
    (fun os started H enc _ => lifted os started H enc)
/-- THE STATEMENT. -/
theorem proved : Rows.OperNobodySaid := over
end operNobody
#print axioms operNobody.proved
end Go.Proofs.Ytfdebadmikmnaaa
