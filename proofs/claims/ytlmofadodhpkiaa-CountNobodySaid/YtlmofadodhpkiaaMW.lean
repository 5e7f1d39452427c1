/- Merged: CNob. -/
import Derived.Test.YtlmofadodhpkiaaMU
import Derived.Test.YtlmofadodhpkiaaMV

/- Layer 6's laws: what may not be is refused: a store that nobody made; lists as the law looks at them. -/
namespace Go.Proofs.Ytlmofadodhpkiaa
open Go.ChangeShapes Go.WideShapes Go.ChangeAt Go.RowKit Go.Maps

theorem NBs.keep' {w w' : World} {pv : Value} (h : NBs w pv) (hb : Below w.heap.size w w') : NBs w' pv := by
  rcases h with rfl | ⟨t, rfl, h0⟩
  · exact .inl rfl
  · exact .inr ⟨t, rfl, (hb.cell (World.block_lt_of_cell? w _ h0)).trans h0⟩

set_option maxRecDepth 100000 in
set_option maxHeartbeats 4000000 in
/-- Sat of what is no store. -/
theorem sat_nob {w : World} {p : Option Addr} (hn : NBs w (.pointer p)) (k : Int) {A : Option Addr} {L : List Int} {cap : Nat} (hr : Rd w A (intsC L)) (hl : L.length ≤ 1000) :
    Calls Try.prog 18 #[.pointer p, .int .i64 k, .slice A L.length cap] w fun e w' => e = .returned (.tuple #[.int .i64 0, .int .i64 1]) ∧ Below w.heap.size w w' := by
  have VC : ∀ w', Below w.heap.size w w' → Calls Try.prog 33 #[.pointer p] w' fun e w'' => e = .returned (.int .i64 ((0 : Nat) : Int)) ∧ w' = w'' := fun w' hb => vars_nbs (hn.keep' hb)
  by_cases hL : ∃ ys, Lists 0 L ys
  · obtain ⟨ys, hy⟩ := hL
    have b0 : Below w.heap.size w (w.alloc (.cells #[.pointer p] 22)) := (Below.refl _ _).alloc (Nat.le_refl _) _
    have PL := Lib.hid (places_any (cap := cap) (Nat.zero_le _) (VC _ b0) (hr.keep b0) hl)
    have HY := Lib.hid hy
    have HN := Lib.hid hn
    have B0 := Lib.hid b0
    clear VC hr hl b0 hy hn
    go_enter Try.func18, Try.ntmps18
    go_wp2_with fail
    refine PL.out.mono ?_
    rintro e w1 hout
    obtain ⟨zs, a, hz, rfl, hrow, hb, ha⟩ := hout.resolve_right fun hno => hno.1 ⟨_, HY.out⟩
    have hlt : w.heap.size < w1.heap.size := by have := hb.size; simp at this; omega
    have b1 : Below w.heap.size w w1 := B0.out.trans (hb.mono B0.out.size)
    have b2 : Below w1.heap.size w1 (w1.alloc (.cells #[.slice (some ⟨a, 0, none⟩) (0 + 1) (0 + 1)] 27)) := (Below.refl _ _).alloc (Nat.le_refl _) _
    have ct : (w1.alloc (.cells #[.slice (some ⟨a, 0, none⟩) (0 + 1) (0 + 1)] 27)).cell? ⟨w.heap.size, 0, none⟩ = some (.pointer p) := by
      rw [b2.cell (by show w.heap.size < _; omega), hb.cell (by show w.heap.size < _; simp)]
      exact cell_of_row _ _ 0 _ _ _ (heap_alloc_new w _)
    have BB := Lib.hid (b1.trans (b2.mono b1.size))
    have AN := Lib.hid (asks_nbs (w := w1.alloc (.cells #[.slice (some ⟨a, 0, none⟩) (0 + 1) (0 + 1)] 27)) (p := p) (fun w' hb' => HN.out.keep' (BB.out.trans (hb'.mono BB.out.size))) k)
    clear hz hrow hb ha PL b1 b2
    go_wp2_with fail
    refine AN.out.mono ?_
    rintro e w2 ⟨rfl, hb2⟩
    have B2 := Lib.hid (BB.out.trans (hb2.mono BB.out.size))
    clear hb2 AN
    go_wp2_with fail
    go_ret2
    exact ⟨rfl, B2.out⟩
  · exact sat_bad (Nat.zero_le _) VC k hr hl hL

set_option maxRecDepth 100000 in
set_option maxHeartbeats 4000000 in
/-- Each of what is no store. -/
theorem each_nob {w : World} {p : Option Addr} (hn : NBs w (.pointer p)) (k most : Int) {A : Option Addr} {L : List Int} {cap : Nat} (hr : Rd w A (intsC L)) (hl : L.length ≤ 1000) :
    Calls Try.prog 20 #[.pointer p, .int .i64 k, .slice A L.length cap, .int .i64 most] w fun e w' => e = .returned (.tuple #[.slice none 0 0, .int .i64 1]) ∧ Below w.heap.size w w' := by
  have MB := Lib.hid (maybe_any most w)
  have ST := Lib.hid (sat_nob (cap := cap) hn k hr hl)
  clear hn hr
  by_cases hM : 0 ≤ most ∧ most ≤ 16384
  · have MBT : Hid (decide (0 ≤ most ∧ most ≤ 16384) = true) := decide_eq_true hM
    by_cases h62 : L.length ≤ 62
    · have h62' : (L.length : Int) ≤ 62 := by omega
      clear hM
      go_enter Try.func20, Try.ntmps20
      go_wp2_with fail
      refine MB.out.mono ?_
      rintro e w' ⟨rfl, rfl⟩
      rw [MBT.out]
      clear MB MBT
      go_wp2_with fail
      refine ST.out.mono ?_
      rintro e w' ⟨rfl, hb⟩
      clear ST
      go_wp2_with fail
      go_ret2
      exact ⟨rfl, hb⟩
    · have h62' : (62 : Int) < L.length := by omega
      clear hM ST
      go_enter Try.func20, Try.ntmps20
      go_wp2_with fail
      refine MB.out.mono ?_
      rintro e w' ⟨rfl, rfl⟩
      rw [MBT.out]
      clear MB MBT
      go_wp2_with fail
      go_ret2
      exact ⟨rfl, Below.refl _ _⟩
  · have MBT : Hid (decide (0 ≤ most ∧ most ≤ 16384) = false) := decide_eq_false hM
    clear hM ST
    go_enter Try.func20, Try.ntmps20
    go_wp2_with fail
    refine MB.out.mono ?_
    rintro e w' ⟨rfl, rfl⟩
    rw [MBT.out]
    clear MB MBT
    go_wp2_with fail
    go_ret2
    exact ⟨rfl, Below.refl _ _⟩

theorem cubes_nob {w : World} {p : Option Addr} {k most : Int} (hn : ∀ w', Below w.heap.size w w' → NBs w' (.pointer p)) :
    Calls Try.prog 22 #[.pointer p, .int .i64 k, .int .i64 most] w fun e w' => e = .returned (.tuple #[.slice none 0 0, .int .i64 1]) ∧ Below w.heap.size w w' := by
  by_cases hM : 0 ≤ most ∧ most ≤ 16384
  · exact cubes_ref hM (by omega) (fun w' hb => cref_nbs (hn w' hb) k)
  · exact cubes_most hM

/-- Is a list one of variables, as the law looks: each element, and each pair. -/
def okIn (x : Nat → Int) (b : Bool) (i : Nat) : Nat → Bool
  | 0 => b && (decide (0 ≤ x i) && decide (x i ≤ 3))
  | j + 1 => okIn x b i j && !decide (x i = x j)
def okUp (x : Nat → Int) : Nat → Bool
  | 0 => true
  | i + 1 => okIn x (okUp x i) i i

theorem okIn_iff {x : Nat → Int} {b : Bool} {i : Nat} : ∀ j, okIn x b i j = true ↔ b = true ∧ (0 ≤ x i ∧ x i ≤ 3) ∧ ∀ u, u < j → x i ≠ x u
  | 0 => by simp [okIn]
  | j + 1 => by
    unfold okIn
    rw [Bool.and_eq_true, okIn_iff j]
    simp only [Bool.not_eq_true', decide_eq_false_iff_not]
    constructor
    · rintro ⟨⟨h1, h2, h3⟩, h4⟩
      refine ⟨h1, h2, fun u hu => ?_⟩
      rcases (by omega : u < j ∨ u = j) with h | rfl
      · exact h3 u h
      · exact h4
    · rintro ⟨h1, h2, h3⟩
      exact ⟨⟨h1, h2, fun u hu => h3 u (by omega)⟩, h3 j (by omega)⟩
theorem okUp_iff {x : Nat → Int} : ∀ n, okUp x n = true ↔ ∀ i, i < n → (0 ≤ x i ∧ x i ≤ 3) ∧ ∀ u, u < i → x i ≠ x u
  | 0 => by simp [okUp]
  | n + 1 => by
    unfold okUp
    rw [okIn_iff, okUp_iff n]
    constructor
    · rintro ⟨h1, h2, h3⟩ i hi
      rcases (by omega : i < n ∨ i = n) with h | rfl
      · exact h1 i h
      · exact ⟨h2, h3⟩
    · intro h
      exact ⟨fun i hi => h i (by omega), h n (by omega)⟩

theorem okUp_lists {L : List Int} : okUp (fun i => L.getD i 0) L.length = true ↔ ∃ ys, Lists 4 L ys := by
  rw [okUp_iff]
  have get : ∀ i (h : i < L.length), L.getD i 0 = L[i] := fun i h => by rw [List.getD_eq_getElem?_getD, List.getElem?_eq_getElem h]; rfl
  constructor
  · intro h
    have e : L = castL (L.map Int.toNat) := by
      unfold castL
      rw [List.map_map]
      refine List.ext_getElem (by simp) fun i h1 h2 => ?_
      have := (h i h1).1
      rw [get i h1] at this
      simp
      omega
    refine ⟨L.map Int.toNat, e, ?_, fun x hx => ?_⟩
    · rw [List.nodup_iff_pairwise_ne, List.pairwise_map, List.pairwise_iff_getElem]
      intro i j hi hj hij he
      have h1 := (h j hj).2 i hij
      have h2 := (h j hj).1
      have h3 := (h i hi).1
      rw [get j hj] at h1 h2
      rw [get i hi] at h1 h3
      omega
    · obtain ⟨z, hz, rfl⟩ := List.mem_map.1 hx
      obtain ⟨i, hi, rfl⟩ := List.mem_iff_getElem.1 hz
      have := (h i hi).1
      rw [get i hi] at this
      omega
  · rintro ⟨ys, hy⟩ i hi
    have hl : ys.length = L.length := by rw [hy.eq, castL_len]
    have gy : ∀ j (h : j < L.length), L.getD j 0 = (ys[j]'(by omega) : Nat) := fun j h => by
      rw [get j h]
      have h1 : L[j]? = (castL ys)[j]? := by rw [← hy.eq]
      rw [List.getElem?_eq_getElem h] at h1
      unfold castL at h1
      rw [List.getElem?_map, List.getElem?_eq_getElem (by omega)] at h1
      injection h1
    refine ⟨?_, fun u hu he => ?_⟩
    · have := hy.lt (ys[i]'(by omega)) (List.getElem_mem _)
      rw [gy i hi]
      omega
    · rw [gy i hi, gy u (by omega)] at he
      have h1 : ys[i]'(by omega) = ys[u]'(by omega) := by omega
      have h2 : ys[i]? = ys[u]? := by rw [List.getElem?_eq_getElem (by omega), List.getElem?_eq_getElem (by omega), h1]
      have := (List.getElem?_inj (by omega) hy.nodup).1 h2
      omega
end Go.Proofs.Ytlmofadodhpkiaa
