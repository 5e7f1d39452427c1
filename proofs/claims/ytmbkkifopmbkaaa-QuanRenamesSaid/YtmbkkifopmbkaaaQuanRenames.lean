/- For any sixteen answers, and of each of four variables which one takes its place: Rename gives the node of the answers so turned: the law returns true. No condition. -/
import Derived.Test.YtmbkkifopmbkaaaMP
import Derived.Maps.AppendAt
namespace Go.Proofs.Ytmbkkifopmbkaaa
open Go.ChangeShapes Go.WideShapes Go.ChangeAt Go.RowKit Go.Maps

theorem bitZ_same {x : Int} {a n : Nat} (h : x % 65536 = (a : Int)) (hn : n < 16) : bitZ x n = bitZ (a : Int) n := by
  have h2 := same_bits (a := x) (b := (a : Int)) (by omega)
  have h3 := congrArg (fun l : List Bool => l[n]?) h2
  simp only [bitsL, List.getElem?_map, List.getElem?_range hn] at h3
  injection h3

theorem or_pow {n v : Nat} (hn : n < 16) (hv : v < 4) : bits BinOp.or IntKind.i64 (n : Int) (wrap64 (2 ^ v)) = ((n ||| 2 ^ v : Nat) : Int) := by
  have h1 : 2 ^ v < 16 := Nat.pow_lt_pow_right (by omega) (m := v) (n := 4) hv
  rw [wrap_pow (by omega), show ((2 : Int) ^ v) = ((2 ^ v : Nat) : Int) by simp]
  exact b_or (by omega) (by omega)

theorem andN_pow {n v : Nat} (hn : n < 16) (hv : v < 4) : bits BinOp.andNot IntKind.i64 (n : Int) (wrap64 (2 ^ v)) = ((andN n (2 ^ v) : Nat) : Int) := by
  rw [wrap_pow (by omega), show ((2 : Int) ^ v) = ((2 ^ v : Nat) : Int) by simp]
  exact b_andN (by omega)

theorem bit_x {x : Int} {a M : Nat} (h : x % 65536 = (a : Int)) (hM : M < 16) : bits BinOp.and IntKind.i64 (x / 2 ^ M) 1 = if a.testBit M then 1 else 0 := by
  rw [and_one, ← bitZ_nat, ← bitZ_same h hM]
  unfold bitZ
  have := Int.emod_two_eq (x / 2 ^ M)
  rcases this with h | h <;> rw [h] <;> rfl

/-- The value's number after j of the list. -/
def mA (n : Nat) (fl : List Nat) (t : Nat → Nat) (j : Nat) : Nat := mN n ((fl.take j).map fun f => (f, t f)) n
theorem mA_lt {n : Nat} {fl : List Nat} {t : Nat → Nat} (j : Nat) (hn : n < 16) (hf : ∀ f ∈ fl, f < 4) : mA n fl t j < 16 := by
  refine mN_lt _ _ hn fun p hp => ?_
  rw [List.mem_map] at hp
  obtain ⟨f, hf2, rfl⟩ := hp
  exact hf f (List.mem_of_mem_take hf2)
theorem mA_succ {n : Nat} {fl : List Nat} {t : Nat → Nat} {j f : Nat} (h : fl[j]? = some f) : mA n fl t (j + 1) = if n.testBit (t f) then andN (mA n fl t j) (2 ^ f) ||| 2 ^ f else andN (mA n fl t j) (2 ^ f) := by
  unfold mA
  rw [List.take_add_one, h, List.map_append]
  exact mN_append _ _
theorem renN_eq {a : Nat} {fl : List Nat} {g : Nat → Bool} {t : Nat → Nat} (h : fl = frN g 4) : natOf (fun n => a.testBit (mA n fl t fl.length)) 16 = renN a g t := by
  subst h
  unfold renN mA
  simp only [List.take_length]

theorem IRow.rd2 {w : World} {B : Nat} {v : Value} {l : List Nat} (h : IRow w B v l) : ∃ A c, v = .slice A l.length c ∧ Rd w A (ints (vInts l)) ∧ ∀ b off, A = some ⟨b, off, none⟩ → B ≤ b := by
  obtain ⟨A, c, rfl, hr⟩ := h.rd
  refine ⟨A, c, rfl, hr, fun b off e => ?_⟩
  subst e
  rcases h.2 with ⟨h1, _⟩ | ⟨g, cap, cur, h1, hg, _⟩
  · cases h1
  · injection h1 with h1
    injection h1 with h1
    injection h1 with h1
    omega

theorem RdF.rd_fr {o q : Nat} {a a' : OS} {w w' : World} {A : Option Addr} {l : List Nat} (r : RdF o q a w A l) (f : Fr o q a a' w w') : Rd w' A (ints (vInts l)) := by
  by_cases h : l = []
  · subst h; exact .inl rfl
  · exact (r.fr f h).rd

/-- Two rows that grow beside one another. -/
structure Rows2 (w0 : World) (v u : Value) (l k : List Nat) (w : World) : Prop where
  a : IRow w w0.heap.size v l
  b : IRow w w0.heap.size u k
  dis : ∀ g, v.ownBlock = some g → u.ownBlock ≠ some g
  below : Below w0.heap.size w0 w

theorem IRow.lt {w : World} {B : Nat} {v : Value} {l : List Nat} (h : IRow w B v l) : ∀ g, v.ownBlock = some g → B ≤ g ∧ g < w.heap.size := World.ownsRow.lt h

theorem IRow.grown {w w' : World} {B : Nat} {v : Value} {l : List Nat} (h : IRow w B v l) {row : Option Nat} (hg : w.grownBy w' row) (hn : ∀ g, v.ownBlock = some g → row ≠ some g) : IRow w' B v l := by
  refine ⟨h.1, ?_⟩
  rcases h.2 with hx | ⟨g, cap, cur, rfl, hb, hr, hc⟩
  · exact .inl hx
  · exact .inr ⟨g, cap, cur, rfl, hb, (hg.block g (row_lt hr) (fun e => hn g rfl e.symm)).trans hr, hc⟩

theorem Rows2.one {w0 : World} {v u v' : Value} {l k : List Nat} {w w' : World} {o : Obj} {x : Nat} (h : Rows2 w0 v u l k w) (hown : IRow w' w0.heap.size v' (l ++ [x])) (hg : (w.alloc o).grownBy w' v.ownBlock) (hat : v'.ownBlock = v.ownBlock ∨ v'.ownBlock = some (w.heap.size + 1)) : Rows2 w0 v' u (l ++ [x]) k w' := by
  have hb := (Below.refl w.heap.size w).alloc (Nat.le_refl _) o
  have hsz := h.below.size
  refine ⟨hown, (h.b.keep hb).grown hg (fun g e e2 => h.dis g e2 e), fun g e e2 => ?_, ?_⟩
  · rcases hat with e3 | e3
    · exact h.dis g (e3.symm.trans e) e2
    · rw [e] at e3
      injection e3 with e3
      have := (h.b.lt g e2).2
      have hz : (w.alloc o).heap.size = w.heap.size + 1 := by simp
      omega
  · exact (h.below.alloc hsz _).grown hg (by simp; omega) (fun g e => (h.a.lt g e).1)
theorem Rows2.two {w0 : World} {v u u' : Value} {l k : List Nat} {w w' : World} {o : Obj} {x : Nat} (h : Rows2 w0 v u l k w) (hown : IRow w' w0.heap.size u' (k ++ [x])) (hg : (w.alloc o).grownBy w' u.ownBlock) (hat : u'.ownBlock = u.ownBlock ∨ u'.ownBlock = some (w.heap.size + 1)) : Rows2 w0 v u' l (k ++ [x]) w' := by
  have hb := (Below.refl w.heap.size w).alloc (Nat.le_refl _) o
  have hsz := h.below.size
  refine ⟨(h.a.keep hb).grown hg (fun g e e2 => h.dis g e e2), hown, fun g e e2 => ?_, ?_⟩
  · rcases hat with e3 | e3
    · exact h.dis g e (e3.symm.trans e2)
    · rw [e2] at e3
      injection e3 with e3
      have := (h.a.lt g e).2
      have hz : (w.alloc o).heap.size = w.heap.size + 1 := by simp
      omega
  · exact (h.below.alloc hsz _).grown hg (by simp; omega) (fun g e => (h.b.lt g e).1)

set_option maxHeartbeats 8000000 in
set_option maxRecDepth 100000 in
theorem qrenames_core (x y : Int) (w : World) : Calls Try.prog 6 #[.int .i64 x, .int .i64 y] w fun e w' => e = .returned (.bool true) ∧ Below w.heap.size w w' := by
  obtain ⟨i0, hi, hz0, hz1, hz2⟩ := info_parts info_intQ
  obtain ⟨a, ha, ea⟩ := low16 x
  have XA := Lib.hid ((and_mask16 x).symm.trans ea)
  obtain ⟨g, hg⟩ : ∃ g : Nat → Bool, g = fun i => bitZ y (8 + i) := ⟨_, rfl⟩
  obtain ⟨t, htd⟩ : ∃ t : Nat → Nat, t = fun j => (y / 2 ^ (2 * j) % 4).toNat := ⟨_, rfl⟩
  have EG : Hid (∀ i, bits BinOp.and IntKind.i64 (y / 2 ^ (8 + i)) 1 = if g i then 1 else 0) := by
    show ∀ i, _
    intro i
    rw [and_one, hg]
    show _ = if bitZ y (8 + i) = true then (1 : Int) else 0
    unfold bitZ
    rcases Int.emod_two_eq (y / 2 ^ (8 + i)) with h | h <;> rw [h] <;> rfl
  have HT : Hid (∀ j, t j < 4) := by
    show ∀ j, _
    intro j
    rw [htd]
    show (y / 2 ^ (2 * j) % 4).toNat < 4
    generalize y / 2 ^ (2 * j) = z
    omega
  have ET : Hid (∀ j, bits BinOp.and IntKind.i64 (y / 2 ^ (2 * j)) 3 = (t j : Int) ∧ t j < 4) := by
    show ∀ j, _
    intro j
    rw [and_mask2, htd]
    show _ = (((y / 2 ^ (2 * j) % 4).toNat : Nat) : Int) ∧ (y / 2 ^ (2 * j) % 4).toNat < 4
    generalize y / 2 ^ (2 * j) = z
    exact ⟨by omega, by omega⟩
  clear ha hg htd
  have BG := begun5 2000 (by omega) (by omega) w
  change Calls _ _ #[.int .i64 2000] _ _ at BG
  have BG := Lib.hid BG
  go_enter Try.func6, Try.ntmps6
  go_wp2_with fail
  refine BG.out.mono ?_
  rintro e w1 ⟨m1, o, q, rfl, s1⟩
  have T := Lib.hid (make_any s1.l.ost.st s1.l.V (a : Int))
  have S1 := Lib.hid s1
  unfold ptrV at *
  clear s1 BG
  go_wp2_with fail
  refine T.out.mono ?_
  intro e w2 hout
  obtain ⟨nx, a2, rfl, s2, x2, p2, ax, sx⟩ := S1.out.make (by omega) hout
  have S2 := Lib.hid s2
  have AX := Lib.hid ax
  have SX := Lib.hid sx
  have P2 := Lib.hid p2
  clear hout s2 x2 p2 ax sx T S1
  go_wp2_with fail
  go_loopw [10, 11, 12] (fun v u iv wr => ∃ i : Nat, i ≤ 4 ∧ iv = .int .i64 i ∧ Rows2 w2 v u (frN g i) (byN g t i) wr) (fun _ _ iv _ => 4 - (intOf iv).toNat)
  case atStart => exact ⟨0, by omega, rfl, IRow.nil _ _, IRow.nil _ _, fun g e => (by cases e), Below.refl _ _⟩
  case round =>
    obtain ⟨i, hi4, rfl, hr2⟩ := hrel
    have R2 := Lib.hid hr2
    clear hr2
    have FL := frN_len g i
    have BL := byN_len g t i
    have FL := frN_len g i
    have BL := byN_len g t i
    have FL := frN_len g i
    have BL := byN_len g t i
    have FL := frN_len g i
    have BL := byN_len g t i
    have FL := frN_len g i
    have BL := byN_len g t i
    have FL := frN_len g i
    have BL := byN_len g t i
    have FL := frN_len g i
    have BL := byN_len g t i
    rcases (by omega : i = 0 ∨ i = 1 ∨ i = 2 ∨ i = 3 ∨ i = 4) with rfl | rfl | rfl | rfl | rfl
    · have e2 := (ET.out 0).1
      simp at e2
      have e1 := EG.out 0
      simp at e1
      have FS := Lib.hid (frN_succ g 0)
      have BS := Lib.hid (byN_succ g t 0)
      cases hb : g 0 with
      | true =>
        rw [hb, if_pos rfl] at e1
        rw [hb, if_pos rfl] at FS BS
        have hsz := R2.out.below.size
        clear hb
        go_wp2_with (at_builtin; refine wpList_append_own_at _ rfl _ _ 34 rfl w2.heap.size 3 i0 (.int .i64 0) 1 8 Try.underlying34 hi hz0 hz1 hz2 rfl (by decide) _ _ _ rfl (R2.out.a.alloc _) ⟨wr.heap.size, 0, none⟩ 1 1 [.int .i64 0] rfl rfl ?c1 ?c2 ?c3 ?c4 ?c5 ?_)
        case c1 =>
          intro i u hu
          match i, hu with
          | 0, hu => simp at hu; subst hu; simp [Addr.add]
        case c2 => intro u hu; simp at hu; subst hu; rfl
        case c3 => unfold maxLen; omega
        case c4 => omega
        case c5 => simp; omega
        intro v' w3 hown' hgrow _ hat
        have R3 := Lib.hid (R2.out.one (x := 0) (show IRow w3 w2.heap.size v' (frN g 0 ++ [0]) from by
          show w3.ownsRow _ _ _ v' (frN g 0 ++ [0]).length (((frN g 0 ++ [0]).map fun (x : Nat) => (x : Int)).map (Value.int .i64))
          simpa using hown') hgrow hat)
        rw [← FS.out] at R3
        have hsz := R3.out.below.size
        clear hown' hgrow hat R2
        go_wp2_with (at_builtin; refine wpList_append_own_at _ rfl _ _ 34 rfl w2.heap.size 3 i0 (.int .i64 0) 1 8 Try.underlying34 hi hz0 hz1 hz2 rfl (by decide) _ _ _ rfl (R3.out.b.alloc _) ⟨w3.heap.size, 0, none⟩ 1 1 [.int .i64 (t 0 : Int)] rfl rfl ?c1 ?c2 ?c3 ?c4 ?c5 ?_)
        case c1 =>
          intro i u hu
          match i, hu with
          | 0, hu => simp at hu; subst hu; simp [Addr.add]
        case c2 => intro u hu; simp at hu; subst hu; rfl
        case c3 => unfold maxLen; omega
        case c4 => omega
        case c5 => simp; omega
        intro u' w4 hown' hgrow _ hat
        have R4 : Hid (Rows2 w2 v' u' (frN g 1) (byN g t 1) w4) := by
          show Rows2 _ _ _ _ _ _
          rw [BS.out]
          refine R3.out.two (x := t 0) ?_ hgrow hat
          show w4.ownsRow _ _ _ u' (byN g t 0 ++ [t 0]).length (((byN g t 0 ++ [t 0]).map fun (x : Nat) => (x : Int)).map (Value.int .i64))
          simpa using hown'
        clear hown' hgrow hat R3
        go_wp2_with fail
        go_roundw
        case rel => exact ⟨1, by omega, by first | rfl | go_num, R4.out⟩
        case measure => simp [intOf]
      | false =>
        rw [hb, if_neg (by simp)] at e1
        rw [hb, if_neg (by simp), List.append_nil] at FS BS
        rw [← FS.out, ← BS.out] at R2
        clear hb
        go_wp2_with fail
        go_roundw
        case rel => exact ⟨1, by omega, by first | rfl | go_num, R2.out⟩
        case measure => simp [intOf]
    · have e2 := (ET.out 1).1
      simp at e2
      have e1 := EG.out 1
      simp at e1
      have FS := Lib.hid (frN_succ g 1)
      have BS := Lib.hid (byN_succ g t 1)
      cases hb : g 1 with
      | true =>
        rw [hb, if_pos rfl] at e1
        rw [hb, if_pos rfl] at FS BS
        have hsz := R2.out.below.size
        clear hb
        go_wp2_with (at_builtin; refine wpList_append_own_at _ rfl _ _ 34 rfl w2.heap.size 3 i0 (.int .i64 0) 1 8 Try.underlying34 hi hz0 hz1 hz2 rfl (by decide) _ _ _ rfl (R2.out.a.alloc _) ⟨wr.heap.size, 0, none⟩ 1 1 [.int .i64 1] rfl rfl ?c1 ?c2 ?c3 ?c4 ?c5 ?_)
        case c1 =>
          intro i u hu
          match i, hu with
          | 0, hu => simp at hu; subst hu; simp [Addr.add]
        case c2 => intro u hu; simp at hu; subst hu; rfl
        case c3 => unfold maxLen; omega
        case c4 => omega
        case c5 => simp; omega
        intro v' w3 hown' hgrow _ hat
        have R3 := Lib.hid (R2.out.one (x := 1) (show IRow w3 w2.heap.size v' (frN g 1 ++ [1]) from by
          show w3.ownsRow _ _ _ v' (frN g 1 ++ [1]).length (((frN g 1 ++ [1]).map fun (x : Nat) => (x : Int)).map (Value.int .i64))
          simpa using hown') hgrow hat)
        rw [← FS.out] at R3
        have hsz := R3.out.below.size
        clear hown' hgrow hat R2
        go_wp2_with (at_builtin; refine wpList_append_own_at _ rfl _ _ 34 rfl w2.heap.size 3 i0 (.int .i64 0) 1 8 Try.underlying34 hi hz0 hz1 hz2 rfl (by decide) _ _ _ rfl (R3.out.b.alloc _) ⟨w3.heap.size, 0, none⟩ 1 1 [.int .i64 (t 1 : Int)] rfl rfl ?c1 ?c2 ?c3 ?c4 ?c5 ?_)
        case c1 =>
          intro i u hu
          match i, hu with
          | 0, hu => simp at hu; subst hu; simp [Addr.add]
        case c2 => intro u hu; simp at hu; subst hu; rfl
        case c3 => unfold maxLen; omega
        case c4 => omega
        case c5 => simp; omega
        intro u' w4 hown' hgrow _ hat
        have R4 : Hid (Rows2 w2 v' u' (frN g 2) (byN g t 2) w4) := by
          show Rows2 _ _ _ _ _ _
          rw [BS.out]
          refine R3.out.two (x := t 1) ?_ hgrow hat
          show w4.ownsRow _ _ _ u' (byN g t 1 ++ [t 1]).length (((byN g t 1 ++ [t 1]).map fun (x : Nat) => (x : Int)).map (Value.int .i64))
          simpa using hown'
        clear hown' hgrow hat R3
        go_wp2_with fail
        go_roundw
        case rel => exact ⟨2, by omega, by first | rfl | go_num, R4.out⟩
        case measure => simp [intOf]
      | false =>
        rw [hb, if_neg (by simp)] at e1
        rw [hb, if_neg (by simp), List.append_nil] at FS BS
        rw [← FS.out, ← BS.out] at R2
        clear hb
        go_wp2_with fail
        go_roundw
        case rel => exact ⟨2, by omega, by first | rfl | go_num, R2.out⟩
        case measure => simp [intOf]
    · have e2 := (ET.out 2).1
      simp at e2
      have e1 := EG.out 2
      simp at e1
      have FS := Lib.hid (frN_succ g 2)
      have BS := Lib.hid (byN_succ g t 2)
      cases hb : g 2 with
      | true =>
        rw [hb, if_pos rfl] at e1
        rw [hb, if_pos rfl] at FS BS
        have hsz := R2.out.below.size
        clear hb
        go_wp2_with (at_builtin; refine wpList_append_own_at _ rfl _ _ 34 rfl w2.heap.size 3 i0 (.int .i64 0) 1 8 Try.underlying34 hi hz0 hz1 hz2 rfl (by decide) _ _ _ rfl (R2.out.a.alloc _) ⟨wr.heap.size, 0, none⟩ 1 1 [.int .i64 2] rfl rfl ?c1 ?c2 ?c3 ?c4 ?c5 ?_)
        case c1 =>
          intro i u hu
          match i, hu with
          | 0, hu => simp at hu; subst hu; simp [Addr.add]
        case c2 => intro u hu; simp at hu; subst hu; rfl
        case c3 => unfold maxLen; omega
        case c4 => omega
        case c5 => simp; omega
        intro v' w3 hown' hgrow _ hat
        have R3 := Lib.hid (R2.out.one (x := 2) (show IRow w3 w2.heap.size v' (frN g 2 ++ [2]) from by
          show w3.ownsRow _ _ _ v' (frN g 2 ++ [2]).length (((frN g 2 ++ [2]).map fun (x : Nat) => (x : Int)).map (Value.int .i64))
          simpa using hown') hgrow hat)
        rw [← FS.out] at R3
        have hsz := R3.out.below.size
        clear hown' hgrow hat R2
        go_wp2_with (at_builtin; refine wpList_append_own_at _ rfl _ _ 34 rfl w2.heap.size 3 i0 (.int .i64 0) 1 8 Try.underlying34 hi hz0 hz1 hz2 rfl (by decide) _ _ _ rfl (R3.out.b.alloc _) ⟨w3.heap.size, 0, none⟩ 1 1 [.int .i64 (t 2 : Int)] rfl rfl ?c1 ?c2 ?c3 ?c4 ?c5 ?_)
        case c1 =>
          intro i u hu
          match i, hu with
          | 0, hu => simp at hu; subst hu; simp [Addr.add]
        case c2 => intro u hu; simp at hu; subst hu; rfl
        case c3 => unfold maxLen; omega
        case c4 => omega
        case c5 => simp; omega
        intro u' w4 hown' hgrow _ hat
        have R4 : Hid (Rows2 w2 v' u' (frN g 3) (byN g t 3) w4) := by
          show Rows2 _ _ _ _ _ _
          rw [BS.out]
          refine R3.out.two (x := t 2) ?_ hgrow hat
          show w4.ownsRow _ _ _ u' (byN g t 2 ++ [t 2]).length (((byN g t 2 ++ [t 2]).map fun (x : Nat) => (x : Int)).map (Value.int .i64))
          simpa using hown'
        clear hown' hgrow hat R3
        go_wp2_with fail
        go_roundw
        case rel => exact ⟨3, by omega, by first | rfl | go_num, R4.out⟩
        case measure => simp [intOf]
      | false =>
        rw [hb, if_neg (by simp)] at e1
        rw [hb, if_neg (by simp), List.append_nil] at FS BS
        rw [← FS.out, ← BS.out] at R2
        clear hb
        go_wp2_with fail
        go_roundw
        case rel => exact ⟨3, by omega, by first | rfl | go_num, R2.out⟩
        case measure => simp [intOf]
    · have e2 := (ET.out 3).1
      simp at e2
      have e1 := EG.out 3
      simp at e1
      have FS := Lib.hid (frN_succ g 3)
      have BS := Lib.hid (byN_succ g t 3)
      cases hb : g 3 with
      | true =>
        rw [hb, if_pos rfl] at e1
        rw [hb, if_pos rfl] at FS BS
        have hsz := R2.out.below.size
        clear hb
        go_wp2_with (at_builtin; refine wpList_append_own_at _ rfl _ _ 34 rfl w2.heap.size 3 i0 (.int .i64 0) 1 8 Try.underlying34 hi hz0 hz1 hz2 rfl (by decide) _ _ _ rfl (R2.out.a.alloc _) ⟨wr.heap.size, 0, none⟩ 1 1 [.int .i64 3] rfl rfl ?c1 ?c2 ?c3 ?c4 ?c5 ?_)
        case c1 =>
          intro i u hu
          match i, hu with
          | 0, hu => simp at hu; subst hu; simp [Addr.add]
        case c2 => intro u hu; simp at hu; subst hu; rfl
        case c3 => unfold maxLen; omega
        case c4 => omega
        case c5 => simp; omega
        intro v' w3 hown' hgrow _ hat
        have R3 := Lib.hid (R2.out.one (x := 3) (show IRow w3 w2.heap.size v' (frN g 3 ++ [3]) from by
          show w3.ownsRow _ _ _ v' (frN g 3 ++ [3]).length (((frN g 3 ++ [3]).map fun (x : Nat) => (x : Int)).map (Value.int .i64))
          simpa using hown') hgrow hat)
        rw [← FS.out] at R3
        have hsz := R3.out.below.size
        clear hown' hgrow hat R2
        go_wp2_with (at_builtin; refine wpList_append_own_at _ rfl _ _ 34 rfl w2.heap.size 3 i0 (.int .i64 0) 1 8 Try.underlying34 hi hz0 hz1 hz2 rfl (by decide) _ _ _ rfl (R3.out.b.alloc _) ⟨w3.heap.size, 0, none⟩ 1 1 [.int .i64 (t 3 : Int)] rfl rfl ?c1 ?c2 ?c3 ?c4 ?c5 ?_)
        case c1 =>
          intro i u hu
          match i, hu with
          | 0, hu => simp at hu; subst hu; simp [Addr.add]
        case c2 => intro u hu; simp at hu; subst hu; rfl
        case c3 => unfold maxLen; omega
        case c4 => omega
        case c5 => simp; omega
        intro u' w4 hown' hgrow _ hat
        have R4 : Hid (Rows2 w2 v' u' (frN g 4) (byN g t 4) w4) := by
          show Rows2 _ _ _ _ _ _
          rw [BS.out]
          refine R3.out.two (x := t 3) ?_ hgrow hat
          show w4.ownsRow _ _ _ u' (byN g t 3 ++ [t 3]).length (((byN g t 3 ++ [t 3]).map fun (x : Nat) => (x : Int)).map (Value.int .i64))
          simpa using hown'
        clear hown' hgrow hat R3
        go_wp2_with fail
        go_roundw
        case rel => exact ⟨4, by omega, by first | rfl | go_num, R4.out⟩
        case measure => simp [intOf]
      | false =>
        rw [hb, if_neg (by simp)] at e1
        rw [hb, if_neg (by simp), List.append_nil] at FS BS
        rw [← FS.out, ← BS.out] at R2
        clear hb
        go_wp2_with fail
        go_roundw
        case rel => exact ⟨4, by omega, by first | rfl | go_num, R2.out⟩
        case measure => simp [intOf]
    · clear FL BL ET EG
      rename World => wb
      obtain ⟨fl, hfl⟩ : ∃ fl, fl = frN g 4 := ⟨_, rfl⟩
      have hbl : byN g t 4 = fl.map t := by rw [hfl]; rfl
      have F4 : Hid (∀ f ∈ fl, f < 4) := by show ∀ f ∈ fl, _; rw [hfl]; exact fun f hf => frN_lt hf
      have FN : Hid fl.Nodup := by show fl.Nodup; rw [hfl]; exact frN_nodup g 4
      have FLen : Hid (fl.length ≤ 4) := by show _ ≤ _; rw [hfl]; exact frN_len g 4
      have FEQ := Lib.hid hfl
      rw [← hfl, hbl] at R2
      obtain ⟨A, ca, rfl, hra, hfa⟩ := R2.out.a.rd2
      obtain ⟨C, cc, hu, hrc, hfc⟩ := R2.out.b.rd2
      rw [List.length_map] at hu
      subst hu
      have OL2 := Lib.hid S2.out.l.ost.own_lt
      have QL2 := Lib.hid S2.out.quan.lt
      have SZ := R2.out.below.size
      have S2 := Lib.hid (S2.out.keep R2.out.below)
      have FA : Hid (∀ b off, A = some ⟨b, off, none⟩ → ¬ a2.own o b ∧ b ≠ q) := fun b' off' e => ⟨fun h => by have := hfa b' off' e; have := OL2.out _ h; omega, by have := hfa b' off' e; have := QL2.out; omega⟩
      have FC : Hid (∀ b off, C = some ⟨b, off, none⟩ → ¬ a2.own o b ∧ b ≠ q) := fun b' off' e => ⟨fun h => by have := hfc b' off' e; have := OL2.out _ h; omega, by have := hfc b' off' e; have := QL2.out; omega⟩
      have RA := Lib.hid hra
      have RC := Lib.hid hrc
      clear hra hrc hfa hfc hfl hbl R2 OL2 QL2 SZ
      obtain ⟨G, hG⟩ : ∃ G : Nat → Bool, G = fun n => a.testBit (mA n fl t fl.length) := ⟨_, rfl⟩
      have GE : Hid (natOf G 16 = renN a g t) := by show _ = _; rw [hG]; exact renN_eq FEQ.out
      have GB : Hid (∀ n, G n = a.testBit (mA n fl t fl.length)) := fun n => by rw [hG]
      clear hG
      go_wp2_with fail
      go_loopw [13, 14, 15, 16] (fun ov iv _ _ wq => ∃ i : Nat, i ≤ 16 ∧ iv = .int .i64 i ∧ ov = .int .i64 (natOf G i : Nat) ∧ Below wb.heap.size wb wq) (fun _ iv _ _ _ => 16 - (intOf iv).toNat)
      case atStart => exact ⟨0, by omega, rfl, rfl, Below.refl _ _⟩
      case round =>
        obtain ⟨i, hi16, rfl, rfl, hbq⟩ := hrel
        have BQ := Lib.hid hbq
        clear hbq
        by_cases hlt : i < 16
        · have hlt' : (i : Int) < 16 := by omega
          obtain ⟨y, hy⟩ : ∃ y, natOf G i = y := ⟨_, rfl⟩
          have YL : Hid (y < 65536) := by show _ < _; rw [← hy]; have := natOf_lt G i; have : 2 ^ i ≤ 2 ^ 16 := Nat.pow_le_pow_right (by omega) (by omega); omega
          have e4 := or_top (f := G) hlt
          have SS : Hid (natOf G (i + 1) = natOf G i + if G i then 2 ^ i else 0) := rfl
          rw [hy] at e4 SS
          rw [hy]
          have E4 := Lib.hid e4
          clear hy e4
          go_wp2_with fail
          go_loopw [15, 16] (fun mv jv wz => ∃ j : Nat, j ≤ fl.length ∧ jv = .int .i64 j ∧ mv = .int .i64 (mA i fl t j : Nat) ∧ Below wb.heap.size wb wz) (fun _ jv _ => fl.length - (intOf jv).toNat)
          case atStart => exact ⟨0, Nat.zero_le _, rfl, rfl, BQ.out⟩
          case round =>
            clear BQ
            obtain ⟨j, hj, rfl, rfl, hbz⟩ := hrel
            have BZ := Lib.hid hbz
            clear hbz
            have hll := FLen.out
            by_cases hltj : j < fl.length
            · obtain ⟨f, hxf⟩ : ∃ f, fl[j]? = some f := ⟨_, List.getElem?_eq_getElem hltj⟩
              have hf4 := F4.out f (List.mem_of_getElem? hxf)
              have RDa := RA.out.keep BZ.out
              have RDc := RC.out.keep BZ.out
              have MS := Lib.hid (mA_succ (n := i) (t := t) hxf)
              have ML := mA_lt (t := t) j hlt F4.out
              have e1 := andN_pow (n := mA i fl t j) (v := f) ML hf4
              have ML2 : andN (mA i fl t j) (2 ^ f) < 16 := andN_lt16 ML
              have e2 := bit_and i (t f)
              have e3 := or_pow (n := andN (mA i fl t j) (2 ^ f)) (v := f) ML2 hf4
              have e5 := or_zero (x := andN (mA i fl t j) (2 ^ f)) (by omega)
              have hf' : (f : Int) < 4 := by omega
              have ht' : (t f : Int) < 4 := by have := HT.out f; omega
              rcases RDa with hn | ⟨b, off, rfl, hbl, hcell⟩
              · exfalso
                have : fl = [] := by simpa using hn
                subst this
                simp at hltj
              · rcases RDc with hn | ⟨b2, off2, rfl, hbl2, hcell2⟩
                · exfalso
                  have : fl = [] := by simpa using hn
                  subst this
                  simp at hltj
                · have cx : wr.cell? ⟨b, off + j, none⟩ = some (.int .i64 (f : Int)) := hcell j _ (by rw [List.getElem?_map, List.getElem?_map, hxf]; rfl)
                  have ct : wr.cell? ⟨b2, off2 + j, none⟩ = some (.int .i64 (t f : Int)) := hcell2 j _ (by rw [List.getElem?_map, List.getElem?_map, List.getElem?_map, hxf]; rfl)
                  clear hcell hcell2 hbl hbl2 hxf ML ML2 RA RC
                  revert MS e1 e2 e3 e5 ht'
                  generalize andN (mA i fl t j) (2 ^ f) ||| 2 ^ f = m3
                  generalize andN (mA i fl t j) (2 ^ f) = m2
                  generalize mA i fl t j = m
                  generalize t f = tf at *
                  intro MS e1 e2 e3 e5 ht'
                  cases hb : i.testBit tf with
                  | true =>
                    rw [hb, if_pos rfl] at e2
                    rw [hb, if_pos rfl] at MS
                    clear hb e5
                    go_wp2_with fail
                    go_region
                    go_wp2_with fail
                    go_roundw
                    case rel => exact ⟨j + 1, by omega, by go_num, by rw [MS.out], BZ.out.trans ((below_drew _).mono BZ.out.size)⟩
                    case measure => simp [intOf]; omega
                  | false =>
                    rw [hb, if_neg (by simp)] at e2
                    rw [hb, if_neg (by simp)] at MS
                    clear hb e3
                    go_wp2_with fail
                    go_region
                    go_wp2_with fail
                    go_roundw
                    case rel => exact ⟨j + 1, by omega, by go_num, by rw [MS.out], BZ.out.trans ((below_drew _).mono BZ.out.size)⟩
                    case measure => simp [intOf]; omega
            · obtain rfl : j = fl.length := by omega
              have ML := mA_lt (t := t) fl.length hlt F4.out
              have e3 := bit_x XA.out ML
              rw [← GB.out i] at e3
              have e5 := or_zero (x := y) YL.out
              have hm' : ((mA i fl t fl.length : Nat) : Int) < 16 := by omega
              revert e3 hm'
              generalize mA i fl t fl.length = M
              intro e3 hm'
              have e4 := E4.out
              have hp := Lib.hid (wrap_pow hlt)
              clear ML
              cases hb : G i with
              | true =>
                rw [hb, if_pos rfl] at e3
                rw [hb, if_pos rfl] at SS
                clear hb e5
                go_wp2_with fail
                go_roundw
                case rel => exact ⟨i + 1, by omega, by go_num, by rw [SS.out, hp.out, e4], BZ.out⟩
                case measure => simp [intOf]; omega
              | false =>
                rw [hb, if_neg (by simp)] at e3
                rw [hb, if_neg (by simp)] at SS
                clear hb e4
                go_wp2_with fail
                go_roundw
                case rel => exact ⟨i + 1, by omega, by go_num, by rw [SS.out]; rfl, BZ.out⟩
                case measure => simp [intOf]; omega
        · obtain rfl : i = 16 := by omega
          rw [GE.out]
          have R3A : Hid (RdF o q a2 wr A fl) := ⟨RA.out.keep BQ.out, FA.out⟩
          have R3C : Hid (RdF o q a2 wr C (fl.map t)) := ⟨RC.out.keep BQ.out, FC.out⟩
          have S2 := Lib.hid (S2.out.keep BQ.out)
          clear RA RC FA FC BQ GE GB
          have T := make_any S2.out.l.ost.st S2.out.l.V ((renN a g t : Nat))
          rw [P2.out] at T
          unfold ptrV at T
          have T := Lib.hid T
          go_wp2_with fail
          refine T.out.mono ?_
          intro e w_3 hout
          obtain ⟨want, a3, rfl, s3, ex, pN, aN, sN2, fr⟩ := S2.out.make2 (by omega) hout
          have RA := Lib.hid (R3A.out.rd_fr fr)
          have RC := Lib.hid (R3C.out.rd_fr fr)
          clear hout T fr R3A R3C
          have SX_nx_3 := Lib.hid (Says_at AX.out ex S2.out.good s3.good SX.out)
          have AT_nx_3 := Lib.hid (AX.out.ext ex)
          have SX_want_3 := Lib.hid sN2
          have AT_want_3 := Lib.hid aN
          have P3 := Lib.hid (pN.trans P2.out)
          have S3 := Lib.hid s3
          clear s3 ex pN aN sN2 S2 P2
          have T := rename_good S3.out.l.ost S3.out.quan S3.out.nq S3.out.l.V v4room2 AT_nx_3.out (A := A) (C := C) (ca := ca) (cc := cc) (fr := fl) (tt := fl.map t) (by have := FLen.out; omega) (by rw [List.length_map]) F4.out (by intro x hx; rw [List.mem_map] at hx; obtain ⟨f, _, rfl⟩ := hx; exact HT.out f) FN.out RA.out RC.out
          rw [List.length_map] at T
          have T := Lib.hid T
          go_wp2_with fail
          refine T.out.mono ?_
          intro e w_4 hout
          obtain ⟨n, a4, rfl, s4, ex, pN, aN, sN2⟩ := S3.out.op (by omega) hout
          clear hout T RA RC
          have SX_want_4 := Lib.hid (Says_at AT_want_3.out ex S3.out.good s4.good SX_want_3.out)
          have AT_want_4 := Lib.hid (AT_want_3.out.ext ex)
          have SX_n_4 := Lib.hid sN2
          have AT_n_4 := Lib.hid aN
          have S4 := Lib.hid s4
          clear AT_nx_3 SX_want_3 AT_want_3 s4 ex pN aN sN2 S3 P3
          have E1 : Hid (n = want) := same_node S4.out.good AT_n_4.out AT_want_4.out fun val => by
            rw [SX_n_4.out, SX_want_4.out, SX_nx_3.out, ren_says HT.out val, ← FEQ.out]
            unfold byN
            rw [← FEQ.out]
          have AK := Lib.hid (fun w => awake5 w)
          have ee0 := E1.out
          clear SX_want_4 AT_want_4 SX_n_4 AT_n_4 SX_nx_3 E1 F4 FN FEQ FLen
          subst ee0
          go_wp2_with fail
          refine (AK.out _).mono ?_
          rintro e w_e ⟨rfl, hb⟩
          have BL := Lib.hid (S4.out.below.trans (hb.mono S4.out.below.size))
          clear hb AK S4
          go_wp2_with fail
          go_ret
          exact ⟨rfl, BL.out⟩

theorem quanRenames_walk (x y : Int) (w : World) (_hx : (Lit.int .i64 x).wf = true) (_hy : (Lit.int .i64 y).wf = true) :
    Calls Try.prog 6 #[.int .i64 x, .int .i64 y] w fun e w' => e = .returned (.bool true) ∧ Below w.heap.size w w' := qrenames_core x y w

namespace quanRenames
set_option linter.unusedVariables false
theorem own : ownKnob Try.prog.godebug = none := by kernel_rfl
theorem laidOut : laidOutB Try.prog = true := by kernel_rfl
set_option maxRecDepth 100000 in
theorem lifted (os : Os) (started : os.Started) (H : Type) (enc : TypeId × Value → H) :
    ReturnsInHanded {} Try.checked os 6 .any (Rows.quanRenamesSpec.pre6 enc Try.prog Try.f6 Rows.quanRenamesRow.domain false) (Rows.quanRenamesSpec.post enc Try.prog Try.f6 false true false false) := by
  refine returnsInHanded_of_change (C := Try.checked) own started (by kernel_rfl) Try.func6
    (ChangeSpec.witness6 (enc := enc) (C := Try.checked) false ⟨#[], #[.int .i64 0, .int .i64 0], []⟩ 8 (by kernel_rfl) (by kernel_rfl) (by kernel_rfl) (by kernel_rfl)) ?_
  intro W base args ds gs before hval0 hW hcnd hsz
  have hval : ∀ (j : Nat) t v, Try.f6.params[j]? = some t → args[j]? = some v → Value.okWide Try.prog W .any base t v := hval0
  have hW' := hW
  obtain ⟨p, q, hA0, hV, rfl, hfz, hnd⟩ := hW
  have hA : DataW.TrodAll enc Try.prog W 0 (fun _ => true) true Try.f6.params.toList args.toList ds p := hA0
  rw [Try.params6] at hA hval
  obtain ⟨v0, vs0, d0, ds0, p0, q0, hargs, rfl, rfl, h0, r0⟩ := trodAll_cons hA
  obtain ⟨v1, vs1, d1, ds1, p1, q1, rfl, rfl, rfl, h1, r1⟩ := trodAll_cons r0
  obtain ⟨rfl, rfl, rfl⟩ := trodAll_nil r1
  obtain rfl : args = #[v0, v1] := by cases args; simp_all
  obtain ⟨rfl, rfl⟩ := trodVars_none hV
  obtain ⟨a0, rfl, rfl, rfl, w0⟩ := open_int Try.underlying3 (hval 0 3 v0 rfl rfl) h0
  obtain ⟨a1, rfl, rfl, rfl, w1⟩ := open_int Try.underlying3 (hval 1 3 v1 rfl rfl) h1
  clear hA0 hval0
  refine (quanRenames_walk a0 a1 W w0 w1).mono fun e W' ⟨he, bel⟩ => ?_
  subst he
  exact ⟨_, rfl, _, _, _, [], _, [], hW', trodAll_mk1 (shut_bool Try.underlying4 _), (trodAll_cons_mk (shut_int Try.underlying3 w0) (trodAll_cons_mk (shut_int Try.underlying3 w1) trodAll_mk0)), rfl, bel.frame _, fun h => by cases h⟩
theorem over : Rows.quanRenamesRow.holds Try.pinned (OpenSpec.ofChange Rows.quanRenamesSpec) :=
  OpenClaim.holds_of_wide 6 Try.f6 rfl rfl rfl rfl rfl rfl rfl ⟨rfl, rfl, rfl, rfl, rfl⟩ rfl rfl rfl rfl rfl (by kernel_rfl) Try.func6 (by kernel_rfl)
    (of_decide_eq_true (by kernel_rfl)) (by unfold Func.isWrapper; first | (rw [if_pos (by decide +kernel)]; kernel_rfl) | (rw [if_neg (by decide +kernel)]; exact ⟨rfl, rfl⟩))
    (fun os started H enc _ => lifted os started H enc)
/-- THE STATEMENT. -/
theorem proved : Rows.QuanRenamesSaid := over
end quanRenames
#print axioms quanRenames.proved
end Go.Proofs.Ytmbkkifopmbkaaa
