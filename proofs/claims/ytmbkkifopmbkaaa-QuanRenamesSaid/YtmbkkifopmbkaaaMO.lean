/- Merged: QNob. -/
import Derived.Test.YtmbkkifopmbkaaaMN
import Derived.ChangeSlices

/- Layer 5's laws: what is refused; operations that nobody made; a list of numbers that comes in. -/
namespace Go.Proofs.Ytmbkkifopmbkaaa
open Go.ChangeShapes Go.WideShapes Go.ChangeAt Go.RowKit Go.Maps

theorem product_bad {w : World} {m : Mem} {h : Hd} {cs : List Nd} {o q : Nat} {mb : Option Nat} (r : OSt w m h cs o mb) (ha : QuanAt w q o) (a b : Int) {A : Option Addr} {cap : Nat} {vs : List Int} (hv : Rd w A (ints vs)) (hl : vs.length ≤ 1000) (hne : refQ h.V cs vs [a, b] ≠ 0) :
    Calls Try.prog 18 #[.pointer (some ⟨q, 0, none⟩), .int .i64 a, .int .i64 b, .slice A vs.length cap] w fun e w' => e = .returned (.tuple #[.int .i64 0, .int .i64 (refQ h.V cs vs [a, b])]) ∧ Below w.heap.size w w' := by
  have bw := (Below.refl w.heap.size w).alloc (Nat.le_refl _) (.cells #[.int .i64 a, .int .i64 b] 3)
  have h4 := heap_alloc_new w (.cells #[.int .i64 a, .int .i64 b] 3)
  have RF := refusal_q (r.keep bw) (ha.keep bw) (c := cap) (vs := vs) (hv.keep bw) hl (c2 := 2) (xs := [a, b]) (by simp) (row_lt h4) (cells_two h4)
  change Calls _ _ #[_, _, .slice _ 2 _] _ _ at RF
  have hd : (refQ h.V cs vs [a, b] != 0) = true := by simpa using hne
  unfold RefQOut at RF
  have RF := Lib.hid RF
  have BW := Lib.hid bw
  clear bw h4 r ha hne hv hl
  generalize refQ h.V cs vs [a, b] = z at *
  go_enter Try.func18, Try.ntmps18
  go_wp2_with fail
  refine RF.out.mono ?_
  rintro e w5 ⟨rfl, hb⟩
  have B5 := Lib.hid (BW.out.trans (hb.mono BW.out.size))
  clear hb RF
  go_wp2_with fail
  go_ret2
  exact ⟨rfl, B5.out⟩

theorem exists_bad {w : World} {m : Mem} {h : Hd} {cs : List Nd} {o q : Nat} {mb : Option Nat} (r : OSt w m h cs o mb) (ha : QuanAt w q o) (a : Int) {A : Option Addr} {cap : Nat} {vs : List Int} (hv : Rd w A (ints vs)) (hl : vs.length ≤ 1000) (hne : refQ h.V cs vs [a, a] ≠ 0) :
    Calls Try.prog 17 #[.pointer (some ⟨q, 0, none⟩), .int .i64 a, .slice A vs.length cap] w fun e w' => e = .returned (.tuple #[.int .i64 0, .int .i64 (refQ h.V cs vs [a, a])]) ∧ Below w.heap.size w w' := by
  have P := Lib.hid (product_bad r ha a a (cap := cap) hv hl hne)
  clear r ha hv hl hne
  generalize refQ h.V cs vs [a, a] = z at *
  go_enter Try.func17, Try.ntmps17
  go_wp2_with fail
  refine P.out.mono ?_
  rintro e w1 ⟨rfl, hb⟩
  have HB := Lib.hid hb
  clear P hb
  go_wp2_with fail
  go_ret2
  exact ⟨rfl, HB.out⟩

theorem product_qnob {w : World} {pv : Value} (h : NBs w pv) (a b : Int) (A : Option Addr) (n cap : Nat) :
    Calls Try.prog 18 #[pv, .int .i64 a, .int .i64 b, .slice A n cap] w fun e w' => e = .returned (.tuple #[.int .i64 0, .int .i64 1]) ∧ Below w.heap.size w w' := by
  have bw := (Below.refl w.heap.size w).alloc (Nat.le_refl _) (.cells #[.int .i64 a, .int .i64 b] 3)
  have RF := Lib.hid (fun s1 s2 => refusal_qnob (h.keep bw) s1 s2)
  have BW := Lib.hid bw
  clear bw h
  go_enter Try.func18, Try.ntmps18
  go_wp2_with fail
  refine (RF.out _ _).mono ?_
  rintro e w5 ⟨rfl, rfl⟩
  go_wp2_with fail
  go_ret2
  exact ⟨rfl, BW.out⟩

theorem exists_qnob {w : World} {pv : Value} (h : NBs w pv) (a : Int) (A : Option Addr) (n cap : Nat) :
    Calls Try.prog 17 #[pv, .int .i64 a, .slice A n cap] w fun e w' => e = .returned (.tuple #[.int .i64 0, .int .i64 1]) ∧ Below w.heap.size w w' := by
  have P := Lib.hid (product_qnob h a a A n cap)
  clear h
  go_enter Try.func17, Try.ntmps17
  go_wp2_with fail
  refine P.out.mono ?_
  rintro e w1 ⟨rfl, hb⟩
  have HB := Lib.hid hb
  clear P hb
  go_wp2_with fail
  go_ret2
  exact ⟨rfl, HB.out⟩

theorem values_qnob {w : World} {pv : Value} (h : NBs w pv) (A C : Option Addr) (n cap n2 cap2 : Nat) :
    Calls Try.prog 39 #[pv, .slice A n cap, .slice C n2 cap2] w fun e w' => e = .returned (.tuple #[.map none, .int .i64 1]) ∧ w = w' := by
  have GV := Lib.hid (given_qnob h)
  clear h
  go_enter Try.func39, Try.ntmps39
  go_wp2_with fail
  refine GV.out.mono ?_
  rintro e w1 ⟨rfl, rfl⟩
  go_wp2_with fail
  go_ret2
  exact ⟨rfl, rfl⟩

theorem rename_qnob {w : World} {pv : Value} (h : NBs w pv) (a : Int) (A C : Option Addr) (n cap n2 cap2 : Nat) :
    Calls Try.prog 21 #[pv, .int .i64 a, .slice A n cap, .slice C n2 cap2] w fun e w' => e = .returned (.tuple #[.int .i64 0, .int .i64 1]) ∧ Below w.heap.size w w' := by
  have VN := Lib.hid (values_qnob h A C n cap n2 cap2)
  have BW := Lib.hid ((Below.refl w.heap.size w).alloc (Nat.le_refl _) (.cells #[.map none] 86))
  clear h
  go_enter Try.func21, Try.ntmps21
  go_wp2_with fail
  refine VN.out.mono ?_
  rintro e w1 ⟨rfl, rfl⟩
  go_wp2_with fail
  go_ret2
  exact ⟨rfl, BW.out⟩

set_option maxRecDepth 100000 in
/-- A slice of ints that came in reads as a list. -/
theorem arg_ints {H : Type} {enc : TypeId × Value → H} {w : World} {r : Go.Reach} {base : Nat} {v : Value} {d : DataW H} {ps : List MemPlace}
    (h : DataW.Trod enc Try.prog w 0 (fun _ => true) true 34 v d ps) (hv : Value.okWide Try.prog w r base 34 v) : ∃ (A : Option Addr) (c : Nat) (l : List Int), v = .slice A l.length c ∧ Rd w A (ints l) := by
  obtain ⟨A, n, c, rfl⟩ := okWide_slice Try.underlying34 hv
  obtain ⟨fuel, hf⟩ := h
  rcases Go.ChangeShapes.open_ints Try.underlying34 Try.underlying3 cellsI hf with ⟨hcs, _⟩ | ⟨a, len, c', zs, hcs, _, hl, hm, hz, _, hcell, _⟩
  · simp [Value.cells] at hcs
    obtain ⟨rfl, rfl, rfl⟩ := hcs
    exact ⟨none, 0, [], rfl, .inl rfl⟩
  · simp [Value.cells] at hcs
    obtain ⟨rfl, rfl, rfl⟩ := hcs
    simp only [if_true] at hz
    refine ⟨_, c, zs.take n, by rw [List.length_take, Nat.min_eq_left (by omega)], ?_⟩
    by_cases h0 : n = 0
    · subst h0; exact .inl (by simp)
    · obtain ⟨b, off, sp⟩ := a
      have h1 := hcell 0 (by omega)
      have hsp : sp = none := by simpa [Addr.add] using World.cell?_spot h1
      subst hsp
      have h2 : ∀ i, i < zs.length → w.cell? ⟨b, off + i, none⟩ = some (.int .i64 (zs.getD i 0)) := by
        intro i hi
        have h3 := hcell i hi
        by_cases hz : i = 0
        · subst hz; simpa [Addr.add] using h3
        · simpa [Addr.add, hz] using h3
      refine .inr ⟨b, off, rfl, lt_of_cell (h2 0 (by omega)), fun j u hu => ?_⟩
      rw [List.getElem?_map] at hu
      cases hx : (zs.take n)[j]? with
      | none => rw [hx] at hu; cases hu
      | some x =>
        rw [hx] at hu
        injection hu with hu
        rw [← hu]
        rw [List.getElem?_take] at hx
        by_cases hj : j < n
        · rw [if_pos hj] at hx
          have hjz := (List.getElem?_eq_some_iff.1 hx).1
          rw [h2 j hjz]
          simp [List.getD, hx]
        · rw [if_neg hj] at hx; cases hx

/-- Till there, a list may not be. -/
def oddN (l : List Int) (i : Nat) : Bool := decide (256 < l.length) || (l.take i).any fun x => !varB 4 x
theorem oddN_step {l : List Int} {i : Nat} {x : Int} (h : l[i]? = some x) : oddN l (i + 1) = (oddN l i || !varB 4 x) := by
  unfold oddN
  rw [List.take_add_one, h, List.any_append]
  simp [Bool.or_assoc]
theorem oddN_end (l : List Int) : oddN l l.length = !listB 4 l := by
  unfold oddN listB
  rw [List.take_length, Bool.not_and]
  congr 1
  · by_cases h : 256 < l.length
    · rw [decide_eq_true h, decide_eq_false (by omega)]; rfl
    · rw [decide_eq_false h, decide_eq_true (by omega)]; rfl
  · simp [List.any_eq_not_all_not]

theorem listB_nats {V : Nat} {l : List Int} (h : listB V l = true) : ∃ xs : List Nat, l = vInts xs ∧ xs.length ≤ 256 ∧ ∀ x ∈ xs, x < V := by
  unfold listB at h
  rw [Bool.and_eq_true, List.all_eq_true] at h
  have hl : l.length ≤ 256 := by simpa using h.1
  refine ⟨l.map Int.toNat, ?_, by simpa using hl, ?_⟩
  · show l = (l.map Int.toNat).map fun (x : Nat) => (x : Int)
    rw [List.map_map]
    symm
    conv => rhs; rw [← List.map_id l]
    apply List.map_congr_left
    intro x hx
    have := h.2 x hx
    simp [varB] at this
    simp
    omega
  · intro x hx
    rw [List.mem_map] at hx
    obtain ⟨y, hy, rfl⟩ := hx
    have := h.2 y hy
    simp [varB] at this
    omega
end Go.Proofs.Ytmbkkifopmbkaaa
