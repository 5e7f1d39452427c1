/- Contracts of layer 4 (oper): Not, And, Or, Xor, Diff, Ite; New, Store; operations that nobody made. -/
import Derived.Test.YtfdebadmikmnaaaOAsk2
import Derived.Test.YtfdebadmikmnaaaNNob
namespace Go.Proofs.Ytfdebadmikmnaaa
open Go.ChangeShapes Go.WideShapes Go.ChangeAt Go.RowKit Go.Maps

theorem AskOut.pre {m : Mem} {h : Hd} {cs : List Nd} {o : Nat} {mb : Option Nat} {q : Qu} {w w1 w' : World} {e : Ending} (hb : Below w.heap.size w w1) (a : AskOut m h cs o mb q w1 e w') : AskOut m h cs o mb q w e w' := by
  obtain ⟨k, x, m', h', cs', mb', e1, e2, e3, e4, e5, e6, e7, e8, e9, e10⟩ := a
  exact ⟨k, x, m', h', cs', mb', e1, e2, e3, e4, e5, e6, e7, e8, (ONext.below hb).trans e9, e10⟩

theorem given_nob {w : World} {pv : Value} (h : NBs w pv) : Calls Try.prog 38 #[pv] w fun e w' => e = .returned (.bool false) ∧ w = w' := by
  rcases h with rfl | ⟨t, rfl, h0⟩
  · go_enter Try.func38, Try.ntmps38
    go_wp2
    go_ret
    exact ⟨rfl, rfl⟩
  · have heq : (binOp .eql 24 (.pointer none) (.pointer (some ⟨t, 0, none⟩))).run Try.prog w = .ok (.bool false) w := by kernel_rfl
    go_enter Try.func38, Try.ntmps38
    go_wp2
    go_ret
    exact ⟨rfl, rfl⟩

theorem refusal_nob {w : World} {pv : Value} (h : NBs w pv) (sl : Value) : Calls Try.prog 45 #[pv, sl] w fun e w' => e = .returned (.int .i64 1) ∧ w = w' := by
  have H := Lib.hid (given_nob h)
  clear h
  go_enter Try.func45, Try.ntmps45
  go_wp2_with fail
  refine H.out.mono ?_
  rintro e w' ⟨rfl, rfl⟩
  go_wp2_with fail
  go_ret
  exact ⟨rfl, rfl⟩

theorem ask_nob {w : World} {pv : Value} (h : NBs w pv) (kd : Int) (sl : Value) : Calls Try.prog 30 #[pv, .int .i64 kd, sl] w fun e w' => e = .returned (.tuple #[.int .i64 0, .int .i64 1]) ∧ w = w' := by
  have H := Lib.hid (refusal_nob h sl)
  clear h
  go_enter Try.func30, Try.ntmps30
  go_wp2_with fail
  refine H.out.mono ?_
  rintro e w' ⟨rfl, rfl⟩
  go_wp2_with fail
  go_ret2
  exact ⟨rfl, rfl⟩

theorem NBs.keep {w w' : World} {pv : Value} (h : NBs w pv) (hb : Below w.heap.size w w') : NBs w' pv := by
  rcases h with rfl | ⟨t, rfl, h0⟩
  · exact .inl rfl
  · exact .inr ⟨t, rfl, (hb.cell (p := ⟨t, 0, none⟩) (World.block_lt_of_cell? w ⟨t, 0, none⟩ h0)).trans h0⟩

theorem store_nob {w : World} {pv : Value} (h : NBs w pv) : Calls Try.prog 24 #[pv] w fun e w' => e = .returned (.pointer none) ∧ w = w' := by
  have H := Lib.hid (given_nob h)
  clear h
  go_enter Try.func24, Try.ntmps24
  go_wp2_with fail
  refine H.out.mono ?_
  rintro e w' ⟨rfl, rfl⟩
  go_wp2_with fail
  go_ret
  exact ⟨rfl, rfl⟩

theorem store_ops {w : World} {m : Mem} {h : Hd} {cs : List Nd} {o : Nat} {mb : Option Nat} (r : OSt w m h cs o mb) : Calls Try.prog 24 #[.pointer (some ⟨o, 0, none⟩)] w fun e w' => e = .returned (ptrV m.s) ∧ w = w' := by
  obtain ⟨d, mp, sw, ha⟩ := r.head
  have H := Lib.hid (given_ops ha)
  have c1 := ha.c1
  clear ha r
  unfold ptrV
  go_enter Try.func24, Try.ntmps24
  go_wp2_with fail
  refine H.out.mono ?_
  rintro e w' ⟨rfl, rfl⟩
  go_wp2_with fail
  go_ret
  exact ⟨rfl, rfl⟩

theorem not_good {w : World} {m : Mem} {h : Hd} {cs : List Nd} {o : Nat} {mb : Option Nat} (r : OSt w m h cs o mb) (hV : 2 ^ h.V ≤ 900000) {a : Nat} (ha : At cs 0 a) :
    Calls Try.prog 15 #[.pointer (some ⟨o, 0, none⟩), .int .i64 a] w (AskOut m h cs o mb ⟨0, a, 0, 1⟩ w) := by
  have bw := (Below.refl w.heap.size w).alloc (Nat.le_refl _) (.cells #[.int .i64 a, .int .i64 0, .int .i64 1] 3)
  have hr := heap_alloc_new w (.cells #[.int .i64 a, .int .i64 0, .int .i64 1] 3)
  have AK := Lib.hid (ask_good3 (r.keep bw) hV (g := w.heap.size) (cp := 3) (row_lt hr) (fun q => by have := r.own_lt _ q; omega) (cell_of_row _ _ 0 _ _ _ hr) (cell_of_row _ _ 1 _ _ _ hr) (cell_of_row _ _ 2 _ _ _ hr) ⟨by show 0 < 2; omega, ha, (r.st.good.at0 (by omega)), (r.st.good.at1 (by omega))⟩)
  have BW := Lib.hid bw
  clear bw hr r hV ha
  go_enter Try.func15, Try.ntmps15
  go_wp2_with fail
  refine AK.out.mono ?_
  intro e w' hout
  have HO := Lib.hid (AskOut.pre BW.out hout)
  obtain ⟨k, x, m', h', cs', mb', rfl, -⟩ := hout
  clear AK
  go_wp2_with fail
  go_ret2
  exact HO.out

theorem not_bad {w : World} {m : Mem} {h : Hd} {cs : List Nd} {o : Nat} {mb : Option Nat} (r : OSt w m h cs o mb) (a : Int) (hbad : ([(a : Int), (0 : Int), (1 : Int)] : List Int).all (thereB cs) = false) :
    Calls Try.prog 15 #[.pointer (some ⟨o, 0, none⟩), .int .i64 a] w fun e w' => e = .returned (.tuple #[.int .i64 0, .int .i64 3]) ∧ Below w.heap.size w w' := by
  have bw := (Below.refl w.heap.size w).alloc (Nat.le_refl _) (.cells #[.int .i64 a, .int .i64 0, .int .i64 1] 3)
  have hr := heap_alloc_new w (.cells #[.int .i64 a, .int .i64 0, .int .i64 1] 3)
  have hx : ∀ (i : Nat) (x : Int), ([(a : Int), (0 : Int), (1 : Int)] : List Int)[i]? = some x → (w.alloc (.cells #[.int .i64 a, .int .i64 0, .int .i64 1] 3)).cell? ⟨w.heap.size, i, none⟩ = some (.int .i64 x) := by
    intro i x hx
    match i, x, hx with
    | 0, x, hx => injection hx with hx; rw [← hx]; exact cell_of_row _ _ 0 _ _ _ hr
    | 1, x, hx => injection hx with hx; rw [← hx]; exact cell_of_row _ _ 1 _ _ _ hr
    | 2, x, hx => injection hx with hx; rw [← hx]; exact cell_of_row _ _ 2 _ _ _ hr
    | i + 3, x, hx => simp at hx
  have AK := ask_bad (r.keep bw) (c := 3) (xs := [(a : Int), (0 : Int), (1 : Int)]) (by simp) (row_lt hr) hx hbad 0
  change Calls _ _ #[_, _, .slice _ 3 _] _ _ at AK
  have AK := Lib.hid AK
  have BW := Lib.hid bw
  clear bw hr r hbad hx
  go_enter Try.func15, Try.ntmps15
  go_wp2_with fail
  refine AK.out.mono ?_
  rintro e w' ⟨rfl, hb⟩
  have HB := Lib.hid (BW.out.trans (hb.mono BW.out.size))
  clear AK hb
  go_wp2_with fail
  go_ret2
  exact ⟨rfl, HB.out⟩

theorem not_nob {w : World} {pv : Value} (h : NBs w pv) (a : Int) :
    Calls Try.prog 15 #[pv, .int .i64 a] w fun e w' => e = .returned (.tuple #[.int .i64 0, .int .i64 1]) ∧ Below w.heap.size w w' := by
  have bw := (Below.refl w.heap.size w).alloc (Nat.le_refl _) (.cells #[.int .i64 a, .int .i64 0, .int .i64 1] 3)
  have AK := Lib.hid (fun sl => ask_nob (h.keep bw) 0 sl)
  have BW := Lib.hid bw
  clear bw h
  go_enter Try.func15, Try.ntmps15
  go_wp2_with fail
  refine (AK.out _).mono ?_
  rintro e w' ⟨rfl, rfl⟩
  clear AK
  go_wp2_with fail
  go_ret2
  exact ⟨rfl, BW.out⟩

theorem and_good {w : World} {m : Mem} {h : Hd} {cs : List Nd} {o : Nat} {mb : Option Nat} (r : OSt w m h cs o mb) (hV : 2 ^ h.V ≤ 900000) {a b : Nat} (ha : At cs 0 a) (hb : At cs 0 b) :
    Calls Try.prog 16 #[.pointer (some ⟨o, 0, none⟩), .int .i64 a, .int .i64 b] w (AskOut m h cs o mb ⟨0, a, b, 0⟩ w) := by
  have bw := (Below.refl w.heap.size w).alloc (Nat.le_refl _) (.cells #[.int .i64 a, .int .i64 b, .int .i64 0] 3)
  have hr := heap_alloc_new w (.cells #[.int .i64 a, .int .i64 b, .int .i64 0] 3)
  have AK := Lib.hid (ask_good3 (r.keep bw) hV (g := w.heap.size) (cp := 3) (row_lt hr) (fun q => by have := r.own_lt _ q; omega) (cell_of_row _ _ 0 _ _ _ hr) (cell_of_row _ _ 1 _ _ _ hr) (cell_of_row _ _ 2 _ _ _ hr) ⟨by show 0 < 2; omega, ha, hb, (r.st.good.at0 (by omega))⟩)
  have BW := Lib.hid bw
  clear bw hr r hV ha hb
  go_enter Try.func16, Try.ntmps16
  go_wp2_with fail
  refine AK.out.mono ?_
  intro e w' hout
  have HO := Lib.hid (AskOut.pre BW.out hout)
  obtain ⟨k, x, m', h', cs', mb', rfl, -⟩ := hout
  clear AK
  go_wp2_with fail
  go_ret2
  exact HO.out

theorem and_bad {w : World} {m : Mem} {h : Hd} {cs : List Nd} {o : Nat} {mb : Option Nat} (r : OSt w m h cs o mb) (a b : Int) (hbad : ([(a : Int), (b : Int), (0 : Int)] : List Int).all (thereB cs) = false) :
    Calls Try.prog 16 #[.pointer (some ⟨o, 0, none⟩), .int .i64 a, .int .i64 b] w fun e w' => e = .returned (.tuple #[.int .i64 0, .int .i64 3]) ∧ Below w.heap.size w w' := by
  have bw := (Below.refl w.heap.size w).alloc (Nat.le_refl _) (.cells #[.int .i64 a, .int .i64 b, .int .i64 0] 3)
  have hr := heap_alloc_new w (.cells #[.int .i64 a, .int .i64 b, .int .i64 0] 3)
  have hx : ∀ (i : Nat) (x : Int), ([(a : Int), (b : Int), (0 : Int)] : List Int)[i]? = some x → (w.alloc (.cells #[.int .i64 a, .int .i64 b, .int .i64 0] 3)).cell? ⟨w.heap.size, i, none⟩ = some (.int .i64 x) := by
    intro i x hx
    match i, x, hx with
    | 0, x, hx => injection hx with hx; rw [← hx]; exact cell_of_row _ _ 0 _ _ _ hr
    | 1, x, hx => injection hx with hx; rw [← hx]; exact cell_of_row _ _ 1 _ _ _ hr
    | 2, x, hx => injection hx with hx; rw [← hx]; exact cell_of_row _ _ 2 _ _ _ hr
    | i + 3, x, hx => simp at hx
  have AK := ask_bad (r.keep bw) (c := 3) (xs := [(a : Int), (b : Int), (0 : Int)]) (by simp) (row_lt hr) hx hbad 0
  change Calls _ _ #[_, _, .slice _ 3 _] _ _ at AK
  have AK := Lib.hid AK
  have BW := Lib.hid bw
  clear bw hr r hbad hx
  go_enter Try.func16, Try.ntmps16
  go_wp2_with fail
  refine AK.out.mono ?_
  rintro e w' ⟨rfl, hb⟩
  have HB := Lib.hid (BW.out.trans (hb.mono BW.out.size))
  clear AK hb
  go_wp2_with fail
  go_ret2
  exact ⟨rfl, HB.out⟩

theorem and_nob {w : World} {pv : Value} (h : NBs w pv) (a b : Int) :
    Calls Try.prog 16 #[pv, .int .i64 a, .int .i64 b] w fun e w' => e = .returned (.tuple #[.int .i64 0, .int .i64 1]) ∧ Below w.heap.size w w' := by
  have bw := (Below.refl w.heap.size w).alloc (Nat.le_refl _) (.cells #[.int .i64 a, .int .i64 b, .int .i64 0] 3)
  have AK := Lib.hid (fun sl => ask_nob (h.keep bw) 0 sl)
  have BW := Lib.hid bw
  clear bw h
  go_enter Try.func16, Try.ntmps16
  go_wp2_with fail
  refine (AK.out _).mono ?_
  rintro e w' ⟨rfl, rfl⟩
  clear AK
  go_wp2_with fail
  go_ret2
  exact ⟨rfl, BW.out⟩

theorem or_good {w : World} {m : Mem} {h : Hd} {cs : List Nd} {o : Nat} {mb : Option Nat} (r : OSt w m h cs o mb) (hV : 2 ^ h.V ≤ 900000) {a b : Nat} (ha : At cs 0 a) (hb : At cs 0 b) :
    Calls Try.prog 17 #[.pointer (some ⟨o, 0, none⟩), .int .i64 a, .int .i64 b] w (AskOut m h cs o mb ⟨0, a, 1, b⟩ w) := by
  have bw := (Below.refl w.heap.size w).alloc (Nat.le_refl _) (.cells #[.int .i64 a, .int .i64 1, .int .i64 b] 3)
  have hr := heap_alloc_new w (.cells #[.int .i64 a, .int .i64 1, .int .i64 b] 3)
  have AK := Lib.hid (ask_good3 (r.keep bw) hV (g := w.heap.size) (cp := 3) (row_lt hr) (fun q => by have := r.own_lt _ q; omega) (cell_of_row _ _ 0 _ _ _ hr) (cell_of_row _ _ 1 _ _ _ hr) (cell_of_row _ _ 2 _ _ _ hr) ⟨by show 0 < 2; omega, ha, (r.st.good.at1 (by omega)), hb⟩)
  have BW := Lib.hid bw
  clear bw hr r hV ha hb
  go_enter Try.func17, Try.ntmps17
  go_wp2_with fail
  refine AK.out.mono ?_
  intro e w' hout
  have HO := Lib.hid (AskOut.pre BW.out hout)
  obtain ⟨k, x, m', h', cs', mb', rfl, -⟩ := hout
  clear AK
  go_wp2_with fail
  go_ret2
  exact HO.out

theorem or_bad {w : World} {m : Mem} {h : Hd} {cs : List Nd} {o : Nat} {mb : Option Nat} (r : OSt w m h cs o mb) (a b : Int) (hbad : ([(a : Int), (1 : Int), (b : Int)] : List Int).all (thereB cs) = false) :
    Calls Try.prog 17 #[.pointer (some ⟨o, 0, none⟩), .int .i64 a, .int .i64 b] w fun e w' => e = .returned (.tuple #[.int .i64 0, .int .i64 3]) ∧ Below w.heap.size w w' := by
  have bw := (Below.refl w.heap.size w).alloc (Nat.le_refl _) (.cells #[.int .i64 a, .int .i64 1, .int .i64 b] 3)
  have hr := heap_alloc_new w (.cells #[.int .i64 a, .int .i64 1, .int .i64 b] 3)
  have hx : ∀ (i : Nat) (x : Int), ([(a : Int), (1 : Int), (b : Int)] : List Int)[i]? = some x → (w.alloc (.cells #[.int .i64 a, .int .i64 1, .int .i64 b] 3)).cell? ⟨w.heap.size, i, none⟩ = some (.int .i64 x) := by
    intro i x hx
    match i, x, hx with
    | 0, x, hx => injection hx with hx; rw [← hx]; exact cell_of_row _ _ 0 _ _ _ hr
    | 1, x, hx => injection hx with hx; rw [← hx]; exact cell_of_row _ _ 1 _ _ _ hr
    | 2, x, hx => injection hx with hx; rw [← hx]; exact cell_of_row _ _ 2 _ _ _ hr
    | i + 3, x, hx => simp at hx
  have AK := ask_bad (r.keep bw) (c := 3) (xs := [(a : Int), (1 : Int), (b : Int)]) (by simp) (row_lt hr) hx hbad 0
  change Calls _ _ #[_, _, .slice _ 3 _] _ _ at AK
  have AK := Lib.hid AK
  have BW := Lib.hid bw
  clear bw hr r hbad hx
  go_enter Try.func17, Try.ntmps17
  go_wp2_with fail
  refine AK.out.mono ?_
  rintro e w' ⟨rfl, hb⟩
  have HB := Lib.hid (BW.out.trans (hb.mono BW.out.size))
  clear AK hb
  go_wp2_with fail
  go_ret2
  exact ⟨rfl, HB.out⟩

theorem or_nob {w : World} {pv : Value} (h : NBs w pv) (a b : Int) :
    Calls Try.prog 17 #[pv, .int .i64 a, .int .i64 b] w fun e w' => e = .returned (.tuple #[.int .i64 0, .int .i64 1]) ∧ Below w.heap.size w w' := by
  have bw := (Below.refl w.heap.size w).alloc (Nat.le_refl _) (.cells #[.int .i64 a, .int .i64 1, .int .i64 b] 3)
  have AK := Lib.hid (fun sl => ask_nob (h.keep bw) 0 sl)
  have BW := Lib.hid bw
  clear bw h
  go_enter Try.func17, Try.ntmps17
  go_wp2_with fail
  refine (AK.out _).mono ?_
  rintro e w' ⟨rfl, rfl⟩
  clear AK
  go_wp2_with fail
  go_ret2
  exact ⟨rfl, BW.out⟩

theorem xor_good {w : World} {m : Mem} {h : Hd} {cs : List Nd} {o : Nat} {mb : Option Nat} (r : OSt w m h cs o mb) (hV : 2 ^ h.V ≤ 900000) {a b : Nat} (ha : At cs 0 a) (hb : At cs 0 b) :
    Calls Try.prog 19 #[.pointer (some ⟨o, 0, none⟩), .int .i64 a, .int .i64 b] w (AskOut m h cs o mb ⟨1, a, b, 0⟩ w) := by
  have bw := (Below.refl w.heap.size w).alloc (Nat.le_refl _) (.cells #[.int .i64 a, .int .i64 b] 3)
  have hr := heap_alloc_new w (.cells #[.int .i64 a, .int .i64 b] 3)
  have AK := Lib.hid (ask_good2 (r.keep bw) hV (g := w.heap.size) (cp := 2) (row_lt hr) (fun q => by have := r.own_lt _ q; omega) (cell_of_row _ _ 0 _ _ _ hr) (cell_of_row _ _ 1 _ _ _ hr) ⟨by show 1 < 2; omega, ha, hb, (r.st.good.at0 (by omega))⟩)
  have BW := Lib.hid bw
  clear bw hr r hV ha hb
  go_enter Try.func19, Try.ntmps19
  go_wp2_with fail
  refine AK.out.mono ?_
  intro e w' hout
  have HO := Lib.hid (AskOut.pre BW.out hout)
  obtain ⟨k, x, m', h', cs', mb', rfl, -⟩ := hout
  clear AK
  go_wp2_with fail
  go_ret2
  exact HO.out

theorem xor_bad {w : World} {m : Mem} {h : Hd} {cs : List Nd} {o : Nat} {mb : Option Nat} (r : OSt w m h cs o mb) (a b : Int) (hbad : ([(a : Int), (b : Int)] : List Int).all (thereB cs) = false) :
    Calls Try.prog 19 #[.pointer (some ⟨o, 0, none⟩), .int .i64 a, .int .i64 b] w fun e w' => e = .returned (.tuple #[.int .i64 0, .int .i64 3]) ∧ Below w.heap.size w w' := by
  have bw := (Below.refl w.heap.size w).alloc (Nat.le_refl _) (.cells #[.int .i64 a, .int .i64 b] 3)
  have hr := heap_alloc_new w (.cells #[.int .i64 a, .int .i64 b] 3)
  have hx : ∀ (i : Nat) (x : Int), ([(a : Int), (b : Int)] : List Int)[i]? = some x → (w.alloc (.cells #[.int .i64 a, .int .i64 b] 3)).cell? ⟨w.heap.size, i, none⟩ = some (.int .i64 x) := by
    intro i x hx
    match i, x, hx with
    | 0, x, hx => injection hx with hx; rw [← hx]; exact cell_of_row _ _ 0 _ _ _ hr
    | 1, x, hx => injection hx with hx; rw [← hx]; exact cell_of_row _ _ 1 _ _ _ hr
    | i + 2, x, hx => simp at hx
  have AK := ask_bad (r.keep bw) (c := 2) (xs := [(a : Int), (b : Int)]) (by simp) (row_lt hr) hx hbad 1
  change Calls _ _ #[_, _, .slice _ 2 _] _ _ at AK
  have AK := Lib.hid AK
  have BW := Lib.hid bw
  clear bw hr r hbad hx
  go_enter Try.func19, Try.ntmps19
  go_wp2_with fail
  refine AK.out.mono ?_
  rintro e w' ⟨rfl, hb⟩
  have HB := Lib.hid (BW.out.trans (hb.mono BW.out.size))
  clear AK hb
  go_wp2_with fail
  go_ret2
  exact ⟨rfl, HB.out⟩

theorem xor_nob {w : World} {pv : Value} (h : NBs w pv) (a b : Int) :
    Calls Try.prog 19 #[pv, .int .i64 a, .int .i64 b] w fun e w' => e = .returned (.tuple #[.int .i64 0, .int .i64 1]) ∧ Below w.heap.size w w' := by
  have bw := (Below.refl w.heap.size w).alloc (Nat.le_refl _) (.cells #[.int .i64 a, .int .i64 b] 3)
  have AK := Lib.hid (fun sl => ask_nob (h.keep bw) 1 sl)
  have BW := Lib.hid bw
  clear bw h
  go_enter Try.func19, Try.ntmps19
  go_wp2_with fail
  refine (AK.out _).mono ?_
  rintro e w' ⟨rfl, rfl⟩
  clear AK
  go_wp2_with fail
  go_ret2
  exact ⟨rfl, BW.out⟩

theorem diff_good {w : World} {m : Mem} {h : Hd} {cs : List Nd} {o : Nat} {mb : Option Nat} (r : OSt w m h cs o mb) (hV : 2 ^ h.V ≤ 900000) {a b : Nat} (ha : At cs 0 a) (hb : At cs 0 b) :
    Calls Try.prog 18 #[.pointer (some ⟨o, 0, none⟩), .int .i64 a, .int .i64 b] w (AskOut m h cs o mb ⟨0, b, 0, a⟩ w) := by
  have bw := (Below.refl w.heap.size w).alloc (Nat.le_refl _) (.cells #[.int .i64 b, .int .i64 0, .int .i64 a] 3)
  have hr := heap_alloc_new w (.cells #[.int .i64 b, .int .i64 0, .int .i64 a] 3)
  have AK := Lib.hid (ask_good3 (r.keep bw) hV (g := w.heap.size) (cp := 3) (row_lt hr) (fun q => by have := r.own_lt _ q; omega) (cell_of_row _ _ 0 _ _ _ hr) (cell_of_row _ _ 1 _ _ _ hr) (cell_of_row _ _ 2 _ _ _ hr) ⟨by show 0 < 2; omega, hb, (r.st.good.at0 (by omega)), ha⟩)
  have BW := Lib.hid bw
  clear bw hr r hV ha hb
  go_enter Try.func18, Try.ntmps18
  go_wp2_with fail
  refine AK.out.mono ?_
  intro e w' hout
  have HO := Lib.hid (AskOut.pre BW.out hout)
  obtain ⟨k, x, m', h', cs', mb', rfl, -⟩ := hout
  clear AK
  go_wp2_with fail
  go_ret2
  exact HO.out

theorem diff_bad {w : World} {m : Mem} {h : Hd} {cs : List Nd} {o : Nat} {mb : Option Nat} (r : OSt w m h cs o mb) (a b : Int) (hbad : ([(b : Int), (0 : Int), (a : Int)] : List Int).all (thereB cs) = false) :
    Calls Try.prog 18 #[.pointer (some ⟨o, 0, none⟩), .int .i64 a, .int .i64 b] w fun e w' => e = .returned (.tuple #[.int .i64 0, .int .i64 3]) ∧ Below w.heap.size w w' := by
  have bw := (Below.refl w.heap.size w).alloc (Nat.le_refl _) (.cells #[.int .i64 b, .int .i64 0, .int .i64 a] 3)
  have hr := heap_alloc_new w (.cells #[.int .i64 b, .int .i64 0, .int .i64 a] 3)
  have hx : ∀ (i : Nat) (x : Int), ([(b : Int), (0 : Int), (a : Int)] : List Int)[i]? = some x → (w.alloc (.cells #[.int .i64 b, .int .i64 0, .int .i64 a] 3)).cell? ⟨w.heap.size, i, none⟩ = some (.int .i64 x) := by
    intro i x hx
    match i, x, hx with
    | 0, x, hx => injection hx with hx; rw [← hx]; exact cell_of_row _ _ 0 _ _ _ hr
    | 1, x, hx => injection hx with hx; rw [← hx]; exact cell_of_row _ _ 1 _ _ _ hr
    | 2, x, hx => injection hx with hx; rw [← hx]; exact cell_of_row _ _ 2 _ _ _ hr
    | i + 3, x, hx => simp at hx
  have AK := ask_bad (r.keep bw) (c := 3) (xs := [(b : Int), (0 : Int), (a : Int)]) (by simp) (row_lt hr) hx hbad 0
  change Calls _ _ #[_, _, .slice _ 3 _] _ _ at AK
  have AK := Lib.hid AK
  have BW := Lib.hid bw
  clear bw hr r hbad hx
  go_enter Try.func18, Try.ntmps18
  go_wp2_with fail
  refine AK.out.mono ?_
  rintro e w' ⟨rfl, hb⟩
  have HB := Lib.hid (BW.out.trans (hb.mono BW.out.size))
  clear AK hb
  go_wp2_with fail
  go_ret2
  exact ⟨rfl, HB.out⟩

theorem diff_nob {w : World} {pv : Value} (h : NBs w pv) (a b : Int) :
    Calls Try.prog 18 #[pv, .int .i64 a, .int .i64 b] w fun e w' => e = .returned (.tuple #[.int .i64 0, .int .i64 1]) ∧ Below w.heap.size w w' := by
  have bw := (Below.refl w.heap.size w).alloc (Nat.le_refl _) (.cells #[.int .i64 b, .int .i64 0, .int .i64 a] 3)
  have AK := Lib.hid (fun sl => ask_nob (h.keep bw) 0 sl)
  have BW := Lib.hid bw
  clear bw h
  go_enter Try.func18, Try.ntmps18
  go_wp2_with fail
  refine (AK.out _).mono ?_
  rintro e w' ⟨rfl, rfl⟩
  clear AK
  go_wp2_with fail
  go_ret2
  exact ⟨rfl, BW.out⟩

theorem ite_good {w : World} {m : Mem} {h : Hd} {cs : List Nd} {o : Nat} {mb : Option Nat} (r : OSt w m h cs o mb) (hV : 2 ^ h.V ≤ 900000) {a b c : Nat} (ha : At cs 0 a) (hb : At cs 0 b) (hc : At cs 0 c) :
    Calls Try.prog 25 #[.pointer (some ⟨o, 0, none⟩), .int .i64 a, .int .i64 b, .int .i64 c] w (AskOut m h cs o mb ⟨0, a, b, c⟩ w) := by
  have bw := (Below.refl w.heap.size w).alloc (Nat.le_refl _) (.cells #[.int .i64 a, .int .i64 b, .int .i64 c] 3)
  have hr := heap_alloc_new w (.cells #[.int .i64 a, .int .i64 b, .int .i64 c] 3)
  have AK := Lib.hid (ask_good3 (r.keep bw) hV (g := w.heap.size) (cp := 3) (row_lt hr) (fun q => by have := r.own_lt _ q; omega) (cell_of_row _ _ 0 _ _ _ hr) (cell_of_row _ _ 1 _ _ _ hr) (cell_of_row _ _ 2 _ _ _ hr) ⟨by show 0 < 2; omega, ha, hb, hc⟩)
  have BW := Lib.hid bw
  clear bw hr r hV ha hb hc
  go_enter Try.func25, Try.ntmps25
  go_wp2_with fail
  refine AK.out.mono ?_
  intro e w' hout
  have HO := Lib.hid (AskOut.pre BW.out hout)
  obtain ⟨k, x, m', h', cs', mb', rfl, -⟩ := hout
  clear AK
  go_wp2_with fail
  go_ret2
  exact HO.out

theorem ite_bad {w : World} {m : Mem} {h : Hd} {cs : List Nd} {o : Nat} {mb : Option Nat} (r : OSt w m h cs o mb) (a b c : Int) (hbad : ([(a : Int), (b : Int), (c : Int)] : List Int).all (thereB cs) = false) :
    Calls Try.prog 25 #[.pointer (some ⟨o, 0, none⟩), .int .i64 a, .int .i64 b, .int .i64 c] w fun e w' => e = .returned (.tuple #[.int .i64 0, .int .i64 3]) ∧ Below w.heap.size w w' := by
  have bw := (Below.refl w.heap.size w).alloc (Nat.le_refl _) (.cells #[.int .i64 a, .int .i64 b, .int .i64 c] 3)
  have hr := heap_alloc_new w (.cells #[.int .i64 a, .int .i64 b, .int .i64 c] 3)
  have hx : ∀ (i : Nat) (x : Int), ([(a : Int), (b : Int), (c : Int)] : List Int)[i]? = some x → (w.alloc (.cells #[.int .i64 a, .int .i64 b, .int .i64 c] 3)).cell? ⟨w.heap.size, i, none⟩ = some (.int .i64 x) := by
    intro i x hx
    match i, x, hx with
    | 0, x, hx => injection hx with hx; rw [← hx]; exact cell_of_row _ _ 0 _ _ _ hr
    | 1, x, hx => injection hx with hx; rw [← hx]; exact cell_of_row _ _ 1 _ _ _ hr
    | 2, x, hx => injection hx with hx; rw [← hx]; exact cell_of_row _ _ 2 _ _ _ hr
    | i + 3, x, hx => simp at hx
  have AK := ask_bad (r.keep bw) (c := 3) (xs := [(a : Int), (b : Int), (c : Int)]) (by simp) (row_lt hr) hx hbad 0
  change Calls _ _ #[_, _, .slice _ 3 _] _ _ at AK
  have AK := Lib.hid AK
  have BW := Lib.hid bw
  clear bw hr r hbad hx
  go_enter Try.func25, Try.ntmps25
  go_wp2_with fail
  refine AK.out.mono ?_
  rintro e w' ⟨rfl, hb⟩
  have HB := Lib.hid (BW.out.trans (hb.mono BW.out.size))
  clear AK hb
  go_wp2_with fail
  go_ret2
  exact ⟨rfl, HB.out⟩

theorem ite_nob {w : World} {pv : Value} (h : NBs w pv) (a b c : Int) :
    Calls Try.prog 25 #[pv, .int .i64 a, .int .i64 b, .int .i64 c] w fun e w' => e = .returned (.tuple #[.int .i64 0, .int .i64 1]) ∧ Below w.heap.size w w' := by
  have bw := (Below.refl w.heap.size w).alloc (Nat.le_refl _) (.cells #[.int .i64 a, .int .i64 b, .int .i64 c] 3)
  have AK := Lib.hid (fun sl => ask_nob (h.keep bw) 0 sl)
  have BW := Lib.hid bw
  clear bw h
  go_enter Try.func25, Try.ntmps25
  go_wp2_with fail
  refine (AK.out _).mono ?_
  rintro e w' ⟨rfl, rfl⟩
  clear AK
  go_wp2_with fail
  go_ret2
  exact ⟨rfl, BW.out⟩
end Go.Proofs.Ytfdebadmikmnaaa
