/- Contract of layer 3 (node): Mk. -/
import Derived.Test.YtfdebadmikmnaaaNAdd
namespace Go.Proofs.Ytfdebadmikmnaaa
open Go.ChangeShapes Go.WideShapes Go.ChangeAt Go.RowKit

theorem mk_arg {w : World} {m : Mem} {h : Hd} {cs : List Nd} (l : Lay w m h cs) (v a b : Int) (hv : v < 0 ∨ h.V ≤ v ∨ behindB cs a v = false ∨ behindB cs b v = false) :
    Calls Try.prog 29 #[ptrV m.s, .int .i64 v, .int .i64 a, .int .i64 b] w fun e w' => e = .returned (.tuple #[.int .i64 0, .int .i64 1]) ∧ w = w' := by
  obtain ⟨_, c1, -⟩ := l.tops
  have H := Lib.hid (given_store l)
  have HA := Lib.hid (behind_any l a v)
  have HB := Lib.hid (behind_any l b v)
  unfold ptrV at *
  by_cases h0 : v < 0
  · clear hv
    go_enter Try.func29, Try.ntmps29
    go_wp2_with fail
    refine H.out.mono ?_
    rintro e w' ⟨rfl, rfl⟩
    go_wp2_with fail
    go_ret2
    exact ⟨rfl, rfl⟩
  · by_cases h1 : (h.V : Int) ≤ v
    · clear hv
      go_enter Try.func29, Try.ntmps29
      go_wp2_with fail
      refine H.out.mono ?_
      rintro e w' ⟨rfl, rfl⟩
      go_wp2_with fail
      go_ret2
      exact ⟨rfl, rfl⟩
    · cases ha : behindB cs a v with
      | false =>
        rw [ha] at HA
        clear hv ha
        go_enter Try.func29, Try.ntmps29
        go_wp2_with fail
        refine H.out.mono ?_
        rintro e w' ⟨rfl, rfl⟩
        go_wp2_with fail
        refine HA.out.mono ?_
        rintro e w' ⟨rfl, rfl⟩
        go_wp2_with fail
        go_ret2
        exact ⟨rfl, rfl⟩
      | true =>
        have hb : behindB cs b v = false := by
          rcases hv with h | h | h | h
          · omega
          · omega
          · rw [ha] at h; cases h
          · exact h
        rw [ha] at HA
        rw [hb] at HB
        clear hv ha hb
        go_enter Try.func29, Try.ntmps29
        go_wp2_with fail
        refine H.out.mono ?_
        rintro e w' ⟨rfl, rfl⟩
        go_wp2_with fail
        refine HA.out.mono ?_
        rintro e w' ⟨rfl, rfl⟩
        go_wp2_with fail
        refine HB.out.mono ?_
        rintro e w' ⟨rfl, rfl⟩
        go_wp2_with fail
        go_ret2
        exact ⟨rfl, rfl⟩

theorem mk_same {w : World} {m : Mem} {h : Hd} {cs : List Nd} (l : Lay w m h cs) {v : Int} {a : Nat} {c : Nd} (h0 : 0 ≤ v) (h1 : v < h.V) (ha : Is cs a c) (hv : v < c.asks) :
    Calls Try.prog 29 #[ptrV m.s, .int .i64 v, .int .i64 a, .int .i64 a] w fun e w' => e = .returned (.tuple #[.int .i64 a, .int .i64 0]) ∧ w = w' := by
  obtain ⟨_, c1, -⟩ := l.tops
  have H := Lib.hid (given_store l)
  have HA := behind_any l a v
  rw [behindB_is ha hv] at HA
  have HA := Lib.hid HA
  unfold ptrV at *
  clear ha hv
  go_enter Try.func29, Try.ntmps29
  go_wp2_with fail
  refine H.out.mono ?_
  rintro e w' ⟨rfl, rfl⟩
  go_wp2_with fail
  refine HA.out.mono ?_
  rintro e w' ⟨rfl, rfl⟩
  go_wp2_with fail
  refine HA.out.mono ?_
  rintro e w' ⟨rfl, rfl⟩
  go_wp2_with fail
  go_ret2
  exact ⟨rfl, rfl⟩

/-- Up to the asked table: what is known of the world. -/
structure Ask (m : Mem) (h : Hd) (cs : List Nd) (f : Key → Option Int) (n x : Nat) (v : Int) (a b : Nat) (w0 wr : World) : Prop where
  st : St wr m h cs
  tab : Tab wr m.t m.b f n
  below : Below w0.heap.size w0 wr
  box : wr.heap[x]? = some (.cells #[.int .i64 v, .int .i64 a, .int .i64 b, .int .i64 0] 81 (0, 0))

theorem Ask.keep {m : Mem} {h : Hd} {cs : List Nd} {f : Key → Option Int} {n x : Nat} {v : Int} {a b : Nat} {w0 wr w' : World} (i : Ask m h cs f n x v a b w0 wr) (hb : Below wr.heap.size wr w') : Ask m h cs f n x v a b w0 w' := by
  have hx : x < wr.heap.size := by
    rcases Nat.lt_or_ge x wr.heap.size with h1 | h1
    · exact h1
    · have := i.box; rw [Array.getElem?_eq_none h1] at this; cases this
  exact ⟨i.st.keep hb, i.tab.keep hb, i.below.trans (hb.mono i.below.size), (hb.block _ hx).trans i.box⟩

theorem Ask.reads {m : Mem} {h : Hd} {cs : List Nd} {f : Key → Option Int} {n x : Nat} {v : Int} {a b : Nat} {w0 wr : World} (i : Ask m h cs f n x v a b w0 wr) :
    wr.cell? ⟨m.s, 4, none⟩ = some (.pointer (some ⟨m.t, 0, none⟩)) ∧ wr.cell? ⟨x, 0, none⟩ = some (.int .i64 v) ∧ wr.cell? ⟨x, 1, none⟩ = some (.int .i64 a) ∧ wr.cell? ⟨x, 2, none⟩ = some (.int .i64 b) ∧ wr.cell? ⟨x, 3, none⟩ = some (.int .i64 0) := by
  obtain ⟨_, _, _, _, c4, -⟩ := i.st.lay.tops
  exact ⟨c4, cell_of_row wr x 0 _ _ _ i.box, cell_of_row wr x 1 _ _ _ i.box, cell_of_row wr x 2 _ _ _ i.box, cell_of_row wr x 3 _ _ _ i.box⟩

theorem get4_some {w : World} {t b0 : Nat} {f : Key → Option Int} {n : Nat} (h : Tab w t b0 f n) (v : Int) (a b : Nat) (z : Int) (hk : f ⟨v, a, b⟩ = some z) :
    Calls Try.prog 42 #[.pointer (some ⟨t, 0, none⟩), .agg #[.int .i64 v, .int .i64 a, .int .i64 b]] w fun e w' => e = .returned (.tuple #[.int .i64 z, .int .i64 0]) ∧ Below w.heap.size w w' := get_some h ⟨v, a, b⟩ z hk
theorem get4_none {w : World} {t b0 : Nat} {f : Key → Option Int} {n : Nat} (h : Tab w t b0 f n) (v : Int) (a b : Nat) (hk : f ⟨v, a, b⟩ = none) :
    Calls Try.prog 42 #[.pointer (some ⟨t, 0, none⟩), .agg #[.int .i64 v, .int .i64 a, .int .i64 b]] w fun e w' => e = .returned (.tuple #[.int .i64 0, .int .i64 3]) ∧ Below w.heap.size w w' := get_none h ⟨v, a, b⟩ hk

def MkFullOut (w : World) (e : Ending) (w' : World) : Prop := e = .returned (.tuple #[.int .i64 0, .int .i64 30]) ∧ Below w.heap.size w w'

def MkOut (m : Mem) (h : Hd) (cs : List Nd) (v : Int) (a b : Nat) (w : World) (e : Ending) (w' : World) : Prop :=
  ∃ (k : Nat) (m' : Mem) (lf' : Nat), e = .returned (.tuple #[.int .i64 (k : Int), .int .i64 0]) ∧ St w' m' { h with lf := lf', nodes := cnt cs + 1, made := wrap64 (h.made + 1) } (addAt cs k ⟨v, a, b, 0⟩) ∧ Free cs k ∧ 2 ≤ k ∧ (∀ j, j < k → ∃ d, Is cs j d) ∧
    Turn m.own w w' ∧ m'.s = m.s ∧ ∀ i, m'.own i → m.own i ∨ w.heap.size ≤ i

def MkNoneOut (m : Mem) (h : Hd) (cs : List Nd) (v : Int) (a b : Nat) (w : World) (e : Ending) (w' : World) : Prop := if cnt cs = h.B then MkFullOut w e w' else MkOut m h cs v a b w e w'

set_option maxHeartbeats 1000000 in
set_option maxRecDepth 100000 in
/-- The node that there is of these three. -/
theorem mk_old {w : World} {m : Mem} {h : Hd} {cs : List Nd} (s : St w m h cs) {v : Int} {a b k : Nat} {ca cb ck : Nd} (h0 : 0 ≤ v) (h1 : v < h.V) (ha : Is cs a ca) (hva : v < ca.asks) (hb : Is cs b cb) (hvb : v < cb.asks) (hab : a ≠ b)
    (hk2 : 2 ≤ k) (hk : Is cs k ck) (hkk : ck.key = ⟨v, a, b⟩) :
    Calls Try.prog 29 #[ptrV m.s, .int .i64 v, .int .i64 a, .int .i64 b] w fun e w' => e = .returned (.tuple #[.int .i64 k, .int .i64 0]) ∧ Below w.heap.size w w' := by
  obtain ⟨_, c1, -⟩ := s.lay.tops
  have H := Lib.hid (given_store s.lay)
  have HA := behind_any s.lay a v
  have HB := behind_any s.lay b v
  rw [behindB_is ha hva] at HA
  rw [behindB_is hb hvb] at HB
  have HA := Lib.hid HA
  have HB := Lib.hid HB
  obtain ⟨f, n, htab, hkeys⟩ := s.tab
  have hf : Hid (f ⟨v, a, b⟩ = some (k : Int)) := (hkeys.says _ _).2 ⟨k, ck, hk2, rfl, hk, hkk.symm⟩
  have hask : Ask m h cs f n w.heap.size v a b w (w.alloc (.cells #[.int .i64 v, .int .i64 a, .int .i64 b, .int .i64 0] 81)) :=
    ⟨s.keep ((Below.refl _ _).alloc (Nat.le_refl _) _), htab.keep ((Below.refl _ _).alloc (Nat.le_refl _) _), (Below.refl _ _).alloc (Nat.le_refl _) _, heap_alloc_new w _⟩
  have hne : ((a : Int) == (b : Int)) = false := by simp; omega
  unfold ptrV at *
  clear ha hva hb hvb htab hkeys hk hkk hk2 hab s
  go_enter Try.func29, Try.ntmps29
  go_wp2_with fail
  refine H.out.mono ?_
  rintro e w' ⟨rfl, rfl⟩
  go_wp2_with fail
  refine HA.out.mono ?_
  rintro e w' ⟨rfl, rfl⟩
  go_wp2_with fail
  refine HB.out.mono ?_
  rintro e w' ⟨rfl, rfl⟩
  go_wp2_with fail
  obtain ⟨x, hx⟩ : ∃ x, w.heap.size = x := ⟨_, rfl⟩
  rw [hx] at hask ⊢
  revert hask
  generalize w.alloc (.cells #[.int .i64 v, .int .i64 a, .int .i64 b, .int .i64 0] 81) = w1
  intro hask
  have HX := Lib.hid hx
  clear hx c1 hne
  obtain ⟨s0, s1, s2, s3, s4⟩ := hask.reads
  have HW := Lib.hid hask
  clear hask
  go_region_held3 (fun w' => w'.cell? ⟨m.s, 4, none⟩ = some (.pointer (some ⟨m.t, 0, none⟩)) ∧ w'.cell? ⟨x, 0, none⟩ = some (.int .i64 v) ∧ w'.cell? ⟨x, 1, none⟩ = some (.int .i64 a) ∧ w'.cell? ⟨x, 2, none⟩ = some (.int .i64 b) ∧ w'.cell? ⟨x, 3, none⟩ = some (.int .i64 0))
    (first | exact ⟨s0, s1, s2, s3, s4⟩ | exact ⟨by assumption, by assumption, by assumption, by assumption, by assumption⟩ | go_keep)
    (first
      | (go_at_call 43; refine (key4 v a b _).mono ?_; rintro e w3 ⟨rfl, hb3⟩; have hi3 := Lib.hid (HW.out.keep (below_undrew hb3)); obtain ⟨t0, t1, t2, t3, t4⟩ := hi3.out.reads; have hb3 := Lib.hid hb3)
      | (go_at_call 42; refine (get4_some hi3.out.tab v a b _ hf.out).mono ?_; rintro e w4 ⟨rfl, hb4⟩; have hi4 := Lib.hid (hi3.out.keep hb4); obtain ⟨q0, q1, q2, q3, q4⟩ := hi4.out.reads; have hb4 := Lib.hid hb4))
  go_wp2_with fail
  go_ret2
  exact ⟨rfl, hi4.out.below⟩

set_option maxHeartbeats 1000000 in
set_option maxRecDepth 100000 in
/-- There is no such node: a new one, or no room. -/
theorem mk_none {w : World} {m : Mem} {h : Hd} {cs : List Nd} (s : St w m h cs) {v : Int} {a b : Nat} {ca cb : Nd} (h0 : 0 ≤ v) (h1 : v < h.V) (ha : Is cs a ca) (hva : v < ca.asks) (hb : Is cs b cb) (hvb : v < cb.asks) (hab : a ≠ b)
    (hn : ∀ j d, 2 ≤ j → Is cs j d → d.key ≠ ⟨v, a, b⟩) :
    Calls Try.prog 29 #[ptrV m.s, .int .i64 v, .int .i64 a, .int .i64 b] w (MkNoneOut m h cs v a b w) := by
  obtain ⟨_, c1, -⟩ := s.lay.tops
  have H := Lib.hid (given_store s.lay)
  have HA := behind_any s.lay a v
  have HB := behind_any s.lay b v
  rw [behindB_is ha hva] at HA
  rw [behindB_is hb hvb] at HB
  have HA := Lib.hid HA
  have HB := Lib.hid HB
  obtain ⟨f, n, htab, hkeys⟩ := s.tab
  have hf : Hid (f ⟨v, a, b⟩ = none) := by
    show f ⟨v, a, b⟩ = none
    cases hq : f ⟨v, a, b⟩ with
    | none => rfl
    | some z =>
      obtain ⟨j, d, hj, _, hd, he⟩ := (hkeys.says _ _).1 hq
      exact absurd he.symm (hn j d hj hd)
  have hask : Ask m h cs f n w.heap.size v a b w (w.alloc (.cells #[.int .i64 v, .int .i64 a, .int .i64 b, .int .i64 0] 81)) :=
    ⟨s.keep ((Below.refl _ _).alloc (Nat.le_refl _) _), htab.keep ((Below.refl _ _).alloc (Nat.le_refl _) _), (Below.refl _ _).alloc (Nat.le_refl _) _, heap_alloc_new w _⟩
  have hne : ((a : Int) == (b : Int)) = false := by simp; omega
  have HAL : Hid (∃ l, Is cs a l ∧ v < l.asks) := ⟨ca, ha, hva⟩
  have HBL : Hid (∃ l, Is cs b l ∧ v < l.asks) := ⟨cb, hb, hvb⟩
  have HN := Lib.hid hn
  have HAB := Lib.hid hab
  unfold ptrV at *
  clear ha hva hb hvb htab hkeys hab s hn
  go_enter Try.func29, Try.ntmps29
  go_wp2_with fail
  refine H.out.mono ?_
  rintro e w' ⟨rfl, rfl⟩
  go_wp2_with fail
  refine HA.out.mono ?_
  rintro e w' ⟨rfl, rfl⟩
  go_wp2_with fail
  refine HB.out.mono ?_
  rintro e w' ⟨rfl, rfl⟩
  go_wp2_with fail
  obtain ⟨x, hx⟩ : ∃ x, w.heap.size = x := ⟨_, rfl⟩
  rw [hx] at hask ⊢
  revert hask
  generalize w.alloc (.cells #[.int .i64 v, .int .i64 a, .int .i64 b, .int .i64 0] 81) = w1
  intro hask
  have HX := Lib.hid hx
  clear hx c1 hne
  obtain ⟨s0, s1, s2, s3, s4⟩ := hask.reads
  have HW := Lib.hid hask
  clear hask
  go_region_held3 (fun w' => w'.cell? ⟨m.s, 4, none⟩ = some (.pointer (some ⟨m.t, 0, none⟩)) ∧ w'.cell? ⟨x, 0, none⟩ = some (.int .i64 v) ∧ w'.cell? ⟨x, 1, none⟩ = some (.int .i64 a) ∧ w'.cell? ⟨x, 2, none⟩ = some (.int .i64 b) ∧ w'.cell? ⟨x, 3, none⟩ = some (.int .i64 0))
    (first | exact ⟨s0, s1, s2, s3, s4⟩ | exact ⟨by assumption, by assumption, by assumption, by assumption, by assumption⟩ | go_keep)
    (first
      | (go_at_call 43; refine (key4 v a b _).mono ?_; rintro e w3 ⟨rfl, hb3⟩; have hi3 := Lib.hid (HW.out.keep (below_undrew hb3)); obtain ⟨t0, t1, t2, t3, t4⟩ := hi3.out.reads; have hb3 := Lib.hid hb3)
      | (go_at_call 42; refine (get4_none hi3.out.tab v a b hf.out).mono ?_; rintro e w4 ⟨rfl, hb4⟩; have hi4 := Lib.hid (hi3.out.keep hb4); obtain ⟨q0, q1, q2, q3, q4⟩ := hi4.out.reads; have hb4 := Lib.hid hb4))
  clear s0 s1 s2 s3 s4 t0 t1 t2 t3 t4 q0 q1 q2 q3 q4
  obtain ⟨_, _, c2, -⟩ := hi4.out.st.lay.tops
  obtain ⟨z, hz⟩ : ∃ z : Int, (h.B : Int) = z := ⟨_, rfl⟩
  rw [hz] at c2
  have hroom := hi4.out.st.room
  have hnodes := hi4.out.st.nodes
  have hbox := hi4.out.box
  by_cases hfull : cnt cs = h.B
  · have HFU := Lib.hid hfull
    have he : (h.nodes == z) = true := by rw [hnodes, hfull, hz]; simp
    clear hroom hnodes hbox hfull hz
    go_wp2_with fail
    go_quiet ((go_at_call 22; exact Calls.quiet_of_same ((len_store (m := m) (h := h) (cs := cs) (hi4.out.st.lay.drewN _)).mono fun _ _ hh => ⟨hh.1, hh.2.symm⟩)))
    go_wp2_with fail
    go_ret2
    unfold MkNoneOut
    rw [if_pos HFU.out]
    exact ⟨rfl, hi4.out.below.trans ((below_drewN0 w4 _).mono hi4.out.below.size)⟩
  · have HFU := Lib.hid hfull
    have he : (h.nodes == z) = false := by rw [hnodes, ← hz]; simp; omega
    have HR : Hid (cnt cs < h.B) := by show cnt cs < h.B; omega
    have b0 := cell_of_row w4 x 0 _ _ _ hbox
    have b1 := cell_of_row w4 x 1 _ _ _ hbox
    have b2 := cell_of_row w4 x 2 _ _ _ hbox
    have b3 := cell_of_row w4 x 3 _ _ _ hbox
    simp at b0 b1 b2 b3
    clear hroom hnodes hbox hfull hz
    go_wp2_with fail
    go_quiet ((go_at_call 22; exact Calls.quiet_of_same ((len_store (m := m) (h := h) (cs := cs) (hi4.out.st.lay.drewN _)).mono fun _ _ hh => ⟨hh.1, hh.2.symm⟩)))
    go_wp2_with fail
    refine (add_any_store (hi4.out.st.keep (below_drewN0 w4 _)) HR.out h0 h1 HAB.out HAL.out HBL.out HN.out).mono ?_
    rintro e w5 ⟨k, m', lf', rfl, hst, hf', hk2, hfu, htu, hs', hown⟩
    have HOUT : Hid (MkOut m h cs v a b w (.returned (.tuple #[.int .i64 k, .int .i64 0])) w5) := ⟨k, m', lf', rfl, hst, hf', hk2, hfu, (Turn.of_below (hi4.out.below.trans ((below_drewN0 w4 _).mono hi4.out.below.size))).trans htu (fun i hi => .inl hi), hs', fun i hi => (hown i hi).imp id (fun hh => Nat.le_trans hi4.out.below.size hh)⟩
    clear hst hf' hk2 hfu htu hs' hown
    go_wp2_with fail
    go_ret2
    unfold MkNoneOut
    rw [if_neg HFU.out]
    exact HOUT.out

end Go.Proofs.Ytfdebadmikmnaaa
