/- Contract of layer 2 (hash): rebuild. -/
import Derived.Test.YtfdebadmikmnaaaHOps
namespace Go.Proofs.Ytfdebadmikmnaaa
open Go.ChangeShapes Go.WideShapes Go.ChangeAt Go.RowKit

/-- The first i of the old places have been put into the new ones. -/
structure Half (ps : List Pl) (i : Nat) (f : Key → Option Int) (n : Nat) : Prop where
  says : ∀ k v, f k = some v ↔ ∃ j : Nat, j < i ∧ ps[j]? = some ⟨1, k, v⟩
  count : n = (ps.take i).countP full

theorem Half.zero (ps : List Pl) : Half ps 0 (fun _ => none) 0 :=
  ⟨fun k v => ⟨fun h => (by cases h), fun ⟨j, hj, _⟩ => absurd hj (by omega)⟩, by simp⟩

theorem take_count (ps : List Pl) (i : Nat) (p : Pl) (hp : ps[i]? = some p) : (ps.take (i + 1)).countP full = (ps.take i).countP full + if full p then 1 else 0 := by
  have hi : i < ps.length := (List.getElem?_eq_some_iff.1 hp).1
  have he : ps[i] = p := (List.getElem?_eq_some_iff.1 hp).2
  rw [List.take_succ_eq_append_getElem hi, List.countP_append, he]
  simp

theorem Half.skip {ps : List Pl} {i : Nat} {f : Key → Option Int} {n : Nat} (h : Half ps i f n) {p : Pl} (hp : ps[i]? = some p) (h1 : p.st ≠ 1) : Half ps (i + 1) f n := by
  refine ⟨fun k v => ?_, ?_⟩
  · rw [h.says]
    constructor
    · rintro ⟨j, hj, e⟩; exact ⟨j, by omega, e⟩
    · rintro ⟨j, hj, e⟩
      refine ⟨j, ?_, e⟩
      rcases Nat.lt_or_ge j i with h2 | h2
      · exact h2
      · obtain rfl : j = i := by omega
        rw [hp] at e; injection e with e; subst e; exact absurd rfl h1
  · rw [take_count ps i p hp, ← h.count]
    simp [full, h1]

theorem Half.fresh {h : Key → Nat} {ps : List Pl} {i : Nat} {f : Key → Option Int} {n : Nat} (hh : Half ps i f n) (g : Good h ps) {k : Key} {v : Int} (hp : ps[i]? = some ⟨1, k, v⟩) : f k = none := by
  cases hf : f k with
  | none => rfl
  | some v' =>
    obtain ⟨j, hj, e⟩ := (hh.says k v').1 hf
    have := g.uniq _ _ _ _ _ e hp
    omega

theorem Half.next {h : Key → Nat} {ps : List Pl} {i : Nat} {f : Key → Option Int} {n : Nat} (hh : Half ps i f n) (g : Good h ps) {k : Key} {v : Int} (hp : ps[i]? = some ⟨1, k, v⟩) : Half ps (i + 1) (fset f k (some v)) (n + 1) := by
  refine ⟨fun k' v' => ?_, ?_⟩
  · unfold fset
    by_cases e : k' = k
    · subst e
      rw [if_pos rfl]
      constructor
      · intro e; injection e with e; subst e; exact ⟨i, by omega, hp⟩
      · rintro ⟨j, hj, e⟩
        have := g.uniq _ _ _ _ _ e hp
        subst this
        rw [hp] at e; injection e with e; injection e with _ _ e; rw [e]
    · rw [if_neg e, hh.says]
      constructor
      · rintro ⟨j, hj, e⟩; exact ⟨j, by omega, e⟩
      · rintro ⟨j, hj, e2⟩
        refine ⟨j, ?_, e2⟩
        rcases Nat.lt_or_ge j i with h2 | h2
        · exact h2
        · obtain rfl : j = i := by omega
          rw [hp] at e2; injection e2 with e2; injection e2 with _ e2 _; exact absurd e2.symm e
  · rw [take_count ps i _ hp, ← hh.count]; rfl

theorem Half.all {h : Key → Nat} {ps : List Pl} {f f' : Key → Option Int} {n n' u : Nat} (r : Rep h ps f n u) (hh : Half ps ps.length f' n') : f' = f ∧ n' = n := by
  refine ⟨funext fun k => Option.ext fun v => ?_, ?_⟩
  · rw [hh.says, r.says]
    constructor
    · rintro ⟨j, _, e⟩; exact ⟨j, e⟩
    · rintro ⟨j, e⟩; exact ⟨j, (List.getElem?_eq_some_iff.1 e).1, e⟩
  · rw [hh.count, List.take_length, r.keys]

theorem Half.le {h : Key → Nat} {ps : List Pl} {f f' : Key → Option Int} {n n' u i : Nat} (r : Rep h ps f n u) (hh : Half ps i f' n') : n' ≤ n := by
  rw [hh.count, ← r.keys]
  exact List.Sublist.countP_le (List.take_sublist _ _)

/-- The old places, where they were. -/
def Old (w : World) (b : Nat) (ps : List Pl) : Prop := w.heap[b]? = some (.cells (cellsAll ps).toArray 114 (0, 0))

theorem Old.cells {w : World} {b : Nat} {ps : List Pl} (h : Old w b ps) {x : Nat} {p : Pl} (hx : ps[x]? = some p) :
    w.cell? ⟨b, x * 5, none⟩ = some (.int .i64 p.st) ∧ w.cell? ⟨b, x * 5 + 1, none⟩ = some (.int .i64 p.k.a) ∧ w.cell? ⟨b, x * 5 + 2, none⟩ = some (.int .i64 p.k.b) ∧
    w.cell? ⟨b, x * 5 + 3, none⟩ = some (.int .i64 p.k.c) ∧ w.cell? ⟨b, x * 5 + 4, none⟩ = some (.int .i64 p.v) := by
  have hc : ∀ c, c < 5 → w.cell? ⟨b, x * 5 + c, none⟩ = (cellsOf p)[c]? := by
    intro c hc
    rw [cell_of_row w b _ _ _ _ h, List.getElem?_toArray]
    exact cellsAll_get ps x p c hx hc
  exact ⟨hc 0 (by omega), hc 1 (by omega), hc 2 (by omega), hc 3 (by omega), hc 4 (by omega)⟩

theorem Old.lt {w : World} {b : Nat} {ps : List Pl} (h : Old w b ps) : b < w.heap.size := by
  rcases Nat.lt_or_ge b w.heap.size with h1 | h1
  · exact h1
  · unfold Old at h; rw [Array.getElem?_eq_none h1] at h; cases h

theorem Old.below {w w' : World} {b : Nat} {ps : List Pl} (h : Old w b ps) (hb : Below w.heap.size w w') : Old w' b ps := (hb.block b h.lt).trans h
theorem Old.mut {w w' : World} {b t b' : Nat} {ps : List Pl} (h : Old w b ps) (hb : Mut t b' w w') (h1 : b ≠ t) (h2 : b ≠ b') : Old w' b ps := (hb.block b h.lt h1 h2).trans h

/-- A round's head in rebuild. -/
def RebRel (t b m : Nat) (ps : List Pl) (w : World) (ix : Value) (wr : World) : Prop :=
  ∃ (i : Nat) (ps' : List Pl) (f' : Key → Option Int) (n' : Nat), i ≤ ps.length ∧ ix = .int .i64 i ∧ Full wr t w.heap.size ps' f' n' n' ∧ Hid (ps'.length = m) ∧ Half ps i f' n' ∧ Old wr b ps ∧ Mut t b w wr

def RebOut (t b : Nat) (f : Key → Option Int) (n : Nat) (w : World) (e : Ending) (w' : World) : Prop :=
  ∃ b' ps', e = .returned (.tuple #[]) ∧ Full w' t b' ps' f n n ∧ 2 * (n + 1) ≤ ps'.length ∧ w.heap.size ≤ b' ∧ Mut t b w w'

theorem Full.keep {w w' : World} {t b : Nat} {ps : List Pl} {f : Key → Option Int} {n u : Nat} (h : Full w t b ps f n u) (hb : Below w.heap.size w w') : Full w' t b ps f n u :=
  ⟨h.lies.keep hb, h.rep, h.pow⟩

theorem reb_next {t b m i x n' : Nat} {ps ps' : List Pl} {w wr w2 w3 : World} {k : Key} {v : Int} {f f' : Key → Option Int} {n u : Nat} {q : Pl} (r : Rep (home ps.length) ps f n u) (hbw : b < w.heap.size) (hne : t ≠ b)
    (hp : ps[i]? = some ⟨1, k, v⟩) (hfull : Full wr t w.heap.size ps' f' n' n') (hlen : ps'.length = m) (hhalf : Half ps i f' n') (hold : Old w2 b ps) (hmut : Mut t b w wr) (hb2 : Below wr.heap.size wr w2)
    (hq1 : q.st = 0 ∨ q.st ≠ 0 ∧ q.st ≠ 1) (hrep : Rep (home ps'.length) (ps'.set x ⟨1, k, v⟩) (fset f' k (some v)) (n' + 1) (if q.st = 0 then n' + 1 else n'))
    (hl : Lies w3 t w.heap.size (ps'.set x ⟨1, k, v⟩) (n' + 1) (if q.st = 0 then n' + 1 else n')) (hm : Mut t w.heap.size w2 w3) :
    RebRel t b m ps w (.int .i64 ((i : Int) + 1)) w3 := by
  have hu : (if q.st = 0 then n' + 1 else n') = n' + 1 := by
    rcases hq1 with h | ⟨h, _⟩
    · rw [if_pos h]
    · have := hrep.le; rw [if_neg h] at this; omega
  rw [hu] at hrep hl
  have hi : i < ps.length := (List.getElem?_eq_some_iff.1 hp).1
  refine ⟨i + 1, _, _, n' + 1, hi, by go_num, ⟨hl, by rw [List.length_set]; exact hrep, by rw [List.length_set]; exact hfull.pow⟩, Lib.hid (by rw [List.length_set]; exact hlen), hhalf.next r.good hp, hold.mut hm hne.symm (by omega), ?_⟩
  exact (hmut.below hb2).trans hm (.inr (Nat.le_refl _))

theorem rebuild_any {t b : Nat} {ps : List Pl} {f : Key → Option Int} {n u : Nat} {w : World} (h : Full w t b ps f n u) (hn : n < 1048576) :
    Calls Try.prog 65 #[.pointer (some ⟨t, 0, none⟩)] w (RebOut t b f n w) := by
  obtain ⟨c0, c1, c2, c3⟩ := h.lies.tops
  obtain ⟨hl1, hl2⟩ := h.len
  obtain ⟨f1, f2⟩ := h.lies.free
  have ht := h.lies.lt_t
  have hne := h.lies.ne
  go_enter Try.func65, Try.ntmps65
  go_wp2
  go_loop [2] (fun s => ∃ (pw m : Nat), Hid (m = 2 ^ pw) ∧ 3 ≤ pw ∧ pw ≤ 22 ∧ 8 ≤ m ∧ m ≤ 4194304 ∧ s = .int .i64 m) (fun s => 2 * (n + 1) - (intOf s).toNat)
  case atStart => exact ⟨3, 8, rfl, by omega, by omega, by omega, by omega, rfl⟩
  case round =>
    obtain ⟨pw, m, hm, hp1, hp2, hm1, hm2, rfl⟩ := hrel
    by_cases hlt : m < 2 * (n + 1)
    · have hlt' : (m : Int) < 2 * ((n : Int) + 1) := by omega
      go_wp2
      go_round
      case rel =>
        have hm := hm.out
        have hp3 : pw ≤ 20 := by
          rcases Nat.lt_or_ge 20 pw with h1 | h1
          · have : 2 ^ 21 ≤ 2 ^ pw := Nat.pow_le_pow_right (by omega) h1
            omega
          · exact h1
        exact ⟨pw + 1, m * 2, by show _ = _; rw [hm, Nat.pow_succ], by omega, by omega, by omega, by omega, by go_num⟩
      case measure => simp [intOf]; omega
    · have hlt' : ¬ (m : Int) < 2 * ((n : Int) + 1) := by omega
      have hmk := run_make_places m (by omega)
      obtain ⟨L, hL⟩ : ∃ L, (cellsAll (rows0 m)).toArray = L := ⟨_, rfl⟩
      rw [hL] at hmk
      have HL := Lib.hid hL
      clear hL
      go_wp2
      have hlies := lies_made (t := t) (m := m) h.lies.head HL.out
      have hfull := full_new hlies hm.out hp1 (by omega)
      have hold : Old _ b ps := Old.mut (t := t) (b' := w.heap.size) h.lies.row (mut_made w.heap.size (.cells L 114) (v1 := .slice (some ⟨w.heap.size, 0, none⟩) m m) (v2 := .int .i64 0) (v3 := .int .i64 0)) hne.symm (by have := h.lies.lt_b; omega)
      have hmut : Mut t b w _ := mut_made b (.cells L 114) (v1 := .slice (some ⟨w.heap.size, 0, none⟩) m m) (v2 := .int .i64 0) (v3 := .int .i64 0)
      go_loopw [34] (RebRel t b m ps w) (fun ix _ => ps.length - (intOf ix).toNat)
      case atStart => exact ⟨0, _, _, 0, Nat.zero_le _, rfl, hfull, Lib.hid (by simp [rows0]), Half.zero ps, hold, hmut⟩
      case round =>
        clear hlies hfull hold hmut
        obtain ⟨i, ps', f', n', hi, rfl, hfull, hlen, hhalf, hold, hmut⟩ := hrel
        by_cases hlt2 : i < ps.length
        · obtain ⟨p, hp⟩ : ∃ p, ps[i]? = some p := ⟨_, List.getElem?_eq_getElem hlt2⟩
          obtain ⟨d0, d1, d2, d3, d4⟩ := hold.cells hp
          have HP := Lib.hid hp
          clear hp
          by_cases h1 : p.st = 1
          · obtain ⟨st, k, v⟩ := p
            simp only at h1
            subst h1
            have hn' := hhalf.le h.rep
            have hfr := hhalf.fresh h.rep.good HP.out
            have HF := Lib.hid hfr
            have hu' : n' < ps'.length := by have := hlen.out; omega
            have hp8 := hfull.len.2
            have F1 := Lib.hid hfull
            clear hfr
            go_wp2_with fail
            refine (find_full F1.out hu' k).mono ?_
            rintro e w2 ⟨x, there, rfl, hx, hfound, hb2⟩
            have hold2 := hold.below hb2
            obtain ⟨g0, g1, g2, g3, g4⟩ := hold2.cells HP.out
            cases there with
            | true =>
              obtain ⟨v', hv, _⟩ := F1.out.rep.found_some hfound
              rw [HF.out] at hv
              cases hv
            | false =>
              obtain ⟨q, hq, hq1, hrep⟩ := F1.out.rep.put_new v hfound
              have hul := F1.out.rep.len
              have HQ := Lib.hid hq
              have HR := Lib.hid hrep
              have HQ1 := Lib.hid hq1
              clear hq hrep hq1 hfound
              go_wp2_with fail
              refine (set_any t w.heap.size ps' n' n' x q ⟨1, k, v⟩ _ (F1.out.lies.keep hb2) (by omega) (by omega) (by omega) HQ.out).mono ?_
              rintro e w3 ⟨rfl, hl3, hm3⟩
              go_wp2_with fail
              go_roundw
              case rel => exact reb_next h.rep h.lies.lt_b hne HP.out F1.out hlen.out hhalf hold2 hmut hb2 HQ1.out HR.out hl3 hm3
              case measure => simp [intOf]; omega
          · obtain ⟨y, hy⟩ : ∃ y : Int, (p.st : Int) = y := ⟨_, rfl⟩
            have y1 : (y == 1) = false := by simp; omega
            rw [hy] at d0
            have HN := Lib.hid (hhalf.skip HP.out h1)
            clear h1 hy
            go_wp2_with fail
            go_roundw
            case rel => exact ⟨i + 1, ps', f', n', hlt2, by go_num, hfull, hlen, HN.out, hold, hmut⟩
            case measure => simp [intOf]; omega
        · go_wp2_with fail
          go_end0
          obtain rfl : i = ps.length := by omega
          obtain ⟨rfl, rfl⟩ := hhalf.all h.rep
          exact ⟨_, ps', rfl, hfull, by have := hlen.out; omega, Nat.le_refl _, hmut⟩
end Go.Proofs.Ytfdebadmikmnaaa
