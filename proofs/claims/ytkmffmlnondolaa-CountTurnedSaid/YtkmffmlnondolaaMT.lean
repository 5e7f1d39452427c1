/- Merged: CWays, CMerge, CClone, CRepeat, CWalk, CGo, CGoAll, CCubes. -/
import Derived.Test.YtkmffmlnondolaaMQ
import Derived.Test.YtkmffmlnondolaaMR
import Derived.Deep.RegionHeld3
import Derived.Deep.AppendLies
import Derived.Laws.EntriesVeiled

/- The ways of a node: how many at the most, and their order. Plain: no walk. -/
namespace Go.Proofs.Ytkmffmlnondolaa
variable {V : Nat} {cs : List Nd}

theorem Ways.bound (g : NGood V cs) {k : Nat} {l : List (List Int)} (h : Ways V cs k l) : ∀ {c : Nd}, Is cs k c → l.length ≤ 2 ^ (V - c.asks).toNat := by
  induction h with
  | zero => intro c _; simp
  | one => intro c _; have := Nat.one_le_two_pow (n := (V - c.asks).toNat); simpa using this
  | @node k c1 l h hk hc hl hh il ih =>
    intro c hc'
    obtain rfl := hc.same hc'
    obtain ⟨a, ha, ha2⟩ := g.lo _ _ hk hc
    obtain ⟨b, hb, hb2⟩ := g.hi _ _ hk hc
    have ho := g.ok _ _ hk hc
    have h1 := il ha
    have h2 := ih hb
    have ra := g.range ha
    have rb := g.range hb
    have e : (V - c1.asks).toNat = (V - c1.asks).toNat - 1 + 1 := by omega
    have p1 : 2 ^ (V - a.asks).toNat ≤ 2 ^ ((V - c1.asks).toNat - 1) := Nat.pow_le_pow_right (by omega) (by omega)
    have p2 : 2 ^ (V - b.asks).toNat ≤ 2 ^ ((V - c1.asks).toNat - 1) := Nat.pow_le_pow_right (by omega) (by omega)
    rw [List.length_append, List.length_map, List.length_map, e, Nat.pow_succ]
    omega

/-- The one row's way goes by low where the other one's goes by high, and till then they are the same. -/
def Before (r s : List Int) : Prop := ∃ k : Nat, (∀ j, j < k → r[j]? = s[j]?) ∧ r[k]? = some 0 ∧ s[k]? = some 1

theorem Before.set {r s : List Int} {a : Nat} {x : Int} (h : Before r s) (hr : ∀ i, i ≤ a → r[i]? = some 2) : Before (r.set a x) (s.set a x) := by
  obtain ⟨k, h1, h2, h3⟩ := h
  have hk : a < k := by
    rcases Nat.lt_or_ge a k with hk | hk
    · exact hk
    · rw [hr k hk] at h2; cases h2
  refine ⟨k, fun j hj => ?_, by rw [List.getElem?_set_ne (by omega)]; exact h2, by rw [List.getElem?_set_ne (by omega)]; exact h3⟩
  by_cases e : a = j
  · subst e
    have hra := hr a (Nat.le_refl _)
    have hsa : s[a]? = some 2 := by rw [← h1 a hk]; exact hra
    rw [List.getElem?_set_self (List.getElem?_eq_some_iff.1 hra).1, List.getElem?_set_self (List.getElem?_eq_some_iff.1 hsa).1]
  · rw [List.getElem?_set_ne e, List.getElem?_set_ne e]; exact h1 j hj

theorem Ways.order (g : NGood V cs) {k : Nat} {l : List (List Int)} (h : Ways V cs k l) : l.Pairwise Before := by
  induction h with
  | zero => exact .nil
  | one => exact List.pairwise_singleton _ _
  | @node k c l h hk hc hl hh il ih =>
    obtain ⟨a, ha, ha2⟩ := g.lo _ _ hk hc
    obtain ⟨b, hb, hb2⟩ := g.hi _ _ hk hc
    have ho := g.ok _ _ hk hc
    refine List.pairwise_append.2 ⟨?_, ?_, ?_⟩
    · rw [List.pairwise_map]
      refine il.imp_of_mem fun hr hs hb => hb.set fun i hi => hl.free g ha _ hr i (by omega)
    · rw [List.pairwise_map]
      refine ih.imp_of_mem fun hr hs hb' => hb'.set fun i hi => hh.free g hb _ hr i (by omega)
    · intro r hr s hs
      rw [List.mem_map] at hr hs
      obtain ⟨r, hr, rfl⟩ := hr
      obtain ⟨s, hs, rfl⟩ := hs
      refine ⟨c.asks.toNat, fun j hj => ?_, ?_, ?_⟩
      · rw [List.getElem?_set_ne (by omega), List.getElem?_set_ne (by omega), hl.free g ha r hr j (by omega), hh.free g hb s hs j (by omega)]
      · rw [List.getElem?_set_self (by rw [hl.len r hr]; omega)]
      · rw [List.getElem?_set_self (by rw [hh.len s hs]; omega)]

/-- Two rows that stand behind one another: the place where they part is found by going till they differ. -/
theorem Before.part {r s : List Int} (h : Before r s) : ∃ k : Nat, k < r.length ∧ k < s.length ∧ (∀ j, j < k → r[j]? = s[j]?) ∧ r[k]? = some 0 ∧ s[k]? = some 1 := by
  obtain ⟨k, h1, h2, h3⟩ := h
  exact ⟨k, (List.getElem?_eq_some_iff.1 h2).1, (List.getElem?_eq_some_iff.1 h3).1, h1, h2, h3⟩

/-- The entries of a way are 0, 1 or 2. -/
theorem Ways.vals {k : Nat} {l : List (List Int)} (h : Ways V cs k l) : ∀ r ∈ l, ∀ x ∈ r, x = 0 ∨ x = 1 ∨ x = 2 := by
  induction h with
  | zero => intro r hr; cases hr
  | one => intro r hr x hx; simp at hr; rw [hr] at hx; exact .inr (.inr (List.eq_of_mem_replicate hx))
  | node _ _ _ _ il ih =>
    intro r hr x hx
    rw [List.mem_append, List.mem_map, List.mem_map] at hr
    rcases hr with ⟨s, hs, rfl⟩ | ⟨s, hs, rfl⟩
    · rcases List.mem_or_eq_of_mem_set hx with h | h
      · exact il s hs x h
      · exact .inl h
    · rcases List.mem_or_eq_of_mem_set hx with h | h
      · exact ih s hs x h
      · exact .inr (.inl h)
end Go.Proofs.Ytkmffmlnondolaa

/- Layer 6 (count): a way that is gone on in part, and what is left of it. Plain: no walk. -/
namespace Go.Proofs.Ytkmffmlnondolaa

/-- A way's own part, and where it is open what the other has. -/
def mrg (y r : List Int) : List Int := List.zipWith (fun a b => if b = 2 then a else b) y r

theorem mrg_len {y r : List Int} (h : y.length = r.length) : (mrg y r).length = r.length := by simp [mrg, h]
theorem mrg_get {y r : List Int} {i : Nat} {a b : Int} (ha : y[i]? = some a) (hb : r[i]? = some b) : (mrg y r)[i]? = some (if b = 2 then a else b) := by
  unfold mrg
  rw [List.getElem?_zipWith, ha, hb]
theorem mrg_none {y r : List Int} {i : Nat} (h : y[i]? = none ∨ r[i]? = none) : (mrg y r)[i]? = none := by
  unfold mrg
  rw [List.getElem?_zipWith]
  rcases h with h | h
  · rw [h]
  · rw [h]
    cases y[i]? <;> rfl

theorem mrg_open {y : List Int} {n : Nat} (h : y.length = n) : mrg y (List.replicate n 2) = y := by
  refine List.ext_getElem? fun i => ?_
  by_cases hi : i < n
  · obtain ⟨a, ha⟩ : ∃ a, y[i]? = some a := ⟨_, List.getElem?_eq_getElem (by omega)⟩
    rw [mrg_get (b := 2) ha (by rw [List.getElem?_replicate, if_pos hi]), ha]
    simp
  · rw [List.getElem?_eq_none (l := y) (by omega), mrg_none (.inl (List.getElem?_eq_none (by omega)))]
theorem open_mrg {r : List Int} {n : Nat} (h : r.length = n) : mrg (List.replicate n 2) r = r := by
  refine List.ext_getElem? fun i => ?_
  by_cases hi : i < n
  · obtain ⟨b, hb⟩ : ∃ b, r[i]? = some b := ⟨_, List.getElem?_eq_getElem (by omega)⟩
    rw [mrg_get (a := 2) (by rw [List.getElem?_replicate, if_pos hi]) hb, hb]
    by_cases e : b = 2
    · rw [if_pos e, e]
    · rw [if_neg e]
  · rw [List.getElem?_eq_none (l := r) (by omega), mrg_none (.inr (List.getElem?_eq_none (by omega)))]

theorem mrg_set {y r : List Int} {v : Nat} {x : Int} (hx : x ≠ 2) (hl : y.length = r.length) (hr : r[v]? = some 2) : mrg (y.set v x) r = mrg y (r.set v x) := by
  have hv : v < r.length := (List.getElem?_eq_some_iff.1 hr).1
  refine List.ext_getElem? fun i => ?_
  by_cases hi : i < r.length
  · obtain ⟨a, ha⟩ : ∃ a, y[i]? = some a := ⟨_, List.getElem?_eq_getElem (by omega)⟩
    obtain ⟨b, hb⟩ : ∃ b, r[i]? = some b := ⟨_, List.getElem?_eq_getElem hi⟩
    by_cases e : v = i
    · subst e
      obtain rfl : b = 2 := by rw [hb] at hr; injection hr
      rw [mrg_get (a := x) (by rw [List.getElem?_set_self (by omega)]) hb, mrg_get (b := x) ha (by rw [List.getElem?_set_self (by omega)]), if_pos rfl, if_neg hx]
    · rw [mrg_get (by rw [List.getElem?_set_ne e]; exact ha) hb, mrg_get ha (by rw [List.getElem?_set_ne e]; exact hb)]
  · rw [mrg_none (.inr (List.getElem?_eq_none (by omega))), mrg_none (.inl (List.getElem?_eq_none (by omega)))]

variable {V : Nat} {cs : List Nd}
/-- The ways of a node, merged: those of low with the way gone by low, then those of high. -/
theorem mrg_node (g : NGood V cs) {k : Nat} {c : Nd} (hk : 2 ≤ k) (hc : Is cs k c) {l h : List (List Int)} (hl : Ways V cs c.low l) (hh : Ways V cs c.high h) {y : List Int} (hy : y.length = V) :
    (l.map (fun r => r.set c.asks.toNat 0) ++ h.map (fun r => r.set c.asks.toNat 1)).map (mrg y) = l.map (mrg (y.set c.asks.toNat 0)) ++ h.map (mrg (y.set c.asks.toNat 1)) := by
  have ho := g.ok _ _ hk hc
  obtain ⟨a, ha, ha2⟩ := g.lo _ _ hk hc
  obtain ⟨b, hb, hb2⟩ := g.hi _ _ hk hc
  rw [List.map_append, List.map_map, List.map_map]
  congr 1
  · refine List.map_congr_left fun r hr => ?_
    exact (mrg_set (by omega) (by rw [hy, hl.len r hr]) (hl.free g ha r hr _ (by omega))).symm
  · refine List.map_congr_left fun r hr => ?_
    exact (mrg_set (by omega) (by rw [hy, hh.len r hr]) (hh.free g hb r hr _ (by omega))).symm
end Go.Proofs.Ytkmffmlnondolaa

/- Layer 6 (count): slices.Clone at a row of ints; slices.Repeat of one int, four times. -/
namespace Go.Proofs.Ytkmffmlnondolaa
open Go.ChangeShapes Go.WideShapes Go.ChangeAt Go.RowKit Go.Maps

theorem ownsRow_keep {w w' : World} {B e n : Nat} {v : Value} {xs : List Value} (h : w.ownsRow B e 1 v n xs) (hb : Below w.heap.size w w') : w'.ownsRow B e 1 v n xs := by
  refine ⟨h.1, ?_⟩
  rcases h.2 with hx | ⟨g, cap, cur, rfl, hg, hr, hc⟩
  · exact .inl hx
  · refine .inr ⟨g, cap, cur, rfl, hg, (hb.block g ?_).trans hr, hc⟩
    rcases Nat.lt_or_ge g w.heap.size with h1 | h1
    · exact h1
    · rw [Array.getElem?_eq_none h1] at hr; cases hr

def CloneOut (L : List Int) (w : World) (e : Ending) (w' : World) : Prop :=
  ∃ v, e = .returned v ∧ w'.ownsRow w.heap.size 3 1 v L.length (intsC L) ∧ Below w.heap.size w w'

set_option maxRecDepth 100000 in
set_option maxHeartbeats 4000000 in
theorem clone_any {w : World} {b : Nat} {L : List Int} {cap : Nat} (hr : w.heap[b]? = some (.cells (intsC L).toArray 3)) (hl : L.length ≤ 1000) :
    Calls Try.prog 56 #[.slice (some ⟨b, 0, none⟩) L.length cap] w (CloneOut L w) := by
  obtain ⟨i0, hi, hz0, hz1, hz2⟩ := info_parts info_intC
  have heq : (binOp .eql 27 (.slice (some ⟨b, 0, none⟩) L.length cap) (.slice none 0 0)).run Try.prog w = .ok (.bool false) w := by kernel_rfl
  have own0 : (w.alloc (.cells #[] 3)).ownsRow w.heap.size 3 1 (.slice (some ⟨w.heap.size, 0, none⟩) 0 0) 0 [] := World.ownsRow_made w #[] 0 (Nat.le_refl _) (by unfold maxLen; omega) rfl
  have OWN := Lib.hid own0
  have HR := Lib.hid hr
  clear hr own0
  go_enter Try.func56, Try.ntmps56
  go_wp2_with (at_builtin; refine wpList_append_own _ rfl _ _ 27 rfl w.heap.size 3 i0 (.int .i64 0) 1 8 Try.underlying27 hi hz0 hz1 hz2 rfl (by decide) _ _ _ rfl OWN.out ⟨b, 0, none⟩ L.length cap (intsC L) rfl ?c0 ?c1 ?c2 ?c3 ?c4 ?c5 ?_)
  case c0 => simp [intsC]
  case c1 => exact World.news_of_block (at_oldC _ HR.out)
  case c2 =>
    intro u hu
    simp [intsC] at hu
    obtain ⟨x, _, rfl⟩ := hu
    rfl
  case c3 => unfold maxLen; omega
  case c4 => omega
  case c5 => simp
  intro v' w1 hown hgrow _
  have HO : Hid (w1.ownsRow w.heap.size 3 1 v' L.length (intsC L)) := by
    show World.ownsRow _ _ _ _ _ _ _
    simpa using hown
  have HB : Hid (Below w.heap.size w w1) := ((Below.refl w.heap.size w).alloc (Nat.le_refl _) _).grown hgrow (by simp) (by
    intro g hg
    simp [Value.ownBlock] at hg
    omega)
  clear hown hgrow
  go_wp2_with fail
  go_ret
  exact ⟨_, rfl, HO.out, HB.out⟩
end Go.Proofs.Ytkmffmlnondolaa

/- Layer 6 (count): slices.Repeat of one int, four times. -/
namespace Go.Proofs.Ytkmffmlnondolaa
open Go.ChangeShapes Go.WideShapes Go.ChangeAt Go.RowKit Go.Maps

set_option maxRecDepth 100000 in
set_option maxHeartbeats 4000000 in
theorem mul64_4 (w : World) : Calls Try.prog 104 #[.int .u64 1, .int .u64 4] w fun e w' => e = .returned (.tuple #[.int .u64 0, .int .u64 4]) ∧ w = w' := by
  go_enter Try.func104, Try.ntmps104
  go_wp2_with fail
  go_ret2
  exact ⟨rfl, rfl⟩
theorem mul_4 (w : World) : Calls Try.prog 71 #[.int .u64 1, .int .u64 4] w fun e w' => e = .returned (.tuple #[.int .u64 0, .int .u64 4]) ∧ w = w' := by
  have H := Lib.hid (mul64_4 w)
  go_enter Try.func71, Try.ntmps71
  go_wp2_with fail
  refine H.out.mono ?_
  rintro e w' ⟨rfl, rfl⟩
  go_wp2_with fail
  go_ret2
  exact ⟨rfl, rfl⟩

def two : Value := .int .i64 2
def nul : Value := .int .i64 0
/-- The row when n of its four cells are filled. -/
def repRow (n : Nat) : Array Value := match n with | 0 => #[nul, nul, nul, nul] | 1 => #[two, nul, nul, nul] | 2 => #[two, two, nul, nul] | _ => #[two, two, two, two]
def RepOut (w : World) (e : Ending) (w' : World) : Prop := ∃ r, e = .returned (.slice (some ⟨r, 0, none⟩) 4 4) ∧ w'.heap[r]? = some (.cells #[two, two, two, two] 3) ∧ Below w.heap.size w w' ∧ w.heap.size ≤ r

theorem info_int1C : (Try.prog.info? 3).map (·.size) = some 1 := by kernel_rfl
theorem rep_copy (W : World) (g n s c d : Nat) (cs : List Value) {a : Addr} (hg : W.heap[g]? = some (.cells (repRow n) 3)) (hn : cs.length = Nat.min s d) (hsrc : ∀ j v, cs[j]? = some v → W.cell? (a.add j) = some v) (o : Nat) (hfit : o + cs.length ≤ (repRow n).size) (h1 : ∀ v ∈ cs, v.oneCell' = true) (m : Nat)
    (he : ((repRow n).toList.take o ++ cs ++ (repRow n).toList.drop (o + cs.length)).toArray = repRow m) (k : Int) (hk : (cs.length : Int) = k) :
    ∀ ty, (Builtin.copy_ #[27, 27] ty #[.slice (some ⟨g, o, none⟩) d d, .slice (some a) s c]).run Try.prog W = .ok (.int .i64 k) (W.setRow g (repRow m)) := fun ty => by
  have := run_copy_row (P := Try.prog) W 27 27 ty 3 g o d d a s c _ _ cs Try.underlying27 info_int1C hg hn hsrc hfit h1
  rw [this, he, ← hk]
  rfl

theorem setRow_heap_same {W : World} {g : Nat} {cur cs : Array Value} {t : TypeId} (hg : W.heap[g]? = some (.cells cur t (0, 0))) : (W.setRow g cs).heap[g]? = some (.cells cs t (0, 0)) := setRow_heap W g cur cs t _ hg
theorem setRow_below {B : Nat} {w W : World} (h : Below B w W) {g : Nat} (hg : B ≤ g) (cs : Array Value) : Below B w (W.setRow g cs) :=
  ⟨h.os, h.tape, h.output, by simpa using h.size, fun i hi => (by
    have : (W.setRow g cs).heap[i]? = W.heap[i]? := by
      unfold World.setRow
      rw [Array.getElem?_modify]
      rw [if_neg (by omega)]
    exact this.trans (h.block i hi))⟩

set_option maxRecDepth 100000 in
set_option maxHeartbeats 4000000 in
theorem repeat4 {w : World} {b : Nat} (hb : w.heap[b]? = some (.cells #[two] 3)) : Calls Try.prog 54 #[.slice (some ⟨b, 0, none⟩) 1 1, .int .i64 4] w (RepOut w) := by
  have hmk := run_make_ints 4 (by omega)
  have hmk : ∀ w : World, (Instr.makeSlice 27 (.int .i64 4) (.int .i64 4)).run Try.prog w = .ok (.slice (some ⟨w.heap.size, 0, none⟩) 4 4) (w.alloc (.cells (repRow 0) 3)) := hmk
  have MU := mul_4
  have B1 : Below w.heap.size w (w.alloc (.cells (repRow 0) 3)) := (Below.refl _ _).alloc (Nat.le_refl _) _
  have hcp0 := rep_copy (w.alloc (.cells (repRow 0) 3)) w.heap.size 0 1 1 4 [two] (a := ⟨b, 0, none⟩) (heap_alloc_new w _) rfl (fun j v hv => by
    match j, hv with
    | 0, hv => simp at hv; subst hv; exact cell_of_row _ _ 0 _ _ _ (at_oldC _ hb)) 0 (by decide) (by intro v hv; simp at hv; subst hv; rfl) 1 rfl 1 rfl
  have H1 := setRow_heap_same (cs := repRow 1) (heap_alloc_new w (.cells (repRow 0) 3))
  have HB1 := Lib.hid (setRow_below B1 (Nat.le_refl w.heap.size) (repRow 1))
  have H1 := Lib.hid H1
  clear hb B1
  go_enter Try.func54, Try.ntmps54
  go_wp2_with (go_at_call 71; refine (MU _).mono ?_; rintro e w1 ⟨rfl, rfl⟩)
  clear hcp0
  revert H1 HB1
  generalize (w.alloc (.cells (repRow 0) 3)).setRow w.heap.size (repRow 1) = w1
  intro HB1 H1
  go_loopw [8] (fun nv wr => ∃ n : Nat, (n = 1 ∨ n = 2 ∨ n = 4) ∧ nv = .int .i64 (n : Int) ∧ wr.heap[w.heap.size]? = some (.cells (repRow n) 3) ∧ Below w.heap.size w wr) (fun nv _ => 4 - (intOf nv).toNat)
  case atStart => exact ⟨1, .inl rfl, rfl, H1.out, HB1.out⟩
  case round =>
    obtain ⟨n, hn, rfl, hrow, hbel⟩ := hrel
    rcases hn with rfl | rfl | rfl
    · have hcp := rep_copy wr.drew w.heap.size 1 1 4 3 [two] (a := ⟨w.heap.size, 0, none⟩) hrow rfl (fun j v hv => by
        match j, hv with
        | 0, hv => simp at hv; subst hv; exact cell_of_row wr.drew _ 0 _ _ _ hrow) 1 (by decide) (by intro v hv; simp at hv; subst hv; rfl) 2 rfl 1 rfl
      have HX := Lib.hid (setRow_heap_same (W := wr.drew) (cs := repRow 2) hrow)
      have HB := Lib.hid (setRow_below (hbel.trans ((below_drew wr).mono hbel.size)) (Nat.le_refl w.heap.size) (repRow 2))
      clear hrow hbel H1 HB1 hmk MU
      have e1 : ((1 : Nat) : Int) = 1 := rfl
      rw [e1]
      go_wp2_with fail
      go_region
      go_wp2_with fail
      go_roundw
      case rel => exact ⟨2, .inr (.inl rfl), rfl, HX.out, HB.out⟩
      case measure => simp [intOf]
    · have hcp := rep_copy wr.drew w.heap.size 2 2 4 2 [two, two] (a := ⟨w.heap.size, 0, none⟩) hrow rfl (fun j v hv => by
        match j, hv with
        | 0, hv => simp at hv; subst hv; exact cell_of_row wr.drew _ 0 _ _ _ hrow
        | 1, hv => simp at hv; subst hv; exact cell_of_row wr.drew _ 1 _ _ _ hrow) 2 (by decide) (by intro v hv; simp at hv; subst hv; rfl) 4 rfl 2 rfl
      have HX := Lib.hid (setRow_heap_same (W := wr.drew) (cs := repRow 4) hrow)
      have HB := Lib.hid (setRow_below (hbel.trans ((below_drew wr).mono hbel.size)) (Nat.le_refl w.heap.size) (repRow 4))
      clear hrow hbel H1 HB1 hmk MU
      have e1 : ((2 : Nat) : Int) = 2 := rfl
      rw [e1]
      go_wp2_with fail
      go_region
      go_wp2_with fail
      go_roundw
      case rel => exact ⟨4, .inr (.inr rfl), rfl, HX.out, HB.out⟩
      case measure => simp [intOf]
    · have HX := Lib.hid hrow
      have HB := Lib.hid hbel
      clear hrow hbel H1 HB1 hmk MU
      have e1 : ((4 : Nat) : Int) = 4 := rfl
      rw [e1]
      go_wp2_with fail
      go_ret
      exact ⟨_, rfl, HX.out, HB.out, Nat.le_refl _⟩
end Go.Proofs.Ytkmffmlnondolaa

/- Layer 6 (count): Cubes: what its closure goes. -/
namespace Go.Proofs.Ytkmffmlnondolaa
open Go.ChangeShapes Go.WideShapes Go.ChangeAt Go.RowKit Go.Maps

/-- The blocks of walk's variables: the list, most, the way, the store, walk; the way's row. -/
structure WEnv where
  l : Nat
  m : Nat
  w : Nat
  s : Nat
  f : Nat
  r : Nat
def WEnv.fv (E : WEnv) : Value := .func (.func 55) #[] #[ptrV E.l, ptrV E.m, ptrV E.w, ptrV E.s, ptrV E.f]

/-- Values that lie as rows, none in the block far. -/
def RowVs (w : World) (far : Nat) (vs : List Value) (R : List (List Int)) : Prop :=
  vs.length = R.length ∧ ∀ (i : Nat) (r : List Int), R[i]? = some r → ∃ b cap cur, vs[i]? = some (Value.slice (some ⟨b, 0, none⟩) r.length cap) ∧ w.heap[b]? = some (.cells cur 3) ∧ cur.toList.take r.length = intsC r ∧ b ≠ far

structure WSt (E : WEnv) (m : Mem) (h : Hd) (cs : List Nd) (B most : Nat) (w0 : World) (R : List (List Int)) (y : List Int) (w : World) : Prop where
  st : St w m h cs
  ct : w.heap[E.s]? = some (.cells #[ptrV m.s] 22)
  cl : ∃ lv vs, w.heap[E.l]? = some (.cells #[lv] 38) ∧ w.ownsRow B 27 1 lv R.length vs ∧ RowVs w E.r vs R ∧ ∀ g : Nat, lv.ownBlock = some g → g ≠ E.w
  cw : w.heap[E.w]? = some (.cells #[.slice (some ⟨E.r, 0, none⟩) h.V h.V] 27)
  row : w.heap[E.r]? = some (.cells (intsC y).toArray 3)
  cm : w.heap[E.m]? = some (.cells #[.int .i64 (most : Int)] 3)
  cf : w.heap[E.f]? = some (.cells #[E.fv] 37)
  len : y.length = h.V
  below : Below B w0 w
  own : ∀ i, m.own i → i < B
  ge : B ≤ E.l ∧ B ≤ E.r ∧ B ≤ w0.heap.size
  mr : E.m ≠ E.r

section
variable {E : WEnv} {m : Mem} {h : Hd} {cs : List Nd} {B most : Nat} {w0 w w' : World} {R : List (List Int)} {y : List Int}

theorem St.above (s : St w m h cs) (own : ∀ i, m.own i → i < B) (hb : Below B w w') : St w' m h cs :=
  s.apart (own := fun i => B ≤ i) ⟨hb.os, hb.tape, hb.output, hb.size, fun i _ hi => hb.block i (by omega)⟩ fun i hi => by have := own i hi; omega

theorem WSt.keep (s : WSt E m h cs B most w0 R y w) (hb : Below w.heap.size w w') : WSt E m h cs B most w0 R y w' := by
  obtain ⟨lv, vs, c1, c2, ⟨c3, c4⟩, c5⟩ := s.cl
  have k : ∀ {i o}, w.heap[i]? = some o → w'.heap[i]? = some o := fun h => (hb.block _ (row_lt h)).trans h
  refine ⟨s.st.keep hb, k s.ct, ⟨lv, vs, k c1, ownsRow_keep c2 hb, ⟨c3, fun i r hr => ?_⟩, c5⟩, k s.cw, k s.row, k s.cm, k s.cf, s.len, s.below.trans (hb.mono (by have := s.below.size; have := s.ge.2.2; omega)), s.own, s.ge, s.mr⟩
  obtain ⟨b, cap, cur, d1, d2, d3⟩ := c4 i r hr
  exact ⟨b, cap, cur, d1, k d2, d3⟩

/-- A place of the way is set. -/
theorem WSt.set (s : WSt E m h cs B most w0 R y w) (v : Nat) (x : Int) : WSt E m h cs B most w0 R (y.set v x) (w.setCell ⟨E.r, v, none⟩ (.int .i64 x)) := by
  obtain ⟨lv, vs, c1, c2, ⟨c3, c4⟩, c5⟩ := s.cl
  have ty : ∀ {i : Nat} {cs : Array Value} {t : TypeId} {fr : Nat × Nat}, t ≠ 3 → w.heap[i]? = some (.cells cs t fr) → i ≠ E.r := fun ht hi e => by
    rw [e, s.row] at hi
    injection hi with hi
    injection hi with _ hi
    exact ht hi.symm
  have k : ∀ {i o}, i ≠ E.r → w.heap[i]? = some o → (w.setCell ⟨E.r, v, none⟩ (.int .i64 x)).heap[i]? = some o := fun hi h => (heap_setCell_other _ _ _ _ hi).trans h
  have hb : Below B w (w.setCell ⟨E.r, v, none⟩ (.int .i64 x)) := set_below (Below.refl _ _) s.ge.2.1 _ _
  refine ⟨s.st.above s.own hb, k (ty (by decide) s.ct) s.ct, ⟨lv, vs, k (ty (by decide) c1) c1, ?_, ⟨c3, fun i r hr => ?_⟩, c5⟩, k (ty (by decide) s.cw) s.cw, ?_, k s.mr s.cm, k (ty (by decide) s.cf) s.cf, by rw [List.length_set]; exact s.len, s.below.trans hb, s.own, s.ge, s.mr⟩
  · refine ⟨c2.1, ?_⟩
    rcases c2.2 with hx | ⟨g, cap, cur, e, hg, hr, hc⟩
    · exact .inl hx
    · exact .inr ⟨g, cap, cur, e, hg, k (ty (by decide) hr) hr, hc⟩
  · obtain ⟨b, cap, cur, d1, d2, d3, d4⟩ := c4 i r hr
    exact ⟨b, cap, cur, d1, k d4 d2, d3, d4⟩
  · rw [heap_setCell_same _ _ _ _ _ _ s.row]
    unfold intsC
    rw [List.map_set]
    simp

/-- A way more. -/
theorem WSt.app (s : WSt E m h cs B most w0 R y w) (hV : 0 < h.V) {lv : Value} {vs : List Value} (c1 : w.heap[E.l]? = some (.cells #[lv] 38)) (c3 : RowVs w E.r vs R) (c5 : ∀ g, lv.ownBlock = some g → g ≠ E.w) (c2 : w.ownsRow B 27 1 lv R.length vs) {w1 w2 : World} {cv : Value} (hb : Below w.heap.size w w1) (hc : w1.ownsRow w.heap.size 3 1 cv h.V (intsC y))
    {o : Obj} {g cap : Nat} (ho : w2.ownsRow B 27 1 (.slice (some ⟨g, 0, none⟩) (R.length + 1) cap) (R.length + 1) (vs ++ [cv])) (hg : (w1.alloc o).grownBy w2 lv.ownBlock) (hat : lv.ownBlock = some g ∨ g = (w1.alloc o).heap.size) :
    WSt E m h cs B most w0 (R ++ [y]) y (w2.setCell ⟨E.l, 0, none⟩ (.slice (some ⟨g, 0, none⟩) (R.length + 1) cap)) := by
  have hBw : B ≤ w.heap.size := by have := s.below.size; have := s.ge.2.2; omega
  have hb1 : Below w.heap.size w (w1.alloc o) := hb.alloc hb.size _
  -- the list's own block, where it has one, is of slices
  have lvt : ∀ q, lv.ownBlock = some q → B ≤ q ∧ ∃ cur, w.heap[q]? = some (.cells cur 27) := by
    intro q hq
    rcases c2.2 with ⟨rfl, _⟩ | ⟨g', cap', cur, rfl, hg', hr, _⟩
    · simp [Value.ownBlock] at hq
    · simp [Value.ownBlock] at hq
      subst hq
      exact ⟨hg', cur, hr⟩
  have ne : ∀ {i : Nat} {cs : Array Value} {t : TypeId} {fr : Nat × Nat}, (t ≠ 27 ∨ i = E.w) → w.heap[i]? = some (.cells cs t fr) → some i ≠ lv.ownBlock := fun ht hi e => by
    obtain ⟨_, cur, hq⟩ := lvt _ e.symm
    rcases ht with ht | ht
    · rw [hi] at hq
      injection hq with hq
      injection hq with _ hq
      exact ht hq
    · exact c5 _ e.symm ht
  have k2 : ∀ {i : Nat} {cs : Array Value} {t : TypeId} {fr : Nat × Nat}, (t ≠ 27 ∨ i = E.w) → w.heap[i]? = some (.cells cs t fr) → w2.heap[i]? = some (.cells cs t fr) := fun ht hi => by
    have hlt := row_lt hi
    rw [hg.block _ (by have := hb1.size; omega) (ne ht hi), hb1.block _ hlt, hi]
  have kl : ∀ {i : Nat} {cs : Array Value} {t : TypeId} {fr : Nat × Nat}, t ≠ 38 → w.heap[i]? = some (.cells cs t fr) → i ≠ E.l := fun ht hi e => by
    rw [e, c1] at hi
    injection hi with hi
    injection hi with _ hi
    exact ht hi.symm
  have k : ∀ {i : Nat} {cs : Array Value} {t : TypeId} {fr : Nat × Nat}, (t ≠ 27 ∨ i = E.w) → t ≠ 38 → w.heap[i]? = some (.cells cs t fr) → (w2.setCell ⟨E.l, 0, none⟩ (.slice (some ⟨g, 0, none⟩) (R.length + 1) cap)).heap[i]? = some (.cells cs t fr) := fun h1 h2 hi =>
    (heap_setCell_other _ _ _ _ (kl h2 hi)).trans (k2 h1 hi)
  have hb2 : Below B w w2 := (hb1.mono hBw).grown hg (by have := hb1.size; omega) fun q hq => (lvt q hq).1
  have hb3 := set_below hb2 s.ge.1 0 (.slice (some ⟨g, 0, none⟩) (R.length + 1) cap)
  -- the block of the new row
  obtain ⟨nb, ncap, ncur, rfl, hnb, hnr, hnc, hnm, hns, hnt⟩ : ∃ nb ncap ncur, cv = .slice (some ⟨nb, 0, none⟩) h.V ncap ∧ w.heap.size ≤ nb ∧ w1.heap[nb]? = some (.cells ncur 3) ∧ h.V ≤ ncap ∧ ncap ≤ maxLen ∧ ncur.size = ncap * 1 ∧ ncur.toList.take (h.V * 1) = intsC y := by
    rcases hc.2 with ⟨_, h0⟩ | ⟨nb, ncap, ncur, e, h1, h2, h3, h4, h5, h6⟩
    · omega
    · exact ⟨nb, ncap, ncur, e, h1, h2, h3, h4, h5, h6⟩
  have hnl : nb < w1.heap.size := row_lt hnr
  have nr2 : (w2.setCell ⟨E.l, 0, none⟩ (.slice (some ⟨g, 0, none⟩) (R.length + 1) cap)).heap[nb]? = some (.cells ncur 3) := by
    have hEl := row_lt c1
    rw [heap_setCell_other _ _ _ _ (by show nb ≠ E.l; omega), hg.block _ (by simp; omega) (fun e => by
      obtain ⟨_, cur, hq⟩ := lvt _ e.symm
      have := row_lt hq
      omega)]
    exact at_oldC _ hnr
  have gw : g ≠ E.w := by
    rcases hat with hat | hat
    · exact c5 g hat
    · have h1 := row_lt s.cw
      have h2 := hb1.size
      omega
  have gl : g ≠ E.l := by
    rintro rfl
    rcases ho.2 with ⟨hx, _⟩ | ⟨g', cap', cur, e, hg', hr', _⟩
    · cases hx
    · simp only [Value.slice.injEq, Option.some.injEq, Addr.mk.injEq, and_true] at e
      rw [← e.1, k2 (.inl (by decide)) c1] at hr'
      injection hr' with hr'
      injection hr' with _ hr'
      cases hr'
  refine ⟨s.st.above s.own hb3, k (.inl (by decide)) (by decide) s.ct, ⟨.slice (some ⟨g, 0, none⟩) (R.length + 1) cap, vs ++ [.slice (some ⟨nb, 0, none⟩) h.V ncap], ?_, ?_, ⟨by simp [c3.1], fun i r hr => ?_⟩, fun q hq => ?_⟩, k (.inr rfl) (by decide) s.cw, k (.inl (by decide)) (by decide) s.row, k (.inl (by decide)) (by decide) s.cm, k (.inl (by decide)) (by decide) s.cf, s.len, s.below.trans hb3, s.own, s.ge, s.mr⟩
  · exact heap_setCell_same _ _ _ _ _ _ (k2 (.inl (by decide)) c1)
  · rw [List.length_append]
    refine ⟨ho.1, ?_⟩
    rcases ho.2 with hx | ⟨g', cap', cur, e, hg', hr', hc'⟩
    · exact .inl hx
    · refine .inr ⟨g', cap', cur, e, hg', (heap_setCell_other _ _ _ _ ?_).trans hr', hc'⟩
      simp only [Value.slice.injEq, Option.some.injEq, Addr.mk.injEq, and_true] at e
      rw [← e.1]
      exact gl
  · by_cases hi : i < R.length
    · rw [List.getElem?_append_left hi] at hr
      obtain ⟨b, cap', cur, d1, d2, d3, d4⟩ := c3.2 i r hr
      refine ⟨b, cap', cur, ?_, k (.inl (by decide)) (by decide) d2, d3, d4⟩
      rw [List.getElem?_append_left (by rw [c3.1]; exact hi)]
      exact d1
    · rw [List.getElem?_append_right (by omega)] at hr
      obtain ⟨hi2, rfl⟩ : i = R.length ∧ y = r := by
        rcases (by omega : i - R.length = 0 ∨ 1 ≤ i - R.length) with h0 | h0
        · rw [h0] at hr
          simp at hr
          exact ⟨by omega, hr⟩
        · rw [List.getElem?_eq_none (by simp; omega)] at hr
          cases hr
      subst hi2
      refine ⟨nb, ncap, ncur, ?_, nr2, ?_, ?_⟩
      · rw [List.getElem?_append_right (by rw [c3.1]; exact Nat.le_refl _), c3.1, Nat.sub_self, s.len]
        rfl
      · rw [s.len, ← hnt, Nat.mul_one]
      · have := row_lt s.row
        omega
  · simp [Value.ownBlock] at hq
    rw [← hq]
    exact gw
end
end Go.Proofs.Ytkmffmlnondolaa

/- Layer 6 (count): Cubes: the ways that its closure goes. -/
namespace Go.Proofs.Ytkmffmlnondolaa
open Go.ChangeShapes Go.WideShapes Go.ChangeAt Go.RowKit Go.Maps

theorem info_rowC : (Try.prog.info? 27).map (fun i => (i.zero, i.size, i.bytes)) = some (some (.slice none 0 0), 1, 24) := by kernel_rfl

section
variable {E : WEnv} {m : Mem} {h : Hd} {cs : List Nd} {B most : Nat} {w0 w w' : World} {R : List (List Int)} {y : List Int}
/-- The list's variable is as it was behind an append. -/
theorem WSt.behind (s : WSt E m h cs B most w0 R y w) {lv : Value} {vs : List Value} (c1 : w.heap[E.l]? = some (.cells #[lv] 38)) (c5 : ∀ g, lv.ownBlock = some g → g ≠ E.w) (c2 : w.ownsRow B 27 1 lv R.length vs) {w1 w2 : World} (hb : Below w.heap.size w w1) {o : Obj} (hg : (w1.alloc o).grownBy w2 lv.ownBlock) :
    w2.heap[E.l]? = some (.cells #[lv] 38) ∧ w2.heap[E.w]? = some (.cells #[.slice (some ⟨E.r, 0, none⟩) h.V h.V] 27) := by
  have hb1 : Below w.heap.size w (w1.alloc o) := hb.alloc hb.size _
  have h1 := row_lt c1
  have h2 := row_lt s.cw
  have hz := hb1.size
  constructor
  · rw [hg.block _ (by omega) (fun e => ?_), hb1.block _ h1, c1]
    rcases c2.2 with ⟨rfl, _⟩ | ⟨g', cap', cur, rfl, hg', hr, _⟩
    · cases e
    · simp [Value.ownBlock] at e
      rw [← e, c1] at hr
      injection hr with hr
      injection hr with _ hr
      cases hr
  · rw [hg.block _ (by omega) (fun e => c5 _ e.symm rfl), hb1.block _ h2, s.cw]
end

theorem cell_alloc {w : World} {p : Addr} {v : Value} {o : Obj} (h : w.cell? p = some v) : (w.alloc o).cell? p = some v :=
  (((Below.refl w.heap.size w).alloc (Nat.le_refl _) o).cell (World.block_lt_of_cell? w _ h)).trans h
theorem row_form {w : World} {B e n : Nat} {v : Value} {xs : List Value} (h : w.ownsRow B e 1 v n xs) (hn : 0 < n) : ∃ b cap, v = .slice (some ⟨b, 0, none⟩) n cap := by
  rcases h.2 with ⟨_, h0⟩ | ⟨g, cap, cur, e, _⟩
  · omega
  · exact ⟨_, _, e⟩

def WOut (E : WEnv) (m : Mem) (h : Hd) (cs : List Nd) (B most : Nat) (w0 : World) (R : List (List Int)) (y : List Int) (W : List (List Int)) (e : Ending) (w' : World) : Prop :=
  ∃ b, e = .returned (.bool b) ∧ Below B w0 w' ∧ ((b = true ∧ R.length + W.length ≤ most ∧ WSt E m h cs B most w0 (R ++ W.map (mrg y)) y w') ∨ (b = false ∧ most < R.length + W.length))

set_option maxRecDepth 100000 in
set_option maxHeartbeats 4000000 in
/-- At 1: one way more, if there is room. -/
theorem cwalk_one {E : WEnv} {m : Mem} {h : Hd} {cs : List Nd} {B most : Nat} {w0 w : World} {R : List (List Int)} {y : List Int} (hV : 0 < h.V) (hM : most ≤ 16384) (s : WSt E m h cs B most w0 R y w) (hR : R.length ≤ most) :
    Calls Try.prog 55 #[.int .i64 1, ptrV E.l, ptrV E.m, ptrV E.w, ptrV E.s, ptrV E.f] w (WOut E m h cs B most w0 R y [List.replicate h.V 2]) := by
  obtain ⟨lv, vs, c1, c2, c3, c5⟩ := s.cl
  obtain ⟨lA, lc, hlv⟩ : ∃ A c, lv = .slice A R.length c := by
    rcases c2.2 with ⟨e, h0⟩ | ⟨g, cap, cur, e, _⟩
    · exact ⟨none, 0, by rw [e, h0]⟩
    · exact ⟨_, _, e⟩
  have cl : w.cell? ⟨E.l, 0, none⟩ = some lv := cell_of_row _ _ 0 _ _ _ c1
  have cw : w.cell? ⟨E.w, 0, none⟩ = some (.slice (some ⟨E.r, 0, none⟩) h.V h.V) := cell_of_row _ _ 0 _ _ _ s.cw
  have cm : w.cell? ⟨E.m, 0, none⟩ = some (.int .i64 (most : Int)) := cell_of_row _ _ 0 _ _ _ s.cm
  have S := Lib.hid s
  by_cases hq : R.length = most
  · have hqi : (R.length : Int) = most := by omega
    clear s c2 c3 c5 c1
    subst hlv
    unfold ptrV at *
    go_enter Try.func55, Try.ntmps55
    go_wp2_with fail
    go_ret
    exact ⟨false, rfl, S.out.below, .inr ⟨rfl, by simp; omega⟩⟩
  · have hqi : (R.length : Int) ≠ most := by omega
    have C1 := Lib.hid c1
    have C2 := Lib.hid c2
    have C3 := Lib.hid c3
    have C5 := Lib.hid c5
    have CLO := fun (W : World) (hr : W.heap[E.r]? = some (.cells (intsC y).toArray 3)) => clone_any (cap := h.V) hr (by have := s.len; have := s.st.V; omega)
    rw [s.len] at CLO
    have CLO := Lib.hid CLO
    have HR := Lib.hid hR
    have LEN := Lib.hid s.len
    have hB : Hid (B ≤ w.heap.size) := by have := s.below.size; have := s.ge.2.2; exact Lib.hid (by omega)
    obtain ⟨i0, hi0, hz0, hz1, hz2⟩ := info_parts info_rowC
    have HMX : Hid (R.length + 1 ≤ maxLen) := by show _ ≤ _; unfold maxLen; omega
    have HMB : Hid ((R.length + 1) * 24 ≤ 140737488355328) := by show _ ≤ _; omega
    have HLV := Lib.hid hlv
    clear s c1 c2 c3 c5 hR hq
    rw [hlv] at cl
    clear hlv
    unfold ptrV at *
    go_enter Try.func55, Try.ntmps55
    go_wp2_with fail
    go_region_law (first
        | (go_simp; go_at_call 56; refine (CLO.out w.drew S.out.row).mono ?_; rintro e w1 ⟨cv, rfl, hc, hb⟩; rw [LEN.out] at hc; obtain ⟨nb, ncap, rfl⟩ := row_form hc hV; have HC := Lib.hid hc; have HB1 : Hid (Below w.heap.size w w1) := Lib.hid (below_undrew hb); clear hc hb; have HROW := Lib.hid (ownsRow_keep C2.out HB1.out); have cl1 := (HB1.out.cell (World.block_lt_of_cell? w _ cl)).trans cl; have cw1 := (HB1.out.cell (World.block_lt_of_cell? w _ cw)).trans cw; have cl1a := fun o => cell_alloc (o := o) cl1; have cw1a := fun o => cell_alloc (o := o) cw1)
        | (refine step_append_lies _ rfl (.tmp 29) (.tmp 32) 38 rfl B 27 i0 _ 1 24 Try.underlying38 hi0 hz0 hz1 hz2 rfl (by omega) lv R.length vs (by simp [Act.eval, HLV.out]) (HROW.out.alloc _) ⟨w1.heap.size, 0, none⟩ 1 1 [.slice (some ⟨nb, 0, none⟩) h.V ncap] (by simp [Act.eval]) (by rfl) (World.news_of_block (heap_alloc_new w1 _)) (by intro u hu; simp at hu; subst hu; rfl) (by omega) HMX.out HMB.out (by have := HB1.out.size; have := hB.out; simp; omega) (w1.alloc (.cells #[.slice (some ⟨nb, 0, none⟩) h.V ncap] 27)).heap.size rfl ?_; intro g cap w2 hown hgrow hat hlt2; have BE := S.out.behind C1.out C5.out C2.out HB1.out hgrow; have cl2 : w2.cell? ⟨E.l, 0, none⟩ = some (.slice lA R.length lc) := by rw [← HLV.out]; exact cell_of_row _ _ 0 _ _ _ BE.1
           have cw2 : w2.cell? ⟨E.w, 0, none⟩ = some (.slice (some ⟨E.r, 0, none⟩) h.V h.V) := cell_of_row _ _ 0 _ _ _ BE.2
           have fl2 : w2.frozen? ⟨E.l, 0, none⟩ = false := frozen_of_row _ _ _ _ _ BE.1
           have FIN := Lib.hid (S.out.app hV C1.out C3.out C5.out C2.out HB1.out HC.out hown hgrow hat); clear hown hgrow hat hlt2 BE)
        | fail)
    all_goals
      go_wp2_with fail
      go_ret
      exact ⟨true, rfl, FIN.out.below, .inl ⟨rfl, by simp; have := HR.out; omega, by rw [List.map_cons, List.map_nil, mrg_open LEN.out]; exact FIN.out⟩⟩
end Go.Proofs.Ytkmffmlnondolaa

/- Layer 6 (count): Cubes: all ways of a node. -/
namespace Go.Proofs.Ytkmffmlnondolaa
open Go.ChangeShapes Go.WideShapes Go.ChangeAt Go.RowKit Go.Maps

def goR (R Wl Wh : List (List Int)) (y : List Int) (v : Nat) : Nat → List (List Int)
  | 0 => R
  | 1 => R ++ Wl.map (mrg (y.set v 0))
  | _ => R ++ Wl.map (mrg (y.set v 0)) ++ Wh.map (mrg (y.set v 1))
def goY (y : List Int) (v : Nat) : Nat → List Int
  | 0 => y
  | 1 => y.set v 0
  | _ => y.set v 1

theorem set_same {y : List Int} {v : Nat} {x : Int} (h : y[v]? = some x) : y.set v x = y := by
  refine List.ext_getElem? fun i => ?_
  by_cases e : v = i
  · subst e; rw [List.getElem?_set_self (List.getElem?_eq_some_iff.1 h).1, h]
  · rw [List.getElem?_set_ne e]

theorem WSt.cells {E : WEnv} {m : Mem} {h : Hd} {cs : List Nd} {B most : Nat} {w0 w : World} {R : List (List Int)} {y : List Int} (s : WSt E m h cs B most w0 R y w) {v : Nat} (hv : v < h.V) :
    (∃ a : Int, w.cell? ⟨E.r, v, none⟩ = some (.int .i64 a)) ∧ w.frozen? ⟨E.r, v, none⟩ = false ∧ w.cell? ⟨E.w, 0, none⟩ = some (.slice (some ⟨E.r, 0, none⟩) h.V h.V) := by
  refine ⟨⟨y[v]'(by rw [s.len]; exact hv), ?_⟩, frozen_of_row _ _ _ _ _ s.row, cell_of_row _ _ 0 _ _ _ s.cw⟩
  rw [cell_of_row _ _ _ _ _ _ s.row]
  unfold intsC
  have : v < y.length := by rw [s.len]; exact hv
  simp [this]

theorem idx_two0 (a b : Int) (w : World) : (Instr.index 107 (.agg #[.int .i64 a, .int .i64 b]) (.int .i64 0)).run Try.prog w = .ok (.int .i64 a) w := by kernel_rfl
theorem idx_two1 (a b : Int) (w : World) : (Instr.index 107 (.agg #[.int .i64 a, .int .i64 b]) (.int .i64 1)).run Try.prog w = .ok (.int .i64 b) w := by kernel_rfl

set_option maxRecDepth 100000 in
set_option maxHeartbeats 4000000 in
theorem cwalk_any {E : WEnv} {m : Mem} {h : Hd} {cs : List Nd} {B most : Nat} {w0 : World} (hV : 0 < h.V) (hM : most ≤ 16384) : ∀ (n : Nat) (R : List (List Int)) (y : List Int) (w : World) (k : Nat) (c : Nd) (W : List (List Int)), WSt E m h cs B most w0 R y w → Is cs k c → rk h.V c ≤ n → Ways h.V cs k W → R.length ≤ most → (∀ i : Nat, c.asks ≤ i → i < h.V → y[i]? = some 2) →
    Calls Try.prog 55 #[.int .i64 (k : Int), ptrV E.l, ptrV E.m, ptrV E.w, ptrV E.s, ptrV E.f] w (WOut E m h cs B most w0 R y W) := by
  intro n
  induction n using Nat.strongRecOn with
  | _ n ih =>
  intro R y w k c W s hk hn hW hR hy
  rcases (by omega : k = 0 ∨ k = 1 ∨ 2 ≤ k) with rfl | rfl | h2
  · obtain rfl := hW.same .zero
    have S := Lib.hid s
    have HR := Lib.hid hR
    clear ih s hk hn hW hR hy
    change Calls _ _ #[.int .i64 0, _, _, _, _, _] _ _
    unfold ptrV at *
    go_enter Try.func55, Try.ntmps55
    go_wp2_with fail
    go_ret
    exact ⟨true, rfl, S.out.below, .inl ⟨rfl, by simpa using HR.out, by simpa using S.out⟩⟩
  · obtain rfl := hW.same .one
    exact cwalk_one hV hM s hR
  · have g := s.st.good
    have hrg := g.range hk
    have ho := g.ok k c h2 hk
    obtain ⟨Wl, Wh, hwl, hwh, hWe⟩ : ∃ Wl Wh, Ways h.V cs c.low Wl ∧ Ways h.V cs c.high Wh ∧ W = Wl.map (fun r => r.set c.asks.toNat 0) ++ Wh.map (fun r => r.set c.asks.toNat 1) := by
      cases hW with
      | zero => omega
      | one => omega
      | node hk' hc' hl hh => obtain rfl := hk.same hc'; exact ⟨_, _, hl, hh, rfl⟩
    obtain ⟨v, ev⟩ : ∃ v : Nat, c.asks = v := ⟨c.asks.toNat, by omega⟩
    have evn : c.asks.toNat = v := by omega
    have hvV : v < h.V := by omega
    have hvV' : (v : Int) < h.V := by omega
    obtain ⟨cl, il, ll⟩ := g.lo k c h2 hk
    obtain ⟨ch, ih', lh⟩ := g.hi k c h2 hk
    have rl := g.range il
    have rh := g.range ih'
    have MG : Hid (W.map (mrg y) = Wl.map (mrg (y.set v 0)) ++ Wh.map (mrg (y.set v 1))) := by
      show _ = _
      rw [hWe, mrg_node g h2 hk hwl hwh s.len, evn]
    have WL : Hid (W.length = Wl.length + Wh.length) := by show _ = _; rw [hWe]; simp
    have YV : Hid (y[v]? = some 2) := hy v (by omega) hvV
    have HL : Hid (rk h.V cl < n) := by show _ < _; have := hn; unfold rk at this ⊢; omega
    have HH : Hid (rk h.V ch < n) := by show _ < _; have := hn; unfold rk at this ⊢; omega
    have YL : Hid (∀ i : Nat, cl.asks ≤ i → i < h.V → (y.set v 0)[i]? = some 2) := fun i h1 h2 => by rw [List.getElem?_set_ne (by omega)]; exact hy i (by omega) h2
    have YH : Hid (∀ i : Nat, ch.asks ≤ i → i < h.V → (y.set v 1)[i]? = some 2) := fun i h1 h2 => by rw [List.getElem?_set_ne (by omega)]; exact hy i (by omega) h2
    have ND := node_yesB s.st hk
    rw [ev] at ND
    have ND := Lib.hid ND
    have ct : w.cell? ⟨E.s, 0, none⟩ = some (ptrV m.s) := cell_of_row _ _ 0 _ _ _ s.ct
    have S := Lib.hid s
    have HR := Lib.hid hR
    have IH := Lib.hid ih
    have IL := Lib.hid il
    have IHH := Lib.hid ih'
    have HWL := Lib.hid hwl
    have HWH := Lib.hid hwh
    have k0 : ((k : Int) == 0) = false := by simp; omega
    have k1 : ((k : Int) == 1) = false := by simp; omega
    clear ih s hk hn hW hR hy g hrg ho hWe ev evn il ih' ll lh rl rh hwl hwh h2
    unfold ptrV at *
    go_enter Try.func55, Try.ntmps55
    go_wp2_with fail
    refine ND.out.mono ?_
    rintro e w1 ⟨rfl, hb1⟩
    have S1 := Lib.hid (S.out.keep hb1)
    clear hb1 ND ct S k0 k1
    go_wp2_with fail
    go_loopw [12, 13, 45] (fun _ _ iv wr => ∃ i : Nat, i ≤ 2 ∧ iv = .int .i64 (i : Int) ∧ (goR R Wl Wh y v i).length ≤ most ∧ WSt E m h cs B most w0 (goR R Wl Wh y v i) (goY y v i) wr) (fun _ _ iv _ => 2 - (intOf iv).toNat)
    case atStart => exact ⟨0, by omega, rfl, HR.out, S1.out⟩
    case round =>
      obtain ⟨i, hi, rfl, hlen, hst⟩ := hrel
      have ST := Lib.hid hst
      have LE := Lib.hid hlen
      obtain ⟨⟨a0, crow⟩, frow, cw⟩ := hst.cells hvV
      clear hst hlen
      rcases (by omega : i = 0 ∨ i = 1 ∨ i = 2) with rfl | rfl | rfl
      · have e0 : ((0 : Nat) : Int) = 0 := rfl
        rw [e0]
        have hix := idx_two0 (c.low : Int) (c.high : Int) wr
        have s2 := ST.out.set v 0
        have cf : (wr.setCell ⟨E.r, v, none⟩ (.int .i64 0)).cell? ⟨E.f, 0, none⟩ = some E.fv := cell_of_row _ _ 0 _ _ _ s2.cf
        unfold WEnv.fv ptrV at cf
        have C1 := Lib.hid (IH.out _ HL.out _ (y.set v 0) _ c.low cl Wl s2 IL.out (Nat.le_refl _) HWL.out LE.out YL.out)
        clear s2
        go_wp2_with fail
        refine C1.out.mono ?_
        rintro e w2 ⟨b, rfl, hb, hout⟩
        have HB := Lib.hid hb
        clear C1 hb crow frow cw cf
        rcases hout with ⟨rfl, h1, h2⟩ | ⟨rfl, h1⟩
        · have L1 := Lib.hid h1
          have S2 := Lib.hid h2
          clear h1 h2
          go_wp2_with fail
          go_roundw
          case rel => exact ⟨1, by omega, by go_num, by show (R ++ Wl.map _).length ≤ _; have := L1.out; simpa [goR] using this, S2.out⟩
          case measure => simp [intOf]
        · have L1 := Lib.hid h1
          clear h1
          go_wp2_with fail
          go_ret
          exact ⟨false, rfl, HB.out, .inr ⟨rfl, by have h1 : most < R.length + Wl.length := L1.out; have := WL.out; omega⟩⟩
      · have e0 : ((1 : Nat) : Int) = 1 := rfl
        rw [e0]
        have hix := idx_two1 (c.low : Int) (c.high : Int) wr
        have s2 := ST.out.set v 1
        have ey : (goY y v 1).set v 1 = y.set v 1 := List.set_set ..
        rw [ey] at s2
        have cf : (wr.setCell ⟨E.r, v, none⟩ (.int .i64 1)).cell? ⟨E.f, 0, none⟩ = some E.fv := cell_of_row _ _ 0 _ _ _ s2.cf
        unfold WEnv.fv ptrV at cf
        have C1 := Lib.hid (IH.out _ HH.out _ (y.set v 1) _ c.high ch Wh s2 IHH.out (Nat.le_refl _) HWH.out LE.out YH.out)
        clear s2 ey
        go_wp2_with fail
        refine C1.out.mono ?_
        rintro e w2 ⟨b, rfl, hb, hout⟩
        have HB := Lib.hid hb
        clear C1 hb crow frow cw cf
        rcases hout with ⟨rfl, h1, h2⟩ | ⟨rfl, h1⟩
        · have L1 := Lib.hid h1
          have S2 := Lib.hid h2
          clear h1 h2
          go_wp2_with fail
          go_roundw
          case rel => exact ⟨2, by omega, by go_num, by show (R ++ Wl.map (mrg (y.set v 0)) ++ Wh.map (mrg (y.set v 1))).length ≤ _; have := L1.out; simp [goR] at this; simp; omega, S2.out⟩
          case measure => simp [intOf]
        · have L1 := Lib.hid h1
          clear h1
          go_wp2_with fail
          go_ret
          exact ⟨false, rfl, HB.out, .inr ⟨rfl, by have h1 : most < (R ++ Wl.map (mrg (y.set v 0))).length + Wh.length := L1.out; have := WL.out; simp at h1; omega⟩⟩
      · have e0 : ((2 : Nat) : Int) = 2 := rfl
        rw [e0]
        have s2 := ST.out.set v 2
        have ey : (goY y v 2).set v 2 = y := by
          show (y.set v 1).set v 2 = y
          rw [List.set_set, set_same YV.out]
        rw [ey] at s2
        have S2 := Lib.hid s2
        clear s2 ey
        go_wp2_with fail
        go_ret
        refine ⟨true, rfl, S2.out.below, .inl ⟨rfl, ?_, ?_⟩⟩
        · have := LE.out
          have h1 : (R ++ Wl.map (mrg (y.set v 0)) ++ Wh.map (mrg (y.set v 1))).length ≤ most := LE.out
          have := WL.out
          simp at h1
          omega
        · rw [MG.out, ← List.append_assoc]
          exact S2.out
end Go.Proofs.Ytkmffmlnondolaa

/- Layer 6 (count): Cubes. -/
namespace Go.Proofs.Ytkmffmlnondolaa
open Go.ChangeShapes Go.WideShapes Go.ChangeAt Go.RowKit Go.Maps

theorem maybe_any (n : Int) (w : World) : Calls Try.prog 30 #[.int .i64 n] w fun e w' => e = .returned (.bool (decide (0 ≤ n ∧ n ≤ 16384))) ∧ w = w' := by
  by_cases h : 0 ≤ n
  · by_cases h2 : n ≤ 16384
    · rw [decide_eq_true ⟨h, h2⟩]
      go_enter Try.func30, Try.ntmps30
      go_wp2
      go_ret
      exact ⟨rfl, rfl⟩
    · rw [decide_eq_false (fun x => h2 x.2)]
      go_enter Try.func30, Try.ntmps30
      go_wp2
      go_ret
      exact ⟨rfl, rfl⟩
  · rw [decide_eq_false (fun x => h x.1)]
    go_enter Try.func30, Try.ntmps30
    go_wp2
    go_ret
    exact ⟨rfl, rfl⟩

/-- Rows that a slice of slices reads as. -/
def RowsRd (w : World) (v : Value) (R : List (List Int)) : Prop :=
  ∃ A c vs, v = .slice A R.length c ∧ Rd w A vs ∧ vs.length = R.length ∧ ∀ (i : Nat) (r : List Int), R[i]? = some r → ∃ b cap, vs[i]? = some (.slice (some ⟨b, 0, none⟩) r.length cap) ∧ Rd w (some ⟨b, 0, none⟩) (intsC r)

def CubesOut (V : Nat) (cs : List Nd) (k most : Nat) (w : World) (e : Ending) (w' : World) : Prop :=
  ∃ v x W, e = .returned (.tuple #[v, .int .i64 x]) ∧ Ways V cs k W ∧ Below w.heap.size w w' ∧ ((W.length ≤ most ∧ x = 0 ∧ RowsRd w' v W) ∨ (most < W.length ∧ x = 2 ∧ v = .slice none 0 0))

theorem WSt.rows {E : WEnv} {m : Mem} {h : Hd} {cs : List Nd} {B most : Nat} {w0 w : World} {R : List (List Int)} {y : List Int} (s : WSt E m h cs B most w0 R y w) : ∃ v, w.cell? ⟨E.l, 0, none⟩ = some v ∧ RowsRd w v R := by
  obtain ⟨lv, vs, c1, c2, ⟨c3, c4⟩, c5⟩ := s.cl
  obtain ⟨A, c, e, hrd⟩ : ∃ A c, lv = .slice A R.length c ∧ Rd w A vs := by
    rcases c2.2 with ⟨e, h0⟩ | ⟨g, cap, cur, e, hg, hr, hc, hm, hs, ht⟩
    · refine ⟨none, 0, by rw [e, h0], .inl ?_⟩
      exact List.eq_nil_of_length_eq_zero (by rw [c3]; exact h0)
    · refine ⟨_, _, e, .inr ⟨g, 0, rfl, row_lt hr, fun j u hu => ?_⟩⟩
      rw [Nat.zero_add, cell_of_row _ _ _ _ _ _ hr]
      have hj := (List.getElem?_eq_some_iff.1 hu).1
      rw [← ht, List.getElem?_take, if_pos (by omega), Array.getElem?_toList] at hu
      exact hu
  refine ⟨lv, cell_of_row _ _ 0 _ _ _ c1, A, c, vs, e, hrd, c3, fun i r hi => ?_⟩
  obtain ⟨b, cap, cur, d1, d2, d3, _⟩ := c4 i r hi
  refine ⟨b, cap, d1, .inr ⟨b, 0, rfl, row_lt d2, fun j u hu => ?_⟩⟩
  rw [Nat.zero_add, cell_of_row _ _ _ _ _ _ d2]
  have hj := (List.getElem?_eq_some_iff.1 hu).1
  rw [← d3, List.getElem?_take, if_pos (by simp [intsC] at hj; omega), Array.getElem?_toList] at hu
  exact hu

theorem two_row : (#[two, two, two, two] : Array Value) = (intsC (List.replicate 4 2)).toArray := rfl

theorem cubes_world {w w1 w3 : World} {m : Mem} {h : Hd} {cs : List Nd} {most r : Nat} (hV : h.V = 4) (s : St w m h cs) (s1 : St w1 m h cs) (b1 : Below w.heap.size w w1) (hz1 : w.heap.size + 2 ≤ w1.heap.size)
    (r0 : w1.heap[w.heap.size]? = some (.cells #[.pointer (some ⟨m.s, 0, none⟩)] 22)) (r1 : w1.heap[w.heap.size + 1]? = some (.cells #[.int .i64 (most : Int)] 3))
    (hb3 : Below ((w1.alloc (.cells #[.slice none 0 0] 38)).alloc (.cells #[.int .i64 2] 3)).heap.size ((w1.alloc (.cells #[.slice none 0 0] 38)).alloc (.cells #[.int .i64 2] 3)) w3)
    (hrow : w3.heap[r]? = some (.cells #[two, two, two, two] 3)) (hr3 : ((w1.alloc (.cells #[.slice none 0 0] 38)).alloc (.cells #[.int .i64 2] 3)).heap.size ≤ r) :
    WSt ⟨w1.heap.size, w.heap.size + 1, w3.heap.size, w.heap.size, w3.heap.size + 1, r⟩ m h cs w.heap.size most w [] (List.replicate 4 2) ((w3.alloc (.cells #[.slice (some ⟨r, 0, none⟩) 4 4] 27)).alloc (.cells #[WEnv.fv ⟨w1.heap.size, w.heap.size + 1, w3.heap.size, w.heap.size, w3.heap.size + 1, r⟩] 37)) := by
  have z3 := hb3.size
  simp only [World.size_alloc] at z3 hr3
  have b2 : Below w1.heap.size w1 ((w1.alloc (.cells #[.slice none 0 0] 38)).alloc (.cells #[.int .i64 2] 3)) := ((Below.refl _ _).alloc (Nat.le_refl _) _).alloc (by simp) _
  have b4 : Below w3.heap.size w3 ((w3.alloc (.cells #[.slice (some ⟨r, 0, none⟩) 4 4] 27)).alloc (.cells #[WEnv.fv ⟨w1.heap.size, w.heap.size + 1, w3.heap.size, w.heap.size, w3.heap.size + 1, r⟩] 37)) := ((Below.refl _ _).alloc (Nat.le_refl _) _).alloc (by simp) _
  have b3 : Below w1.heap.size w1 w3 := b2.trans (hb3.mono (by simp; omega))
  have bb : Below w1.heap.size w1 _ := b3.trans (b4.mono (by omega))
  have k : ∀ {i o}, w1.heap[i]? = some o → ((w3.alloc (.cells #[.slice (some ⟨r, 0, none⟩) 4 4] 27)).alloc (.cells #[WEnv.fv ⟨w1.heap.size, w.heap.size + 1, w3.heap.size, w.heap.size, w3.heap.size + 1, r⟩] 37)).heap[i]? = some o := fun hi => (bb.block _ (row_lt hi)).trans hi
  have hlt := s.own_lt
  refine ⟨s1.keep bb, k r0, ⟨.slice none 0 0, [], ?_, World.ownsRow_nil _ _ _ _, ⟨rfl, by simp⟩, fun g hg => by cases hg⟩, ?_, ?_, k r1, at_newC _ (by simp), by rw [hV]; rfl, b1.trans (bb.mono b1.size), hlt, ⟨by show _ ≤ w1.heap.size; omega, by show _ ≤ r; omega, Nat.le_refl _⟩, by show _ + 1 ≠ r; omega⟩
  · show _ = _
    rw [b4.block _ (by show w1.heap.size < _; omega), hb3.block _ (by show w1.heap.size < _; simp; omega)]
    exact at_oldC _ (heap_alloc_new w1 _)
  · rw [hV]; exact at_oldC _ (heap_alloc_new w3 _)
  · rw [b4.block _ (row_lt hrow)]; exact hrow

set_option maxRecDepth 100000 in
set_option maxHeartbeats 4000000 in
theorem cubes_yes {w : World} {m : Mem} {h : Hd} {cs : List Nd} (s : St w m h cs) (hV : h.V = 4) {k : Nat} {c : Nd} (hk : Is cs k c) {most : Nat} (hM : most ≤ 16384) :
    Calls Try.prog 32 #[ptrV m.s, .int .i64 (k : Int), .int .i64 (most : Int)] w (CubesOut h.V cs k most w) := by
  obtain ⟨W, hW⟩ := Ways.ex s.good k c hk
  have hmf : ∀ (fn : Fn) (first cap : Array Value) (w : World), (Instr.makeFunc fn first cap).run Try.prog w = .ok (.func fn first cap) w := fun _ _ _ _ => rfl
  have b0 : Below w.heap.size w ((w.alloc (.cells #[ptrV m.s] 22)).alloc (.cells #[.int .i64 (most : Int)] 3)) := ((Below.refl _ _).alloc (Nat.le_refl _) _).alloc (by simp) _
  have MB := Lib.hid (fun w => maybe_any (most : Int) w)
  have MBT : Hid (decide (0 ≤ (most : Int) ∧ (most : Int) ≤ 16384) = true) := by show _ = _; rw [decide_eq_true]; omega
  have RF := Lib.hid (cref_yes (s.keep b0) hk)
  have S := Lib.hid s
  have IS := Lib.hid hk
  have HW := Lib.hid hW
  have B0 := Lib.hid b0
  have H4 := Lib.hid hV
  clear s hk hW b0
  unfold ptrV at *
  go_enter Try.func32, Try.ntmps32
  go_wp2_with fail
  refine (MB.out _).mono ?_
  rintro e w' ⟨rfl, rfl⟩
  rw [MBT.out]
  go_wp2_with fail
  refine RF.out.mono ?_
  rintro e w1 ⟨rfl, hb1⟩
  have S1 := Lib.hid ((S.out.keep B0.out).keep hb1)
  have B1 : Hid (Below w.heap.size w w1) := B0.out.trans (hb1.mono B0.out.size)
  have hz1 : Hid (w.heap.size + 2 ≤ w1.heap.size) := by show _ ≤ _; have := hb1.size; simp at this; omega
  have r0 : Hid (w1.heap[w.heap.size]? = some (.cells #[.pointer (some ⟨m.s, 0, none⟩)] 22)) := by
    show _ = _
    rw [hb1.block _ (by simp; omega)]
    exact at_oldC _ (heap_alloc_new w _)
  have r1 : Hid (w1.heap[w.heap.size + 1]? = some (.cells #[.int .i64 (most : Int)] 3)) := by
    show _ = _
    rw [hb1.block _ (by simp)]
    exact at_newC _ (by simp)
  have cs1 : w1.cell? ⟨w.heap.size, 0, none⟩ = some (.pointer (some ⟨m.s, 0, none⟩)) := cell_of_row _ _ 0 _ _ _ r0.out
  have cs2 : ((w1.alloc (.cells #[.slice none 0 0] 38)).alloc (.cells #[.int .i64 2] 3)).cell? ⟨w.heap.size, 0, none⟩ = some (.pointer (some ⟨m.s, 0, none⟩)) := cell_alloc (cell_alloc cs1)
  have b2 : Below w1.heap.size w1 ((w1.alloc (.cells #[.slice none 0 0] 38)).alloc (.cells #[.int .i64 2] 3)) := ((Below.refl _ _).alloc (Nat.le_refl _) _).alloc (by simp) _
  have VS := vars_yes (S1.out.keep b2)
  rw [H4.out] at VS
  have VS := Lib.hid VS
  have RP := Lib.hid (repeat4 (w := (w1.alloc (.cells #[.slice none 0 0] 38)).alloc (.cells #[.int .i64 2] 3)) (b := w1.heap.size + 1) (at_newC _ (by simp)))
  clear hb1 RF MB MBT b2
  unfold ptrV at *
  go_wp2_with fail
  refine VS.out.mono ?_
  rintro e w' ⟨rfl, rfl⟩
  clear VS
  go_wp2_with fail
  refine RP.out.mono ?_
  rintro e w3 ⟨r, rfl, hrow, hb3, hr3⟩
  clear RP cs2
  go_wp2_with fail
  have W0 := cubes_world H4.out S.out S1.out B1.out hz1.out r0.out r1.out hb3 hrow hr3
  have GO := Lib.hid (cwalk_any (by have := H4.out; omega) hM h.V [] (List.replicate 4 2) _ k c W W0 IS.out (by unfold rk; have := S1.out.good.range IS.out; omega) HW.out (Nat.zero_le _) (fun i _ hi => by rw [List.getElem?_replicate, if_pos (by have := H4.out; omega)]))
  unfold WEnv.fv ptrV at GO
  dsimp only at GO
  clear W0 hrow hb3 hr3 r0 r1 cs1 S1 B1 hz1
  refine GO.out.mono ?_
  rintro e w4 ⟨b, rfl, hb, hout⟩
  have HB := Lib.hid hb
  clear GO hb
  rcases hout with ⟨rfl, h1, h2⟩ | ⟨rfl, h1⟩
  · obtain ⟨v, cv, hrows⟩ := h2.rows
    have HR := Lib.hid hrows
    have H1 := Lib.hid h1
    clear h1 h2 hrows
    go_wp2_with fail
    go_ret2
    refine ⟨v, 0, W, rfl, by have := HW.out; rwa [H4.out] at this, HB.out, .inl ⟨by simpa using H1.out, rfl, ?_⟩⟩
    have e : [] ++ W.map (mrg (List.replicate 4 2)) = W := by
      rw [List.nil_append]
      refine (List.map_congr_left fun r hr => ?_).trans (List.map_id W)
      exact open_mrg (by rw [HW.out.len r hr, H4.out])
    have := HR.out
    rwa [e] at this
  · have H1 := Lib.hid h1
    clear h1
    go_wp2_with fail
    go_ret2
    exact ⟨_, 2, W, rfl, by have := HW.out; rwa [H4.out] at this, HB.out, .inr ⟨by simpa using H1.out, rfl, rfl⟩⟩

set_option maxRecDepth 100000 in
theorem cubes_most {w : World} {p : Option Addr} {k most : Int} (hM : ¬ (0 ≤ most ∧ most ≤ 16384)) :
    Calls Try.prog 32 #[.pointer p, .int .i64 k, .int .i64 most] w fun e w' => e = .returned (.tuple #[.slice none 0 0, .int .i64 1]) ∧ Below w.heap.size w w' := by
  have b0 : Below w.heap.size w ((w.alloc (.cells #[.pointer p] 22)).alloc (.cells #[.int .i64 most] 3)) := ((Below.refl _ _).alloc (Nat.le_refl _) _).alloc (by simp) _
  have MB := Lib.hid (fun w => maybe_any most w)
  have MBT : Hid (decide (0 ≤ most ∧ most ≤ 16384) = false) := by show _ = _; rw [decide_eq_false hM]
  have B0 := Lib.hid b0
  clear hM b0
  go_enter Try.func32, Try.ntmps32
  go_wp2_with fail
  refine (MB.out _).mono ?_
  rintro e w' ⟨rfl, rfl⟩
  rw [MBT.out]
  go_wp2_with fail
  go_ret2
  exact ⟨rfl, B0.out⟩

set_option maxRecDepth 100000 in
/-- Refused for the store's or the number's sake. -/
theorem cubes_ref {w : World} {p : Option Addr} {k most x : Int} (hM : 0 ≤ most ∧ most ≤ 16384) (hx : x ≠ 0) (RF : ∀ w', Below w.heap.size w w' → Calls Try.prog 45 #[.pointer p, .int .i64 k] w' fun e w'' => e = .returned (.int .i64 x) ∧ w' = w'') :
    Calls Try.prog 32 #[.pointer p, .int .i64 k, .int .i64 most] w fun e w' => e = .returned (.tuple #[.slice none 0 0, .int .i64 x]) ∧ Below w.heap.size w w' := by
  have b0 : Below w.heap.size w ((w.alloc (.cells #[.pointer p] 22)).alloc (.cells #[.int .i64 most] 3)) := ((Below.refl _ _).alloc (Nat.le_refl _) _).alloc (by simp) _
  have MB := Lib.hid (fun w => maybe_any most w)
  have MBT : Hid (decide (0 ≤ most ∧ most ≤ 16384) = true) := by show _ = _; rw [decide_eq_true hM]
  have RF := Lib.hid (RF _ b0)
  have B0 := Lib.hid b0
  have hx' : (x != 0) = true := by simpa using hx
  clear hM b0
  go_enter Try.func32, Try.ntmps32
  go_wp2_with fail
  refine (MB.out _).mono ?_
  rintro e w' ⟨rfl, rfl⟩
  rw [MBT.out]
  go_wp2_with fail
  refine RF.out.mono ?_
  rintro e w' ⟨rfl, rfl⟩
  clear RF
  go_wp2_with fail
  go_ret2
  exact ⟨rfl, B0.out⟩
end Go.Proofs.Ytkmffmlnondolaa
