/- Contract of layer 3 (node): New. -/
import Derived.Test.YtfdebadmikmnaaaNPin
import Derived.Deep.AppendLies
namespace Go.Proofs.Ytfdebadmikmnaaa
open Go.ChangeShapes Go.WideShapes Go.ChangeAt Go.RowKit

/-- The first j of the nodes 0 and 1. -/
def firstN (V j : Nat) : List Nd := ([⟨V, 0, 0, 0⟩, ⟨V, 1, 1, 0⟩] : List Nd).take j

theorem firstN_length (V j : Nat) (hj : j ≤ 2) : (firstN V j).length = j := by unfold firstN; simp; omega
theorem firstN_next (V j : Nat) (hj : j < 2) : flatN (firstN V (j + 1)) = flatN (firstN V j) ++ [.int .i64 V, .int .i64 j, .int .i64 j, .int .i64 0] := by
  match j, hj with
  | 0, _ => rfl
  | 1, _ => rfl

theorem news4_one (a b c d : Int) : ∀ u ∈ [Value.int .i64 a, .int .i64 b, .int .i64 c, .int .i64 d], u.oneCell' = true := by simp [Value.oneCell']

/-- A store that is being made. -/
structure Half3 (V B s t b : Nat) (w0 : World) (j : Nat) (v : Value) (wr : World) : Prop where
  head : wr.heap[s]? = some (.cells #[.pointer (some ⟨s, 0, none⟩), .int .i64 V, .int .i64 B, v, .pointer (some ⟨t, 0, none⟩), .int .i64 2, .int .i64 0, .int .i64 0, .int .i64 0] 53 (0, 0))
  row : wr.ownsRow w0.heap.size 81 4 v j (flatN (firstN V j))
  far : ∀ g, v.ownBlock = some g → g ≠ s ∧ g ≠ t ∧ g ≠ b
  tab : Tab wr t b (fun _ => none) 0
  below : Below w0.heap.size w0 wr
  st : s ≠ t
  sb : s ≠ b
  ss : w0.heap.size ≤ s
  ts : w0.heap.size ≤ t
  bs : w0.heap.size ≤ b

theorem Half3.lt {V B s t b : Nat} {w0 wr : World} {j : Nat} {v : Value} (h : Half3 V B s t b w0 j v wr) : s < wr.heap.size := by
  rcases Nat.lt_or_ge s wr.heap.size with h1 | h1
  · exact h1
  · have := h.head; rw [Array.getElem?_eq_none h1] at this; cases this

theorem Tab.of {w w' : World} {t b : Nat} {f : Key → Option Int} {n : Nat} (h : Tab w t b f n) (h1 : w'.heap[t]? = w.heap[t]?) (h2 : w'.heap[b]? = w.heap[b]?) : Tab w' t b f n := by
  obtain ⟨ps, u, h5, h6, h7⟩ := h
  exact ⟨ps, u, ⟨⟨h1.trans h5.lies.head, h2.trans h5.lies.row, h5.lies.ne⟩, h5.rep, h5.pow⟩, h6, h7⟩

/-- Behind the append: what is known of the world. -/
theorem Half3.grown {V B s t b : Nat} {w0 wr w1 : World} {j : Nat} {v : Value} (h : Half3 V B s t b w0 j v wr) {o : Obj} (hg : (wr.alloc o).grownBy w1 v.ownBlock) {g : Nat} (hat : v.ownBlock = some g ∨ g = wr.heap.size + 1) :
    w1.heap[s]? = some (.cells #[.pointer (some ⟨s, 0, none⟩), .int .i64 V, .int .i64 B, v, .pointer (some ⟨t, 0, none⟩), .int .i64 2, .int .i64 0, .int .i64 0, .int .i64 0] 53 (0, 0)) ∧
    Tab w1 t b (fun _ => none) 0 ∧ Below w0.heap.size w0 w1 ∧ g ≠ s ∧ g ≠ t ∧ g ≠ b := by
  have hs := h.lt
  have htab := h.tab.lt
  have hsz := h.below.size
  have fr : ∀ i, i < wr.heap.size → some i ≠ v.ownBlock → w1.heap[i]? = wr.heap[i]? := fun i hi hn =>
    (hg.block i (by simp; omega) hn).trans (Below.heap_alloc wr o i hi)
  have ne : ∀ i, (∀ g, v.ownBlock = some g → g ≠ i) → some i ≠ v.ownBlock := fun i hn e => hn i e.symm rfl
  refine ⟨(fr s hs (ne s fun g hg => (h.far g hg).1)).trans h.head, h.tab.of (fr t htab.1 (ne t fun g hg => (h.far g hg).2.1)) (fr b htab.2.1 (ne b fun g hg => (h.far g hg).2.2)), ?_, ?_⟩
  · exact (h.below.alloc hsz _).grown hg (by simp; omega) fun k hk => (h.row.lt k hk).1
  · rcases hat with hat | rfl
    · exact h.far g hat
    · omega

theorem Half3.next {V B s t b : Nat} {w0 wr w1 : World} {j : Nat} {v : Value} (h : Half3 V B s t b w0 j v wr) (hj : j < 2) {g cap : Nat}
    (hd : w1.heap[s]? = some (.cells #[.pointer (some ⟨s, 0, none⟩), .int .i64 V, .int .i64 B, v, .pointer (some ⟨t, 0, none⟩), .int .i64 2, .int .i64 0, .int .i64 0, .int .i64 0] 53 (0, 0)))
    (htab : Tab w1 t b (fun _ => none) 0) (hbel : Below w0.heap.size w0 w1) (hgs : g ≠ s) (hgt : g ≠ t) (hgb : g ≠ b)
    (hown : w1.ownsRow w0.heap.size 81 4 (.slice (some ⟨g, 0, none⟩) (j + 1) cap) (j + 1) (flatN (firstN V j) ++ [.int .i64 V, .int .i64 j, .int .i64 j, .int .i64 0])) :
    Half3 V B s t b w0 (j + 1) (.slice (some ⟨g, 0, none⟩) (j + 1) cap) (w1.setCell ⟨s, 3, none⟩ (.slice (some ⟨g, 0, none⟩) (j + 1) cap)) := by
  refine ⟨(heap_setCell_same w1 s 3 _ _ _ hd).trans rfl, ?_, ?_, ?_, ?_, h.st, h.sb, h.ss, h.ts, h.bs⟩
  · rw [firstN_next V j hj]
    exact hown.kept (grown_set w1 s 3 _) (.inr (by simp only [Value.ownBlock]; intro e; injection e with e; exact hgs e))
  · intro g' hg'
    simp only [Value.ownBlock] at hg'
    injection hg' with hg'
    subst hg'
    exact ⟨hgs, hgt, hgb⟩
  · exact htab.of (heap_setCell_other _ _ _ _ (fun e => h.st e.symm)) (heap_setCell_other _ _ _ _ (fun e => h.sb e.symm))
  · exact hbel.setCell h.ss _

def NewRel (V B s t b : Nat) (w0 : World) (iv : Value) (wr : World) : Prop := ∃ (j : Nat) (v : Value), j ≤ 2 ∧ iv = .int .i64 j ∧ Half3 V B s t b w0 j v wr

def NewSt (V B : Nat) (w : World) (e : Ending) (w' : World) : Prop :=
  ∃ m, e = .returned (.tuple #[ptrV m.s, .int .i64 0]) ∧ St w' m ⟨V, B, 2, 2, 0, 0⟩ [⟨V, 0, 0, 0⟩, ⟨V, 1, 1, 0⟩] ∧ Below w.heap.size w w' ∧ ∀ i, m.own i → w.heap.size ≤ i

theorem first_good (V : Nat) : NGood V [⟨V, 0, 0, 0⟩, ⟨V, 1, 1, 0⟩] := by
  have two : ∀ k c, 2 ≤ k → ¬ Is [⟨V, 0, 0, 0⟩, ⟨V, 1, 1, 0⟩] k c := fun k c hk h => by have := h.lt; simp at this; omega
  have all : ∀ (k : Nat) c, ([⟨V, 0, 0, 0⟩, ⟨V, 1, 1, 0⟩] : List Nd)[k]? = some c → c.asks = V ∧ c.pins = 0 := by
    intro k c h
    match k with
    | 0 => simp at h; subst h; exact ⟨rfl, rfl⟩
    | 1 => simp at h; subst h; exact ⟨rfl, rfl⟩
    | k + 2 => simp at h
  refine ⟨⟨0, rfl⟩, ⟨0, rfl⟩, fun k c h e => ?_, fun k c hk h => absurd h (two k c hk), fun k c hk h => absurd h (two k c hk), fun k c hk h => absurd h (two k c hk), fun k j c d hk _ h _ _ => absurd h (two k c hk), fun k c h => ?_⟩
  · have := (all k c h).1; omega
  · have := (all k c h).2; omega

theorem first_keys (V : Nat) : Keys [⟨V, 0, 0, 0⟩, ⟨V, 1, 1, 0⟩] (fun _ => none) 0 := by
  have c : cnt [⟨V, 0, 0, 0⟩, ⟨V, 1, 1, 0⟩] = 2 := by
    have h : ¬ ((V : Int) = -1) := by omega
    unfold cnt; simp [h]
  refine ⟨fun q v => ⟨fun h => (by cases h), ?_⟩, c.symm⟩
  rintro ⟨k, c, hk, _, h, _⟩
  have := h.lt; simp at this; omega

theorem first_st {V B s t b g cap : Nat} {w0 w : World} (hV : V ≤ 256) (hB : B ≤ 1048576) (hB2 : 2 ≤ B) (h : Half3 V B s t b w0 2 (.slice (some ⟨g, 0, none⟩) 2 cap) w) :
    St (w.setCell ⟨s, 6, none⟩ (.int .i64 2)) ⟨s, t, b, g, cap⟩ ⟨V, B, 2, 2, 0, 0⟩ [⟨V, 0, 0, 0⟩, ⟨V, 1, 1, 0⟩] ∧ Below w0.heap.size w0 (w.setCell ⟨s, 6, none⟩ (.int .i64 2)) ∧ ∀ i, Mem.own ⟨s, t, b, g, cap⟩ i → w0.heap.size ≤ i := by
  obtain ⟨g1, g2, g3⟩ := h.far g rfl
  have hrow0 : w.ownsRow 0 81 4 (.slice (some ⟨g, 0, none⟩) 2 cap) 2 (flatN (firstN V 2)) := by
    obtain ⟨r1, r2⟩ := h.row
    refine ⟨r1, ?_⟩
    rcases r2 with r2 | ⟨g', c', cur, e, _, r3⟩
    · exact .inl r2
    · exact .inr ⟨g', c', cur, e, Nat.zero_le _, r3⟩
  have l : Lay w ⟨s, t, b, g, cap⟩ ⟨V, B, 2, 0, 0, 0⟩ [⟨V, 0, 0, 0⟩, ⟨V, 1, 1, 0⟩] := ⟨h.head, hrow0, h.st, h.sb, g1.symm, g2, g3, by simp⟩
  have gk := first_good V
  have c := (first_keys V).count
  refine ⟨⟨l.setNodes 2, ⟨_, 0, h.tab.of (heap_setCell_other _ _ _ _ (fun e => h.st e.symm)) (heap_setCell_other _ _ _ _ (fun e => h.sb e.symm)), first_keys V⟩, gk, by rw [← c]; rfl, hV, hB, by rw [← c]; exact hB2, by show 2 ≤ 2; omega, by show 2 ≤ 2; omega, fun i hi => ?_⟩, h.below.setCell h.ss _, ?_⟩
  · have hi : i < 2 := hi
    have : i = 0 ∨ i = 1 := by omega
    rcases this with rfl | rfl
    · obtain ⟨p, h⟩ := gk.is0; exact ⟨_, h⟩
    · obtain ⟨p, h⟩ := gk.is1; exact ⟨_, h⟩
  · rintro i (rfl | rfl | rfl | rfl)
    · exact h.ss
    · exact h.ts
    · exact h.bs
    · exact (h.row.lt _ rfl).1

set_option maxHeartbeats 1000000 in
set_option maxRecDepth 100000 in
theorem newst_yes (V B : Nat) (hV : V ≤ 256) (hB : B ≤ 1048576) (hB2 : 2 ≤ B) (w : World) : Calls Try.prog 26 #[.int .i64 V, .int .i64 B] w (NewSt V B w) := by
  obtain ⟨i0, hi, hz0, hz1, hz2⟩ := info_parts info_cell
  have HI := Lib.hid hi
  have HZ0 := Lib.hid hz0
  have HZ1 := Lib.hid hz1
  have HZ2 := Lib.hid hz2
  clear hi hz0 hz1 hz2
  have v0 : ¬ (V : Int) < 0 := by omega
  have v1 : (V : Int) ≤ 256 := by omega
  obtain ⟨z, hz⟩ : ∃ z : Int, (B : Int) = z := ⟨_, rfl⟩
  have b0 : ¬ z < 2 := by omega
  have b1 : decide ((1048576 : Int) < z) = false := by simp; omega
  rw [hz]
  have HV := Lib.hid hV
  have HB := Lib.hid hB
  have HB2 := Lib.hid hB2
  have HZ := Lib.hid hz
  clear hV hB hB2 hz
  go_enter Try.func26, Try.ntmps26
  go_wp2_with fail
  refine (new_tab _).mono ?_
  rintro e w1 ⟨t, b, rfl, htab, hb1, ht, hb⟩
  have hs1 := hb1.size
  go_wp2_with fail
  have hh : Half3 V B w1.heap.size t b w 0 (.slice none 0 0) (w1.alloc (.cells #[.pointer (some ⟨w1.heap.size, 0, none⟩), .int .i64 V, .int .i64 z, .slice none 0 0, .pointer (some ⟨t, 0, none⟩), .int .i64 2, .int .i64 0, .int .i64 0, .int .i64 0] 53)) := by
    have htl := htab.lt
    rw [← HZ.out]
    exact ⟨heap_alloc_new w1 _, World.ownsRow_nil _ _ _ _, fun g hg => (by cases hg), htab.keep ((Below.refl _ _).alloc (Nat.le_refl _) _), hb1.alloc hs1 _, by omega, by omega, hs1, ht, hb⟩
  have HT := Lib.hid htab
  obtain ⟨s, hs⟩ : ∃ s, w1.heap.size = s := ⟨_, rfl⟩
  rw [hs] at hh ⊢
  clear htab hb1 hs1 hs ht hb
  go_loopw [7, 31] (fun _ iv wr => NewRel V B s t b w iv wr) (fun _ iv _ => 2 - (intOf iv).toNat)
  case atStart => exact ⟨0, _, by omega, rfl, hh⟩
  case round =>
    clear hh
    obtain ⟨j, v, hj, rfl, hh⟩ := hrel
    have c3 := cell_of_row wr s 3 _ _ _ hh.head
    have f3 := frozen_of_row wr s 3 _ _ hh.head
    have hslt := hh.lt
    simp at c3
    by_cases hlt : j < 2
    · have mx : Hid (j + 1 ≤ maxLen) := by show _ ≤ _; unfold maxLen; omega
      have mb : Hid ((j + 1) * 32 ≤ 140737488355328) := by show _ ≤ _; omega
      have NX := Lib.hid (fun w1 => @Half3.next V B s t b w wr w1 j v hh hlt)
      have GR := Lib.hid (fun w1 o => @Half3.grown V B s t b w wr w1 j v hh o)
      have ROW := Lib.hid hh.row
      have bs := Lib.hid hh.below.size
      go_wp2_with (at_builtin; refine wpList_append_lies _ rfl (.tmp 38) (.tmp 43) 45 rfl w.heap.size 81 i0 _ 4 32 Try.underlying45 HI.out HZ0.out HZ1.out HZ2.out rfl (by omega) v j (flatN (firstN V j)) rfl (ROW.out.alloc _) ⟨wr.heap.size, 0, none⟩ 1 1 [.int .i64 V, .int .i64 j, .int .i64 j, .int .i64 0] rfl rfl (World.news_of_block (cs := #[.int .i64 V, .int .i64 j, .int .i64 j, .int .i64 0]) (t := 81) (fr := (0, 0)) (heap_alloc_new wr _)) (news4_one _ _ _ _) (by omega) mx.out mb.out (by have := bs.out; simp; omega) (wr.heap.size + 1) (by simp) ?_; intro g cap w2 hown hgrow hat hlt2; obtain ⟨hd, htab2, hbel2, hgs, hgt, hgb⟩ := GR.out _ _ hgrow hat; have c32 := cell_of_row w2 s 3 _ _ _ hd; have f32 := frozen_of_row w2 s 3 _ _ hd; have HD := Lib.hid hd; have HO := Lib.hid hown; clear hgrow hat hd hown c3 f3)
      go_roundw
      case rel => exact ⟨j + 1, _, by omega, by go_num, NX.out _ HD.out htab2 hbel2 hgs hgt hgb HO.out⟩
      case measure => simp [intOf]; omega
    · obtain rfl : j = 2 := by omega
      obtain ⟨g, cap, hv, _, _⟩ := hh.row.form (by omega)
      subst hv
      have FS := Lib.hid (first_st HV.out HB.out HB2.out hh)
      have c6 := cell_of_row wr s 6 _ _ _ hh.head
      have f6 := frozen_of_row wr s 6 _ _ hh.head
      have H := Lib.hid (store_any (y := 2) c6 f6)
      clear c3 f3
      go_wp2_with fail
      refine H.out.mono ?_
      rintro e w2 ⟨rfl, hw2⟩
      have HW := Lib.hid hw2
      clear hw2
      go_wp2_with fail
      go_ret2
      refine ⟨⟨s, t, b, g, cap⟩, rfl, ?_⟩
      rw [HW.out]
      exact FS.out

set_option maxRecDepth 100000 in
theorem newst_no (v z : Int) (h : v < 0 ∨ 256 < v ∨ z < 2 ∨ 1048576 < z) (w : World) : Calls Try.prog 26 #[.int .i64 v, .int .i64 z] w fun e w' => e = .returned (.tuple #[.pointer none, .int .i64 1]) ∧ w = w' := by
  by_cases h0 : v < 0
  · clear h
    go_enter Try.func26, Try.ntmps26
    go_wp2_with fail
    go_ret2
    exact ⟨rfl, rfl⟩
  · by_cases h1 : 256 < v
    · clear h
      go_enter Try.func26, Try.ntmps26
      go_wp2_with fail
      go_ret2
      exact ⟨rfl, rfl⟩
    · by_cases h2 : z < 2
      · clear h
        go_enter Try.func26, Try.ntmps26
        go_wp2_with fail
        go_ret2
        exact ⟨rfl, rfl⟩
      · have h3 : 1048576 < z := by omega
        clear h
        go_enter Try.func26, Try.ntmps26
        go_wp2_with fail
        go_ret2
        exact ⟨rfl, rfl⟩
end Go.Proofs.Ytfdebadmikmnaaa
