/- Layer 7 (lay): the parts of a text between bytes, one by one: strings.SplitSeq at one byte, by its rounds. -/
import Derived.Test.YtimpfeadpcjlgaaDoorYSplit
import Derived.RangeFuncNested
import Derived.RangeFuncBound
import Derived.RangeFuncCalls
import Derived.RangeFuncLeaves
import Derived.Shelf.Abstract
import Derived.Shelf.RegionOpen
import Derived.WalkKit
import Derived.OwnWalkIn
import Derived.TacticsInMore
import Derived.LoopNIn
import Derived.LoopIn
namespace Go.Proofs.YtimpfeadpcjlgaaDoor
open Go.ChangeShapes Go.WideShapes Go.ChangeAt Go.RowKit Go.Maps Go.Shelf
attribute [local go_sem] Oper.semAt_some

/-- The parts of a text. -/
def splitS (c : UInt8) (s : ByteArray) : List ByteArray := (splitB c (bytesOf s)).map ofBytes
theorem splitS_none {c : UInt8} {s : ByteArray} (h : Lib.indexByte (bytesOf s) c = -1) : splitS c s = [s] := by
  unfold splitS
  rw [split_none h, List.map_singleton, ofBytes_of]
theorem splitS_at {c : UInt8} {s : ByteArray} {i : Nat} (h : Lib.indexByte (bytesOf s) c = (i : Int)) : i < s.size ∧ splitS c s = ofBytes ((bytesOf s).take i) :: splitS c (ofBytes ((bytesOf s).drop (i + 1))) := by
  obtain ⟨h1, h2⟩ := split_at h
  rw [bytes_len] at h1
  refine ⟨h1, ?_⟩
  unfold splitS
  rw [h2, List.map_cons, bytes_of]

theorem splitB_size (c : UInt8) : ∀ (l : List UInt8), ∀ p ∈ splitB c l, p.length ≤ l.length
  | [], p, h => by simp [splitB] at h; simp [h]
  | b :: l, p, h => by
    have ih := splitB_size c l
    unfold splitB at h
    split at h
    · rcases List.mem_cons.1 h with rfl | h
      · simp
      · have := ih p h; simp; omega
    · split at h
      · next q qs e =>
        rw [e] at ih
        rcases List.mem_cons.1 h with rfl | h
        · have := ih q (by simp); simp; omega
        · have := ih p (by simp [h]); simp; omega
      · simp at h; subst h; simp
theorem splitS_size {c : UInt8} {s x : ByteArray} (h : x ∈ splitS c s) : x.size ≤ s.size := by
  unfold splitS at h
  obtain ⟨p, hp, rfl⟩ := List.mem_map.1 h
  have := splitB_size c _ p hp
  rw [bytes_len] at this
  rw [← bytes_len, bytes_of]
  exact this

def strAt (w : World) (b : Nat) : Nat := match w.cell? ⟨b, 0, none⟩ with
  | some (.string r) => r.size
  | _ => 0

/-- The three boxes of the parts' function: the rest, the sign between, and how many bytes of it are kept. -/
structure Bx (w : World) (bs bp bv : Nat) (c : UInt8) (s : ByteArray) : Prop where
  s : w.heap[bs]? = some (.cells #[.string s] 9 (0, 0))
  p : w.heap[bp]? = some (.cells #[.string ⟨#[c]⟩] 9 (0, 0))
  v : w.heap[bv]? = some (.cells #[.int .i64 0] 3 (0, 0))
theorem Bx.of {w w' : World} {bs bp bv : Nat} {c : UInt8} {s : ByteArray} (h : Bx w bs bp bv c s) (h1 : w'.heap[bs]? = w.heap[bs]?) (h2 : w'.heap[bp]? = w.heap[bp]?) (h3 : w'.heap[bv]? = w.heap[bv]?) : Bx w' bs bp bv c s := ⟨h1.trans h.s, h2.trans h.p, h3.trans h.v⟩

/-- What a round keeps. -/
def Kept3 (bs bp bv : Nat) (w w' : World) : Prop := w'.heap[bs]? = w.heap[bs]? ∧ w'.heap[bp]? = w.heap[bp]? ∧ w'.heap[bv]? = w.heap[bv]?

set_option maxRecDepth 100000 in
set_option maxHeartbeats 4000000 in
theorem split1_in (n : Nat) (hn : 1 ≤ n) (l bs bp bv : Nat) (c : UInt8) (s : ByteArray) (hs : s.size ≤ 1048576) (hbp : bs ≠ bp) (hbv : bs ≠ bv) (J : List ByteArray → World → Prop) (Jx : World → Prop)
    (hJ : ∀ pre w v, J pre w → J pre (w.setCell ⟨bs, 0, none⟩ v))
    (hY : ∀ pre x w, J pre w → pre ++ [x] <+: splitS c s → YieldAt Fence.wide (n - 1) Tryd.prog l #[.string x] w fun e w' => (e = .returned (.bool true) ∧ J (pre ++ [x]) w' ∧ Kept3 bs bp bv w w') ∨ (e = .returned (.bool false) ∧ Jx w'))
    (w : World) (hb : Bx w bs bp bv c s) (h0 : J [] w) :
    CallsIn Fence.wide n Tryd.prog 34 #[.func (.yield l) #[] #[], .pointer (some ⟨bp, 0, none⟩), .pointer (some ⟨bs, 0, none⟩), .pointer (some ⟨bv, 0, none⟩)] w fun e w' => (∃ v, e = .returned v) ∧ (J (splitS c s) w' ∨ Jx w') := by
  have hp := cell_of_row _ _ 0 _ _ _ hb.p
  simp only [List.getElem?_toArray, List.getElem?_cons_zero] at hp
  refine callsIn_of_wp Tryd.func34 rfl trivial ?_ rfl
  simp only [Tryd.ntmps34, List.size_toArray, List.length_cons, List.length_nil, Nat.reduceAdd, Nat.reduceSub, Array.replicate_succ, Array.replicate_zero, List.push_toArray, List.append_toArray, List.nil_append, List.cons_append]
  gi_wp2
  clear hp
  gi_loopw [7, 8] (fun _ _ wr => ∃ (pre : List ByteArray) (r : ByteArray), splitS c s = pre ++ splitS c r ∧ r.size ≤ s.size ∧ J pre wr ∧ Bx wr bs bp bv c r)
    (fun _ _ wr => strAt wr bs)
  case atStart => exact ⟨[], s, rfl, Nat.le_refl _, h0, hb⟩
  case round =>
    obtain ⟨pre, r, hx, hrs, hJs, hbx⟩ := hrel
    have cs := cell_of_row _ _ 0 _ _ _ hbx.s
    have cp := cell_of_row _ _ 0 _ _ _ hbx.p
    have cv := cell_of_row _ _ 0 _ _ _ hbx.v
    simp only [List.getElem?_toArray, List.getElem?_cons_zero] at cs cp cv
    have fs := frozen_of_row _ bs 0 _ _ hbx.s
    have IX := Tryd.strings_Index_one r c wr
    rw [show r.data.toList = bytesOf r from rfl] at IX
    have HX := Lib.hid hx
    have HJS := Lib.hid hJs
    have HBX := Lib.hid hbx
    clear hx hJs hbx hb h0
    by_cases hno : Lib.indexByte (bytesOf r) c = -1
    · rw [hno] at IX
      have IX := Lib.hid IX
      have e0 := splitS_none hno
      have HX2 : Hid (splitS c s = pre ++ [r]) := Lib.hid (by rw [← e0]; exact HX.out)
      clear hno e0
      obtain ⟨fn, tmps, assign, body, hy, hR⟩ := hY pre r wr HJS.out (by rw [HX2.out]; exact List.prefix_refl _)
      gi_wp2
      refine ⟨trivial, (callsIn_wide.2 IX.out).mono ?_⟩
      rintro e w' ⟨rfl, rfl⟩
      gi_wp2
      refine hR.mono ?_
      rintro e w3 (⟨rfl, hJ3, hk3⟩ | ⟨rfl, hJx3⟩)
      · gi_wp2
        go_end0
        exact ⟨⟨_, rfl⟩, .inl (by rw [HX2.out]; exact hJ3)⟩
      · gi_wp2
        go_end0
        exact ⟨⟨_, rfl⟩, .inr hJx3⟩
    · obtain ⟨i, hi⟩ : ∃ i : Nat, Lib.indexByte (bytesOf r) c = (i : Int) := ⟨(Lib.indexByte (bytesOf r) c).toNat, by have := indexByte_lo c (bytesOf r); omega⟩
      obtain ⟨hlt, hsp⟩ := splitS_at hi
      rw [hi] at IX
      have IX := Lib.hid IX
      have hlt' : (i : Int) < r.size := by omega
      have hr' : (r.size : Int) ≤ 1048576 := by omega
      have HX2 : Hid (splitS c s = (pre ++ [ofBytes ((bytesOf r).take i)]) ++ splitS c (ofBytes ((bytesOf r).drop (i + 1)))) := Lib.hid (by rw [HX.out, hsp, List.append_assoc]; rfl)
      clear hno hi hsp
      obtain ⟨fn, tmps, assign, body, hy, hR⟩ := hY pre (ofBytes ((bytesOf r).take i)) wr HJS.out (by rw [HX2.out]; exact List.prefix_append _ _)
      rw [← extract_to] at hy
      gi_wp2
      refine ⟨trivial, (callsIn_wide.2 IX.out).mono ?_⟩
      rintro e w' ⟨rfl, rfl⟩
      gi_wp2
      refine hR.mono ?_
      rintro e w3 (⟨rfl, hJ3, hk3⟩ | ⟨rfl, hJx3⟩)
      · have hb3 := HBX.out.of hk3.1 hk3.2.1 hk3.2.2
        have cs3 := cell_of_row _ _ 0 _ _ _ hb3.s
        have cp3 := cell_of_row _ _ 0 _ _ _ hb3.p
        simp only [List.getElem?_toArray, List.getElem?_cons_zero] at cs3 cp3
        have fs3 := frozen_of_row _ bs 0 _ _ hb3.s
        have HB4 : Hid (Bx (w3.setCell ⟨bs, 0, none⟩ (.string (r.extract (i + 1) r.size))) bs bp bv c (ofBytes ((bytesOf r).drop (i + 1)))) := Lib.hid
          ⟨by rw [heap_setCell_same _ _ _ _ _ _ hb3.s, ← extract_from]; rfl, (heap_setCell_other _ _ _ _ (fun e => hbp e.symm)).trans hb3.p, (heap_setCell_other _ _ _ _ (fun e => hbv e.symm)).trans hb3.v⟩
        have HJ4 : Hid (J (pre ++ [ofBytes ((bytesOf r).take i)]) (w3.setCell ⟨bs, 0, none⟩ (.string (r.extract (i + 1) r.size)))) := Lib.hid (hJ _ _ _ hJ3)
        have M4 : Hid (strAt (w3.setCell ⟨bs, 0, none⟩ (.string (r.extract (i + 1) r.size))) bs < strAt w' bs) := Lib.hid (by
          have c4 := cell_of_row _ _ 0 _ _ _ HB4.out.s
          simp only [List.getElem?_toArray, List.getElem?_cons_zero] at c4
          unfold strAt
          rw [c4, cs]
          show (ofBytes _).size < r.size
          rw [← bytes_len, bytes_of, List.length_drop, bytes_len]
          omega)
        have SZ : Hid ((ofBytes ((bytesOf r).drop (i + 1))).size ≤ s.size) := Lib.hid (by rw [← bytes_len, bytes_of, List.length_drop, bytes_len]; omega)
        clear hJ3 hk3 hb3
        gi_wp2
        first
          | exact ⟨⟨_, _, HX2.out, SZ.out, HJ4.out, HB4.out⟩, M4.out⟩
          | (go_roundw
             case rel => exact ⟨_, _, HX2.out, SZ.out, HJ4.out, HB4.out⟩
             case measure => exact M4.out)
          | fail
      · gi_wp2
        refine bodyPost_ret (results_none rfl _ _ _) rfl ?_
        exact ⟨⟨_, rfl⟩, .inr hJx3⟩

def SeqOut (s p : ByteArray) (w : World) (e : Ending) (w' : World) : Prop := e = .returned (.func (.func 34) #[] #[.pointer (some ⟨w.heap.size + 1, 0, none⟩), .pointer (some ⟨w.heap.size, 0, none⟩), .pointer (some ⟨w.heap.size + 2, 0, none⟩)]) ∧ w' = ((w.alloc (.cells #[.string s] 9)).alloc (.cells #[.string p] 9)).alloc (.cells #[.int .i64 0] 3)
set_option maxRecDepth 100000 in
theorem seq0_any (s p : ByteArray) (w : World) : Calls Tryd.prog 29 #[.string s, .string p, .int .i64 0] w (SeqOut s p w) := by
  have hmf : ∀ (fn : Fn) (first cap : Array Value) (w : World), (Instr.makeFunc fn first cap).run Tryd.prog w = .ok (.func fn first cap) w := fun _ _ _ _ => rfl
  go_enter Tryd.func29, Tryd.ntmps29
  go_wp2_with fail
  go_ret
  exact ⟨rfl, rfl⟩
set_option maxRecDepth 100000 in
/-- strings.SplitSeq: its three boxes, and the function over them. -/
theorem splitSeq_any (s p : ByteArray) (w : World) : Calls Tryd.prog 25 #[.string s, .string p] w (SeqOut s p w) := by
  have C := Lib.hid (seq0_any s p w)
  go_enter Tryd.func25, Tryd.ntmps25
  go_wp2_with fail
  refine C.out.mono ?_
  rintro e w' ⟨rfl, rfl⟩
  go_wp2_with fail
  go_ret
  exact ⟨rfl, rfl⟩
end Go.Proofs.YtimpfeadpcjlgaaDoor
