/- For any list of keys and any turn: in whatever order the keys come, the table has the same: the law returns true. No condition. -/
import Derived.Test.YtldgdlndacocdaaHKeys
namespace Go.Proofs.Ytldgdlndacocdaa
open Go.ChangeShapes Go.WideShapes Go.ChangeAt Go.RowKit

theorem two_keep_below {B : Nat} {W : World} {s t : Nat} {f g : Key → Option Int} {n m x : Nat} {o : Option Obj} {w : World} (h : Two B W s t f n g m x o w) : Below B W w := h.bel

/-- Too many keys: nothing is put. -/
theorem turns_long (A : Option Addr) (n c : Nat) (turn : Int) (W : World) (hn : 100 < n) (hm : n ≤ 9223372036854775807) :
    Calls Try.prog 6 #[.slice A n c, .int .i64 turn] W fun e w' => e = .returned (.bool true) ∧ Below W.heap.size W w' := by
  go_enter Try.func6, Try.ntmps6
  go_wp2_with fail
  refine (new_tab _).mono ?_
  rintro e w1 ⟨s, a, rfl, h1, hb1, hs, ha⟩
  go_wp2_with fail
  refine (new_tab _).mono ?_
  rintro e w2 ⟨t, b, rfl, h2, hb2, ht, hb⟩
  go_wp2_with fail
  refine (awake_any _).mono ?_
  rintro e w3 ⟨rfl, hb3⟩
  go_wp2_with fail
  go_ret
  have z1 := hb1.size
  have z2 := hb2.size
  exact ⟨rfl, (hb1.trans (hb2.mono z1)).trans (hb3.mono (by omega))⟩

def rotL (ks : List Key) (r : Nat) : List Key := (List.range ks.length).map fun j => ks.getD ((j + r) % ks.length) ⟨0, 0, 0⟩

theorem Two.box {B : Nat} {W : World} {s t : Nat} {f g : Key → Option Int} {n m x : Nat} {w : World} {a b c : Value} {T : TypeId} (h : Two B W s t f n g m x (some (.cells #[a, b, c] T (0, 0))) w) :
    w.cell? ⟨x, 0, none⟩ = some a ∧ w.cell? ⟨x, 1, none⟩ = some b ∧ w.cell? ⟨x, 2, none⟩ = some c := by
  obtain ⟨_, _, _, _, _, _, _, _, _, _, _, _, _, _, h⟩ := h
  rcases h with h | ⟨h, _⟩
  · cases h
  · exact ⟨cell_of_row w x 0 _ _ _ h, cell_of_row w x 1 _ _ _ h, cell_of_row w x 2 _ _ _ h⟩

theorem cells_at {B kb o : Nat} {W w : World} {a b c : Value} (hb : Below B W w) (hkb : kb < B) (h : W.cell? ⟨kb, o, none⟩ = some a ∧ W.cell? ⟨kb, o + 1, none⟩ = some b ∧ W.cell? ⟨kb, o + 2, none⟩ = some c) :
    w.cell? ⟨kb, o, none⟩ = some a ∧ w.cell? ⟨kb, o + 1, none⟩ = some b ∧ w.cell? ⟨kb, o + 2, none⟩ = some c :=
  ⟨(hb.cell (p := ⟨kb, o, none⟩) hkb).trans h.1, (hb.cell (p := ⟨kb, o + 1, none⟩) hkb).trans h.2.1, (hb.cell (p := ⟨kb, o + 2, none⟩) hkb).trans h.2.2⟩

theorem put2L {B : Nat} {W : World} {s t : Nat} {f g : Key → Option Int} {n m x : Nat} {o : Option Obj} {w : World} (h : Two B W s t f n g m x o w) (hn : n < 1048576) (a b c v : Int) :
    Calls Try.prog 11 #[.pointer (some ⟨s, 0, none⟩), .agg #[.int .i64 a, .int .i64 b, .int .i64 c], .int .i64 v] w (Put2 B W s t (fset f ⟨a, b, c⟩ (some v)) g m n x o) := put2 h hn ⟨a, b, c⟩ v

theorem get2L {B : Nat} {W : World} {s t : Nat} {f g : Key → Option Int} {n m x : Nat} {o : Option Obj} {w : World} (h : Two B W s t f n g m x o w) (a b c v : Int) (hk : f ⟨a, b, c⟩ = some v) :
    Calls Try.prog 12 #[.pointer (some ⟨s, 0, none⟩), .agg #[.int .i64 a, .int .i64 b, .int .i64 c]] w fun e w' => e = .returned (.tuple #[.int .i64 v, .int .i64 0]) ∧ Two B W s t f n g m x o w' ∧ Below w.heap.size w w' := get2 h ⟨a, b, c⟩ v hk

theorem rotL_get {ks : List Key} {r i z : Nat} {q : Key} (hz : (i + r) % ks.length = z) (hi : i < ks.length) (hq : ks[z]? = some q) : (rotL ks r)[i]? = some q := by
  unfold rotL
  rw [List.getElem?_map, List.getElem?_range hi]
  simp [hz, hq]

theorem rotL_mem {ks : List Key} (r : Nat) {k : Key} (h : k ∈ ks) : k ∈ rotL ks r := by
  obtain ⟨z, hz⟩ := List.getElem?_of_mem h
  have hzl : z < ks.length := (List.getElem?_eq_some_iff.1 hz).1
  obtain ⟨j, hj, e⟩ := on_way r z ks.length hzl
  exact List.mem_of_getElem? (rotL_get (by rw [Nat.add_comm]; exact e) hj hz)

theorem mem_rotL {ks : List Key} {r : Nat} {k : Key} (h : k ∈ rotL ks r) : k ∈ ks := by
  obtain ⟨i, hi⟩ := List.getElem?_of_mem h
  have hil : i < ks.length := by
    have := (List.getElem?_eq_some_iff.1 hi).1
    simpa [rotL] using this
  have hzl : (i + r) % ks.length < ks.length := Nat.mod_lt _ (by omega)
  have h2 := rotL_get (r := r) rfl hil (List.getElem?_eq_getElem hzl)
  rw [hi] at h2
  injection h2 with h2
  rw [h2]
  exact List.getElem_mem _

theorem turn_same (ks : List Key) (r : Nat) (k : Key) : fOf ks k = none ↔ fOf (rotL ks r) k = none := by
  unfold fOf
  by_cases h : k ∈ ks
  · rw [if_pos h, if_pos (rotL_mem r h)]
  · rw [if_neg h, if_neg (fun e => h (mem_rotL e))]

/-- A round's head of the second loop. -/
def Turn2 (B : Nat) (W : World) (s t : Nat) (ks : List Key) (r n m x : Nat) (o : Option Obj) (ix : Value) (wr : World) : Prop :=
  ∃ i : Nat, i ≤ ks.length ∧ ix = .int .i64 i ∧ Two B W s t (fOf ks) n (fOf (rotL ks r)) m x o wr

/-- A round's head of the first loop. -/
def Turn1 (B : Nat) (W : World) (s t : Nat) (ks : List Key) (r : Nat) (ix : Value) (wr : World) : Prop :=
  ∃ (i n m x : Nat) (o : Option Obj), i ≤ ks.length ∧ ix = .int .i64 i ∧ n ≤ i ∧ m ≤ i ∧ Two B W s t (fOf (ks.take i)) n (fOf ((rotL ks r).take i)) m x o wr

theorem turns_short (A : Option Addr) (ks : List Key) (c : Nat) (turn : Int) (W : World) (B : Nat) (hB : W.heap.size = B) (hn : ks.length ≤ 100) (hr : RdK B W A ks) (r : Nat) (hr0 : bits BinOp.and IntKind.i64 turn 255 = (r : Int)) (hr1 : r ≤ 255) :
    Calls Try.prog 6 #[.slice A ks.length c, .int .i64 turn] W fun e w' => e = .returned (.bool true) ∧ Below W.heap.size W w' := by
  have HB := Lib.hid hB
  clear hB
  go_enter Try.func6, Try.ntmps6
  go_wp2_with fail
  refine (new_tab _).mono ?_
  rintro e w1 ⟨s, a, rfl, h1, hb1, hs, ha⟩
  go_wp2_with fail
  refine (new_tab _).mono ?_
  rintro e w2 ⟨t, b, rfl, h2, hb2, ht, hb⟩
  have two := two_new HB.out h1 hb1 hs ha h2 hb2 ht hb
  clear h1 hb1 hs ha h2 hb2 ht hb
  go_wp2_with fail
  go_loopw [8] (Turn1 B W s t ks r) (fun ix _ => ks.length - (intOf ix).toNat)
  case atStart => exact ⟨0, 0, 0, 0, none, by omega, rfl, by omega, by omega, by rw [List.take_zero, List.take_zero, fOf_nil]; exact two⟩
  case round =>
    clear two
    obtain ⟨i, n, m, x, o, hi, rfl, hni, hmi, two⟩ := hrel
    by_cases hlt : i < ks.length
    · obtain ⟨k, hk⟩ : ∃ k, ks[i]? = some k := ⟨_, List.getElem?_eq_getElem hlt⟩
      obtain ⟨z, hz⟩ : ∃ z : Nat, (i + r) % ks.length = z := ⟨_, rfl⟩
      have hzl : z < ks.length := by rw [← hz]; exact Nat.mod_lt _ (by omega)
      obtain ⟨q, hq⟩ : ∃ q, ks[z]? = some q := ⟨_, List.getElem?_eq_getElem hzl⟩
      have hzi : ((i : Int) + (r : Int)) % (ks.length : Int) = (z : Int) := by rw [← hz]; simp
      rcases hr with h0 | ⟨kb, off, rfl, hkb, hc⟩
      · rw [h0] at hlt; simp at hlt
      · obtain ⟨c0, c1, c2⟩ := cells_at two.bel hkb (hc i k hk)
        obtain ⟨d0, d1, d2⟩ := cells_at two.bel hkb (hc z q hq)
        have HK := Lib.hid hk
        have HQ := Lib.hid hq
        have HZ := Lib.hid hz
        have HC := Lib.hid hc
        clear hk hq hz hc
        have two1 := two.alloc (.cells #[.int .i64 q.a, .int .i64 q.b, .int .i64 q.c] 29)
        have T1 := Lib.hid two1
        clear two1
        go_wp2_with fail
        have two1 := T1.out
        revert two1
        clear T1 c0 c1 c2 d0 d1 d2
        generalize wr.alloc (.cells #[.int .i64 q.a, .int .i64 q.b, .int .i64 q.c] 29) = w1
        generalize wr.heap.size = x1
        intro two1
        obtain ⟨c0, c1, c2⟩ := cells_at two1.bel hkb (HC.out i k HK.out)
        obtain ⟨g0, g1, g2⟩ := two1.box
        have hn1 : n < 1048576 := by omega
        have hm1 : m < 1048576 := by omega
        go_region_held3 (fun w' => (w'.cell? ⟨kb, off + i * 3, none⟩ = some (.int .i64 k.a) ∧ w'.cell? ⟨kb, off + i * 3 + 1, none⟩ = some (.int .i64 k.b) ∧ w'.cell? ⟨kb, off + i * 3 + 2, none⟩ = some (.int .i64 k.c)) ∧
            (w'.cell? ⟨x1, 0, none⟩ = some (.int .i64 q.a) ∧ w'.cell? ⟨x1, 1, none⟩ = some (.int .i64 q.b) ∧ w'.cell? ⟨x1, 2, none⟩ = some (.int .i64 q.c)))
          (first | exact ⟨⟨c0, c1, c2⟩, ⟨g0, g1, g2⟩⟩ | exact ⟨⟨by assumption, by assumption, by assumption⟩, ⟨by assumption, by assumption, by assumption⟩⟩)
          (first
            | (go_at_call 11; (with_reducible refine (put2L two1.drew hn1 k.a k.b k.c k.a).mono ?_); rintro e w2 ⟨rfl, n2, hn2, two2⟩; obtain ⟨c0', c1', c2'⟩ := cells_at two2.bel hkb (HC.out i k HK.out); obtain ⟨g0', g1', g2'⟩ := two2.box)
            | (go_at_call 11; (with_reducible refine (put2L two2.swap hm1 q.a q.b q.c q.a).mono ?_); rintro e w3 ⟨rfl, n3, hn3, two3⟩; obtain ⟨c0', c1', c2'⟩ := cells_at two3.bel hkb (HC.out i k HK.out); obtain ⟨g0', g1', g2'⟩ := two3.box))
        go_wp2_with fail
        go_roundw
        case rel =>
          refine ⟨i + 1, n2, n3, x1, some (.cells #[.int .i64 q.a, .int .i64 q.b, .int .i64 q.c] 29), hlt, by go_num, by omega, by omega, ?_⟩
          have e1 : ks.take (i + 1) = ks.take i ++ [k] := by rw [List.take_add_one, HK.out]; rfl
          have e2 : (rotL ks r).take (i + 1) = (rotL ks r).take i ++ [q] := by rw [List.take_add_one, rotL_get HZ.out hlt HQ.out]; rfl
          rw [e1, e2, ← fOf_snoc, ← fOf_snoc]
          exact two3.swap
        case measure => simp [intOf]; omega
    · obtain rfl : i = ks.length := by omega
      rw [List.take_length, List.take_of_length_le (by simp [rotL])] at two
      have hnm := two.count (turn_same ks r)
      clear hlt
      go_wp2_with fail
      go_loopw [10] (Turn2 B W s t ks r n m x o) (fun ix _ => ks.length - (intOf ix).toNat)
      case atStart => exact ⟨0, by omega, rfl, two⟩
      case round =>
        clear two
        obtain ⟨i, hi, rfl, two⟩ := hrel
        by_cases hlt : i < ks.length
        · obtain ⟨k, hk⟩ : ∃ k, ks[i]? = some k := ⟨_, List.getElem?_eq_getElem hlt⟩
          rcases hr with h0 | ⟨kb, off, rfl, hkb, hc⟩
          · rw [h0] at hlt; simp at hlt
          · obtain ⟨c0, c1, c2⟩ := cells_at two.bel hkb (hc i k hk)
            have HK := Lib.hid hk
            have HC := Lib.hid hc
            have HN := Lib.hid hnm
            have hmem : k ∈ ks := List.mem_of_getElem? hk
            have HG := Lib.hid (get2L two k.a k.b k.c k.a (fOf_in hmem))
            have HM := Lib.hid (rotL_mem r hmem)
            clear hk hc hnm hmem
            go_wp2_with fail
            refine HG.out.mono ?_
            rintro e w2 ⟨rfl, two2, _⟩
            clear c0 c1 c2
            obtain ⟨c0, c1, c2⟩ := cells_at two2.bel hkb (HC.out i k HK.out)
            go_wp2_with fail
            refine (get2L two2.swap k.a k.b k.c k.a (fOf_in HM.out)).mono ?_
            rintro e w3 ⟨rfl, two3, _⟩
            clear c0 c1 c2
            obtain ⟨c0, c1, c2⟩ := cells_at two3.bel hkb (HC.out i k HK.out)
            go_wp2_with fail
            go_roundw
            case rel => exact ⟨i + 1, hlt, by go_num, two3.swap⟩
            case measure => simp [intOf]; omega
        · subst hnm
          go_wp2_with fail
          refine (len2 two).mono ?_
          rintro e w2 ⟨rfl, rfl⟩
          go_wp2_with fail
          refine (len2 two.swap).mono ?_
          rintro e w2 ⟨rfl, rfl⟩
          go_wp2_with fail
          refine (awake_any _).mono ?_
          rintro e w2 ⟨rfl, hb2⟩
          go_wp2_with fail
          go_ret
          exact ⟨rfl, by rw [HB.out]; exact two.bel.trans (hb2.mono two.sz)⟩

theorem hashTurns_walk (v : Value) (turn : Int) (W : World) (h : ∃ (A : Option Addr) (ks : List Key) (c : Nat), v = .slice A ks.length c ∧ ks.length ≤ 9223372036854775807 ∧ RdK W.heap.size W A ks) (_ : (Lit.int .i64 turn).wf = true) :
    Calls Try.prog 6 #[v, .int .i64 turn] W fun e w' => e = .returned (.bool true) ∧ Below W.heap.size W w' := by
  obtain ⟨A, ks, c, rfl, hm, hr⟩ := h
  by_cases hl : 100 < ks.length
  · exact turns_long A ks.length c turn W hl hm
  · obtain ⟨r, hr1, hr0⟩ := and_some turn 255 (by decide)
    exact turns_short A ks c turn W _ rfl (by omega) hr r hr0 hr1

namespace hashTurns
set_option linter.unusedVariables false
theorem own : ownKnob Try.prog.godebug = none := by kernel_rfl
theorem laidOut : laidOutB Try.prog = true := by kernel_rfl
set_option maxRecDepth 100000 in
theorem lifted (os : Os) (started : os.Started) (H : Type) (enc : TypeId × Value → H) :
    ReturnsInHanded {} Try.checked os 6 .any (Rows.hashTurnsSpec.pre6 enc Try.prog Try.f6 Rows.hashTurnsRow.domain false) (Rows.hashTurnsSpec.post enc Try.prog Try.f6 false true false false) := by
  refine returnsInHanded_of_change (C := Try.checked) own started (by kernel_rfl) Try.func6
    (ChangeSpec.witness6 (enc := enc) (C := Try.checked) false ⟨#[], #[.slice none 0 0, .int .i64 0], []⟩ 8 (by kernel_rfl) (by kernel_rfl) (by kernel_rfl) (by kernel_rfl)) ?_
  intro W base args ds gs before hval0 hW hcnd hsz
  have hval : ∀ (j : Nat) t v, Try.f6.params[j]? = some t → args[j]? = some v → Value.okWide Try.prog W .any base t v := hval0
  have hW' := hW
  obtain ⟨p, q, hA0, hV, rfl, hfz, hnd⟩ := hW
  have hA : DataW.TrodAll enc Try.prog W 0 (fun _ => true) true Try.f6.params.toList args.toList ds p := hA0
  rw [Try.params6] at hA hval
  obtain ⟨v0, vs0, d0, ds0, p0, q0, hargs, rfl, rfl, h0, r0⟩ := trodAll_cons hA
  obtain ⟨v1, vs1, d1, ds1, p1, q1, rfl, rfl, rfl, h1, r1⟩ := trodAll_cons r0
  obtain ⟨rfl, rfl, rfl⟩ := trodAll_nil r1
  obtain rfl : args = #[v0, v1] := by cases args; simp_all
  obtain ⟨rfl, rfl⟩ := trodVars_none hV
  have k0 := h0
  have lt0 : ∀ x ∈ p0, x.block < W.heap.size := by obtain ⟨m, hm⟩ := k0; exact DataW.trod_lt m _ _ _ hm
  obtain ⟨a1, rfl, rfl, rfl, w1⟩ := open_int Try.underlying3 (hval 1 3 v1 rfl rfl) h1
  clear hA0 hval0
  refine (hashTurns_walk v0 a1 W (arg_keys h0 (hval 0 25 v0 rfl rfl)) w1).mono fun e W' ⟨he, bel⟩ => ?_
  subst he
  exact ⟨_, rfl, _, _, _, [], _, [], hW', trodAll_mk1 (shut_bool Try.underlying4 _), (trodAll_cons_mk (Below.trod laidOut (by kernel_rfl) (of_decide_eq_true (by kernel_rfl)) k0 bel lt0) (trodAll_cons_mk (shut_int Try.underlying3 w1) trodAll_mk0)), rfl, bel.frame _, fun h => by cases h⟩
theorem over : Rows.hashTurnsRow.holds Try.pinned (OpenSpec.ofChange Rows.hashTurnsSpec) :=
  OpenClaim.holds_of_wide 6 Try.f6 rfl rfl rfl rfl rfl rfl rfl ⟨rfl, rfl, rfl, rfl, rfl⟩ rfl rfl rfl rfl rfl (by kernel_rfl) Try.func6 (by kernel_rfl)
    (of_decide_eq_true (by kernel_rfl)) (by unfold Func.isWrapper; first | (rw [if_pos (by decide +kernel)]; kernel_rfl) | (rw [if_neg (by decide +kernel)]; exact ⟨rfl, rfl⟩))
    (fun os started H enc _ => lifted os started H enc)
/-- THE STATEMENT. -/
theorem proved : Rows.HashTurnsSaid := over
end hashTurns
#print axioms hashTurns.proved
end Go.Proofs.Ytldgdlndacocdaa
