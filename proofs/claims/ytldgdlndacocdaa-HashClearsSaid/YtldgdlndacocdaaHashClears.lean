/- For any two lists of keys: behind Clear a table is as one that is new, whatever stood in it: the law returns true. No condition. -/
import Derived.Test.YtldgdlndacocdaaHashTurns
namespace Go.Proofs.Ytldgdlndacocdaa
open Go.ChangeShapes Go.WideShapes Go.ChangeAt Go.RowKit

/-- Too many keys: nothing is put. -/
theorem clears_long (A A2 : Option Addr) (n c n2 c2 : Nat) (W : World) (hn : 60 < n ∨ (n ≤ 60 ∧ 60 < n2)) (hm : n ≤ 9223372036854775807) (hm2 : n2 ≤ 9223372036854775807) :
    Calls Try.prog 8 #[.slice A n c, .slice A2 n2 c2] W fun e w' => e = .returned (.bool true) ∧ Below W.heap.size W w' := by
  rcases hn with hn | ⟨hn, hn2⟩ <;>
  · go_enter Try.func8, Try.ntmps8
    go_wp2_with fail
    refine (new_tab _).mono ?_
    rintro e w1 ⟨s, a, rfl, h1, hb1, hs, ha⟩
    go_wp2_with fail
    refine (new_tab _).mono ?_
    rintro e w2 ⟨t, b, rfl, h2, hb2, ht, hb⟩
    go_wp2_with fail
    refine (awake_any _).mono ?_
    rintro e w3 ⟨rfl, hb3⟩
    go_wp2_with fail
    go_ret
    have z1 := hb1.size
    have z2 := hb2.size
    exact ⟨rfl, (hb1.trans (hb2.mono z1)).trans (hb3.mono (by omega))⟩

theorem get2nL {B : Nat} {W : World} {s t : Nat} {f g : Key → Option Int} {n m x : Nat} {o : Option Obj} {w : World} (h : Two B W s t f n g m x o w) (a b c : Int) (hk : f ⟨a, b, c⟩ = none) :
    Calls Try.prog 12 #[.pointer (some ⟨s, 0, none⟩), .agg #[.int .i64 a, .int .i64 b, .int .i64 c]] w fun e w' => e = .returned (.tuple #[.int .i64 0, .int .i64 3]) ∧ Two B W s t f n g m x o w' ∧ Below w.heap.size w w' := get2n h ⟨a, b, c⟩ hk

def Clr1 (B : Nat) (W : World) (s t la : Nat) (ix : Value) (wr : World) : Prop :=
  ∃ (i n : Nat) (f : Key → Option Int), i ≤ la ∧ ix = .int .i64 i ∧ n ≤ i ∧ Two B W s t f n (fun _ => none) 0 0 none wr

def Clr2 (B : Nat) (W : World) (s t lb : Nat) (ix : Value) (wr : World) : Prop :=
  ∃ (i n m : Nat) (f : Key → Option Int), i ≤ lb ∧ ix = .int .i64 i ∧ n ≤ i ∧ m ≤ i ∧ Two B W s t f n f m 0 none wr

def Clr3 (B : Nat) (W : World) (s t l n m : Nat) (f : Key → Option Int) (ix : Value) (wr : World) : Prop :=
  ∃ (i x : Nat) (o : Option Obj), i ≤ l ∧ ix = .int .i64 i ∧ Two B W s t f n f m x o wr

set_option maxRecDepth 100000 in
theorem clears_short (A A2 : Option Addr) (ks qs : List Key) (c c2 : Nat) (W : World) (B : Nat) (hB : W.heap.size = B) (hn : ks.length ≤ 60) (hn2 : qs.length ≤ 60) (hr : RdK B W A ks) (hr2 : RdK B W A2 qs) :
    Calls Try.prog 8 #[.slice A ks.length c, .slice A2 qs.length c2] W fun e w' => e = .returned (.bool true) ∧ Below W.heap.size W w' := by
  have HB := Lib.hid hB
  clear hB
  go_enter Try.func8, Try.ntmps8
  go_wp2_with fail
  refine (new_tab _).mono ?_
  rintro e w1 ⟨s, a, rfl, h1, hb1, hs, ha⟩
  go_wp2_with fail
  refine (new_tab _).mono ?_
  rintro e w2 ⟨t, b, rfl, h2, hb2, ht, hb⟩
  have two := two_new HB.out h1 hb1 hs ha h2 hb2 ht hb
  clear h1 hb1 hs ha h2 hb2 ht hb
  go_wp2_with fail
  go_loopw [7] (Clr1 B W s t ks.length) (fun ix _ => ks.length - (intOf ix).toNat)
  case atStart => exact ⟨0, 0, _, by omega, rfl, by omega, two⟩
  case round =>
    clear two
    obtain ⟨i, n, f, hi, rfl, hni, two⟩ := hrel
    by_cases hlt : i < ks.length
    · obtain ⟨k, hk⟩ : ∃ k, ks[i]? = some k := ⟨_, List.getElem?_eq_getElem hlt⟩
      rcases hr with h0 | ⟨kb, off, rfl, hkb, hc⟩
      · rw [h0] at hlt; simp at hlt
      · obtain ⟨c0, c1, c2⟩ := cells_at two.bel hkb (hc i k hk)
        have HP := Lib.hid (put2L two (by omega) k.a k.b k.c i)
        clear hc hk
        go_wp2_with fail
        refine HP.out.mono ?_
        rintro e w2 ⟨rfl, n', hn', two2⟩
        go_wp2_with fail
        go_roundw
        case rel => exact ⟨i + 1, n', _, hlt, by go_num, by omega, two2⟩
        case measure => simp [intOf]; omega
    · have HP := Lib.hid (clear2 two)
      go_wp2_with fail
      refine HP.out.mono ?_
      rintro e w2 ⟨rfl, two2⟩
      clear HP two hlt
      go_wp2_with fail
      refine (len2 two2).mono ?_
      rintro e w3 ⟨rfl, rfl⟩
      go_wp2_with fail
      go_loopw [8] (Clr2 B W s t qs.length) (fun ix _ => qs.length - (intOf ix).toNat)
      case atStart => exact ⟨0, 0, 0, _, by omega, rfl, by omega, by omega, two2⟩
      case round =>
        clear two2
        obtain ⟨j, n, m, f, hj, rfl, hnj, hmj, two⟩ := hrel
        by_cases hlt : j < qs.length
        · obtain ⟨k, hk⟩ : ∃ k, qs[j]? = some k := ⟨_, List.getElem?_eq_getElem hlt⟩
          rcases hr2 with h0 | ⟨kb, off, rfl, hkb, hc⟩
          · rw [h0] at hlt; simp at hlt
          · obtain ⟨c0, c1, c2⟩ := cells_at two.bel hkb (hc j k hk)
            have HP := Lib.hid (put2L two (by omega) k.a k.b k.c j)
            have HC := Lib.hid (hc j k hk)
            have hm1 : m < 1048576 := by omega
            clear hc hk
            go_wp2_with fail
            refine HP.out.mono ?_
            rintro e w2 ⟨rfl, n', hn', two2⟩
            clear c0 c1 c2
            obtain ⟨c0, c1, c2⟩ := cells_at two2.bel hkb HC.out
            go_wp2_with fail
            refine (put2L two2.swap hm1 k.a k.b k.c j).mono ?_
            rintro e w3 ⟨rfl, m', hm', two3⟩
            go_wp2_with fail
            go_roundw
            case rel => exact ⟨j + 1, n', m', _, hlt, by go_num, by omega, by omega, two3.swap⟩
            case measure => simp [intOf]; omega
        · have hnm := two.count (fun _ => Iff.rfl)
          have HN0 := Lib.hid hnm
          clear hnm
          go_wp2_with fail
          have hnm := HN0.out
          clear hlt
          go_loopw [9] (Clr3 B W s t (ks.length + qs.length) n m f) (fun ix _ => ks.length + qs.length - (intOf ix).toNat)
          case atStart => exact ⟨0, 0, none, by omega, rfl, two⟩
          case round =>
            clear two
            obtain ⟨p, x, o, hp, rfl, two⟩ := hrel
            by_cases hlt : p < ks.length + qs.length
            · have hlt' : (p : Int) < (ks.length : Int) + (qs.length : Int) := by omega
              by_cases hpa : p < ks.length
              · obtain ⟨k, hk⟩ : ∃ k, ks[p]? = some k := ⟨_, List.getElem?_eq_getElem hpa⟩
                rcases hr with h0 | ⟨kb, off, rfl, hkb, hc⟩
                · rw [h0] at hpa; simp at hpa
                · obtain ⟨c0, c1, c2⟩ := cells_at two.bel hkb (hc p k hk)
                  have hkw : kb < wr.heap.size := Nat.lt_of_lt_of_le hkb two.sz
                  have T1 := Lib.hid (two.alloc (.cells #[.int .i64 k.a, .int .i64 k.b, .int .i64 k.c] 29))
                  have HN := Lib.hid hnm
                  clear hk hc hnm
                  go_wp2_with fail
                  have two1 := T1.out
                  revert two1
                  clear T1 c0 c1 c2 hkw
                  generalize wr.alloc (.cells #[.int .i64 k.a, .int .i64 k.b, .int .i64 k.c] 29) = w1
                  generalize wr.heap.size = x1
                  intro two1
                  obtain ⟨g0, g1, g2⟩ := two1.box
                  go_wp2_with fail
                  cases hfk : f k with
                  | none =>
                    refine (get2nL two1 k.a k.b k.c hfk).mono ?_
                    rintro e w2 ⟨rfl, two2, _⟩
                    have HF := Lib.hid hfk
                    clear g0 g1 g2 hfk
                    obtain ⟨g0, g1, g2⟩ := two2.box
                    go_wp2_with fail
                    refine (get2nL two2.swap k.a k.b k.c HF.out).mono ?_
                    rintro e w3 ⟨rfl, two3, _⟩
                    go_wp2_with fail
                    go_roundw
                    case rel => exact ⟨p + 1, x1, _, hlt, by go_num, two3.swap⟩
                    case measure => simp [intOf]; omega
                  | some v =>
                    refine (get2L two1 k.a k.b k.c v hfk).mono ?_
                    rintro e w2 ⟨rfl, two2, _⟩
                    have HF := Lib.hid hfk
                    clear g0 g1 g2 hfk
                    obtain ⟨g0, g1, g2⟩ := two2.box
                    go_wp2_with fail
                    refine (get2L two2.swap k.a k.b k.c v HF.out).mono ?_
                    rintro e w3 ⟨rfl, two3, _⟩
                    have hvv : (v != v) = false := by simp
                    go_wp2_with fail
                    go_roundw
                    case rel => exact ⟨p + 1, x1, _, hlt, by go_num, two3.swap⟩
                    case measure => simp [intOf]; omega
              · obtain ⟨k, hk⟩ : ∃ k, qs[p - ks.length]? = some k := ⟨_, List.getElem?_eq_getElem (by omega)⟩
                obtain ⟨z, hz⟩ : ∃ z, p - ks.length = z := ⟨_, rfl⟩
                have hzi : (p : Int) - (ks.length : Int) = (z : Int) := by omega
                have hzl : z < qs.length := by omega
                rw [hz] at hk
                rcases hr2 with h0 | ⟨kb, off, rfl, hkb, hc⟩
                · rw [h0] at hzl; simp at hzl
                · obtain ⟨c0, c1, c2⟩ := cells_at two.bel hkb (hc z k hk)
                  clear hz
                  have hkw : kb < wr.heap.size := Nat.lt_of_lt_of_le hkb two.sz
                  have T1 := Lib.hid (two.alloc (.cells #[.int .i64 k.a, .int .i64 k.b, .int .i64 k.c] 29))
                  have HN := Lib.hid hnm
                  clear hk hc hnm
                  go_wp2_with fail
                  have two1 := T1.out
                  revert two1
                  clear T1 c0 c1 c2 hkw
                  generalize wr.alloc (.cells #[.int .i64 k.a, .int .i64 k.b, .int .i64 k.c] 29) = w1
                  generalize wr.heap.size = x1
                  intro two1
                  obtain ⟨g0, g1, g2⟩ := two1.box
                  go_wp2_with fail
                  cases hfk : f k with
                  | none =>
                    refine (get2nL two1 k.a k.b k.c hfk).mono ?_
                    rintro e w2 ⟨rfl, two2, _⟩
                    have HF := Lib.hid hfk
                    clear g0 g1 g2 hfk
                    obtain ⟨g0, g1, g2⟩ := two2.box
                    go_wp2_with fail
                    refine (get2nL two2.swap k.a k.b k.c HF.out).mono ?_
                    rintro e w3 ⟨rfl, two3, _⟩
                    go_wp2_with fail
                    go_roundw
                    case rel => exact ⟨p + 1, x1, _, hlt, by go_num, two3.swap⟩
                    case measure => simp [intOf]; omega
                  | some v =>
                    refine (get2L two1 k.a k.b k.c v hfk).mono ?_
                    rintro e w2 ⟨rfl, two2, _⟩
                    have HF := Lib.hid hfk
                    clear g0 g1 g2 hfk
                    obtain ⟨g0, g1, g2⟩ := two2.box
                    go_wp2_with fail
                    refine (get2L two2.swap k.a k.b k.c v HF.out).mono ?_
                    rintro e w3 ⟨rfl, two3, _⟩
                    have hvv : (v != v) = false := by simp
                    go_wp2_with fail
                    go_roundw
                    case rel => exact ⟨p + 1, x1, _, hlt, by go_num, two3.swap⟩
                    case measure => simp [intOf]; omega
            · have hlt' : ¬ (p : Int) < (ks.length : Int) + (qs.length : Int) := by omega
              subst hnm
              go_wp2_with fail
              refine (len2 two).mono ?_
              rintro e w2 ⟨rfl, rfl⟩
              go_wp2_with fail
              refine (len2 two.swap).mono ?_
              rintro e w2 ⟨rfl, rfl⟩
              go_wp2_with fail
              refine (awake_any _).mono ?_
              rintro e w2 ⟨rfl, hb2⟩
              go_wp2_with fail
              go_ret
              exact ⟨rfl, by rw [HB.out]; exact two.bel.trans (hb2.mono two.sz)⟩

theorem hashClears_walk (v v2 : Value) (W : World) (h : ∃ (A : Option Addr) (ks : List Key) (c : Nat), v = .slice A ks.length c ∧ ks.length ≤ 9223372036854775807 ∧ RdK W.heap.size W A ks)
    (h2 : ∃ (A : Option Addr) (ks : List Key) (c : Nat), v2 = .slice A ks.length c ∧ ks.length ≤ 9223372036854775807 ∧ RdK W.heap.size W A ks) :
    Calls Try.prog 8 #[v, v2] W fun e w' => e = .returned (.bool true) ∧ Below W.heap.size W w' := by
  obtain ⟨A, ks, c, rfl, hm, hr⟩ := h
  obtain ⟨A2, qs, c2, rfl, hm2, hr2⟩ := h2
  by_cases hl : 60 < ks.length
  · exact clears_long A A2 ks.length c qs.length c2 W (.inl hl) hm hm2
  · by_cases hl2 : 60 < qs.length
    · exact clears_long A A2 ks.length c qs.length c2 W (.inr ⟨by omega, hl2⟩) hm hm2
    · exact clears_short A A2 ks qs c c2 W _ rfl (by omega) (by omega) hr hr2

namespace hashClears
set_option linter.unusedVariables false
theorem own : ownKnob Try.prog.godebug = none := by kernel_rfl
theorem laidOut : laidOutB Try.prog = true := by kernel_rfl
set_option maxRecDepth 100000 in
theorem lifted (os : Os) (started : os.Started) (H : Type) (enc : TypeId × Value → H) :
    ReturnsInHanded {} Try.checked os 8 .any (Rows.hashClearsSpec.pre6 enc Try.prog Try.f8 Rows.hashClearsRow.domain false) (Rows.hashClearsSpec.post enc Try.prog Try.f8 false true false false) := by
  refine returnsInHanded_of_change (C := Try.checked) own started (by kernel_rfl) Try.func8
    (ChangeSpec.witness6 (enc := enc) (C := Try.checked) false ⟨#[], #[.slice none 0 0, .slice none 0 0], []⟩ 8 (by kernel_rfl) (by kernel_rfl) (by kernel_rfl) (by kernel_rfl)) ?_
  intro W base args ds gs before hval0 hW hcnd hsz
  have hval : ∀ (j : Nat) t v, Try.f8.params[j]? = some t → args[j]? = some v → Value.okWide Try.prog W .any base t v := hval0
  have hW' := hW
  obtain ⟨p, q, hA0, hV, rfl, hfz, hnd⟩ := hW
  have hA : DataW.TrodAll enc Try.prog W 0 (fun _ => true) true Try.f8.params.toList args.toList ds p := hA0
  rw [Try.params8] at hA hval
  obtain ⟨v0, vs0, d0, ds0, p0, q0, hargs, rfl, rfl, h0, r0⟩ := trodAll_cons hA
  obtain ⟨v1, vs1, d1, ds1, p1, q1, rfl, rfl, rfl, h1, r1⟩ := trodAll_cons r0
  obtain ⟨rfl, rfl, rfl⟩ := trodAll_nil r1
  obtain rfl : args = #[v0, v1] := by cases args; simp_all
  obtain ⟨rfl, rfl⟩ := trodVars_none hV
  have k0 := h0
  have lt0 : ∀ x ∈ p0, x.block < W.heap.size := by obtain ⟨m, hm⟩ := k0; exact DataW.trod_lt m _ _ _ hm
  have k1 := h1
  have lt1 : ∀ x ∈ p1, x.block < W.heap.size := by obtain ⟨m, hm⟩ := k1; exact DataW.trod_lt m _ _ _ hm
  clear hA0 hval0
  refine (hashClears_walk v0 v1 W (arg_keys h0 (hval 0 25 v0 rfl rfl)) (arg_keys h1 (hval 1 25 v1 rfl rfl))).mono fun e W' ⟨he, bel⟩ => ?_
  subst he
  exact ⟨_, rfl, _, _, _, [], _, [], hW', trodAll_mk1 (shut_bool Try.underlying4 _), (trodAll_cons_mk (Below.trod laidOut (by kernel_rfl) (of_decide_eq_true (by kernel_rfl)) k0 bel lt0) (trodAll_cons_mk (Below.trod laidOut (by kernel_rfl) (of_decide_eq_true (by kernel_rfl)) k1 bel lt1) trodAll_mk0)), rfl, bel.frame _, fun h => by cases h⟩
theorem over : Rows.hashClearsRow.holds Try.pinned (OpenSpec.ofChange Rows.hashClearsSpec) :=
  OpenClaim.holds_of_wide 8 Try.f8 rfl rfl rfl rfl rfl rfl rfl ⟨rfl, rfl, rfl, rfl, rfl⟩ rfl rfl rfl rfl rfl (by kernel_rfl) Try.func8 (by kernel_rfl)
    (of_decide_eq_true (by kernel_rfl)) (by unfold Func.isWrapper; first | (rw [if_pos (by decide +kernel)]; kernel_rfl) | (rw [if_neg (by decide +kernel)]; exact ⟨rfl, rfl⟩))
    (fun os started H enc _ => lifted os started H enc)
/-- THE STATEMENT. -/
theorem proved : Rows.HashClearsSaid := over
end hashClears
#print axioms hashClears.proved
end Go.Proofs.Ytldgdlndacocdaa
