/- For any three numbers: of up to 2000 keys that are put in, some dropped, and some put in again, each has what was put last: the law returns true. No condition. -/
import Derived.Test.YtldgdlndacocdaaHAwake
namespace Go.Proofs.Ytldgdlndacocdaa
open Go.ChangeShapes Go.WideShapes Go.ChangeAt Go.RowKit

def mkey (S : Nat) (i : Nat) : Key := ⟨(i : Int) * (S : Int), i, ((i % 4 : Nat) : Int)⟩

theorem mkey_inj {S i j : Nat} : mkey S i = mkey S j ↔ i = j := by
  constructor
  · intro h; injection h with _ h _; omega
  · intro h; rw [h]

theorem fset_mkey (f : Key → Option Int) (S i j : Nat) (v : Option Int) : fset f (mkey S i) v (mkey S j) = if j = i then v else f (mkey S j) := by
  unfold fset
  by_cases h : j = i
  · rw [if_pos (mkey_inj.2 h), if_pos h]
  · rw [if_neg (fun e => h (mkey_inj.1 e)), if_neg h]

theorem and_3 (i : Nat) (h : i ≤ 1000000) : bits BinOp.and IntKind.i64 (i : Int) 3 = ((i % 4 : Nat) : Int) := by
  have h2 := bits_mask .i64 63 (by decide) wraps_i64 2 (by decide) (i : Int) (by omega) (by omega)
  have h3 : bits BinOp.and IntKind.i64 (i : Int) 3 = (i : Int) % 4 := h2
  rw [h3]; omega

/-- The keys below i have been put. -/
def Many1 (B : Nat) (W : World) (t S N : Nat) (ix : Value) (wr : World) : Prop :=
  ∃ (i b : Nat) (f : Key → Option Int), i ≤ N ∧ ix = .int .i64 i ∧ Tab wr t b f i ∧ Hid (∀ j : Nat, f (mkey S j) = if j < i then some (j : Int) else none) ∧ Below B W wr ∧ B ≤ b

/-- The manieth ones below i have been dropped. -/
def Many2 (B : Nat) (W : World) (t S N D : Nat) (ix lf : Value) (wr : World) : Prop :=
  ∃ (i c b : Nat) (f : Key → Option Int), Hid (i = c * D) ∧ c ≤ N ∧ i ≤ N + D ∧ ix = .int .i64 i ∧ lf = .int .i64 ((N - c : Nat) : Int) ∧ Tab wr t b f (N - c) ∧
    Hid (∀ j : Nat, j < N → f (mkey S j) = if j % D = 0 ∧ j < i then none else some (j : Int)) ∧ Below B W wr ∧ B ≤ b

/-- Every other one of them below i has been put again. -/
def Many3 (B : Nat) (W : World) (t S N D L : Nat) (ix lf : Value) (wr : World) : Prop :=
  ∃ (i c b : Nat) (f : Key → Option Int), Hid (i = c * (2 * D)) ∧ c ≤ N ∧ i ≤ N + 2 * D ∧ ix = .int .i64 i ∧ lf = .int .i64 ((L + c : Nat) : Int) ∧ Tab wr t b f (L + c) ∧
    Hid (∀ j : Nat, j < N → f (mkey S j) = if j % D = 0 then (if j % (2 * D) = 0 ∧ j < i then some (-(j : Int)) else none) else some (j : Int)) ∧ Below B W wr ∧ B ≤ b

/-- What stands at the end. -/
def mval (D j : Nat) : Option Int := if j % D = 0 then (if j % (2 * D) = 0 then some (-(j : Int)) else none) else some (j : Int)

def Many4 (B : Nat) (W : World) (t b N n : Nat) (f : Key → Option Int) (ix : Value) (wr : World) : Prop :=
  ∃ i : Nat, i ≤ N ∧ ix = .int .i64 i ∧ Tab wr t b f n ∧ Below B W wr

theorem gap {i j D : Nat} (hi : i % D = 0) (hj : j % D = 0) (h : i < j) : i + D ≤ j := by
  have e1 := Nat.mod_add_div i D
  have e2 := Nat.mod_add_div j D
  rw [hi] at e1
  rw [hj] at e2
  generalize i / D = a at *
  generalize j / D = b at *
  have : a < b := by
    rcases Nat.lt_or_ge a b with h1 | h1
    · exact h1
    · have := Nat.mul_le_mul_left D h1; omega
  have h2 : D * (a + 1) ≤ D * b := Nat.mul_le_mul_left D this
  rw [Nat.mul_add] at h2; omega

theorem modI (i D : Nat) : (i : Int) % (D : Int) = ((i % D : Nat) : Int) := (Int.natCast_emod i D).symm
theorem modI2 (i D : Nat) : (i : Int) % (2 * (D : Int)) = ((i % (2 * D) : Nat) : Int) := by rw [Int.natCast_emod]; rfl

theorem many1_next {B : Nat} {W w1 wr : World} {t S N i b : Nat} {f : Key → Option Int} {e : Ending} (hlt : i < N) (hf : ∀ j : Nat, f (mkey S j) = if j < i then some (j : Int) else none) (hb1 : Below B W wr) (ht : B ≤ t) (hb : B ≤ b)  (hs : B ≤ wr.heap.size)
    (hp : PutOut t b (fset f (mkey S i) (some (i : Int))) (i + 1) wr e w1) : e = .returned (.int .i64 0) ∧ Many1 B W t S N (.int .i64 ((i : Int) + 1)) w1 := by
  obtain ⟨he, b', h1, hB, hw⟩ := hp.below hb1 ht hb hs
  refine ⟨he, i + 1, b', _, hlt, by go_num, h1, Lib.hid (fun j => ?_), hw, hB⟩
  rw [fset_mkey]
  by_cases h : j = i
  · rw [if_pos h, if_pos (by omega), h]
  · rw [if_neg h, hf]
    by_cases h2 : j < i
    · rw [if_pos h2, if_pos (by omega)]
    · rw [if_neg h2, if_neg (by omega)]

theorem many2_next {B : Nat} {W w1 wr : World} {t S N D i c b : Nat} {f : Key → Option Int} {e : Ending} (hlt : i < N) (hD : 2 ≤ D) (hi : i = c * D) (hf : ∀ j : Nat, j < N → f (mkey S j) = if j % D = 0 ∧ j < i then none else some (j : Int)) (hb1 : Below B W wr) (ht : B ≤ t) (hb : B ≤ b) (hs : B ≤ wr.heap.size)
    (hp : DropOut t b (fset f (mkey S i) none) (N - c - 1) wr e w1) : e = .returned (.bool true) ∧ Many2 B W t S N D (.int .i64 ((i : Int) + (D : Int))) (.int .i64 (((N - c : Nat) : Int) - 1)) w1 := by
  obtain ⟨he, h1, hm⟩ := hp
  have hcD := Nat.le_mul_of_pos_right c (show 0 < D by omega)
  have hi0 : i % D = 0 := by rw [hi]; exact Nat.mul_mod_left _ _
  have hnc : N - c - 1 = N - (c + 1) := by omega
  rw [hnc] at h1
  refine ⟨he, i + D, c + 1, b, _, Lib.hid (by rw [hi, Nat.succ_mul]), by omega, by omega, by congr 1, ?_, h1, Lib.hid (fun j hj => ?_), Mut.to_below hb1 hm ht hb hs, hb⟩
  · congr 1; omega
  · rw [fset_mkey]
    by_cases h : j = i
    · rw [if_pos h, if_pos ⟨by rw [h]; exact hi0, by omega⟩]
    · rw [if_neg h, hf j hj]
      by_cases h2 : j % D = 0 ∧ j < i
      · rw [if_pos h2, if_pos ⟨h2.1, by omega⟩]
      · rw [if_neg h2, if_neg]
        rintro ⟨h3, h4⟩
        have h5 : i < j := by
          rcases Nat.lt_or_ge i j with h6 | h6
          · exact h6
          · exact absurd ⟨h3, by omega⟩ h2
        have := gap hi0 h3 h5
        omega

theorem many3_next {B : Nat} {W w1 wr : World} {t S N D L i c b : Nat} {f : Key → Option Int} {e : Ending} (hlt : i < N) (hD : 2 ≤ D) (hi : i = c * (2 * D)) (hf : ∀ j : Nat, j < N → f (mkey S j) = if j % D = 0 then (if j % (2 * D) = 0 ∧ j < i then some (-(j : Int)) else none) else some (j : Int)) (hb1 : Below B W wr) (ht : B ≤ t) (hb : B ≤ b) (hs : B ≤ wr.heap.size)
    (hp : PutOut t b (fset f (mkey S i) (some (-(i : Int)))) (L + c + 1) wr e w1) : e = .returned (.int .i64 0) ∧ Many3 B W t S N D L (.int .i64 ((i : Int) + 2 * (D : Int))) (.int .i64 (((L + c : Nat) : Int) + 1)) w1 := by
  obtain ⟨he, b', h1, hB, hw⟩ := hp.below hb1 ht hb hs
  have hcD := Nat.le_mul_of_pos_right c (show 0 < 2 * D by omega)
  have hi1 : i % (2 * D) = 0 := by rw [hi]; exact Nat.mul_mod_left _ _
  have hi0 : i % D = 0 := by rw [hi, ← Nat.mul_assoc]; exact Nat.mul_mod_left _ _
  refine ⟨he, i + 2 * D, c + 1, b', _, Lib.hid (by rw [hi, Nat.add_mul, Nat.one_mul]), by omega, by omega, by congr 1, by congr 1, h1, Lib.hid (fun j hj => ?_), hw, hB⟩
  · rw [fset_mkey]
    by_cases h : j = i
    · rw [if_pos h, h, if_pos hi0, if_pos ⟨hi1, by omega⟩]
    · rw [if_neg h, hf j hj]
      by_cases h0 : j % D = 0
      · rw [if_pos h0, if_pos h0]
        by_cases h2 : j % (2 * D) = 0 ∧ j < i
        · rw [if_pos h2, if_pos ⟨h2.1, by omega⟩]
        · rw [if_neg h2, if_neg]
          rintro ⟨h3, h4⟩
          have h5 : i < j := by
            rcases Nat.lt_or_ge i j with h6 | h6
            · exact h6
            · exact absurd ⟨h3, by omega⟩ h2
          have := gap hi1 h3 h5
          omega
      · rw [if_neg h0, if_neg h0]

set_option maxRecDepth 100000 in
theorem many_core (many step each : Int) (W : World) (N S q m0 : Nat) (hm0 : bits BinOp.and IntKind.i64 many 65535 = (m0 : Int)) (hm1 : m0 ≤ 65535) (hN : m0 % 2000 = N) (hS : bits BinOp.and IntKind.i64 step 65535 = (S : Int)) (hS1 : S ≤ 65535) (hq : bits BinOp.and IntKind.i64 each 7 = (q : Int)) (hq1 : q ≤ 7) :
    Calls Try.prog 4 #[.int .i64 many, .int .i64 step, .int .i64 each] W fun e w' => e = .returned (.bool true) ∧ Below W.heap.size W w' := by
  have hN2 : N < 2000 := by omega
  have HN := Lib.hid hN
  clear hN
  go_enter Try.func4, Try.ntmps4
  go_wp2_with fail
  refine (new_tab _).mono ?_
  rintro e w1 ⟨t, b, rfl, h1, hb1, ht, hb⟩
  have s1 := hb1.size
  obtain ⟨B, hB⟩ : ∃ B, W.heap.size = B := ⟨_, rfl⟩
  rw [hB] at hb1 ht hb s1
  have HB := Lib.hid hB
  clear hB
  go_wp2_with fail
  have e1 : ((m0 : Int) % 2000) = (N : Int) := by have := HN.out; omega
  obtain ⟨D, hD⟩ : ∃ D : Nat, 2 + q = D := ⟨_, rfl⟩
  have e2 : (2 : Int) + (q : Int) = (D : Int) := by omega
  rw [e1, e2]
  have hD1 : 2 ≤ D := by omega
  have hD2 : D ≤ 9 := by omega
  clear e1 e2 hD hm0 hm1 hS hq hq1
  go_loopw [11] (Many1 B W t S N) (fun ix _ => N - (intOf ix).toNat)
  case atStart => exact ⟨0, b, _, by omega, rfl, h1, Lib.hid (fun j => rfl), hb1, hb⟩
  case round =>
    clear h1 hb1 hb s1
    obtain ⟨i, b, f, hi, rfl, h1, hf, hb1, hb⟩ := hrel
    have s1 := hb1.size
    have hBs : B ≤ wr.heap.size := by have := HB.out; omega
    by_cases hlt : i < N
    · have h4 := and_3 i (by omega)
      have hm1 : (i : Int) * (S : Int) ≤ 2000 * 65535 := Int.mul_le_mul (by omega) (by omega) (by omega) (by omega)
      have hm0 : 0 ≤ (i : Int) * (S : Int) := Int.mul_nonneg (by omega) (by omega)
      have hfi : f (mkey S i) = none := by rw [hf.out, if_neg (by omega)]
      have HP := Lib.hid (put_new h1 (mkey S i) i hfi (by omega))
      clear hfi
      go_wp2_with fail
      refine HP.out.mono ?_
      intro e w2 hp
      obtain ⟨rfl, hrel⟩ := many1_next hlt hf.out hb1 ht hb hBs hp
      clear hp
      go_wp2_with fail
      go_roundw
      case rel => exact hrel
      case measure => simp [intOf]; omega
    · obtain rfl : i = N := by omega
      go_wp2_with fail
      go_loopw [12, 13] (fun lf ix wr => Many2 B W t S i D ix lf wr) (fun _ ix _ => i - (intOf ix).toNat)
      case atStart => exact ⟨0, 0, b, f, Lib.hid (by omega), by omega, by omega, rfl, rfl, h1, Lib.hid (fun j hj => by rw [hf.out, if_pos hj, if_neg (by omega)]), hb1, hb⟩
      case round =>
        clear h1 hb1 hb s1 hBs hf hlt
        obtain ⟨N, hN⟩ : ∃ N, i = N := ⟨_, rfl⟩
        subst hN
        obtain ⟨j, c, b, f, hj, hc, hjN, rfl, rfl, h1, hf, hb1, hb⟩ := hrel
        have s1 := hb1.size
        have hBs : B ≤ wr.heap.size := by have := HB.out; omega
        by_cases hlt : j < i
        · have h4 := and_3 j (by omega)
          have hm1 : (j : Int) * (S : Int) ≤ 2000 * 65535 := Int.mul_le_mul (by omega) (by omega) (by omega) (by omega)
          have hm0 : 0 ≤ (j : Int) * (S : Int) := Int.mul_nonneg (by omega) (by omega)
          have hfi : f (mkey S j) = some (j : Int) := by rw [hf.out j hlt, if_neg (by omega)]
          have HP := Lib.hid (drop_some h1 (mkey S j) j hfi)
          clear hfi
          go_wp2_with fail
          refine HP.out.mono ?_
          intro e w2 hp
          obtain ⟨rfl, hrel⟩ := many2_next hlt hD1 hj.out hf.out hb1 ht hb hBs hp
          clear hp
          go_wp2_with fail
          go_roundw
          case rel => exact hrel
          case measure => simp [intOf]; omega
        · obtain ⟨L, hL⟩ : ∃ L, i - c = L := ⟨_, rfl⟩
          rw [hL] at h1 ⊢
          have hL2 : L ≤ 2000 := by omega
          have HL := Lib.hid hL
          clear hL
          go_wp2_with fail
          go_loopw [12, 14] (fun lf ix wr => Many3 B W t S i D L ix lf wr) (fun _ ix _ => i - (intOf ix).toNat)
          case atStart => exact ⟨0, 0, b, f, Lib.hid (by omega), by omega, by omega, rfl, rfl, h1, Lib.hid (fun k hk => by
            rw [hf.out k hk]
            by_cases h0 : k % D = 0
            · rw [if_pos ⟨h0, by omega⟩, if_pos h0, if_neg (by omega)]
            · rw [if_neg (fun h => h0 h.1), if_neg h0]), hb1, hb⟩
          case round =>
            clear h1 hb1 hb s1 hBs hf hlt hj hc hjN HL
            obtain ⟨j, c, b, f, hj, hc, hjN, rfl, rfl, h1, hf, hb1, hb⟩ := hrel
            have s1 := hb1.size
            have hBs : B ≤ wr.heap.size := by have := HB.out; omega
            by_cases hlt : j < i
            · have h4 := and_3 j (by omega)
              have hm1 : (j : Int) * (S : Int) ≤ 2000 * 65535 := Int.mul_le_mul (by omega) (by omega) (by omega) (by omega)
              have hm0 : 0 ≤ (j : Int) * (S : Int) := Int.mul_nonneg (by omega) (by omega)
              have hfi : f (mkey S j) = none := by
                rw [hf.out j hlt]
                have h0 : j % D = 0 := by rw [hj.out, ← Nat.mul_assoc]; exact Nat.mul_mod_left _ _
                rw [if_pos h0, if_neg (by omega)]
              have HP := Lib.hid (put_new h1 (mkey S j) (-(j : Int)) hfi (by omega))
              clear hfi
              go_wp2_with fail
              refine HP.out.mono ?_
              intro e w2 hp
              obtain ⟨rfl, hrel⟩ := many3_next hlt hD1 hj.out hf.out hb1 ht hb hBs hp
              clear hp
              go_wp2_with fail
              go_roundw
              case rel => exact hrel
              case measure => simp [intOf]; omega
            · have hff : ∀ k : Nat, k < i → f (mkey S k) = mval D k := by
                intro k hk
                rw [hf.out k hk]
                unfold mval
                by_cases h0 : k % D = 0
                · rw [if_pos h0, if_pos h0]
                  by_cases h2 : k % (2 * D) = 0
                  · rw [if_pos ⟨h2, by omega⟩, if_pos h2]
                  · rw [if_neg (fun h => h2 h.1), if_neg h2]
                · rw [if_neg h0, if_neg h0]
              obtain ⟨n, hn⟩ : ∃ n, L + c = n := ⟨_, rfl⟩
              rw [hn] at h1 ⊢
              have hnl : n ≤ 10000 := by omega
              have HF := Lib.hid hff
              clear hff hn hf hj
              go_wp2_with fail
              go_loopw [15] (Many4 B W t b i n f) (fun ix _ => i - (intOf ix).toNat)
              case atStart => exact ⟨0, by omega, rfl, h1, hb1⟩
              case round =>
                clear h1 hb1 s1 hBs hlt
                obtain ⟨k, hk, rfl, h1, hb1⟩ := hrel
                have s1 := hb1.size
                have hBs : B ≤ wr.heap.size := by have := HB.out; omega
                by_cases hlt : k < i
                · have h4 := and_3 k (by omega)
                  have hm1 : (k : Int) * (S : Int) ≤ 2000 * 65535 := Int.mul_le_mul (by omega) (by omega) (by omega) (by omega)
                  have hm0 : 0 ≤ (k : Int) * (S : Int) := Int.mul_nonneg (by omega) (by omega)
                  have hfk := HF.out k hlt
                  by_cases h0 : k % D = 0
                  · have g1 : ((k : Int) % (D : Int) == 0) = true := by rw [modI, h0]; rfl
                    by_cases h2 : k % (2 * D) = 0
                    · have g2 : ((k : Int) % (2 * (D : Int)) != 0) = false := by rw [modI2, h2]; rfl
                      have HG := Lib.hid (get_some h1 (mkey S k) (-(k : Int)) (by rw [hfk]; unfold mval; rw [if_pos h0, if_pos h2]))
                      clear hfk h0 h2
                      go_wp2_with fail
                      refine HG.out.mono ?_
                      rintro e w2 ⟨rfl, hb2⟩
                      go_wp2_with fail
                      go_roundw
                      case rel => exact ⟨k + 1, hlt, by go_num, h1.keep hb2, hb1.trans (hb2.mono hBs)⟩
                      case measure => simp [intOf]; omega
                    · have g2 : ((k : Int) % (2 * (D : Int)) != 0) = true := by
                        rw [modI2, bne_iff_ne]; omega
                      have HG := Lib.hid (get_none h1 (mkey S k) (by rw [hfk]; unfold mval; rw [if_pos h0, if_neg h2]))
                      clear hfk h0 h2
                      go_wp2_with fail
                      refine HG.out.mono ?_
                      rintro e w2 ⟨rfl, hb2⟩
                      go_wp2_with fail
                      go_roundw
                      case rel => exact ⟨k + 1, hlt, by go_num, h1.keep hb2, hb1.trans (hb2.mono hBs)⟩
                      case measure => simp [intOf]; omega
                  · have g1 : ((k : Int) % (D : Int) == 0) = false := by
                      rw [modI, beq_eq_false_iff_ne]; omega
                    have HG := Lib.hid (get_some h1 (mkey S k) (k : Int) (by rw [hfk]; unfold mval; rw [if_neg h0]))
                    clear hfk h0
                    go_wp2_with fail
                    refine HG.out.mono ?_
                    rintro e w2 ⟨rfl, hb2⟩
                    go_wp2_with fail
                    go_roundw
                    case rel => exact ⟨k + 1, hlt, by go_num, h1.keep hb2, hb1.trans (hb2.mono hBs)⟩
                    case measure => simp [intOf]; omega
                · go_wp2_with fail
                  refine (len_any h1).mono ?_
                  rintro e w2 ⟨rfl, rfl⟩
                  go_wp2_with fail
                  refine (awake_any _).mono ?_
                  rintro e w2 ⟨rfl, hb2⟩
                  go_wp2_with fail
                  go_ret
                  exact ⟨rfl, by rw [HB.out]; exact hb1.trans (hb2.mono hBs)⟩

theorem hashMany_walk (many step each : Int) (W : World) (_ : (Lit.int .i64 many).wf = true) (_ : (Lit.int .i64 step).wf = true) (_ : (Lit.int .i64 each).wf = true) :
    Calls Try.prog 4 #[.int .i64 many, .int .i64 step, .int .i64 each] W fun e w' => e = .returned (.bool true) ∧ Below W.heap.size W w' := by
  obtain ⟨m0, h0, e0⟩ := and_some many 65535 (by decide)
  obtain ⟨S, h1, e1⟩ := and_some step 65535 (by decide)
  obtain ⟨q, h2, e2⟩ := and_some each 7 (by decide)
  exact many_core many step each W _ S q m0 e0 h0 rfl e1 h1 e2 h2

namespace hashMany
set_option linter.unusedVariables false
theorem own : ownKnob Try.prog.godebug = none := by kernel_rfl
theorem laidOut : laidOutB Try.prog = true := by kernel_rfl
set_option maxRecDepth 100000 in
theorem lifted (os : Os) (started : os.Started) (H : Type) (enc : TypeId × Value → H) :
    ReturnsInHanded {} Try.checked os 4 .any (Rows.hashManySpec.pre6 enc Try.prog Try.f4 Rows.hashManyRow.domain false) (Rows.hashManySpec.post enc Try.prog Try.f4 false true false false) := by
  refine returnsInHanded_of_change (C := Try.checked) own started (by kernel_rfl) Try.func4
    (ChangeSpec.witness6 (enc := enc) (C := Try.checked) false ⟨#[], #[.int .i64 0, .int .i64 0, .int .i64 0], []⟩ 8 (by kernel_rfl) (by kernel_rfl) (by kernel_rfl) (by kernel_rfl)) ?_
  intro W base args ds gs before hval0 hW hcnd hsz
  have hval : ∀ (j : Nat) t v, Try.f4.params[j]? = some t → args[j]? = some v → Value.okWide Try.prog W .any base t v := hval0
  have hW' := hW
  obtain ⟨p, q, hA0, hV, rfl, hfz, hnd⟩ := hW
  have hA : DataW.TrodAll enc Try.prog W 0 (fun _ => true) true Try.f4.params.toList args.toList ds p := hA0
  rw [Try.params4] at hA hval
  obtain ⟨v0, vs0, d0, ds0, p0, q0, hargs, rfl, rfl, h0, r0⟩ := trodAll_cons hA
  obtain ⟨v1, vs1, d1, ds1, p1, q1, rfl, rfl, rfl, h1, r1⟩ := trodAll_cons r0
  obtain ⟨v2, vs2, d2, ds2, p2, q2, rfl, rfl, rfl, h2, r2⟩ := trodAll_cons r1
  obtain ⟨rfl, rfl, rfl⟩ := trodAll_nil r2
  obtain rfl : args = #[v0, v1, v2] := by cases args; simp_all
  obtain ⟨rfl, rfl⟩ := trodVars_none hV
  obtain ⟨a0, rfl, rfl, rfl, w0⟩ := open_int Try.underlying3 (hval 0 3 v0 rfl rfl) h0
  obtain ⟨a1, rfl, rfl, rfl, w1⟩ := open_int Try.underlying3 (hval 1 3 v1 rfl rfl) h1
  obtain ⟨a2, rfl, rfl, rfl, w2⟩ := open_int Try.underlying3 (hval 2 3 v2 rfl rfl) h2
  clear hA0 hval0
  refine (hashMany_walk a0 a1 a2 W w0 w1 w2).mono fun e W' ⟨he, bel⟩ => ?_
  subst he
  exact ⟨_, rfl, _, _, _, [], _, [], hW', trodAll_mk1 (shut_bool Try.underlying4 _), (trodAll_cons_mk (shut_int Try.underlying3 w0) (trodAll_cons_mk (shut_int Try.underlying3 w1) (trodAll_cons_mk (shut_int Try.underlying3 w2) trodAll_mk0))), rfl, bel.frame _, fun h => by cases h⟩
theorem over : Rows.hashManyRow.holds Try.pinned (OpenSpec.ofChange Rows.hashManySpec) :=
  OpenClaim.holds_of_wide 4 Try.f4 rfl rfl rfl rfl rfl rfl rfl ⟨rfl, rfl, rfl, rfl, rfl⟩ rfl rfl rfl rfl rfl (by kernel_rfl) Try.func4 (by kernel_rfl)
    (of_decide_eq_true (by kernel_rfl)) (by unfold Func.isWrapper; first | (rw [if_pos (by decide +kernel)]; kernel_rfl) | (rw [if_neg (by decide +kernel)]; exact ⟨rfl, rfl⟩))
    (fun os started H enc _ => lifted os started H enc)
/-- THE STATEMENT. -/
theorem proved : Rows.HashManySaid := over
end hashMany
#print axioms hashMany.proved
end Go.Proofs.Ytldgdlndacocdaa
