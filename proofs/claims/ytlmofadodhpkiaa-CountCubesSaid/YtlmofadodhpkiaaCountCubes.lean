/- THE CUBES ARE THE NODE: for any sixteen answers of four variables, each value for which they are true has just one cube, others none; they stand with low ahead of high; with one less than there are it is told: the law returns true. No condition. -/
import Derived.Test.YtlmofadodhpkiaaMU
import Derived.BigQuiet
namespace Go.Proofs.Ytlmofadodhpkiaa
open Go.ChangeShapes Go.WideShapes Go.ChangeAt Go.RowKit Go.Maps

theorem fits_append {val : Nat → Bool} : ∀ (r : List Int) (i : Nat) (x : Int), fits val i (r ++ [x]) = (fits val i r && (x == 2 || x == if val (i + r.length) then 1 else 0))
  | [], i, x => by simp [fits]
  | y :: r, i, x => by
    rw [List.cons_append]
    unfold fits
    rw [fits_append r (i + 1) x, List.length_cons, show i + 1 + r.length = i + (r.length + 1) by omega, Bool.and_assoc]
theorem fits_next {val : Nat → Bool} {r : List Int} {v : Nat} {x : Int} (h : r[v]? = some x) : fits val 0 (r.take (v + 1)) = (fits val 0 (r.take v) && (x == 2 || x == if val v then 1 else 0)) := by
  have hv := (List.getElem?_eq_some_iff.1 h).1
  rw [List.take_add_one, h]
  show fits val 0 (r.take v ++ [x]) = _
  rw [fits_append, List.length_take, Nat.min_eq_left (by omega), Nat.zero_add]

theorem bitZ_nat (n v : Nat) : bitZ (n : Int) v = n.testBit v := by
  unfold bitZ
  rw [show ((n : Int) / 2 ^ v % 2) = ((n / 2 ^ v % 2 : Nat) : Int) by simp, Nat.testBit_eq_decide_div_mod_eq]
  rcases Nat.mod_two_eq_zero_or_one (n / 2 ^ v) with h | h <;> rw [h] <;> rfl

/-- A row of a slice of slices, and its cells. -/
theorem RowsRd.at' {w : World} {A : Option Addr} {c : Nat} {R : List (List Int)} (h : RowsRd w (.slice A R.length c) R) {i : Nat} {r : List Int} (hi : R[i]? = some r) : ∃ lb off b cap, A = some ⟨lb, off, none⟩ ∧ w.cell? ⟨lb, off + i, none⟩ = some (.slice (some ⟨b, 0, none⟩) r.length cap) ∧ ∀ (u : Nat) (x : Int), r[u]? = some x → w.cell? ⟨b, u, none⟩ = some (.int .i64 x) := by
  obtain ⟨A', c', vs, e, h1, h2, h3⟩ := h
  simp only [Value.slice.injEq] at e
  obtain ⟨rfl, _, _⟩ := e
  obtain ⟨b, cap, d1, d2⟩ := h3 i r hi
  rcases h1 with hnil | ⟨lb, off, rfl, _, hc⟩
  · rw [hnil] at d1
    simp at d1
  · refine ⟨lb, off, b, cap, rfl, hc i _ d1, fun u x hx => ?_⟩
    rcases d2 with hn | ⟨b2, o2, e2, _, hc2⟩
    · have : r = [] := by simpa [intsC] using hn
      rw [this] at hx
      simp at hx
    · injection e2 with e2
      injection e2 with e3 e4
      subst e3 e4
      have := hc2 u _ (by simp only [intsC, List.getElem?_map, hx]; rfl)
      rwa [Nat.zero_add] at this

set_option maxHeartbeats 4000000 in
set_option maxRecDepth 100000 in
theorem cubes_core (n : Int) (w : World) : Calls Try.prog 6 #[.int .i64 n] w fun e w' => e = .returned (.bool true) ∧ Below w.heap.size w w' := by
  obtain ⟨x, hx, ex, ez⟩ := low16C n
  have BG := Lib.hid (begun6 w)
  have EZ := Lib.hid ez
  clear hx ez
  go_enter Try.func6, Try.ntmps6
  go_wp2_with fail
  refine BG.out.mono ?_
  rintro e w1 ⟨m1, rfl, s1⟩
  have T := Lib.hid (make_any s1.st s1.V (x : Int))
  have S1 := Lib.hid s1
  unfold ptrV at *
  clear s1 BG
  go_wp2_with fail
  refine T.out.mono ?_
  intro e w2 hout
  obtain ⟨nx, m2, h2, cs2, rfl, s2, x2, p2, ⟨c, ic, _⟩, sx⟩ := S1.out.make (by omega) hout
  have CU := cubes_yes s2.st s2.V ic (most := 16) (by omega)
  change Calls _ _ #[_, _, .int .i64 16] _ _ at CU
  rw [p2] at CU
  unfold ptrV at CU
  have CU := Lib.hid CU
  have S2 := Lib.hid s2
  have IC := Lib.hid ic
  have SX := Lib.hid sx
  have P2 := Lib.hid p2
  clear hout s2 x2 p2 ic sx T S1
  go_wp2_with fail
  refine CU.out.mono ?_
  rintro e w3 ⟨v, er, W, rfl, hW, hb3, hout⟩
  rw [S2.out.V] at hW
  have g := S2.out.good
  have h16 : W.length ≤ 16 := by
    have h1 := hW.bound g IC.out
    have h2 := g.range IC.out
    have h3 : 2 ^ (((4 : Nat) : Int) - c.asks).toNat ≤ 2 ^ 4 := Nat.pow_le_pow_right (by omega) (by omega)
    omega
  obtain ⟨-, rfl, hrows⟩ := hout.resolve_right fun h => by have := h.1; omega
  obtain ⟨lA, lc, vs, rfl, hrr⟩ := hrows
  have HR : Hid (RowsRd w3 (.slice lA W.length lc) W) := Lib.hid ⟨lA, lc, vs, rfl, hrr⟩
  have S3 := Lib.hid (S2.out.keep hb3)
  have HW := Lib.hid hW
  have FIT : Hid (∀ j : Nat, j < 16 → (W.filter (fits (fun u => j.testBit u) 0)).length = if bitZ (x : Int) j then 1 else 0) := fun j hj => by
    rw [hW.fit g, SX.out, tix_back hj]
  have LEN : Hid (∀ r ∈ W, r.length = 4) := hW.len
  have VAL : Hid (∀ r ∈ W, ∀ z ∈ r, z = 0 ∨ z = 1 ∨ z = 2) := hW.vals
  have ORD : Hid (W.Pairwise Before) := hW.order g
  clear hout hW hb3 g hrr CU S2
  go_wp2_with fail
  go_loopw [9, 10, 11, 12, 13] (fun iv _ _ _ _ wr => ∃ j : Nat, j ≤ 16 ∧ iv = .int .i64 (j : Int) ∧ ∃ q, wr = w3.drewN q) (fun iv _ _ _ _ _ => 16 - (intOf iv).toNat)
  case atStart => exact ⟨0, by omega, rfl, 0, rfl⟩
  case round =>
    obtain ⟨j, hj, rfl, q0, hq0⟩ := hrel
    obtain ⟨wa, rfl⟩ : ∃ q, q = wr := ⟨wr, rfl⟩
    have HQ0 := Lib.hid hq0
    clear hq0
    by_cases hlt : j < 16
    · have hlt' : (j : Int) < 16 := by omega
      go_wp2_with fail
      go_loopw [10, 11, 12, 13] (fun kv iv _ _ wr => ∃ i : Nat, i ≤ W.length ∧ iv = .int .i64 (i : Int) ∧ kv = .int .i64 (((W.take i).filter (fits (fun u => j.testBit u) 0)).length : Nat) ∧ ∃ q, wr = w3.drewN q) (fun _ iv _ _ _ => W.length - (intOf iv).toNat)
      case atStart => exact ⟨0, by omega, rfl, rfl, q0, HQ0.out⟩
      case round =>
        obtain ⟨i, hi, rfl, rfl, q1, hq1⟩ := hrel
        obtain ⟨wb, rfl⟩ : ∃ q, q = wr := ⟨wr, rfl⟩
        have HQ1 := Lib.hid hq1
        have B1 : Hid (Below w3.heap.size w3 wb) := by rw [hq1]; exact Lib.hid (below_drewN0 _ _)
        clear hq1
        by_cases hlti : i < W.length
        · have hlti' : (i : Int) < W.length := by omega
          obtain ⟨r, hr⟩ : ∃ r, W[i]? = some r := ⟨_, List.getElem?_eq_getElem hlti⟩
          have r4 := LEN.out r (List.mem_of_getElem? hr)
          obtain ⟨lb, off, b, cap, rfl, cl, cc⟩ := (HR.out.keep B1.out).at' hr
          rw [r4] at cl
          have NEXT : Hid ((W.take (i + 1)).filter (fits (fun u => j.testBit u) 0) = (W.take i).filter (fits (fun u => j.testBit u) 0) ++ if fits (fun u => j.testBit u) 0 r then [r] else []) := by
            show _ = _
            rw [List.take_add_one, hr, List.filter_append]
            simp only [Option.toList, List.filter_cons, List.filter_nil]
          have hkl : ((W.take i).filter (fits (fun u => j.testBit u) 0)).length ≤ 16 := by
            have h1 := List.length_filter_le (fits (fun u => j.testBit u) 0) (W.take i)
            rw [List.length_take] at h1
            omega
          have HRI := Lib.hid hr
          have CC := Lib.hid cc
          clear hr cc
          go_wp2_with fail
          go_loopw [12, 13] (fun bv vv wr => ∃ v : Nat, v ≤ 4 ∧ vv = .int .i64 (v : Int) ∧ bv = .bool (fits (fun u => j.testBit u) 0 (r.take v)) ∧ ∃ q, wr = wb.drewN q) (fun _ vv _ => 4 - (intOf vv).toNat)
          case atStart => exact ⟨0, by omega, rfl, rfl, 0, rfl⟩
          case round =>
            obtain ⟨v, hv, rfl, rfl, q2, rfl⟩ := hrel
            by_cases hlv : v < 4
            · have hlv' : (v : Int) < 4 := by omega
              obtain ⟨y, hy⟩ : ∃ y, r[v]? = some y := ⟨_, List.getElem?_eq_getElem (by omega)⟩
              have cy := CC.out v y hy
              have HX := Lib.hid (fits_next (val := fun u => j.testBit u) hy)
              have hy3 := VAL.out r (List.mem_of_getElem? HRI.out) y (List.mem_of_getElem? hy)
              have a1 := bitZ_and (j : Int) v
              rw [bitZ_nat] at a1
              have hv64 : (v : Int) < 64 := by omega
              clear hy
              cases hfb : fits (fun u => j.testBit u) 0 (r.take v) with
              | false =>
                rw [hfb] at HX
                have FX : Hid (fits (fun u => j.testBit u) 0 (r.take (v + 1)) = false) := HX.out
                clear a1 hy3 HX cy
                go_wp2_with fail
                go_quiet (fail)
                go_wp2_with fail
                go_roundw
                case rel => exact ⟨v + 1, by omega, by go_num, by rw [FX.out], _, rfl⟩
                case measure => simp [intOf]; omega
              | true =>
                rw [hfb] at HX
                cases hbt : j.testBit v with
                | false =>
                  rw [hbt] at a1
                  dsimp only [b2i] at a1
                  rcases hy3 with rfl | rfl | rfl
                  · have FX : Hid (fits (fun u => j.testBit u) 0 (r.take (v + 1)) = true) := by show _ = _; rw [HX.out, hbt]; rfl
                    clear HX hbt
                    have f1 : (((0 : Int)) == 2) = false := by decide
                    have f2 : (((0 : Int)) == 0) = true := by decide
                    go_wp2_with fail
                    go_quiet (fail)
                    go_wp2_with fail
                    go_roundw
                    case rel => exact ⟨v + 1, by omega, by go_num, by rw [FX.out], _, rfl⟩
                    case measure => simp [intOf]; omega
                  · have FX : Hid (fits (fun u => j.testBit u) 0 (r.take (v + 1)) = false) := by show _ = _; rw [HX.out, hbt]; rfl
                    clear HX hbt
                    have f1 : (((1 : Int)) == 2) = false := by decide
                    have f2 : (((1 : Int)) == 0) = false := by decide
                    go_wp2_with fail
                    go_quiet (fail)
                    go_wp2_with fail
                    go_roundw
                    case rel => exact ⟨v + 1, by omega, by go_num, by rw [FX.out], _, rfl⟩
                    case measure => simp [intOf]; omega
                  · have FX : Hid (fits (fun u => j.testBit u) 0 (r.take (v + 1)) = true) := by show _ = _; rw [HX.out, hbt]; rfl
                    clear HX hbt
                    have f1 : (((2 : Int)) == 2) = true := by decide
                    go_wp2_with fail
                    go_quiet (fail)
                    go_wp2_with fail
                    go_roundw
                    case rel => exact ⟨v + 1, by omega, by go_num, by rw [FX.out], _, rfl⟩
                    case measure => simp [intOf]; omega
                | true =>
                  rw [hbt] at a1
                  dsimp only [b2i] at a1
                  rcases hy3 with rfl | rfl | rfl
                  · have FX : Hid (fits (fun u => j.testBit u) 0 (r.take (v + 1)) = false) := by show _ = _; rw [HX.out, hbt]; rfl
                    clear HX hbt
                    have f1 : (((0 : Int)) == 2) = false := by decide
                    have f2 : (((0 : Int)) == 1) = false := by decide
                    go_wp2_with fail
                    go_quiet (fail)
                    go_wp2_with fail
                    go_roundw
                    case rel => exact ⟨v + 1, by omega, by go_num, by rw [FX.out], _, rfl⟩
                    case measure => simp [intOf]; omega
                  · have FX : Hid (fits (fun u => j.testBit u) 0 (r.take (v + 1)) = true) := by show _ = _; rw [HX.out, hbt]; rfl
                    clear HX hbt
                    have f1 : (((1 : Int)) == 2) = false := by decide
                    have f2 : (((1 : Int)) == 1) = true := by decide
                    go_wp2_with fail
                    go_quiet (fail)
                    go_wp2_with fail
                    go_roundw
                    case rel => exact ⟨v + 1, by omega, by go_num, by rw [FX.out], _, rfl⟩
                    case measure => simp [intOf]; omega
                  · have FX : Hid (fits (fun u => j.testBit u) 0 (r.take (v + 1)) = true) := by show _ = _; rw [HX.out, hbt]; rfl
                    clear HX hbt
                    have f1 : (((2 : Int)) == 2) = true := by decide
                    go_wp2_with fail
                    go_quiet (fail)
                    go_wp2_with fail
                    go_roundw
                    case rel => exact ⟨v + 1, by omega, by go_num, by rw [FX.out], _, rfl⟩
                    case measure => simp [intOf]; omega
            · obtain rfl : v = 4 := by omega
              have e4 : r.take 4 = r := by rw [← r4, List.take_length]
              rw [e4]
              clear cl
              generalize hG : ((W.take i).filter (fits (fun u => j.testBit u) 0)).length = G at hkl ⊢
              have HG := Lib.hid hG
              clear hG
              cases hfb : fits (fun u => j.testBit u) 0 r with
              | false =>
                have NX : Hid (((W.take (i + 1)).filter (fits (fun u => j.testBit u) 0)).length = G) := by show _ = _; rw [NEXT.out, hfb, if_neg (by simp), List.append_nil]; exact HG.out
                clear hfb
                go_wp2_with fail
                go_roundw
                case rel => exact ⟨i + 1, by omega, by go_num, by rw [NX.out], q1 + q2, by rw [HQ1.out, World.drewN_drewN]⟩
                case measure => simp [intOf]; omega
              | true =>
                have NX : Hid (((W.take (i + 1)).filter (fits (fun u => j.testBit u) 0)).length = G + 1) := by show _ = _; rw [NEXT.out, hfb, if_pos rfl, List.length_append, HG.out]; rfl
                clear hfb
                go_wp2_with fail
                go_roundw
                case rel => exact ⟨i + 1, by omega, by go_num, by rw [NX.out]; go_num, q1 + q2, by rw [HQ1.out, World.drewN_drewN]⟩
                case measure => simp [intOf]; omega
        · obtain rfl : i = W.length := by omega
          have FJ := FIT.out j hlt
          rw [List.take_length, FJ]
          have a1 := bitZ_and n j
          rw [EZ.out j hlt] at a1
          have hj64 : (j : Int) < 64 := by omega
          clear FJ B1
          cases hb : bitZ (x : Int) j with
          | false =>
            rw [hb] at a1
            dsimp only [b2i] at a1
            rw [if_neg (by simp)]
            clear hb
            go_wp2_with fail
            go_roundw
            case rel => exact ⟨j + 1, by omega, by go_num, q1, HQ1.out⟩
            case measure => simp [intOf]; omega
          | true =>
            rw [hb] at a1
            dsimp only [b2i] at a1
            rw [if_pos rfl]
            clear hb
            go_wp2_with fail
            go_roundw
            case rel => exact ⟨j + 1, by omega, by go_num, q1, HQ1.out⟩
            case measure => simp [intOf]; omega
    · obtain rfl : j = 16 := by omega
      have B0 : Hid (Below w3.heap.size w3 wa) := by rw [HQ0.out]; exact Lib.hid (below_drewN0 _ _)
      have HRA := Lib.hid (HR.out.keep B0.out)
      have S4 := Lib.hid (S3.out.keep B0.out)
      clear HR S3 FIT HQ0 B0 VAL
      have e16 : ((16 : Nat) : Int) = 16 := rfl
      rw [e16]
      go_wp2_with fail
      go_loopw [14, 15] (fun iv _ wr => ∃ i : Nat, i ≤ W.length ∧ iv = .int .i64 ((i : Int) + 1) ∧ ∃ q, wr = wa.drewN q) (fun iv _ _ => W.length + 1 - (intOf iv).toNat)
      case atStart => exact ⟨0, Nat.zero_le _, rfl, 0, rfl⟩
      case round =>
        obtain ⟨i, hi, rfl, q0, hq0⟩ := hrel
        obtain ⟨wb, rfl⟩ : ∃ q, q = wr := ⟨wr, rfl⟩
        have HQ0 := Lib.hid hq0
        have B1 : Hid (Below wa.heap.size wa wb) := by rw [hq0]; exact Lib.hid (below_drewN0 _ _)
        clear hq0
        by_cases hlti : i + 1 < W.length
        · have hlti' : (i : Int) + 1 < W.length := by omega
          obtain ⟨r, hr⟩ : ∃ r, W[i]? = some r := ⟨_, List.getElem?_eq_getElem (by omega)⟩
          obtain ⟨s, hs⟩ : ∃ s, W[i + 1]? = some s := ⟨_, List.getElem?_eq_getElem hlti⟩
          have r4 := LEN.out r (List.mem_of_getElem? hr)
          have s4 := LEN.out s (List.mem_of_getElem? hs)
          have hBF : Before r s := by
            have h1 := List.pairwise_iff_getElem.1 ORD.out i (i + 1) (by omega) hlti (by omega)
            rw [(List.getElem?_eq_some_iff.1 hr).2, (List.getElem?_eq_some_iff.1 hs).2] at h1
            exact h1
          obtain ⟨k, hk4, -, hag, hk0, hk1⟩ := hBF.part
          rw [r4] at hk4
          obtain ⟨lb, off, b1, cap1, rfl, cl1, cc1⟩ := (HRA.out.keep B1.out).at' hr
          obtain ⟨lb', off', b2, cap2, e2, cl2, cc2⟩ := (HRA.out.keep B1.out).at' hs
          injection e2 with e2
          injection e2 with e3 e4
          subst e3 e4
          rw [r4] at cl1
          rw [s4] at cl2
          have ck1 := cc1 k 0 hk0
          have ck2 := cc2 k 1 hk1
          have CC1 := Lib.hid cc1
          have CC2 := Lib.hid cc2
          have HAG := Lib.hid hag
          have R4 := Lib.hid r4
          clear hr hs s4 r4 hBF hag hk0 hk1 cc1 cc2
          go_wp2_with fail
          go_loopw [15] (fun jv wr => ∃ j : Nat, j ≤ k ∧ jv = .int .i64 (j : Int) ∧ ∃ q, wr = wb.drewN q) (fun jv _ => k - (intOf jv).toNat)
          case atStart => exact ⟨0, Nat.zero_le _, rfl, 0, rfl⟩
          case round =>
            obtain ⟨j, hj, rfl, q2, rfl⟩ := hrel
            have hj4 : (j : Int) < 4 := by omega
            by_cases hjk : j < k
            · obtain ⟨z, hz⟩ : ∃ z, r[j]? = some z := ⟨_, List.getElem?_eq_getElem (by have := R4.out; omega)⟩
              have cz1 := CC1.out j z hz
              have cz2 := CC2.out j z ((HAG.out j hjk).symm.trans hz)
              clear hz ck1 ck2
              go_wp2_with fail
              go_quiet (fail)
              go_wp2_with fail
              go_roundw
              case rel => exact ⟨j + 1, by omega, by go_num, _, rfl⟩
              case measure => simp [intOf]; omega
            · obtain rfl : j = k := by omega
              have hne : ((j : Int) == 4) = false := by simp; omega
              go_wp2_with fail
              go_quiet (fail)
              go_wp2_with fail
              go_roundw
              case rel => exact ⟨i + 1, by omega, by go_num, _, by rw [HQ0.out, World.drewN_drewN]⟩
              case measure => simp [intOf]; omega
        · have hge : ¬ ((i : Int) + 1 < W.length) := by omega
          have S5 := Lib.hid (S4.out.keep B1.out)
          clear S4 B1 HRA
          by_cases h0 : W.length = 0
          · have h0' : (W.length : Int) = 0 := by omega
            have AW := Lib.hid (awake6 wb)
            go_wp2_with fail
            refine AW.out.mono ?_
            rintro e w6 ⟨rfl, hb⟩
            have BL := Lib.hid (S5.out.below.trans (hb.mono S5.out.below.size))
            clear hb AW S5
            go_wp2_with fail
            go_ret
            exact ⟨rfl, BL.out⟩
          · have h0' : ((W.length : Int) == 0) = false := beq_eq_false_iff_ne.2 (by omega)
            have CU := cubes_yes S5.out.st S5.out.V IC.out (most := W.length - 1) (by omega)
            rw [show ((W.length - 1 : Nat) : Int) = (W.length : Int) - 1 by omega, P2.out] at CU
            unfold ptrV at CU
            have CU := Lib.hid CU
            go_wp2_with fail
            refine CU.out.mono ?_
            rintro e w5 ⟨v, er, W', rfl, hW', hb5, hout⟩
            rw [S5.out.V] at hW'
            obtain rfl := HW.out.same hW'
            obtain ⟨-, rfl, rfl⟩ := hout.resolve_left fun h => by have := h.1; omega
            have S6 := Lib.hid (S5.out.keep hb5)
            have AW := Lib.hid (awake6 w5)
            clear hout hW' hb5 CU S5
            go_wp2_with fail
            refine AW.out.mono ?_
            rintro e w6 ⟨rfl, hb⟩
            have BL := Lib.hid (S6.out.below.trans (hb.mono S6.out.below.size))
            clear hb AW S6
            go_wp2_with fail
            go_ret
            exact ⟨rfl, BL.out⟩

theorem countCubes_walk (n : Int) (w : World) (_hn : (Lit.int .i64 n).wf = true) :
    Calls Try.prog 6 #[.int .i64 n] w fun e w' => e = .returned (.bool true) ∧ Below w.heap.size w w' := cubes_core n w

namespace countCubes
set_option linter.unusedVariables false
theorem own : ownKnob Try.prog.godebug = none := by kernel_rfl
theorem laidOut : laidOutB Try.prog = true := by kernel_rfl
set_option maxRecDepth 100000 in
theorem lifted (os : Os) (started : os.Started) (H : Type) (enc : TypeId × Value → H) :
    ReturnsInHanded {} Try.checked os 6 .any (Rows.countCubesSpec.pre6 enc Try.prog Try.f6 Rows.countCubesRow.domain false) (Rows.countCubesSpec.post enc Try.prog Try.f6 false true false false) := by
  refine returnsInHanded_of_change (C := Try.checked) own started (by kernel_rfl) Try.func6
    (ChangeSpec.witness6 (enc := enc) (C := Try.checked) false ⟨#[], #[.int .i64 0], []⟩ 8 (by kernel_rfl) (by kernel_rfl) (by kernel_rfl) (by kernel_rfl)) ?_
  intro W base args ds gs before hval0 hW hcnd hsz
  have hval : ∀ (j : Nat) t v, Try.f6.params[j]? = some t → args[j]? = some v → Value.okWide Try.prog W .any base t v := hval0
  have hW' := hW
  obtain ⟨p, q, hA0, hV, rfl, hfz, hnd⟩ := hW
  have hA : DataW.TrodAll enc Try.prog W 0 (fun _ => true) true Try.f6.params.toList args.toList ds p := hA0
  rw [Try.params6] at hA hval
  obtain ⟨v0, vs0, d0, ds0, p0, q0, hargs, rfl, rfl, h0, r0⟩ := trodAll_cons hA
  obtain ⟨rfl, rfl, rfl⟩ := trodAll_nil r0
  obtain rfl : args = #[v0] := by cases args; simp_all
  obtain ⟨rfl, rfl⟩ := trodVars_none hV
  obtain ⟨a0, rfl, rfl, rfl, w0⟩ := open_int Try.underlying3 (hval 0 3 v0 rfl rfl) h0
  clear hA0 hval0
  refine (countCubes_walk a0 W w0).mono fun e W' ⟨he, bel⟩ => ?_
  subst he
  exact ⟨_, rfl, _, _, _, [], _, [], hW', trodAll_mk1 (shut_bool Try.underlying4 _), (trodAll_cons_mk (shut_int Try.underlying3 w0) trodAll_mk0), rfl, bel.frame _, fun h => by cases h⟩
theorem over : Rows.countCubesRow.holds Try.pinned (OpenSpec.ofChange Rows.countCubesSpec) :=
  OpenClaim.holds_of_wide 6 Try.f6 rfl rfl rfl rfl rfl rfl rfl ⟨rfl, rfl, rfl, rfl, rfl⟩ rfl rfl rfl rfl rfl (by kernel_rfl) Try.func6 (by kernel_rfl)
    (of_decide_eq_true (by kernel_rfl)) (by unfold Func.isWrapper; first | (rw [if_pos (by decide +kernel)]; kernel_rfl) | (rw [if_neg (by decide +kernel)]; exact ⟨rfl, rfl⟩))
    (fun os started H enc _ => lifted os started H enc)
/-- THE STATEMENT. -/
theorem proved : Rows.CountCubesSaid := over
end countCubes
#print axioms countCubes.proved
end Go.Proofs.Ytlmofadodhpkiaa
