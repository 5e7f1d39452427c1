/- For any two times sixteen answers, any two sets and any of four variables: Exists of two sets is that of the one of that of the other one; Restrict to both values, one or the other, is Exists; two nodes of which one does not ask the variables: Product is that one and Exists of the other one: the law returns true. No condition. -/
import Derived.Test.YtmbkkifopmbkaaaMN
namespace Go.Proofs.Ytmbkkifopmbkaaa
open Go.ChangeShapes Go.WideShapes Go.ChangeAt Go.RowKit Go.Maps

set_option maxHeartbeats 8000000 in
set_option maxRecDepth 100000 in
theorem qparts_core (x y z : Int) (w : World) : Calls Try.prog 7 #[.int .i64 x, .int .i64 y, .int .i64 z] w fun e w' => e = .returned (.bool true) ∧ Below w.heap.size w w' := by
  obtain ⟨a, ha, ea⟩ := low16 x
  obtain ⟨b, hb, eb⟩ := low16 y
  obtain ⟨s, hs, es⟩ := low4 z
  obtain ⟨t, ht, et⟩ := low4 (z / 16)
  obtain ⟨v, hv, ev⟩ := low2 (z / 256)
  have eo := or4 hs ht
  have HB := Lib.hid hb
  have HV := Lib.hid hv
  clear ha hb hs ht hv
  have BG := begun5 3000 (by omega) (by omega) w
  change Calls _ _ #[.int .i64 3000] _ _ at BG
  have BG := Lib.hid BG
  go_enter Try.func7, Try.ntmps7
  go_wp2_with fail
  refine BG.out.mono ?_
  rintro e w1 ⟨m1, o, q, rfl, s1⟩
  have S1 := Lib.hid s1
  unfold ptrV at *
  clear s1 BG
  have T := make_any S1.out.l.ost.st S1.out.l.V ((a : Int))
  unfold ptrV at T
  have T := Lib.hid T
  go_wp2_with fail
  refine T.out.mono ?_
  intro e w_2 hout
  obtain ⟨nx, a2, rfl, s2, ex, pN, aN, sN2⟩ := S1.out.make (by omega) hout
  clear hout T
  obtain ⟨fx, hfx⟩ : ∃ f : (Nat → Bool) → Bool, ∀ val, Says 4 a2.cs val nx = f val := ⟨_, sN2⟩
  clear sN2
  have sN2 := hfx
  clear hfx
  have SX_nx_2 := Lib.hid sN2
  have AT_nx_2 := Lib.hid aN
  have P2 := Lib.hid pN
  have S2 := Lib.hid s2
  clear  s2 ex pN aN sN2 S1
  have T := Lib.hid (fun w => exists_any (s := s) HB.out w)
  go_wp2_with fail
  refine (T.out _).mono ?_
  rintro e wx ⟨rfl, rfl⟩
  clear T
  have T := make_any S2.out.l.ost.st S2.out.l.V ((exN b s 4 : Nat))
  rw [P2.out] at T
  unfold ptrV at T
  have T := Lib.hid T
  go_wp2_with fail
  refine T.out.mono ?_
  intro e w_3 hout
  obtain ⟨ny, a3, rfl, s3, ex, pN, aN, sN2⟩ := S2.out.make (by omega) hout
  clear hout T
  obtain ⟨fb, hfb⟩ : ∃ f : (Nat → Bool) → Bool, f = fun val => bitZ (b : Int) (tix val 4 0 0) := ⟨_, rfl⟩
  have sN2 : ∀ val, Says 4 a3.cs val ny = fE s fb 4 val := fun val => by rw [sN2, exN_says 4 (by omega), hfb]
  clear hfb
  have SX_nx_3 := Lib.hid (Says_at AT_nx_2.out ex S2.out.good s3.good SX_nx_2.out)
  have AT_nx_3 := Lib.hid (AT_nx_2.out.ext ex)
  have SX_ny_3 := Lib.hid sN2
  have AT_ny_3 := Lib.hid aN
  have P3 := Lib.hid (pN.trans P2.out)
  have S3 := Lib.hid s3
  clear SX_nx_2 AT_nx_2 s3 ex pN aN sN2 S2 P2
  have T := Lib.hid (fun w => list_any (s := s) w)
  go_wp2_with fail
  refine (T.out _).mono ?_
  rintro e wl ⟨vl, rfl, hrow, hb⟩
  obtain ⟨Al, cl, rfl, hrd⟩ := hrow.rd
  have S3 := Lib.hid (S3.out.keep hb)
  have RD := Lib.hid hrd
  clear T hrow hrd hb
  have T := exists_good S3.out.l.ost S3.out.quan S3.out.nq S3.out.l.V v4room AT_nx_3.out (cap := cl) (by have := listN_len (s) 4; omega) (listN_has (s)).lt RD.out
  rw [both_self, show (fun val => Says 4 a3.cs val nx) = fx from funext SX_nx_3.out] at T
  have T := Lib.hid T
  clear RD
  go_wp2_with fail
  refine T.out.mono ?_
  intro e w_4 hout
  obtain ⟨k1, a4, rfl, s4, ex, pN, aN, sN2⟩ := S3.out.op (by omega) hout
  clear hout T
  have sN2 : ∀ val, Says 4 a4.cs val k1 = fE (s) fx 4 val := fun val => by rw [sN2, exF_set (listN_has (s))]
  have SX_nx_4 := Lib.hid (Says_at AT_nx_3.out ex S3.out.good s4.good SX_nx_3.out)
  have AT_nx_4 := Lib.hid (AT_nx_3.out.ext ex)
  have SX_ny_4 := Lib.hid (Says_at AT_ny_3.out ex S3.out.good s4.good SX_ny_3.out)
  have AT_ny_4 := Lib.hid (AT_ny_3.out.ext ex)
  have SX_k1_4 := Lib.hid sN2
  have AT_k1_4 := Lib.hid aN
  have P4 := Lib.hid (pN.trans P3.out)
  have S4 := Lib.hid s4
  clear SX_nx_3 AT_nx_3 SX_ny_3 AT_ny_3 s4 ex pN aN sN2 S3 P3
  have T := Lib.hid (fun w => list_any (s := t) w)
  go_wp2_with fail
  refine (T.out _).mono ?_
  rintro e wl ⟨vl, rfl, hrow, hb⟩
  obtain ⟨Al, cl, rfl, hrd⟩ := hrow.rd
  have S4 := Lib.hid (S4.out.keep hb)
  have RD := Lib.hid hrd
  clear T hrow hrd hb
  have T := exists_good S4.out.l.ost S4.out.quan S4.out.nq S4.out.l.V v4room AT_k1_4.out (cap := cl) (by have := listN_len (t) 4; omega) (listN_has (t)).lt RD.out
  rw [both_self, show (fun val => Says 4 a4.cs val k1) = (fE s fx 4) from funext SX_k1_4.out] at T
  have T := Lib.hid T
  clear RD
  go_wp2_with fail
  refine T.out.mono ?_
  intro e w_5 hout
  obtain ⟨m2, a5, rfl, s5, ex, pN, aN, sN2⟩ := S4.out.op (by omega) hout
  clear hout T
  have sN2 : ∀ val, Says 4 a5.cs val m2 = fE (t) (fE s fx 4) 4 val := fun val => by rw [sN2, exF_set (listN_has (t))]
  have SX_nx_5 := Lib.hid (Says_at AT_nx_4.out ex S4.out.good s5.good SX_nx_4.out)
  have AT_nx_5 := Lib.hid (AT_nx_4.out.ext ex)
  have SX_ny_5 := Lib.hid (Says_at AT_ny_4.out ex S4.out.good s5.good SX_ny_4.out)
  have AT_ny_5 := Lib.hid (AT_ny_4.out.ext ex)
  have SX_k1_5 := Lib.hid (Says_at AT_k1_4.out ex S4.out.good s5.good SX_k1_4.out)
  have AT_k1_5 := Lib.hid (AT_k1_4.out.ext ex)
  have SX_m2_5 := Lib.hid sN2
  have AT_m2_5 := Lib.hid aN
  have P5 := Lib.hid (pN.trans P4.out)
  have S5 := Lib.hid s5
  clear SX_nx_4 AT_nx_4 SX_ny_4 AT_ny_4 SX_k1_4 AT_k1_4 s5 ex pN aN sN2 S4 P4
  have T := Lib.hid (fun w => list_any (s := (s ||| t)) w)
  go_wp2_with fail
  refine (T.out _).mono ?_
  rintro e wl ⟨vl, rfl, hrow, hb⟩
  obtain ⟨Al, cl, rfl, hrd⟩ := hrow.rd
  have S5 := Lib.hid (S5.out.keep hb)
  have RD := Lib.hid hrd
  clear T hrow hrd hb
  have T := exists_good S5.out.l.ost S5.out.quan S5.out.nq S5.out.l.V v4room AT_nx_5.out (cap := cl) (by have := listN_len (s ||| t) 4; omega) (listN_has (s ||| t)).lt RD.out
  rw [both_self, show (fun val => Says 4 a5.cs val nx) = fx from funext SX_nx_5.out] at T
  have T := Lib.hid T
  clear RD
  go_wp2_with fail
  refine T.out.mono ?_
  intro e w_6 hout
  obtain ⟨n, a6, rfl, s6, ex, pN, aN, sN2⟩ := S5.out.op (by omega) hout
  clear hout T
  have sN2 : ∀ val, Says 4 a6.cs val n = fE (s ||| t) fx 4 val := fun val => by rw [sN2, exF_set (listN_has (s ||| t))]
  have SX_nx_6 := Lib.hid (Says_at AT_nx_5.out ex S5.out.good s6.good SX_nx_5.out)
  have AT_nx_6 := Lib.hid (AT_nx_5.out.ext ex)
  have SX_ny_6 := Lib.hid (Says_at AT_ny_5.out ex S5.out.good s6.good SX_ny_5.out)
  have AT_ny_6 := Lib.hid (AT_ny_5.out.ext ex)
  have SX_k1_6 := Lib.hid (Says_at AT_k1_5.out ex S5.out.good s6.good SX_k1_5.out)
  have AT_k1_6 := Lib.hid (AT_k1_5.out.ext ex)
  have SX_m2_6 := Lib.hid (Says_at AT_m2_5.out ex S5.out.good s6.good SX_m2_5.out)
  have AT_m2_6 := Lib.hid (AT_m2_5.out.ext ex)
  have SX_n_6 := Lib.hid sN2
  have AT_n_6 := Lib.hid aN
  have P6 := Lib.hid (pN.trans P5.out)
  have S6 := Lib.hid s6
  clear SX_nx_5 AT_nx_5 SX_ny_5 AT_ny_5 SX_k1_5 AT_k1_5 SX_m2_5 AT_m2_5 s6 ex pN aN sN2 S5 P5
  have T := Lib.hid (restrict_good S6.out.l.ost S6.out.quan S6.out.nq S6.out.l.V (by decide) (v := v) false HV.out AT_nx_6.out)
  go_wp2_with fail
  refine T.out.mono ?_
  intro e w_7 hout
  obtain ⟨lo, a7, rfl, s7, ex, pN, aN, sN2⟩ := S6.out.op (by omega) hout
  clear hout T
  have sN2 : ∀ val, Says 4 a7.cs val lo = fx (upd val v false) := fun val => by rw [sN2, SX_nx_6.out]
  have SX_nx_7 := Lib.hid (Says_at AT_nx_6.out ex S6.out.good s7.good SX_nx_6.out)
  have AT_nx_7 := Lib.hid (AT_nx_6.out.ext ex)
  have SX_ny_7 := Lib.hid (Says_at AT_ny_6.out ex S6.out.good s7.good SX_ny_6.out)
  have AT_ny_7 := Lib.hid (AT_ny_6.out.ext ex)
  have SX_k1_7 := Lib.hid (Says_at AT_k1_6.out ex S6.out.good s7.good SX_k1_6.out)
  have AT_k1_7 := Lib.hid (AT_k1_6.out.ext ex)
  have SX_m2_7 := Lib.hid (Says_at AT_m2_6.out ex S6.out.good s7.good SX_m2_6.out)
  have AT_m2_7 := Lib.hid (AT_m2_6.out.ext ex)
  have SX_n_7 := Lib.hid (Says_at AT_n_6.out ex S6.out.good s7.good SX_n_6.out)
  have AT_n_7 := Lib.hid (AT_n_6.out.ext ex)
  have SX_lo_7 := Lib.hid sN2
  have AT_lo_7 := Lib.hid aN
  have P7 := Lib.hid (pN.trans P6.out)
  have S7 := Lib.hid s7
  clear SX_nx_6 AT_nx_6 SX_ny_6 AT_ny_6 SX_k1_6 AT_k1_6 SX_m2_6 AT_m2_6 SX_n_6 AT_n_6 s7 ex pN aN sN2 S6 P6
  have T := Lib.hid (restrict_good S7.out.l.ost S7.out.quan S7.out.nq S7.out.l.V (by decide) (v := v) true HV.out AT_nx_7.out)
  go_wp2_with fail
  refine T.out.mono ?_
  intro e w_8 hout
  obtain ⟨hi, a8, rfl, s8, ex, pN, aN, sN2⟩ := S7.out.op (by omega) hout
  clear hout T
  have sN2 : ∀ val, Says 4 a8.cs val hi = fx (upd val v true) := fun val => by rw [sN2, SX_nx_7.out]
  have SX_nx_8 := Lib.hid (Says_at AT_nx_7.out ex S7.out.good s8.good SX_nx_7.out)
  have AT_nx_8 := Lib.hid (AT_nx_7.out.ext ex)
  have SX_ny_8 := Lib.hid (Says_at AT_ny_7.out ex S7.out.good s8.good SX_ny_7.out)
  have AT_ny_8 := Lib.hid (AT_ny_7.out.ext ex)
  have SX_k1_8 := Lib.hid (Says_at AT_k1_7.out ex S7.out.good s8.good SX_k1_7.out)
  have AT_k1_8 := Lib.hid (AT_k1_7.out.ext ex)
  have SX_m2_8 := Lib.hid (Says_at AT_m2_7.out ex S7.out.good s8.good SX_m2_7.out)
  have AT_m2_8 := Lib.hid (AT_m2_7.out.ext ex)
  have SX_n_8 := Lib.hid (Says_at AT_n_7.out ex S7.out.good s8.good SX_n_7.out)
  have AT_n_8 := Lib.hid (AT_n_7.out.ext ex)
  have SX_lo_8 := Lib.hid (Says_at AT_lo_7.out ex S7.out.good s8.good SX_lo_7.out)
  have AT_lo_8 := Lib.hid (AT_lo_7.out.ext ex)
  have SX_hi_8 := Lib.hid sN2
  have AT_hi_8 := Lib.hid aN
  have P8 := Lib.hid (pN.trans P7.out)
  have S8 := Lib.hid s8
  clear SX_nx_7 AT_nx_7 SX_ny_7 AT_ny_7 SX_k1_7 AT_k1_7 SX_m2_7 AT_m2_7 SX_n_7 AT_n_7 SX_lo_7 AT_lo_7 s8 ex pN aN sN2 S7 P7
  have T := Lib.hid (ops_q S8.out.quan)
  go_wp2_with fail
  refine T.out.mono ?_
  rintro e wx ⟨rfl, rfl⟩
  clear T
  have T := Lib.hid (or_good S8.out.l.ost S8.out.l.room AT_lo_8.out AT_hi_8.out)
  go_wp2_with fail
  refine T.out.mono ?_
  intro e w_9 hout
  obtain ⟨nor, a9, rfl, s9, ex, pN, aN, sN2⟩ := S8.out.ask (by omega) hout
  clear hout T
  have sN2 : ∀ val, Says 4 a9.cs val nor = ((fun val => fx (upd val v false)) val || (fun val => fx (upd val v true)) val) := fun val => by
    rw [sN2]
    simp only [qsem, Says_one, SX_lo_8.out, SX_hi_8.out]
    cases fx (upd val v false) <;> cases fx (upd val v true) <;> rfl
  have SX_nx_9 := Lib.hid (Says_at AT_nx_8.out ex S8.out.good s9.good SX_nx_8.out)
  have AT_nx_9 := Lib.hid (AT_nx_8.out.ext ex)
  have SX_ny_9 := Lib.hid (Says_at AT_ny_8.out ex S8.out.good s9.good SX_ny_8.out)
  have AT_ny_9 := Lib.hid (AT_ny_8.out.ext ex)
  have SX_k1_9 := Lib.hid (Says_at AT_k1_8.out ex S8.out.good s9.good SX_k1_8.out)
  have AT_k1_9 := Lib.hid (AT_k1_8.out.ext ex)
  have SX_m2_9 := Lib.hid (Says_at AT_m2_8.out ex S8.out.good s9.good SX_m2_8.out)
  have AT_m2_9 := Lib.hid (AT_m2_8.out.ext ex)
  have SX_n_9 := Lib.hid (Says_at AT_n_8.out ex S8.out.good s9.good SX_n_8.out)
  have AT_n_9 := Lib.hid (AT_n_8.out.ext ex)
  have SX_lo_9 := Lib.hid (Says_at AT_lo_8.out ex S8.out.good s9.good SX_lo_8.out)
  have AT_lo_9 := Lib.hid (AT_lo_8.out.ext ex)
  have SX_hi_9 := Lib.hid (Says_at AT_hi_8.out ex S8.out.good s9.good SX_hi_8.out)
  have AT_hi_9 := Lib.hid (AT_hi_8.out.ext ex)
  have SX_nor_9 := Lib.hid sN2
  have AT_nor_9 := Lib.hid aN
  have P9 := Lib.hid (pN.trans P8.out)
  have S9 := Lib.hid s9
  clear SX_nx_8 AT_nx_8 SX_ny_8 AT_ny_8 SX_k1_8 AT_k1_8 SX_m2_8 AT_m2_8 SX_n_8 AT_n_8 SX_lo_8 AT_lo_8 SX_hi_8 AT_hi_8 s9 ex pN aN sN2 S8 P8
  have b4 := (Below.refl w_9.heap.size w_9).alloc (Nat.le_refl _) (.cells #[.int .i64 (v : Int)] 3)
  have r4 := heap_alloc_new w_9 (.cells #[.int .i64 (v : Int)] 3)
  have S9 := Lib.hid (S9.out.keep b4)
  have T := exists_good S9.out.l.ost S9.out.quan S9.out.nq S9.out.l.V v4room AT_nx_9.out (A := some ⟨w_9.heap.size, 0, none⟩) (cap := 1) (xs := [v]) (by simp) (by simpa using HV.out) (rd_one r4)
  change Calls _ _ #[_, _, .slice _ 1 1] _ _ at T
  rw [both_self, show (fun val => Says 4 a9.cs val nx) = fx from funext SX_nx_9.out] at T
  have T := Lib.hid T
  clear b4 r4
  go_wp2_with fail
  refine T.out.mono ?_
  intro e w_10 hout
  obtain ⟨nex, a10, rfl, s10, ex, pN, aN, sN2⟩ := S9.out.op (by omega) hout
  clear hout T
  have sN2 : ∀ val, Says 4 a10.cs val nex = (fx (upd val v false) || fx (upd val v true)) := fun val => by rw [sN2, exF_one]
  have SX_nx_10 := Lib.hid (Says_at AT_nx_9.out ex S9.out.good s10.good SX_nx_9.out)
  have AT_nx_10 := Lib.hid (AT_nx_9.out.ext ex)
  have SX_ny_10 := Lib.hid (Says_at AT_ny_9.out ex S9.out.good s10.good SX_ny_9.out)
  have AT_ny_10 := Lib.hid (AT_ny_9.out.ext ex)
  have SX_k1_10 := Lib.hid (Says_at AT_k1_9.out ex S9.out.good s10.good SX_k1_9.out)
  have AT_k1_10 := Lib.hid (AT_k1_9.out.ext ex)
  have SX_m2_10 := Lib.hid (Says_at AT_m2_9.out ex S9.out.good s10.good SX_m2_9.out)
  have AT_m2_10 := Lib.hid (AT_m2_9.out.ext ex)
  have SX_n_10 := Lib.hid (Says_at AT_n_9.out ex S9.out.good s10.good SX_n_9.out)
  have AT_n_10 := Lib.hid (AT_n_9.out.ext ex)
  have SX_lo_10 := Lib.hid (Says_at AT_lo_9.out ex S9.out.good s10.good SX_lo_9.out)
  have AT_lo_10 := Lib.hid (AT_lo_9.out.ext ex)
  have SX_hi_10 := Lib.hid (Says_at AT_hi_9.out ex S9.out.good s10.good SX_hi_9.out)
  have AT_hi_10 := Lib.hid (AT_hi_9.out.ext ex)
  have SX_nor_10 := Lib.hid (Says_at AT_nor_9.out ex S9.out.good s10.good SX_nor_9.out)
  have AT_nor_10 := Lib.hid (AT_nor_9.out.ext ex)
  have SX_nex_10 := Lib.hid sN2
  have AT_nex_10 := Lib.hid aN
  have P10 := Lib.hid (pN.trans P9.out)
  have S10 := Lib.hid s10
  clear SX_nx_9 AT_nx_9 SX_ny_9 AT_ny_9 SX_k1_9 AT_k1_9 SX_m2_9 AT_m2_9 SX_n_9 AT_n_9 SX_lo_9 AT_lo_9 SX_hi_9 AT_hi_9 SX_nor_9 AT_nor_9 s10 ex pN aN sN2 S9 P9
  have T := Lib.hid (fun w => list_any (s := s) w)
  go_wp2_with fail
  refine (T.out _).mono ?_
  rintro e wl ⟨vl, rfl, hrow, hb⟩
  obtain ⟨Al, cl, rfl, hrd⟩ := hrow.rd
  have S10 := Lib.hid (S10.out.keep hb)
  have RD := Lib.hid hrd
  clear T hrow hrd hb
  have T := product_good S10.out.l.ost S10.out.quan S10.out.nq S10.out.l.V v4room AT_nx_10.out AT_ny_10.out (cap := cl) (by have := listN_len (s) 4; omega) (listN_has (s)).lt RD.out
  rw [show both 4 a10.cs ⟨nx, ny⟩ = (fun val => fx val && (fE s fb 4) val) from funext fun val => by unfold both; rw [SX_nx_10.out, SX_ny_10.out]] at T
  have T := Lib.hid T
  clear RD
  go_wp2_with fail
  refine T.out.mono ?_
  intro e w_11 hout
  obtain ⟨pr, a11, rfl, s11, ex, pN, aN, sN2⟩ := S10.out.op (by omega) hout
  clear hout T
  have sN2 : ∀ val, Says 4 a11.cs val pr = fE (s) (fun val => fx val && (fE s fb 4) val) 4 val := fun val => by rw [sN2, exF_set (listN_has (s))]
  have SX_nx_11 := Lib.hid (Says_at AT_nx_10.out ex S10.out.good s11.good SX_nx_10.out)
  have AT_nx_11 := Lib.hid (AT_nx_10.out.ext ex)
  have SX_ny_11 := Lib.hid (Says_at AT_ny_10.out ex S10.out.good s11.good SX_ny_10.out)
  have AT_ny_11 := Lib.hid (AT_ny_10.out.ext ex)
  have SX_k1_11 := Lib.hid (Says_at AT_k1_10.out ex S10.out.good s11.good SX_k1_10.out)
  have AT_k1_11 := Lib.hid (AT_k1_10.out.ext ex)
  have SX_m2_11 := Lib.hid (Says_at AT_m2_10.out ex S10.out.good s11.good SX_m2_10.out)
  have AT_m2_11 := Lib.hid (AT_m2_10.out.ext ex)
  have SX_n_11 := Lib.hid (Says_at AT_n_10.out ex S10.out.good s11.good SX_n_10.out)
  have AT_n_11 := Lib.hid (AT_n_10.out.ext ex)
  have SX_lo_11 := Lib.hid (Says_at AT_lo_10.out ex S10.out.good s11.good SX_lo_10.out)
  have AT_lo_11 := Lib.hid (AT_lo_10.out.ext ex)
  have SX_hi_11 := Lib.hid (Says_at AT_hi_10.out ex S10.out.good s11.good SX_hi_10.out)
  have AT_hi_11 := Lib.hid (AT_hi_10.out.ext ex)
  have SX_nor_11 := Lib.hid (Says_at AT_nor_10.out ex S10.out.good s11.good SX_nor_10.out)
  have AT_nor_11 := Lib.hid (AT_nor_10.out.ext ex)
  have SX_nex_11 := Lib.hid (Says_at AT_nex_10.out ex S10.out.good s11.good SX_nex_10.out)
  have AT_nex_11 := Lib.hid (AT_nex_10.out.ext ex)
  have SX_pr_11 := Lib.hid sN2
  have AT_pr_11 := Lib.hid aN
  have P11 := Lib.hid (pN.trans P10.out)
  have S11 := Lib.hid s11
  clear SX_nx_10 AT_nx_10 SX_ny_10 AT_ny_10 SX_k1_10 AT_k1_10 SX_m2_10 AT_m2_10 SX_n_10 AT_n_10 SX_lo_10 AT_lo_10 SX_hi_10 AT_hi_10 SX_nor_10 AT_nor_10 SX_nex_10 AT_nex_10 s11 ex pN aN sN2 S10 P10
  have T := Lib.hid (fun w => list_any (s := s) w)
  go_wp2_with fail
  refine (T.out _).mono ?_
  rintro e wl ⟨vl, rfl, hrow, hb⟩
  obtain ⟨Al, cl, rfl, hrd⟩ := hrow.rd
  have S11 := Lib.hid (S11.out.keep hb)
  have RD := Lib.hid hrd
  clear T hrow hrd hb
  have T := exists_good S11.out.l.ost S11.out.quan S11.out.nq S11.out.l.V v4room AT_nx_11.out (cap := cl) (by have := listN_len (s) 4; omega) (listN_has (s)).lt RD.out
  rw [both_self, show (fun val => Says 4 a11.cs val nx) = fx from funext SX_nx_11.out] at T
  have T := Lib.hid T
  clear RD
  go_wp2_with fail
  refine T.out.mono ?_
  intro e w_12 hout
  obtain ⟨xo, a12, rfl, s12, ex, pN, aN, sN2⟩ := S11.out.op (by omega) hout
  clear hout T
  have sN2 : ∀ val, Says 4 a12.cs val xo = fE (s) fx 4 val := fun val => by rw [sN2, exF_set (listN_has (s))]
  have SX_nx_12 := Lib.hid (Says_at AT_nx_11.out ex S11.out.good s12.good SX_nx_11.out)
  have AT_nx_12 := Lib.hid (AT_nx_11.out.ext ex)
  have SX_ny_12 := Lib.hid (Says_at AT_ny_11.out ex S11.out.good s12.good SX_ny_11.out)
  have AT_ny_12 := Lib.hid (AT_ny_11.out.ext ex)
  have SX_k1_12 := Lib.hid (Says_at AT_k1_11.out ex S11.out.good s12.good SX_k1_11.out)
  have AT_k1_12 := Lib.hid (AT_k1_11.out.ext ex)
  have SX_m2_12 := Lib.hid (Says_at AT_m2_11.out ex S11.out.good s12.good SX_m2_11.out)
  have AT_m2_12 := Lib.hid (AT_m2_11.out.ext ex)
  have SX_n_12 := Lib.hid (Says_at AT_n_11.out ex S11.out.good s12.good SX_n_11.out)
  have AT_n_12 := Lib.hid (AT_n_11.out.ext ex)
  have SX_lo_12 := Lib.hid (Says_at AT_lo_11.out ex S11.out.good s12.good SX_lo_11.out)
  have AT_lo_12 := Lib.hid (AT_lo_11.out.ext ex)
  have SX_hi_12 := Lib.hid (Says_at AT_hi_11.out ex S11.out.good s12.good SX_hi_11.out)
  have AT_hi_12 := Lib.hid (AT_hi_11.out.ext ex)
  have SX_nor_12 := Lib.hid (Says_at AT_nor_11.out ex S11.out.good s12.good SX_nor_11.out)
  have AT_nor_12 := Lib.hid (AT_nor_11.out.ext ex)
  have SX_nex_12 := Lib.hid (Says_at AT_nex_11.out ex S11.out.good s12.good SX_nex_11.out)
  have AT_nex_12 := Lib.hid (AT_nex_11.out.ext ex)
  have SX_pr_12 := Lib.hid (Says_at AT_pr_11.out ex S11.out.good s12.good SX_pr_11.out)
  have AT_pr_12 := Lib.hid (AT_pr_11.out.ext ex)
  have SX_xo_12 := Lib.hid sN2
  have AT_xo_12 := Lib.hid aN
  have P12 := Lib.hid (pN.trans P11.out)
  have S12 := Lib.hid s12
  clear SX_nx_11 AT_nx_11 SX_ny_11 AT_ny_11 SX_k1_11 AT_k1_11 SX_m2_11 AT_m2_11 SX_n_11 AT_n_11 SX_lo_11 AT_lo_11 SX_hi_11 AT_hi_11 SX_nor_11 AT_nor_11 SX_nex_11 AT_nex_11 SX_pr_11 AT_pr_11 s12 ex pN aN sN2 S11 P11
  have T := Lib.hid (ops_q S12.out.quan)
  go_wp2_with fail
  refine T.out.mono ?_
  rintro e wx ⟨rfl, rfl⟩
  clear T
  have T := Lib.hid (and_good S12.out.l.ost S12.out.l.room AT_xo_12.out AT_ny_12.out)
  go_wp2_with fail
  refine T.out.mono ?_
  intro e w_13 hout
  obtain ⟨an, a13, rfl, s13, ex, pN, aN, sN2⟩ := S12.out.ask (by omega) hout
  clear hout T
  have sN2 : ∀ val, Says 4 a13.cs val an = ((fE s fx 4) val && (fE s fb 4) val) := fun val => by
    rw [sN2]
    simp only [qsem, Says_zero, SX_xo_12.out, SX_ny_12.out]
    cases (fE s fx 4) val <;> cases (fE s fb 4) val <;> rfl
  have SX_nx_13 := Lib.hid (Says_at AT_nx_12.out ex S12.out.good s13.good SX_nx_12.out)
  have AT_nx_13 := Lib.hid (AT_nx_12.out.ext ex)
  have SX_ny_13 := Lib.hid (Says_at AT_ny_12.out ex S12.out.good s13.good SX_ny_12.out)
  have AT_ny_13 := Lib.hid (AT_ny_12.out.ext ex)
  have SX_k1_13 := Lib.hid (Says_at AT_k1_12.out ex S12.out.good s13.good SX_k1_12.out)
  have AT_k1_13 := Lib.hid (AT_k1_12.out.ext ex)
  have SX_m2_13 := Lib.hid (Says_at AT_m2_12.out ex S12.out.good s13.good SX_m2_12.out)
  have AT_m2_13 := Lib.hid (AT_m2_12.out.ext ex)
  have SX_n_13 := Lib.hid (Says_at AT_n_12.out ex S12.out.good s13.good SX_n_12.out)
  have AT_n_13 := Lib.hid (AT_n_12.out.ext ex)
  have SX_lo_13 := Lib.hid (Says_at AT_lo_12.out ex S12.out.good s13.good SX_lo_12.out)
  have AT_lo_13 := Lib.hid (AT_lo_12.out.ext ex)
  have SX_hi_13 := Lib.hid (Says_at AT_hi_12.out ex S12.out.good s13.good SX_hi_12.out)
  have AT_hi_13 := Lib.hid (AT_hi_12.out.ext ex)
  have SX_nor_13 := Lib.hid (Says_at AT_nor_12.out ex S12.out.good s13.good SX_nor_12.out)
  have AT_nor_13 := Lib.hid (AT_nor_12.out.ext ex)
  have SX_nex_13 := Lib.hid (Says_at AT_nex_12.out ex S12.out.good s13.good SX_nex_12.out)
  have AT_nex_13 := Lib.hid (AT_nex_12.out.ext ex)
  have SX_pr_13 := Lib.hid (Says_at AT_pr_12.out ex S12.out.good s13.good SX_pr_12.out)
  have AT_pr_13 := Lib.hid (AT_pr_12.out.ext ex)
  have SX_xo_13 := Lib.hid (Says_at AT_xo_12.out ex S12.out.good s13.good SX_xo_12.out)
  have AT_xo_13 := Lib.hid (AT_xo_12.out.ext ex)
  have SX_an_13 := Lib.hid sN2
  have AT_an_13 := Lib.hid aN
  have P13 := Lib.hid (pN.trans P12.out)
  have S13 := Lib.hid s13
  clear SX_nx_12 AT_nx_12 SX_ny_12 AT_ny_12 SX_k1_12 AT_k1_12 SX_m2_12 AT_m2_12 SX_n_12 AT_n_12 SX_lo_12 AT_lo_12 SX_hi_12 AT_hi_12 SX_nor_12 AT_nor_12 SX_nex_12 AT_nex_12 SX_pr_12 AT_pr_12 SX_xo_12 AT_xo_12 s13 ex pN aN sN2 S12 P12
  have E1 : Hid (m2 = n) := same_node S13.out.good AT_m2_13.out AT_n_13.out fun val => by
    rw [SX_m2_13.out, SX_n_13.out]
    exact fE_two val
  have E2 : Hid (nor = nex) := same_node S13.out.good AT_nor_13.out AT_nex_13.out fun val => by
    rw [SX_nor_13.out, SX_nex_13.out]

  have E3 : Hid (pr = an) := same_node S13.out.good AT_pr_13.out AT_an_13.out fun val => by
    rw [SX_pr_13.out, SX_an_13.out]
    exact fE_prod val
  have AK := Lib.hid (fun w => awake5 w)
  have ee0 := E1.out
  have ee1 := E2.out
  have ee2 := E3.out
  clear SX_nx_13 AT_nx_13 SX_ny_13 AT_ny_13 SX_k1_13 AT_k1_13 SX_m2_13 AT_m2_13 SX_n_13 AT_n_13 SX_lo_13 AT_lo_13 SX_hi_13 AT_hi_13 SX_nor_13 AT_nor_13 SX_nex_13 AT_nex_13 SX_pr_13 AT_pr_13 SX_xo_13 AT_xo_13 SX_an_13 AT_an_13 E1 E2 E3 P13
  subst ee0
  subst ee1
  subst ee2
  go_wp2_with fail
  refine (AK.out _).mono ?_
  rintro e w_e ⟨rfl, hb⟩
  have BL := Lib.hid (S13.out.below.trans (hb.mono S13.out.below.size))
  clear hb AK S13
  go_wp2_with fail
  go_ret
  exact ⟨rfl, BL.out⟩

theorem quanParts_walk (x y z : Int) (w : World) (_hx : (Lit.int .i64 x).wf = true) (_hy : (Lit.int .i64 y).wf = true) (_hz : (Lit.int .i64 z).wf = true) :
    Calls Try.prog 7 #[.int .i64 x, .int .i64 y, .int .i64 z] w fun e w' => e = .returned (.bool true) ∧ Below w.heap.size w w' := qparts_core x y z w

namespace quanParts
set_option linter.unusedVariables false
theorem own : ownKnob Try.prog.godebug = none := by kernel_rfl
theorem laidOut : laidOutB Try.prog = true := by kernel_rfl
set_option maxRecDepth 100000 in
theorem lifted (os : Os) (started : os.Started) (H : Type) (enc : TypeId × Value → H) :
    ReturnsInHanded {} Try.checked os 7 .any (Rows.quanPartsSpec.pre6 enc Try.prog Try.f7 Rows.quanPartsRow.domain false) (Rows.quanPartsSpec.post enc Try.prog Try.f7 false true false false) := by
  refine returnsInHanded_of_change (C := Try.checked) own started (by kernel_rfl) Try.func7
    (ChangeSpec.witness6 (enc := enc) (C := Try.checked) false ⟨#[], #[.int .i64 0, .int .i64 0, .int .i64 0], []⟩ 8 (by kernel_rfl) (by kernel_rfl) (by kernel_rfl) (by kernel_rfl)) ?_
  intro W base args ds gs before hval0 hW hcnd hsz
  have hval : ∀ (j : Nat) t v, Try.f7.params[j]? = some t → args[j]? = some v → Value.okWide Try.prog W .any base t v := hval0
  have hW' := hW
  obtain ⟨p, q, hA0, hV, rfl, hfz, hnd⟩ := hW
  have hA : DataW.TrodAll enc Try.prog W 0 (fun _ => true) true Try.f7.params.toList args.toList ds p := hA0
  rw [Try.params7] at hA hval
  obtain ⟨v0, vs0, d0, ds0, p0, q0, hargs, rfl, rfl, h0, r0⟩ := trodAll_cons hA
  obtain ⟨v1, vs1, d1, ds1, p1, q1, rfl, rfl, rfl, h1, r1⟩ := trodAll_cons r0
  obtain ⟨v2, vs2, d2, ds2, p2, q2, rfl, rfl, rfl, h2, r2⟩ := trodAll_cons r1
  obtain ⟨rfl, rfl, rfl⟩ := trodAll_nil r2
  obtain rfl : args = #[v0, v1, v2] := by cases args; simp_all
  obtain ⟨rfl, rfl⟩ := trodVars_none hV
  obtain ⟨a0, rfl, rfl, rfl, w0⟩ := open_int Try.underlying3 (hval 0 3 v0 rfl rfl) h0
  obtain ⟨a1, rfl, rfl, rfl, w1⟩ := open_int Try.underlying3 (hval 1 3 v1 rfl rfl) h1
  obtain ⟨a2, rfl, rfl, rfl, w2⟩ := open_int Try.underlying3 (hval 2 3 v2 rfl rfl) h2
  clear hA0 hval0
  refine (quanParts_walk a0 a1 a2 W w0 w1 w2).mono fun e W' ⟨he, bel⟩ => ?_
  subst he
  exact ⟨_, rfl, _, _, _, [], _, [], hW', trodAll_mk1 (shut_bool Try.underlying4 _), (trodAll_cons_mk (shut_int Try.underlying3 w0) (trodAll_cons_mk (shut_int Try.underlying3 w1) (trodAll_cons_mk (shut_int Try.underlying3 w2) trodAll_mk0))), rfl, bel.frame _, fun h => by cases h⟩
theorem over : Rows.quanPartsRow.holds Try.pinned (OpenSpec.ofChange Rows.quanPartsSpec) :=
  OpenClaim.holds_of_wide 7 Try.f7 rfl rfl rfl rfl rfl rfl rfl ⟨rfl, rfl, rfl, rfl, rfl⟩ rfl rfl rfl rfl rfl (by kernel_rfl) Try.func7 (by kernel_rfl)
    (of_decide_eq_true (by kernel_rfl)) (by unfold Func.isWrapper; first | (rw [if_pos (by decide +kernel)]; kernel_rfl) | (rw [if_neg (by decide +kernel)]; exact ⟨rfl, rfl⟩))
    (fun os started H enc _ => lifted os started H enc)
/-- THE STATEMENT. -/
theorem proved : Rows.QuanPartsSaid := over
end quanParts
#print axioms quanParts.proved
end Go.Proofs.Ytmbkkifopmbkaaa
