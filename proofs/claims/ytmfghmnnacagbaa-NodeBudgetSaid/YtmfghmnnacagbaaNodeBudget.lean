/- For any budget and any number of variables (taken modulo 40): a store takes as many nodes as its budget, and no more; behind a sweep there is room again: the law returns true. No condition. -/
import Derived.Test.YtmfghmnnacagbaaNSem
namespace Go.Proofs.Ytmfghmnnacagbaa
open Go.ChangeShapes Go.WideShapes Go.ChangeAt Go.RowKit

/-- 0, 1, and j nodes that ask a variable each. -/
def chain (V j : Nat) : List Nd := [⟨V, 0, 0, 0⟩, ⟨V, 1, 1, 0⟩] ++ (List.range j).map fun i => ⟨i, 0, 1, 0⟩

theorem chain_length (V j : Nat) : (chain V j).length = j + 2 := by simp [chain]
theorem chain_get0 (V j : Nat) : (chain V j)[0]? = some ⟨V, 0, 0, 0⟩ := rfl
theorem chain_get1 (V j : Nat) : (chain V j)[1]? = some ⟨V, 1, 1, 0⟩ := rfl
theorem chain_get (V j i : Nat) (h : i < j) : (chain V j)[i + 2]? = some ⟨i, 0, 1, 0⟩ := by
  unfold chain
  rw [List.getElem?_append_right (by simp)]
  simp [h]
theorem chain_snoc (V j : Nat) : chain V (j + 1) = chain V j ++ [⟨j, 0, 1, 0⟩] := by
  unfold chain
  rw [List.range_succ, List.map_append, List.append_assoc]; rfl
theorem chain_is0 (V j : Nat) : Is (chain V j) 0 ⟨V, 0, 0, 0⟩ := ⟨rfl, by show (V : Int) ≠ -1; omega⟩
theorem chain_is1 (V j : Nat) : Is (chain V j) 1 ⟨V, 1, 1, 0⟩ := ⟨rfl, by show (V : Int) ≠ -1; omega⟩
theorem chain_at (V j i : Nat) (d : Nd) (hi : 2 ≤ i) (h : (chain V j)[i]? = some d) : i - 2 < j ∧ d = ⟨(i - 2 : Nat), 0, 1, 0⟩ := by
  have hl := (List.getElem?_eq_some_iff.1 h).1
  rw [chain_length] at hl
  have h2 : i - 2 < j := by omega
  have := chain_get V j (i - 2) h2
  rw [show i - 2 + 2 = i by omega, h] at this
  injection this with this
  exact ⟨h2, this⟩
theorem chain_full (V j : Nat) : ∀ i, i < (chain V j).length → ∃ c, Is (chain V j) i c := by
  intro i hi
  rw [chain_length] at hi
  by_cases h0 : i = 0
  · subst h0; exact ⟨_, chain_is0 V j⟩
  · by_cases h1 : i = 1
    · subst h1; exact ⟨_, chain_is1 V j⟩
    · have := chain_get V j (i - 2) (by omega)
      rw [show i - 2 + 2 = i by omega] at this
      exact ⟨_, this, by show ((i - 2 : Nat) : Int) ≠ -1; omega⟩
theorem chain_cnt (V j : Nat) : cnt (chain V j) = j + 2 := by rw [cnt_full (chain_full V j), chain_length]
theorem chain_add (V j : Nat) : addAt (chain V j) (j + 2) ⟨j, 0, 1, 0⟩ = chain V (j + 1) := by
  unfold addAt
  rw [if_pos (chain_length V j).symm, chain_snoc]

theorem reach_base {cs : List Nd} {i x : Nat} (hi : i < 2) (h : Reach cs i x) : x = i := by
  cases h with
  | here => rfl
  | low h => omega
  | high h => omega

theorem chain_roots (W V j n : Nat) (g : NGood W (chain V j)) (hn : 2 ≤ n) (x : Nat) : x ∈ roots W (chain V j) n ↔ x < 2 := by
  rw [(roots_spec g n).mem]
  constructor
  · rintro ⟨i, _, hr, hx⟩
    have hi : i < 2 := by
      rcases hr with h | ⟨c, hc, hp⟩
      · exact h
      · rcases Nat.lt_or_ge i 2 with h | h
        · exact h
        · have := (chain_at V j i c h hc).2
          rw [this] at hp
          exact absurd hp (by simp)
    rw [reach_base hi hx]; exact hi
  · intro h
    exact ⟨x, by omega, .inl h, .here _⟩

theorem endTo_pred (m : List Nat) : ∀ n, endTo m n = 0 ∨ endTo m n - 1 ∈ m := by
  intro n
  induction n with
  | zero => exact .inl rfl
  | succ n ih =>
    unfold endTo
    split
    · rename_i h; exact .inr h
    · exact ih

theorem chain_swept (W V j : Nat) (g : NGood W (chain V j)) : swept (roots W (chain V j) (chain V j).length) (chain V j) = chain V 0 := by
  have hr := chain_roots W V j (chain V j).length g g.len
  generalize roots W (chain V j) (chain V j).length = M at hr
  have e : endTo M (chain V j).length = 2 := by
    have h1 := endTo_gt M (chain V j).length 1 ((hr 1).2 (by omega)) g.len
    rcases endTo_pred M (chain V j).length with h | h
    · omega
    · have := (hr _).1 h; omega
  apply List.ext_getElem?
  intro k
  unfold swept
  rw [e, List.getElem?_take]
  by_cases hk : k < 2
  · rw [if_pos hk, sweepTo_get M _ _ (Nat.le_refl _), if_neg (fun h => h.2 ((hr k).2 hk))]
    have : k = 0 ∨ k = 1 := by omega
    rcases this with rfl | rfl <;> rfl
  · rw [if_neg hk, List.getElem?_eq_none (by rw [chain_length]; omega)]

theorem chain_gone (W V j : Nat) (g : NGood W (chain V j)) : goneTo (roots W (chain V j) (chain V j).length) (chain V j) (chain V j).length = j := by
  have := cnt_swept (roots W (chain V j) (chain V j).length) (chain V j)
  rw [chain_swept W V j g, chain_cnt, chain_cnt] at this
  omega

/-- A new node, or no room. -/
theorem chain_mk {w : World} {m : Mem} {h : Hd} {V j v : Nat} (s : St w m h (chain V j)) (hV : h.V = V) (hjv : j ≤ v) (hv : v < V) :
    Calls Try.prog 26 #[ptrV m.s, .int .i64 (v : Int), .int .i64 0, .int .i64 1] w (MkNoneOut m h (chain V j) v 0 1 w) := by
  have e := s.V
  exact mk_none (a := 0) (b := 1) s (by omega) (by omega) (chain_is0 V j) (by show (v : Int) < (V : Int); omega) (chain_is1 V j) (by show (v : Int) < (V : Int); omega) (by omega) fun i d hi hd he => by
    obtain ⟨h1, rfl⟩ := chain_at V j i d hi hd.1
    unfold Nd.key at he
    injection he with he
    simp only at he
    omega

/-- What is known of the store. -/
structure BudSt (V N : Nat) (s : Nat) (w0 : World) (r j : Nat) (made : Nat) (wr : World) : Prop where
  st : ∃ m h, St wr m h (chain V j) ∧ h.V = V ∧ h.B = N ∧ h.made = made ∧ h.sweeps = r ∧ m.s = s ∧ ∀ i, m.own i → w0.heap.size ≤ i
  below : Below w0.heap.size w0 wr

def BudIn (V N s : Nat) (w0 : World) (r : Nat) (vv : Value) (wr : World) : Prop := ∃ v : Nat, v ≤ V ∧ vv = .int .i64 v ∧ BudSt V N s w0 r (min v (N - 2)) (r * min (N - 2) V + min v (N - 2)) wr
def BudOut (V N s : Nat) (w0 : World) (rv : Value) (wr : World) : Prop := ∃ r : Nat, r ≤ 2 ∧ rv = .int .i64 r ∧ BudSt V N s w0 r 0 (r * min (N - 2) V) wr

theorem bud_new {V N s r v : Nat} {m : Mem} {hd : Hd} {w0 wr w' : World} {e : Ending} (e1 : hd.V = V) (e2 : hd.B = N) (e3 : hd.made = ((r * min (N - 2) V + min v (N - 2) : Nat) : Int)) (e4 : hd.sweeps = r) (e5 : m.s = s) (ho : ∀ i, m.own i → w0.heap.size ≤ i)
    (hb : Below w0.heap.size w0 wr) (hv : v < N - 2) (hN : N ≤ 41) (hr : r ≤ 2) (h : MkNoneOut m hd (chain V (min v (N - 2))) v 0 1 wr e w') :
    e = .returned (.tuple #[.int .i64 (2 + (v : Int)), .int .i64 0]) ∧ BudSt V N s w0 r (min (v + 1) (N - 2)) (r * min (N - 2) V + min (v + 1) (N - 2)) w' := by
  have em : min v (N - 2) = v := by omega
  have em2 : min (v + 1) (N - 2) = v + 1 := by omega
  rw [em] at h e3
  rw [em2]
  unfold MkNoneOut at h
  rw [if_neg (by rw [chain_cnt]; omega)] at h
  obtain ⟨k, m', lf', rfl, hst, hfree, _, _, htu, hs', hown⟩ := h
  have hk := free_end hfree (chain_full V v)
  rw [chain_length] at hk
  subst hk
  rw [chain_add] at hst
  have hn : Next m m' wr w' := ⟨htu, hs', hown⟩
  obtain ⟨hb', ho'⟩ := hn.to_below hb ho hb.size
  have hmul : r * min (N - 2) V ≤ 2 * 40 := Nat.mul_le_mul hr (by omega)
  refine ⟨by rw [show (2 + (v : Int)) = ((v + 2 : Nat) : Int) by omega], ⟨m', _, hst, e1, e2, ?_, e4, hs'.trans e5, ho'⟩, hb'⟩
  show wrap64 (hd.made + 1) = _
  rw [e3, wrap64_small _ (by omega) (by omega)]
  omega

theorem bud_none {V N s r v : Nat} {m : Mem} {hd : Hd} {w0 wr w' : World} {e : Ending} (st : St wr m hd (chain V (min v (N - 2)))) (e1 : hd.V = V) (e2 : hd.B = N) (e3 : hd.made = ((r * min (N - 2) V + min v (N - 2) : Nat) : Int)) (e4 : hd.sweeps = r) (e5 : m.s = s) (ho : ∀ i, m.own i → w0.heap.size ≤ i)
    (hb : Below w0.heap.size w0 wr) (hv : ¬ v < N - 2) (hN : 2 ≤ N) (h : MkNoneOut m hd (chain V (min v (N - 2))) v 0 1 wr e w') :
    e = .returned (.tuple #[.int .i64 0, .int .i64 30]) ∧ BudSt V N s w0 r (min (v + 1) (N - 2)) (r * min (N - 2) V + min (v + 1) (N - 2)) w' := by
  have em : min v (N - 2) = N - 2 := by omega
  have em2 : min (v + 1) (N - 2) = N - 2 := by omega
  rw [em] at h st e3
  rw [em2]
  unfold MkNoneOut at h
  rw [if_pos (by rw [chain_cnt]; omega)] at h
  exact ⟨h.1, ⟨m, hd, st.keep h.2, e1, e2, e3, e4, e5, ho⟩, hb.trans (h.2.mono hb.size)⟩

theorem bud_swept {V N s r : Nat} {m : Mem} {hd : Hd} {w0 wr w' : World} {e : Ending} (st : St wr m hd (chain V (min V (N - 2)))) (e1 : hd.V = V) (e2 : hd.B = N) (e3 : hd.made = ((r * min (N - 2) V + min V (N - 2) : Nat) : Int)) (e4 : hd.sweeps = r) (e5 : m.s = s) (ho : ∀ i, m.own i → w0.heap.size ≤ i)
    (hb : Below w0.heap.size w0 wr) (hr : r ≤ 2) (h : SweepOut m hd (chain V (min V (N - 2))) wr e w') :
    e = .returned (.int .i64 (min V (N - 2) : Nat)) ∧ ∃ m' h', St w' m' h' (chain V 0) ∧ h'.V = V ∧ h'.B = N ∧ h'.made = (((r + 1) * min (N - 2) V : Nat) : Int) ∧ h'.sweeps = (r + 1 : Nat) ∧ m'.s = s ∧ (∀ i, m'.own i → w0.heap.size ≤ i) ∧ Below w0.heap.size w0 w' := by
  obtain ⟨rfl, hst, htu⟩ := h
  rw [chain_swept _ _ _ st.good] at hst
  refine ⟨by rw [chain_gone _ _ _ st.good], m, _, hst, e1, e2, ?_, ?_, e5, ho, Turn.to_below hb htu ho hb.size⟩
  · show hd.made = _
    rw [e3, Nat.succ_mul, Nat.min_comm V]
  · show wrap64 (hd.sweeps + 1) = _
    rw [e4, wrap64_small _ (by omega) (by omega)]; omega

theorem and_low (x : Int) : ∃ a : Nat, a ≤ 65535 ∧ bits BinOp.and IntKind.i64 x 65535 = (a : Int) := by
  refine ⟨(BitVec.ofInt 64 x).toNat &&& 65535, Nat.and_le_right, ?_⟩
  have hx := Nat.and_le_right (n := (BitVec.ofInt 64 x).toNat) (m := 65535)
  show IntKind.i64.wrap ((BitVec.ofInt 64 x &&& BitVec.ofInt 64 ((65535 : Nat) : Int)).toNat : Int) = _
  rw [BitVec.toNat_and, ofInt_i64 65535 (by omega), IntKind.wrap_i64]
  omega

set_option maxHeartbeats 4000000 in
set_option maxRecDepth 100000 in
theorem nodeBudget_walk (x y : Int) (W : World) (_ : (Lit.int .i64 x).wf = true) (_ : (Lit.int .i64 y).wf = true) :
    Calls Try.prog 6 #[.int .i64 x, .int .i64 y] W fun e w' => e = .returned (.bool true) ∧ Below W.heap.size W w' := by
  obtain ⟨a, ha, ea⟩ := and_low x
  obtain ⟨b, hb, eb⟩ := and_low y
  have ha2 : (a : Int) ≤ 65535 := by omega
  have hb2 : (b : Int) ≤ 65535 := by omega
  clear ha hb
  go_enter Try.func6, Try.ntmps6
  go_wp2_with fail
  obtain ⟨N, hN⟩ : ∃ N : Nat, 2 + (a : Int) % 40 = N := ⟨2 + a % 40, by omega⟩
  obtain ⟨V, hV⟩ : ∃ V : Nat, 1 + (b : Int) % 40 = V := ⟨1 + b % 40, by omega⟩
  rw [hN, hV]
  have n2 : 2 ≤ N := by omega
  have n41 : N ≤ 41 := by omega
  have v1 : 1 ≤ V := by omega
  have v40 : V ≤ 40 := by omega
  clear hN hV ha2 hb2
  refine (newst_yes V N (by omega) (by omega) n2 _).mono ?_
  rintro e w1 ⟨m, rfl, s1, hb1, ho1⟩
  have B0 : Hid (BudOut V N m.s W (.int .i64 0) w1) := ⟨0, by omega, rfl, ⟨m, _, s1, rfl, rfl, by simp, rfl, rfl, ho1⟩, hb1⟩
  obtain ⟨s, hs⟩ : ∃ s, m.s = s := ⟨_, rfl⟩
  rw [hs] at B0
  unfold ptrV
  rw [hs]
  clear s1 hb1 ho1 hs
  go_wp2_with fail
  go_loopw [9] (fun rv wr => BudOut V N s W rv wr) (fun rv _ => 2 - (intOf rv).toNat)
  case atStart => exact B0.out
  case round =>
    clear B0
    obtain ⟨r, hr, rfl, hst⟩ := hrel
    by_cases hr2 : r < 2
    · go_wp2_with fail
      have I0 : Hid (BudIn V N s W r (.int .i64 0) wr) := ⟨0, by omega, rfl, by simpa using hst⟩
      clear hst
      obtain ⟨wo, rfl⟩ : ∃ wo : World, wo = wr := ⟨_, rfl⟩
      go_loopw [10] (fun vv w3 => BudIn V N s W r vv w3) (fun vv _ => V - (intOf vv).toNat)
      case atStart => exact I0.out
      case round =>
        clear I0
        obtain ⟨v, hv, rfl, ⟨m1, h1, s1, e1, e2, e3, e4, e5, ho1⟩, hbel⟩ := hrel
        have S1 := Lib.hid s1
        have B1 := Lib.hid hbel
        have O1 := Lib.hid ho1
        have E1 := Lib.hid e1
        have E2 := Lib.hid e2
        have E3 := Lib.hid e3
        have E4 := Lib.hid e4
        have E5 := Lib.hid e5
        clear s1 hbel ho1 e1 e2 e3 e4 e5
        by_cases hlt : v < V
        · by_cases hroom : v < N - 2
          · have hroom' : (v : Int) < (N : Int) - 2 := by omega
            have HROOM := Lib.hid hroom
            have MK := chain_mk (v := v) S1.out E1.out (Nat.min_le_left _ _) hlt
            unfold ptrV at MK
            rw [E5.out] at MK
            have MK := Lib.hid MK
            clear hroom
            go_wp2_with fail
            refine MK.out.mono ?_
            intro e w4 hout
            obtain ⟨rfl, hb⟩ := bud_new E1.out E2.out E3.out E4.out E5.out O1.out B1.out HROOM.out n41 hr hout
            have HB := Lib.hid hb
            clear hout hb
            go_wp2_with fail
            go_roundw
            case rel => exact ⟨v + 1, by omega, by go_num, HB.out⟩
            case measure => simp [intOf]; omega
          · have hroom' : ¬ (v : Int) < (N : Int) - 2 := by omega
            have HROOM := Lib.hid hroom
            have MK := chain_mk (v := v) S1.out E1.out (Nat.min_le_left _ _) hlt
            unfold ptrV at MK
            rw [E5.out] at MK
            have MK := Lib.hid MK
            clear hroom
            go_wp2_with fail
            refine MK.out.mono ?_
            intro e w4 hout
            obtain ⟨rfl, hb⟩ := bud_none S1.out E1.out E2.out E3.out E4.out E5.out O1.out B1.out HROOM.out n2 hout
            have HB := Lib.hid hb
            clear hout hb
            go_wp2_with fail
            go_roundw
            case rel => exact ⟨v + 1, by omega, by go_num, HB.out⟩
            case measure => simp [intOf]; omega
        · obtain rfl : v = V := by omega
          have L1 := len_store S1.out.lay
          have SW := sweep_any S1.out
          unfold ptrV at L1 SW
          rw [E5.out] at L1 SW
          rw [S1.out.nodes, chain_cnt] at L1
          have L1 := Lib.hid L1
          have SW := Lib.hid SW
          clear hlt
          by_cases hm : N - 2 ≤ v
          · have hm' : (N : Int) ≤ (v : Int) + 2 := by omega
            have hm2 : (N : Int) - 2 ≤ (v : Int) := by omega
            have L2 : Hid (((min v (N - 2) + 2 : Nat) : Int) = N) := by show _ = _; omega
            have R2 : Hid (((min v (N - 2) : Nat) : Int) = (N : Int) - 2) := by show _ = _; omega
            clear hm
            go_wp2_with fail
            refine L1.out.mono ?_
            rintro e w4 ⟨rfl, rfl⟩
            rw [L2.out]
            go_wp2_with fail
            refine SW.out.mono ?_
            intro e w5 hout
            obtain ⟨rfl, m2, h2, s2, f1, f2, f3, f4, f5, ho2, hb2⟩ := bud_swept S1.out E1.out E2.out E3.out E4.out E5.out O1.out B1.out hr hout
            have L3 := len_store s2.lay
            unfold ptrV at L3
            rw [f5, s2.nodes, chain_cnt] at L3
            have L3 := Lib.hid L3
            have FIN : Hid (BudSt v N s W (r + 1) 0 ((r + 1) * min (N - 2) v) w5) := ⟨⟨m2, h2, s2, f1, f2, f3, f4, f5, ho2⟩, hb2⟩
            rw [R2.out]
            clear hout s2 f1 f2 f3 f4 f5 ho2 hb2
            go_wp2_with fail
            refine L3.out.mono ?_
            rintro e w6 ⟨rfl, rfl⟩
            go_wp2_with fail
            go_roundw
            case rel => exact ⟨r + 1, by omega, by go_num, FIN.out⟩
            case measure => simp [intOf]; omega
          · have hm' : (v : Int) + 2 < (N : Int) := by omega
            have hm2 : (v : Int) < (N : Int) - 2 := by omega
            have L2 : Hid (((min v (N - 2) + 2 : Nat) : Int) = (v : Int) + 2) := by show _ = _; omega
            have R2 : Hid (((min v (N - 2) : Nat) : Int) = v) := by show _ = _; omega
            clear hm
            go_wp2_with fail
            refine L1.out.mono ?_
            rintro e w4 ⟨rfl, rfl⟩
            rw [L2.out]
            go_wp2_with fail
            refine SW.out.mono ?_
            intro e w5 hout
            obtain ⟨rfl, m2, h2, s2, f1, f2, f3, f4, f5, ho2, hb2⟩ := bud_swept S1.out E1.out E2.out E3.out E4.out E5.out O1.out B1.out hr hout
            have L3 := len_store s2.lay
            unfold ptrV at L3
            rw [f5, s2.nodes, chain_cnt] at L3
            have L3 := Lib.hid L3
            have FIN : Hid (BudSt v N s W (r + 1) 0 ((r + 1) * min (N - 2) v) w5) := ⟨⟨m2, h2, s2, f1, f2, f3, f4, f5, ho2⟩, hb2⟩
            rw [R2.out]
            clear hout s2 f1 f2 f3 f4 f5 ho2 hb2
            go_wp2_with fail
            refine L3.out.mono ?_
            rintro e w6 ⟨rfl, rfl⟩
            go_wp2_with fail
            go_roundw
            case rel => exact ⟨r + 1, by omega, by go_num, FIN.out⟩
            case measure => simp [intOf]; omega
    · obtain rfl : r = 2 := by omega
      obtain ⟨⟨m1, h1, s1, e1, e2, e3, e4, e5, ho1⟩, hbel⟩ := hst
      have M1 := made_store s1.lay
      have W1 := sweeps_store s1.lay
      unfold ptrV at M1 W1
      rw [e5] at M1 W1
      rw [e3] at M1
      rw [e4] at W1
      have M1 := Lib.hid M1
      have W1 := Lib.hid W1
      have AW := Lib.hid (awake3 wr)
      have HB := Lib.hid hbel
      clear s1 e1 e2 e3 e4 e5 ho1 hbel hr2
      by_cases hm : N - 2 ≤ V
      · have hm2 : (N : Int) - 2 ≤ (V : Int) := by omega
        have R2 : Hid (((2 * min (N - 2) V : Nat) : Int) = 2 * ((N : Int) - 2)) := by show _ = _; omega
        clear hm
        go_wp2_with fail
        refine M1.out.mono ?_
        rintro e w4 ⟨rfl, rfl⟩
        rw [R2.out]
        go_wp2_with fail
        refine W1.out.mono ?_
        rintro e w4 ⟨rfl, rfl⟩
        go_wp2_with fail
        refine AW.out.mono ?_
        rintro e w5 ⟨rfl, hb5⟩
        go_wp2_with fail
        go_ret
        exact ⟨rfl, HB.out.trans (hb5.mono HB.out.size)⟩
      · have hm2 : (V : Int) < (N : Int) - 2 := by omega
        have R2 : Hid (((2 * min (N - 2) V : Nat) : Int) = 2 * (V : Int)) := by show _ = _; omega
        clear hm
        go_wp2_with fail
        refine M1.out.mono ?_
        rintro e w4 ⟨rfl, rfl⟩
        rw [R2.out]
        go_wp2_with fail
        refine W1.out.mono ?_
        rintro e w4 ⟨rfl, rfl⟩
        go_wp2_with fail
        refine AW.out.mono ?_
        rintro e w5 ⟨rfl, hb5⟩
        go_wp2_with fail
        go_ret
        exact ⟨rfl, HB.out.trans (hb5.mono HB.out.size)⟩
namespace nodeBudget
set_option linter.unusedVariables false
theorem own : ownKnob Try.prog.godebug = none := by kernel_rfl
theorem laidOut : laidOutB Try.prog = true := by kernel_rfl
set_option maxRecDepth 100000 in
theorem lifted (os : Os) (started : os.Started) (H : Type) (enc : TypeId × Value → H) :
    ReturnsInHanded {} Try.checked os 6 .any (Rows.nodeBudgetSpec.pre6 enc Try.prog Try.f6 Rows.nodeBudgetRow.domain false) (Rows.nodeBudgetSpec.post enc Try.prog Try.f6 false true false false) := by
  refine returnsInHanded_of_change (C := Try.checked) own started (by kernel_rfl) Try.func6
    (ChangeSpec.witness6 (enc := enc) (C := Try.checked) false ⟨#[], #[.int .i64 0, .int .i64 0], []⟩ 8 (by kernel_rfl) (by kernel_rfl) (by kernel_rfl) (by kernel_rfl)) ?_
  intro W base args ds gs before hval0 hW hcnd hsz
  have hval : ∀ (j : Nat) t v, Try.f6.params[j]? = some t → args[j]? = some v → Value.okWide Try.prog W .any base t v := hval0
  have hW' := hW
  obtain ⟨p, q, hA0, hV, rfl, hfz, hnd⟩ := hW
  have hA : DataW.TrodAll enc Try.prog W 0 (fun _ => true) true Try.f6.params.toList args.toList ds p := hA0
  rw [Try.params6] at hA hval
  obtain ⟨v0, vs0, d0, ds0, p0, q0, hargs, rfl, rfl, h0, r0⟩ := trodAll_cons hA
  obtain ⟨v1, vs1, d1, ds1, p1, q1, rfl, rfl, rfl, h1, r1⟩ := trodAll_cons r0
  obtain ⟨rfl, rfl, rfl⟩ := trodAll_nil r1
  obtain rfl : args = #[v0, v1] := by cases args; simp_all
  obtain ⟨rfl, rfl⟩ := trodVars_none hV
  obtain ⟨a0, rfl, rfl, rfl, w0⟩ := open_int Try.underlying3 (hval 0 3 v0 rfl rfl) h0
  obtain ⟨a1, rfl, rfl, rfl, w1⟩ := open_int Try.underlying3 (hval 1 3 v1 rfl rfl) h1
  clear hA0 hval0
  refine (nodeBudget_walk a0 a1 W w0 w1).mono fun e W' ⟨he, bel⟩ => ?_
  subst he
  exact ⟨_, rfl, _, _, _, [], _, [], hW', trodAll_mk1 (shut_bool Try.underlying4 _), (trodAll_cons_mk (shut_int Try.underlying3 w0) (trodAll_cons_mk (shut_int Try.underlying3 w1) trodAll_mk0)), rfl, bel.frame _, fun h => by cases h⟩
theorem over : Rows.nodeBudgetRow.holds Try.pinned (OpenSpec.ofChange Rows.nodeBudgetSpec) :=
  OpenClaim.holds_of_wide 6 Try.f6 rfl rfl rfl rfl rfl rfl rfl ⟨rfl, rfl, rfl, rfl, rfl⟩ rfl rfl rfl rfl rfl (by kernel_rfl) Try.func6 (by kernel_rfl)
    (of_decide_eq_true (by kernel_rfl)) (by unfold Func.isWrapper; first | (rw [if_pos (by decide +kernel)]; kernel_rfl) | (rw [if_neg (by decide +kernel)]; exact ⟨rfl, rfl⟩))
    (fun os started H enc _ => lifted os started H enc)
/-- THE STATEMENT. -/
theorem proved : Rows.NodeBudgetSaid := over
end nodeBudget
#print axioms nodeBudget.proved
end Go.Proofs.Ytmfghmnnacagbaa
