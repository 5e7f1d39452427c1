/- Contract of layer 3 (node): Eval; what a store is. -/
import Derived.Test.YtfdebadmikmnaaaNBase
import Derived.Test.YtfdebadmikmnaaaRd
namespace Go.Proofs.Ytfdebadmikmnaaa
open Go.ChangeShapes Go.WideShapes Go.ChangeAt Go.RowKit

/-- A store, as New gives it and its calls leave it. -/
structure St (w : World) (m : Mem) (h : Hd) (cs : List Nd) : Prop where
  lay : Lay w m h cs
  tab : ∃ f n, Tab w m.t m.b f n ∧ Keys cs f n
  good : NGood h.V cs
  nodes : h.nodes = cnt cs
  V : h.V ≤ 256
  B : h.B ≤ 1048576
  room : cnt cs ≤ h.B
  lf : 2 ≤ h.lf ∧ h.lf ≤ cs.length ∧ ∀ i, i < h.lf → ∃ c, Is cs i c

theorem St.keep {w w' : World} {m : Mem} {h : Hd} {cs : List Nd} (s : St w m h cs) (hb : Below w.heap.size w w') : St w' m h cs := by
  obtain ⟨f, n, h1, h2⟩ := s.tab
  exact ⟨s.lay.keep hb, ⟨f, n, h1.keep hb, h2⟩, s.good, s.nodes, s.V, s.B, s.room, s.lf⟩

theorem below_drew (w : World) : Below w.heap.size w w.drew := ⟨rfl, rfl, rfl, Nat.le_refl _, fun _ _ => rfl⟩
theorem below_drewN0 (w : World) (q : Nat) : Below w.heap.size w (w.drewN q) := ⟨rfl, rfl, rfl, Nat.le_refl _, fun _ _ => rfl⟩

/-- A store's blocks. -/
def Mem.own (m : Mem) (i : Nat) : Prop := i = m.s ∨ i = m.t ∨ i = m.b ∨ i = m.c

theorem St.own_lt {w : World} {m : Mem} {h : Hd} {cs : List Nd} (s : St w m h cs) : ∀ i, m.own i → i < w.heap.size := by
  obtain ⟨f, n, h1, _⟩ := s.tab
  have := h1.lt
  rintro i (rfl | rfl | rfl | rfl)
  · exact s.lay.lt_s
  · exact this.1
  · exact this.2.1
  · exact s.lay.lt_c

/-- A store stays as it is, while what is not its own turns. -/
theorem St.apart {w w' : World} {m : Mem} {h : Hd} {cs : List Nd} (s : St w m h cs) {own : Nat → Prop} (hm : Turn own w w') (hn : ∀ i, m.own i → ¬ own i) : St w' m h cs := by
  obtain ⟨f, n, h1, h2⟩ := s.tab
  have hlt := s.own_lt
  have hb : ∀ i, m.own i → w'.heap[i]? = w.heap[i]? := fun i hi => hm.block i (hlt i hi) (hn i hi)
  obtain ⟨ps, u, h5, h6, h7⟩ := h1
  exact ⟨s.lay.of (hb _ (.inl rfl)) (hb _ (.inr (.inr (.inr rfl)))), ⟨f, n, ⟨ps, u, ⟨⟨(hb _ (.inr (.inl rfl))).trans h5.lies.head, (hb _ (.inr (.inr (.inl rfl)))).trans h5.lies.row, h5.lies.ne⟩, h5.rep, h5.pow⟩, h6, h7⟩, h2⟩, s.good, s.nodes, s.V, s.B, s.room, s.lf⟩

/-- The values that a list gives to variables; missing ones are false. -/
def valOf (vs : List Bool) (i : Nat) : Bool := vs[i]?.getD false

def rkOf (V : Nat) (cs : List Nd) (k : Nat) : Nat := match cs[k]? with | some c => rk V c | none => 0
theorem rkOf_is {V : Nat} {cs : List Nd} {k : Nat} {c : Nd} (h : Is cs k c) : rkOf V cs k = rk V c := by unfold rkOf; rw [h.1]

def EvRel (V : Nat) (cs : List Nd) (x : Bool) (vs : List Bool) (kv : Value) : Prop := ∃ k c, Is cs k c ∧ kv = .int .i64 k ∧ Hid (Says V cs (valOf vs) k = x)

theorem ev_next {V : Nat} {cs : List Nd} {x : Bool} {vs : List Bool} {k : Nat} {c : Nd} (g : NGood V cs) (hk : 2 ≤ k) (hc : Is cs k c) (hx : Says V cs (valOf vs) k = x) {j : Nat} (hj : j = if valOf vs c.asks.toNat then c.high else c.low) :
    EvRel V cs x vs (.int .i64 (j : Int)) ∧ rkOf V cs (intOf (.int .i64 (j : Int))).toNat < rkOf V cs (intOf (.int .i64 (k : Int))).toNat := by
  have ho := g.ok k c hk hc
  obtain ⟨l, hl, hl2⟩ := g.lo k c hk hc
  obtain ⟨r, hr, hr2⟩ := g.hi k c hk hc
  rw [Says_step g _ hk hc, ← hj] at hx
  obtain ⟨d, hd, hd2⟩ : ∃ d, Is cs j d ∧ c.asks < d.asks := by
    rw [hj]
    by_cases hv : valOf vs c.asks.toNat
    · rw [if_pos hv]; exact ⟨r, hr, hr2⟩
    · rw [if_neg hv]; exact ⟨l, hl, hl2⟩
  refine ⟨⟨j, d, hd, rfl, hx⟩, ?_⟩
  show rkOf V cs ((j : Int)).toNat < rkOf V cs ((k : Int)).toNat
  rw [Int.toNat_natCast, Int.toNat_natCast, rkOf_is hd, rkOf_is hc]
  unfold rk; omega

theorem eval_no {w : World} {m : Mem} {h : Hd} {cs : List Nd} (l : Lay w m h cs) (k : Int) (v : Value) (hk : thereB cs k = false) :
    Calls Try.prog 28 #[ptrV m.s, .int .i64 k, v] w fun e w' => e = .returned (.tuple #[.bool false, .int .i64 3]) ∧ w = w' := by
  have H := Lib.hid (refusal_no l k hk)
  clear hk
  unfold ptrV at *
  go_enter Try.func28, Try.ntmps28
  go_wp2_with fail
  refine H.out.mono ?_
  rintro e w' ⟨rfl, rfl⟩
  go_wp2_with fail
  go_ret2
  exact ⟨rfl, rfl⟩

theorem eval_yes {w : World} {m : Mem} {h : Hd} {cs : List Nd} (s : St w m h cs) {k : Nat} {c : Nd} (hk : Is cs k c) {A : Option Addr} {vs : List Bool} {cap : Nat} (hr : Rd w A (vs.map Value.bool)) (hm : vs.length ≤ 9223372036854775807) :
    Calls Try.prog 28 #[ptrV m.s, .int .i64 k, .slice A vs.length cap] w fun e w' => e = .returned (.tuple #[.bool (Says h.V cs (valOf vs) k), .int .i64 0]) ∧ w = w' := by
  obtain ⟨_, _, _, c3, -⟩ := s.lay.tops
  have H := Lib.hid (refusal_yes s.lay k (thereB_is hk))
  obtain ⟨x, hx⟩ : ∃ x, Says h.V cs (valOf vs) k = x := ⟨_, rfl⟩
  rw [hx]
  have HX := Lib.hid hx
  have HK := Lib.hid hk
  have g := s.good
  clear hk hx
  unfold ptrV at *
  go_enter Try.func28, Try.ntmps28
  go_wp2_with fail
  refine H.out.mono ?_
  rintro e w' ⟨rfl, rfl⟩
  go_wp2_with fail
  go_loop [1, 9] (fun kv _ => EvRel h.V cs x vs kv) (fun kv _ => rkOf h.V cs (intOf kv).toNat)
  case atStart => exact ⟨k, c, HK.out, rfl, HX⟩
  case round =>
    obtain ⟨k, c, hc, rfl, hx⟩ := hrel
    have hlt := hc.lt
    by_cases hk : 2 ≤ k
    · have ho := g.ok k c hk hc
      obtain ⟨d0, d1, d2, -⟩ := s.lay.cells hc.1
      have HC := Lib.hid hc
      clear hc
      obtain ⟨a, ha⟩ : ∃ a : Nat, c.asks = a := ⟨c.asks.toNat, by omega⟩
      rw [ha] at d0
      have HA := Lib.hid ha
      clear ha ho
      have hval : valOf vs c.asks.toNat = valOf vs a := by rw [HA.out]; rfl
      by_cases hv : a < vs.length
      · rcases hr with hr | ⟨vb, off, rfl, hvb, hr⟩
        · rw [List.map_eq_nil_iff] at hr; subst hr; simp at hv
        · have hu : w.cell? ⟨vb, off + a, none⟩ = some (.bool (valOf vs a)) := hr a _ (by rw [List.getElem?_map, List.getElem?_eq_getElem hv]; simp [valOf, hv])
          cases hb : valOf vs a with
          | true =>
            rw [hb] at hu hval
            have HV := Lib.hid hval
            clear hval hr hb
            go_wp2
            exact ev_next g hk HC.out hx.out (by rw [HV.out]; rfl)
          | false =>
            rw [hb] at hu hval
            have HV := Lib.hid hval
            clear hval hr hb
            go_wp2
            exact ev_next g hk HC.out hx.out (by rw [HV.out]; rfl)
      · have hf : valOf vs a = false := by unfold valOf; rw [List.getElem?_eq_none (by omega)]; rfl
        rw [hf] at hval
        have HV := Lib.hid hval
        have hd : decide ((a : Int) < (vs.length : Int)) = false := by simp; omega
        clear hval hf hr
        go_wp2
        exact ev_next g hk HC.out hx.out (by rw [HV.out]; rfl)
    · have h2 : k = 0 ∨ k = 1 := by omega
      rcases h2 with rfl | rfl
      · have e : false = x := by have := hx.out; rw [Says_zero] at this; exact this
        subst e
        clear hc hx HX
        go_wp2
        go_ret2
        exact ⟨rfl, rfl⟩
      · have e : true = x := by have := hx.out; rw [Says_one] at this; exact this
        subst e
        clear hc hx HX
        go_wp2
        go_ret2
        exact ⟨rfl, rfl⟩
end Go.Proofs.Ytfdebadmikmnaaa
