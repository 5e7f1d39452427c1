/- The document's store: Eval. -/
import Derived.Test.YteeffabmafakiaaNRef
namespace Go.Proofs.Yteeffabmafakiaa
open Go.ChangeShapes Go.WideShapes Go.ChangeAt Go.RowKit

theorem box_s {w w2 : World} {h : Hd} {g N cap : Nat} (hb : Below (w.alloc (rsO h g N cap)).heap.size (w.alloc (rsO h g N cap)) w2) :
    w2.heap[w.heap.size]? = some (.cells #[.int .i64 h.V, .int .i64 h.B, .int .i64 h.made, .int .i64 h.sweeps, .slice (some ⟨g, 0, none⟩) N cap] 29 (0, 0)) :=
  (hb.block w.heap.size (by simp)).trans (heap_alloc_new w _)

theorem reval_no {w : World} {g N cap : Nat} {cs : List Nd} (rs : RS w g N cap cs) (h : Hd) (k : Int) (v : Value) (hk : thereB cs k = false) :
    Calls Try.prog 20 #[rsV h g N cap, .int .i64 k, v] w fun e w' => e = .returned (.tuple #[.bool false, .int .i64 3]) ∧ Below w.heap.size w w' := by
  have BB := (Below.refl w.heap.size w).alloc (Nat.le_refl _) (rsO h g N cap)
  have H := ris_any (rs.keep BB) h k
  rw [hk] at H
  have H := Lib.hid H
  have BB := Lib.hid BB
  clear rs hk
  unfold rsV at *
  unfold rsO at *
  go_enter Try.func20, Try.ntmps20
  go_wp2_with fail
  refine H.out.mono ?_
  rintro e w2 ⟨rfl, hb⟩
  go_wp2_with fail
  go_ret2
  exact ⟨rfl, BB.out.trans (hb.mono BB.out.size)⟩

def REv (V : Nat) (cs : List Nd) (x : Bool) (vs : List Bool) (w1 : World) (kv : Value) (wr : World) : Prop := EvRel V cs x vs kv ∧ Below w1.heap.size w1 wr

theorem reval_yes {w : World} {g N cap : Nat} {cs : List Nd} (rs : RS w g N cap cs) (h : Hd) (gd : NGood h.V cs) {k : Nat} {c : Nd} (hk : Is cs k c) {A : Option Addr} {vs : List Bool} {cap2 : Nat} (hr : Rd w A (vs.map Value.bool)) (hm : vs.length ≤ 9223372036854775807) :
    Calls Try.prog 20 #[rsV h g N cap, .int .i64 (k : Int), .slice A vs.length cap2] w fun e w' => e = .returned (.tuple #[.bool (Says h.V cs (valOf vs) k), .int .i64 0]) ∧ Below w.heap.size w w' := by
  have BB := (Below.refl w.heap.size w).alloc (Nat.le_refl _) (rsO h g N cap)
  have H := ris_any (rs.keep BB) h (k : Int)
  rw [thereB_is hk] at H
  have H := Lib.hid H
  have R1 := Lib.hid (rs.keep BB)
  have RV := Lib.hid (hr.keep BB)
  have BX : Hid (∀ w2, Below (w.alloc (rsO h g N cap)).heap.size (w.alloc (rsO h g N cap)) w2 → w2.heap[w.heap.size]? = some (.cells #[.int .i64 h.V, .int .i64 h.B, .int .i64 h.made, .int .i64 h.sweeps, .slice (some ⟨g, 0, none⟩) N cap] 29 (0, 0))) := fun _ hb => box_s hb
  have BB := Lib.hid BB
  have HK := Lib.hid hk
  obtain ⟨x, hx⟩ : ∃ x, Says h.V cs (valOf vs) k = x := ⟨_, rfl⟩
  rw [hx]
  have HX := Lib.hid hx
  clear rs hk hx hr
  unfold rsV at *
  unfold rsO at *
  go_enter Try.func20, Try.ntmps20
  go_wp2_with fail
  refine H.out.mono ?_
  rintro e w2 ⟨rfl, hb⟩
  have HBX := Lib.hid (BX.out w2 hb)
  have R2 := Lib.hid (R1.out.keep hb)
  have RV2 := Lib.hid (RV.out.keep hb)
  have B2 := Lib.hid (BB.out.trans (hb.mono BB.out.size))
  clear hb
  obtain ⟨s0, hs0⟩ : ∃ s0, w.heap.size = s0 := ⟨_, rfl⟩
  rw [hs0] at HBX B2 ⊢
  have HS0 := Lib.hid hs0
  clear hs0
  go_wp2_with fail
  go_loopw [1, 8] (fun kv _ wr => REv h.V cs x vs w2 kv wr) (fun kv _ _ => rkOf h.V cs (intOf kv).toNat)
  case atStart => exact ⟨⟨k, c, HK.out, rfl, HX⟩, Below.refl _ _⟩
  case round =>
    obtain ⟨⟨k, c, hc, rfl, hx⟩, hbel⟩ := hrel
    have hlt := hc.lt
    have hs2 : s0 < w2.heap.size := by
      rcases Nat.lt_or_ge s0 w2.heap.size with h1 | h1
      · exact h1
      · have := HBX.out; rw [Array.getElem?_eq_none h1] at this; cases this
    have HB3 := (hbel.block s0 hs2).trans HBX.out
    have c4 := cell_of_row wr s0 4 _ _ _ HB3
    simp at c4
    have BR := Lib.hid hbel
    obtain ⟨_, d0, d1, d2, d3, d4⟩ := (R2.out.keep hbel).row hc
    have hr := RV2.out.keep hbel
    have hNl := R2.out.le
    have hkN : k < N := by omega
    clear HB3 hs2 hbel hlt hNl
    by_cases hk : 2 ≤ k
    · have ho := gd.ok k c hk hc
      have HC := Lib.hid hc
      clear hc
      obtain ⟨a, ha⟩ : ∃ a : Nat, c.asks = a := ⟨c.asks.toNat, by omega⟩
      rw [ha] at d1
      have HA := Lib.hid ha
      clear ha ho
      have hk2 : ¬ (k : Int) ≤ 1 := by omega
      have hval : valOf vs c.asks.toNat = valOf vs a := by rw [HA.out]; rfl
      by_cases hv : a < vs.length
      · rcases hr with hr | ⟨vb, off, rfl, hvb, hr⟩
        · rw [List.map_eq_nil_iff] at hr; subst hr; simp at hv
        · have hu := hr a (.bool (valOf vs a)) (by rw [List.getElem?_map, List.getElem?_eq_getElem hv]; simp [valOf, hv])
          have hu2 : (wr.alloc (.cells #[.bool true, .int .i64 a, .int .i64 c.low, .int .i64 c.high, .int .i64 c.pins] 55)).cell? ⟨vb, off + a, none⟩ = some (.bool (valOf vs a)) := (World.cell?_alloc_lt wr _ ⟨vb, off + a, none⟩ hvb).trans hu
          cases hb : valOf vs a with
          | true =>
            rw [hb] at hu hu2 hval
            have HV := Lib.hid hval
            clear hval hr hb
            go_wp2
            have EN := ev_next gd hk HC.out hx.out (j := c.high) (by rw [HV.out]; rfl)
            exact ⟨⟨EN.1, BR.out.alloc BR.out.size _⟩, EN.2⟩
          | false =>
            rw [hb] at hu hu2 hval
            have HV := Lib.hid hval
            clear hval hr hb
            go_wp2
            have EN := ev_next gd hk HC.out hx.out (j := c.low) (by rw [HV.out]; rfl)
            exact ⟨⟨EN.1, BR.out.alloc BR.out.size _⟩, EN.2⟩
      · have hf : valOf vs a = false := by unfold valOf; rw [List.getElem?_eq_none (by omega)]; rfl
        rw [hf] at hval
        have HV := Lib.hid hval
        have hd : decide ((a : Int) < (vs.length : Int)) = false := by simp; omega
        clear hval hf hr
        go_wp2
        have EN := ev_next gd hk HC.out hx.out (j := c.low) (by rw [HV.out]; rfl)
        exact ⟨⟨EN.1, BR.out.alloc BR.out.size _⟩, EN.2⟩
    · have h2 : k = 0 ∨ k = 1 := by omega
      rcases h2 with rfl | rfl
      · have e : false = x := by have := hx.out; rw [Says_zero] at this; exact this
        subst e
        clear hc hx HX hr
        go_wp2
        go_ret2
        exact ⟨rfl, by rw [HS0.out]; exact B2.out.trans (BR.out.mono (by have := B2.out.size; have := HS0.out; omega))⟩
      · have e : true = x := by have := hx.out; rw [Says_one] at this; exact this
        subst e
        clear hc hx HX hr
        go_wp2
        go_ret2
        exact ⟨rfl, by rw [HS0.out]; exact B2.out.trans (BR.out.mono (by have := B2.out.size; have := HS0.out; omega))⟩
end Go.Proofs.Yteeffabmafakiaa
