/- Contracts of the document's answer for Put: the bits of a number. -/
import Derived.Test.YtffhbjhpeiaebaaPut
namespace Go.Proofs.Ytffhbjhpeiaebaa
open Go.ChangeShapes Go.WideShapes Go.ChangeAt Go.RowKit

theorem rput_bad (n v : Int) (w : World) (h : v < 0 ∨ 62 < v ∨ (0 ≤ v ∧ v ≤ 62 ∧ (n < 0 ∨ (0 ≤ n ∧ wrap64 (wrap64 (2 ^ v.toNat) - 1) < n)))) :
    Calls Try.prog 13 #[.int .i64 n, .int .i64 v] w fun e w' => e = .returned (.tuple #[.slice none 0 0, .int .i64 1]) ∧ w = w' := by
  rcases h with h | h | ⟨h1, h2, h | ⟨h3, h4⟩⟩ <;>
  · go_enter Try.func13, Try.ntmps13
    go_wp2
    go_ret2
    exact ⟨rfl, rfl⟩

/-- A slice of the call's own reads as its cells. -/
theorem Rd.own {w : World} {base e n : Nat} {v : Value} {xs : List Value} (h : w.ownsRow base e 1 v n xs) : ∃ A c, v = .slice A n c ∧ Rd w A xs := by
  rcases h.2 with ⟨rfl, hx⟩ | ⟨g, cap, cur, rfl, _⟩
  · have h0 := h.1
    subst hx
    exact ⟨none, 0, rfl, .inl (List.eq_nil_of_length_eq_zero (by omega))⟩
  · exact ⟨_, _, rfl, Rd.of_own h⟩

theorem rput_good (n k : Nat) (w : World) (hk : k ≤ 62) (h : (n : Int) ≤ wrap64 (wrap64 (2 ^ k) - 1)) :
    Calls Try.prog 13 #[.int .i64 n, .int .i64 k] w (PutOut (putN n k) w) := by
  obtain ⟨i0, hi, hz0, hz1, hz2⟩ := info_parts info_bool
  have hn : n < 4611686018427387904 := by
    have h1 := pow_le62 k hk
    have h2 : 0 < 2 ^ k := Nat.two_pow_pos k
    rw [wrap_pow_le k hk] at h
    generalize 2 ^ k = p at h h1 h2
    rw [IntWalk.wrap64_in _ ⟨by omega, by omega⟩] at h
    omega
  obtain ⟨l, hl⟩ : ∃ l, putN n k = l := ⟨_, rfl⟩
  have hlen : l.length = k := by rw [← hl]; exact putN_length n k
  have HL := Lib.hid hlen
  have HB := Lib.hid hl
  clear hlen
  rw [hl]
  clear hl
  go_enter Try.func13, Try.ntmps13
  go_wp2
  go_loopw [6, 7] (fun v i wr => ∃ j : Nat, j ≤ k ∧ i = .int .i64 j ∧ wr.ownsRow w.heap.size 4 1 v j ((l.take j).map Value.bool) ∧ Below w.heap.size w wr) (fun _ i _ => k - (intOf i).toNat)
  case atStart => exact ⟨0, Nat.zero_le _, rfl, World.ownsRow_nil _ _ _ _, Below.refl _ _⟩
  case round =>
    obtain ⟨j, hj, rfl, hown, hbel⟩ := hrel
    by_cases hlt : j < k
    · have hjl : j < l.length := by rw [HL.out]; exact hlt
      have HV : Hid ((bits BinOp.and IntKind.i64 ((n : Int) / 2 ^ j) 1 == 1) = l[j]) := Lib.hid (by
        rw [bit_at n j (by omega)]
        have h3 := HB.out
        subst h3
        rw [putN_get])
      have hsz := hbel.size
      go_wp2_with (at_builtin; refine wpList_append_own _ rfl _ _ 26 rfl w.heap.size 4 i0 (.bool false) 1 1 Try.underlying26 hi hz0 hz1 hz2 rfl (by decide) _ _ _ rfl (hown.alloc _) ⟨wr.heap.size, 0, none⟩ 1 1 [.bool (bits BinOp.and IntKind.i64 ((n : Int) / 2 ^ j) 1 == 1)] rfl rfl ?c1 ?c2 ?c3 ?c4 ?c5 ?_)
      case c1 =>
        intro i u hu
        match i, hu with
        | 0, hu => simp at hu; subst hu; simp [Addr.add]
      case c2 => intro u hu; simp at hu; subst hu; rfl
      case c3 => unfold maxLen; omega
      case c4 => omega
      case c5 => simp; omega
      intro v' w1 hown' hgrow _
      have HO : Hid (w1.ownsRow w.heap.size 4 1 v' (j + 1) ((l.take (j + 1)).map Value.bool)) := Lib.hid (by
        rw [take_snoc l j hjl, List.map_append]
        rw [HV.out] at hown'
        simpa using hown')
      have hb1 : Below w.heap.size w w1 := (hbel.alloc (by omega) _).grown hgrow (by simp; omega) (by
        intro g hg
        rcases hown.2 with ⟨rfl, _⟩ | ⟨g', cap, cur, rfl, hb, _⟩
        · simp [Value.ownBlock] at hg
        · simp [Value.ownBlock] at hg; omega)
      clear hown' hgrow hown hbel
      go_wp2
      go_roundw
      case rel => exact ⟨j + 1, by omega, by go_num, HO.out, hb1⟩
      case measure => simp [intOf]; omega
    · have hjk : j = l.length := by have := HL.out; omega
      rw [hjk, List.take_length, HL.out] at hown
      have HS := Lib.hid hown
      clear hown
      have HJ := Lib.hid hjk
      clear hjk
      go_wp2
      go_ret2
      obtain ⟨A, c, rfl, hrd⟩ := Rd.own HS.out
      have hl := HB.out
      subst hl
      exact ⟨A, c, ret_slice (putN_length n k).symm, hrd, hbel⟩

end Go.Proofs.Ytffhbjhpeiaebaa
