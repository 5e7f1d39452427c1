/- Contract of SameBits: are two lists of bits the same. -/
import Derived.Test.YtffhbjhpeiaebaaRefs
namespace Go.Proofs.Ytffhbjhpeiaebaa
open Go.ChangeShapes Go.WideShapes Go.ChangeAt Go.RowKit

def SameOut (l m : List Bool) (w : World) (e : Ending) (w' : World) : Prop := e = .returned (.bool (decide (l = m))) ∧ ∃ n, w' = w.drewN n

theorem take_eq_step {α : Type} {l m : List α} {k : Nat} (h : l.take k = m.take k) (hl : k < l.length) (hm : k < m.length) (he : l[k] = m[k]) : l.take (k + 1) = m.take (k + 1) := by
  rw [take_snoc l k hl, take_snoc m k hm, h, he]

theorem ne_of_get {α : Type} {l m : List α} {k : Nat} (hl : k < l.length) (hm : k < m.length) (he : l[k] ≠ m[k]) : l ≠ m := by
  rintro rfl; exact he rfl

theorem ret_bool {a b : Bool} (h : a = b) : Ending.returned (.bool a) = .returned (.bool b) := by rw [h]

theorem same_short (A B : Option Addr) (n m c d : Nat) (w : World) (h : ((n : Int) != (m : Int)) = true) :
    Calls Try.prog 14 #[.slice A n c, .slice B m d] w fun e w' => e = .returned (.bool false) ∧ w = w' := by
  go_enter Try.func14, Try.ntmps14
  go_wp2
  go_ret
  exact ⟨rfl, rfl⟩

theorem same_none (A B : Option Addr) (c d : Nat) (w : World) :
    Calls Try.prog 14 #[.slice A 0 c, .slice B 0 d] w fun e w' => e = .returned (.bool true) ∧ w = w' := by
  go_enter Try.func14, Try.ntmps14
  go_wp2
  go_loop [5] (fun i => i = .int .i64 0) (fun _ => 0)
  case atStart => exact rfl
  case round =>
    obtain rfl := hrel
    go_wp2
    go_ret
    exact ⟨rfl, rfl⟩

theorem same_long (b off b' off' n c d : Nat) (l m : List Bool) (w : World) (hl : l.length = n) (hm : m.length = n) (hmax : n ≤ 9223372036854775807)
    (hc : ∀ k, (h : k < l.length) → w.cell? ⟨b, off + k, none⟩ = some (.bool l[k])) (hd : ∀ k, (h : k < m.length) → w.cell? ⟨b', off' + k, none⟩ = some (.bool m[k])) :
    Calls Try.prog 14 #[.slice (some ⟨b, off, none⟩) n c, .slice (some ⟨b', off', none⟩) n d] w (SameOut l m w) := by
  have hne : ((n : Int) != (n : Int)) = false := by simp
  have HL := Lib.hid hl
  have HM := Lib.hid hm
  have HC := Lib.hid hc
  have HD := Lib.hid hd
  clear hl hm hc hd
  go_enter Try.func14, Try.ntmps14
  go_wp2
  go_loopw [5] (fun i wr => ∃ k : Nat, k ≤ n ∧ i = .int .i64 k ∧ l.take k = m.take k ∧ ∃ q, wr = w.drewN q) (fun i _ => n - (intOf i).toNat)
  case atStart => exact ⟨0, Nat.zero_le _, rfl, rfl, 0, rfl⟩
  case round =>
    obtain ⟨k, hk, rfl, ht, q, rfl⟩ := hrel
    have HT := Lib.hid ht
    clear ht
    by_cases hlt : k < n
    · have hkl : k < l.length := by rw [HL.out]; exact hlt
      have hkm : k < m.length := by rw [HM.out]; exact hlt
      have hcell := HC.out k hkl
      have hdell := HD.out k hkm
      by_cases he : l[k] = m[k]
      · have HS := Lib.hid (take_eq_step HT.out hkl hkm he)
        obtain ⟨x, hx⟩ : ∃ x, l[k] = x := ⟨_, rfl⟩
        rw [← he] at hdell
        rw [hx] at hcell hdell
        clear hx he
        have hki : (k : Int) < (n : Int) := by omega
        cases x <;>
        · go_wp2
          go_quiet (fail)
          go_wp2
          go_roundw
          case rel => exact ⟨k + 1, by omega, by go_num, HS.out, _, rfl⟩
          case measure => simp [intOf]; omega
      · have HS : Hid (decide (l = m) = false) := Lib.hid (by simpa using ne_of_get hkl hkm he)
        obtain ⟨x, hx⟩ : ∃ x, l[k] = x := ⟨_, rfl⟩
        obtain ⟨y, hy⟩ : ∃ y, m[k] = y := ⟨_, rfl⟩
        rw [hx, hy] at he
        rw [hx] at hcell
        rw [hy] at hdell
        clear hx hy
        have hki : (k : Int) < (n : Int) := by omega
        cases x <;> cases y <;> first
          | exact absurd rfl he
          | (clear he
             go_wp2
             go_quiet (fail)
             go_wp2
             go_ret
             exact ⟨ret_bool HS.out.symm, _, by rw [World.drewN_drewN]⟩)
    · have HS : Hid (decide (l = m) = true) := Lib.hid (by
        have h := HT.out
        rw [show k = n by omega] at h
        have h1 := List.take_length (l := l)
        have h2 := List.take_length (l := m)
        rw [HL.out] at h1
        rw [HM.out] at h2
        rw [h1, h2] at h
        simpa using h)
      go_wp2
      go_ret
      exact ⟨ret_bool HS.out.symm, _, rfl⟩

theorem same_any (A B : Option Addr) (l m : List Bool) (c d : Nat) (w : World) (hl : l.length ≤ 9223372036854775807) (hr : Rd w A (l.map Value.bool)) (hs : Rd w B (m.map Value.bool)) :
    Calls Try.prog 14 #[.slice A l.length c, .slice B m.length d] w (SameOut l m w) := by
  by_cases hn : l.length = m.length
  · by_cases h0 : l = []
    · subst h0
      have h1 : m = [] := List.eq_nil_of_length_eq_zero hn.symm
      subst h1
      exact (same_none A B c d w).mono fun e w' ⟨he, hw⟩ => ⟨by rw [he]; rfl, 0, hw.symm⟩
    · have h1 : m ≠ [] := fun h => h0 (by subst h; exact List.eq_nil_of_length_eq_zero hn)
      rcases hr with hr | ⟨b, off, rfl, _, hc⟩
      · exact absurd (by simpa using hr) h0
      · rcases hs with hs | ⟨b', off', rfl, _, hd⟩
        · exact absurd (by simpa using hs) h1
        · rw [← hn]
          exact same_long b off b' off' l.length c d l m w rfl hn.symm hl (fun k h => hc k _ (by simp [h])) (fun k h => hd k _ (by simp [h]))
  · have hne : ((l.length : Int) != (m.length : Int)) = true := by rw [bne_iff_ne]; omega
    exact (same_short A B _ _ c d w hne).mono fun e w' ⟨he, hw⟩ => ⟨by
      rw [he]
      exact ret_bool (by
        symm
        have : l ≠ m := fun h => hn (by rw [h])
        simpa using this), 0, hw.symm⟩

end Go.Proofs.Ytffhbjhpeiaebaa
