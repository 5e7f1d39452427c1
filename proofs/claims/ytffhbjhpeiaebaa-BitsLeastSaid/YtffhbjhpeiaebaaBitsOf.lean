/- Contracts for any arguments, and the small example that each law asks for beside. -/
import Derived.Test.YtffhbjhpeiaebaaRput
import Derived.WalkSmall
namespace Go.Proofs.Ytffhbjhpeiaebaa
open Go.ChangeShapes Go.WideShapes Go.ChangeAt Go.RowKit

theorem put_goodI (n v : Int) (w : World) (h0 : 0 ≤ n) (h1 : 0 ≤ v) (h2 : v ≤ 62) (h : n < wrap64 (2 ^ v.toNat)) :
    Calls Try.prog 12 #[.int .i64 n, .int .i64 v] w (PutOut (putN n.toNat v.toNat) w) := by
  obtain ⟨a, rfl⟩ := Int.eq_ofNat_of_zero_le h0
  obtain ⟨b, rfl⟩ := Int.eq_ofNat_of_zero_le h1
  exact put_good a b w (by omega) h

theorem rput_goodI (n v : Int) (w : World) (h0 : 0 ≤ n) (h1 : 0 ≤ v) (h2 : v ≤ 62) (h : n ≤ wrap64 (wrap64 (2 ^ v.toNat) - 1)) :
    Calls Try.prog 13 #[.int .i64 n, .int .i64 v] w (PutOut (putN n.toNat v.toNat) w) := by
  obtain ⟨a, rfl⟩ := Int.eq_ofNat_of_zero_le h0
  obtain ⟨b, rfl⟩ := Int.eq_ofNat_of_zero_le h1
  exact rput_good a b w (by omega) h

theorem Rd.of_lit {w : World} {cs : Array Value} {t : TypeId} : Rd (w.alloc (.cells cs t)) (some ⟨w.heap.size, 0, none⟩) cs.toList := by
  by_cases h0 : cs.toList = []
  · exact .inl h0
  · refine .inr ⟨w.heap.size, 0, rfl, by show _ < (w.heap.push _).size; simp, fun j u hu => ?_⟩
    rw [Nat.zero_add, cell_of_row (w.alloc (.cells cs t)) w.heap.size j cs t (0, 0) (heap_alloc_new w _)]
    simpa using hu

theorem get_three (w : World) : Calls Try.prog 16 #[.slice (some ⟨w.heap.size, 0, none⟩) 3 3] (w.alloc (.cells #[.bool false, .bool true, .bool true] 4))
    fun e w' => e = .returned (.tuple #[.int .i64 6, .int .i64 0]) ∧ w.alloc (.cells #[.bool false, .bool true, .bool true] 4) = w' := by
  have hr : Rd (w.alloc (.cells #[.bool false, .bool true, .bool true] 4)) (some ⟨w.heap.size, 0, none⟩) ([false, true, true].map Value.bool) := Rd.of_lit (cs := #[.bool false, .bool true, .bool true])
  exact get_good _ [false, true, true] 3 _ (by decide) hr

theorem same_four (A : Option Addr) (c g : Nat) (w : World) (hg : w.heap.size = g) (h : Rd (w.alloc (.cells #[.bool false, .bool true, .bool true, .bool false] 4)) A ((putN 6 4).map Value.bool)) :
    Calls Try.prog 14 #[.slice A (putN 6 4).length c, .slice (some ⟨g, 0, none⟩) 4 4] (w.alloc (.cells #[.bool false, .bool true, .bool true, .bool false] 4))
    fun e w' => e = .returned (.bool true) ∧ ∃ n, w' = (w.alloc (.cells #[.bool false, .bool true, .bool true, .bool false] 4)).drewN n := by
  subst hg
  have hr : Rd (w.alloc (.cells #[.bool false, .bool true, .bool true, .bool false] 4)) (some ⟨w.heap.size, 0, none⟩) ([false, true, true, false].map Value.bool) := Rd.of_lit (cs := #[.bool false, .bool true, .bool true, .bool false])
  exact same_any A _ (putN 6 4) [false, true, true, false] c 4 _ (by decide) h hr

theorem same_self (A B : Option Addr) (l : List Bool) (c d : Nat) (w : World) (hl : l.length ≤ 9223372036854775807) (hr : Rd w A (l.map Value.bool)) (hs : Rd w B (l.map Value.bool)) :
    Calls Try.prog 14 #[.slice A l.length c, .slice B l.length d] w fun e w' => e = .returned (.bool true) ∧ ∃ n, w' = w.drewN n :=
  (same_any A B l l c d w hl hr hs).mono fun e w' ⟨he, hw⟩ => ⟨by rw [he]; exact ret_bool (by simp), hw⟩

theorem bitsOf_any (w : World) :
    Calls Try.prog 15 #[] w fun e w' => e = .returned (.bool true) ∧ Below w.heap.size w w' := by
  go_enter Try.func15, Try.ntmps15
  go_wp2_with fail
  refine (put_goodI 6 4 _ (by decide) (by decide) (by decide) ?_).mono ?_
  · rw [IntWalk.wrap64_in _ (by decide)]
    decide
  rintro e w1 ⟨A, c, rfl, hrd, hbel⟩
  go_wp2_with fail
  refine (get_three w1).mono ?_
  rintro e w2 ⟨rfl, rfl⟩
  go_wp2_with fail
  have hz := hbel.size
  have hb2 : Below w1.heap.size w1 ((w1.alloc (.cells #[.bool false, .bool true, .bool true] 4)).alloc (.cells #[.bool false, .bool true, .bool true, .bool false] 4)) := ((Below.refl _ _).alloc (Nat.le_refl _) _).alloc (by simp) _
  refine (same_four A c _ _ (by simp) (hrd.keep hb2)).mono ?_
  rintro e w3 ⟨rfl, n, rfl⟩
  go_wp2_with fail
  go_ret
  exact ⟨rfl, below_drewN (hbel.trans (hb2.mono hz)) n⟩

end Go.Proofs.Ytffhbjhpeiaebaa
