/- The laws' awake of layer 2 (hash). -/
import Derived.Test.YtldgdlndacocdaaHPut
namespace Go.Proofs.Ytldgdlndacocdaa
open Go.ChangeShapes Go.WideShapes Go.ChangeAt Go.RowKit

theorem PutOut.below {t b : Nat} {f : Key → Option Int} {n B : Nat} {w0 w w' : World} {e : Ending} (h : PutOut t b f n w e w') (hb : Below B w0 w) (ht : B ≤ t) (hB : B ≤ b) (hz : B ≤ w.heap.size) :
    e = .returned (.int .i64 0) ∧ ∃ b', Tab w' t b' f n ∧ B ≤ b' ∧ Below B w0 w' := by
  obtain ⟨he, b', h1, h2, h3⟩ := h
  exact ⟨he, b', h1, by rcases h2 with rfl | h2 <;> omega, Mut.to_below hb h3 ht hB hz⟩

theorem awake_any (w : World) : Calls Try.prog 18 #[] w fun e w' => e = .returned (.bool true) ∧ Below w.heap.size w w' := by
  go_enter Try.func18, Try.ntmps18
  go_wp2_with fail
  refine (new_tab _).mono ?_
  rintro e w1 ⟨t, b, rfl, h1, hb1, ht, hb⟩
  have s1 := hb1.size
  go_wp2_with fail
  refine (put_new h1 ⟨1, 2, 3⟩ 7 rfl (by omega)).mono ?_
  rintro e w2 hp
  obtain ⟨rfl, b2, h2, hB2, hb2⟩ := hp.below hb1 ht hb s1
  clear hp
  go_wp2_with fail
  refine (get_some h2 ⟨1, 2, 3⟩ 7 (by simp [fset])).mono ?_
  rintro e w3 ⟨rfl, hb3⟩
  have h3 := h2.keep hb3
  go_wp2_with fail
  refine (get_none h3 ⟨3, 2, 1⟩ (by simp [fset])).mono ?_
  rintro e w4 ⟨rfl, hb4⟩
  have h4 := h3.keep hb4
  go_wp2_with fail
  refine (len_any h4).mono ?_
  rintro e w5 ⟨rfl, rfl⟩
  go_wp2_with fail
  go_ret
  exact ⟨rfl, (hb2.trans (hb3.mono hb2.size)).trans (hb4.mono ((hb2.trans (hb3.mono hb2.size)).size))⟩
theorem and_some (x : Int) (m : Nat) (h : m < 9223372036854775808) : ∃ a : Nat, a ≤ m ∧ bits BinOp.and IntKind.i64 x (m : Int) = (a : Int) := by
  refine ⟨(BitVec.ofInt 64 x).toNat &&& m, Nat.and_le_right, ?_⟩
  have hx := Nat.and_le_right (n := (BitVec.ofInt 64 x).toNat) (m := m)
  show IntKind.i64.wrap ((BitVec.ofInt 64 x &&& BitVec.ofInt 64 (m : Int)).toNat : Int) = _
  rw [BitVec.toNat_and, ofInt_i64 m h, IntKind.wrap_i64]
  omega

end Go.Proofs.Ytldgdlndacocdaa
