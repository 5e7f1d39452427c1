/- Layer 7 (lay): a map of places by names in memory. -/
import Derived.Test.YtimpfeadpcjlgaaDoorYTog
import Derived.StringKeys
namespace Go.Proofs.YtimpfeadpcjlgaaDoor
open Go.ChangeShapes Go.WideShapes Go.ChangeAt Go.RowKit Go.Maps

theorem lawStr : Keyed Tryd.prog 9 := string_keyed Tryd.underlying9
theorem keyStr {s : ByteArray} (hs : s.size ≤ 1048576) : keyOf Tryd.prog 9 (.string s) = some (.string s.data.toList) := Go.WideMaps.keyOf_string_mk Tryd.underlying9 (by unfold maxLen; omega)
theorem key_ne {s t : ByteArray} (h : s ≠ t) : (Lit.string s.data.toList) ≠ .string t.data.toList := fun e => h (by
  injection e with e
  cases s; cases t
  congr
  simpa using e)

/-- Block b is a map of n names that has of each what F says. -/
structure SMap (w : World) (b : Nat) (F : ByteArray → Option Nat) (n : Nat) (c : Nat) : Prop where
  own : ∃ D : DataW Unit, w.ownsMap Tryd.prog 9 (plainElem Tryd.prog 3) b c D ∧ (∀ s : ByteArray, Maps.has D (.string s.data.toList) = (F s).isSome) ∧ (∀ (s : ByteArray) (k : Nat), F s = some k → D.atKey (.string s.data.toList) (.lit (.int .i64 0)) = .lit (.int .i64 (k : Int))) ∧ Maps.size D = n

section
variable {w w' : World} {b n c : Nat} {F : ByteArray → Option Nat}
theorem SMap.lt_b (h : SMap w b F n c) : b < w.heap.size := by
  obtain ⟨D, h1, _⟩ := h.own; exact h1.lt
theorem SMap.of (h : SMap w b F n c) (e : w'.heap[b]? = w.heap[b]?) : SMap w' b F n c := by
  obtain ⟨D, ⟨es, clock, h1, h2⟩, h3⟩ := h.own
  exact ⟨⟨D, ⟨es, clock, e.trans h1, h2⟩, h3⟩⟩
theorem SMap.keep (h : SMap w b F n c) (hb : Below w.heap.size w w') : SMap w' b F n c := h.of (hb.block _ h.lt_b)
theorem SMap.made (w : World) : SMap (w.alloc (.map #[] 0)) w.heap.size (fun _ => none) 0 0 :=
  ⟨⟨.map [], World.ownsMap_made _ _ _ _, fun k => by simp [Maps.has], (fun s k hk => by cases hk), rfl⟩⟩
theorem SMap.not_row (h : SMap w b F n c) {g : Nat} {cs : Array Value} {t : TypeId} {fr : Nat × Nat} (hc : w.heap[g]? = some (.cells cs t fr)) : g ≠ b := by
  obtain ⟨D, ⟨es, clock, h1, h2⟩, h3⟩ := h.own
  rintro rfl
  rw [hc] at h1
  cases h1

theorem SMap.len (h : SMap w b F n c) : (Builtin.len_ #[44] 3 #[.map (some b)]).run Tryd.prog w = .ok (.int .i64 (n : Int)) w := by
  obtain ⟨D, h1, h2, h3, h4⟩ := h.own
  rw [← h4]
  exact h1.len Tryd.underlying44 _

theorem SMap.look (h : SMap w b F n c) {s : ByteArray} (hs : s.size ≤ 1048576) :
    (∃ k, F s = some k ∧ (Instr.lookup 44 (.map (some b)) (.string s) true).run Tryd.prog w = .ok (.tuple #[.int .i64 (k : Int), .bool true]) w) ∨
    (F s = none ∧ ∃ z : Int, (Instr.lookup 44 (.map (some b)) (.string s) true).run Tryd.prog w = .ok (.tuple #[.int .i64 z, .bool false]) w) := by
  obtain ⟨D, h1, h2, h3, _⟩ := h.own
  have hz : (zeroValue 3).run Tryd.prog w = .ok (.int .i64 0) w := by kernel_rfl
  obtain ⟨v, ps, hrun, hv⟩ := World.ownsMap.look_ok h1 lawStr Tryd.underlying44 hz (plainElem_int Tryd.underlying3 (a := 0) (by decide)) (keyStr hs)
  obtain ⟨x, rfl, hc, _⟩ := plainElem_int_inv Tryd.underlying3 hv
  have hc := congrArg Prod.fst hc
  rw [h2] at hrun
  cases hF : F s with
  | some k =>
    rw [hF] at hrun
    have hc : D.atKey (.string s.data.toList) (.lit (.int .i64 0)) = .lit (.int .i64 x) := hc
    rw [h3 s k hF] at hc
    injection hc with hc
    injection hc with _ hc
    subst hc
    exact .inl ⟨k, rfl, hrun⟩
  | none =>
    rw [hF] at hrun
    exact .inr ⟨rfl, x, hrun⟩

theorem SMap.pos (h : SMap w b F n c) {s : ByteArray} (hF : (F s).isSome = true) : 1 ≤ n := by
  obtain ⟨D, d1, d2, d3, d4⟩ := h.own
  have := size_del (D := D) (k := .string s.data.toList) (d1.tidy lawStr)
  rw [d2, hF, if_pos rfl] at this
  omega

def putF (F : ByteArray → Option Nat) (s : ByteArray) (k : Option Nat) : ByteArray → Option Nat := fun t => if t = s then k else F t

set_option maxRecDepth 100000 in
theorem SMap.put (h : SMap w b F n c) {s : ByteArray} (hs : s.size ≤ 1048576) {k : Nat} (hk : k ≤ 1000) (hc : c ≤ 1000) :
    ∃ w', (Instr.mapUpdate 44 (.map (some b)) (.string s) (.int .i64 (k : Int))).run Tryd.prog w = .ok () w' ∧ SMap w' b (putF F s (some k)) (if (F s).isSome then n else n + 1) (c + 1) ∧ w.grownBy w' (some b) := by
  obtain ⟨D, d1, d2, d3, d4⟩ := h.own
  obtain ⟨w', hrun, r1, r2⟩ := World.ownsMap.update d1 lawStr Tryd.underlying44 (by unfold maxLen; omega) (keyStr hs) (plainElem_int Tryd.underlying3 (a := (k : Int)) (WalkArith.wf_i64 (by omega)))
  have hi := d1.isMap
  have hy := d1.tidy lawStr
  refine ⟨w', hrun, ⟨⟨_, r1, fun t => ?_, fun t j hj => ?_, ?_⟩⟩, r2⟩
  · unfold putF
    by_cases e : t = s
    · subst e; rw [has_put_same hi (by simp [WideAt.IsKeyLit]), if_pos rfl]; rfl
    · rw [has_put_other (key_ne e), d2, if_neg e]
  · unfold putF at hj
    by_cases e : t = s
    · subst e
      rw [if_pos rfl] at hj
      injection hj with hj
      subst hj
      exact Maps.atKey_put_same hi (lawStr.key (keyStr hs)) _ _
    · rw [if_neg e] at hj
      exact (Maps.atKey_put_other (key_ne e) _ _).trans (d3 t j hj)
  · rw [size_put hy, d2, d4]

set_option maxRecDepth 100000 in
theorem SMap.cut (h : SMap w b F n c) {s : ByteArray} (hs : s.size ≤ 1048576) :
    ∃ w', (Builtin.delete_ #[44, 9] 0 #[.map (some b), .string s]).run Tryd.prog w = .ok (.tuple #[]) w' ∧ SMap w' b (putF F s none) (if (F s).isSome then n - 1 else n) c ∧ w.mapTurned w' b := by
  obtain ⟨D, d1, d2, d3, d4⟩ := h.own
  obtain ⟨w', hrun, r1, r2⟩ := World.ownsMap.drop d1 lawStr Tryd.underlying44 (keyStr hs) 0
  have hy := d1.tidy lawStr
  refine ⟨w', hrun, ⟨⟨_, r1, fun t => ?_, fun t j hj => ?_, ?_⟩⟩, r2⟩
  · unfold putF
    by_cases e : t = s
    · subst e; rw [has_del_same, if_pos rfl]; rfl
    · rw [has_del_other (key_ne e), d2, if_neg e]
  · unfold putF at hj
    by_cases e : t = s
    · rw [if_pos e] at hj; cases hj
    · rw [if_neg e] at hj
      exact (Maps.atKey_del_other (key_ne e) _).trans (d3 t j hj)
  · have := size_del (D := D) (k := .string s.data.toList) hy
    rw [d2, d4] at this
    split <;> simp_all <;> omega
end
end Go.Proofs.YtimpfeadpcjlgaaDoor
