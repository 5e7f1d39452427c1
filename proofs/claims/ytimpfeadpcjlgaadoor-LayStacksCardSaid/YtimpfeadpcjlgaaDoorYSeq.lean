/- Layer 7 (lay): an order's groups take each place once; their bits stand each once. Plain: no walk. -/
import Derived.Test.YtimpfeadpcjlgaaDoorYGive
namespace Go.Proofs.YtimpfeadpcjlgaaDoor

def Rng (F : ByteArray → Option Nat) (k : Nat) : Prop := ∃ s, F s = some k
def Inj (F : ByteArray → Option Nat) : Prop := ∀ s t k, F s = some k → F t = some k → s = t

theorem takeN_inv : ∀ (p : List ByteArray) (F F' : ByteArray → Option Nat) (g : List Nat), Inj F → takeN F p = some (g, F') → g.Nodup ∧ (∀ k ∈ g, Rng F k ∧ ¬ Rng F' k) ∧ (∀ s k, F' s = some k → F s = some k)
  | [], F, F', g, _, h => by
    simp only [takeN, Option.some.injEq, Prod.mk.injEq] at h
    obtain ⟨rfl, rfl⟩ := h
    exact ⟨List.nodup_nil, (fun k hk => by cases hk), fun _ _ h => h⟩
  | s :: r, F, F', g, hi, h => by
    simp only [takeN] at h
    cases hF : F s with
    | none => rw [hF] at h; cases h
    | some k =>
      rw [hF] at h
      simp only at h
      cases hr : takeN (putF F s none) r with
      | none => rw [hr] at h; cases h
      | some z =>
        obtain ⟨g2, F2⟩ := z
        rw [hr] at h
        simp only [Option.some.injEq, Prod.mk.injEq] at h
        obtain ⟨rfl, rfl⟩ := h
        have sub : ∀ t j, putF F s none t = some j → t ≠ s ∧ F t = some j := fun t j ht => by
          unfold putF at ht
          by_cases e : t = s
          · rw [if_pos e] at ht; cases ht
          · rw [if_neg e] at ht; exact ⟨e, ht⟩
        have hi2 : Inj (putF F s none) := fun a b j ha hb => hi a b j (sub a j ha).2 (sub b j hb).2
        obtain ⟨h1, h2, h3⟩ := takeN_inv r _ _ _ hi2 hr
        refine ⟨List.nodup_cons.2 ⟨fun hk => ?_, h1⟩, fun j hj => ?_, fun t j ht => (sub t j (h3 t j ht)).2⟩
        · obtain ⟨⟨t, ht⟩, _⟩ := h2 k hk
          exact (sub t k ht).1 (hi t s k (sub t k ht).2 hF)
        · rcases List.mem_cons.1 hj with rfl | hj
          · refine ⟨⟨s, hF⟩, fun ⟨t, ht⟩ => ?_⟩
            have := h3 t j ht
            exact (sub t j this).1 (hi t s j (sub t j this).2 hF)
          · obtain ⟨⟨t, ht⟩, h5⟩ := h2 j hj
            exact ⟨⟨t, (sub t j ht).2⟩, h5⟩

theorem groupsN_inv : ∀ (p : List ByteArray) (F F' : ByteArray → Option Nat) (gs : List (List Nat)), Inj F → groupsN F p = some (gs, F') → gs.flatten.Nodup ∧ (∀ k ∈ gs.flatten, Rng F k)
  | [], F, F', gs, _, h => by
    simp only [groupsN, Option.some.injEq, Prod.mk.injEq] at h
    obtain ⟨rfl, rfl⟩ := h
    exact ⟨by simp, fun k hk => by simp at hk⟩
  | t :: ts, F, F', gs, hi, h => by
    simp only [groupsN] at h
    cases ht : takeN F (splitS 42 t) with
    | none => rw [ht] at h; cases h
    | some z =>
      obtain ⟨g, F1⟩ := z
      rw [ht] at h
      simp only at h
      cases hr : groupsN F1 ts with
      | none => rw [hr] at h; cases h
      | some y =>
        obtain ⟨l, F2⟩ := y
        rw [hr] at h
        simp only [Option.some.injEq, Prod.mk.injEq] at h
        obtain ⟨rfl, rfl⟩ := h
        obtain ⟨h1, h2, h3⟩ := takeN_inv _ _ _ _ hi ht
        obtain ⟨h4, h5⟩ := groupsN_inv ts _ _ _ (fun a b j ha hb => hi a b j (h3 a j ha) (h3 b j hb)) hr
        rw [List.flatten_cons]
        refine ⟨List.nodup_append.2 ⟨h1, h4, fun a ha b hb e => ?_⟩, fun k hk => ?_⟩
        · subst e
          exact (h2 a ha).2 (h5 a hb)
        · rcases List.mem_append.1 hk with hk | hk
          · exact (h2 k hk).1
          · obtain ⟨s, hs⟩ := h5 k hk
            exact ⟨s, h3 s k hs⟩

theorem PlF.name {l : Doms} {F : ByteArray → Option Nat} {n : Nat} (h : PlF l F n) (hn : (names l).Nodup) {s : ByteArray} {k : Nat} (hs : F s = some k) : ∃ z, l[k]? = some (s, z) := by
  have hm := (h.has s).1 (by rw [hs]; rfl)
  obtain ⟨d, hd, rfl⟩ := List.mem_map.1 hm
  obtain ⟨i, hi⟩ := List.getElem?_of_mem hd
  have := h.at_ hn i d hi
  rw [hs] at this
  injection this with this
  subst this
  exact ⟨d.2, hi⟩
theorem PlF.inj {l : Doms} {F : ByteArray → Option Nat} {n : Nat} (h : PlF l F n) (hn : (names l).Nodup) : Inj F := fun s t k hs ht => by
  obtain ⟨z, hz⟩ := h.name hn hs
  obtain ⟨y, hy⟩ := h.name hn ht
  rw [hz] at hy
  injection hy with hy
  injection hy
theorem PlF.lt {l : Doms} {F : ByteArray → Option Nat} {n : Nat} (h : PlF l F n) (hn : (names l).Nodup) {k : Nat} (hk : Rng F k) : k < l.length := by
  obtain ⟨s, hs⟩ := hk
  obtain ⟨z, hz⟩ := h.name hn hs
  exact (List.getElem?_eq_some_iff.1 hz).1

/-! ### the bits -/
theorem bitT_some {wl : List Nat} {t i : Nat} {p : Nat × Nat} (h : bitT wl t i = some p) : p.1 = i ∧ t < wl.getD i 0 ∧ p.2 + 1 + t = wl.getD i 0 := by
  unfold bitT at h
  split at h
  · injection h with h; subst h; exact ⟨rfl, by assumption, by simp only; omega⟩
  · cases h
theorem mem_seqT {wl g : List Nat} {t : Nat} {p : Nat × Nat} : p ∈ seqT wl g t ↔ p.1 ∈ g ∧ t < wl.getD p.1 0 ∧ p.2 + 1 + t = wl.getD p.1 0 := by
  unfold seqT
  rw [List.mem_filterMap]
  constructor
  · rintro ⟨i, hi, h⟩
    obtain ⟨h1, h2, h3⟩ := bitT_some h
    subst h1
    exact ⟨hi, h2, h3⟩
  · rintro ⟨h1, h2, h3⟩
    refine ⟨p.1, h1, ?_⟩
    unfold bitT
    rw [if_pos h2]
    congr 1
    exact Prod.ext rfl (by simp only; omega)
theorem mem_seqTo {wl g : List Nat} {k : Nat} {p : Nat × Nat} : p ∈ seqTo wl g k ↔ ∃ t, t < k ∧ p ∈ seqT wl g t := by
  unfold seqTo
  rw [List.mem_flatMap]
  constructor
  · rintro ⟨t, h1, h2⟩; exact ⟨t, List.mem_range.1 h1, h2⟩
  · rintro ⟨t, h1, h2⟩; exact ⟨t, List.mem_range.2 h1, h2⟩
theorem seqT_nodup {wl : List Nat} {t : Nat} : ∀ {g : List Nat}, g.Nodup → (seqT wl g t).Nodup
  | [], _ => by simp [seqT]
  | i :: r, h => by
    obtain ⟨h1, h2⟩ := List.nodup_cons.1 h
    have ih := seqT_nodup (wl := wl) (t := t) h2
    show (List.filterMap (bitT wl t) (i :: r)).Nodup
    cases hb : bitT wl t i with
    | none => rw [List.filterMap_cons_none hb]; exact ih
    | some p =>
      rw [List.filterMap_cons_some hb]
      refine List.nodup_cons.2 ⟨fun hp => ?_, ih⟩
      have h3 := (mem_seqT.1 (show p ∈ seqT wl r t from hp)).1
      rw [(bitT_some hb).1] at h3
      exact h1 h3
theorem seqTo_nodup {wl g : List Nat} (h : g.Nodup) : ∀ k, (seqTo wl g k).Nodup
  | 0 => by simp [seqTo]
  | k + 1 => by
    rw [seqTo_succ]
    refine List.nodup_append.2 ⟨seqTo_nodup h k, seqT_nodup h, fun a ha b hb e => ?_⟩
    subst e
    obtain ⟨t, ht, h1⟩ := mem_seqTo.1 ha
    obtain ⟨_, _, h2⟩ := mem_seqT.1 h1
    obtain ⟨_, _, h3⟩ := mem_seqT.1 hb
    omega
def seqAll (wl : List Nat) (gs : List (List Nat)) : List (Nat × Nat) := gs.flatMap (seqG wl)
theorem seqAll_snoc (wl : List Nat) (gs : List (List Nat)) (g : List Nat) : seqAll wl (gs ++ [g]) = seqAll wl gs ++ seqG wl g := by unfold seqAll; simp
theorem mem_seqG {wl g : List Nat} {p : Nat × Nat} (h : p ∈ seqG wl g) : p.1 ∈ g ∧ p.2 < wl.getD p.1 0 := by
  obtain ⟨t, _, h1⟩ := mem_seqTo.1 h
  obtain ⟨h2, _, h3⟩ := mem_seqT.1 h1
  exact ⟨h2, by omega⟩
theorem seqAll_nodup {wl : List Nat} : ∀ {gs : List (List Nat)}, gs.flatten.Nodup → (seqAll wl gs).Nodup
  | [], _ => by simp [seqAll]
  | g :: gs, h => by
    rw [List.flatten_cons] at h
    obtain ⟨h1, h2, h3⟩ := List.nodup_append.1 h
    show (seqG wl g ++ seqAll wl gs).Nodup
    refine List.nodup_append.2 ⟨seqTo_nodup h1 _, seqAll_nodup h2, fun a ha b hb e => ?_⟩
    subst e
    unfold seqAll at hb
    obtain ⟨g2, hg2, hb⟩ := List.mem_flatMap.1 hb
    exact h3 a.1 (mem_seqG ha).1 a.1 (List.mem_flatten.2 ⟨g2, hg2, (mem_seqG hb).1⟩) rfl
theorem seqT_len (wl g : List Nat) (t : Nat) : (seqT wl g t).length ≤ g.length := by unfold seqT; exact List.length_filterMap_le _ _
theorem seqTo_len (wl g : List Nat) : ∀ k, (seqTo wl g k).length ≤ k * g.length
  | 0 => by simp [seqTo]
  | k + 1 => by
    rw [seqTo_succ, List.length_append, Nat.add_mul, Nat.one_mul]
    have := seqTo_len wl g k
    have := seqT_len wl g k
    omega
theorem seqG_len {wl g : List Nat} (h : ∀ x ∈ wl, x ≤ 30) : (seqG wl g).length ≤ 30 * g.length := by
  have h1 := seqTo_len wl g (maxW wl g)
  have h2 := Nat.mul_le_mul_right g.length (maxW_le h g)
  exact Nat.le_trans h1 h2
theorem seqAll_len {wl : List Nat} (h : ∀ x ∈ wl, x ≤ 30) : ∀ gs, (seqAll wl gs).length ≤ 30 * lens gs
  | [] => by simp [seqAll, lens]
  | g :: gs => by
    have h1 := seqG_len (g := g) h
    have h2 := seqAll_len h gs
    show (seqG wl g ++ seqAll wl gs).length ≤ 30 * (g.length + lens gs)
    rw [List.length_append]
    omega
end Go.Proofs.YtimpfeadpcjlgaaDoor
