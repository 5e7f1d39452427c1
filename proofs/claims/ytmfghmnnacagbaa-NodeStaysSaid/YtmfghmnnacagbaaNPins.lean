/- Layer 3's laws: what a pin keeps, plainly. -/
import Derived.Test.YtmfghmnnacagbaaNBits
namespace Go.Proofs.Ytmfghmnnacagbaa

def NoPins (cs : List Nd) : Prop := ∀ i c, Is cs i c → c.pins = 0
/-- Node k has p pins, all others none. -/
def OnePin (cs : List Nd) (k p : Nat) : Prop := ∀ i c, Is cs i c → c.pins = if i = k then p else 0

theorem first_nopins (V : Nat) : NoPins [⟨V, 0, 0, 0⟩, ⟨V, 1, 1, 0⟩] := by
  intro i c h
  have hl := h.lt
  have : i = 0 ∨ i = 1 := by simp at hl; omega
  rcases this with rfl | rfl
  · have := h.1; simp at this; rw [← this]
  · have := h.1; simp at this; rw [← this]

theorem NoPins.fresh {cs cs' : List Nd} (h : NoPins cs) (f : Fresh cs cs') : NoPins cs' := fun i c hc => (f i c hc).elim (h i c) id
theorem OnePin.fresh {cs cs' : List Nd} {k p : Nat} {ck : Nd} (h : OnePin cs k p) (hk : Is cs k ck) (f : Fresh cs cs') (x : Ext cs cs') : OnePin cs' k p := by
  intro i c hc
  rcases f i c hc with h1 | h1
  · exact h i c h1
  · by_cases e : i = k
    · subst e
      have := (x i ck hk).same hc
      rw [← this]
      exact h i ck hk
    · rw [if_neg e]; exact h1

theorem NoPins.pin {cs : List Nd} (h : NoPins cs) {k : Nat} {c : Nd} (hk : Is cs k c) (p : Nat) : OnePin (cs.set k ⟨c.asks, c.low, c.high, p⟩) k p := by
  intro i d hd
  have h1 := hd.1
  rw [nget_set cs k i _ hk.lt] at h1
  by_cases e : k = i
  · rw [if_pos e] at h1; injection h1 with h1; subst h1; rw [if_pos e.symm]
  · rw [if_neg e] at h1; rw [if_neg (fun h => e h.symm)]; exact h i d ⟨h1, hd.2⟩

theorem OnePin.unpin {cs : List Nd} {k p : Nat} (h : OnePin cs k p) {c : Nd} (hk : Is cs k c) : NoPins (cs.set k ⟨c.asks, c.low, c.high, 0⟩) := by
  intro i d hd
  have h1 := hd.1
  rw [nget_set cs k i _ hk.lt] at h1
  by_cases e : k = i
  · rw [if_pos e] at h1; injection h1 with h1; subst h1; rfl
  · rw [if_neg e] at h1
    have := h i d ⟨h1, hd.2⟩
    rwa [if_neg (fun h => e h.symm)] at this

theorem reach_low2 {cs : List Nd} {i x : Nat} (hi : i < 2) (h : Reach cs i x) : x = i := by
  cases h with
  | here => rfl
  | low h => omega
  | high h => omega

theorem nopins_mem {V n : Nat} {cs : List Nd} (g : NGood V cs) (h : NoPins cs) (hn : 2 ≤ n) (x : Nat) : x ∈ roots V cs n ↔ x < 2 := by
  rw [(roots_spec g n).mem]
  constructor
  · rintro ⟨i, _, hr, hx⟩
    have hi : i < 2 := by
      rcases hr with h1 | ⟨c, hc, hp⟩
      · exact h1
      · have hne : c.asks ≠ -1 := fun e => by
          have := g.gone i c hc e
          rw [this] at hp; exact absurd hp (by simp [Nd.gone])
        have := h i c ⟨hc, hne⟩
        omega
    rw [reach_low2 hi hx]; exact hi
  · intro h
    exact ⟨x, by omega, .inl h, .here _⟩

theorem nopins_cnt {V : Nat} {cs : List Nd} (g : NGood V cs) (h : NoPins cs) : cnt (swept (roots V cs cs.length) cs) = 2 := by
  have hm := nopins_mem g h g.len
  rw [cnt_eq (m := [0, 1]) (by simp)]
  · rfl
  · intro k
    constructor
    · intro hk
      have hk2 : k < 2 := by simp at hk; omega
      have hin := (hm k).2 hk2
      obtain ⟨c, hc⟩ := (roots_spec g cs.length).nodes k hin
      exact ⟨c, swept_is.2 ⟨hc, hin⟩⟩
    · rintro ⟨c, hc⟩
      have := (hm k).1 (swept_is.1 hc).2
      simp; omega

/-- A node that asks something is of both 0 and 1. -/
theorem reach_both {V : Nat} {cs : List Nd} (g : NGood V cs) : ∀ k c, Is cs k c → 2 ≤ k → Reach cs k 0 ∧ Reach cs k 1 := by
  refine g.ind (P := fun k => 2 ≤ k → Reach cs k 0 ∧ Reach cs k 1) (fun h => by omega) (fun h => by omega) ?_
  intro k c hk hc hl hh _
  have ho := (g.ok k c hk hc).2.2
  by_cases h1 : 2 ≤ c.low
  · exact ⟨.low hk hc (hl h1).1, .low hk hc (hl h1).2⟩
  · by_cases h2 : 2 ≤ c.high
    · exact ⟨.high hk hc (hh h2).1, .high hk hc (hh h2).2⟩
    · have a : (c.low = 0 ∧ c.high = 1) ∨ (c.low = 1 ∧ c.high = 0) := by omega
      rcases a with ⟨a, b⟩ | ⟨a, b⟩
      · exact ⟨.low hk hc (a ▸ .here _), .high hk hc (b ▸ .here _)⟩
      · exact ⟨.high hk hc (b ▸ .here _), .low hk hc (a ▸ .here _)⟩

theorem onepin_mem {V k p : Nat} {cs : List Nd} (g : NGood V cs) (h : OnePin cs k p) (hp : 0 < p) {c : Nd} (hk : Is cs k c) (x : Nat) : x ∈ roots V cs cs.length ↔ x < 2 ∨ Reach cs k x := by
  rw [(roots_spec g cs.length).mem]
  have hl := g.len
  constructor
  · rintro ⟨i, _, hr, hx⟩
    rcases hr with h1 | ⟨c, hc, hp⟩
    · rw [reach_low2 h1 hx]; exact .inl h1
    · have hne : c.asks ≠ -1 := fun e => by
        have := g.gone i c hc e
        rw [this] at hp; exact absurd hp (by simp [Nd.gone])
      have := h i c ⟨hc, hne⟩
      by_cases e : i = k
      · subst e; exact .inr hx
      · rw [if_neg e] at this; omega
  · rintro (h1 | h1)
    · exact ⟨x, by omega, .inl h1, .here _⟩
    · refine ⟨k, hk.lt, .inr ⟨c, hk.1, ?_⟩, h1⟩
      have := h k c hk
      rw [if_pos rfl] at this; omega

/-- How many stay: as many as the pinned node is of, or 0 and 1 alone. -/
theorem onepin_cnt {V k p : Nat} {cs : List Nd} (g : NGood V cs) (h : OnePin cs k p) (hp : 0 < p) {c : Nd} (hk : Is cs k c) :
    (k < 2 ∧ (allOf V cs k).length = 1 ∧ cnt (swept (roots V cs cs.length) cs) = 2) ∨ (3 ≤ (allOf V cs k).length ∧ cnt (swept (roots V cs cs.length) cs) = (allOf V cs k).length) := by
  have hm := onepin_mem g h hp hk
  have A := allOf_spec g hk
  have nA := A.nodup List.nodup_nil
  have mA : ∀ x, x ∈ allOf V cs k ↔ Reach cs k x := fun x => by rw [A.mem]; simp
  have R := roots_spec g cs.length
  have e : ∀ x, x ∈ roots V cs cs.length ↔ ∃ d, Is (swept (roots V cs cs.length) cs) x d := by
    intro x
    constructor
    · intro hx; obtain ⟨d, hd⟩ := R.nodes x hx; exact ⟨d, swept_is.2 ⟨hd, hx⟩⟩
    · rintro ⟨d, hd⟩; exact (swept_is.1 hd).2
  rw [cnt_eq R.nodup e]
  by_cases hk2 : k < 2
  · left
    refine ⟨hk2, ?_, ?_⟩
    · have := same_length nA (l' := [k]) (by simp) fun x => by
        rw [mA]; simp
        exact ⟨fun hx => reach_low2 hk2 hx, fun e => e ▸ .here _⟩
      simpa using this
    · have := same_length R.nodup (l' := [0, 1]) (by simp) fun x => by
        rw [hm]; simp
        constructor
        · rintro (h1 | h1)
          · omega
          · rw [reach_low2 hk2 h1]; omega
        · intro h1; left; omega
      simpa using this
  · right
    obtain ⟨r0, r1⟩ := reach_both g k c hk (by omega)
    have e2 : (roots V cs cs.length).length = (allOf V cs k).length := same_length R.nodup nA fun x => by
      rw [hm, mA]
      constructor
      · rintro (h1 | h1)
        · have : x = 0 ∨ x = 1 := by omega
          rcases this with rfl | rfl
          · exact r0
          · exact r1
        · exact h1
      · exact .inr
    refine ⟨?_, e2⟩
    have := sub_length [0, 1, k] (allOf V cs k) (by simp; omega) (by
      intro x hx
      rw [mA]
      simp at hx
      rcases hx with rfl | rfl | rfl
      · exact r0
      · exact r1
      · exact .here _)
    simpa using this

/-- The pinned node stays, and says what it said. -/
theorem onepin_stays {V k p : Nat} {cs : List Nd} (g : NGood V cs) (h : OnePin cs k p) (hp : 0 < p) {c : Nd} (hk : Is cs k c) :
    Is (swept (roots V cs cs.length) cs) k c ∧ OnePin (swept (roots V cs cs.length) cs) k p ∧ ∀ val, Says V (swept (roots V cs cs.length) cs) val k = Says V cs val k := by
  have R := roots_spec g cs.length
  have hin : k ∈ roots V cs cs.length := (onepin_mem g h hp hk k).2 (.inr (.here _))
  refine ⟨swept_is.2 ⟨hk, hin⟩, fun i d hd => h i d (swept_is.1 hd).1, fun val => ?_⟩
  exact Says_keep g (g.swept R) (M := fun x => x ∈ roots V cs cs.length) (fun x d hx hd => ⟨d.pins, swept_is.2 ⟨hd, hx⟩⟩) (fun x d hx h2 hd => R.closed x d hx h2 hd) val k c hk hin
end Go.Proofs.Ytmfghmnnacagbaa
