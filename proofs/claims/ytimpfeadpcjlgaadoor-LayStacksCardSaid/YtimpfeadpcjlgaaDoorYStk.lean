/- Layer 7's laws: LayStacks, the plain part: domains of one width, stacked and woven. -/
import Derived.Test.YtimpfeadpcjlgaaDoorYAwake
namespace Go.Proofs.YtimpfeadpcjlgaaDoor
open Go.ChangeShapes Go.WideShapes Go.ChangeAt Go.RowKit Go.Maps

def nmS (i : Nat) : ByteArray := ⟨#[100, UInt8.ofNat (97 + i)]⟩
def nms (n : Nat) : List ByteArray := (List.range n).map nmS
def dS (n w : Nat) : Doms := (List.range n).map fun i => (nmS i, ((2 ^ w : Nat) : Int))
def jn (n : Nat) (c : UInt8) : ByteArray := ofBytes ([c].intercalate ((nms n).map bytesOf))
theorem names_dS (n w : Nat) : names (dS n w) = nms n := by unfold names dS nms; rw [List.map_map]; rfl
theorem len_dS (n w : Nat) : (dS n w).length = n := by simp [dS]
theorem join_dS (n w : Nat) (c : UInt8) : joinD (dS n w) c = jn n c := by unfold joinD jn; rw [names_dS]
theorem nmS_named : ∀ i < 16, namedB (nmS i) = true := by decide +kernel
theorem nmS_inj : ∀ i < 16, ∀ j < 16, nmS i = nmS j → i = j := by decide +kernel
theorem sum_dS : ∀ n < 17, ∀ w < 17, sumW (dS n w) = n * w := by decide +kernel
theorem widL_dS : ∀ n < 17, ∀ w < 17, widL (dS n w) = List.replicate n w := by decide +kernel
theorem pow16 {w : Nat} (h : w ≤ 16) : 1 ≤ 2 ^ w ∧ 2 ^ w ≤ 65536 := by
  have h1 := Nat.pow_le_pow_right (n := 2) (by omega) h
  have h2 := Nat.pow_le_pow_right (n := 2) (by omega) (Nat.zero_le w)
  simp at h1 h2
  omega
theorem dS_get {n w i : Nat} (h : i < n) : (dS n w)[i]? = some (nmS i, ((2 ^ w : Nat) : Int)) := by
  unfold dS
  rw [List.getElem?_map, List.getElem?_range h]; rfl
theorem nms_nodup {n : Nat} (h : n ≤ 16) : (nms n).Nodup := by
  unfold nms
  refine List.pairwise_map.2 ((List.nodup_range).imp_of_mem ?_)
  intro i j hi hj hne e
  have := List.mem_range.1 hi
  have := List.mem_range.1 hj
  exact hne (nmS_inj i (by omega) j (by omega) e)
theorem chk_dS {n w : Nat} (hn : n ≤ 16) (hw : w ≤ 16) : Chk (dS n w) := by
  refine ⟨by rw [len_dS]; omega, fun d hd => ?_, by rw [names_dS]; exact nms_nodup hn, ?_⟩
  · unfold dS at hd
    obtain ⟨i, hi, rfl⟩ := List.mem_map.1 hd
    have := List.mem_range.1 hi
    obtain ⟨p1, p2⟩ := pow16 hw
    exact ⟨nmS_named i (by omega), by show (1 : Int) ≤ ((2 ^ w : Nat) : Int); omega, by show ((2 ^ w : Nat) : Int) ≤ 1073741824; omega⟩
  · rw [sum_dS n (by omega) w (by omega)]
    have := Nat.mul_le_mul hn hw
    omega

def Fc (n : Nat) : ByteArray → Option Nat := fun s => (List.range n).find? fun i => decide (nmS i = s)
theorem plf_eq {n w : Nat} (hn : n ≤ 16) {F : ByteArray → Option Nat} {k : Nat} (h : PlF (dS n w) F k) : F = Fc n := by
  funext s
  by_cases hs : s ∈ nms n
  · obtain ⟨i, hi, rfl⟩ := List.mem_map.1 hs
    have hi' := List.mem_range.1 hi
    rw [h.at_ (by rw [names_dS]; exact nms_nodup hn) i _ (dS_get hi')]
    refine (List.find?_range_eq_some.2 ⟨by simp, by simpa using hi', fun j hj => ?_⟩).symm
    have : ¬ nmS j = nmS i := fun e => by have := nmS_inj j (by omega) i (by omega) e; omega
    simp [this]
  · have h1 : F s = none := by
      cases hF : F s with
      | none => rfl
      | some x => exact absurd ((h.has s).1 (by rw [hF]; rfl)) (by rw [names_dS]; exact hs)
    rw [h1]
    refine (List.find?_eq_none.2 fun i hi => ?_).symm
    have : ¬ nmS i = s := fun e => hs (List.mem_map.2 ⟨i, hi, e⟩)
    simp [this]

def grS (n : Nat) : List (List Nat) := (List.range n).map fun i => [i]
theorem groups_stk : ∀ n < 17, 0 < n → (groupsN (Fc n) (textsOf (jn n 95))).map (·.1) = some (grS n) := by decide +kernel
theorem groups_wov : ∀ n < 17, 0 < n → (groupsN (Fc n) (textsOf (jn n 42))).map (·.1) = some [List.range n] := by decide +kernel
theorem lens_stk : ∀ n < 17, lens (grS n) = n := by decide +kernel
theorem lens_wov (n : Nat) : lens [List.range n] = n := by simp [lens]
theorem seq_stk : ∀ n < 17, ∀ w < 17, seqAll (List.replicate n w) (grS n) = (List.range (n * w)).map fun p => (p / w, w - 1 - p % w) := by decide +kernel
theorem seq_wov : ∀ n < 17, ∀ w < 17, seqAll (List.replicate n w) [List.range n] = (List.range (n * w)).map fun p => (p % n, w - 1 - p / n) := by decide +kernel

theorem place_lt {n w i t : Nat} (hi : i < n) (ht : t < w) : i * w + t < n * w := by
  have := Nat.mul_le_mul_right w (show i + 1 ≤ n by omega)
  rw [Nat.add_mul] at this
  omega

/-- What a place's row says. -/
def RowsAre (n w : Nat) (f : Nat → Nat → Nat) (R : List (List Nat)) : Prop := R.length = n ∧ ∀ i, i < n → ∃ r, R[i]? = some r ∧ r.length = w ∧ ∀ j, j < w → r[j]? = some (f i j)
theorem rows_of {n w : Nat} {f : Nat → Nat → Nat} {R : List (List Nat)} {P : List (Nat × Nat)} (hl : R.map List.length = List.replicate n w) (hf : Filled R P) (hp : ∀ i, i < n → ∀ j, j < w → P[f i j]? = some (i, j)) : RowsAre n w f R := by
  have hn : R.length = n := by have := congrArg List.length hl; simpa using this
  refine ⟨hn, fun i hi => ?_⟩
  refine ⟨R[i]'(by omega), List.getElem?_eq_getElem (by omega), ?_, fun j hj => ?_⟩
  · have := congrArg (fun l => l[i]?) hl
    simp only [List.getElem?_map] at this
    rw [List.getElem?_eq_getElem (by omega : i < R.length)] at this
    rw [List.getElem?_replicate, if_pos hi] at this
    simpa using this
  · obtain ⟨r, h1, h2⟩ := hf _ i j (hp i hi j hj)
    rw [List.getElem?_eq_getElem (by omega)] at h1
    injection h1 with h1
    rw [h1]; exact h2

def fS (w i j : Nat) : Nat := i * w + (w - 1 - j)
def fW (n w i j : Nat) : Nat := (w - 1 - j) * n + i

theorem stk_at {n w : Nat} (hn : n ≤ 16) (hw : w ≤ 16) (i : Nat) (hi : i < n) (j : Nat) (hj : j < w) : (seqAll (List.replicate n w) (grS n))[fS w i j]? = some (i, j) := by
  rw [seq_stk n (by omega) w (by omega), List.getElem?_map]
  unfold fS
  rw [List.getElem?_range (place_lt hi (by omega))]
  show some ((i * w + (w - 1 - j)) / w, w - 1 - (i * w + (w - 1 - j)) % w) = some (i, j)
  have e1 : (i * w + (w - 1 - j)) / w = i := by
    rw [Nat.add_comm, Nat.mul_comm, Nat.add_mul_div_left _ _ (by omega), Nat.div_eq_of_lt (by omega)]; omega
  have e2 : (i * w + (w - 1 - j)) % w = w - 1 - j := by
    rw [Nat.add_comm, Nat.mul_comm, Nat.add_mul_mod_self_left, Nat.mod_eq_of_lt (by omega)]
  rw [e1, e2, show w - 1 - (w - 1 - j) = j by omega]
theorem wov_at {n w : Nat} (hn : n ≤ 16) (hw : w ≤ 16) (i : Nat) (hi : i < n) (j : Nat) (hj : j < w) : (seqAll (List.replicate n w) [List.range n])[fW n w i j]? = some (i, j) := by
  rw [seq_wov n (by omega) w (by omega), List.getElem?_map]
  unfold fW
  have hlt := place_lt (n := w) (w := n) (i := w - 1 - j) (t := i) (by omega) hi
  rw [Nat.mul_comm w n] at hlt
  rw [List.getElem?_range hlt]
  show some (((w - 1 - j) * n + i) % n, w - 1 - ((w - 1 - j) * n + i) / n) = some (i, j)
  have e1 : ((w - 1 - j) * n + i) / n = w - 1 - j := by
    rw [Nat.add_comm, Nat.mul_comm, Nat.add_mul_div_left _ _ (by omega), Nat.div_eq_of_lt (by omega)]; omega
  have e2 : ((w - 1 - j) * n + i) % n = i := by
    rw [Nat.add_comm, Nat.mul_comm, Nat.add_mul_mod_self_left, Nat.mod_eq_of_lt (by omega)]
  rw [e1, e2, show w - 1 - (w - 1 - j) = j by omega]

/-- What Place answers of these domains, by an order whose groups are known. -/
def StOut (n w : Nat) (f : Nat → Nat → Nat) (w0 : World) (e : Ending) (w' : World) : Prop :=
  Below w0.heap.size w0 w' ∧ ∃ (R : List (List Nat)) (b : Nat) (bl : List Nat), e = .returned (.tuple #[.slice (some ⟨b, 0, none⟩) n n, .int .i64 0]) ∧ VR w' b bl R ∧ RowsAre n w f R

theorem st_out {n w : Nat} (hn : n ≤ 16) (hw : w ≤ 16) {o : ByteArray} {gs : List (List Nat)} {f : Nat → Nat → Nat} (hg : (groupsN (Fc n) (textsOf o)).map (·.1) = some gs) (hl : lens gs = n)
    (hp : ∀ i, i < n → ∀ j, j < w → (seqAll (List.replicate n w) gs)[f i j]? = some (i, j)) {w0 w' : World} {e : Ending} (h : PlaceOut (dS n w) o w0 e w') : StOut n w f w0 e w' := by
  obtain ⟨hb, h⟩ := h
  obtain ⟨⟨gs', F'⟩, hg1, hg2⟩ := Option.map_eq_some_iff.1 hg
  have hg2 : gs' = gs := hg2
  subst hg2
  refine ⟨hb, ?_⟩
  rcases h with ⟨h, -⟩ | ⟨-, h⟩
  · exact absurd (chk_dS hn hw) h
  · rcases h with ⟨F, gs2, F2, R, b, bl, hF, h1, -, rfl, hv, hL, hf⟩ | ⟨-, F, hF, h⟩
    · obtain rfl := plf_eq hn hF
      rw [hg1] at h1
      injection h1 with h1
      injection h1 with h1 h3
      subst h1
      rw [widL_dS n (by omega) w (by omega)] at hL hf
      exact ⟨R, b, bl, by rw [len_dS], hv, rows_of hL hf hp⟩
    · obtain rfl := plf_eq hn hF
      exfalso
      rcases h with h | ⟨gs2, F2, h, hne⟩
      · rw [hg1] at h; cases h
      · rw [hg1] at h
        injection h with h
        injection h with h h3
        subst h
        rw [len_dS] at hne
        exact hne hl
end Go.Proofs.YtimpfeadpcjlgaaDoor
