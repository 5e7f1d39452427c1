/- Layer 3's laws: nodes that say the bits of a number. -/
import Derived.Test.YtfdebadmikmnaaaNTable
namespace Go.Proofs.Ytfdebadmikmnaaa
open Go.ChangeShapes Go.WideShapes Go.ChangeAt Go.RowKit

theorem tix_vals : ∀ n : Nat, n < 16 → tix (valOf (valsZ (n : Int))) 4 0 0 = n := by decide

theorem bits_same {a b : Int} (h : bitsL a 16 = bitsL b 16) : a % 65536 = b % 65536 := by
  have e : ∀ i : Nat, i < 16 → a / 2 ^ i % 2 = b / 2 ^ i % 2 := by
    intro i hi
    have h1 := bitsL_get a 16 i hi
    rw [h, bitsL_get b 16 i hi] at h1
    injection h1 with h1
    unfold bitZ at h1
    have h2 : (b / 2 ^ i % 2 = 1) ↔ (a / 2 ^ i % 2 = 1) := by
      constructor
      · intro h3; rw [h3] at h1; simpa using h1.symm
      · intro h3; rw [h3] at h1; simpa using h1
    have ra := Int.emod_two_eq (a / 2 ^ i)
    have rb := Int.emod_two_eq (b / 2 ^ i)
    omega
  have e0 := e 0 (by omega); have e1 := e 1 (by omega); have e2 := e 2 (by omega); have e3 := e 3 (by omega)
  have e4 := e 4 (by omega); have e5 := e 5 (by omega); have e6 := e 6 (by omega); have e7 := e 7 (by omega)
  have e8 := e 8 (by omega); have e9 := e 9 (by omega); have e10 := e 10 (by omega); have e11 := e 11 (by omega)
  have e12 := e 12 (by omega); have e13 := e 13 (by omega); have e14 := e 14 (by omega); have e15 := e 15 (by omega)
  clear e h
  have s1 : a % 2 = b % 2 := by simpa using e0
  have s2 : a % 4 = b % 4 := by clear e0 e2 e3 e4 e5 e6 e7 e8 e9 e10 e11 e12 e13 e14 e15; omega
  have s3 : a % 8 = b % 8 := by clear s1 e0 e1 e3 e4 e5 e6 e7 e8 e9 e10 e11 e12 e13 e14 e15; omega
  have s4 : a % 16 = b % 16 := by clear s1 s2 e0 e1 e2 e4 e5 e6 e7 e8 e9 e10 e11 e12 e13 e14 e15; omega
  have s5 : a % 32 = b % 32 := by clear s1 s2 s3 e0 e1 e2 e3 e5 e6 e7 e8 e9 e10 e11 e12 e13 e14 e15; omega
  have s6 : a % 64 = b % 64 := by clear s1 s2 s3 s4 e0 e1 e2 e3 e4 e6 e7 e8 e9 e10 e11 e12 e13 e14 e15; omega
  have s7 : a % 128 = b % 128 := by clear s1 s2 s3 s4 s5 e0 e1 e2 e3 e4 e5 e7 e8 e9 e10 e11 e12 e13 e14 e15; omega
  have s8 : a % 256 = b % 256 := by clear s1 s2 s3 s4 s5 s6 e0 e1 e2 e3 e4 e5 e6 e8 e9 e10 e11 e12 e13 e14 e15; omega
  have s9 : a % 512 = b % 512 := by clear s1 s2 s3 s4 s5 s6 s7 e0 e1 e2 e3 e4 e5 e6 e7 e9 e10 e11 e12 e13 e14 e15; omega
  have s10 : a % 1024 = b % 1024 := by clear s1 s2 s3 s4 s5 s6 s7 s8 e0 e1 e2 e3 e4 e5 e6 e7 e8 e10 e11 e12 e13 e14 e15; omega
  have s11 : a % 2048 = b % 2048 := by clear s1 s2 s3 s4 s5 s6 s7 s8 s9 e0 e1 e2 e3 e4 e5 e6 e7 e8 e9 e11 e12 e13 e14 e15; omega
  have s12 : a % 4096 = b % 4096 := by clear s1 s2 s3 s4 s5 s6 s7 s8 s9 s10 e0 e1 e2 e3 e4 e5 e6 e7 e8 e9 e10 e12 e13 e14 e15; omega
  have s13 : a % 8192 = b % 8192 := by clear s1 s2 s3 s4 s5 s6 s7 s8 s9 s10 s11 e0 e1 e2 e3 e4 e5 e6 e7 e8 e9 e10 e11 e13 e14 e15; omega
  have s14 : a % 16384 = b % 16384 := by clear s1 s2 s3 s4 s5 s6 s7 s8 s9 s10 s11 s12 e0 e1 e2 e3 e4 e5 e6 e7 e8 e9 e10 e11 e12 e14 e15; omega
  have s15 : a % 32768 = b % 32768 := by clear s1 s2 s3 s4 s5 s6 s7 s8 s9 s10 s11 s12 s13 e0 e1 e2 e3 e4 e5 e6 e7 e8 e9 e10 e11 e12 e13 e15; omega
  clear s1 s2 s3 s4 s5 s6 s7 s8 s9 s10 s11 s12 s13 s14 e0 e1 e2 e3 e4 e5 e6 e7 e8 e9 e10 e11 e12 e13 e14
  omega

theorem same_bits {a b : Int} (h : a % 65536 = b % 65536) : bitsL a 16 = bitsL b 16 := by
  unfold bitsL
  apply List.map_congr_left
  intro i hi
  rw [List.mem_range] at hi
  unfold bitZ
  have : a / 2 ^ i % 2 = b / 2 ^ i % 2 := by
    rcases (by omega : i = 0 ∨ i = 1 ∨ i = 2 ∨ i = 3 ∨ i = 4 ∨ i = 5 ∨ i = 6 ∨ i = 7 ∨ i = 8 ∨ i = 9 ∨ i = 10 ∨ i = 11 ∨ i = 12 ∨ i = 13 ∨ i = 14 ∨ i = 15) with rfl | rfl | rfl | rfl | rfl | rfl | rfl | rfl | rfl | rfl | rfl | rfl | rfl | rfl | rfl | rfl <;> (simp; omega)
  rw [this]

/-- A node says the bits of x. -/
def SaysBits (cs : List Nd) (x : Int) (k : Nat) : Prop := ∃ c, Is cs k c ∧ ∀ val, Says 4 cs val k = ((bitsL x 16)[tix val 4 0 0]?).getD false

theorem SaysBits.at {cs : List Nd} {x : Int} {k n : Nat} (h : SaysBits cs x k) (hn : n < 16) : Says 4 cs (valOf (valsZ (n : Int))) k = bitZ x n := by
  obtain ⟨c, _, hs⟩ := h
  rw [hs, tix_vals n hn, bitsL_get x 16 n hn]; rfl

theorem SaysBits.ext {cs cs' : List Nd} {x : Int} {k : Nat} (h : SaysBits cs x k) (hx : Ext cs cs') (g : NGood 4 cs) (g' : NGood 4 cs') : SaysBits cs' x k := by
  obtain ⟨c, hc, hs⟩ := h
  exact ⟨c, hx k c hc, fun val => by rw [hx.says g g' val hc, hs]⟩

theorem once_same {cs : List Nd} {x y : Int} {k j : Nat} (g : NGood 4 cs) (hk : SaysBits cs x k) (hj : SaysBits cs y j) : k = j ↔ x % 65536 = y % 65536 := by
  constructor
  · rintro rfl
    apply bits_same
    apply List.ext_getElem?
    intro i
    by_cases hi : i < 16
    · rw [bitsL_get x 16 i hi, bitsL_get y 16 i hi, ← hk.at hi, ← hj.at hi]
    · rw [List.getElem?_eq_none (by rw [bitsL_length]; omega), List.getElem?_eq_none (by rw [bitsL_length]; omega)]
  · intro h
    obtain ⟨c, hc, hs⟩ := hk
    obtain ⟨d, hd, ht⟩ := hj
    exact canon g hc hd fun val => by rw [hs, ht, same_bits h]

theorem vals_rd {w : World} {g : Nat} {n : Int} (h : w.heap[g]? = some (.cells #[.bool (n % 2 == 1), .bool (n / 2 % 2 == 1), .bool (n / 4 % 2 == 1), .bool (n / 8 % 2 == 1)] 4 (0, 0))) : Rd w (some ⟨g, 0, none⟩) ((valsZ n).map Value.bool) := by
  have hl : g < w.heap.size := by
    rcases Nat.lt_or_ge g w.heap.size with h1 | h1
    · exact h1
    · rw [Array.getElem?_eq_none h1] at h; cases h
  refine .inr ⟨g, 0, rfl, hl, fun j u hu => ?_⟩
  rw [cell_of_row w g (0 + j) _ _ _ h, Nat.zero_add]
  rw [← hu]
  unfold valsZ
  match j with
  | 0 => rfl
  | 1 => rfl
  | 2 => rfl
  | 3 => rfl
  | j + 4 => rfl

theorem eval_vals {w : World} {m : Mem} {h : Hd} {cs : List Nd} (s : St w m h cs) (hV : h.V = 4) {x : Int} {k n g : Nat} (hk : SaysBits cs x k) (hn : n < 16) (hg : Rd w (some ⟨g, 0, none⟩) ((valsZ (n : Int)).map Value.bool)) :
    Calls Try.prog 28 #[ptrV m.s, .int .i64 (k : Int), .slice (some ⟨g, 0, none⟩) 4 4] w fun e w' => e = .returned (.tuple #[.bool (bitZ x n), .int .i64 0]) ∧ w = w' := by
  have hs := hk.at hn
  obtain ⟨c, hc, _⟩ := hk
  have := eval_yes s hc (cap := 4) hg (by simp [valsZ])
  rw [hV, hs] at this
  exact this

theorem rd_at {w : World} {g n : Nat} {x : Int} (h : Rd w (some ⟨g, 0, none⟩) ((bitsL x 16).map Value.bool)) (hn : n < 16) : w.cell? ⟨g, n, none⟩ = some (.bool (bitZ x n)) := by
  rcases h with h | ⟨b, off, e, _, hc⟩
  · rw [List.map_eq_nil_iff] at h; have := bitsL_length x 16; rw [h] at this; cases this
  · simp only [Option.some.injEq, Addr.mk.injEq, and_true] at e
    obtain ⟨rfl, rfl⟩ := e
    have := hc n (.bool (bitZ x n)) (by rw [List.getElem?_map, bitsL_get x 16 n hn]; rfl)
    rwa [Nat.zero_add] at this

end Go.Proofs.Ytfdebadmikmnaaa
