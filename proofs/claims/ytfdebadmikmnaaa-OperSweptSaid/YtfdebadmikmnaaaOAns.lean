/- Contracts of layer 4 (oper): answer, where the numbers alone tell it. -/
import Derived.Test.YtfdebadmikmnaaaOMk
namespace Go.Proofs.Ytfdebadmikmnaaa
open Go.ChangeShapes Go.WideShapes Go.ChangeAt Go.RowKit Go.Maps

def AnsOut (m : Mem) (h : Hd) (cs : List Nd) (o b N n : Nat) (u : Int) (q : Qu) (w : World) (e : Ending) (w' : World) : Prop :=
  ∃ (k : Nat) (x : Int) (m' : Mem) (h' : Hd) (cs' : List Nd) (N' : Nat), e = .returned (.tuple #[.int .i64 (k : Int), .int .i64 x]) ∧ Rdy w' m' h' cs' o b N' ∧ Ext cs cs' ∧ Fresh cs cs' ∧ h'.V = h.V ∧ h'.B = h.B ∧ h'.sweeps = h.sweeps ∧
    cnt cs' + 1 ≤ cnt cs + 2 ^ n ∧ N' + 1 ≤ N + 2 ^ n ∧ ONext o m (some b) m' (some b) w w' ∧
    ((x = 0 ∧ At cs' u k ∧ ∀ val, Says h.V cs' val k = qsem h.V cs val q) ∨ (x = 30 ∧ k = 0 ∧ h.B + 2 ≤ cnt cs + 2 ^ n))

theorem AnsOut.same {m : Mem} {h : Hd} {cs : List Nd} {o b N n k : Nat} {u : Int} {q : Qu} {w w' : World} (r : Rdy w m h cs o b N) (hb : Below w.heap.size w w') (hk : At cs u k) (hs : ∀ val, Says h.V cs val k = qsem h.V cs val q) :
    AnsOut m h cs o b N n u q w (.returned (.tuple #[.int .i64 (k : Int), .int .i64 0])) w' := by
  have := Nat.one_le_two_pow (n := n)
  exact ⟨k, 0, m, h, cs, N, rfl, r.keep hb, Ext.refl _, Fresh.refl _, rfl, rfl, rfl, by omega, by omega, ONext.below hb, .inl ⟨rfl, hk, hs⟩⟩

/-- Behind settling: the question's variable holds what is left. -/
theorem settled_world {w w2 : World} {q q1 : Qu} (hb2 : Below (w.alloc (quO q)).heap.size (w.alloc (quO q)) w2) :
    Below w.heap.size w (Fin4 w2 w.heap.size q1) ∧ (Fin4 w2 w.heap.size q1).heap[w.heap.size]? = some (quO q1) := by
  have b1 := (Below.refl w.heap.size w).alloc (Nat.le_refl _) (quO q)
  have h1 := heap_alloc_new w (quO q)
  have h2 := (hb2.block _ (row_lt h1)).trans h1
  have bb := b1.trans (hb2.mono b1.size)
  exact ⟨Turn.to_below bb (fin4_turn w2 w.heap.size q1) (fun i hi => by omega) bb.size, fin4 h2⟩

set_option maxRecDepth 100000 in
set_option maxHeartbeats 1600000 in
theorem answer_told {w : World} {m : Mem} {h : Hd} {cs : List Nd} {o b N : Nat} {u : Int} {q : Qu} (r : Rdy w m h cs o b N) (hq : QAt cs u q) (hu : u ≤ h.V) (ht : (settleQ q).2.2 = true) (n : Nat) :
    Calls Try.prog 47 #[.pointer (some ⟨o, 0, none⟩), quV q] w (AnsOut m h cs o b N n u q w) := by
  obtain ⟨ha, hs⟩ := (settle_ok r.st.good hu hq).told ht
  have HS := settle_any q hq.kind
  obtain ⟨⟨q1, k, t⟩, hS⟩ : ∃ p, settleQ q = p := ⟨_, rfl⟩
  rw [hS] at ht HS ha hs
  obtain rfl : t = true := ht
  clear hS
  have HS := Lib.hid HS
  have HA : Hid (At cs u k) := ha
  have HSY := Lib.hid hs
  have RR := Lib.hid r
  clear ha hs r hq hu
  unfold quV
  go_enter Try.func47, Try.ntmps47
  go_wp2_with fail
  refine (HS.out _).mono ?_
  rintro e w2 ⟨rfl, hb2⟩
  obtain ⟨fb, fr⟩ := settled_world (q1 := q1) hb2
  have b2 := (hb2.block _ (row_lt (heap_alloc_new w (quO q)))).trans (heap_alloc_new w (quO q))
  obtain ⟨z0, z1, z2, z3, zf⟩ := qu_cells b2
  have FB := Lib.hid fb
  unfold Fin4 at FB
  clear hb2 b2 fb fr
  unfold quV
  go_wp2_with fail
  go_ret2
  exact AnsOut.same RR.out FB.out HA.out HSY.out
end Go.Proofs.Ytfdebadmikmnaaa
