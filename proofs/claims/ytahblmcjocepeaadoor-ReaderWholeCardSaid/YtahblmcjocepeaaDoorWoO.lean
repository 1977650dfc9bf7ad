/-
  Package world: all streams closed (CloseAll).
-/
import Derived.Test.YtahblmcjocepeaaDoorWoN
namespace Go.Proofs.YtahblmcjocepeaaDoor.Wo
open Go.RowKit Go.Maps

def allStep (st : St) : St :=
  match st.streams with
  | [] => st
  | s :: _ => (closeTo s.name 5 (st, 0, false)).1
def allTo : Nat → St → St
  | 0, st => st
  | j + 1, st => allStep (allTo j st)
theorem closeTo_less (n : ByteArray) (a : ClR) : ∀ j, (closeTo n j a).1.streams.length < a.1.streams.length ∨ ((closeTo n j a).1.streams = a.1.streams ∧ ∀ k : Int, 1 ≤ k → k ≤ j → placeL k n a.1.streams < 0)
  | 0 => .inr ⟨rfl, fun k h1 h2 => by omega⟩
  | j + 1 => by
    unfold closeTo closeStep
    rcases closeTo_less n a j with h | ⟨h1, h2⟩
    · left
      split
      · exact h
      · exact Nat.lt_of_le_of_lt (List.length_eraseIdx_le _ _) h
    · by_cases hp : placeL ((j : Int) + 1) n (closeTo n j a).1.streams < 0
      · right
        rw [if_pos hp]
        refine ⟨h1, fun k q1 q2 => ?_⟩
        by_cases e : k = (j : Int) + 1
        · rw [e, ← h1]; exact hp
        · exact h2 k q1 (by push_cast at q2; omega)
      · left
        rw [if_neg hp]
        show (List.eraseIdx _ _).length < _
        have hl := placeL_lt ((j : Int) + 1) n (closeTo n j a).1.streams
        rw [h1] at hl hp
        rw [List.length_eraseIdx_of_lt (by unfold atOf; rw [h1]; omega), h1]
        have : 0 < a.1.streams.length := by omega
        omega
theorem allStep_less {st : St} (hk : ∀ s ∈ st.streams, 1 ≤ s.kind ∧ s.kind ≤ 5 ∧ Small s.name) {s : Strm} {r : List Strm} (hs : st.streams = s :: r) : (allStep st).streams.length < st.streams.length := by
  have e : allStep st = (closeTo s.name 5 (st, 0, false)).1 := by unfold allStep; rw [hs]
  rw [e]
  obtain ⟨q1, q2, _⟩ := hk s (by rw [hs]; simp)
  rcases closeTo_less s.name (st, 0, false) 5 with h | ⟨_, h2⟩
  · exact h
  · have := h2 s.kind q1 q2
    have hp : placeL s.kind s.name st.streams = 0 := by rw [hs, placeL_cons, if_pos (isIt_iff.2 ⟨rfl, rfl⟩)]
    have h3 : placeL s.kind s.name st.streams < 0 := this
    omega
theorem allTo_len (st : St) : ∀ j, (allTo j st).trace.length ≤ st.trace.length + 5 * j
  | 0 => Nat.le_refl _
  | j + 1 => by
    have ih := allTo_len st j
    show (allStep (allTo j st)).trace.length ≤ _
    unfold allStep
    split
    · omega
    · rename_i s r hs
      have := (closeTo_len s.name (allTo j st, 0, false) 5).1
      have h2 : (closeTo s.name 5 (allTo j st, 0, false)).1.trace.length ≤ (allTo j st).trace.length + 5 := this
      omega

section
variable {w : World} {B fm rm xm : Nat} {D : DataW Unit} {vs vt : Value} {ps : List Value} {T : Tags} {st : St} {n : ByteArray} {k : Int}
theorem Goes.thenG {wr w2 : World} {T1 : Tags} {s2 : St} (g : Goes wr w2 B T1 s2) (h : Turn (fun k => T k ≠ .no) w wr) (e : ∀ k, k < w.heap.size → T1 k = T k) : Goes w w2 B T s2 := by
  obtain ⟨fm, rm, xm, D2, vs2, vt2, ps2, T2, h2, e2, t2⟩ := g
  exact ⟨fm, rm, xm, D2, vs2, vt2, ps2, T2, h2, fun k hk => (e2 k (Nat.lt_of_lt_of_le hk h.size)).trans (e k hk), h.thenTags t2 e⟩
end
end Go.Proofs.YtahblmcjocepeaaDoor.Wo
