/-
  LexBlanks, walked.
-/
import Derived.Test.YtefpkgdakihceaaDoorLxAw
import Derived.Test.YtefpkgdakihceaaDoorLxAb
import Derived.Deep.AppendLies
import Derived.Deep.RegionLaw
import Derived.Deep.LoopGhost
namespace Go.Proofs.YtefpkgdakihceaaDoor.Lx
open Go.RowKit

def Tk.cells (t : Tk) : List Value := [.int .u8 t.kind, .string t.says, .int .i64 t.line, .int .i64 t.a, .int .i64 t.e]
def flatK : List Tk → List Value
  | [] => []
  | t :: l => t.cells ++ flatK l
theorem flatK_length : ∀ l : List Tk, (flatK l).length = l.length * 5
  | [] => rfl
  | s :: l => by simp [flatK, flatK_length l, Tk.cells]; omega
theorem flatK_append : ∀ l r : List Tk, flatK (l ++ r) = flatK l ++ flatK r
  | [], r => rfl
  | s :: l, r => by simp [flatK, flatK_append l r]
theorem Tk.one (s : Tk) : ∀ u ∈ s.cells, u.oneCell' = true := by
  intro u hu
  simp only [Tk.cells, List.mem_cons, List.not_mem_nil, or_false] at hu
  rcases hu with rfl | rfl | rfl | rfl | rfl <;> rfl
theorem flatK_get : ∀ (L : List Tk) (i : Nat) (t : Tk), L[i]? = some t → ∀ (j : Nat) (v : Value), t.cells[j]? = some v → (flatK L)[i * 5 + j]? = some v
  | [], i, t, h => by simp at h
  | x :: L, 0, t, h => by
    intro j v hv
    have hx : x = t := by simpa using h
    subst hx
    have hj := (List.getElem?_eq_some_iff.1 hv).1
    rw [flatK, List.getElem?_append_left (by omega), Nat.zero_mul, Nat.zero_add]
    exact hv
  | x :: L, i + 1, t, h => by
    intro j v hv
    have := flatK_get L i t (by simpa using h) j v hv
    have hz : x.cells.length = 5 := rfl
    rw [flatK, List.getElem?_append_right (by omega), hz, show (i + 1) * 5 + j - 5 = i * 5 + j by omega]
    exact this
abbrev Toks (B : Nat) (w : World) (v : Value) (L : List Tk) : Prop := w.ownsRow B 24 5 v L.length (flatK L)
theorem Toks.below {B : Nat} {w w' : World} {v : Value} {L : List Tk} (h : Toks B w v L) (hb : Below w.heap.size w w') : Toks B w' v L := by
  refine World.ownsRow.kept (row := none) h (grown_none hb) ?_
  cases v.ownBlock
  · exact .inl rfl
  · exact .inr (by simp)
theorem token_info : ∃ i z, Tryd.prog.info? 24 = some i ∧ i.zero = some z ∧ i.size = 5 ∧ i.bytes = 48 ∧ z.cells.size = 5 := by
  have h : (Tryd.prog.info? 24).map (fun i => (i.zero.map (·.cells.size), i.size, i.bytes)) = some (some 5, 5, 48) := by kernel_rfl
  cases hi : Tryd.prog.info? 24 with
  | none => rw [hi] at h; cases h
  | some i =>
    rw [hi] at h
    simp only [Option.map_some, Option.some.injEq, Prod.mk.injEq] at h
    cases hz : i.zero with
    | none => rw [hz] at h; cases h.1
    | some z => rw [hz] at h; exact ⟨i, z, rfl, hz, h.2.1, h.2.2, by simpa using h.1⟩
end Go.Proofs.YtefpkgdakihceaaDoor.Lx
