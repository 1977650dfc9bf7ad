/-
  Package world: reading from a stream (Read), writing to one (Write), a file's bytes (File), all events (Trace), Chance, System.
-/
import Derived.Test.YtahblmcjocepeaaDoorWoI
namespace Go.Proofs.YtahblmcjocepeaaDoor.Wo
open Go.RowKit Go.Maps

section
variable {w : World} {B fm rm xm : Nat} {D : DataW Unit} {vs vt : Value} {ps : List Value} {T : Tags} {st : St} {n : ByteArray} {k : Int}

def nextU (x : Int) : Int := IntKind.u64.wrap (IntKind.u64.wrap (x * 6364136223846793005) + 1442695040888963407)
theorem flatE_one : ∀ l : List Ev, ∀ u ∈ flatE l, u.oneCell' = true := by
  intro l u hu
  unfold flatE at hu
  rw [List.mem_flatten] at hu
  obtain ⟨a, ha, hu⟩ := hu
  obtain ⟨e, _, rfl⟩ := List.mem_map.1 ha
  exact e.one u hu
theorem flatE_length : ∀ l : List Ev, (flatE l).length = l.length * 5
  | [] => rfl
  | e :: l => by
    have := flatE_length l
    unfold flatE at this ⊢
    rw [List.map_cons, List.flatten_cons, List.length_append, this]
    show 5 + _ = _
    rw [List.length_cons]; omega
end
end Go.Proofs.YtahblmcjocepeaaDoor.Wo
