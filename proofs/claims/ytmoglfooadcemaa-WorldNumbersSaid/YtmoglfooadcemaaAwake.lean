/-
  World: the fixed examples, and a world that New did not make, by the evaluator.
-/
import Derived.Test.YtmoglfooadcemaaTab
import Derived.Test.YtmoglfooadcemaaEvW
namespace Go.Ev
open Go.Proofs Go.RowKit
noncomputable def ranK (l : List (Nat × List Value × Value)) (fuel d f : Nat) (args : List Value) : Option (VE × VS) := vcallK T0 (vop Try.prog T0) (vquietM Try.prog T0) (vfx T0) 0 funcsT.get (seek l) fuel d f ⟨args⟩ ⟨[], 0, 0, [], []⟩
theorem knows {l : List (Nat × List Value × Value)} (hl : KnownOk Try.prog 0 (seek l)) {fuel d f : Nat} {args : List Value} {b : Bool} (hp : plainL args = true) (h : sayB b (ranK l fuel d f args) = true) : Knows Try.prog 0 f args (.bool b) := by
  obtain ⟨vs1, h⟩ := sayB_some h
  exact toldK names mixed (tbl_of funcsT_ok) hl hp rfl h
theorem awake : Knows Try.prog 0 22 [] (.bool true) := knows (fuel := 3000) (d := 60) seek_nil rfl (by kernel_rfl)
theorem kAwake_ok : KnownOk Try.prog 0 (seek [(22, [], .bool true)]) := seek_cons awake seek_nil
#print axioms awake
end Go.Ev
