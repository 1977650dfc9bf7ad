/-
  Calls of this translation, known by the evaluator, one behind the other.
-/
import Derived.Test.YthbkcdbmimhhkaaTab
import Derived.Test.YthbkcdbmimhhkaaGh
namespace Go.Ev
open Go.Proofs Go.RowKit
theorem ofList {l : List (Nat × List Value × Value)} (hl : KnownOk Try.prog 0 (seek l)) {f : FuncId} {args : List Value} {v : Value} (hp : plainL args = true) (hv : plainB v = true) (h : ∀ a, saysV v (vcallK T0 (vop Try.prog T0) (vquietM Try.prog T0) (vfx T0) 0 funcsT.get (seek l) 10000 200 f ⟨args⟩ (start0 a)) = true) : Knows Try.prog 0 f args v :=
  knowsOf names mixed (tbl_of funcsT_ok) start_ok hl hp hv h
def args0 : List Value := []
def says0 : Value := .bool true
theorem known0 : Knows Try.prog 0 7 args0 says0 := ofList seek_nil rfl rfl (fun _ => by kernel_rfl)
theorem awake7 : Knows Try.prog 0 7 [] (.bool true) := known0
end Go.Ev
