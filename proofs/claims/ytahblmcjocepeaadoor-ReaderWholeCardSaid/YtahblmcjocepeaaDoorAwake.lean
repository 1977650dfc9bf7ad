/-
  Reader: the fixed examples, by the evaluator.
-/
import Derived.Test.YtahblmcjocepeaaDoorTab
import Derived.Test.YtahblmcjocepeaaDoorGh
namespace Go.Ev
open Go.Proofs Go.RowKit
theorem ofList {l : List (Nat × List Value × Value)} (hl : KnownOk Tryd.prog 3 (seek l)) {f : FuncId} {args : List Value} {v : Value} (hp : plainL args = true) (hv : plainB v = true) (h : ∀ a, saysV v (vcallK T0 (vop Tryd.prog T0) (vquietM Tryd.prog T0) (vfx T0) 3 funcsT.get (seek l) 10000 200 f ⟨args⟩ (start0 a)) = true) : Knows Tryd.prog 3 f args v :=
  knowsOf names mixed (tbl_of funcsT_ok) start_ok hl hp hv h
theorem awake : Knows Tryd.prog 3 15 [] (.bool true) := ofList seek_nil rfl rfl (fun _ => by kernel_rfl)
theorem nones (s : ByteArray) : Knows Tryd.prog 3 5 [.string s] (.bool true) := ofList (seek_cons awake seek_nil) rfl rfl (fun _ => by kernel_rfl)
#print axioms nones
end Go.Ev
