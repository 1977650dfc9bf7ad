/-
  Arrays: the fixed examples, and an array that New did not make, by the evaluator.
-/
import Derived.Test.YtlagnklmfanmoaaTab
import Derived.Test.YtlagnklmfanmoaaEv9
namespace Go.Ev
open Go.Proofs Go.RowKit
theorem ofList {l : List (Nat × List Value × Value)} (hl : KnownOk Try.prog 1 (seek l)) {f : FuncId} {args : List Value} {v : Value} (hp : plainL args = true) (hv : plainB v = true) (h : ∀ a, saysV v (vcallG (among []) noPrim T0 (vop Try.prog T0) (vquietM Try.prog T0) (vfx T0) 1 funcsT.get (seek l) 10000 200 f ⟨args⟩ (start0 a)) = true) : Knows Try.prog 1 f args v :=
  knowsG noPrim_ok names mixed (tbl_of funcsT_ok) start_ok hl hp hv h
theorem awake : Knows Try.prog 1 20 [] (.bool true) := ofList seek_nil rfl rfl (fun _ => by kernel_rfl)
theorem nones (s : ByteArray) (k n : Int) (t : ByteArray) : Knows Try.prog 1 5 [.string s, .agg #[.int .u8 k, .int .u64 n, .string t]] (.bool true) := ofList (seek_cons awake seek_nil) rfl rfl (fun _ => by kernel_rfl)
#print axioms nones
end Go.Ev
