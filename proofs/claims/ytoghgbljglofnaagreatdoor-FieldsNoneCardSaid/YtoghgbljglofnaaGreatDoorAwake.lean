/-
  Fields: the fixed examples, and a record that New did not make, by the evaluator.
-/
import Derived.Test.YtoghgbljglofnaaGreatDoorTab
import Derived.Test.YtoghgbljglofnaaGreatDoorGh
namespace Go.Ev
open Go.Proofs Go.RowKit
theorem ofList {l : List (Nat × List Value × Value)} (hl : KnownOk Tryz.prog 17 (seek l)) {f : FuncId} {args : List Value} {v : Value} (hp : plainL args = true) (hv : plainB v = true) (h : ∀ a, saysV v (vcallK T0 (vop Tryz.prog T0) (vquietM Tryz.prog T0) (vfx T0) 17 funcsT.get (seek l) 10000 200 f ⟨args⟩ (start0 a)) = true) : Knows Tryz.prog 17 f args v :=
  knowsOf names mixed (tbl_of funcsT_ok) start_ok hl hp hv h
theorem awake : Knows Tryz.prog 17 22 [] (.bool true) := ofList seek_nil rfl rfl (fun _ => by kernel_rfl)
theorem nones (i : Int) (s : ByteArray) (k n : Int) (t : ByteArray) : Knows Tryz.prog 17 4 [.int .i64 i, .string s, .agg #[.int .u8 k, .int .u64 n, .string t]] (.bool true) := ofList (seek_cons awake seek_nil) rfl rfl (fun _ => by kernel_rfl)
#print axioms nones
end Go.Ev
