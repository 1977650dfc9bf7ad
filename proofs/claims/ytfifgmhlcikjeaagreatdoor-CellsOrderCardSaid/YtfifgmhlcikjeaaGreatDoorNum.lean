/-
  Calls of this translation, known by the evaluator, one behind the other.
-/
import Derived.Test.YtfifgmhlcikjeaaGreatDoorTab
import Derived.Test.YtfifgmhlcikjeaaGreatDoorGh
namespace Go.Ev
open Go.Proofs Go.RowKit
theorem ofList {l : List (Nat × List Value × Value)} (hl : KnownOk Tryz.prog 17 (seek l)) {f : FuncId} {args : List Value} {v : Value} (hp : plainL args = true) (hv : plainB v = true) (h : ∀ a, saysV v (vcallK T0 (vop Tryz.prog T0) (vquietM Tryz.prog T0) (vfx T0) 17 funcsT.get (seek l) 10000 200 f ⟨args⟩ (start0 a)) = true) : Knows Tryz.prog 17 f args v :=
  knowsOf names mixed (tbl_of funcsT_ok) start_ok hl hp hv h
def args0 : List Value := [.int .u64 4602678819172646912, .int .i64 6, .bool false]
def says0 : Value := .string ⟨#[48, 46, 53]⟩
theorem known0 : Knows Tryz.prog 17 162 args0 says0 := ofList seek_nil rfl rfl (fun _ => by kernel_rfl)
def args1 : List Value := [.int .u64 4591870180066957722, .int .i64 6, .bool false]
def says1 : Value := .string ⟨#[48, 46, 49]⟩
theorem known1 : Knows Tryz.prog 17 162 args1 says1 := ofList seek_nil rfl rfl (fun _ => by kernel_rfl)
def args2 : List Value := []
def says2 : Value := .bool true
theorem known2 : Knows Tryz.prog 17 19 args2 says2 := ofList (seek_cons known1 seek_nil) rfl rfl (fun _ => by kernel_rfl)
def args3 : List Value := []
def says3 : Value := .bool true
theorem known3 : Knows Tryz.prog 17 3 args3 says3 := ofList (seek_cons known0 (seek_cons known2 seek_nil)) rfl rfl (fun _ => by kernel_rfl)
theorem numTrue : Knows Tryz.prog 17 3 [] (.bool true) := known3
end Go.Ev
