/-
  Calls of this translation, known by the evaluator, one behind the other.
-/
import Derived.Test.YtmnghdccikoaoaaTab
import Derived.Test.YtmnghdccikoaoaaGh
namespace Go.Ev
open Go.Proofs Go.RowKit
theorem ofList {l : List (Nat × List Value × Value)} (hl : KnownOk Try.prog 1 (seek l)) {f : FuncId} {args : List Value} {v : Value} (hp : plainL args = true) (hv : plainB v = true) (h : ∀ a, saysV v (vcallK T0 (vop Try.prog T0) (vquietM Try.prog T0) (vfx T0) 1 funcsT.get (seek l) 10000 200 f ⟨args⟩ (start0 a)) = true) : Knows Try.prog 1 f args v :=
  knowsOf names mixed (tbl_of funcsT_ok) start_ok hl hp hv h
def args0 : List Value := [.string ⟨#[97, 98, 124, 97, 98, 99]⟩, .string ⟨#[120, 97, 98, 99, 97, 98]⟩, .int .i64 0, .int .i64 1, .int .i64 3]
def says0 : Value := .bool true
theorem known0 : Knows Try.prog 1 8 args0 says0 := ofList seek_nil rfl rfl (fun _ => by kernel_rfl)
def args1 : List Value := [.string ⟨#[97, 98, 124, 97, 98, 99]⟩, .string ⟨#[120, 97, 98, 99, 97, 98]⟩, .int .i64 2, .int .i64 4, .int .i64 2]
def says1 : Value := .bool true
theorem known1 : Knows Try.prog 1 8 args1 says1 := ofList seek_nil rfl rfl (fun _ => by kernel_rfl)
def args2 : List Value := [.string ⟨#[97, 42]⟩, .string ⟨#[98, 97, 97]⟩, .int .i64 0, .int .i64 0, .int .i64 0]
def says2 : Value := .bool true
theorem known2 : Knows Try.prog 1 8 args2 says2 := ofList seek_nil rfl rfl (fun _ => by kernel_rfl)
def args3 : List Value := [.string ⟨#[97, 42]⟩, .string ⟨#[98, 97, 97]⟩, .int .i64 1, .int .i64 1, .int .i64 2]
def says3 : Value := .bool true
theorem known3 : Knows Try.prog 1 8 args3 says3 := ofList seek_nil rfl rfl (fun _ => by kernel_rfl)
def args4 : List Value := [.string ⟨#[94, 97]⟩, .string ⟨#[98, 97]⟩, .int .i64 0]
def says4 : Value := .bool true
theorem known4 : Knows Try.prog 1 9 args4 says4 := ofList seek_nil rfl rfl (fun _ => by kernel_rfl)
def args5 : List Value := [.string ⟨#[98, 36]⟩, .string ⟨#[97, 98]⟩, .int .i64 0, .int .i64 1, .int .i64 1]
def says5 : Value := .bool true
theorem known5 : Knows Try.prog 1 8 args5 says5 := ofList seek_nil rfl rfl (fun _ => by kernel_rfl)
def args6 : List Value := [.string ⟨#[40, 97, 124, 97, 98, 41, 40, 99, 124, 98, 99, 100, 41, 40, 100, 42, 41]⟩, .string ⟨#[97, 98, 99, 100]⟩, .int .i64 0, .int .i64 0, .int .i64 4]
def says6 : Value := .bool true
theorem known6 : Knows Try.prog 1 8 args6 says6 := ofList seek_nil rfl rfl (fun _ => by kernel_rfl)
def args7 : List Value := [.string ⟨#[40, 97, 42, 41, 42]⟩, .string ⟨#[98]⟩, .int .i64 0, .int .i64 0, .int .i64 0]
def says7 : Value := .bool true
theorem known7 : Knows Try.prog 1 8 args7 says7 := ofList seek_nil rfl rfl (fun _ => by kernel_rfl)
def args8 : List Value := [.string ⟨#[120, 123, 50, 44, 51, 125]⟩, .string ⟨#[120, 120, 120, 120]⟩, .int .i64 0, .int .i64 0, .int .i64 3]
def says8 : Value := .bool true
theorem known8 : Knows Try.prog 1 8 args8 says8 := ofList seek_nil rfl rfl (fun _ => by kernel_rfl)
def args9 : List Value := []
def says9 : Value := .bool true
theorem known9 : Knows Try.prog 1 17 args9 says9 := ofList (seek_cons known0 (seek_cons known1 (seek_cons known2 (seek_cons known3 (seek_cons known4 (seek_cons known5 (seek_cons known6 (seek_cons known7 (seek_cons known8 seek_nil))))))))) rfl rfl (fun _ => by kernel_rfl)
theorem awake : Knows Try.prog 1 17 [] (.bool true) := known9
end Go.Ev
