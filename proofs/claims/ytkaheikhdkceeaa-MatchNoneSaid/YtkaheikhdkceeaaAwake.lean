import Derived.Test.YtkaheikhdkceeaaTab
import Derived.Test.YtkaheikhdkceeaaEvW
namespace Go.Ev
open Go.Proofs Go.RowKit
noncomputable def ranK (l : List (Nat × List Value × Value)) (fuel d f : Nat) (args : List Value) : Option (VE × VS) := vcallK T0 (vop Try.prog T0) (vquietM Try.prog T0) (vfx T0) 1 funcsT.get (seek l) fuel d f ⟨args⟩ ⟨[], 1, 1, [], []⟩
theorem knows {l : List (Nat × List Value × Value)} (hl : KnownOk Try.prog 1 (seek l)) {fuel d f : Nat} {args : List Value} {b : Bool} (hp : plainL args = true) (h : sayB b (ranK l fuel d f args) = true) : Knows Try.prog 1 f args (.bool b) := by
  obtain ⟨vs1, h⟩ := sayB_some h
  exact toldK names mixed (tbl_of funcsT_ok) hl hp rfl h
def a0 : List Value := [.string ⟨#[97, 98, 124, 97, 98, 99]⟩, .string ⟨#[120, 97, 98, 99, 97, 98]⟩, .int .i64 0, .int .i64 1, .int .i64 3]
theorem k0 : Knows Try.prog 1 8 a0 (.bool true) := knows (fuel := 3000) (d := 60) seek_nil rfl (by kernel_rfl)
def a1 : List Value := [.string ⟨#[97, 98, 124, 97, 98, 99]⟩, .string ⟨#[120, 97, 98, 99, 97, 98]⟩, .int .i64 2, .int .i64 4, .int .i64 2]
theorem k1 : Knows Try.prog 1 8 a1 (.bool true) := knows (fuel := 3000) (d := 60) seek_nil rfl (by kernel_rfl)
def a2 : List Value := [.string ⟨#[97, 42]⟩, .string ⟨#[98, 97, 97]⟩, .int .i64 0, .int .i64 0, .int .i64 0]
theorem k2 : Knows Try.prog 1 8 a2 (.bool true) := knows (fuel := 3000) (d := 60) seek_nil rfl (by kernel_rfl)
def a3 : List Value := [.string ⟨#[97, 42]⟩, .string ⟨#[98, 97, 97]⟩, .int .i64 1, .int .i64 1, .int .i64 2]
theorem k3 : Knows Try.prog 1 8 a3 (.bool true) := knows (fuel := 3000) (d := 60) seek_nil rfl (by kernel_rfl)
def a4 : List Value := [.string ⟨#[94, 97]⟩, .string ⟨#[98, 97]⟩, .int .i64 0]
theorem k4 : Knows Try.prog 1 9 a4 (.bool true) := knows (fuel := 3000) (d := 60) seek_nil rfl (by kernel_rfl)
def a5 : List Value := [.string ⟨#[94, 97]⟩, .string ⟨#[98, 97]⟩, .int .i64 1]
theorem k5 : Knows Try.prog 1 9 a5 (.bool true) := knows (fuel := 3000) (d := 60) seek_nil rfl (by kernel_rfl)
def a6 : List Value := [.string ⟨#[98, 36]⟩, .string ⟨#[97, 98]⟩, .int .i64 0, .int .i64 1, .int .i64 1]
theorem k6 : Knows Try.prog 1 8 a6 (.bool true) := knows (fuel := 3000) (d := 60) seek_nil rfl (by kernel_rfl)
def a7 : List Value := [.string ⟨#[40, 97, 124, 97, 98, 41, 40, 99, 124, 98, 99, 100, 41, 40, 100, 42, 41]⟩, .string ⟨#[97, 98, 99, 100]⟩, .int .i64 0, .int .i64 0, .int .i64 4]
theorem k7 : Knows Try.prog 1 8 a7 (.bool true) := knows (fuel := 3000) (d := 60) seek_nil rfl (by kernel_rfl)
def a8 : List Value := [.string ⟨#[40, 97, 42, 41, 42]⟩, .string ⟨#[98]⟩, .int .i64 0, .int .i64 0, .int .i64 0]
theorem k8 : Knows Try.prog 1 8 a8 (.bool true) := knows (fuel := 3000) (d := 60) seek_nil rfl (by kernel_rfl)
def a9 : List Value := [.string ⟨#[120, 123, 50, 44, 51, 125]⟩, .string ⟨#[120, 120, 120, 120]⟩, .int .i64 0, .int .i64 0, .int .i64 3]
theorem k9 : Knows Try.prog 1 8 a9 (.bool true) := knows (fuel := 3000) (d := 60) seek_nil rfl (by kernel_rfl)
def kAll : List (Nat × List Value × Value) := [(8, a0, .bool true), (8, a1, .bool true), (8, a2, .bool true), (8, a3, .bool true), (9, a4, .bool true), (9, a5, .bool true), (8, a6, .bool true), (8, a7, .bool true), (8, a8, .bool true), (8, a9, .bool true)]
theorem kAll_ok : KnownOk Try.prog 1 (seek kAll) := (seek_cons k0 (seek_cons k1 (seek_cons k2 (seek_cons k3 (seek_cons k4 (seek_cons k5 (seek_cons k6 (seek_cons k7 (seek_cons k8 (seek_cons k9 seek_nil))))))))))
theorem awake : Knows Try.prog 1 17 [] (.bool true) := knows (fuel := 3000) (d := 60) kAll_ok rfl (by kernel_rfl)
theorem kAwake_ok : KnownOk Try.prog 1 (seek [(17, [], .bool true)]) := seek_cons awake seek_nil
theorem none (s : ByteArray) (n : Int) : Knows Try.prog 1 5 [.string s, .int .i64 n] (.bool true) := knows (fuel := 3000) (d := 60) kAwake_ok rfl (by kernel_rfl)
#print axioms none
end Go.Ev
