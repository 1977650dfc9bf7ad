/-
  World: a world that New did not make, by the evaluator.
-/
import Derived.Test.YtmoglfooadcemaaAwake
namespace Go.Ev
open Go.Proofs Go.RowKit
theorem none6 (s : ByteArray) (n : Int) : Knows Try.prog 0 5 [.int .u8 6, .string s, .int .i64 n] (.bool true) := knows (fuel := 3000) (d := 60) kAwake_ok rfl (by kernel_rfl)
theorem none7 (m : Nat) (s : ByteArray) (n : Int) : Knows Try.prog 0 5 [.int .u8 (.ofNat (m + 7)), .string s, .int .i64 n] (.bool true) := knows (fuel := 3000) (d := 60) kAwake_ok rfl (by kernel_rfl)

theorem none0 (s : ByteArray) (n : Int) : Knows Try.prog 0 5 [.int .u8 0, .string s, .int .i64 n] (.bool true) := knows (fuel := 3000) (d := 60) kAwake_ok rfl (by kernel_rfl)
theorem none1 (s : ByteArray) (n : Int) : Knows Try.prog 0 5 [.int .u8 1, .string s, .int .i64 n] (.bool true) := knows (fuel := 3000) (d := 60) kAwake_ok rfl (by kernel_rfl)
theorem none2 (s : ByteArray) (n : Int) : Knows Try.prog 0 5 [.int .u8 2, .string s, .int .i64 n] (.bool true) := knows (fuel := 3000) (d := 60) kAwake_ok rfl (by kernel_rfl)
theorem none3 (s : ByteArray) (n : Int) : Knows Try.prog 0 5 [.int .u8 3, .string s, .int .i64 n] (.bool true) := knows (fuel := 3000) (d := 60) kAwake_ok rfl (by kernel_rfl)
theorem none4 (s : ByteArray) (n : Int) : Knows Try.prog 0 5 [.int .u8 4, .string s, .int .i64 n] (.bool true) := knows (fuel := 3000) (d := 60) kAwake_ok rfl (by kernel_rfl)
theorem none5 (s : ByteArray) (n : Int) : Knows Try.prog 0 5 [.int .u8 5, .string s, .int .i64 n] (.bool true) := knows (fuel := 3000) (d := 60) kAwake_ok rfl (by kernel_rfl)
theorem none (k : Int) (hk : 0 ≤ k) (s : ByteArray) (n : Int) : Knows Try.prog 0 5 [.int .u8 k, .string s, .int .i64 n] (.bool true) := by
  obtain ⟨m, rfl⟩ := Int.eq_ofNat_of_zero_le hk
  match m with
  | 0 => exact none0 s n
  | 1 => exact none1 s n
  | 2 => exact none2 s n
  | 3 => exact none3 s n
  | 4 => exact none4 s n
  | 5 => exact none5 s n
  | 6 => exact none6 s n
  | m + 7 => exact none7 m s n
#print axioms none
end Go.Ev
