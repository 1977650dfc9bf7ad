/-
  Package arrays, beside it: a cell is itself.
-/
import Derived.Test.YtlagnklmfanmoaaArA
import Derived.Laws.StructEq
namespace Go.Proofs.Ytlagnklmfanmoaa.Ar
open Go.RowKit Go.Maps

theorem cell_same (k n : Int) (s : ByteArray) (w : World) : ∀ d, 0 < d → (Op.equalIn (d + 1) 31 (.agg #[.int .u8 k, .int .u64 n, .string s]) (.agg #[.int .u8 k, .int .u64 n, .string s])).run Try.prog w = .ok true w := by
  intro d hd
  obtain ⟨d, rfl⟩ : ∃ e, d = e + 1 := ⟨d - 1, by omega⟩
  have hf : Try.prog.underlying 31 = some (.struct (Try.prog.fieldsOf 31)) := by kernel_rfl
  have hs : Try.prog.stoodInHeld 31 = false := by kernel_rfl
  rw [run_equalIn_struct w (d + 1) 31 _ _ hf hs]
  simp [Program.fieldsOf, Try.underlying31, Op.eqFields, go_sem, Try.underlying28, Try.underlying9]
theorem cell_neq (k n : Int) (s : ByteArray) (w : World) : (binOp .neq 31 (.agg #[.int .u8 k, .int .u64 n, .string s]) (.agg #[.int .u8 k, .int .u64 n, .string s])).run Try.prog w = .ok (.bool false) w := by
  have h := cell_same k n s w 9999 (by omega)
  simp only [binOp]
  simp [Op.equal, Op.maxDepth, h]
theorem cell_eql (k n : Int) (s : ByteArray) (w : World) : (binOp .eql 31 (.agg #[.int .u8 k, .int .u64 n, .string s]) (.agg #[.int .u8 k, .int .u64 n, .string s])).run Try.prog w = .ok (.bool true) w := by
  have h := cell_same k n s w 9999 (by omega)
  simp only [binOp]
  simp [Op.equal, Op.maxDepth, h]
end Go.Proofs.Ytlagnklmfanmoaa.Ar
