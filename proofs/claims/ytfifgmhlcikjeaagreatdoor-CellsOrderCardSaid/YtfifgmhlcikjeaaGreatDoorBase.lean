/-
  What the rows of this seat list of the program's variables, as the tables of the evaluator.
-/
import Derived.Test.YtfifgmhlcikjeaaGreatDoorTab
import Derived.Test.YtfifgmhlcikjeaaGreatDoorEv7
import Derived.Test.YtfifgmhlcikjeaaGreatDoorRows
import Derived.Stop.Joined
import Derived.MakeChecks
namespace Go.Proofs.YtfifgmhlcikjeaaGreatDoor.Ro
open Go.RowKit Go.Ev Go.Lib

def laidAll : List (String × DataW Unit) := Rows.cellsNumbersRow.laid
theorem enough {W : World} (h : W.ShapedOpen Tryz.prog) : 17 ≤ W.heap.size := size_of_shaped h (by kernel_rfl) (by kernel_rfl)
set_option maxRecDepth 100000 in
theorem tab15_vals : vals Tryz.prog 221 Go.Pinned.pow10Tab = some tab15 := by kernel_rfl
set_option maxRecDepth 100000 in
theorem base_ok {W : World} (h : laidMetH Tryz.prog laidAll W) (hsh : W.ShapedOpen Tryz.prog) : Base.ok (old W) W := by
  rw [MakeChecks.laidMetH_plain _ _ _ (by kernel_rfl)] at h
  have r4 : VarReads Tryz.prog W "internal/strconv.uint64pow10" Rows.laid_internal_strconv_uint64pow10 := laidMet.reads h (by simp [laidAll, Rows.cellsNumbersRow])
  have r6 : VarReads Tryz.prog W "internal/strconv.optimize" Rows.laid_internal_strconv_optimize := laidMet.reads h (by simp [laidAll, Rows.cellsNumbersRow])
  have r7 : VarReads Tryz.prog W "internal/strconv.float64info" Rows.laid_internal_strconv_float64info := laidMet.reads h (by simp [laidAll, Rows.cellsNumbersRow])
  have r12 : VarReads Tryz.prog W "internal/strconv.float64pow10" Rows.laid_internal_strconv_float64pow10 := laidMet.reads h (by simp [laidAll, Rows.cellsNumbersRow])
  have r15 : VarReads Tryz.prog W "internal/strconv.pow10Tab" Rows.laid_internal_strconv_pow10Tab := laidMet.reads h (by simp [laidAll, Rows.cellsNumbersRow])
  obtain ⟨c4, h4⟩ := row_of_shaped (g := 4) (t := 146) hsh (by kernel_rfl) (by kernel_rfl)
  obtain ⟨c6, h6⟩ := row_of_shaped (g := 6) (t := 4) hsh (by kernel_rfl) (by kernel_rfl)
  obtain ⟨c7, h7⟩ := row_of_shaped (g := 7) (t := 165) hsh (by kernel_rfl) (by kernel_rfl)
  obtain ⟨c12, h12⟩ := row_of_shaped (g := 12) (t := 212) hsh (by kernel_rfl) (by kernel_rfl)
  obtain ⟨c15, h15⟩ := row_of_shaped (g := 15) (t := 221) hsh (by kernel_rfl) (by kernel_rfl)
  have a4 := atFlat (xs := tab4) r4 (by kernel_rfl) (by kernel_rfl) (by kernel_rfl) h4
  have a6 := atFlat (xs := tab6) r6 (by kernel_rfl) (by kernel_rfl) (by kernel_rfl) h6
  have a7 := atFlat (xs := tab7) r7 (by kernel_rfl) (by kernel_rfl) (by kernel_rfl) h7
  have a15 := atFlat (xs := tab15) r15 (by kernel_rfl) (by kernel_rfl) tab15_vals h15
  have a12 := atRow (xs := tab12) (e := 27) r12 (by kernel_rfl) (by kernel_rfl) (by kernel_rfl) (by kernel_rfl) (by kernel_rfl) (by kernel_rfl) h12
  show LaidT tabs (old W) W
  refine ⟨fun x hx => ?_, fun y hy => ?_⟩
  · simp only [tabs, List.mem_cons, List.not_mem_nil, or_false] at hx
    rcases hx with rfl | rfl | rfl | rfl
    · exact a4
    · exact a6
    · exact a7
    · exact a15
  · simp only [tabs, List.mem_cons, List.not_mem_nil, or_false] at hy
    rcases hy with rfl
    exact a12

end Go.Proofs.YtfifgmhlcikjeaaGreatDoor.Ro
