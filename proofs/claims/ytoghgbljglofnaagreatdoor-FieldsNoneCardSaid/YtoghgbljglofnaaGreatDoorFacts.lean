/-
  Closed facts of FieldsNone's row, one by one.
-/
import Derived.Test.YtoghgbljglofnaaGreatDoorRows
import Derived.Test.YtoghgbljglofnaaGreatDoorTie
import Derived.Test.YtoghgbljglofnaaGreatDoorCards
import Derived.Stop.Joined
import Derived.JoinedOf
import Derived.SevenTiedAt
namespace Go.Proofs.YtoghgbljglofnaaGreatDoor.Jo
set_option maxRecDepth 100000
theorem a1 : Rows.fieldsNoneRow.inPlace = Tryz.prog.inPlace 4 := by kernel_rfl
theorem a2 : Rows.fieldsNoneRow.unfollowed = Tryz.prog.unfollowed 4 := by kernel_rfl
theorem a3 : Rows.fieldsNoneRow.recurses = Tryz.prog.recurses 4 := by kernel_rfl
theorem a4 : Rows.fieldsNoneRow.named = Tryz.prog.varsNamed 4 := by kernel_rfl
theorem closed : joinedFacts Tryz.prog 4 Tryz.f4 Rows.fieldsNoneSpec Rows.fieldsNoneRow = true := by
  unfold joinedFacts
  rw [← a1, ← a2, ← a3, ← a4]
  kernel_rfl
theorem wf : Rows.fieldsNoneRow.wfByText (OpenSpec.ofChange Rows.fieldsNoneSpec) = true := by kernel_rfl
theorem mainIs : Tryz.prog.mainIs = some (true, "266e4d9ec18bf42a98fdf15823b56ccf635f2d07ca1bc07a4094483fbb2fbfe9".toList) := by kernel_rfl
theorem looks : true = Tryz.prog.looks [] := by kernel_rfl
theorem named : Tryz.prog.funcNamed "winnower/winnowerlaw11.FieldsNone" = some 4 := by kernel_rfl
theorem wants : ([3, 9, 33].all fun u => !Tryz.prog.wantsStandIn u) = true := by kernel_rfl
theorem goes : false = Rows.fieldsNoneRow.goesBy Tryz.prog := by kernel_rfl
theorem inst : Tryz.f4.isInstance Tryz.prog Rows.fieldsNoneRow.origin Rows.fieldsNoneRow.targs := of_decide_eq_true (by kernel_rfl)
theorem wrap : Tryz.f4.isWrapper Tryz.prog Rows.fieldsNoneRow.wrapper Rows.fieldsNoneRow.mainSum := by unfold Func.isWrapper; first | (rw [if_pos (by decide +kernel)]; kernel_rfl) | (rw [if_neg (by decide +kernel)]; exact ⟨rfl, rfl⟩)
end Go.Proofs.YtoghgbljglofnaaGreatDoor.Jo
