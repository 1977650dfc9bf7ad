/-
  The evaluator's tables for this translation.
-/
import Derived.Test.YtlagnklmfanmoaaGh
import Derived.Lib.MakeNoZero
import Derived.Test.YtlagnklmfanmoaaProg
namespace Go.Ev
open Go.Proofs Go.RowKit
set_option maxRecDepth 100000
instance : Base := ⟨fun _ _ => True, fun _ _ h => h⟩
abbrev start0 : Unit → VS := startVS 1
theorem start_ok : StartOk 1 start0 := startOk 1
noncomputable def U0 : TL := ⟨Try.prog.underlying 0, Try.prog.info? 0⟩
theorem U0_ok : TL.ok Try.prog 0 U0 := tl_ok (by kernel_rfl) (by kernel_rfl)
noncomputable def U1 : TL := ⟨Try.prog.underlying 1, Try.prog.info? 1⟩
theorem U1_ok : TL.ok Try.prog 1 U1 := tl_ok (by kernel_rfl) (by kernel_rfl)
noncomputable def U2 : TL := ⟨Try.prog.underlying 2, Try.prog.info? 2⟩
theorem U2_ok : TL.ok Try.prog 2 U2 := tl_ok (by kernel_rfl) (by kernel_rfl)
noncomputable def U3 : TL := ⟨Try.prog.underlying 3, Try.prog.info? 3⟩
theorem U3_ok : TL.ok Try.prog 3 U3 := tl_ok (by kernel_rfl) (by kernel_rfl)
noncomputable def U4 : TL := ⟨Try.prog.underlying 4, Try.prog.info? 4⟩
theorem U4_ok : TL.ok Try.prog 4 U4 := tl_ok (by kernel_rfl) (by kernel_rfl)
noncomputable def U5 : TL := ⟨Try.prog.underlying 5, Try.prog.info? 5⟩
theorem U5_ok : TL.ok Try.prog 5 U5 := tl_ok (by kernel_rfl) (by kernel_rfl)
noncomputable def U6 : TL := ⟨Try.prog.underlying 6, Try.prog.info? 6⟩
theorem U6_ok : TL.ok Try.prog 6 U6 := tl_ok (by kernel_rfl) (by kernel_rfl)
noncomputable def U7 : TL := ⟨Try.prog.underlying 7, Try.prog.info? 7⟩
theorem U7_ok : TL.ok Try.prog 7 U7 := tl_ok (by kernel_rfl) (by kernel_rfl)
noncomputable def U8 : TL := ⟨Try.prog.underlying 8, Try.prog.info? 8⟩
theorem U8_ok : TL.ok Try.prog 8 U8 := tl_ok (by kernel_rfl) (by kernel_rfl)
noncomputable def U9 : TL := ⟨Try.prog.underlying 9, Try.prog.info? 9⟩
theorem U9_ok : TL.ok Try.prog 9 U9 := tl_ok (by kernel_rfl) (by kernel_rfl)
noncomputable def U10 : TL := ⟨Try.prog.underlying 10, Try.prog.info? 10⟩
theorem U10_ok : TL.ok Try.prog 10 U10 := tl_ok (by kernel_rfl) (by kernel_rfl)
noncomputable def U11 : TL := ⟨Try.prog.underlying 11, Try.prog.info? 11⟩
theorem U11_ok : TL.ok Try.prog 11 U11 := tl_ok (by kernel_rfl) (by kernel_rfl)
noncomputable def U12 : TL := ⟨Try.prog.underlying 12, Try.prog.info? 12⟩
theorem U12_ok : TL.ok Try.prog 12 U12 := tl_ok (by kernel_rfl) (by kernel_rfl)
noncomputable def U13 : TL := ⟨Try.prog.underlying 13, Try.prog.info? 13⟩
theorem U13_ok : TL.ok Try.prog 13 U13 := tl_ok (by kernel_rfl) (by kernel_rfl)
noncomputable def U14 : TL := ⟨Try.prog.underlying 14, Try.prog.info? 14⟩
theorem U14_ok : TL.ok Try.prog 14 U14 := tl_ok (by kernel_rfl) (by kernel_rfl)
noncomputable def U15 : TL := ⟨Try.prog.underlying 15, Try.prog.info? 15⟩
theorem U15_ok : TL.ok Try.prog 15 U15 := tl_ok (by kernel_rfl) (by kernel_rfl)
noncomputable def U16 : TL := ⟨Try.prog.underlying 16, Try.prog.info? 16⟩
theorem U16_ok : TL.ok Try.prog 16 U16 := tl_ok (by kernel_rfl) (by kernel_rfl)
noncomputable def U17 : TL := ⟨Try.prog.underlying 17, Try.prog.info? 17⟩
theorem U17_ok : TL.ok Try.prog 17 U17 := tl_ok (by kernel_rfl) (by kernel_rfl)
noncomputable def U18 : TL := ⟨Try.prog.underlying 18, Try.prog.info? 18⟩
theorem U18_ok : TL.ok Try.prog 18 U18 := tl_ok (by kernel_rfl) (by kernel_rfl)
noncomputable def U19 : TL := ⟨Try.prog.underlying 19, Try.prog.info? 19⟩
theorem U19_ok : TL.ok Try.prog 19 U19 := tl_ok (by kernel_rfl) (by kernel_rfl)
noncomputable def U20 : TL := ⟨Try.prog.underlying 20, Try.prog.info? 20⟩
theorem U20_ok : TL.ok Try.prog 20 U20 := tl_ok (by kernel_rfl) (by kernel_rfl)
noncomputable def U21 : TL := ⟨Try.prog.underlying 21, Try.prog.info? 21⟩
theorem U21_ok : TL.ok Try.prog 21 U21 := tl_ok (by kernel_rfl) (by kernel_rfl)
noncomputable def U22 : TL := ⟨Try.prog.underlying 22, Try.prog.info? 22⟩
theorem U22_ok : TL.ok Try.prog 22 U22 := tl_ok (by kernel_rfl) (by kernel_rfl)
noncomputable def U23 : TL := ⟨Try.prog.underlying 23, Try.prog.info? 23⟩
theorem U23_ok : TL.ok Try.prog 23 U23 := tl_ok (by kernel_rfl) (by kernel_rfl)
noncomputable def U24 : TL := ⟨Try.prog.underlying 24, Try.prog.info? 24⟩
theorem U24_ok : TL.ok Try.prog 24 U24 := tl_ok (by kernel_rfl) (by kernel_rfl)
noncomputable def U25 : TL := ⟨Try.prog.underlying 25, Try.prog.info? 25⟩
theorem U25_ok : TL.ok Try.prog 25 U25 := tl_ok (by kernel_rfl) (by kernel_rfl)
noncomputable def U26 : TL := ⟨Try.prog.underlying 26, Try.prog.info? 26⟩
theorem U26_ok : TL.ok Try.prog 26 U26 := tl_ok (by kernel_rfl) (by kernel_rfl)
noncomputable def U27 : TL := ⟨Try.prog.underlying 27, Try.prog.info? 27⟩
theorem U27_ok : TL.ok Try.prog 27 U27 := tl_ok (by kernel_rfl) (by kernel_rfl)
noncomputable def U28 : TL := ⟨Try.prog.underlying 28, Try.prog.info? 28⟩
theorem U28_ok : TL.ok Try.prog 28 U28 := tl_ok (by kernel_rfl) (by kernel_rfl)
noncomputable def U29 : TL := ⟨Try.prog.underlying 29, Try.prog.info? 29⟩
theorem U29_ok : TL.ok Try.prog 29 U29 := tl_ok (by kernel_rfl) (by kernel_rfl)
noncomputable def U30 : TL := ⟨Try.prog.underlying 30, Try.prog.info? 30⟩
theorem U30_ok : TL.ok Try.prog 30 U30 := tl_ok (by kernel_rfl) (by kernel_rfl)
noncomputable def U31 : TL := ⟨Try.prog.underlying 31, Try.prog.info? 31⟩
theorem U31_ok : TL.ok Try.prog 31 U31 := tl_ok (by kernel_rfl) (by kernel_rfl)
noncomputable def U32 : TL := ⟨Try.prog.underlying 32, Try.prog.info? 32⟩
theorem U32_ok : TL.ok Try.prog 32 U32 := tl_ok (by kernel_rfl) (by kernel_rfl)
noncomputable def U33 : TL := ⟨Try.prog.underlying 33, Try.prog.info? 33⟩
theorem U33_ok : TL.ok Try.prog 33 U33 := tl_ok (by kernel_rfl) (by kernel_rfl)
noncomputable def U34 : TL := ⟨Try.prog.underlying 34, Try.prog.info? 34⟩
theorem U34_ok : TL.ok Try.prog 34 U34 := tl_ok (by kernel_rfl) (by kernel_rfl)
noncomputable def U35 : TL := ⟨Try.prog.underlying 35, Try.prog.info? 35⟩
theorem U35_ok : TL.ok Try.prog 35 U35 := tl_ok (by kernel_rfl) (by kernel_rfl)
noncomputable def U36 : TL := ⟨Try.prog.underlying 36, Try.prog.info? 36⟩
theorem U36_ok : TL.ok Try.prog 36 U36 := tl_ok (by kernel_rfl) (by kernel_rfl)
noncomputable def U37 : TL := ⟨Try.prog.underlying 37, Try.prog.info? 37⟩
theorem U37_ok : TL.ok Try.prog 37 U37 := tl_ok (by kernel_rfl) (by kernel_rfl)
noncomputable def U38 : TL := ⟨Try.prog.underlying 38, Try.prog.info? 38⟩
theorem U38_ok : TL.ok Try.prog 38 U38 := tl_ok (by kernel_rfl) (by kernel_rfl)
noncomputable def U39 : TL := ⟨Try.prog.underlying 39, Try.prog.info? 39⟩
theorem U39_ok : TL.ok Try.prog 39 U39 := tl_ok (by kernel_rfl) (by kernel_rfl)
noncomputable def U40 : TL := ⟨Try.prog.underlying 40, Try.prog.info? 40⟩
theorem U40_ok : TL.ok Try.prog 40 U40 := tl_ok (by kernel_rfl) (by kernel_rfl)
noncomputable def U41 : TL := ⟨Try.prog.underlying 41, Try.prog.info? 41⟩
theorem U41_ok : TL.ok Try.prog 41 U41 := tl_ok (by kernel_rfl) (by kernel_rfl)
noncomputable def U42 : TL := ⟨Try.prog.underlying 42, Try.prog.info? 42⟩
theorem U42_ok : TL.ok Try.prog 42 U42 := tl_ok (by kernel_rfl) (by kernel_rfl)
noncomputable def U43 : TL := ⟨Try.prog.underlying 43, Try.prog.info? 43⟩
theorem U43_ok : TL.ok Try.prog 43 U43 := tl_ok (by kernel_rfl) (by kernel_rfl)
noncomputable def U44 : TL := ⟨Try.prog.underlying 44, Try.prog.info? 44⟩
theorem U44_ok : TL.ok Try.prog 44 U44 := tl_ok (by kernel_rfl) (by kernel_rfl)
noncomputable def U45 : TL := ⟨Try.prog.underlying 45, Try.prog.info? 45⟩
theorem U45_ok : TL.ok Try.prog 45 U45 := tl_ok (by kernel_rfl) (by kernel_rfl)
noncomputable def U46 : TL := ⟨Try.prog.underlying 46, Try.prog.info? 46⟩
theorem U46_ok : TL.ok Try.prog 46 U46 := tl_ok (by kernel_rfl) (by kernel_rfl)
noncomputable def U47 : TL := ⟨Try.prog.underlying 47, Try.prog.info? 47⟩
theorem U47_ok : TL.ok Try.prog 47 U47 := tl_ok (by kernel_rfl) (by kernel_rfl)
noncomputable def U48 : TL := ⟨Try.prog.underlying 48, Try.prog.info? 48⟩
theorem U48_ok : TL.ok Try.prog 48 U48 := tl_ok (by kernel_rfl) (by kernel_rfl)
noncomputable def U49 : TL := ⟨Try.prog.underlying 49, Try.prog.info? 49⟩
theorem U49_ok : TL.ok Try.prog 49 U49 := tl_ok (by kernel_rfl) (by kernel_rfl)
noncomputable def U50 : TL := ⟨Try.prog.underlying 50, Try.prog.info? 50⟩
theorem U50_ok : TL.ok Try.prog 50 U50 := tl_ok (by kernel_rfl) (by kernel_rfl)
noncomputable def U51 : TL := ⟨Try.prog.underlying 51, Try.prog.info? 51⟩
theorem U51_ok : TL.ok Try.prog 51 U51 := tl_ok (by kernel_rfl) (by kernel_rfl)
noncomputable def U52 : TL := ⟨Try.prog.underlying 52, Try.prog.info? 52⟩
theorem U52_ok : TL.ok Try.prog 52 U52 := tl_ok (by kernel_rfl) (by kernel_rfl)
noncomputable def U53 : TL := ⟨Try.prog.underlying 53, Try.prog.info? 53⟩
theorem U53_ok : TL.ok Try.prog 53 U53 := tl_ok (by kernel_rfl) (by kernel_rfl)
noncomputable def U54 : TL := ⟨Try.prog.underlying 54, Try.prog.info? 54⟩
theorem U54_ok : TL.ok Try.prog 54 U54 := tl_ok (by kernel_rfl) (by kernel_rfl)
noncomputable def U55 : TL := ⟨Try.prog.underlying 55, Try.prog.info? 55⟩
theorem U55_ok : TL.ok Try.prog 55 U55 := tl_ok (by kernel_rfl) (by kernel_rfl)
noncomputable def U56 : TL := ⟨Try.prog.underlying 56, Try.prog.info? 56⟩
theorem U56_ok : TL.ok Try.prog 56 U56 := tl_ok (by kernel_rfl) (by kernel_rfl)
noncomputable def U57 : TL := ⟨Try.prog.underlying 57, Try.prog.info? 57⟩
theorem U57_ok : TL.ok Try.prog 57 U57 := tl_ok (by kernel_rfl) (by kernel_rfl)
noncomputable def U58 : TL := ⟨Try.prog.underlying 58, Try.prog.info? 58⟩
theorem U58_ok : TL.ok Try.prog 58 U58 := tl_ok (by kernel_rfl) (by kernel_rfl)
noncomputable def U59 : TL := ⟨Try.prog.underlying 59, Try.prog.info? 59⟩
theorem U59_ok : TL.ok Try.prog 59 U59 := tl_ok (by kernel_rfl) (by kernel_rfl)
noncomputable def U60 : TL := ⟨Try.prog.underlying 60, Try.prog.info? 60⟩
theorem U60_ok : TL.ok Try.prog 60 U60 := tl_ok (by kernel_rfl) (by kernel_rfl)
noncomputable def U61 : TL := ⟨Try.prog.underlying 61, Try.prog.info? 61⟩
theorem U61_ok : TL.ok Try.prog 61 U61 := tl_ok (by kernel_rfl) (by kernel_rfl)
noncomputable def U62 : TL := ⟨Try.prog.underlying 62, Try.prog.info? 62⟩
theorem U62_ok : TL.ok Try.prog 62 U62 := tl_ok (by kernel_rfl) (by kernel_rfl)
noncomputable def U63 : TL := ⟨Try.prog.underlying 63, Try.prog.info? 63⟩
theorem U63_ok : TL.ok Try.prog 63 U63 := tl_ok (by kernel_rfl) (by kernel_rfl)
noncomputable def U64 : TL := ⟨Try.prog.underlying 64, Try.prog.info? 64⟩
theorem U64_ok : TL.ok Try.prog 64 U64 := tl_ok (by kernel_rfl) (by kernel_rfl)
noncomputable def U65 : TL := ⟨Try.prog.underlying 65, Try.prog.info? 65⟩
theorem U65_ok : TL.ok Try.prog 65 U65 := tl_ok (by kernel_rfl) (by kernel_rfl)
noncomputable def U66 : TL := ⟨Try.prog.underlying 66, Try.prog.info? 66⟩
theorem U66_ok : TL.ok Try.prog 66 U66 := tl_ok (by kernel_rfl) (by kernel_rfl)
noncomputable def U67 : TL := ⟨Try.prog.underlying 67, Try.prog.info? 67⟩
theorem U67_ok : TL.ok Try.prog 67 U67 := tl_ok (by kernel_rfl) (by kernel_rfl)
noncomputable def U68 : TL := ⟨Try.prog.underlying 68, Try.prog.info? 68⟩
theorem U68_ok : TL.ok Try.prog 68 U68 := tl_ok (by kernel_rfl) (by kernel_rfl)
noncomputable def U69 : TL := ⟨Try.prog.underlying 69, Try.prog.info? 69⟩
theorem U69_ok : TL.ok Try.prog 69 U69 := tl_ok (by kernel_rfl) (by kernel_rfl)
noncomputable def U70 : TL := ⟨Try.prog.underlying 70, Try.prog.info? 70⟩
theorem U70_ok : TL.ok Try.prog 70 U70 := tl_ok (by kernel_rfl) (by kernel_rfl)
noncomputable def U71 : TL := ⟨Try.prog.underlying 71, Try.prog.info? 71⟩
theorem U71_ok : TL.ok Try.prog 71 U71 := tl_ok (by kernel_rfl) (by kernel_rfl)
noncomputable def U72 : TL := ⟨Try.prog.underlying 72, Try.prog.info? 72⟩
theorem U72_ok : TL.ok Try.prog 72 U72 := tl_ok (by kernel_rfl) (by kernel_rfl)
noncomputable def U73 : TL := ⟨Try.prog.underlying 73, Try.prog.info? 73⟩
theorem U73_ok : TL.ok Try.prog 73 U73 := tl_ok (by kernel_rfl) (by kernel_rfl)
noncomputable def U74 : TL := ⟨Try.prog.underlying 74, Try.prog.info? 74⟩
theorem U74_ok : TL.ok Try.prog 74 U74 := tl_ok (by kernel_rfl) (by kernel_rfl)
noncomputable def U75 : TL := ⟨Try.prog.underlying 75, Try.prog.info? 75⟩
theorem U75_ok : TL.ok Try.prog 75 U75 := tl_ok (by kernel_rfl) (by kernel_rfl)
noncomputable def U76 : TL := ⟨Try.prog.underlying 76, Try.prog.info? 76⟩
theorem U76_ok : TL.ok Try.prog 76 U76 := tl_ok (by kernel_rfl) (by kernel_rfl)
noncomputable def U77 : TL := ⟨Try.prog.underlying 77, Try.prog.info? 77⟩
theorem U77_ok : TL.ok Try.prog 77 U77 := tl_ok (by kernel_rfl) (by kernel_rfl)
noncomputable def U78 : TL := ⟨Try.prog.underlying 78, Try.prog.info? 78⟩
theorem U78_ok : TL.ok Try.prog 78 U78 := tl_ok (by kernel_rfl) (by kernel_rfl)
noncomputable def U79 : TL := ⟨Try.prog.underlying 79, Try.prog.info? 79⟩
theorem U79_ok : TL.ok Try.prog 79 U79 := tl_ok (by kernel_rfl) (by kernel_rfl)
noncomputable def U80 : TL := ⟨Try.prog.underlying 80, Try.prog.info? 80⟩
theorem U80_ok : TL.ok Try.prog 80 U80 := tl_ok (by kernel_rfl) (by kernel_rfl)
noncomputable def U81 : TL := ⟨Try.prog.underlying 81, Try.prog.info? 81⟩
theorem U81_ok : TL.ok Try.prog 81 U81 := tl_ok (by kernel_rfl) (by kernel_rfl)
noncomputable def U82 : TL := ⟨Try.prog.underlying 82, Try.prog.info? 82⟩
theorem U82_ok : TL.ok Try.prog 82 U82 := tl_ok (by kernel_rfl) (by kernel_rfl)
noncomputable def U83 : TL := ⟨Try.prog.underlying 83, Try.prog.info? 83⟩
theorem U83_ok : TL.ok Try.prog 83 U83 := tl_ok (by kernel_rfl) (by kernel_rfl)
noncomputable def U84 : TL := ⟨Try.prog.underlying 84, Try.prog.info? 84⟩
theorem U84_ok : TL.ok Try.prog 84 U84 := tl_ok (by kernel_rfl) (by kernel_rfl)
noncomputable def U85 : TL := ⟨Try.prog.underlying 85, Try.prog.info? 85⟩
theorem U85_ok : TL.ok Try.prog 85 U85 := tl_ok (by kernel_rfl) (by kernel_rfl)
noncomputable def U86 : TL := ⟨Try.prog.underlying 86, Try.prog.info? 86⟩
theorem U86_ok : TL.ok Try.prog 86 U86 := tl_ok (by kernel_rfl) (by kernel_rfl)
noncomputable def U87 : TL := ⟨Try.prog.underlying 87, Try.prog.info? 87⟩
theorem U87_ok : TL.ok Try.prog 87 U87 := tl_ok (by kernel_rfl) (by kernel_rfl)
noncomputable def U88 : TL := ⟨Try.prog.underlying 88, Try.prog.info? 88⟩
theorem U88_ok : TL.ok Try.prog 88 U88 := tl_ok (by kernel_rfl) (by kernel_rfl)
noncomputable def U89 : TL := ⟨Try.prog.underlying 89, Try.prog.info? 89⟩
theorem U89_ok : TL.ok Try.prog 89 U89 := tl_ok (by kernel_rfl) (by kernel_rfl)
noncomputable def U90 : TL := ⟨Try.prog.underlying 90, Try.prog.info? 90⟩
theorem U90_ok : TL.ok Try.prog 90 U90 := tl_ok (by kernel_rfl) (by kernel_rfl)
noncomputable def U91 : TL := ⟨Try.prog.underlying 91, Try.prog.info? 91⟩
theorem U91_ok : TL.ok Try.prog 91 U91 := tl_ok (by kernel_rfl) (by kernel_rfl)
noncomputable def U92 : TL := ⟨Try.prog.underlying 92, Try.prog.info? 92⟩
theorem U92_ok : TL.ok Try.prog 92 U92 := tl_ok (by kernel_rfl) (by kernel_rfl)
noncomputable def U93 : TL := ⟨Try.prog.underlying 93, Try.prog.info? 93⟩
theorem U93_ok : TL.ok Try.prog 93 U93 := tl_ok (by kernel_rfl) (by kernel_rfl)
noncomputable def U94 : TL := ⟨Try.prog.underlying 94, Try.prog.info? 94⟩
theorem U94_ok : TL.ok Try.prog 94 U94 := tl_ok (by kernel_rfl) (by kernel_rfl)
noncomputable def U95 : TL := ⟨Try.prog.underlying 95, Try.prog.info? 95⟩
theorem U95_ok : TL.ok Try.prog 95 U95 := tl_ok (by kernel_rfl) (by kernel_rfl)
noncomputable def U96 : TL := ⟨Try.prog.underlying 96, Try.prog.info? 96⟩
theorem U96_ok : TL.ok Try.prog 96 U96 := tl_ok (by kernel_rfl) (by kernel_rfl)
noncomputable def U97 : TL := ⟨Try.prog.underlying 97, Try.prog.info? 97⟩
theorem U97_ok : TL.ok Try.prog 97 U97 := tl_ok (by kernel_rfl) (by kernel_rfl)
noncomputable def U98 : TL := ⟨Try.prog.underlying 98, Try.prog.info? 98⟩
theorem U98_ok : TL.ok Try.prog 98 U98 := tl_ok (by kernel_rfl) (by kernel_rfl)
noncomputable def U99 : TL := ⟨Try.prog.underlying 99, Try.prog.info? 99⟩
theorem U99_ok : TL.ok Try.prog 99 U99 := tl_ok (by kernel_rfl) (by kernel_rfl)
noncomputable def U100 : TL := ⟨Try.prog.underlying 100, Try.prog.info? 100⟩
theorem U100_ok : TL.ok Try.prog 100 U100 := tl_ok (by kernel_rfl) (by kernel_rfl)
noncomputable def U101 : TL := ⟨Try.prog.underlying 101, Try.prog.info? 101⟩
theorem U101_ok : TL.ok Try.prog 101 U101 := tl_ok (by kernel_rfl) (by kernel_rfl)
noncomputable def U102 : TL := ⟨Try.prog.underlying 102, Try.prog.info? 102⟩
theorem U102_ok : TL.ok Try.prog 102 U102 := tl_ok (by kernel_rfl) (by kernel_rfl)
noncomputable def U103 : TL := ⟨Try.prog.underlying 103, Try.prog.info? 103⟩
theorem U103_ok : TL.ok Try.prog 103 U103 := tl_ok (by kernel_rfl) (by kernel_rfl)
noncomputable def U104 : TL := ⟨Try.prog.underlying 104, Try.prog.info? 104⟩
theorem U104_ok : TL.ok Try.prog 104 U104 := tl_ok (by kernel_rfl) (by kernel_rfl)
noncomputable def U105 : TL := ⟨Try.prog.underlying 105, Try.prog.info? 105⟩
theorem U105_ok : TL.ok Try.prog 105 U105 := tl_ok (by kernel_rfl) (by kernel_rfl)
noncomputable def U106 : TL := ⟨Try.prog.underlying 106, Try.prog.info? 106⟩
theorem U106_ok : TL.ok Try.prog 106 U106 := tl_ok (by kernel_rfl) (by kernel_rfl)
noncomputable def typesT : Tr TL := (.node 53 (.node 26 (.node 13 (.node 6 (.node 3 (.node 1 (.leaf 0 U0) (.node 2 (.leaf 1 U1) (.leaf 2 U2))) (.node 4 (.leaf 3 U3) (.node 5 (.leaf 4 U4) (.leaf 5 U5)))) (.node 9 (.node 7 (.leaf 6 U6) (.node 8 (.leaf 7 U7) (.leaf 8 U8))) (.node 11 (.node 10 (.leaf 9 U9) (.leaf 10 U10)) (.node 12 (.leaf 11 U11) (.leaf 12 U12))))) (.node 19 (.node 16 (.node 14 (.leaf 13 U13) (.node 15 (.leaf 14 U14) (.leaf 15 U15))) (.node 17 (.leaf 16 U16) (.node 18 (.leaf 17 U17) (.leaf 18 U18)))) (.node 22 (.node 20 (.leaf 19 U19) (.node 21 (.leaf 20 U20) (.leaf 21 U21))) (.node 24 (.node 23 (.leaf 22 U22) (.leaf 23 U23)) (.node 25 (.leaf 24 U24) (.leaf 25 U25)))))) (.node 39 (.node 32 (.node 29 (.node 27 (.leaf 26 U26) (.node 28 (.leaf 27 U27) (.leaf 28 U28))) (.node 30 (.leaf 29 U29) (.node 31 (.leaf 30 U30) (.leaf 31 U31)))) (.node 35 (.node 33 (.leaf 32 U32) (.node 34 (.leaf 33 U33) (.leaf 34 U34))) (.node 37 (.node 36 (.leaf 35 U35) (.leaf 36 U36)) (.node 38 (.leaf 37 U37) (.leaf 38 U38))))) (.node 46 (.node 42 (.node 40 (.leaf 39 U39) (.node 41 (.leaf 40 U40) (.leaf 41 U41))) (.node 44 (.node 43 (.leaf 42 U42) (.leaf 43 U43)) (.node 45 (.leaf 44 U44) (.leaf 45 U45)))) (.node 49 (.node 47 (.leaf 46 U46) (.node 48 (.leaf 47 U47) (.leaf 48 U48))) (.node 51 (.node 50 (.leaf 49 U49) (.leaf 50 U50)) (.node 52 (.leaf 51 U51) (.leaf 52 U52))))))) (.node 80 (.node 66 (.node 59 (.node 56 (.node 54 (.leaf 53 U53) (.node 55 (.leaf 54 U54) (.leaf 55 U55))) (.node 57 (.leaf 56 U56) (.node 58 (.leaf 57 U57) (.leaf 58 U58)))) (.node 62 (.node 60 (.leaf 59 U59) (.node 61 (.leaf 60 U60) (.leaf 61 U61))) (.node 64 (.node 63 (.leaf 62 U62) (.leaf 63 U63)) (.node 65 (.leaf 64 U64) (.leaf 65 U65))))) (.node 73 (.node 69 (.node 67 (.leaf 66 U66) (.node 68 (.leaf 67 U67) (.leaf 68 U68))) (.node 71 (.node 70 (.leaf 69 U69) (.leaf 70 U70)) (.node 72 (.leaf 71 U71) (.leaf 72 U72)))) (.node 76 (.node 74 (.leaf 73 U73) (.node 75 (.leaf 74 U74) (.leaf 75 U75))) (.node 78 (.node 77 (.leaf 76 U76) (.leaf 77 U77)) (.node 79 (.leaf 78 U78) (.leaf 79 U79)))))) (.node 93 (.node 86 (.node 83 (.node 81 (.leaf 80 U80) (.node 82 (.leaf 81 U81) (.leaf 82 U82))) (.node 84 (.leaf 83 U83) (.node 85 (.leaf 84 U84) (.leaf 85 U85)))) (.node 89 (.node 87 (.leaf 86 U86) (.node 88 (.leaf 87 U87) (.leaf 88 U88))) (.node 91 (.node 90 (.leaf 89 U89) (.leaf 90 U90)) (.node 92 (.leaf 91 U91) (.leaf 92 U92))))) (.node 100 (.node 96 (.node 94 (.leaf 93 U93) (.node 95 (.leaf 94 U94) (.leaf 95 U95))) (.node 98 (.node 97 (.leaf 96 U96) (.leaf 97 U97)) (.node 99 (.leaf 98 U98) (.leaf 99 U99)))) (.node 103 (.node 101 (.leaf 100 U100) (.node 102 (.leaf 101 U101) (.leaf 102 U102))) (.node 105 (.node 104 (.leaf 103 U103) (.leaf 104 U104)) (.node 106 (.leaf 105 U105) (.leaf 106 U106))))))))
theorem typesT_ok : typesT.All (TL.ok Try.prog) := ⟨⟨⟨⟨⟨⟨U0_ok, ⟨U1_ok, U2_ok⟩⟩, ⟨U3_ok, ⟨U4_ok, U5_ok⟩⟩⟩, ⟨⟨U6_ok, ⟨U7_ok, U8_ok⟩⟩, ⟨⟨U9_ok, U10_ok⟩, ⟨U11_ok, U12_ok⟩⟩⟩⟩, ⟨⟨⟨U13_ok, ⟨U14_ok, U15_ok⟩⟩, ⟨U16_ok, ⟨U17_ok, U18_ok⟩⟩⟩, ⟨⟨U19_ok, ⟨U20_ok, U21_ok⟩⟩, ⟨⟨U22_ok, U23_ok⟩, ⟨U24_ok, U25_ok⟩⟩⟩⟩⟩, ⟨⟨⟨⟨U26_ok, ⟨U27_ok, U28_ok⟩⟩, ⟨U29_ok, ⟨U30_ok, U31_ok⟩⟩⟩, ⟨⟨U32_ok, ⟨U33_ok, U34_ok⟩⟩, ⟨⟨U35_ok, U36_ok⟩, ⟨U37_ok, U38_ok⟩⟩⟩⟩, ⟨⟨⟨U39_ok, ⟨U40_ok, U41_ok⟩⟩, ⟨⟨U42_ok, U43_ok⟩, ⟨U44_ok, U45_ok⟩⟩⟩, ⟨⟨U46_ok, ⟨U47_ok, U48_ok⟩⟩, ⟨⟨U49_ok, U50_ok⟩, ⟨U51_ok, U52_ok⟩⟩⟩⟩⟩⟩, ⟨⟨⟨⟨⟨U53_ok, ⟨U54_ok, U55_ok⟩⟩, ⟨U56_ok, ⟨U57_ok, U58_ok⟩⟩⟩, ⟨⟨U59_ok, ⟨U60_ok, U61_ok⟩⟩, ⟨⟨U62_ok, U63_ok⟩, ⟨U64_ok, U65_ok⟩⟩⟩⟩, ⟨⟨⟨U66_ok, ⟨U67_ok, U68_ok⟩⟩, ⟨⟨U69_ok, U70_ok⟩, ⟨U71_ok, U72_ok⟩⟩⟩, ⟨⟨U73_ok, ⟨U74_ok, U75_ok⟩⟩, ⟨⟨U76_ok, U77_ok⟩, ⟨U78_ok, U79_ok⟩⟩⟩⟩⟩, ⟨⟨⟨⟨U80_ok, ⟨U81_ok, U82_ok⟩⟩, ⟨U83_ok, ⟨U84_ok, U85_ok⟩⟩⟩, ⟨⟨U86_ok, ⟨U87_ok, U88_ok⟩⟩, ⟨⟨U89_ok, U90_ok⟩, ⟨U91_ok, U92_ok⟩⟩⟩⟩, ⟨⟨⟨U93_ok, ⟨U94_ok, U95_ok⟩⟩, ⟨⟨U96_ok, U97_ok⟩, ⟨U98_ok, U99_ok⟩⟩⟩, ⟨⟨U100_ok, ⟨U101_ok, U102_ok⟩⟩, ⟨⟨U103_ok, U104_ok⟩, ⟨U105_ok, U106_ok⟩⟩⟩⟩⟩⟩⟩
noncomputable def F5 : VF := ⟨Try.f5.ntmps, Try.f5.results.toList, Try.f5.body.getD .skip, []⟩
theorem F5_ok : VF.ok Try.prog 1 5 F5 := ⟨by kernel_rfl, Try.f5, Try.func5, by kernel_rfl, rfl, rfl⟩
noncomputable def F8 : VF := ⟨Try.f8.ntmps, Try.f8.results.toList, Try.f8.body.getD .skip, []⟩
theorem F8_ok : VF.ok Try.prog 1 8 F8 := ⟨by kernel_rfl, Try.f8, Try.func8, by kernel_rfl, rfl, rfl⟩
noncomputable def F9 : VF := ⟨Try.f9.ntmps, Try.f9.results.toList, Try.f9.body.getD .skip, [(3, ⟨7, [5], [[], [5]], [[(0, 0)], [(0, 0)], [(0, 0)], [(0, 0)], [(0, 0)], [(0, 1)], [(0, 0), (1, 1)]], 1, [], none⟩)]⟩
theorem F9_ok : VF.ok Try.prog 1 9 F9 := ⟨by kernel_rfl, Try.f9, Try.func9, by kernel_rfl, rfl, rfl⟩
noncomputable def F10 : VF := ⟨Try.f10.ntmps, Try.f10.results.toList, Try.f10.body.getD .skip, []⟩
theorem F10_ok : VF.ok Try.prog 1 10 F10 := ⟨by kernel_rfl, Try.f10, Try.func10, by kernel_rfl, rfl, rfl⟩
noncomputable def F11 : VF := ⟨Try.f11.ntmps, Try.f11.results.toList, Try.f11.body.getD .skip, []⟩
theorem F11_ok : VF.ok Try.prog 1 11 F11 := ⟨by kernel_rfl, Try.f11, Try.func11, by kernel_rfl, rfl, rfl⟩
noncomputable def F12 : VF := ⟨Try.f12.ntmps, Try.f12.results.toList, Try.f12.body.getD .skip, []⟩
theorem F12_ok : VF.ok Try.prog 1 12 F12 := ⟨by kernel_rfl, Try.f12, Try.func12, by kernel_rfl, rfl, rfl⟩
noncomputable def F13 : VF := ⟨Try.f13.ntmps, Try.f13.results.toList, Try.f13.body.getD .skip, []⟩
theorem F13_ok : VF.ok Try.prog 1 13 F13 := ⟨by kernel_rfl, Try.f13, Try.func13, by kernel_rfl, rfl, rfl⟩
noncomputable def F14 : VF := ⟨Try.f14.ntmps, Try.f14.results.toList, Try.f14.body.getD .skip, []⟩
theorem F14_ok : VF.ok Try.prog 1 14 F14 := ⟨by kernel_rfl, Try.f14, Try.func14, by kernel_rfl, rfl, rfl⟩
noncomputable def F15 : VF := ⟨Try.f15.ntmps, Try.f15.results.toList, Try.f15.body.getD .skip, []⟩
theorem F15_ok : VF.ok Try.prog 1 15 F15 := ⟨by kernel_rfl, Try.f15, Try.func15, by kernel_rfl, rfl, rfl⟩
noncomputable def F16 : VF := ⟨Try.f16.ntmps, Try.f16.results.toList, Try.f16.body.getD .skip, []⟩
theorem F16_ok : VF.ok Try.prog 1 16 F16 := ⟨by kernel_rfl, Try.f16, Try.func16, by kernel_rfl, rfl, rfl⟩
noncomputable def F17 : VF := ⟨Try.f17.ntmps, Try.f17.results.toList, Try.f17.body.getD .skip, []⟩
theorem F17_ok : VF.ok Try.prog 1 17 F17 := ⟨by kernel_rfl, Try.f17, Try.func17, by kernel_rfl, rfl, rfl⟩
noncomputable def F18 : VF := ⟨Try.f18.ntmps, Try.f18.results.toList, Try.f18.body.getD .skip, []⟩
theorem F18_ok : VF.ok Try.prog 1 18 F18 := ⟨by kernel_rfl, Try.f18, Try.func18, by kernel_rfl, rfl, rfl⟩
noncomputable def F19 : VF := ⟨Try.f19.ntmps, Try.f19.results.toList, Try.f19.body.getD .skip, []⟩
theorem F19_ok : VF.ok Try.prog 1 19 F19 := ⟨by kernel_rfl, Try.f19, Try.func19, by kernel_rfl, rfl, rfl⟩
noncomputable def F20 : VF := ⟨Try.f20.ntmps, Try.f20.results.toList, Try.f20.body.getD .skip, [(9, ⟨32, [29, 31], [[], [29], [29, 31]], [[(0, 0)], [(0, 0)], [(0, 0)], [(0, 0)], [(0, 0)], [(0, 0)], [(0, 0)], [(0, 0)], [(0, 0)], [(0, 0)], [(0, 0)], [(0, 0)], [(0, 0)], [(0, 0)], [(0, 0)], [(0, 0)], [(0, 0)], [(0, 0)], [(0, 0)], [(0, 0)], [(0, 0)], [(0, 0)], [(0, 0)], [(0, 0)], [(0, 0)], [(0, 0)], [(0, 0)], [(0, 0)], [(0, 0)], [(0, 1)], [(0, 0), (1, 1)], [(1, 2)]], 2, [(30, 31)], none⟩)]⟩
theorem F20_ok : VF.ok Try.prog 1 20 F20 := ⟨by kernel_rfl, Try.f20, Try.func20, by kernel_rfl, rfl, rfl⟩
noncomputable def F28 : VF := ⟨Try.f28.ntmps, Try.f28.results.toList, Try.f28.body.getD .skip, [(6, ⟨8, [], [[]], [[(0, 0)], [(0, 0)], [(0, 0)], [(0, 0)], [(0, 0)], [(0, 0)], [(0, 0)], [(0, 0)]], 0, [], none⟩)]⟩
theorem F28_ok : VF.ok Try.prog 1 28 F28 := ⟨by kernel_rfl, Try.f28, Try.func28, by kernel_rfl, rfl, rfl⟩
noncomputable def F29 : VF := ⟨Try.f29.ntmps, Try.f29.results.toList, Try.f29.body.getD .skip, []⟩
theorem F29_ok : VF.ok Try.prog 1 29 F29 := ⟨by kernel_rfl, Try.f29, Try.func29, by kernel_rfl, rfl, rfl⟩
noncomputable def F30 : VF := ⟨Try.f30.ntmps, Try.f30.results.toList, Try.f30.body.getD .skip, [(1, ⟨5, [3, 4], [[], [3], [3, 4]], [[(0, 0), (1, 1)], [(0, 0), (1, 1)], [(0, 0)], [(0, 1)], [(1, 2)]], 2, [(1, 4)], none⟩)]⟩
theorem F30_ok : VF.ok Try.prog 1 30 F30 := ⟨by kernel_rfl, Try.f30, Try.func30, by kernel_rfl, rfl, rfl⟩
noncomputable def F31 : VF := ⟨Try.f31.ntmps, Try.f31.results.toList, Try.f31.body.getD .skip, []⟩
theorem F31_ok : VF.ok Try.prog 1 31 F31 := ⟨by kernel_rfl, Try.f31, Try.func31, by kernel_rfl, rfl, rfl⟩
noncomputable def F32 : VF := ⟨Try.f32.ntmps, Try.f32.results.toList, Try.f32.body.getD .skip, []⟩
theorem F32_ok : VF.ok Try.prog 1 32 F32 := ⟨by kernel_rfl, Try.f32, Try.func32, by kernel_rfl, rfl, rfl⟩
noncomputable def F33 : VF := ⟨Try.f33.ntmps, Try.f33.results.toList, Try.f33.body.getD .skip, [(6, ⟨10, [], [[]], [[(0, 0)], [(0, 0)], [(0, 0)], [(0, 0)], [(0, 0)], [(0, 0)], [(0, 0)], [(0, 0)], [(0, 0)], [(0, 0)]], 0, [], none⟩)]⟩
theorem F33_ok : VF.ok Try.prog 1 33 F33 := ⟨by kernel_rfl, Try.f33, Try.func33, by kernel_rfl, rfl, rfl⟩
noncomputable def F34 : VF := ⟨Try.f34.ntmps, Try.f34.results.toList, Try.f34.body.getD .skip, []⟩
theorem F34_ok : VF.ok Try.prog 1 34 F34 := ⟨by kernel_rfl, Try.f34, Try.func34, by kernel_rfl, rfl, rfl⟩
noncomputable def F36 : VF := ⟨Try.f36.ntmps, Try.f36.results.toList, Try.f36.body.getD .skip, []⟩
theorem F36_ok : VF.ok Try.prog 1 36 F36 := ⟨by kernel_rfl, Try.f36, Try.func36, by kernel_rfl, rfl, rfl⟩
noncomputable def F38 : VF := ⟨Try.f38.ntmps, Try.f38.results.toList, Try.f38.body.getD .skip, [(3, ⟨8, [6, 7], [[], [6], [6, 7]], [[(0, 0), (1, 1), (2, 2)], [(0, 0), (1, 1)], [(0, 0), (1, 1)], [(0, 0), (1, 1)], [(0, 0), (1, 1)], [(0, 0)], [(0, 1)], [(1, 2)]], 2, [], none⟩), (2, ⟨7, [], [[]], [[(0, 0)], [(0, 0)], [(0, 0)], [(0, 0)], [(0, 0)], [(0, 0)], [(0, 0)]], 0, [], none⟩)]⟩
theorem F38_ok : VF.ok Try.prog 1 38 F38 := ⟨by kernel_rfl, Try.f38, Try.func38, by kernel_rfl, rfl, rfl⟩
noncomputable def F39 : VF := ⟨Try.f39.ntmps, Try.f39.results.toList, Try.f39.body.getD .skip, []⟩
theorem F39_ok : VF.ok Try.prog 1 39 F39 := ⟨by kernel_rfl, Try.f39, Try.func39, by kernel_rfl, rfl, rfl⟩
noncomputable def F40 : VF := ⟨Try.f40.ntmps, Try.f40.results.toList, Try.f40.body.getD .skip, [(3, ⟨12, [], [[]], [[(0, 0)], [(0, 0)], [(0, 0)], [(0, 0)], [(0, 0)], [(0, 0)], [(0, 0)], [(0, 0)], [(0, 0)], [(0, 0)], [(0, 0)], [(0, 0)]], 0, [], none⟩)]⟩
theorem F40_ok : VF.ok Try.prog 1 40 F40 := ⟨by kernel_rfl, Try.f40, Try.func40, by kernel_rfl, rfl, rfl⟩
noncomputable def F41 : VF := ⟨Try.f41.ntmps, Try.f41.results.toList, Try.f41.body.getD .skip, []⟩
theorem F41_ok : VF.ok Try.prog 1 41 F41 := ⟨by kernel_rfl, Try.f41, Try.func41, by kernel_rfl, rfl, rfl⟩
noncomputable def F42 : VF := ⟨Try.f42.ntmps, Try.f42.results.toList, Try.f42.body.getD .skip, [(1, ⟨10, [], [[]], [[(0, 0)], [(0, 0)], [(0, 0)], [(0, 0)], [(0, 0)], [(0, 0)], [(0, 0)], [(0, 0)], [(0, 0)], [(0, 0)]], 0, [], none⟩)]⟩
theorem F42_ok : VF.ok Try.prog 1 42 F42 := ⟨by kernel_rfl, Try.f42, Try.func42, by kernel_rfl, rfl, rfl⟩
noncomputable def F43 : VF := ⟨Try.f43.ntmps, Try.f43.results.toList, Try.f43.body.getD .skip, []⟩
theorem F43_ok : VF.ok Try.prog 1 43 F43 := ⟨by kernel_rfl, Try.f43, Try.func43, by kernel_rfl, rfl, rfl⟩
noncomputable def F44 : VF := ⟨Try.f44.ntmps, Try.f44.results.toList, Try.f44.body.getD .skip, [(0, ⟨14, [8], [[], [8]], [[(0, 0)], [(0, 0)], [(0, 0)], [(0, 0)], [(0, 0)], [(0, 0)], [(0, 0)], [(0, 0)], [(0, 1)], [(0, 0), (1, 1)], [(0, 0), (1, 1)], [(0, 0), (1, 1)], [(0, 0), (1, 1)], [(0, 0), (1, 1)]], 1, [], none⟩)]⟩
theorem F44_ok : VF.ok Try.prog 1 44 F44 := ⟨by kernel_rfl, Try.f44, Try.func44, by kernel_rfl, rfl, rfl⟩
noncomputable def funcsT : Tr VF := (.node 28 (.node 14 (.node 10 (.node 8 (.leaf 5 F5) (.node 9 (.leaf 8 F8) (.leaf 9 F9))) (.node 12 (.node 11 (.leaf 10 F10) (.leaf 11 F11)) (.node 13 (.leaf 12 F12) (.leaf 13 F13)))) (.node 17 (.node 15 (.leaf 14 F14) (.node 16 (.leaf 15 F15) (.leaf 16 F16))) (.node 19 (.node 18 (.leaf 17 F17) (.leaf 18 F18)) (.node 20 (.leaf 19 F19) (.leaf 20 F20))))) (.node 36 (.node 31 (.node 29 (.leaf 28 F28) (.node 30 (.leaf 29 F29) (.leaf 30 F30))) (.node 33 (.node 32 (.leaf 31 F31) (.leaf 32 F32)) (.node 34 (.leaf 33 F33) (.leaf 34 F34)))) (.node 41 (.node 39 (.node 38 (.leaf 36 F36) (.leaf 38 F38)) (.node 40 (.leaf 39 F39) (.leaf 40 F40))) (.node 43 (.node 42 (.leaf 41 F41) (.leaf 42 F42)) (.node 44 (.leaf 43 F43) (.leaf 44 F44))))))
theorem funcsT_ok : funcsT.All (VF.ok Try.prog 1) := ⟨⟨⟨⟨F5_ok, ⟨F8_ok, F9_ok⟩⟩, ⟨⟨F10_ok, F11_ok⟩, ⟨F12_ok, F13_ok⟩⟩⟩, ⟨⟨F14_ok, ⟨F15_ok, F16_ok⟩⟩, ⟨⟨F17_ok, F18_ok⟩, ⟨F19_ok, F20_ok⟩⟩⟩⟩, ⟨⟨⟨F28_ok, ⟨F29_ok, F30_ok⟩⟩, ⟨⟨F31_ok, F32_ok⟩, ⟨F33_ok, F34_ok⟩⟩⟩, ⟨⟨⟨F36_ok, F38_ok⟩, ⟨F39_ok, F40_ok⟩⟩, ⟨⟨F41_ok, F42_ok⟩, ⟨F43_ok, F44_ok⟩⟩⟩⟩⟩
def extIdx : List Value → Option Value
  | [.string s, .int .u8 c] => some (.int .i64 (idxL c.toNat.toUInt8.toNat s.data.toList 0))
  | _ => none
def exts : Nat → Option (List Value → Option Value) := fun _ => none
theorem exts_ok : ∀ g h, exts g = some h → ExtOk Try.prog g h := fun _ _ h => by cases h
theorem ident45 (v : Value) (W : World) : (callFunc 45 #[v]).run Try.prog W = .ok (.value v) W := by
  rw [run_callFunc_extern (e := Extern.AbiNoEscape.same) Try.func45 (by kernel_rfl) (by kernel_rfl) (by kernel_rfl) (by kernel_rfl)]
  rfl
theorem idents_ok : ∀ g ∈ ([45] : List Nat), ∀ (v : Value) (W : World), (callFunc g #[v]).run Try.prog W = .ok (.value v) W := fun g h v W => by
  simp only [List.mem_cons, List.not_mem_nil, or_false] at h
  rcases h with rfl
  · exact ident45 v W
theorem lies0 : ∀ x : Nat × Nat × Nat × Nat, x = (83, 2, 0, 83) → liesAt Try.prog Try.prog.depth x.1 (x.2.1 / Try.prog.cellsOf x.1) x.2.2.1 x.2.2.2 1 = true := fun x h => by subst h; kernel_rfl
theorem lies_ok : ∀ x ∈ ([(83, 2, 0, 83)] : List (Nat × Nat × Nat × Nat)), liesAt Try.prog Try.prog.depth x.1 (x.2.1 / Try.prog.cellsOf x.1) x.2.2.1 x.2.2.2 1 = true := fun x h => by
  simp only [List.mem_cons, List.not_mem_nil, or_false] at h
  rcases h with h
  · exact lies0 x h
theorem noz46 : NozOk Try.prog 46 5 := by
  intro n hn W
  obtain ⟨cs, hrun, _, _⟩ := Lib.run_makeNoZero (P := Try.prog) W #[3] 27 5 Try.underlying27 n hn
  refine ⟨cs, ?_⟩
  rw [run_callFunc_extern Try.func46 (by kernel_rfl) (by kernel_rfl) (by kernel_rfl) (e := Extern.BytealgMakeNoZero.makeNoZero #[3] #[27]) (by kernel_rfl), hrun]
  rfl
def nozs (g : Nat) : Option TypeId := bif Nat.beq g 46 then some 5 else none
theorem nozs_ok : ∀ g e, nozs g = some e → NozOk Try.prog g e := fun g e h => by
  unfold nozs at h
  simp only [Bool.cond_eq_ite] at h
  split at h
  · rename_i hb; cases h; rw [Nat.eq_of_beq_eq_true hb]; exact noz46
  cases h
noncomputable def T0 : TE := TE.of typesT funcsT.get exts [45] [(83, 2, 0, 83)] nozs
instance : TOk Try.prog T0 := tok_of typesT_ok (tbl_of funcsT_ok) exts_ok idents_ok lies_ok nozs_ok
theorem names : NamesOk Try.prog := names_of (by kernel_rfl)
theorem mixed : Try.prog.follows .mixedOrders = true := by kernel_rfl
noncomputable def ran (fuel d f : Nat) (args : List Value) : Option (VE × VS) := vcall T0 (vop Try.prog T0) (vquietM Try.prog T0) (vfx T0) 1 funcsT.get fuel d f ⟨args⟩ (startVS 1 ())

end Go.Ev
