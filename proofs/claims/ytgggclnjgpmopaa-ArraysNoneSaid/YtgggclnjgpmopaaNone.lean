/-
  ArraysNone answers true for every input, and leaves what was handed in as it was. Conditions: none beside the row's own.
-/
import Derived.Test.YtgggclnjgpmopaaAwake
import Derived.Test.YtgggclnjgpmopaaEv7
import Derived.Test.YtgggclnjgpmopaaRows
import Derived.HandedShaped
import Derived.ProofKit
import Derived.OpenShut
namespace Go.Proofs.Ytgggclnjgpmopaa.Ro
open Go.ChangeShapes Go.WideShapes Go.ChangeAt Go.RowKit Go.Ev
open Go.ChangeMaps (open_string shut_string)

theorem own : ownKnob Try.prog.godebug = none := by kernel_rfl
theorem laidOut : laidOutB Try.prog = true := by kernel_rfl
theorem enough {W : World} (h : W.ShapedOpen Try.prog) : 1 ≤ W.heap.size := size_of_shaped h (by kernel_rfl) (by kernel_rfl)

set_option maxRecDepth 100000 in
theorem cell_opened {H : Type} {enc : TypeId × Value → H} {W : World} {b : Nat} {sp : Nat → Bool} {hd : Bool} {v : Value} {d : DataW H} {p : List MemPlace} (h : DataW.Trod enc Try.prog W b sp hd 31 v d p) {base : Nat} (hv : Value.okWide Try.prog W .any base 31 v) :
    ∃ k n s, v = .agg #[.int .u8 k, .int .u64 n, .string s] := by
  obtain ⟨⟨cs⟩, rfl, _⟩ := okWide_struct Try.underlying31 hv
  obtain ⟨fuel, h⟩ := h
  have c31 : Try.prog.cellsOf 31 = 3 := by kernel_rfl
  have c28 : Try.prog.cellsOf 28 = 1 := by kernel_rfl
  have c29 : Try.prog.cellsOf 29 = 1 := by kernel_rfl
  have c9 : Try.prog.cellsOf 9 = 1 := by kernel_rfl
  obtain ⟨xs, n, rfl, _, hl, hxl, hf⟩ := DataW.trod_struct Try.underlying31 h
  clear h
  rw [c31] at hl
  have hxl' : xs.length = 3 := hxl
  have hl' : cs.length = 3 := hl
  match cs, hl', xs, hxl' with
  | [u0, u1, u2], _, [y0, y1, y2], _ =>
    have h0 : DataW.trod enc Try.prog W b sp hd n 28 (([u0, u1, u2].drop 0).take (Try.prog.cellsOf 28)) = some y0 := hf 0 _ rfl
    have h1 : DataW.trod enc Try.prog W b sp hd n 29 (([u0, u1, u2].drop 1).take (Try.prog.cellsOf 29)) = some y1 := hf 1 _ rfl
    have h2 : DataW.trod enc Try.prog W b sp hd n 9 (([u0, u1, u2].drop 2).take (Try.prog.cellsOf 9)) = some y2 := hf 2 _ rfl
    rw [c28] at h0
    rw [c29] at h1
    rw [c9] at h2
    obtain ⟨k, e0, _, _⟩ := DataW.trod_int Try.underlying28 h0
    obtain ⟨m, e1, _, _⟩ := DataW.trod_int Try.underlying29 h1
    obtain ⟨s, e2, _, _⟩ := DataW.trod_string Try.underlying9 h2
    simp at e0 e1 e2
    subst e0 e1 e2
    exact ⟨k, m, s, rfl⟩

set_option maxRecDepth 100000 in
theorem none_lifted (os : Os) (started : os.Started) (H : Type) (enc : TypeId × Value → H) :
    ReturnsInHanded {} Try.checked os 5 .any (Rows.arraysNoneSpec.pre6 enc Try.prog Try.f5 Rows.arraysNoneRow.domain false) (Rows.arraysNoneSpec.post enc Try.prog Try.f5 false true false false) := by
  refine returnsInHanded_of_change_shaped (C := Try.checked) own started (by kernel_rfl) Try.func5
    (ChangeSpec.witness6 (enc := enc) (C := Try.checked) false ⟨#[], #[.string ⟨#[]⟩, .agg #[.int .u8 0, .int .u64 0, .string ⟨#[]⟩]], []⟩ 8 (by kernel_rfl) (by kernel_rfl) (by kernel_rfl) (by kernel_rfl)) ?_
  intro W base args ds gs before hval0 hW _ _ hsh _
  have hval : ∀ (j : Nat) t v, Try.f5.params[j]? = some t → args[j]? = some v → Value.okWide Try.prog W .any base t v := hval0
  have hW' := hW
  obtain ⟨p, q, hA0, hV, rfl, hfz, hnd⟩ := hW
  have hA : DataW.TrodAll enc Try.prog W 0 (fun _ => true) true Try.f5.params.toList args.toList ds p := hA0
  rw [Try.params5] at hA hval
  obtain ⟨v0, vs0, d0, ds0, p0, q0, hargs, rfl, rfl, h0, r0⟩ := trodAll_cons hA
  obtain ⟨v1, vs1, d1, ds1, p1, q1, rfl, rfl, rfl, h1, r1⟩ := trodAll_cons r0
  obtain ⟨rfl, rfl, rfl⟩ := trodAll_nil r1
  obtain rfl : args = #[v0, v1] := by cases args; simp_all
  obtain ⟨rfl, rfl⟩ := trodVars_none hV
  obtain ⟨s, rfl, rfl, rfl, ws⟩ := open_string Try.underlying9 (hval 0 9 v0 rfl rfl) h0
  obtain ⟨k, n, t, rfl⟩ := cell_opened h1 (hval 1 31 v1 rfl rfl)
  refine ((Go.Ev.nones s k n t).call W (enough hsh) trivial).mono fun e W' ⟨he, hB⟩ => ?_
  subst he
  exact ⟨_, rfl, post_reads laidOut (by kernel_rfl) hW' rfl (fun _ _ _ => trodAll_cons_mk (shut_bool Try.underlying4 _) trodAll_mk0) rfl rfl hB⟩

end Go.Proofs.Ytgggclnjgpmopaa.Ro
namespace Go.Proofs.Ytgggclnjgpmopaa
open Go.RowKit
theorem arraysNone_holds : Rows.ArraysNoneSaid :=
  OpenClaim.holds_of_wide 5 Try.f5 rfl rfl rfl rfl rfl rfl rfl ⟨rfl, rfl, rfl, rfl, rfl⟩ rfl rfl rfl rfl rfl (by kernel_rfl) Try.func5 (by kernel_rfl)
    (of_decide_eq_true (by kernel_rfl)) (by unfold Func.isWrapper; first | (rw [if_pos (by decide +kernel)]; kernel_rfl) | (rw [if_neg (by decide +kernel)]; exact ⟨rfl, rfl⟩))
    (fun os started H enc _ => Ro.none_lifted os started H enc)
#print axioms arraysNone_holds
end Go.Proofs.Ytgggclnjgpmopaa
