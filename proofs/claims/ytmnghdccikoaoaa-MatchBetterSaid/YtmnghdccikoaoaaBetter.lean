/-
  MatchBetter answers true for every input, and leaves what was handed in as it was. Conditions: none beside the row's own.
-/
import Derived.Test.YtmnghdccikoaoaaAwake
import Derived.Test.YtmnghdccikoaoaaEv7
import Derived.Test.YtmnghdccikoaoaaRows
import Derived.Test.YtmnghdccikoaoaaMuR
namespace Go.Proofs.Ytmnghdccikoaoaa.Ro
open Go.ChangeShapes Go.WideShapes Go.ChangeAt Go.RowKit Go.Ev
open Go.ChangeMaps (open_string shut_string)

theorem own : ownKnob Try.prog.godebug = none := by kernel_rfl
theorem laidOut : laidOutB Try.prog = true := by kernel_rfl
theorem enough {W : World} (h : W.ShapedOpen Try.prog) : 1 ≤ W.heap.size := size_of_shaped h (by kernel_rfl) (by kernel_rfl)
theorem awakeHere : Mt.Awake 1 := fun w hw => (Go.Ev.awake).call w hw trivial

set_option maxRecDepth 100000 in
theorem better_lifted (os : Os) (started : os.Started) (H : Type) (enc : TypeId × Value → H) :
    ReturnsInHanded {} Try.checked os 6 .any (Rows.matchBetterSpec.pre6 enc Try.prog Try.f6 Rows.matchBetterRow.domain false) (Rows.matchBetterSpec.post enc Try.prog Try.f6 false true false false) := by
  refine returnsInHanded_of_change_shaped (C := Try.checked) own started (by kernel_rfl) Try.func6
    (ChangeSpec.witness6 (enc := enc) (C := Try.checked) false ⟨#[], #[.agg #[.int .u8 0, .int .u64 0, .int .u64 0, .int .u64 0, .int .u64 0, .int .i64 0, .int .i64 0, .slice none 0 0], .agg #[.int .u8 0, .int .u64 0, .int .u64 0, .int .u64 0, .int .u64 0, .int .i64 0, .int .i64 0, .slice none 0 0], .string ⟨#[]⟩, .int .i64 0], []⟩ 8 (by kernel_rfl) (by kernel_rfl) (by kernel_rfl) (by kernel_rfl)) ?_
  intro W base args ds gs before hval0 hW _ _ hsh _
  have hval : ∀ (j : Nat) t v, Try.f6.params[j]? = some t → args[j]? = some v → Value.okWide Try.prog W .any base t v := hval0
  have hW' := hW
  obtain ⟨p, q, hA0, hV, rfl, hfz, hnd⟩ := hW
  have hA : DataW.TrodAll enc Try.prog W 0 (fun _ => true) true Try.f6.params.toList args.toList ds p := hA0
  rw [Try.params6] at hA hval
  obtain ⟨v0, vs0, d0, ds0, p0, q0, hargs, rfl, rfl, h0, r0⟩ := trodAll_cons hA
  obtain ⟨v1, vs1, d1, ds1, p1, q1, rfl, rfl, rfl, h1, r1⟩ := trodAll_cons r0
  obtain ⟨v2, vs2, d2, ds2, p2, q2, rfl, rfl, rfl, h2, r2⟩ := trodAll_cons r1
  obtain ⟨v3, vs3, d3, ds3, p3, q3, rfl, rfl, rfl, h3, r3⟩ := trodAll_cons r2
  obtain ⟨rfl, rfl, rfl⟩ := trodAll_nil r3
  obtain rfl : args = #[v0, v1, v2, v3] := by cases args; simp_all
  obtain ⟨rfl, rfl⟩ := trodVars_none hV
  obtain ⟨s, rfl, rfl, rfl, ws⟩ := open_string Try.underlying9 (hval 2 9 v2 rfl rfl) h2
  obtain ⟨n, rfl, rfl, rfl, wn⟩ := open_int Try.underlying3 (hval 3 3 v3 rfl rfl) h3
  obtain ⟨fuel, hf⟩ := h0
  obtain ⟨r, hL, hin⟩ := Sh.opened fuel fuel _ _ (Nat.le_refl _) hf
  obtain ⟨fuel', hf'⟩ := h1
  obtain ⟨r', hL', hin'⟩ := Sh.opened fuel' fuel' _ _ (Nat.le_refl _) hf'
  obtain ⟨⟨cs⟩, rfl, _⟩ := okWide_struct Try.underlying34 (hval 0 34 v0 rfl rfl)
  obtain ⟨⟨cs'⟩, rfl, _⟩ := okWide_struct Try.underlying34 (hval 1 34 v1 rfl rfl)
  refine ((Mt.better awakeHere (enough hsh) hL hL' hin hin' s n W (Below.refl _ _)).mono fun e W' ⟨he, hB⟩ => ?_)
  subst he
  exact ⟨_, rfl, post_reads laidOut (by kernel_rfl) hW' rfl (fun _ _ _ => trodAll_cons_mk (shut_bool Try.underlying4 _) trodAll_mk0) rfl rfl hB⟩

end Go.Proofs.Ytmnghdccikoaoaa.Ro
namespace Go.Proofs.Ytmnghdccikoaoaa
open Go.RowKit
theorem matchBetter_holds : Rows.MatchBetterSaid :=
  OpenClaim.holds_of_wide 6 Try.f6 rfl rfl rfl rfl rfl rfl rfl ⟨rfl, rfl, rfl, rfl, rfl⟩ rfl rfl rfl rfl rfl (by kernel_rfl) Try.func6 (by kernel_rfl)
    (of_decide_eq_true (by kernel_rfl)) (by unfold Func.isWrapper; first | (rw [if_pos (by decide +kernel)]; kernel_rfl) | (rw [if_neg (by decide +kernel)]; exact ⟨rfl, rfl⟩))
    (fun os started H enc _ => Ro.better_lifted os started H enc)
#print axioms matchBetter_holds
end Go.Proofs.Ytmnghdccikoaoaa
