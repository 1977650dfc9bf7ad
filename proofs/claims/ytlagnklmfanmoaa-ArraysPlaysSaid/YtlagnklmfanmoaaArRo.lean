/-
  Package arrays' rows: what is common: awake, slices that are read.
-/
import Derived.Test.YtlagnklmfanmoaaArP
import Derived.Test.YtlagnklmfanmoaaAwake
import Derived.Test.YtlagnklmfanmoaaEv7
import Derived.Test.YtlagnklmfanmoaaRows
import Derived.SliceStrings
import Derived.ChangeSlices
import Derived.HandedShaped
import Derived.ProofKit
import Derived.OpenShut
namespace Go.Proofs.Ytlagnklmfanmoaa.Ro
open Go.ChangeShapes Go.WideShapes Go.ChangeAt Go.RowKit Go.Ev
open Go.ChangeMaps (open_string shut_string)

theorem own : ownKnob Try.prog.godebug = none := by kernel_rfl
theorem laidOut : laidOutB Try.prog = true := by kernel_rfl
theorem enough {W : World} (h : W.ShapedOpen Try.prog) : 1 ≤ W.heap.size := size_of_shaped h (by kernel_rfl) (by kernel_rfl)
theorem awakeHere : Ar.Awake 1 := fun w hw => (Go.Ev.awake).call w hw trivial

/- What is read as a slice of texts is one. -/
theorem texts_opened {H : Type} {enc : TypeId × Value → H} {W : World} {b : Nat} {sp : Nat → Bool} {hd : Bool} {v : Value} {d : DataW H} {p : List MemPlace} (h : DataW.Trod enc Try.prog W b sp hd 34 v d p) {base : Nat} (hv : Value.okWide Try.prog W .any base 34 v) :
    ∃ T, Ar.Strs W v T := by
  obtain ⟨fuel, h⟩ := h
  have hc : Try.prog.cellsOf 9 = 1 := by kernel_rfl
  have e := okWide_slice Try.underlying34 hv
  obtain ⟨oa, n, c, rfl⟩ := e
  rcases open_strings Try.underlying34 Try.underlying9 hc h with ⟨h1, _⟩ | ⟨a, len, cap, ss, h1, _, hlc, _, hlen, _, hcell, _⟩
  · have h2 : [Value.slice oa n c] = [.slice none 0 0] := h1
    simp only [List.cons.injEq, Value.slice.injEq, and_true] at h2
    obtain ⟨rfl, rfl, rfl⟩ := h2
    exact ⟨[], ⟨none, 0, rfl, fun _ => rfl, fun i s hs => by simp at hs⟩⟩
  · have h2 : [Value.slice oa n c] = [.slice (some a) len cap] := h1
    simp only [List.cons.injEq, Value.slice.injEq, and_true] at h2
    obtain ⟨rfl, rfl, rfl⟩ := h2
    have hle : n ≤ ss.length := by rw [hlen]; split <;> omega
    refine ⟨ss.take n, ⟨some a, c, by rw [List.length_take, Nat.min_eq_left hle], (fun h => by cases h), fun i s hs => ⟨a, rfl, ?_⟩⟩⟩
    rw [List.getElem?_take] at hs
    split at hs
    · have h3 := hcell i (by omega)
      rw [h3, List.getD_eq_getElem?_getD, hs]
      rfl
    · cases hs

theorem nums_opened {H : Type} {enc : TypeId × Value → H} {W : World} {b : Nat} {sp : Nat → Bool} {hd : Bool} {v : Value} {d : DataW H} {p : List MemPlace} (h : DataW.Trod enc Try.prog W b sp hd 58 v d p) {base : Nat} (hv : Value.okWide Try.prog W .any base 58 v) :
    ∃ X, Ar.Nums W v X := by
  obtain ⟨fuel, h⟩ := h
  have hc : Try.prog.cellsOf 3 = 1 := by kernel_rfl
  obtain ⟨oa, n, c, rfl⟩ := okWide_slice Try.underlying58 hv
  rcases open_ints Try.underlying58 Try.underlying3 hc h with ⟨h1, _⟩ | ⟨a, len, cap, zs, h1, _, hlc, _, hlen, _, hcell, _⟩
  · have h2 : [Value.slice oa n c] = [.slice none 0 0] := h1
    simp only [List.cons.injEq, Value.slice.injEq, and_true] at h2
    obtain ⟨rfl, rfl, rfl⟩ := h2
    exact ⟨[], ⟨none, 0, rfl, fun i s hs => by simp at hs⟩⟩
  · have h2 : [Value.slice oa n c] = [.slice (some a) len cap] := h1
    simp only [List.cons.injEq, Value.slice.injEq, and_true] at h2
    obtain ⟨rfl, rfl, rfl⟩ := h2
    have hle : n ≤ zs.length := by rw [hlen]; split <;> omega
    refine ⟨zs.take n, ⟨some a, c, by rw [List.length_take, Nat.min_eq_left hle], fun i s hs => ⟨a, rfl, ?_⟩⟩⟩
    rw [List.getElem?_take] at hs
    split at hs
    · have h3 := hcell i (by omega)
      rw [h3, List.getD_eq_getElem?_getD, hs]
      rfl
    · cases hs

end Go.Proofs.Ytlagnklmfanmoaa.Ro
