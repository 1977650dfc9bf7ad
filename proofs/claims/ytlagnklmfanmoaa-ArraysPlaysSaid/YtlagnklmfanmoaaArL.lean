/-
  Package arrays, beside it: what the laws call: lists of texts that are the same; a number's cell.
-/
import Derived.Test.YtlagnklmfanmoaaArK
namespace Go.Proofs.Ytlagnklmfanmoaa.Ar
open Go.RowKit Go.Maps

/- A slice that reads as these texts. -/
structure Strs (w : World) (v : Value) (T : List ByteArray) : Prop where
  shape : ∃ oa cap, v = .slice oa T.length cap ∧ (oa = none → cap = 0) ∧ ∀ (i : Nat) (s : ByteArray), T[i]? = some s → ∃ ad, oa = some ad ∧ w.cell? (ad.add i) = some (.string s)
theorem Txts.strs {B : Nat} {w : World} {v : Value} {T : List ByteArray} (h : Txts B w v T) : Strs w v T := by
  refine ⟨?_⟩
  have h2 := h
  rcases h.2 with ⟨h1, h0⟩ | ⟨g, oc, cur, h1, _⟩
  · refine ⟨none, 0, by rw [h1, h0], fun _ => rfl, fun i s hs => ?_⟩
    have := (List.getElem?_eq_some_iff.1 hs).1
    omega
  · subst h1
    refine ⟨_, oc, rfl, (fun h => by cases h), fun i s hs => ⟨_, rfl, ?_⟩⟩
    have hlt := (List.getElem?_eq_some_iff.1 hs).1
    have e := h2.cellAt i (by omega)
    rw [show (⟨g, 0, none⟩ : Addr).add i = ⟨g, i, none⟩ from by simp [Addr.add]; rintro rfl; rfl, e, texts, List.getElem?_map, hs]
    rfl
theorem Strs.below {B : Nat} {w w' : World} {v : Value} {T : List ByteArray} (h : Strs w v T) (hb : Below B w w') (hB : w.heap.size ≤ B) : Strs w' v T := by
  obtain ⟨oa, cap, h1, h0, h2⟩ := h.shape
  refine ⟨oa, cap, h1, h0, fun i s hs => ?_⟩
  obtain ⟨ad, h3, h4⟩ := h2 i s hs
  exact ⟨ad, h3, (World.cell?_of_block (a := ad.add i) (hb.block _ (Nat.lt_of_lt_of_le (cell_lt h4) hB))).trans h4⟩

theorem take_same {α : Type} {a b : List α} {j : Nat} {x : α} (h : a.take j = b.take j) (ha : a[j]? = some x) (hb : b[j]? = some x) : a.take (j + 1) = b.take (j + 1) := by
  rw [List.take_add_one, List.take_add_one, h, ha, hb]

theorem toList_ne {x y : ByteArray} (h : x ≠ y) : (x.toList == y.toList) = false := by
  rw [beq_eq_false_iff_ne, Lib.toList_data, Lib.toList_data]
  exact fun e => h (ByteArray.ext (Array.toList_inj.1 e))
theorem ret_bool {x : Bool} {b : Bool} (h : b = x) : Ending.returned (.bool x) = .returned (.bool b) := by rw [h]
theorem ret_is {x y : Value} (h : x = y) : Ending.returned x = .returned y := by rw [h]

set_option maxRecDepth 100000 in
theorem sameTexts {w : World} {u v : Value} {T U : List ByteArray} (h1 : Strs w u T) (h2 : Strs w v U) (hz : T.length ≤ 1000000) :
    Calls Try.prog 28 #[u, v] w fun e w' => e = .returned (.bool (decide (T = U))) ∧ ∃ n, w' = w.drewN n := by
  obtain ⟨oa, ca, rfl, _, g1⟩ := h1.shape
  obtain ⟨ob, cb, rfl, _, g2⟩ := h2.shape
  have G1 := Lib.hid g1
  have G2 := Lib.hid g2
  clear h1 h2 g1 g2
  by_cases hl : T.length = U.length
  · have hl' : (T.length : Int) = (U.length : Int) := by omega
    go_enter Try.func28, Try.ntmps28
    have hbn : ((T.length : Int) != (U.length : Int)) = false := by simp [hl]
    go_wp2_with fail
    go_loopg [5] T.length (fun k i wr => ∃ j n, T.length - j = k ∧ j ≤ T.length ∧ i = .int .i64 (j : Int) ∧ T.take j = U.take j ∧ wr = w.drewN n)
    case atStart => exact ⟨0, 0, rfl, Nat.zero_le _, rfl, rfl, rfl⟩
    case round =>
      obtain ⟨j, n, hk, hj, rfl, hT, hwr⟩ := hrel
      have hw : ∀ p, wr.cell? p = w.cell? p := fun p => by rw [hwr]; rfl
      have HW := Lib.hid hwr
      have HT := Lib.hid hT
      clear hT hbn
      by_cases hlt : j < T.length
      · have hltT : (j : Int) < (T.length : Int) := by omega
        have hltU : (j : Int) < (U.length : Int) := by omega
        obtain ⟨x, hx⟩ : ∃ x, T[j]? = some x := ⟨_, List.getElem?_eq_getElem hlt⟩
        obtain ⟨y, hy⟩ : ∃ y, U[j]? = some y := ⟨_, List.getElem?_eq_getElem (by omega)⟩
        obtain ⟨aa, rfl, d1⟩ := G1.out j x hx
        obtain ⟨ab, rfl, d2⟩ := G2.out j y hy
        rw [← hw] at d1 d2
        have HX := Lib.hid (⟨hx, hy⟩ : _ ∧ _)
        clear hx hy hwr hw
        by_cases hxy : x = y
        · subst hxy
          go_wp2_with fail
          go_quiet (fail)
          go_wp2_with fail
          go_roundg (T.length - (j + 1))
          case measure => omega
          case rel => exact ⟨j + 1, n + nq, rfl, hlt, by go_num, take_same HT.out HX.out.1 HX.out.2, by rw [HW.out, World.drewN_drewN]⟩
        · have hbn : (x.toList == y.toList) = false := toList_ne hxy
          go_wp2_with fail
          go_quiet (fail)
          go_wp2_with fail
          go_ret
          refine ⟨ret_bool (decide_eq_false fun e => hxy ?_), n + nq, by rw [HW.out, World.drewN_drewN]⟩
          have h1 := HX.out.1
          rw [e, HX.out.2] at h1
          exact (Option.some.inj h1).symm
      · have hge : ¬ (j : Int) < (T.length : Int) := by omega
        have hgu : ¬ (j : Int) < (U.length : Int) := by omega
        obtain rfl : j = T.length := by omega
        have hTU : T = U := by
          have h := HT.out
          rw [List.take_of_length_le (Nat.le_refl _), List.take_of_length_le (by omega)] at h
          exact h
        clear hw hwr
        have HTU := Lib.hid hTU
        clear hTU
        go_wp2_with fail
        go_ret
        exact ⟨ret_bool (decide_eq_true HTU.out), n, HW.out⟩
  · have hne : T ≠ U := fun e => hl (by rw [e])
    have hl' : ¬ (T.length : Int) = (U.length : Int) := by omega
    have hbn : ((T.length : Int) == (U.length : Int)) = false := by simp; omega
    go_enter Try.func28, Try.ntmps28
    go_wp2_with fail
    go_ret
    exact ⟨ret_bool (decide_eq_false hne), 0, rfl⟩
end Go.Proofs.Ytlagnklmfanmoaa.Ar
