/-
  ArraysApart, walked.
-/
import Derived.Test.YtlagnklmfanmoaaArM
namespace Go.Proofs.Ytlagnklmfanmoaa.Ar
open Go.RowKit Go.Maps

def Awake (K : Nat) : Prop := ∀ W : World, K ≤ W.heap.size → Calls Try.prog 20 #[] W fun e W' => e = .returned (.bool true) ∧ Below W.heap.size W W'

theorem has_set (L : List KV) (s : ByteArray) (c : Cell) : hasL (setL L s c) s = true := by
  unfold setL
  cases h : hasL L s
  · simp [hasL]
  · obtain ⟨p, hp, he⟩ := mem_hasL.1 h
    rw [if_pos rfl]
    exact mem_hasL.2 ⟨_, List.mem_map.2 ⟨p, hp, rfl⟩, by rw [if_pos he]⟩
theorem length_set (L : List KV) (s : ByteArray) (c : Cell) : (setL L s c).length = L.length + if hasL L s then 0 else 1 := by
  unfold setL
  cases h : hasL L s <;> simp

set_option maxHeartbeats 3200000 in
set_option maxRecDepth 100000 in
theorem apart {K : Nat} (hAw : Awake K) (v : Value) (T : List ByteArray) (s : ByteArray) (w : World) (hK : K ≤ w.heap.size) (hT : Strs w v T) :
    Calls Try.prog 7 #[v, .string s] w fun e w' => e = .returned (.bool true) ∧ Below w.heap.size w w' := by
  have HAw := Lib.hid hAw
  obtain ⟨oa, ca, rfl, _, g1⟩ := hT.shape
  have HG := Lib.hid g1
  clear hAw hT g1
  by_cases h60 : 60 < T.length
  · have h60' : 60 < (T.length : Int) := by omega
    go_enter Try.func7, Try.ntmps7
    go_wp2_with (go_at_call 20; refine (HAw.out _ hK).mono ?_; rintro e w' ⟨rfl, hb⟩)
    go_ret
    exact ⟨rfl, hb⟩
  have h60' : ¬ 60 < (T.length : Int) := by omega
  by_cases h100 : 100 < s.size
  · have h100' : 100 < (s.size : Int) := by omega
    go_enter Try.func7, Try.ntmps7
    go_wp2_with (go_at_call 20; refine (HAw.out _ hK).mono ?_; rintro e w' ⟨rfl, hb⟩)
    go_ret
    exact ⟨rfl, hb⟩
  have h100' : ¬ 100 < (s.size : Int) := by omega
  go_enter Try.func7, Try.ntmps7
  go_wp2_with (go_at_call 8; refine (Mine.new w w (Below.refl _ _)).mono ?_; rintro e w1 ⟨a, rfl, hM⟩; have HM := Lib.hid hM; clear hM)
  go_loopg [6] T.length (fun k i wr => ∃ j L, T.length - j = k ∧ j ≤ T.length ∧ i = .int .i64 (j : Int) ∧ Mine w wr a j L)
  case atStart => exact ⟨0, [], rfl, Nat.zero_le _, rfl, HM.out⟩
  case round =>
    obtain ⟨j, L, hk, hj, rfl, hM⟩ := hrel
    by_cases hlt : j < T.length
    · have hlt' : (j : Int) < (T.length : Int) := by omega
      obtain ⟨x, hx⟩ : ∃ x, T[j]? = some x := ⟨_, List.getElem?_eq_getElem hlt⟩
      obtain ⟨aa, rfl, d1⟩ := HG.out j x hx
      have d2 := (hM.b.cell (p := aa.add j) (cell_lt d1)).trans d1
      have HR := Lib.hid hM
      clear hM HM hx d1
      by_cases hx100 : 100 < x.size
      · have hx100' : 100 < (x.size : Int) := by omega
        go_wp2_with (go_at_call 20; refine (HAw.out _ (Nat.le_trans hK HR.out.b.size)).mono ?_; rintro e w' ⟨rfl, hb⟩)
        go_ret
        exact ⟨rfl, HR.out.b.trans (hb.mono HR.out.b.size)⟩
      · have hx100' : ¬ 100 < (x.size : Int) := by omega
        go_upto_region 9 with fail
        have HD := Lib.hid (⟨cell_lt d2, HR.out.below (Below.refl _ wr).drew⟩ : _ ∧ _)
        go_region_with (first
          | (go_at_call 9; have HB2 := HB.out; refine ((HD.out.2.below HB2).lift fun F hA => setN x (numC j) hA (by omega) (by omega)).mono ?_; rintro e w3 ⟨rfl, hM3⟩; have H3 := Lib.hid hM3; clear hM3)
          | (go_at_call 10; refine (num j _ (by omega)).mono ?_; rintro e w2 ⟨rfl, hb2⟩; have d3 := (hb2.cell (p := aa.add j) HD.out.1).trans d2; have HB := Lib.hid hb2; clear hb2))
        all_goals go_wp2_with fail
        all_goals go_roundg (T.length - (j + 1))
        all_goals first
          | omega
          | exact ⟨j + 1, _, rfl, hlt, by go_num, H3.out⟩
    · have hge : ¬ (j : Int) < (T.length : Int) := by omega
      have hLj := hM.length
      have HR := Lib.hid hM
      clear hM HM
      have hkl : (keysL L).length = L.length := List.length_map _
      go_upto_region 11 with (go_at_call 12; obtain ⟨F0, hA0⟩ := HR.out.arr; refine (keys hA0 (by omega)).mono ?_; clear hA0; rintro e w2 ⟨v2, rfl, hT2, hb2⟩; obtain ⟨ol, cl, rfl⟩ := hT2.shape; rw [hkl] at hT2 ⊢; have H2 := Lib.hid (⟨hT2, HR.out.below hb2⟩ : _ ∧ _); clear hT2 hb2)
      go_upto_region 12 with (go_at_call 14; refine (H2.out.2.copy (by omega)).mono ?_; rintro e w3 ⟨b, rfl, hW3, hb3⟩; have H3 := Lib.hid (⟨hW3, H2.out.1.below hb3⟩ : _ ∧ _); clear hW3 hb3)
      have hM1 := has_set L s (numC 7)
      have hM2 := length_set L s (numC 7)
      cases hh : hasL L s
      all_goals
        rw [hh] at hM2
        simp only [Bool.false_eq_true, if_false, if_true, Nat.add_zero] at hM2
        go_upto_region 13 with (go_at_call 13; obtain ⟨F0, hA0⟩ := H3.out.1.one.arr; refine (peek s hA0 (by omega)).mono ?_; clear hA0; rintro e w4 ⟨rfl, hb4⟩; rw [hh]; generalize cellL L s = C; obtain ⟨ck, cn, cs⟩ := C; simp only [Cell.cells]; have H4 := Lib.hid (⟨H3.out.1.below hb4, H3.out.2.below hb4⟩ : _ ∧ _); clear hb4)
        have hb4b := (Below.refl _ w4).alloc (Nat.le_refl _) (.cells #[.int .u8 ck, .int .u64 cn, .string cs] 31)
        generalize w4.alloc (.cells #[.int .u8 ck, .int .u64 cn, .string cs] 31) = w4b at *
        have H4b := Lib.hid (⟨H4.out.1.below hb4b, H4.out.2.below hb4b⟩ : _ ∧ _)
        clear hb4b
        go_upto_region 15 with (first
          | (go_at_call 28; have HS5 := H5.out.1.strs; refine (sameTexts HS5 H5.out.2.2.strs (by rw [hkl]; omega)).mono ?_; rintro e w6 ⟨rfl, n6, hw6⟩; rw [decide_eq_true (show keysL L = keysL L from rfl)]; (have hb6 : Below w5.heap.size w5 w6 := by rw [hw6]; exact below_drewN (Below.refl _ _) n6); have H6 := Lib.hid (H5.out.2.1.below hb6); clear hw6 hb6)
          | (go_at_call 12; obtain ⟨F0, hA0⟩ := H4b.out.1.other.arr; refine (keys hA0 (by omega)).mono ?_; clear hA0; rintro e w5 ⟨v5, rfl, hT5, hb5⟩; have H5 := Lib.hid (⟨hT5, H4b.out.1.below hb5, H4b.out.2.below hb5⟩ : _ ∧ _ ∧ _); clear hT5 hb5)
          | (go_at_call 16; obtain ⟨F0, hA0⟩ := H4b.out.1.one.arr; refine (len hA0).mono ?_; clear hA0; rintro e w5 ⟨rfl, hw5⟩; obtain rfl := hw5.symm; clear hw5)
          | (go_at_call 17; obtain ⟨F0, hA0⟩ := H4b.out.1.one.arr; refine (hasCall s hA0 (by omega)).mono ?_; clear hA0; rintro e w5 ⟨rfl, hw5⟩; obtain rfl := hw5.symm; clear hw5; rw [hh]))
        have hq : ((L.length : Int) == (L.length : Int) + 1) = false := beq_eq_false_iff_ne.2 (by omega)
        go_upto_region 16 with (go_at_call 18; refine (H6.out.lift2 (Nat.le_succ j) fun F hA => getN s hA (by omega) (by omega)).mono ?_; rintro e w7 ⟨rfl, hW7⟩; have H7 := Lib.hid hW7; clear hW7)
        go_upto_region 17 with (first
          | (go_at_call 9; have Q8 := H8.out; refine (Q8.lift2 (Nat.le_succ (j + 1)) fun F hA => setN s (numC 7) hA (by omega) (by omega)).mono ?_; rintro e w9 ⟨rfl, hW9⟩; rw [set_ask] at hW9; have H9 := Lib.hid hW9; clear hW9 Q8)
          | (go_at_call 10; refine (num 7 _ (by omega)).mono ?_; rintro e w8 ⟨rfl, hb8⟩; have H8 := Lib.hid (H7.out.below hb8); clear hb8))
        go_upto_region 19 with (first
          | (go_at_call 17; have MM := MK.out; obtain ⟨F0, hA0⟩ := H9.out.other.arr; refine (hasCall s hA0 (by omega)).mono ?_; clear hA0; rintro e w5 ⟨rfl, hw5⟩; obtain rfl := hw5.symm; clear hw5; rw [hM1])
          | (go_at_call 17; obtain ⟨F0, hA0⟩ := H9.out.one.arr; refine (hasCall s hA0 (by omega)).mono ?_; clear hA0; rintro e w5 ⟨rfl, hw5⟩; obtain rfl := hw5.symm; clear hw5; rw [hh]; have MK := Lib.hid (rfl : (0 : Nat) = 0))
          | (go_at_call 16; obtain ⟨F0, hA0⟩ := H9.out.other.arr; refine (len hA0).mono ?_; clear hA0; rintro e w5 ⟨rfl, hw5⟩; obtain rfl := hw5.symm; clear hw5; rw [hM2]))
        go_upto_region 20 with (go_at_call 15; refine (H9.out.lift (Nat.le_refl _) fun F hA => (clear hA).mono fun _ _ h => ⟨h.1, h.2.mono (Nat.zero_le _)⟩).mono ?_; rintro e wA ⟨rfl, hWA⟩; have HA := Lib.hid hWA; clear hWA)
        clear hM1 hh hq H9 H6 H7 H8 MK
        have hge : (L.length : Int) ≤ ((setL L s (numC 7)).length : Int) := by omega
        have hfin := Lib.hid HA.out.b
        go_wp2_with (first
          | (go_at_call 20; refine (HAw.out _ (Nat.le_trans hK hfin.out.size)).mono ?_; rintro e w' ⟨rfl, hbZ⟩)
          | (go_at_call 16; have MM := ML.out; obtain ⟨F0, hA0⟩ := HA.out.other.arr; refine (len hA0).mono ?_; clear hA0; rintro e w5 ⟨rfl, hw5⟩; obtain rfl := hw5.symm; clear hw5)
          | (go_at_call 16; obtain ⟨F0, hA0⟩ := HA.out.one.arr; refine (len hA0).mono ?_; clear hA0; rintro e w5 ⟨rfl, hw5⟩; obtain rfl := hw5.symm; clear hw5; rw [List.length_nil]; have ML := Lib.hid (rfl : (0 : Nat) = 0)))
        go_ret
        exact ⟨rfl, hfin.out.trans (hbZ.mono hfin.out.size)⟩
end Go.Proofs.Ytlagnklmfanmoaa.Ar
