/-
  The document's own side of layer 12 (winnowerref12), fifth part: words, signs, names.
-/
import Derived.Test.YtefpkgdakihceaaDoorLxU
import Derived.Deep.RegionWith
import Derived.StillTailTactics
namespace Go.Proofs.YtefpkgdakihceaaDoor.Lx
open Go.RowKit

/- A list of texts in memory. -/
def TextsAt (w : World) (b : Nat) (L : List (List UInt8)) : Prop := ∀ (i : Nat) (h : i < L.length), w.cell? ⟨b, i, none⟩ = some (.string (strL (L[i]'h)))
theorem TextsAt.below {w w' : World} {b : Nat} {L : List (List UInt8)} (h : TextsAt w b L) (hb : Below w.heap.size w w') (hlt : b < w.heap.size) : TextsAt w' b L := fun i hi => by rw [hb.cell (p := ⟨b, i, none⟩) hlt]; exact h i hi
theorem TextsAt.new (w : World) (L : List (List UInt8)) (t : TypeId) : TextsAt (w.alloc (.cells ((L.map fun l => Value.string (strL l)).toArray) t)) w.heap.size L := by
  intro i hi
  rw [World.cell?_alloc_at _ _ _ _ rfl]
  simp [hi]
def signsL : List (List UInt8) := [[38, 38], [124, 124], [43, 43], [45, 45], [43, 61], [45, 61], [42, 61], [47, 61], [37, 61], [94, 61], [61, 61], [60, 61], [62, 61], [33, 61], [33, 126], [62, 62], [123], [125], [40], [41], [91], [93], [59], [44], [43], [45], [42], [47], [37], [94], [33], [62], [60], [124], [63], [58], [126], [36], [61]]
theorem words (w : World) : Calls Tryd.prog 53 #[] w fun e w' => e = .returned (.slice (some ⟨w.heap.size, 0, none⟩) 33 33) ∧ TextsAt w' w.heap.size wordsL ∧ Below w.heap.size w w' ∧ w'.heap.size = w.heap.size + 1 := by
  have H := Lib.hid (TextsAt.new w wordsL 9)
  go_enter Tryd.func53, Tryd.ntmps53
  go_wp2_with fail
  go_ret
  exact ⟨rfl, H.out, (Below.refl _ w).alloc (Nat.le_refl _) _, by simp⟩
theorem signs (w : World) : Calls Tryd.prog 34 #[] w fun e w' => e = .returned (.slice (some ⟨w.heap.size, 0, none⟩) 39 39) ∧ TextsAt w' w.heap.size signsL ∧ Below w.heap.size w w' ∧ w'.heap.size = w.heap.size + 1 := by
  have H := Lib.hid (TextsAt.new w signsL 9)
  go_enter Tryd.func34, Tryd.ntmps34
  go_wp2_with fail
  go_ret
  exact ⟨rfl, H.out, (Below.refl _ w).alloc (Nat.le_refl _) _, by simp⟩
def hasB (L : List (List UInt8)) (s : ByteArray) : Bool := L.contains s.toList
set_option maxHeartbeats 800000 in
theorem has (s : ByteArray) (b : Nat) (L : List (List UInt8)) (w : World) (hL : TextsAt w b L) (hn : L.length ≤ 100) :
    Calls Tryd.prog 52 #[.slice (some ⟨b, 0, none⟩) L.length L.length, .string s] w fun e w' => e = .returned (.bool (hasB L s)) ∧ w = w' := by
  have HL := Lib.hid hL
  clear hL
  go_enter Tryd.func52, Tryd.ntmps52
  go_wp2_with fail
  go_loop [5] (fun i => ∃ k : Nat, k ≤ L.length ∧ i = .int .i64 k ∧ ∀ (j : Nat) (h : j < L.length), j < k → L[j] ≠ s.toList) (fun i => L.length - (intOf i).toNat)
  case atStart => exact ⟨0, Nat.zero_le _, rfl, fun j _ h => by omega⟩
  case round =>
    obtain ⟨k, hk, rfl, hno⟩ := hrel
    have HNO := Lib.hid hno
    clear hno
    by_cases hlt : k < L.length
    · have hc := HL.out k hlt
      have ht : (strL L[k]).toList = L[k] := by rw [Lib.toList_data]; rfl
      by_cases he : L[k] = s.toList
      · have hb : ((strL L[k]).toList == s.toList) = true := by rw [ht, he]; simp
        have HE := Lib.hid (show hasB L s = true by unfold hasB; rw [List.contains_iff_mem, ← he]; exact List.getElem_mem hlt)
        clear ht he
        go_wp2_with fail
        go_ret
        exact ⟨ret_bool HE.out.symm, rfl⟩
      · have hb : ((strL L[k]).toList == s.toList) = false := by rw [ht, beq_eq_false_iff_ne]; exact he
        have HE := Lib.hid he
        clear ht he
        go_wp2_with fail
        go_round
        case rel => exact ⟨k + 1, by omega, by go_num, fun j hj hjk => by
          rcases Nat.lt_or_eq_of_le (Nat.lt_succ_iff.1 hjk) with h | rfl
          · exact HNO.out j hj h
          · exact HE.out⟩
        case measure => simp [intOf]; omega
    · have HE := Lib.hid (show hasB L s = false by
        unfold hasB
        rw [Bool.eq_false_iff]
        intro h
        obtain ⟨j, hj, he⟩ := List.mem_iff_getElem.1 (List.contains_iff_mem.1 h)
        exact HNO.out j hj (by omega) he)
      go_wp2_with fail
      go_ret
      exact ⟨ret_bool HE.out.symm, rfl⟩
theorem hasWord (s : ByteArray) (b : Nat) (w : World) (hL : TextsAt w b wordsL) :
    Calls Tryd.prog 52 #[.slice (some ⟨b, 0, none⟩) 33 33, .string s] w fun e w' => e = .returned (.bool (isWordB s)) ∧ w = w' :=
  has s b wordsL w hL (by decide)

/- Names: a token told by its kind and its end. -/
def tokV (k : Int) (s : ByteArray) (a b : Int) : Value := .agg #[.int .u8 k, .string s, .int .i64 0, .int .i64 a, .int .i64 b]
/- The token in the making. -/
structure NT (w W : World) (t : ByteArray) (k j : Int) : Prop where
  a0 : W.cell? ⟨w.heap.size, 0, none⟩ = some (.int .u8 0)
  a1 : W.cell? ⟨w.heap.size, 1, none⟩ = some (.string ⟨#[]⟩)
  a2 : W.cell? ⟨w.heap.size, 2, none⟩ = some (.int .i64 0)
  a3 : W.cell? ⟨w.heap.size, 3, none⟩ = some (.int .i64 0)
  a4 : W.cell? ⟨w.heap.size, 4, none⟩ = some (.int .i64 0)
  b0 : W.cell? ⟨w.heap.size + 1, 0, none⟩ = some (.int .u8 4)
  b1 : W.cell? ⟨w.heap.size + 1, 1, none⟩ = some (.string t)
  b2 : W.cell? ⟨w.heap.size + 1, 2, none⟩ = some (.int .i64 0)
  b3 : W.cell? ⟨w.heap.size + 1, 3, none⟩ = some (.int .i64 k)
  b4 : W.cell? ⟨w.heap.size + 1, 4, none⟩ = some (.int .i64 j)
  fa0 : W.frozen? ⟨w.heap.size, 0, none⟩ = false
  fa1 : W.frozen? ⟨w.heap.size, 1, none⟩ = false
  fa2 : W.frozen? ⟨w.heap.size, 2, none⟩ = false
  fa3 : W.frozen? ⟨w.heap.size, 3, none⟩ = false
  fa4 : W.frozen? ⟨w.heap.size, 4, none⟩ = false
  fb0 : W.frozen? ⟨w.heap.size + 1, 0, none⟩ = false
  fb1 : W.frozen? ⟨w.heap.size + 1, 1, none⟩ = false
  fb2 : W.frozen? ⟨w.heap.size + 1, 2, none⟩ = false
  fb3 : W.frozen? ⟨w.heap.size + 1, 3, none⟩ = false
  fb4 : W.frozen? ⟨w.heap.size + 1, 4, none⟩ = false
  below : Below w.heap.size w W
  size : w.heap.size + 2 ≤ W.heap.size
theorem NT.later {w W W' : World} {t : ByteArray} {k j : Int} (h : NT w W t k j) (hb : Below W.heap.size W W') : NT w W' t k j :=
  ⟨by rw [hb.cell (p := ⟨w.heap.size, 0, none⟩) (by have := h.size; show w.heap.size < _; omega)]; exact h.a0, by rw [hb.cell (p := ⟨w.heap.size, 1, none⟩) (by have := h.size; show w.heap.size < _; omega)]; exact h.a1, by rw [hb.cell (p := ⟨w.heap.size, 2, none⟩) (by have := h.size; show w.heap.size < _; omega)]; exact h.a2, by rw [hb.cell (p := ⟨w.heap.size, 3, none⟩) (by have := h.size; show w.heap.size < _; omega)]; exact h.a3, by rw [hb.cell (p := ⟨w.heap.size, 4, none⟩) (by have := h.size; show w.heap.size < _; omega)]; exact h.a4, by rw [hb.cell (p := ⟨w.heap.size + 1, 0, none⟩) (by have := h.size; show w.heap.size + 1 < _; omega)]; exact h.b0, by rw [hb.cell (p := ⟨w.heap.size + 1, 1, none⟩) (by have := h.size; show w.heap.size + 1 < _; omega)]; exact h.b1, by rw [hb.cell (p := ⟨w.heap.size + 1, 2, none⟩) (by have := h.size; show w.heap.size + 1 < _; omega)]; exact h.b2, by rw [hb.cell (p := ⟨w.heap.size + 1, 3, none⟩) (by have := h.size; show w.heap.size + 1 < _; omega)]; exact h.b3, by rw [hb.cell (p := ⟨w.heap.size + 1, 4, none⟩) (by have := h.size; show w.heap.size + 1 < _; omega)]; exact h.b4, by rw [hb.frozen (p := ⟨w.heap.size, 0, none⟩) (by have := h.size; show w.heap.size < _; omega)]; exact h.fa0, by rw [hb.frozen (p := ⟨w.heap.size, 1, none⟩) (by have := h.size; show w.heap.size < _; omega)]; exact h.fa1, by rw [hb.frozen (p := ⟨w.heap.size, 2, none⟩) (by have := h.size; show w.heap.size < _; omega)]; exact h.fa2, by rw [hb.frozen (p := ⟨w.heap.size, 3, none⟩) (by have := h.size; show w.heap.size < _; omega)]; exact h.fa3, by rw [hb.frozen (p := ⟨w.heap.size, 4, none⟩) (by have := h.size; show w.heap.size < _; omega)]; exact h.fa4, by rw [hb.frozen (p := ⟨w.heap.size + 1, 0, none⟩) (by have := h.size; show w.heap.size + 1 < _; omega)]; exact h.fb0, by rw [hb.frozen (p := ⟨w.heap.size + 1, 1, none⟩) (by have := h.size; show w.heap.size + 1 < _; omega)]; exact h.fb1, by rw [hb.frozen (p := ⟨w.heap.size + 1, 2, none⟩) (by have := h.size; show w.heap.size + 1 < _; omega)]; exact h.fb2, by rw [hb.frozen (p := ⟨w.heap.size + 1, 3, none⟩) (by have := h.size; show w.heap.size + 1 < _; omega)]; exact h.fb3, by rw [hb.frozen (p := ⟨w.heap.size + 1, 4, none⟩) (by have := h.size; show w.heap.size + 1 < _; omega)]; exact h.fb4, h.below.trans (hb.mono (by have := h.size; omega)), by have := h.size; have := hb.size; omega⟩
theorem NT.new (w : World) (t : ByteArray) (k j : Int) : NT w ((w.alloc (.cells #[.int .u8 0, .string ⟨#[]⟩, .int .i64 0, .int .i64 0, .int .i64 0] 24)).alloc (.cells #[.int .u8 4, .string t, .int .i64 0, .int .i64 k, .int .i64 j] 24)) t k j := by
  refine ⟨?_, ?_, ?_, ?_, ?_, ?_, ?_, ?_, ?_, ?_, ?_, ?_, ?_, ?_, ?_, ?_, ?_, ?_, ?_, ?_, ((Below.refl _ w).alloc (Nat.le_refl _) _).alloc (by simp) _, by simp⟩
  all_goals simp [go_sem]
theorem NT.drewN {w W : World} {t : ByteArray} {k j : Int} (h : NT w W t k j) (n : Nat) : NT w (W.drewN n) t k j := h.later (below_drewN (Below.refl _ _) n)
set_option maxHeartbeats 3200000 in
theorem refName (s : ByteArray) (k : Nat) (m : Int) (w0 w : World) (hL : Live m w0 w) (hk : k ≤ s.size) (hs : s.size ≤ 65536) :
    Calls Tryd.prog 31 #[.string s, .int .i64 k] w fun e w' => e = .returned (tokV (kindN s k (upTo wordI s k)) (s.extract k (upTo wordI s k)) k (upTo wordI s k)) ∧ Live m w0 w' := by
  have n1 := upTo_ge wordI s k
  have n2 := upTo_le wordI s k hk
  generalize hw : upTo wordI s k = n at *
  have HW := Lib.hid hw
  clear hw
  go_enter Tryd.func31, Tryd.ntmps31
  go_wp2_with fail
  go_loop [5] (fun i => ∃ j : Nat, k ≤ j ∧ j ≤ s.size ∧ i = .int .i64 j ∧ upTo wordI s j = n) (fun i => s.size - (intOf i).toNat)
  case atStart => exact ⟨k, Nat.le_refl _, hk, rfl, HW.out⟩
  case round =>
    obtain ⟨j, hj0, hj, rfl, hu⟩ := hrel
    have HU := Lib.hid hu
    clear hu
    by_cases hl : letterI (bAt s j) = true
    · have hlt : j < s.size := bAt_lt (fun e => by rw [e] at hl; exact absurd hl (by decide))
      have HD := Lib.hid (upTo_byes (p := wordI) hlt (by unfold wordI; rw [hl]; rfl))
      go_wp2_with (first
        | (go_at_call 29; (with_reducible refine (refByte s j _ rfl _).mono ?_); rintro e w' ⟨rfl, rfl⟩)
        | (go_at_call 30; (with_reducible refine (refLetter _ _).mono ?_); rintro e w' ⟨rfl, rfl⟩)
        | (go_at_call 51; (with_reducible refine (refDigit _ _).mono ?_); rintro e w' ⟨rfl, rfl⟩))
      go_round
      case rel => exact ⟨j + 1, by omega, by omega, by go_num, by rw [← HD.out, HU.out]⟩
      case measure => simp [intOf]; omega
    have hl' := Bool.eq_false_iff.mpr hl
    by_cases hd : digitI (bAt s j) = true
    · have hlt : j < s.size := digit_of hd
      have HD := Lib.hid (upTo_byes (p := wordI) hlt (by unfold wordI; rw [hl', hd]; rfl))
      clear hl
      go_wp2_with (first
        | (go_at_call 29; (with_reducible refine (refByte s j _ rfl _).mono ?_); rintro e w' ⟨rfl, rfl⟩)
        | (go_at_call 30; (with_reducible refine (refLetter _ _).mono ?_); rintro e w' ⟨rfl, rfl⟩)
        | (go_at_call 51; (with_reducible refine (refDigit _ _).mono ?_); rintro e w' ⟨rfl, rfl⟩))
      go_round
      case rel => exact ⟨j + 1, by omega, by omega, by go_num, by rw [← HD.out, HU.out]⟩
      case measure => simp [intOf]; omega
    have hd' := Bool.eq_false_iff.mpr hd
    have e1 : j = n := by rw [← HU.out]; exact (upTo_bno (p := wordI) (by unfold wordI; rw [hl', hd']; rfl)).symm
    subst e1
    clear hl hd HU
    by_cases c1 : isWordB (s.extract k j) = true
    · have HE := Lib.hid (show kindN s k j = 6 by unfold kindN; rw [if_pos c1])
      go_wp2_with (first
        | (go_at_call 29; (with_reducible refine (refByte s j _ rfl _).mono ?_); rintro e w' ⟨rfl, rfl⟩)
        | (go_at_call 30; (with_reducible refine (refLetter _ _).mono ?_); rintro e w' ⟨rfl, rfl⟩)
        | (go_at_call 51; (with_reducible refine (refDigit _ _).mono ?_); rintro e w' ⟨rfl, rfl⟩))
      have HN := Lib.hid (NT.new w (s.extract k j) k j)
      generalize hWW : ((w.alloc (.cells #[.int .u8 0, .string ⟨#[]⟩, .int .i64 0, .int .i64 0, .int .i64 0] 24)).alloc (.cells #[.int .u8 4, .string (s.extract k j), .int .i64 0, .int .i64 k, .int .i64 j] 24)) = W at *
      clear hWW
      obtain ⟨xa0, xa1, xa2, xa3, xa4, xb0, xb1, xb2, xb3, xb4, xfa0, xfa1, xfa2, xfa3, xfa4, xfb0, xfb1, xfb2, xfb3, xfb4, xbe, xsz⟩ := HN.out
      go_region_with (first
        | (go_at_call 53; refine (words _).mono ?_; rintro e w' ⟨rfl, ht, hb, hz⟩; have HN2 := Lib.hid (HN.out.later ((Below.refl _ _).drew.trans hb)); have HT := Lib.hid ht; clear ht hb hz xa0 xa1 xa2 xa3 xa4 xb0 xb1 xb2 xb3 xb4 xfa0 xfa1 xfa2 xfa3 xfa4 xfb0 xfb1 xfb2 xfb3 xfb4 xbe xsz; obtain ⟨ya0, ya1, ya2, ya3, ya4, yb0, yb1, yb2, yb3, yb4, yfa0, yfa1, yfa2, yfa3, yfa4, yfb0, yfb1, yfb2, yfb3, yfb4, ybe, ysz⟩ := HN2.out; clear ybe)
        | (go_at_call 52; refine (hasWord _ _ _ HT.out).mono ?_; rintro e w' ⟨rfl, rfl⟩))
      all_goals
        go_wp2_with (first
          | (go_at_call 29; (with_reducible refine (refByte s j _ rfl _).mono ?_); rintro e w' ⟨rfl, rfl⟩))
        refine bodyPost_ret (v := tokV 6 (s.extract k j) k j) (by simp [results, Tryd.results31, go_sem, tokV, ya0, ya1, ya2, ya3, ya4]) rfl ?_
        rw [HE.out]
        exact ⟨rfl, hL.step ((((((HN2.out.below.setCell (by simp) _).setCell (by simp) _).setCell (by simp) _).setCell (by simp) _).setCell (by simp) _).setCell (by simp) _)⟩
    have c1' := Bool.eq_false_iff.mpr c1
    by_cases c2 : bAt s j = 40
    · have HE := Lib.hid (show kindN s k j = 5 by unfold kindN; rw [if_neg c1, if_pos c2])
      clear c1
      go_wp2_with (first
        | (go_at_call 29; (with_reducible refine (refByte s j _ rfl _).mono ?_); rintro e w' ⟨rfl, rfl⟩)
        | (go_at_call 30; (with_reducible refine (refLetter _ _).mono ?_); rintro e w' ⟨rfl, rfl⟩)
        | (go_at_call 51; (with_reducible refine (refDigit _ _).mono ?_); rintro e w' ⟨rfl, rfl⟩))
      have HN := Lib.hid (NT.new w (s.extract k j) k j)
      generalize hWW : ((w.alloc (.cells #[.int .u8 0, .string ⟨#[]⟩, .int .i64 0, .int .i64 0, .int .i64 0] 24)).alloc (.cells #[.int .u8 4, .string (s.extract k j), .int .i64 0, .int .i64 k, .int .i64 j] 24)) = W at *
      clear hWW
      obtain ⟨xa0, xa1, xa2, xa3, xa4, xb0, xb1, xb2, xb3, xb4, xfa0, xfa1, xfa2, xfa3, xfa4, xfb0, xfb1, xfb2, xfb3, xfb4, xbe, xsz⟩ := HN.out
      go_region_with (first
        | (go_at_call 53; refine (words _).mono ?_; rintro e w' ⟨rfl, ht, hb, hz⟩; have HN2 := Lib.hid (HN.out.later ((Below.refl _ _).drew.trans hb)); have HT := Lib.hid ht; clear ht hb hz xa0 xa1 xa2 xa3 xa4 xb0 xb1 xb2 xb3 xb4 xfa0 xfa1 xfa2 xfa3 xfa4 xfb0 xfb1 xfb2 xfb3 xfb4 xbe xsz; obtain ⟨ya0, ya1, ya2, ya3, ya4, yb0, yb1, yb2, yb3, yb4, yfa0, yfa1, yfa2, yfa3, yfa4, yfb0, yfb1, yfb2, yfb3, yfb4, ybe, ysz⟩ := HN2.out; clear ybe)
        | (go_at_call 52; refine (hasWord _ _ _ HT.out).mono ?_; rintro e w' ⟨rfl, rfl⟩))
      all_goals
        go_wp2_with (first
          | (go_at_call 29; (with_reducible refine (refByte s j _ rfl _).mono ?_); rintro e w' ⟨rfl, rfl⟩))
        refine bodyPost_ret (v := tokV 5 (s.extract k j) k j) (by simp [results, Tryd.results31, go_sem, tokV, ya0, ya1, ya2, ya3, ya4]) rfl ?_
        rw [HE.out]
        exact ⟨rfl, hL.step ((((((HN2.out.below.setCell (by simp) _).setCell (by simp) _).setCell (by simp) _).setCell (by simp) _).setCell (by simp) _).setCell (by simp) _)⟩
    · have HE := Lib.hid (show kindN s k j = 4 by unfold kindN; rw [if_neg c1, if_neg c2])
      have c2' : (bAt s j == 40) = false := by rw [beq_eq_false_iff_ne]; exact c2
      clear c1 c2
      go_wp2_with (first
        | (go_at_call 29; (with_reducible refine (refByte s j _ rfl _).mono ?_); rintro e w' ⟨rfl, rfl⟩)
        | (go_at_call 30; (with_reducible refine (refLetter _ _).mono ?_); rintro e w' ⟨rfl, rfl⟩)
        | (go_at_call 51; (with_reducible refine (refDigit _ _).mono ?_); rintro e w' ⟨rfl, rfl⟩))
      have HN := Lib.hid (NT.new w (s.extract k j) k j)
      generalize hWW : ((w.alloc (.cells #[.int .u8 0, .string ⟨#[]⟩, .int .i64 0, .int .i64 0, .int .i64 0] 24)).alloc (.cells #[.int .u8 4, .string (s.extract k j), .int .i64 0, .int .i64 k, .int .i64 j] 24)) = W at *
      clear hWW
      obtain ⟨xa0, xa1, xa2, xa3, xa4, xb0, xb1, xb2, xb3, xb4, xfa0, xfa1, xfa2, xfa3, xfa4, xfb0, xfb1, xfb2, xfb3, xfb4, xbe, xsz⟩ := HN.out
      go_region_with (first
        | (go_at_call 53; refine (words _).mono ?_; rintro e w' ⟨rfl, ht, hb, hz⟩; have HN2 := Lib.hid (HN.out.later ((Below.refl _ _).drew.trans hb)); have HT := Lib.hid ht; clear ht hb hz xa0 xa1 xa2 xa3 xa4 xb0 xb1 xb2 xb3 xb4 xfa0 xfa1 xfa2 xfa3 xfa4 xfb0 xfb1 xfb2 xfb3 xfb4 xbe xsz; obtain ⟨ya0, ya1, ya2, ya3, ya4, yb0, yb1, yb2, yb3, yb4, yfa0, yfa1, yfa2, yfa3, yfa4, yfb0, yfb1, yfb2, yfb3, yfb4, ybe, ysz⟩ := HN2.out; clear ybe)
        | (go_at_call 52; refine (hasWord _ _ _ HT.out).mono ?_; rintro e w' ⟨rfl, rfl⟩))
      all_goals
        go_wp2_with (first
          | (go_at_call 29; (with_reducible refine (refByte s j _ rfl _).mono ?_); rintro e w' ⟨rfl, rfl⟩))
        refine bodyPost_ret (v := tokV 4 (s.extract k j) k j) (by simp [results, Tryd.results31, go_sem, tokV, ya0, ya1, ya2, ya3, ya4]) rfl ?_
        rw [HE.out]
        exact ⟨rfl, hL.step (((((HN2.out.below.setCell (by simp) _).setCell (by simp) _).setCell (by simp) _).setCell (by simp) _).setCell (by simp) _)⟩
end Go.Proofs.YtefpkgdakihceaaDoor.Lx
