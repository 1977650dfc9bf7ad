/-
  The document's own side of layer 12 (winnowerref12), second part: where numbers end; lines.
-/
import Derived.Test.YtefpkgdakihceaaDoorLxR
namespace Go.Proofs.YtefpkgdakihceaaDoor.Lx
open Go.RowKit

theorem digit_of {s : ByteArray} {k : Nat} (h : digitI (bAt s k) = true) : k < s.size := bAt_lt (fun e => by rw [e] at h; exact absurd h (by decide))
set_option maxHeartbeats 6400000 in
theorem refNumber (s : ByteArray) (k : Nat) (w : World) (hk : k ≤ s.size) (hs : s.size ≤ 65536) :
    Calls Tryd.prog 32 #[.string s, .int .i64 k] w fun e w' => e = .returned (.int .i64 (numE s k)) ∧ w = w' := by
  have a1 := upTo_ge digitI s k
  have a2 := upTo_le digitI s k hk
  have HM : Hid (mantE s k = if bAt s (upTo digitI s k) = 46 ∧ (k < upTo digitI s k ∨ digitI (bAt s (upTo digitI s k + 1)) = true) then upTo digitI s (upTo digitI s k + 1) else upTo digitI s k) := rfl
  generalize hd1 : upTo digitI s k = d1 at *
  have HD1 := Lib.hid hd1
  clear hd1
  by_cases c1 : bAt s d1 = 46 ∧ (k < d1 ∨ digitI (bAt s (d1 + 1)) = true)
  · have b1 : d1 + 1 ≤ s.size := bAt_lt (by omega)
    have b2 := upTo_ge digitI s (d1 + 1)
    have b22 := upTo_le digitI s (d1 + 1) b1
    have HM2 := Lib.hid (show mantE s k = upTo digitI s (d1 + 1) by rw [HM.out, if_pos c1])
    generalize hd2 : upTo digitI s (d1 + 1) = d2 at *
    have HD2 := Lib.hid hd2
    clear hd2
    obtain ⟨c11, c12⟩ := c1
    have n1 : ((d2 : Int) == (k : Int)) = false := by rw [beq_eq_false_iff_ne]; omega
    have HN := Lib.hid (show numE s k = powE s d2 by unfold numE; rw [HM2.out, if_neg (by omega)])
    have c12' : k < d1 ∨ (¬ k < d1 ∧ digitI (bAt s (d1 + 1)) = true) := by
      by_cases h : k < d1
      · exact .inl h
      · exact .inr ⟨h, c12.resolve_left h⟩
    clear c12
    rcases c12' with c12 | ⟨c12, c13⟩
    all_goals
      by_cases c2 : bAt s d2 = 101 ∨ bAt s d2 = 69
      · have b3 : d2 < s.size := bAt_lt (by omega)
        by_cases c3 : bAt s (d2 + 1) = 43 ∨ bAt s (d2 + 1) = 45
        · have b4 : d2 + 1 < s.size := bAt_lt (by omega)
          have HS := Lib.hid (show sgnE s (d2 + 1) = d2 + 2 by unfold sgnE; rw [if_pos c3])
          by_cases c4 : digitI (bAt s (d2 + 2)) = true
          · have b5 := digit_of c4
            have HE := Lib.hid (show numE s k = upTo digitI s (d2 + 2) by rw [HN.out]; unfold powE; rw [if_pos c2, HS.out, if_pos c4])
            rcases c2 with c2 | c2 <;> rcases c3 with c3 | c3
            all_goals
              go_enter Tryd.func32, Tryd.ntmps32
              go_wp2_with (first
                | (go_at_call 54; refine (refDigits s k _ (by omega) _ (by omega) hs).mono ?_; rintro e w' ⟨rfl, rfl⟩; try rw [HD1.out])
                | (go_at_call 54; refine (refDigits s (d1 + 1) _ (by omega) _ (by omega) hs).mono ?_; rintro e w' ⟨rfl, rfl⟩; try rw [HD2.out])
                | (go_at_call 54; refine (refDigits s (d2 + 1) _ (by omega) _ (by omega) hs).mono ?_; rintro e w' ⟨rfl, rfl⟩)
                | (go_at_call 54; refine (refDigits s (d2 + 2) _ (by omega) _ (by omega) hs).mono ?_; rintro e w' ⟨rfl, rfl⟩)
                | (go_at_call 51; refine (refDigit _ _).mono ?_; rintro e w' ⟨rfl, rfl⟩)
                | (go_at_call 29; refine (refByte s d1 _ (by omega) _).mono ?_; rintro e w' ⟨rfl, rfl⟩)
                | (go_at_call 29; refine (refByte s (d1 + 1) _ (by omega) _).mono ?_; rintro e w' ⟨rfl, rfl⟩)
                | (go_at_call 29; refine (refByte s d2 _ (by omega) _).mono ?_; rintro e w' ⟨rfl, rfl⟩)
                | (go_at_call 29; refine (refByte s (d2 + 1) _ (by omega) _).mono ?_; rintro e w' ⟨rfl, rfl⟩)
                | (go_at_call 29; refine (refByte s (d2 + 2) _ (by omega) _).mono ?_; rintro e w' ⟨rfl, rfl⟩))
              go_ret
              exact ⟨ret_int (by rw [HE.out]), rfl⟩
          · have HE := Lib.hid (show numE s k = d2 by rw [HN.out]; unfold powE; rw [if_pos c2, HS.out, if_neg c4])
            have c4' := Bool.eq_false_iff.mpr c4
            clear c4
            rcases c2 with c2 | c2 <;> rcases c3 with c3 | c3
            all_goals
              go_enter Tryd.func32, Tryd.ntmps32
              go_wp2_with (first
                | (go_at_call 54; refine (refDigits s k _ (by omega) _ (by omega) hs).mono ?_; rintro e w' ⟨rfl, rfl⟩; try rw [HD1.out])
                | (go_at_call 54; refine (refDigits s (d1 + 1) _ (by omega) _ (by omega) hs).mono ?_; rintro e w' ⟨rfl, rfl⟩; try rw [HD2.out])
                | (go_at_call 54; refine (refDigits s (d2 + 1) _ (by omega) _ (by omega) hs).mono ?_; rintro e w' ⟨rfl, rfl⟩)
                | (go_at_call 54; refine (refDigits s (d2 + 2) _ (by omega) _ (by omega) hs).mono ?_; rintro e w' ⟨rfl, rfl⟩)
                | (go_at_call 51; refine (refDigit _ _).mono ?_; rintro e w' ⟨rfl, rfl⟩)
                | (go_at_call 29; refine (refByte s d1 _ (by omega) _).mono ?_; rintro e w' ⟨rfl, rfl⟩)
                | (go_at_call 29; refine (refByte s (d1 + 1) _ (by omega) _).mono ?_; rintro e w' ⟨rfl, rfl⟩)
                | (go_at_call 29; refine (refByte s d2 _ (by omega) _).mono ?_; rintro e w' ⟨rfl, rfl⟩)
                | (go_at_call 29; refine (refByte s (d2 + 1) _ (by omega) _).mono ?_; rintro e w' ⟨rfl, rfl⟩)
                | (go_at_call 29; refine (refByte s (d2 + 2) _ (by omega) _).mono ?_; rintro e w' ⟨rfl, rfl⟩))
              go_ret
              exact ⟨ret_int (by rw [HE.out]), rfl⟩
        · have HS := Lib.hid (show sgnE s (d2 + 1) = d2 + 1 by unfold sgnE; rw [if_neg c3])
          have q1 : (bAt s (d2 + 1) == 43) = false := by rw [beq_eq_false_iff_ne]; exact fun h => c3 (.inl h)
          have q2 : (bAt s (d2 + 1) == 45) = false := by rw [beq_eq_false_iff_ne]; exact fun h => c3 (.inr h)
          clear c3
          by_cases c4 : digitI (bAt s (d2 + 1)) = true
          · have b5 := digit_of c4
            have HE := Lib.hid (show numE s k = upTo digitI s (d2 + 1) by rw [HN.out]; unfold powE; rw [if_pos c2, HS.out, if_pos c4])
            rcases c2 with c2 | c2
            all_goals
              go_enter Tryd.func32, Tryd.ntmps32
              go_wp2_with (first
                | (go_at_call 54; refine (refDigits s k _ (by omega) _ (by omega) hs).mono ?_; rintro e w' ⟨rfl, rfl⟩; try rw [HD1.out])
                | (go_at_call 54; refine (refDigits s (d1 + 1) _ (by omega) _ (by omega) hs).mono ?_; rintro e w' ⟨rfl, rfl⟩; try rw [HD2.out])
                | (go_at_call 54; refine (refDigits s (d2 + 1) _ (by omega) _ (by omega) hs).mono ?_; rintro e w' ⟨rfl, rfl⟩)
                | (go_at_call 54; refine (refDigits s (d2 + 2) _ (by omega) _ (by omega) hs).mono ?_; rintro e w' ⟨rfl, rfl⟩)
                | (go_at_call 51; refine (refDigit _ _).mono ?_; rintro e w' ⟨rfl, rfl⟩)
                | (go_at_call 29; refine (refByte s d1 _ (by omega) _).mono ?_; rintro e w' ⟨rfl, rfl⟩)
                | (go_at_call 29; refine (refByte s (d1 + 1) _ (by omega) _).mono ?_; rintro e w' ⟨rfl, rfl⟩)
                | (go_at_call 29; refine (refByte s d2 _ (by omega) _).mono ?_; rintro e w' ⟨rfl, rfl⟩)
                | (go_at_call 29; refine (refByte s (d2 + 1) _ (by omega) _).mono ?_; rintro e w' ⟨rfl, rfl⟩)
                | (go_at_call 29; refine (refByte s (d2 + 2) _ (by omega) _).mono ?_; rintro e w' ⟨rfl, rfl⟩))
              go_ret
              exact ⟨ret_int (by rw [HE.out]), rfl⟩
          · have HE := Lib.hid (show numE s k = d2 by rw [HN.out]; unfold powE; rw [if_pos c2, HS.out, if_neg c4])
            have c4' := Bool.eq_false_iff.mpr c4
            clear c4
            rcases c2 with c2 | c2
            all_goals
              go_enter Tryd.func32, Tryd.ntmps32
              go_wp2_with (first
                | (go_at_call 54; refine (refDigits s k _ (by omega) _ (by omega) hs).mono ?_; rintro e w' ⟨rfl, rfl⟩; try rw [HD1.out])
                | (go_at_call 54; refine (refDigits s (d1 + 1) _ (by omega) _ (by omega) hs).mono ?_; rintro e w' ⟨rfl, rfl⟩; try rw [HD2.out])
                | (go_at_call 54; refine (refDigits s (d2 + 1) _ (by omega) _ (by omega) hs).mono ?_; rintro e w' ⟨rfl, rfl⟩)
                | (go_at_call 54; refine (refDigits s (d2 + 2) _ (by omega) _ (by omega) hs).mono ?_; rintro e w' ⟨rfl, rfl⟩)
                | (go_at_call 51; refine (refDigit _ _).mono ?_; rintro e w' ⟨rfl, rfl⟩)
                | (go_at_call 29; refine (refByte s d1 _ (by omega) _).mono ?_; rintro e w' ⟨rfl, rfl⟩)
                | (go_at_call 29; refine (refByte s (d1 + 1) _ (by omega) _).mono ?_; rintro e w' ⟨rfl, rfl⟩)
                | (go_at_call 29; refine (refByte s d2 _ (by omega) _).mono ?_; rintro e w' ⟨rfl, rfl⟩)
                | (go_at_call 29; refine (refByte s (d2 + 1) _ (by omega) _).mono ?_; rintro e w' ⟨rfl, rfl⟩)
                | (go_at_call 29; refine (refByte s (d2 + 2) _ (by omega) _).mono ?_; rintro e w' ⟨rfl, rfl⟩))
              go_ret
              exact ⟨ret_int (by rw [HE.out]), rfl⟩
      · have HE := Lib.hid (show numE s k = d2 by rw [HN.out]; unfold powE; rw [if_neg c2])
        have q3 : (bAt s d2 == 101) = false := by rw [beq_eq_false_iff_ne]; exact fun h => c2 (.inl h)
        have q4 : (bAt s d2 == 69) = false := by rw [beq_eq_false_iff_ne]; exact fun h => c2 (.inr h)
        clear c2
        go_enter Tryd.func32, Tryd.ntmps32
        go_wp2_with (first
          | (go_at_call 54; refine (refDigits s k _ (by omega) _ (by omega) hs).mono ?_; rintro e w' ⟨rfl, rfl⟩; try rw [HD1.out])
          | (go_at_call 54; refine (refDigits s (d1 + 1) _ (by omega) _ (by omega) hs).mono ?_; rintro e w' ⟨rfl, rfl⟩; try rw [HD2.out])
          | (go_at_call 54; refine (refDigits s (d2 + 1) _ (by omega) _ (by omega) hs).mono ?_; rintro e w' ⟨rfl, rfl⟩)
          | (go_at_call 54; refine (refDigits s (d2 + 2) _ (by omega) _ (by omega) hs).mono ?_; rintro e w' ⟨rfl, rfl⟩)
          | (go_at_call 51; refine (refDigit _ _).mono ?_; rintro e w' ⟨rfl, rfl⟩)
          | (go_at_call 29; refine (refByte s d1 _ (by omega) _).mono ?_; rintro e w' ⟨rfl, rfl⟩)
          | (go_at_call 29; refine (refByte s (d1 + 1) _ (by omega) _).mono ?_; rintro e w' ⟨rfl, rfl⟩)
          | (go_at_call 29; refine (refByte s d2 _ (by omega) _).mono ?_; rintro e w' ⟨rfl, rfl⟩)
          | (go_at_call 29; refine (refByte s (d2 + 1) _ (by omega) _).mono ?_; rintro e w' ⟨rfl, rfl⟩)
          | (go_at_call 29; refine (refByte s (d2 + 2) _ (by omega) _).mono ?_; rintro e w' ⟨rfl, rfl⟩))
        go_ret
        exact ⟨ret_int (by rw [HE.out]), rfl⟩
  · have HM2 := Lib.hid (show mantE s k = d1 by rw [HM.out, if_neg c1])
    have HD2 := Lib.hid (rfl : d1 = d1)
    by_cases c0 : d1 = k
    · have HE := Lib.hid (show numE s k = k by unfold numE; rw [HM2.out, if_pos c0])
      subst c0
      by_cases c11 : bAt s d1 = 46
      · have c13 : digitI (bAt s (d1 + 1)) = false := Bool.eq_false_iff.mpr fun h => c1 ⟨c11, .inr h⟩
        clear c1
        go_enter Tryd.func32, Tryd.ntmps32
        go_wp2_with (first
          | (go_at_call 54; refine (refDigits s d1 _ (by omega) _ (by omega) hs).mono ?_; rintro e w' ⟨rfl, rfl⟩; try rw [HD1.out])
          | (go_at_call 54; refine (refDigits s (d1 + 1) _ (by omega) _ (by omega) hs).mono ?_; rintro e w' ⟨rfl, rfl⟩; try rw [HD2.out])
          | (go_at_call 54; refine (refDigits s (d1 + 1) _ (by omega) _ (by omega) hs).mono ?_; rintro e w' ⟨rfl, rfl⟩)
          | (go_at_call 54; refine (refDigits s (d1 + 2) _ (by omega) _ (by omega) hs).mono ?_; rintro e w' ⟨rfl, rfl⟩)
          | (go_at_call 51; refine (refDigit _ _).mono ?_; rintro e w' ⟨rfl, rfl⟩)
          | (go_at_call 29; refine (refByte s d1 _ (by omega) _).mono ?_; rintro e w' ⟨rfl, rfl⟩)
          | (go_at_call 29; refine (refByte s (d1 + 1) _ (by omega) _).mono ?_; rintro e w' ⟨rfl, rfl⟩)
          | (go_at_call 29; refine (refByte s d1 _ (by omega) _).mono ?_; rintro e w' ⟨rfl, rfl⟩)
          | (go_at_call 29; refine (refByte s (d1 + 1) _ (by omega) _).mono ?_; rintro e w' ⟨rfl, rfl⟩)
          | (go_at_call 29; refine (refByte s (d1 + 2) _ (by omega) _).mono ?_; rintro e w' ⟨rfl, rfl⟩))
        go_ret
        exact ⟨ret_int (by rw [HE.out]), rfl⟩
      · have q0 : (bAt s d1 == 46) = false := by rw [beq_eq_false_iff_ne]; exact c11
        clear c1 c11
        go_enter Tryd.func32, Tryd.ntmps32
        go_wp2_with (first
          | (go_at_call 54; refine (refDigits s d1 _ (by omega) _ (by omega) hs).mono ?_; rintro e w' ⟨rfl, rfl⟩; try rw [HD1.out])
          | (go_at_call 54; refine (refDigits s (d1 + 1) _ (by omega) _ (by omega) hs).mono ?_; rintro e w' ⟨rfl, rfl⟩; try rw [HD2.out])
          | (go_at_call 54; refine (refDigits s (d1 + 1) _ (by omega) _ (by omega) hs).mono ?_; rintro e w' ⟨rfl, rfl⟩)
          | (go_at_call 54; refine (refDigits s (d1 + 2) _ (by omega) _ (by omega) hs).mono ?_; rintro e w' ⟨rfl, rfl⟩)
          | (go_at_call 51; refine (refDigit _ _).mono ?_; rintro e w' ⟨rfl, rfl⟩)
          | (go_at_call 29; refine (refByte s d1 _ (by omega) _).mono ?_; rintro e w' ⟨rfl, rfl⟩)
          | (go_at_call 29; refine (refByte s (d1 + 1) _ (by omega) _).mono ?_; rintro e w' ⟨rfl, rfl⟩)
          | (go_at_call 29; refine (refByte s d1 _ (by omega) _).mono ?_; rintro e w' ⟨rfl, rfl⟩)
          | (go_at_call 29; refine (refByte s (d1 + 1) _ (by omega) _).mono ?_; rintro e w' ⟨rfl, rfl⟩)
          | (go_at_call 29; refine (refByte s (d1 + 2) _ (by omega) _).mono ?_; rintro e w' ⟨rfl, rfl⟩))
        go_ret
        exact ⟨ret_int (by rw [HE.out]), rfl⟩
    · have n1 : ((d1 : Int) == (k : Int)) = false := by rw [beq_eq_false_iff_ne]; omega
      have c12 : k < d1 := by omega
      have q0 : (bAt s d1 == 46) = false := by rw [beq_eq_false_iff_ne]; exact fun h => c1 ⟨h, .inl c12⟩
      have HN := Lib.hid (show numE s k = powE s d1 by unfold numE; rw [HM2.out, if_neg c0])
      clear c1 c0
      by_cases c2 : bAt s d1 = 101 ∨ bAt s d1 = 69
      · have b3 : d1 < s.size := bAt_lt (by omega)
        by_cases c3 : bAt s (d1 + 1) = 43 ∨ bAt s (d1 + 1) = 45
        · have b4 : d1 + 1 < s.size := bAt_lt (by omega)
          have HS := Lib.hid (show sgnE s (d1 + 1) = d1 + 2 by unfold sgnE; rw [if_pos c3])
          by_cases c4 : digitI (bAt s (d1 + 2)) = true
          · have b5 := digit_of c4
            have HE := Lib.hid (show numE s k = upTo digitI s (d1 + 2) by rw [HN.out]; unfold powE; rw [if_pos c2, HS.out, if_pos c4])
            rcases c2 with c2 | c2 <;> rcases c3 with c3 | c3
            all_goals
              go_enter Tryd.func32, Tryd.ntmps32
              go_wp2_with (first
                | (go_at_call 54; refine (refDigits s k _ (by omega) _ (by omega) hs).mono ?_; rintro e w' ⟨rfl, rfl⟩; try rw [HD1.out])
                | (go_at_call 54; refine (refDigits s (d1 + 1) _ (by omega) _ (by omega) hs).mono ?_; rintro e w' ⟨rfl, rfl⟩; try rw [HD2.out])
                | (go_at_call 54; refine (refDigits s (d1 + 1) _ (by omega) _ (by omega) hs).mono ?_; rintro e w' ⟨rfl, rfl⟩)
                | (go_at_call 54; refine (refDigits s (d1 + 2) _ (by omega) _ (by omega) hs).mono ?_; rintro e w' ⟨rfl, rfl⟩)
                | (go_at_call 51; refine (refDigit _ _).mono ?_; rintro e w' ⟨rfl, rfl⟩)
                | (go_at_call 29; refine (refByte s d1 _ (by omega) _).mono ?_; rintro e w' ⟨rfl, rfl⟩)
                | (go_at_call 29; refine (refByte s (d1 + 1) _ (by omega) _).mono ?_; rintro e w' ⟨rfl, rfl⟩)
                | (go_at_call 29; refine (refByte s d1 _ (by omega) _).mono ?_; rintro e w' ⟨rfl, rfl⟩)
                | (go_at_call 29; refine (refByte s (d1 + 1) _ (by omega) _).mono ?_; rintro e w' ⟨rfl, rfl⟩)
                | (go_at_call 29; refine (refByte s (d1 + 2) _ (by omega) _).mono ?_; rintro e w' ⟨rfl, rfl⟩))
              go_ret
              exact ⟨ret_int (by rw [HE.out]), rfl⟩
          · have HE := Lib.hid (show numE s k = d1 by rw [HN.out]; unfold powE; rw [if_pos c2, HS.out, if_neg c4])
            have c4' := Bool.eq_false_iff.mpr c4
            clear c4
            rcases c2 with c2 | c2 <;> rcases c3 with c3 | c3
            all_goals
              go_enter Tryd.func32, Tryd.ntmps32
              go_wp2_with (first
                | (go_at_call 54; refine (refDigits s k _ (by omega) _ (by omega) hs).mono ?_; rintro e w' ⟨rfl, rfl⟩; try rw [HD1.out])
                | (go_at_call 54; refine (refDigits s (d1 + 1) _ (by omega) _ (by omega) hs).mono ?_; rintro e w' ⟨rfl, rfl⟩; try rw [HD2.out])
                | (go_at_call 54; refine (refDigits s (d1 + 1) _ (by omega) _ (by omega) hs).mono ?_; rintro e w' ⟨rfl, rfl⟩)
                | (go_at_call 54; refine (refDigits s (d1 + 2) _ (by omega) _ (by omega) hs).mono ?_; rintro e w' ⟨rfl, rfl⟩)
                | (go_at_call 51; refine (refDigit _ _).mono ?_; rintro e w' ⟨rfl, rfl⟩)
                | (go_at_call 29; refine (refByte s d1 _ (by omega) _).mono ?_; rintro e w' ⟨rfl, rfl⟩)
                | (go_at_call 29; refine (refByte s (d1 + 1) _ (by omega) _).mono ?_; rintro e w' ⟨rfl, rfl⟩)
                | (go_at_call 29; refine (refByte s d1 _ (by omega) _).mono ?_; rintro e w' ⟨rfl, rfl⟩)
                | (go_at_call 29; refine (refByte s (d1 + 1) _ (by omega) _).mono ?_; rintro e w' ⟨rfl, rfl⟩)
                | (go_at_call 29; refine (refByte s (d1 + 2) _ (by omega) _).mono ?_; rintro e w' ⟨rfl, rfl⟩))
              go_ret
              exact ⟨ret_int (by rw [HE.out]), rfl⟩
        · have HS := Lib.hid (show sgnE s (d1 + 1) = d1 + 1 by unfold sgnE; rw [if_neg c3])
          have q1 : (bAt s (d1 + 1) == 43) = false := by rw [beq_eq_false_iff_ne]; exact fun h => c3 (.inl h)
          have q2 : (bAt s (d1 + 1) == 45) = false := by rw [beq_eq_false_iff_ne]; exact fun h => c3 (.inr h)
          clear c3
          by_cases c4 : digitI (bAt s (d1 + 1)) = true
          · have b5 := digit_of c4
            have HE := Lib.hid (show numE s k = upTo digitI s (d1 + 1) by rw [HN.out]; unfold powE; rw [if_pos c2, HS.out, if_pos c4])
            rcases c2 with c2 | c2
            all_goals
              go_enter Tryd.func32, Tryd.ntmps32
              go_wp2_with (first
                | (go_at_call 54; refine (refDigits s k _ (by omega) _ (by omega) hs).mono ?_; rintro e w' ⟨rfl, rfl⟩; try rw [HD1.out])
                | (go_at_call 54; refine (refDigits s (d1 + 1) _ (by omega) _ (by omega) hs).mono ?_; rintro e w' ⟨rfl, rfl⟩; try rw [HD2.out])
                | (go_at_call 54; refine (refDigits s (d1 + 1) _ (by omega) _ (by omega) hs).mono ?_; rintro e w' ⟨rfl, rfl⟩)
                | (go_at_call 54; refine (refDigits s (d1 + 2) _ (by omega) _ (by omega) hs).mono ?_; rintro e w' ⟨rfl, rfl⟩)
                | (go_at_call 51; refine (refDigit _ _).mono ?_; rintro e w' ⟨rfl, rfl⟩)
                | (go_at_call 29; refine (refByte s d1 _ (by omega) _).mono ?_; rintro e w' ⟨rfl, rfl⟩)
                | (go_at_call 29; refine (refByte s (d1 + 1) _ (by omega) _).mono ?_; rintro e w' ⟨rfl, rfl⟩)
                | (go_at_call 29; refine (refByte s d1 _ (by omega) _).mono ?_; rintro e w' ⟨rfl, rfl⟩)
                | (go_at_call 29; refine (refByte s (d1 + 1) _ (by omega) _).mono ?_; rintro e w' ⟨rfl, rfl⟩)
                | (go_at_call 29; refine (refByte s (d1 + 2) _ (by omega) _).mono ?_; rintro e w' ⟨rfl, rfl⟩))
              go_ret
              exact ⟨ret_int (by rw [HE.out]), rfl⟩
          · have HE := Lib.hid (show numE s k = d1 by rw [HN.out]; unfold powE; rw [if_pos c2, HS.out, if_neg c4])
            have c4' := Bool.eq_false_iff.mpr c4
            clear c4
            rcases c2 with c2 | c2
            all_goals
              go_enter Tryd.func32, Tryd.ntmps32
              go_wp2_with (first
                | (go_at_call 54; refine (refDigits s k _ (by omega) _ (by omega) hs).mono ?_; rintro e w' ⟨rfl, rfl⟩; try rw [HD1.out])
                | (go_at_call 54; refine (refDigits s (d1 + 1) _ (by omega) _ (by omega) hs).mono ?_; rintro e w' ⟨rfl, rfl⟩; try rw [HD2.out])
                | (go_at_call 54; refine (refDigits s (d1 + 1) _ (by omega) _ (by omega) hs).mono ?_; rintro e w' ⟨rfl, rfl⟩)
                | (go_at_call 54; refine (refDigits s (d1 + 2) _ (by omega) _ (by omega) hs).mono ?_; rintro e w' ⟨rfl, rfl⟩)
                | (go_at_call 51; refine (refDigit _ _).mono ?_; rintro e w' ⟨rfl, rfl⟩)
                | (go_at_call 29; refine (refByte s d1 _ (by omega) _).mono ?_; rintro e w' ⟨rfl, rfl⟩)
                | (go_at_call 29; refine (refByte s (d1 + 1) _ (by omega) _).mono ?_; rintro e w' ⟨rfl, rfl⟩)
                | (go_at_call 29; refine (refByte s d1 _ (by omega) _).mono ?_; rintro e w' ⟨rfl, rfl⟩)
                | (go_at_call 29; refine (refByte s (d1 + 1) _ (by omega) _).mono ?_; rintro e w' ⟨rfl, rfl⟩)
                | (go_at_call 29; refine (refByte s (d1 + 2) _ (by omega) _).mono ?_; rintro e w' ⟨rfl, rfl⟩))
              go_ret
              exact ⟨ret_int (by rw [HE.out]), rfl⟩
      · have HE := Lib.hid (show numE s k = d1 by rw [HN.out]; unfold powE; rw [if_neg c2])
        have q3 : (bAt s d1 == 101) = false := by rw [beq_eq_false_iff_ne]; exact fun h => c2 (.inl h)
        have q4 : (bAt s d1 == 69) = false := by rw [beq_eq_false_iff_ne]; exact fun h => c2 (.inr h)
        clear c2
        go_enter Tryd.func32, Tryd.ntmps32
        go_wp2_with (first
          | (go_at_call 54; refine (refDigits s k _ (by omega) _ (by omega) hs).mono ?_; rintro e w' ⟨rfl, rfl⟩; try rw [HD1.out])
          | (go_at_call 54; refine (refDigits s (d1 + 1) _ (by omega) _ (by omega) hs).mono ?_; rintro e w' ⟨rfl, rfl⟩; try rw [HD2.out])
          | (go_at_call 54; refine (refDigits s (d1 + 1) _ (by omega) _ (by omega) hs).mono ?_; rintro e w' ⟨rfl, rfl⟩)
          | (go_at_call 54; refine (refDigits s (d1 + 2) _ (by omega) _ (by omega) hs).mono ?_; rintro e w' ⟨rfl, rfl⟩)
          | (go_at_call 51; refine (refDigit _ _).mono ?_; rintro e w' ⟨rfl, rfl⟩)
          | (go_at_call 29; refine (refByte s d1 _ (by omega) _).mono ?_; rintro e w' ⟨rfl, rfl⟩)
          | (go_at_call 29; refine (refByte s (d1 + 1) _ (by omega) _).mono ?_; rintro e w' ⟨rfl, rfl⟩)
          | (go_at_call 29; refine (refByte s d1 _ (by omega) _).mono ?_; rintro e w' ⟨rfl, rfl⟩)
          | (go_at_call 29; refine (refByte s (d1 + 1) _ (by omega) _).mono ?_; rintro e w' ⟨rfl, rfl⟩)
          | (go_at_call 29; refine (refByte s (d1 + 2) _ (by omega) _).mono ?_; rintro e w' ⟨rfl, rfl⟩))
        go_ret
        exact ⟨ret_int (by rw [HE.out]), rfl⟩
/- Lines. -/
def lineN (s : ByteArray) (x : Int) : Int := if x < 0 ∨ (s.size : Int) < x then 0 else 1 + ((s.data.toList.take x.toNat).count 10 : Nat)
theorem take_count (s : ByteArray) (k : Nat) (h : k < s.size) : (s.data.toList.take (k + 1)).count 10 = (s.data.toList.take k).count 10 + if ((s[k]).toNat : Int) = 10 then 1 else 0 := by
  rw [List.take_succ_eq_append_getElem (by simpa using h), List.count_append]
  congr 1
  have e : s.data.toList[k]'(by simpa using h) = s[k] := rfl
  rw [e, List.count_singleton]
  by_cases hc : ((s[k]).toNat : Int) = 10
  · rw [if_pos hc, if_pos (by rw [beq_iff_eq]; exact UInt8.toNat_inj.1 (by simpa using (by omega : (s[k]).toNat = 10)))]
  · rw [if_neg hc, if_neg (fun h2 => hc (by rw [beq_iff_eq] at h2; rw [h2]; rfl))]
set_option maxHeartbeats 800000 in
theorem refLine (s : ByteArray) (x : Int) (w : World) (hs : s.size ≤ 281474976710656) :
    Calls Tryd.prog 9 #[.string s, .int .i64 x] w fun e w' => e = .returned (.int .i64 (lineN s x)) ∧ w = w' := by
  by_cases c1 : x < 0
  · have HE := Lib.hid (show lineN s x = 0 by unfold lineN; rw [if_pos (.inl c1)])
    go_enter Tryd.func9, Tryd.ntmps9
    go_wp2
    go_ret
    exact ⟨ret_int HE.out.symm, rfl⟩
  by_cases c2 : (s.size : Int) < x
  · have HE := Lib.hid (show lineN s x = 0 by unfold lineN; rw [if_pos (.inr c2)])
    have c3 : 0 ≤ x := by omega
    clear c1
    go_enter Tryd.func9, Tryd.ntmps9
    go_wp2
    go_ret
    exact ⟨ret_int HE.out.symm, rfl⟩
  obtain ⟨n, rfl⟩ : ∃ n : Nat, x = (n : Int) := ⟨x.toNat, by omega⟩
  have c3 : n ≤ s.size := by omega
  have HE := Lib.hid (show lineN s n = 1 + ((s.data.toList.take n).count 10 : Nat) by unfold lineN; rw [if_neg (by omega), Int.toNat_natCast])
  have HF := Lib.hid (fun k => List.count_le_length (a := (10 : UInt8)) (l := s.data.toList.take k))
  clear c1 c2
  go_enter Tryd.func9, Tryd.ntmps9
  go_wp2
  go_loop [5, 6] (fun c i => ∃ k : Nat, k ≤ n ∧ i = .int .i64 k ∧ c = .int .i64 (1 + ((s.data.toList.take k).count 10 : Nat))) (fun _ i => n - (intOf i).toNat)
  case atStart => exact ⟨0, Nat.zero_le _, rfl, rfl⟩
  case round =>
    obtain ⟨k, hk, rfl, rfl⟩ := hrel
    have hl : (s.data.toList.take k).count 10 ≤ k := by have := HF.out k; simp only [List.length_take] at this; omega
    by_cases hlt : k < n
    · have hlt' : k < s.size := by omega
      have HT := Lib.hid (take_count s k hlt')
      have hbd := (s[k]).toNat_lt
      by_cases h10 : ((s[k]).toNat : Int) = 10
      · go_wp2
        go_round
        case rel => exact ⟨k + 1, by omega, by go_num, by rw [HT.out, if_pos h10]; go_num⟩
        case measure => simp [intOf]; omega
      · go_wp2
        go_round
        case rel => exact ⟨k + 1, by omega, by go_num, by rw [HT.out, if_neg h10]; go_num⟩
        case measure => simp [intOf]; omega
    · obtain rfl : k = n := by omega
      go_wp2
      go_ret
      exact ⟨ret_int HE.out.symm, rfl⟩
end Go.Proofs.YtefpkgdakihceaaDoor.Lx
