/-
  The document's own side of layer 12 (winnowerref12), first part: bytes, what is passed over, digits, numbers, lines: as the plain functions tell.
-/
import Derived.Test.YtefpkgdakihceaaDoorLxB
namespace Go.Proofs.YtefpkgdakihceaaDoor.Lx
open Go.RowKit

theorem refDigit (x : Int) (w : World) :
    Calls Tryd.prog 51 #[.int .u8 x] w fun e w' => e = .returned (.bool (digitI x)) ∧ w = w' := by
  go_enter Tryd.func51, Tryd.ntmps51
  go_wp2
  all_goals go_ret
  all_goals exact ⟨ret_bool (by unfold digitI; rw [Bool.eq_iff_iff]; simp; try omega), rfl⟩
theorem refLetter (x : Int) (w : World) :
    Calls Tryd.prog 30 #[.int .u8 x] w fun e w' => e = .returned (.bool (letterI x)) ∧ w = w' := by
  go_enter Tryd.func30, Tryd.ntmps30
  go_wp2
  all_goals go_ret
  all_goals exact ⟨ret_bool (by unfold letterI; rw [Bool.eq_iff_iff]; simp; try omega), rfl⟩
theorem refByte (s : ByteArray) (k : Nat) (x : Int) (hx : x = (k : Int)) (w : World) :
    Calls Tryd.prog 29 #[.string s, .int .i64 x] w fun e w' => e = .returned (.int .u8 (bAt s k)) ∧ w = w' := by
  subst hx
  by_cases hk : k < s.size
  · have HB := Lib.hid (bAt_in hk)
    go_enter Tryd.func29, Tryd.ntmps29
    go_wp2
    go_ret
    exact ⟨ret_int HB.out.symm, rfl⟩
  · have HB := Lib.hid (bAt_out hk)
    go_enter Tryd.func29, Tryd.ntmps29
    go_wp2
    go_ret
    exact ⟨ret_int HB.out.symm, rfl⟩
theorem refDigits (s : ByteArray) (k : Nat) (x : Int) (hx : x = (k : Int)) (w : World) (hk : k ≤ s.size) (hs : s.size ≤ 65536) :
    Calls Tryd.prog 54 #[.string s, .int .i64 x] w fun e w' => e = .returned (.int .i64 (upTo digitI s k)) ∧ w = w' := by
  subst hx
  go_enter Tryd.func54, Tryd.ntmps54
  go_wp2
  go_loop [1] (fun i => ∃ j : Nat, j ≤ s.size ∧ i = .int .i64 j ∧ upTo digitI s j = upTo digitI s k) (fun i => s.size - (intOf i).toNat)
  case atStart => exact ⟨k, hk, rfl, rfl⟩
  case round =>
    obtain ⟨j, hj, rfl, hu⟩ := hrel
    have HU := Lib.hid hu
    clear hu
    by_cases hd : digitI (bAt s j) = true
    · have hlt : j < s.size := bAt_lt (fun e => by rw [e] at hd; exact absurd hd (by decide))
      have HD := Lib.hid (upTo_byes hlt hd)
      go_wp2_with (first
        | (go_at_call 29; refine (refByte s j _ rfl _).mono ?_; rintro e w' ⟨rfl, rfl⟩)
        | (go_at_call 51; refine (refDigit _ _).mono ?_; rintro e w' ⟨rfl, rfl⟩))
      go_round
      case rel => exact ⟨j + 1, by omega, by go_num, by rw [← HD.out, HU.out]⟩
      case measure => simp [intOf]; omega
    · have hd' := Bool.eq_false_iff.mpr hd
      have HD := Lib.hid (upTo_bno hd')
      clear hd
      go_wp2_with (first
        | (go_at_call 29; refine (refByte s j _ rfl _).mono ?_; rintro e w' ⟨rfl, rfl⟩)
        | (go_at_call 51; refine (refDigit _ _).mono ?_; rintro e w' ⟨rfl, rfl⟩))
      go_ret
      exact ⟨ret_int (by rw [← HU.out, HD.out]), rfl⟩

/- What is passed over. -/
theorem refPassed (s : ByteArray) (k : Nat) (w : World) (hk : k ≤ s.size) (hs : s.size ≤ 65536) :
    Calls Tryd.prog 14 #[.string s, .int .i64 k] w fun e w' => e = .returned (.int .i64 (pass s k)) ∧ w = w' := by
  go_enter Tryd.func14, Tryd.ntmps14
  go_wp2
  go_loop [1] (fun i => ∃ j : Nat, j ≤ s.size ∧ i = .int .i64 j ∧ pass s j = pass s k) (fun i => s.size - (intOf i).toNat)
  case atStart => exact ⟨k, hk, rfl, rfl⟩
  case round =>
    obtain ⟨j, hj, rfl, hu⟩ := hrel
    have HU := Lib.hid hu
    clear hu
    by_cases hlt : j < s.size
    · have hb := bAt_in hlt
      have HB := Lib.hid hb
      have hbd := (s[j]).toNat_lt
      by_cases h1 : blankI (bAt s j) = true
      · have HD := Lib.hid (pass_blank hlt h1)
        have h2 : ((s[j]).toNat : Int) = 32 ∨ ((s[j]).toNat : Int) = 9 ∨ ((s[j]).toNat : Int) = 13 := by rw [hb] at h1; simpa [blankI] using h1
        clear h1 hb
        rcases h2 with h2 | h2 | h2
        all_goals
          go_wp2_with fail
          go_round
          case rel => exact ⟨j + 1, by omega, by go_num, by rw [← HD.out, HU.out]⟩
          case measure => simp [intOf]; omega
      · have h1' : ¬ ((s[j]).toNat : Int) = 32 ∧ ¬ ((s[j]).toNat : Int) = 9 ∧ ¬ ((s[j]).toNat : Int) = 13 := by rw [hb] at h1; simpa [blankI] using h1
        have H1 := Lib.hid (Bool.eq_false_iff.mpr h1)
        obtain ⟨g1, g2, g3⟩ := h1'
        clear h1
        by_cases h2 : ((s[j]).toNat : Int) = 92
        · by_cases h3 : bAt s (j + 1) = 10
          · have hl2 : j + 1 < s.size := bAt_lt (by omega)
            have HD := Lib.hid (pass_join (by rw [hb]; exact h2) h3)
            clear hb
            go_wp2_with (first
              | (go_at_call 29; refine (refByte s (j + 1) _ (by omega) _).mono ?_; rintro e w' ⟨rfl, rfl⟩))
            go_round
            case rel => exact ⟨j + 2, by omega, by go_num, by rw [← HD.out, HU.out]⟩
            case measure => simp [intOf]; omega
          · have HD := Lib.hid (pass_stay H1.out (fun h => h3 h.2) (by rw [hb]; omega))
            clear hb
            go_wp2_with (first
              | (go_at_call 29; refine (refByte s (j + 1) _ (by omega) _).mono ?_; rintro e w' ⟨rfl, rfl⟩))
            go_ret
            exact ⟨ret_int (by rw [← HU.out, HD.out]), rfl⟩
        · by_cases h4 : ((s[j]).toNat : Int) = 35
          · have HD := Lib.hid (pass_hash (s := s) (k := j) (by rw [hb]; exact h4))
            clear hb
            go_wp2_with fail
            go_loop [1] (fun i => ∃ m : Nat, j ≤ m ∧ m ≤ s.size ∧ i = .int .i64 m ∧ upTo notLfI s m = upTo notLfI s j) (fun i => s.size - (intOf i).toNat)
            case atStart => exact ⟨j, Nat.le_refl _, hj, rfl, rfl⟩
            case round =>
              obtain ⟨m, hm0, hm, rfl, hum⟩ := hrel
              have HM := Lib.hid hum
              clear hum
              by_cases hlm : m < s.size
              · have hbm := (s[m]).toNat_lt
                by_cases h5 : ((s[m]).toNat : Int) = 10
                · have HN := Lib.hid (upTo_no (p := notLfI) hlm (by simpa [notLfI] using h5))
                  have hjm : j < m := by
                    rcases Nat.eq_or_lt_of_le hm0 with rfl | h
                    · omega
                    · exact h
                  go_wp2_with fail
                  go_round
                  case rel => exact ⟨m, by omega, rfl, by rw [← HU.out, HD.out, ← HM.out, HN.out]⟩
                  case measure => simp [intOf]; omega
                · have HN := Lib.hid (upTo_yes (p := notLfI) hlm (by simpa [notLfI] using h5))
                  go_wp2_with fail
                  go_round
                  case rel => exact ⟨m + 1, by omega, by omega, by go_num, by rw [← HN.out, HM.out]⟩
                  case measure => simp [intOf]; omega
              · have HN := Lib.hid (upTo_past (p := notLfI) hlm)
                go_wp2_with fail
                go_round
                case rel => exact ⟨m, by omega, rfl, by rw [← HU.out, HD.out, ← HM.out, HN.out]⟩
                case measure => simp [intOf]; omega
          · have HD := Lib.hid (pass_stay H1.out (fun h => h2 (by rw [← hb]; exact h.1)) (by rw [hb]; exact h4))
            have q1 : (((s[j]).toNat : Int) == 32) = false := by simpa using g1
            have q2 : (((s[j]).toNat : Int) == 9) = false := by simpa using g2
            have q3 : (((s[j]).toNat : Int) == 13) = false := by simpa using g3
            have q4 : (((s[j]).toNat : Int) == 92) = false := by simpa using h2
            have q5 : (((s[j]).toNat : Int) == 35) = false := by simpa using h4
            clear hb
            go_wp2_with fail
            go_ret
            exact ⟨ret_int (by rw [← HU.out, HD.out]), rfl⟩
    · have HD := Lib.hid (pass_past hlt)
      go_wp2_with fail
      go_ret
      exact ⟨ret_int (by rw [← HU.out, HD.out]), rfl⟩
end Go.Proofs.YtefpkgdakihceaaDoor.Lx
