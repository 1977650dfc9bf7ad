/-
  The three laws of layer 1, walked: each answers true.
-/
import Derived.Test.YtghdjhdnohooeaaOctF
namespace Go.Proofs.Ytghdjhdnohooeaa.Oct
open Go.RowKit

theorem refLowerL (s : ByteArray) (w0 w : World) (h : Live w0 w) (hs : s.size ≤ 100000) :
    Calls Try.prog 18 #[.string s] w fun e w' => e = .returned (.string (lowB s)) ∧ Live w0 w' :=
  (refLower s w hs).mono fun _ _ ⟨he, hb⟩ => ⟨he, h.next hb⟩
theorem refUpperL (s : ByteArray) (w0 w : World) (h : Live w0 w) (hs : s.size ≤ 100000) :
    Calls Try.prog 20 #[.string s] w fun e w' => e = .returned (.string (upB s)) ∧ Live w0 w' :=
  (refUpper s w hs).mono fun _ _ ⟨he, hb⟩ => ⟨he, h.next hb⟩
theorem refCutL (s : ByteArray) (f n : Int) (w0 w : World) (h : Live w0 w) (hs : s.size ≤ 100000) (hf : -9223372036854775808 ≤ f ∧ f ≤ 9223372036854775807) (hn : -9223372036854775808 ≤ n ∧ n ≤ 9223372036854775807) :
    Calls Try.prog 22 #[.string s, .int .i64 f, .int .i64 n] w fun e w' => e = .returned (.string (cutB s f n)) ∧ Live w0 w' :=
  (refCut s f n w hs hf hn).mono fun _ _ ⟨he, hb⟩ => ⟨he, h.next hb⟩

set_option maxHeartbeats 4000000 in
theorem tells (x : Int) (s t : ByteArray) (f n : Int) (w0 w : World) (hL : Live w0 w) (hs : s.size ≤ 9223372036854775807) (ht : t.size ≤ 9223372036854775807) (hf : -9223372036854775808 ≤ f ∧ f ≤ 9223372036854775807) (hn : -9223372036854775808 ≤ n ∧ n ≤ 9223372036854775807) :
    Calls Try.prog 4 #[.int .u8 x, .string s, .string t, .int .i64 f, .int .i64 n] w fun e w' => e = .returned (.bool true) ∧ Live w0 w' := by
  by_cases c1 : 3000 < s.size
  · go_enter Try.func4, Try.ntmps4
    go_wp2_with (go_at_call 16; refine (awake w0 _ (by assumption)).mono ?_; rintro e w' ⟨rfl, hL'⟩)
    go_ret
    exact ⟨rfl, hL'⟩
  by_cases c2 : 3000 < t.size
  · have c1' : s.size ≤ 3000 := by omega
    go_enter Try.func4, Try.ntmps4
    go_wp2_with (go_at_call 16; refine (awake w0 _ (by assumption)).mono ?_; rintro e w' ⟨rfl, hL'⟩)
    go_ret
    exact ⟨rfl, hL'⟩
  have c1' : s.size ≤ 3000 := by omega
  have c2' : t.size ≤ 3000 := by omega
  clear c1 c2
  go_enter Try.func4, Try.ntmps4
  go_wp2_with (first
    | (go_at_call 6; refine (blank _ _).mono ?_; rintro e w' ⟨rfl, rfl⟩)
    | (go_at_call 7; refine (refBlank _ _).mono ?_; rintro e w' ⟨rfl, rfl⟩)
    | (go_at_call 8; refine (space _ _).mono ?_; rintro e w' ⟨rfl, rfl⟩)
    | (go_at_call 9; refine (refSpace _ _).mono ?_; rintro e w' ⟨rfl, rfl⟩)
    | (go_at_call 10; refine (digit _ _).mono ?_; rintro e w' ⟨rfl, rfl⟩)
    | (go_at_call 11; refine (refDigit _ _).mono ?_; rintro e w' ⟨rfl, rfl⟩)
    | (go_at_call 12; refine (letter _ _).mono ?_; rintro e w' ⟨rfl, rfl⟩)
    | (go_at_call 13; refine (refLetter _ _).mono ?_; rintro e w' ⟨rfl, rfl⟩)
    | (go_at_call 17; refine (lowerL _ w0 _ (by assumption) (by omega)).mono ?_; rintro e w' ⟨rfl, hL'⟩)
    | (go_at_call 18; refine (refLowerL _ w0 _ (by assumption) (by omega)).mono ?_; rintro e w' ⟨rfl, hL'⟩)
    | (go_at_call 19; refine (upperL _ w0 _ (by assumption) (by omega)).mono ?_; rintro e w' ⟨rfl, hL'⟩)
    | (go_at_call 20; refine (refUpperL _ w0 _ (by assumption) (by omega)).mono ?_; rintro e w' ⟨rfl, hL'⟩)
    | (go_at_call 15; refine (indexL _ _ w0 _ (by assumption) (by omega)).mono ?_; rintro e w' ⟨rfl, rfl⟩)
    | (go_at_call 21; refine (refIndex _ _ _ (by omega) (by omega)).mono ?_; rintro e w' ⟨rfl, rfl⟩)
    | (go_at_call 14; refine (cutC _ _ _ w0 _ (by assumption) (by omega) (by omega) (by omega)).mono ?_; rintro e w' ⟨rfl, hL'⟩)
    | (go_at_call 22; refine (refCutL _ _ _ w0 _ (by assumption) (by omega) (by omega) (by omega)).mono ?_; rintro e w' ⟨rfl, hL'⟩)
    | (go_at_call 16; refine (awake w0 _ (by assumption)).mono ?_; rintro e w' ⟨rfl, hL'⟩))
  go_ret
  exact ⟨rfl, hL'⟩

set_option maxHeartbeats 4000000 in
theorem numbers (w0 w : World) (hL : Live w0 w) :
    Calls Try.prog 3 #[] w fun e w' => e = .returned (.bool true) ∧ Live w0 w' := by
  have e1 : cutB ⟨#[104, 101, 108, 108, 111]⟩ 9 1 = ⟨#[]⟩ := by decide +kernel
  have e2 : cutB ⟨#[104, 101, 108, 108, 111]⟩ 1 (-1) = ⟨#[]⟩ := by decide +kernel
  have e3 : cutB ⟨#[104, 101, 108, 108, 111]⟩ 2 9223372036854775807 = ⟨#[101, 108, 108, 111]⟩ := by decide +kernel
  have e4 : cutB ⟨#[104, 101, 108, 108, 111]⟩ 9223372036854775807 9223372036854775807 = ⟨#[]⟩ := by decide +kernel
  have e5 : cutB ⟨#[104, 101, 108, 108, 111]⟩ (-9223372036854775808) 9223372036854775807 = ⟨#[]⟩ := by decide +kernel
  have e6 : cutB ⟨#[104, 101, 108, 108, 111]⟩ (-3) 9223372036854775807 = ⟨#[104, 101, 108, 108, 111]⟩ := by decide +kernel
  have e7 : cutB ⟨#[104, 101, 108, 108, 111]⟩ (-9223372036854775808) (-9223372036854775808) = ⟨#[]⟩ := by decide +kernel
  have e8 : cutB ⟨#[]⟩ 1 1 = ⟨#[]⟩ := by decide +kernel
  have e9 : idxI ⟨#[]⟩ ⟨#[97]⟩ = 0 := by decide +kernel
  have e10 : idxI ⟨#[97, 97, 98]⟩ ⟨#[97, 98]⟩ = 2 := by decide +kernel
  go_enter Try.func3, Try.ntmps3
  go_wp2_with fail
  go_loop [1] (fun i => ∃ k : Nat, k ≤ 256 ∧ i = .int .i64 k) (fun i => 256 - (intOf i).toNat)
  case atStart => exact ⟨0, Nat.zero_le _, rfl⟩
  case round =>
    obtain ⟨k, hk, rfl⟩ := hrel
    by_cases hlt : k < 256
    · clear e1 e2 e3 e4 e5 e6 e7 e8 e9 e10
      have hlt' : (k : Int) < 256 := by omega
      go_wp2_with (first
        | (go_at_call 6; refine (blank _ _).mono ?_; rintro e w' ⟨rfl, rfl⟩)
        | (go_at_call 7; refine (refBlank _ _).mono ?_; rintro e w' ⟨rfl, rfl⟩)
        | (go_at_call 8; refine (space _ _).mono ?_; rintro e w' ⟨rfl, rfl⟩)
        | (go_at_call 9; refine (refSpace _ _).mono ?_; rintro e w' ⟨rfl, rfl⟩)
        | (go_at_call 10; refine (digit _ _).mono ?_; rintro e w' ⟨rfl, rfl⟩)
        | (go_at_call 11; refine (refDigit _ _).mono ?_; rintro e w' ⟨rfl, rfl⟩)
        | (go_at_call 12; refine (letter _ _).mono ?_; rintro e w' ⟨rfl, rfl⟩)
        | (go_at_call 13; refine (refLetter _ _).mono ?_; rintro e w' ⟨rfl, rfl⟩))
      go_round
      case rel => exact ⟨k + 1, by omega, by go_num⟩
      case measure => simp [intOf]; omega
    · have hge : ¬ (k : Int) < 256 := by omega
      go_wp2_with (first
        | (go_at_call 15; refine (indexL _ _ w0 _ (by assumption) (by decide)).mono ?_; rintro e w' ⟨rfl, rfl⟩)
        | (go_at_call 14; refine (cutC _ _ _ w0 _ (by assumption) (by decide) (by omega) (by omega)).mono ?_; rintro e w' ⟨rfl, hL'⟩)
        | (go_at_call 16; refine (awake w0 _ (by assumption)).mono ?_; rintro e w' ⟨rfl, hL'⟩))
      go_ret
      exact ⟨rfl, hL'⟩
end Go.Proofs.Ytghdjhdnohooeaa.Oct
