/-
  The small functions of package octets and the document's own (winnowerref01): what each byte's class is, for every byte; Pick of package winnowerlow.
-/
import Derived.Test.YtghdjhdnohooeaaRows
import Derived.WalkKit
import Derived.WalkSpells
import Derived.WalkLawsBesides
import Derived.Lib.Hide
namespace Go.Proofs.Ytghdjhdnohooeaa.Oct
open Go.RowKit

def blankI (x : Int) : Bool := decide (x = 32 ∨ x = 9)
def spaceI (x : Int) : Bool := decide (x = 32 ∨ (9 ≤ x ∧ x ≤ 13))
def digitI (x : Int) : Bool := decide (48 ≤ x ∧ x ≤ 57)
def capI (x : Int) : Bool := decide (65 ≤ x ∧ x ≤ 90)
def smallI (x : Int) : Bool := decide (97 ≤ x ∧ x ≤ 122)
def letterI (x : Int) : Bool := decide ((65 ≤ x ∧ x ≤ 90) ∨ (97 ≤ x ∧ x ≤ 122))

theorem ret_bool {a b : Bool} (h : a = b) : Ending.returned (.bool a) = .returned (.bool b) := by rw [h]

theorem blank (x : Int) (w : World) :
    Calls Try.prog 6 #[.int .u8 x] w fun e w' => e = .returned (.bool (blankI x)) ∧ w = w' := by
  go_enter Try.func6, Try.ntmps6
  go_wp2
  all_goals go_ret
  all_goals exact ⟨ret_bool (by unfold blankI; rw [Bool.eq_iff_iff]; simp; try omega), rfl⟩
theorem refBlank (x : Int) (w : World) :
    Calls Try.prog 7 #[.int .u8 x] w fun e w' => e = .returned (.bool (blankI x)) ∧ w = w' := by
  go_enter Try.func7, Try.ntmps7
  go_wp2
  all_goals go_ret
  all_goals exact ⟨ret_bool (by unfold blankI; rw [Bool.eq_iff_iff]; simp; try omega), rfl⟩
def withinI (x a b : Int) : Bool := decide (a ≤ x ∧ x ≤ b)
theorem within (x a b : Int) (w : World) :
    Calls Try.prog 24 #[.int .u8 x, .int .u8 a, .int .u8 b] w fun e w' => e = .returned (.bool (withinI x a b)) ∧ w = w' := by
  go_enter Try.func24, Try.ntmps24
  go_wp2
  all_goals go_ret
  all_goals exact ⟨ret_bool (by unfold withinI; rw [Bool.eq_iff_iff]; simp; try omega), rfl⟩
theorem space (x : Int) (w : World) :
    Calls Try.prog 8 #[.int .u8 x] w fun e w' => e = .returned (.bool (spaceI x)) ∧ w = w' := by
  go_enter Try.func8, Try.ntmps8
  go_wp2_with (go_at_call 24; refine (within _ _ _ _).mono ?_; rintro e w' ⟨rfl, rfl⟩)
  all_goals go_ret
  all_goals exact ⟨ret_bool (by simp only [spaceI, withinI]; rw [Bool.eq_iff_iff]; simp; try omega), rfl⟩
theorem refSpace (x : Int) (w : World) :
    Calls Try.prog 9 #[.int .u8 x] w fun e w' => e = .returned (.bool (spaceI x)) ∧ w = w' := by
  go_enter Try.func9, Try.ntmps9
  go_wp2
  all_goals go_ret
  all_goals exact ⟨ret_bool (by unfold spaceI; rw [Bool.eq_iff_iff]; simp; try omega), rfl⟩
theorem digit (x : Int) (w : World) :
    Calls Try.prog 10 #[.int .u8 x] w fun e w' => e = .returned (.bool (digitI x)) ∧ w = w' := by
  go_enter Try.func10, Try.ntmps10
  go_wp2_with (go_at_call 24; refine (within _ _ _ _).mono ?_; rintro e w' ⟨rfl, rfl⟩)
  all_goals go_ret
  all_goals exact ⟨rfl, rfl⟩
theorem refDigit (x : Int) (w : World) :
    Calls Try.prog 11 #[.int .u8 x] w fun e w' => e = .returned (.bool (digitI x)) ∧ w = w' := by
  go_enter Try.func11, Try.ntmps11
  go_wp2
  all_goals go_ret
  all_goals exact ⟨ret_bool (by unfold digitI; rw [Bool.eq_iff_iff]; simp; try omega), rfl⟩
theorem capital (x : Int) (w : World) :
    Calls Try.prog 25 #[.int .u8 x] w fun e w' => e = .returned (.bool (capI x)) ∧ w = w' := by
  go_enter Try.func25, Try.ntmps25
  go_wp2_with (go_at_call 24; refine (within _ _ _ _).mono ?_; rintro e w' ⟨rfl, rfl⟩)
  all_goals go_ret
  all_goals exact ⟨rfl, rfl⟩
theorem small (x : Int) (w : World) :
    Calls Try.prog 26 #[.int .u8 x] w fun e w' => e = .returned (.bool (smallI x)) ∧ w = w' := by
  go_enter Try.func26, Try.ntmps26
  go_wp2_with (go_at_call 24; refine (within _ _ _ _).mono ?_; rintro e w' ⟨rfl, rfl⟩)
  all_goals go_ret
  all_goals exact ⟨rfl, rfl⟩
theorem letter (x : Int) (w : World) :
    Calls Try.prog 12 #[.int .u8 x] w fun e w' => e = .returned (.bool (letterI x)) ∧ w = w' := by
  go_enter Try.func12, Try.ntmps12
  go_wp2_with (first
    | (go_at_call 25; refine (capital _ _).mono ?_; rintro e w' ⟨rfl, rfl⟩)
    | (go_at_call 26; refine (small _ _).mono ?_; rintro e w' ⟨rfl, rfl⟩))
  all_goals go_ret
  all_goals exact ⟨ret_bool (by simp_all only [letterI, capI, smallI]; rw [Bool.eq_iff_iff]; simp_all; try omega), rfl⟩
theorem refLetter (x : Int) (w : World) :
    Calls Try.prog 13 #[.int .u8 x] w fun e w' => e = .returned (.bool (letterI x)) ∧ w = w' := by
  go_enter Try.func13, Try.ntmps13
  go_wp2
  all_goals go_ret
  all_goals exact ⟨ret_bool (by unfold letterI; rw [Bool.eq_iff_iff]; simp; try omega), rfl⟩

/- The letters' turning, of one byte. -/
def lowI (x : Int) : Int := if 65 ≤ x ∧ x ≤ 90 then x + 32 else x
def upI (x : Int) : Int := if 97 ≤ x ∧ x ≤ 122 then x - 32 else x
theorem ret_int {k : IntKind} {a b : Int} (h : a = b) : Ending.returned (.int k a) = .returned (.int k b) := by rw [h]
theorem low1 (x : Int) (w : World) (h0 : 0 ≤ x) (h1 : x ≤ 255) :
    Calls Try.prog 30 #[.int .u8 x] w fun e w' => e = .returned (.int .u8 (lowI x)) ∧ w = w' := by
  by_cases hc : 65 ≤ x ∧ x ≤ 90
  · have hb : capI x = true := by unfold capI; simpa using hc
    obtain ⟨c1, c2⟩ := hc
    go_enter Try.func30, Try.ntmps30
    go_wp2_with (go_at_call 25; refine (capital _ _).mono ?_; rintro e w' ⟨rfl, rfl⟩)
    all_goals go_ret
    all_goals exact ⟨ret_int (by unfold lowI; rw [if_pos ⟨c1, c2⟩]), rfl⟩
  · have hb : capI x = false := by unfold capI; simpa using hc
    have H := Lib.hid hc
    clear hc
    go_enter Try.func30, Try.ntmps30
    go_wp2_with (go_at_call 25; refine (capital _ _).mono ?_; rintro e w' ⟨rfl, rfl⟩)
    all_goals go_ret
    all_goals exact ⟨ret_int (by unfold lowI; rw [if_neg H.out]), rfl⟩
theorem up1 (x : Int) (w : World) (h0 : 0 ≤ x) (h1 : x ≤ 255) :
    Calls Try.prog 31 #[.int .u8 x] w fun e w' => e = .returned (.int .u8 (upI x)) ∧ w = w' := by
  by_cases hc : 97 ≤ x ∧ x ≤ 122
  · have hb : smallI x = true := by unfold smallI; simpa using hc
    obtain ⟨c1, c2⟩ := hc
    go_enter Try.func31, Try.ntmps31
    go_wp2_with (go_at_call 26; refine (small _ _).mono ?_; rintro e w' ⟨rfl, rfl⟩)
    all_goals go_ret
    all_goals exact ⟨ret_int (by unfold upI; rw [if_pos ⟨c1, c2⟩]), rfl⟩
  · have hb : smallI x = false := by unfold smallI; simpa using hc
    have H := Lib.hid hc
    clear hc
    go_enter Try.func31, Try.ntmps31
    go_wp2_with (go_at_call 26; refine (small _ _).mono ?_; rintro e w' ⟨rfl, rfl⟩)
    all_goals go_ret
    all_goals exact ⟨ret_int (by unfold upI; rw [if_neg H.out]), rfl⟩

/- winnowerlow.Pick at a count above nought. -/
theorem pick (x n : Int) (w : World) (hx : -9223372036854775808 ≤ x ∧ x ≤ 9223372036854775807) (hn : 0 < n) (hn' : n ≤ 100000) :
    Calls Try.prog 23 #[.int .i64 x, .int .i64 n] w fun e w' => (∃ m : Int, 0 ≤ m ∧ m < n ∧ e = .returned (.int .i64 m)) ∧ w = w' := by
  obtain ⟨x0, x1⟩ := hx
  have hb := Int.tmod_lt_of_pos x hn
  have hb2 : -n < x.tmod n := by
    have := Int.lt_tmod_of_pos x hn
    omega
  go_enter Try.func23, Try.ntmps23
  go_wp2
  all_goals go_ret
  all_goals exact ⟨⟨_, by omega, by omega, rfl⟩, rfl⟩
end Go.Proofs.Ytghdjhdnohooeaa.Oct
