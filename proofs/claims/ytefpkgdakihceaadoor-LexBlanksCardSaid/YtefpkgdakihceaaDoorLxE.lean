/-
  Package lex: which names are words; what a name is; where signs end.
-/
import Derived.Test.YtefpkgdakihceaaDoorLxD
namespace Go.Proofs.YtefpkgdakihceaaDoor.Lx
open Go.RowKit

def wordsL : List (List UInt8) := [[66, 69, 71, 73, 78], [69, 78, 68], [102, 117, 110, 99, 116, 105, 111, 110], [105, 102], [101, 108, 115, 101], [119, 104, 105, 108, 101], [102, 111, 114], [100, 111], [98, 114, 101, 97, 107], [99, 111, 110, 116, 105, 110, 117, 101], [110, 101, 120, 116], [101, 120, 105, 116], [114, 101, 116, 117, 114, 110], [100, 101, 108, 101, 116, 101], [105, 110], [112, 114, 105, 110, 116], [112, 114, 105, 110, 116, 102], [103, 101, 116, 108, 105, 110, 101], [108, 101, 110, 103, 116, 104], [115, 117, 98, 115, 116, 114], [105, 110, 100, 101, 120], [115, 112, 108, 105, 116], [115, 117, 98], [103, 115, 117, 98], [109, 97, 116, 99, 104], [115, 112, 114, 105, 110, 116, 102], [116, 111, 108, 111, 119, 101, 114], [116, 111, 117, 112, 112, 101, 114], [105, 110, 116], [115, 114, 97, 110, 100], [114, 97, 110, 100], [99, 108, 111, 115, 101], [115, 121, 115, 116, 101, 109]]
def twosL : List (List UInt8) := [[38, 38], [124, 124], [43, 43], [45, 45], [43, 61], [45, 61], [42, 61], [47, 61], [37, 61], [94, 61], [61, 61], [60, 61], [62, 61], [33, 61], [33, 126], [62, 62]]
def onesL : List UInt8 := [123, 125, 40, 41, 91, 93, 59, 44, 43, 45, 42, 47, 37, 94, 33, 62, 60, 124, 63, 58, 126, 36, 61]
def isWordB (s : ByteArray) : Bool := wordsL.contains s.toList
def twoB (s : ByteArray) : Bool := twosL.contains s.toList
set_option maxHeartbeats 6400000 in
theorem isWord (s : ByteArray) (w : World) :
    Calls Tryd.prog 49 #[.string s] w fun e w' => e = .returned (.bool (isWordB s)) ∧ w = w' := by
  go_enter Tryd.func49, Tryd.ntmps49
  go_wp2_with fail
  all_goals go_ret
  all_goals exact ⟨ret_bool (by first | (simp only [isWordB, wordsL, List.contains_cons, List.contains_nil, Bool.or_false, Bool.or_true, Bool.true_or, *]; done) | simp_all), rfl⟩

/- What a name is. -/
def kindN (s : ByteArray) (a b : Nat) : Int := if isWordB (s.extract a b) = true then 6 else if bAt s b = 40 then 5 else 4
set_option maxHeartbeats 1600000 in
theorem nameKind (s : ByteArray) (a b : Nat) (w : World) (ha : a ≤ b) (hb : b ≤ s.size) :
    Calls Tryd.prog 26 #[.string s, .int .i64 a, .int .i64 b] w fun e w' => e = .returned (.int .u8 (kindN s a b)) ∧ w = w' := by
  by_cases c1 : isWordB (s.extract a b) = true
  · have HE := Lib.hid (show kindN s a b = 6 by unfold kindN; rw [if_pos c1])
    go_enter Tryd.func26, Tryd.ntmps26
    go_wp2_with (first
      | (go_at_call 49; (with_reducible refine (isWord _ _).mono ?_); rintro e w' ⟨rfl, rfl⟩)
      | (go_at_call 19; (with_reducible refine (pre1 s _ _ (by decide) _).mono ?_); rintro e w' ⟨rfl, rfl⟩))
    go_ret
    exact ⟨ret_int (by rw [HE.out]), rfl⟩
  · have c1' := Bool.eq_false_iff.mpr c1
    by_cases c2 : bAt s b = 40
    · have HE := Lib.hid (show kindN s a b = 5 by unfold kindN; rw [if_neg c1, if_pos c2])
      have c2' : preB s b 40 = true := preB_yes c2
      clear c1 c2
      go_enter Tryd.func26, Tryd.ntmps26
      go_wp2_with (first
        | (go_at_call 49; (with_reducible refine (isWord _ _).mono ?_); rintro e w' ⟨rfl, rfl⟩)
        | (go_at_call 19; (with_reducible refine (pre1 s _ _ (by decide) _).mono ?_); rintro e w' ⟨rfl, rfl⟩))
      go_ret
      exact ⟨ret_int (by rw [HE.out]), rfl⟩
    · have HE := Lib.hid (show kindN s a b = 4 by unfold kindN; rw [if_neg c1, if_neg c2])
      have c2' : preB s b 40 = false := preB_no c2
      clear c1 c2
      go_enter Tryd.func26, Tryd.ntmps26
      go_wp2_with (first
        | (go_at_call 49; (with_reducible refine (isWord _ _).mono ?_); rintro e w' ⟨rfl, rfl⟩)
        | (go_at_call 19; (with_reducible refine (pre1 s _ _ (by decide) _).mono ?_); rintro e w' ⟨rfl, rfl⟩))
      go_ret
      exact ⟨ret_int (by rw [HE.out]), rfl⟩

/- Where a sign ends. -/
def twoAt (s : ByteArray) (k : Nat) : Bool := twoB (s.extract k (min (k + 2) s.size))
def signE (s : ByteArray) (k : Nat) : Nat := if twoAt s k = true then k + 2 else oneE onesL s k
set_option maxHeartbeats 6400000 in
theorem sign (s : ByteArray) (k : Nat) (x : Int) (hx : x = (k : Int)) (w : World) (hk : k ≤ s.size) (hs : s.size ≤ 65536) :
    Calls Tryd.prog 27 #[.string s, .int .i64 x] w fun e w' => e = .returned (.int .i64 (signE s k)) ∧ w = w' := by
  subst hx
  have HT : Hid (twoAt s k = twoB (s.extract k (min (k + 2) s.size))) := rfl
  obtain ⟨n, hn⟩ : ∃ n : Nat, n = min (k + 2) s.size := ⟨_, rfl⟩
  have hm : min ((k : Int) + 2) (s.size : Int) = (n : Int) := by omega
  have n0 : k ≤ n := by omega
  have n1 : n ≤ s.size := by omega
  rw [← hn] at HT
  have HE : Hid (signE s k = if twoAt s k = true then k + 2 else oneE onesL s k) := rfl
  clear hn
  go_enter Tryd.func27, Tryd.ntmps27
  go_wp2_with (first
    | (go_at_call 50; (with_reducible refine (one_of' s _ k _ rfl _ (by omega) _ (by omega)).mono ?_); rintro e w' ⟨rfl, rfl⟩))
  all_goals go_ret
  all_goals exact ⟨ret_int (by
    first
    | (have hT : twoAt s k = true := by rw [HT.out]; simp only [twoB, twosL, List.contains_cons, List.contains_nil, Bool.or_false, Bool.or_true, Bool.true_or, *]
       rw [HE.out, if_pos hT]; omega)
    | (have hT : twoAt s k = false := by rw [HT.out]; simp only [twoB, twosL, List.contains_cons, List.contains_nil, Bool.or_false, Bool.or_true, Bool.true_or, *]
       rw [HE.out, if_neg (by rw [hT]; decide)]; rfl)
    | simp_all), rfl⟩
end Go.Proofs.YtefpkgdakihceaaDoor.Lx
