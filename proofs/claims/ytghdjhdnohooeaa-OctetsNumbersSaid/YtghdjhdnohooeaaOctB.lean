/-
  octets.Index, octets.Cut: what they answer, for all texts (Index: texts of fewer than 4294967281 bytes), places and counts.
-/
import Derived.Test.YtghdjhdnohooeaaOctA
import Derived.Test.YtghdjhdnohooeaaShelf
import Derived.ChangeAgain
namespace Go.Proofs.Ytghdjhdnohooeaa.Oct
open Go.RowKit

def idxI (s t : ByteArray) : Int := if t.data.toList = [] then 0 else Lib.index s.data.toList t.data.toList + 1
def cutL (l : List UInt8) (from_ n : Int) : List UInt8 := (l.take (from_ + n - 1).toNat).drop (from_ - 1).toNat
def cutB (s : ByteArray) (from_ n : Int) : ByteArray := ⟨(cutL s.data.toList from_ n).toArray⟩

theorem index (s t : ByteArray) (w : World) (hsh : w.ShapedOpen Try.prog) (hs : s.size < 4294967281) :
    Calls Try.prog 15 #[.string s, .string t] w fun e w' => e = .returned (.int .i64 (idxI s t)) ∧ w = w' := by
  have hle : Lib.index s.data.toList t.data.toList ≤ s.size := by rw [Lib.size_eq]; exact Lib.index_le _ _
  have hge := Lib.index_ge s.data.toList t.data.toList
  by_cases ht : t.data.toList = []
  · have h2 : t = ⟨#[]⟩ := by
      apply ByteArray.ext
      simpa using ht
    subst h2
    go_enter Try.func15, Try.ntmps15
    go_wp2_with fail
    go_ret
    exact ⟨ret_int rfl, rfl⟩
  · have h3 : t.toList.isEmpty = false := by
      rw [Lib.toList_data]; simpa using ht
    have H := Lib.hid ht
    clear ht
    go_enter Try.func15, Try.ntmps15
    go_wp2_with (go_at_call 28; refine (Try.strings_Index_shaped _ _ _ hsh hs).mono ?_; rintro e w' ⟨rfl, rfl⟩)
    go_ret
    exact ⟨ret_int (by unfold idxI; rw [if_neg H.out]), rfl⟩
theorem ret_str {a b : ByteArray} (h : a = b) : Ending.returned (.string a) = .returned (.string b) := by rw [h]
theorem cutB_none (s : ByteArray) (f n : Int) (h : n ≤ 0) : (⟨#[]⟩ : ByteArray) = cutB s f n := by
  unfold cutB cutL
  rw [List.drop_eq_nil_of_le (by simp; omega)]
theorem cutB_past (s : ByteArray) (f n : Int) (h : (s.size : Int) < f) : (⟨#[]⟩ : ByteArray) = cutB s f n := by
  unfold cutB cutL
  have := Lib.size_eq s
  rw [List.drop_eq_nil_of_le (by simp only [List.length_take]; omega)]
theorem ext_le {s : ByteArray} (hs : s.size ≤ 281474976710656) (a b : Nat) : (s.extract a b).size ≤ 281474976710656 := by
  rw [ByteArray.size_extract]; omega
theorem cutB_ext (s : ByteArray) (f n : Int) (a b : Nat) (h : a = (f - 1).toNat ∨ (b ≤ a ∧ (f + n - 1).toNat ≤ (f - 1).toNat)) (h2 : b = (f + n - 1).toNat ∨ (s.size ≤ b ∧ s.size ≤ (f + n - 1).toNat) ∨ (b ≤ a ∧ (f + n - 1).toNat ≤ (f - 1).toNat)) : s.extract a b = cutB s f n := by
  have hz := Lib.size_eq s
  rw [Lib.extract_eq]
  unfold cutB cutL
  rw [List.drop_take]
  congr 2
  by_cases hn : b ≤ a ∧ (f + n - 1).toNat ≤ (f - 1).toNat
  · rw [show b - a = 0 by omega, show (f + n - 1).toNat - (f - 1).toNat = 0 by omega]
    simp
  · obtain rfl : a = (f - 1).toNat := by omega
    by_cases hb : b = (f + n - 1).toNat
    · rw [hb]
    · rw [List.take_of_length_le (by rw [List.length_drop]; omega), List.take_of_length_le (by rw [List.length_drop]; omega)]
theorem cutB_empty (s : ByteArray) (f n : Int) (h : f + n ≤ 1) : ByteArray.empty = cutB s f n := by
  unfold cutB cutL
  rw [show (f + n - 1).toNat = 0 by omega]
  simp only [List.take_zero, List.drop_nil]
  rfl
theorem cutB_all (s : ByteArray) (f n : Int) (h : f ≤ 1) (h2 : (s.size : Int) ≤ f + n - 1) : s = cutB s f n := by
  have hz := Lib.size_eq s
  unfold cutB cutL
  rw [show (f - 1).toNat = 0 by omega, List.take_of_length_le (by omega), List.drop_zero]
theorem clone (s : ByteArray) (w : World) (hlim : s.size ≤ 281474976710656) :
    Calls Try.prog 27 #[.string s] w fun e w' => e = .returned (.string s) ∧ Below w.heap.size w w' := by
  go_enter Try.func27, Try.ntmps27
  go_wp2_with (go_at_call 32; refine (Try.stringslite_Clone _ _ hlim).mono ?_; rintro e w' ⟨rfl, hb⟩)
  go_ret
  exact ⟨rfl, hb⟩
set_option maxHeartbeats 1600000 in
theorem cut (s : ByteArray) (f n : Int) (w : World) (hs : s.size ≤ 281474976710656) (hf : -9223372036854775808 ≤ f ∧ f ≤ 9223372036854775807) (hn : -9223372036854775808 ≤ n ∧ n ≤ 9223372036854775807) :
    Calls Try.prog 14 #[.string s, .int .i64 f, .int .i64 n] w fun e w' => e = .returned (.string (cutB s f n)) ∧ Below w.heap.size w w' := by
  obtain ⟨f0, f1⟩ := hf
  obtain ⟨n0, n1⟩ := hn
  by_cases c1 : n < 1
  · go_enter Try.func14, Try.ntmps14
    go_wp2_with fail
    go_ret
    exact ⟨ret_str (cutB_none s f n (by omega)), Below.refl _ _⟩
  by_cases c2 : (s.size : Int) < f
  · have c1' : 1 ≤ n := by omega
    go_enter Try.func14, Try.ntmps14
    go_wp2_with fail
    go_ret
    exact ⟨ret_str (cutB_past s f n c2), Below.refl _ _⟩
  have c1' : 1 ≤ n := by omega
  have c2' : f ≤ (s.size : Int) := by omega
  clear c1 c2
  by_cases c3 : f < 1
  · have c3' : f ≤ 0 := by omega
    have g1 : -9223372036854775808 ≤ n - 1 + f := by omega
    clear c3
    by_cases c4 : n - 1 + f ≤ 0
    · have hmin : min (n - 1 + f) (s.size : Int) = n - 1 + f := by omega
      have hmax : max 0 (n - 1 + f) = 0 := by omega
      go_enter Try.func14, Try.ntmps14
      go_wp2_with (go_at_call 27; refine (clone _ _ (by first | with_reducible exact ext_le hs _ _ | with_reducible exact hs | simp)).mono ?_; rintro e w' ⟨rfl, hb⟩)
      go_ret
      exact ⟨ret_str ((cutB_empty s f n (by omega))), hb⟩
    by_cases c5 : n - 1 + f ≤ (s.size : Int)
    · have hmin : min (n - 1 + f) (s.size : Int) = n - 1 + f := by omega
      have hmax : max 0 (n - 1 + f) = n - 1 + f := by omega
      go_enter Try.func14, Try.ntmps14
      go_wp2_with (go_at_call 27; refine (clone _ _ (by first | with_reducible exact ext_le hs _ _ | with_reducible exact hs | simp)).mono ?_; rintro e w' ⟨rfl, hb⟩)
      go_ret
      exact ⟨ret_str (cutB_ext s f n _ _ (by omega) (by omega)), hb⟩
    · have hmin : min (n - 1 + f) (s.size : Int) = s.size := by omega
      have hmax : max 0 (s.size : Int) = s.size := by omega
      go_enter Try.func14, Try.ntmps14
      go_wp2_with (go_at_call 27; refine (clone _ _ (by first | with_reducible exact ext_le hs _ _ | with_reducible exact hs | simp)).mono ?_; rintro e w' ⟨rfl, hb⟩)
      go_ret
      exact ⟨ret_str (cutB_all s f n (by omega) (by omega)), hb⟩
  · have c3' : 1 ≤ f := by omega
    clear c3
    by_cases c4 : n ≤ (s.size : Int) - f + 1
    · have hmin : min n ((s.size : Int) - f + 1) = n := by omega
      have hmax : max 0 n = n := by omega
      go_enter Try.func14, Try.ntmps14
      go_wp2_with (go_at_call 27; refine (clone _ _ (by first | with_reducible exact ext_le hs _ _ | with_reducible exact hs | simp)).mono ?_; rintro e w' ⟨rfl, hb⟩)
      go_ret
      exact ⟨ret_str (cutB_ext s f n _ _ (by omega) (by omega)), hb⟩
    · have hmin : min n ((s.size : Int) - f + 1) = (s.size : Int) - f + 1 := by omega
      have hmax : max 0 ((s.size : Int) - f + 1) = (s.size : Int) - f + 1 := by omega
      go_enter Try.func14, Try.ntmps14
      go_wp2_with (go_at_call 27; refine (clone _ _ (by first | with_reducible exact ext_le hs _ _ | with_reducible exact hs | simp)).mono ?_; rintro e w' ⟨rfl, hb⟩)
      go_ret
      exact ⟨ret_str (cutB_ext s f n _ _ (by omega) (by omega)), hb⟩
end Go.Proofs.Ytghdjhdnohooeaa.Oct
